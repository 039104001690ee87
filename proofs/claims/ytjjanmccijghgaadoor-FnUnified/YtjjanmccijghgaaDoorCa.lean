/-
  The draws: a cursor over the bytes of a code. Conditions: written at each theorem.
-/
import Derived.Test.YtjjanmccijghgaaDoorRows
import Derived.WalkKit
import Derived.ProofKit
import Derived.OpenShut
import Derived.ShutString
import Derived.Laws.OwnMore
import Derived.Laws.Bits128
import Derived.WalkSpells
import Derived.Deep.QuietTactic
import Derived.BigQuiet
namespace Go.Proofs.YtjjanmccijghgaaDoor
open Go.ChangeShapes Go.WideShapes Go.ChangeAt Go.RowKit
set_option linter.unusedVariables false

theorem wrapI (n : Int) (h : -9223372036854775808 ≤ n ∧ n ≤ 9223372036854775807) : IntKind.i64.wrap n = n := by rw [IntKind.wrap_i64]; omega

/-- What is known of a slice of bytes that came in. -/
def IsRow (w : World) (a : Option Addr) (len cap : Nat) (zs : List Int) : Prop :=
  (a = none ∧ len = 0 ∧ cap = 0 ∧ zs = []) ∨
  ∃ x, a = some x ∧ len ≤ cap ∧ cap ≤ maxLen ∧ zs.length = cap ∧ (∀ i, i < zs.length → w.cell? (x.add i) = some (.int .u8 (zs.getD i 0))) ∧ ∀ n ∈ zs, (Lit.int .u8 n).wf = true

/-- The cursor lies in block B: its bytes, its place, its number. -/
structure Cur (w : World) (B : Nat) (a : Option Addr) (len cap : Nat) (i : Nat) (h : Int) : Prop where
  c0 : w.cell? ⟨B, 0, none⟩ = some (.slice a len cap)
  c1 : w.cell? ⟨B, 1, none⟩ = some (.int .i64 i)
  c2 : w.cell? ⟨B, 2, none⟩ = some (.int .i64 h)
  f1 : w.frozen? ⟨B, 1, none⟩ = false
  f2 : w.frozen? ⟨B, 2, none⟩ = false

def stepH (h : Int) : Int := wrap64 (wrap64 (h * 6364136223846793005) + 1442695040888963407)
def mixH (h : Int) : Int := bits .and .i64 (bits .xor .i64 (h / 8589934592) (h / 35184372088832)) 255

theorem and255 (n : Int) : bits .and .i64 n 255 = n % 256 := by
  have h255 : (BitVec.ofInt 64 255).toNat = 2 ^ 8 - 1 := by decide
  have key : (BitVec.ofInt 64 n &&& BitVec.ofInt 64 255).toNat = (n % ((2 ^ 64 : Nat) : Int)).toNat % 2 ^ 8 := by
    rw [BitVec.toNat_and, BitVec.toNat_ofInt, h255, Nat.and_two_pow_sub_one_eq_mod]
  show IntKind.i64.wrap ((BitVec.ofInt 64 n &&& BitVec.ofInt 64 255).toNat : Nat) = n % 256
  rw [key, IntKind.wrap_i64]
  omega

theorem mix_range (h : Int) : 0 ≤ mixH h ∧ mixH h ≤ 255 := by
  unfold mixH
  rw [and255]
  omega

/-- The byte that is drawn, and the place behind it. -/
def byteV (zs : List Int) (len i : Nat) (h : Int) : Int := if i < len then (mixH (stepH h) + zs.getD i 0) % 256 else mixH (stepH h)
def nextI (len i : Nat) : Nat := if i < len then i + 1 else i

theorem byteV_range (zs : List Int) (len i : Nat) (h : Int) : 0 ≤ byteV zs len i h ∧ byteV zs len i h ≤ 255 := by
  have := mix_range (stepH h)
  unfold byteV
  split <;> omega

/-- Of the blocks that were there, none but block B has turned. -/
structure Only (B : Nat) (w w' : World) : Prop where
  os : w'.os = w.os
  tape : w'.tape = w.tape
  output : w'.output = w.output
  size : w.heap.size ≤ w'.heap.size
  block : ∀ k, k < w.heap.size → k ≠ B → w'.heap[k]? = w.heap[k]?

theorem Only.refl (B : Nat) (w : World) : Only B w w := ⟨rfl, rfl, rfl, Nat.le_refl _, fun _ _ _ => rfl⟩
theorem Only.trans {B : Nat} {a b c : World} (h : Only B a b) (k : Only B b c) : Only B a c :=
  ⟨k.os.trans h.os, k.tape.trans h.tape, k.output.trans h.output, Nat.le_trans h.size k.size, fun i hi hB => (k.block i (Nat.lt_of_lt_of_le hi h.size) hB).trans (h.block i hi hB)⟩
theorem Only.drewN {B : Nat} {a w : World} (h : Only B a w) (n : Nat) : Only B a (w.drewN n) := ⟨h.os, h.tape, h.output, h.size, h.block⟩
theorem Only.drew {B : Nat} {a w : World} (h : Only B a w) : Only B a w.drew := ⟨h.os, h.tape, h.output, h.size, h.block⟩
theorem Only.set {B : Nat} {a w : World} (h : Only B a w) (k : Nat) (v : Value) : Only B a (w.setCell ⟨B, k, none⟩ v) := by
  have hb : Below 0 w (w.setCell ⟨B, k, none⟩ v) := (Below.refl _ _).setCell (Nat.zero_le _) v
  exact ⟨hb.os.trans h.os, hb.tape.trans h.tape, hb.output.trans h.output, Nat.le_trans h.size hb.size, fun i hi hB => (Below.heap_setCell w ⟨B, k, none⟩ v i hB).trans (h.block i hi hB)⟩
theorem Only.below {B : Nat} {w w' : World} (h : Only B w w') (hB : B ≤ w.heap.size) : Below B w w' :=
  ⟨h.os, h.tape, h.output, h.size, fun k hk => h.block k (Nat.lt_of_lt_of_le hk hB) (Nat.ne_of_lt hk)⟩
theorem Only.of_below {B : Nat} {w w' : World} (h : Below w.heap.size w w') : Only B w w' :=
  ⟨h.os, h.tape, h.output, h.size, fun k hk _ => h.block k hk⟩
theorem Only.cell {B : Nat} {w w' : World} (h : Only B w w') {p : Addr} (hp : p.block < w.heap.size) (hB : p.block ≠ B) : w'.cell? p = w.cell? p := World.cell?_of_block (w := w) (h.block p.block hp hB)

theorem cur_drewN {w : World} {B : Nat} {a : Option Addr} {len cap i : Nat} {h : Int} (hc : Cur w B a len cap i h) (n : Nat) : Cur (w.drewN n) B a len cap i h :=
  ⟨hc.c0, hc.c1, hc.c2, hc.f1, hc.f2⟩

theorem cur_set2 {w : World} {B : Nat} {a : Option Addr} {len cap i : Nat} {h : Int} (hc : Cur w B a len cap i h) (H : Int) : Cur (w.setCell ⟨B, 2, none⟩ (.int .i64 H)) B a len cap i H :=
  ⟨by rw [World.cell?_setCell_other _ _ _ _ (by simp)]; exact hc.c0, by rw [World.cell?_setCell_other _ _ _ _ (by simp)]; exact hc.c1, World.cell?_setCell_same _ _ _ hc.c2,
    by rw [World.frozen?_setCell]; exact hc.f1, by rw [World.frozen?_setCell]; exact hc.f2⟩

theorem cur_set1 {w : World} {B : Nat} {a : Option Addr} {len cap i : Nat} {h : Int} (hc : Cur w B a len cap i h) (J : Int) (j : Nat) (hJ : J = j) : Cur (w.setCell ⟨B, 1, none⟩ (.int .i64 J)) B a len cap j h := by
  subst hJ
  exact ⟨by rw [World.cell?_setCell_other _ _ _ _ (by simp)]; exact hc.c0, World.cell?_setCell_same _ _ _ hc.c1, by rw [World.cell?_setCell_other _ _ _ _ (by simp)]; exact hc.c2,
    by rw [World.frozen?_setCell]; exact hc.f1, by rw [World.frozen?_setCell]; exact hc.f2⟩

theorem byte_end (a : Option Addr) (len cap B i : Nat) (h : Int) (w : World) (hc : Cur w B a len cap i h) (hi : ¬ (i < len)) :
    Calls Tryd.prog 38 #[.pointer (some ⟨B, 0, none⟩)] w fun e w' => e = .returned (.int .i64 (mixH (stepH h))) ∧ Cur w' B a len cap i (stepH h) ∧ Only B w w' := by
  have HC : Hid (Cur w B a len cap i h) := hc
  obtain ⟨c0, c1, c2, f1, f2⟩ := hc
  have hi' : ¬ ((i : Int) < len) := by omega
  have e1 : wrap64 (wrap64 (h * 6364136223846793005) + 1442695040888963407) = stepH h := rfl
  generalize stepH h = H at *
  have e2 : bits .and .i64 (bits .xor .i64 (H / 8589934592) (H / 35184372088832)) 255 = mixH H := rfl
  generalize mixH H = M at *
  go_enter Tryd.func38, Tryd.ntmps38
  go_wp2
  go_quiet (fail)
  go_wp2
  go_quiet (fail)
  go_wp2
  go_ret
  exact ⟨rfl, cur_drewN (cur_drewN (cur_set2 HC.out H) _) _, (((Only.refl _ _).set _ _).drewN _).drewN _⟩

theorem byte_in (zs : List Int) (x : Addr) (len cap B i : Nat) (h z : Int) (w : World) (hc : Cur w B (some x) len cap i h) (hi : i < len) (hl : len ≤ 1048576)
    (hz : w.cell? ⟨x.block, x.off + i, none⟩ = some (.int .u8 z)) (hx : x.spot = none) (hz0 : 0 ≤ z) (hz1 : z ≤ 255) (hxB : x.block < B) :
    Calls Tryd.prog 38 #[.pointer (some ⟨B, 0, none⟩)] w fun e w' => e = .returned (.int .i64 ((mixH (stepH h) + z) % 256)) ∧ Cur w' B (some x) len cap (i + 1) (stepH h) ∧ Only B w w' := by
  have HC : Hid (Cur w B (some x) len cap i h) := hc
  obtain ⟨c0, c1, c2, f1, f2⟩ := hc
  obtain ⟨xb, xo, xs⟩ := x
  simp only at hx hz hxB
  subst hx
  have hne : ¬ xb = B := by omega
  have hi' : (i : Int) < len := by omega
  have e1 : wrap64 (wrap64 (h * 6364136223846793005) + 1442695040888963407) = stepH h := rfl
  generalize stepH h = H at *
  have e2 : bits .and .i64 (bits .xor .i64 (H / 8589934592) (H / 35184372088832)) 255 = mixH H := rfl
  have hM := mix_range H
  generalize mixH H = M at *
  have e3 := and255 (M + z)
  have e4 : wrap64 z = z := IntWalk.wrap64_in _ (by omega)
  have e5 : wrap64 (M + z) = M + z := IntWalk.wrap64_in _ (by omega)
  have e6 : IntKind.i64.wrap z = z := wrapI _ (by omega)
  have e7 : IntKind.i64.wrap (M + z) = M + z := wrapI _ (by omega)
  go_enter Tryd.func38, Tryd.ntmps38
  go_wp2
  go_quiet (fail)
  go_wp2
  go_quiet (fail)
  go_wp2
  go_quiet (fail)
  go_wp2
  go_ret
  refine ⟨rfl, ?_, ?_⟩
  · exact cur_set1 (cur_drewN (cur_set2 HC.out H) _) _ _ (by omega)
  · repeat (first | exact Only.refl _ _ | apply Only.drewN | apply Only.set)

/-- A byte is drawn. -/
theorem byte_any (zs : List Int) (a : Option Addr) (len cap B i : Nat) (h : Int) (w : World) (hc : Cur w B a len cap i h) (hrow : IsRow w a len cap zs) (hl : len ≤ 1048576)
    (hB : ∀ x, a = some x → 0 < zs.length → x.block < B) :
    Calls Tryd.prog 38 #[.pointer (some ⟨B, 0, none⟩)] w fun e w' => e = .returned (.int .i64 (byteV zs len i h)) ∧ Cur w' B a len cap (nextI len i) (stepH h) ∧ Only B w w' := by
  by_cases hi : i < len
  · rcases hrow with ⟨_, rfl, _, _⟩ | ⟨x, rfl, h1, h2, h3, h4, h5⟩
    · omega
    · have hz := h4 i (by omega)
      have hspot : x.spot = none := by
        have h0 := World.cell?_spot (h4 0 (by omega))
        simpa [Addr.add] using h0
      have hmem : zs.getD i 0 ∈ zs := by
        have e : zs.getD i 0 = zs[i]'(by omega) := by simp [List.getD, List.getElem?_eq_getElem (show i < zs.length by omega)]
        rw [e]
        exact List.getElem_mem _
      have hw := h5 _ hmem
      have hr : 0 ≤ zs.getD i 0 ∧ zs.getD i 0 ≤ 255 := by simpa [Lit.wf, IntKind.min, IntKind.max, IntKind.signed, IntKind.bits] using hw
      have e1 : byteV zs len i h = (mixH (stepH h) + zs.getD i 0) % 256 := by rw [byteV, if_pos hi]
      have e2 : nextI len i = i + 1 := by rw [nextI, if_pos hi]
      rw [e1, e2]
      refine byte_in zs x len cap B i h _ w hc hi hl ?_ hspot hr.1 hr.2 (hB x rfl (by omega))
      obtain ⟨xb, xo, xs⟩ := x
      simp only at hspot
      subst hspot
      have e : (⟨xb, xo, none⟩ : Addr).add i = ⟨xb, xo + i, none⟩ := by unfold Addr.add; split <;> simp_all
      rw [e] at hz
      exact hz
  · have e1 : byteV zs len i h = mixH (stepH h) := by rw [byteV, if_neg hi]
    have e2 : nextI len i = i := by rw [nextI, if_neg hi]
    rw [e1, e2]
    exact byte_end a len cap B i h w hc hi
end Go.Proofs.YtjjanmccijghgaaDoor
