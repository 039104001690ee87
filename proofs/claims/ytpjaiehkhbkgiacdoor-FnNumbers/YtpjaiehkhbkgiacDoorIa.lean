/-
  Numbers as bytes: what Fixed, ReadFixed and Var make and read, the functions that landed. Conditions: written at each theorem.
-/
import Derived.Test.YtpjaiehkhbkgiacDoorRows
import Derived.WalkKit
import Derived.ProofKit
import Derived.OpenShut
import Derived.ShutString
import Derived.Laws.CopyOwn
import Derived.Laws.OwnMore
import Derived.Laws.Bits128
import Derived.WalkSpells
import Derived.Deep.RegionLaw
import Derived.Lib.Strings
namespace Go.Proofs.YtpjaiehkhbkgiacDoor
open Go.ChangeShapes Go.WideShapes Go.ChangeAt Go.RowKit
set_option linter.unusedVariables false

theorem or_join (i x y : Nat) (hx : x % 2 ^ i = 0) (hy : y < 2 ^ i) (hs : x + y < 9223372036854775808) :
    bits .or .i64 (x : Int) (y : Int) = ((x + y : Nat) : Int) := by
  show IntKind.i64.wrap ((BitVec.ofInt 64 (x : Int) ||| BitVec.ofInt 64 (y : Int)).toNat : Int) = _
  rw [BitVec.toNat_or, ofInt_u64 x (by omega), ofInt_u64 y (by omega), nat_join i x y hx hy, IntKind.wrap_i64]
  omega

theorem wrap64_nat (n : Nat) (h : n < 9223372036854775808) : wrap64 (n : Int) = (n : Int) :=
  IntWalk.wrap64_in _ (by omega)

def byteAt (s : ByteArray) (k : Nat) : Nat := if h : k < s.size then s[k].toNat else 0

theorem byteAt_in {s : ByteArray} {k : Nat} (h : k < s.size) : byteAt s k = s[k].toNat := by simp [byteAt, h]

theorem byteAt_lt (s : ByteArray) (k : Nat) : byteAt s k < 256 := by
  unfold byteAt
  split
  · exact UInt8.toNat_lt _
  · omega

def rd (s : ByteArray) : Nat → Nat
  | 0 => 0
  | k + 1 => rd s k * 256 + byteAt s k

theorem rd_lt (s : ByteArray) : ∀ k, rd s k < 256 ^ k
  | 0 => by simp [rd]
  | k + 1 => by
    have h := rd_lt s k
    have hb := byteAt_lt s k
    simp only [rd, Nat.pow_succ]
    omega

theorem rd_lt48 (s : ByteArray) {k : Nat} (h : k ≤ 6) : rd s k < 281474976710656 :=
  Nat.lt_of_lt_of_le (rd_lt s k) (Nat.pow_le_pow_right (by omega) h)

theorem wrap64_byte (b : UInt8) : wrap64 (b.toNat : Int) = (b.toNat : Int) :=
  wrap64_nat _ (by have := b.toNat_lt; omega)

theorem or_byte (n : Nat) (b : UInt8) (h : n < 36028797018963968) : bits .or .i64 ((n : Int) * 256) (b.toNat : Int) = ((n * 256 + b.toNat : Nat) : Int) := by
  have := b.toNat_lt
  have e : ((n : Int) * 256) = ((n * 256 : Nat) : Int) := by omega
  rw [e, or_join 8 (n * 256) b.toNat (by omega) (by omega) (by omega)]

theorem in_yes (x lo hi : Int) (h1 : lo ≤ x) (h2 : x ≤ hi) (w : World) :
    Calls Tryd.prog 32 #[.int .i64 x, .int .i64 lo, .int .i64 hi] w fun e w' => e = .returned (.bool true) ∧ w = w' := by
  go_enter Tryd.func32, Tryd.ntmps32
  go_wp2
  go_ret
  exact ⟨rfl, rfl⟩

theorem in_no (x lo hi : Int) (h : x < lo ∨ hi < x) (w : World) :
    Calls Tryd.prog 32 #[.int .i64 x, .int .i64 lo, .int .i64 hi] w fun e w' => e = .returned (.bool false) ∧ w = w' := by
  by_cases h1 : x < lo
  · go_enter Tryd.func32, Tryd.ntmps32
    go_wp2
    go_ret
    exact ⟨rfl, rfl⟩
  · have h2 : hi < x := by omega
    have e : Ending.returned (Value.bool (decide (x ≤ hi))) = Ending.returned (Value.bool false) := by rw [decide_eq_false (by omega)]
    go_enter Tryd.func32, Tryd.ntmps32
    go_wp2
    go_ret
    exact ⟨e, rfl⟩

theorem impl_rf (s : ByteArray) (wd : Int) (h1 : 1 ≤ wd) (h7 : wd ≤ 7) (hl : wd ≤ s.size) (hs : s.size ≤ maxLen) (w : World) :
    Calls Tryd.prog 10 #[.string s, .int .i64 wd] w fun e w' => e = .returned (.tuple #[.int .i64 (rd s wd.toNat : Nat), .bool true]) ∧ w' = w := by
  go_enter Tryd.func10, Tryd.ntmps10
  go_wp2
  go_loop [6, 7] (fun n i => ∃ k : Nat, (k : Int) ≤ wd ∧ i = .int .i64 k ∧ n = .int .i64 (rd s k : Nat)) (fun _ i => 8 - (intOf i).toNat)
  case atStart => exact ⟨0, by omega, rfl, rfl⟩
  case round =>
    obtain ⟨k, hk, rfl, rfl⟩ := hrel
    have hb : (k : Int) < wd → (rd s k : Int) < 281474976710656 := fun h => by have := rd_lt48 s (k := k) (by omega); omega
    go_wp2
    · have hlt : (k : Int) < wd := by assumption
      have hks : k < s.size := by assumption
      go_round
      case rel =>
        have h3 := hb hlt
        refine ⟨k + 1, by omega, by go_num, ?_⟩
        rw [wrap64_byte, or_byte _ _ (by omega)]
        simp [rd, byteAt_in hks]
      case measure => simp [intOf]; omega
    · have hge : wd ≤ (k : Int) := by assumption
      have hkw : wd.toNat = k := by omega
      rw [hkw]
      go_ret2
      exact ⟨rfl, rfl⟩

theorem impl_rf_no (s : ByteArray) (wd : Int) (h : wd < 1 ∨ 7 < wd ∨ (s.size : Int) < wd) (w : World) :
    Calls Tryd.prog 10 #[.string s, .int .i64 wd] w fun e w' => e = .returned (.tuple #[.int .i64 0, .bool false]) ∧ w' = w := by
  by_cases h1 : wd < 1
  · go_enter Tryd.func10, Tryd.ntmps10
    go_wp2
    go_ret2
    exact ⟨rfl, rfl⟩
  · by_cases h3 : 7 < wd
    · go_enter Tryd.func10, Tryd.ntmps10
      go_wp2
      go_ret2
      exact ⟨rfl, rfl⟩
    · have h2 : (s.size : Int) < wd := by omega
      go_enter Tryd.func10, Tryd.ntmps10
      go_wp2
      go_ret2
      exact ⟨rfl, rfl⟩

theorem info5 : (Tryd.prog.info? 5).map (·.size) = some 1 := by kernel_rfl

theorem put_any (g n c k m b B : Nat) (cur cs : List Value) (w w0 : World) (hg : w.heap[g]? = some (.cells cur.toArray 5 (0, 0))) (hm : cs.length = m)
    (hsrc : ∀ j v, cs[j]? = some v → w.cell? ⟨b, j, none⟩ = some v) (hpos : 0 < m) (hfit : k + m ≤ n) (hn : n ≤ cur.length) (hc : n ≤ c) (hmax : n ≤ maxLen)
    (h1 : ∀ v ∈ cs, v.oneCell' = true) (hb : Below B w0 w) (hBg : B ≤ g) :
    Calls Tryd.prog 19 #[.slice (some ⟨g, 0, none⟩) n c, .int .i64 (k : Nat), .slice (some ⟨b, 0, none⟩) m m] w fun e w' =>
      e = .returned (.int .i64 (k + m : Nat)) ∧ w'.heap[g]? = some (.cells (splice cur k cs).toArray 5 (0, 0)) ∧ Below B w0 w' := by
  unfold maxLen at hmax
  have hg' : Hid (w.heap[g]? = some (.cells cur.toArray 5 (0, 0))) := hg
  have hsrc' : Hid (∀ j v, cs[j]? = some v → w.cell? ⟨b, j, none⟩ = some v) := hsrc
  have hm' : Hid (cs.length = m) := hm
  have h1' : Hid (∀ v ∈ cs, v.oneCell' = true) := h1
  have hb' : Hid (Below B w0 w) := hb
  clear hg hsrc hm h1 hb
  go_enter Tryd.func19, Tryd.ntmps19
  go_wp2_with (refine wpList_copy_splice rfl (.tmp 10) (.tmp 11) 22 22 rfl 5 Tryd.underlying22 info5 _ _ _ _ _ _ rfl rfl g k cur 5 hg'.out cs ?c1 ?c2 ?c3 h1'.out B w0 hb'.out hBg ?_)
  case c1 => rw [hm'.out]; exact (Nat.min_eq_left (by omega)).symm
  case c2 => intro _ j v hj; exact hsrc'.out j v hj
  case c3 => rw [hm'.out]; omega
  intro w' hg2 hb2
  rw [hm'.out]
  go_wp2
  go_ret
  exact ⟨by simp, hg2.out, hb2⟩

def dig (n j : Nat) : Nat := n / 256 ^ j % 256

def fxs (n k : Nat) : List UInt8 := (List.range k).map fun i => UInt8.ofNat (dig n (k - 1 - i))

def fx (n k : Nat) : ByteArray := ⟨(fxs n k).toArray⟩

def fxAns (n k : Nat) : ByteArray := if n / 256 ^ k = 0 then fx n k else ByteArray.empty

theorem fxs_succ (n k : Nat) : fxs n (k + 1) = UInt8.ofNat (dig n k) :: fxs n k := by
  apply List.ext_getElem?
  intro i
  cases i with
  | zero => simp [fxs]
  | succ i =>
    simp only [fxs, List.getElem?_cons_succ, List.getElem?_map]
    by_cases h : i < k
    · rw [List.getElem?_range (by omega), List.getElem?_range h]
      simp only [Option.map_some]
      rw [show k + 1 - 1 - (i + 1) = k - 1 - i by omega]
    · rw [List.getElem?_eq_none (by simp; omega), List.getElem?_eq_none (by simp; omega)]; rfl

theorem Tryd.info5 : (Tryd.prog.info? 5).map (fun i => (i.zero, i.size, i.bytes)) = some (some (.int .u8 0), 1, 1) := by kernel_rfl

theorem pow8 (k : Nat) : (2 : Int) ^ (8 * k) = ((256 ^ k : Nat) : Int) := by
  rw [Int.pow_mul]
  norm_cast

theorem shr8 (n k : Nat) : (n : Int) / 2 ^ (8 * k) = ((n / 256 ^ k : Nat) : Int) := by
  rw [pow8]; norm_cast

/-- What the room holds when k bytes have been laid. -/
def fxc (n wd k : Nat) : List Value := (List.range wd).map fun i => .int .u8 (if i < k then (dig n (wd - 1 - i) : Int) else 0)

theorem fxc_length (n wd k : Nat) : (fxc n wd k).length = wd := by simp [fxc]

theorem fxc_zero (n wd : Nat) : madeCells (Value.int .u8 0).cells (wd * 1) = (fxc n wd 0).toArray := by
  apply Array.ext
  · simp [madeCells, fxc]
  · intro i h1 h2
    have e : i % 1 = 0 := by omega
    simp [madeCells, fxc, Value.cells, e]

theorem fxc_step (n wd k : Nat) (h : k < wd) (x : Int) (hx : x = (dig n (wd - 1 - k) : Int)) : splice (fxc n wd k) k [.int .u8 x] = fxc n wd (k + 1) := by
  subst hx
  apply List.ext_getElem?
  intro i
  simp only [splice, fxc, List.length_singleton]
  rw [List.getElem?_append]
  simp only [List.length_take, List.length_map, List.length_range, Nat.min_eq_left (Nat.le_of_lt h)]
  by_cases hi : i < k
  · rw [if_pos hi, List.getElem?_take_of_lt hi, List.getElem?_map, List.getElem?_map, List.getElem?_range (by omega)]
    simp [hi, Nat.lt_succ_of_lt hi]
  · rw [if_neg hi]
    by_cases he : i = k
    · subst he
      simp [List.getElem?_map, List.getElem?_range h]
    · rw [List.getElem?_append_right (by simp; omega)]
      simp only [List.length_singleton, List.getElem?_drop, List.getElem?_map]
      rw [show k + 1 + (i - k - 1) = i by omega]
      by_cases hw : i < wd
      · rw [List.getElem?_range hw]
        simp [hi, show ¬ i < k + 1 by omega]
      · rw [List.getElem?_eq_none (by simp; omega)]; rfl

theorem room_alloc {wr : World} {g : Nat} {x : Obj} (h : wr.heap[g]? = some x) (o : Obj) : (wr.alloc o).heap[g]? = some x := by
  rw [Below.heap_alloc wr o g (Array.getElem?_eq_some_iff.1 h).1]; exact h

theorem room_cell {wr : World} {g : Nat} {cs : List Value} {t : TypeId} (h : wr.heap[g]? = some (.cells cs.toArray t (0, 0))) (i : Nat) : wr.cell? ⟨g, i, none⟩ = cs[i]? := by
  simp [World.cell?, h]

theorem fx_conv (n wd : Nat) (wr : World) (g : Nat) (h : wr.heap[g]? = some (.cells (fxc n wd wd).toArray 5 (0, 0))) :
    (convert 22 9 (.slice (some ⟨g, 0, none⟩) wd wd)).run Tryd.prog wr = .ok (.string (fx n wd)) wr := by
  have e : fx n wd = strOfNums ((List.range wd).map fun i => (dig n (wd - 1 - i) : Int)) := by
    simp [fx, fxs, strOfNums]
  rw [e]
  refine run_convert_bytes_arg _ 22 5 Tryd.underlying22 Tryd.underlying5 g 0 wd wd _ (by simp) (fun i hi => ?_) 9 Tryd.underlying9
  rw [room_cell h]
  simp [fxc, hi]

theorem impl_fx (n wd : Nat) (hn : n < 9223372036854775808) (h1 : 1 ≤ wd) (h7 : wd ≤ 7) (hfit : ((n : Int) / 2 ^ (8 * wd) != 0) = false) (w : World) :
    Calls Tryd.prog 9 #[.int .i64 n, .int .i64 wd] w fun e w' => e = .returned (.string (fx n wd)) ∧ Below w.heap.size w w' := by
  obtain ⟨i0, hi, hz0, hz1, hz2⟩ := info_parts Tryd.info5
  have hmk := run_make (P := Tryd.prog) w 22 5 i0 (.int .u8 0) Tryd.underlying22 hi hz0 .i64 .i64 wd wd (by omega) (by omega) (by rw [hz2]; omega) (by omega)
  rw [hz1] at hmk
  simp only [Int.toNat_natCast] at hmk
  rw [fxc_zero n wd] at hmk
  clear hi hz0 hz1 hz2
  go_enter Tryd.func9, Tryd.ntmps9
  go_wp2
  go_loopw [6, 7] (fun a s wr => ∃ k : Nat, k ≤ wd ∧ a = .int .i64 k ∧ s = .int .i64 (8 * ((wd : Int) - 1 - k)) ∧ Hid (wr.heap[w.heap.size]? = some (.cells (fxc n wd k).toArray 5 (0, 0))) ∧ Below w.heap.size w wr) (fun a _ _ => 8 - (intOf a).toNat)
  case atStart =>
    refine ⟨0, by omega, rfl, by simp, ?_, (Below.refl _ _).alloc (Nat.le_refl _) _⟩
    exact (MapKept.heap_alloc w _).1
  case round =>
    obtain ⟨k, hk, rfl, rfl, hroom, hbel⟩ := hrel
    clear hmk
    by_cases hkw : k = wd
    · subst hkw
      have hc := fx_conv n k wr w.heap.size hroom.out
      go_wp2
      go_ret
      exact ⟨rfl, hbel⟩
    · have hlt : k < wd := by omega
      have hx : Hid ((n : Int) / 2 ^ (8 * (wd - 1 - k)) % 256 = (dig n (wd - 1 - k) : Int)) := by
        show (n : Int) / 2 ^ (8 * (wd - 1 - k)) % 256 = (dig n (wd - 1 - k) : Int)
        rw [shr8]; simp [dig]
      go_wp2_with fail
      refine (put_any w.heap.size wd wd k 1 wr.heap.size w.heap.size (fxc n wd k) [.int .u8 ((n : Int) / 2 ^ (8 * (wd - 1 - k)) % 256)] _ w (room_alloc hroom.out _) rfl ?c1 (by omega) (by omega) (by rw [fxc_length]; omega) (by omega) (by unfold maxLen; omega) ?c2 (hbel.alloc hbel.size _) (Nat.le_refl _)).mono ?_
      case c1 =>
        intro j v hj
        obtain rfl : j = 0 := by
          rcases j with _ | j
          · rfl
          · simp at hj
        rw [World.cell?_alloc_at _ _ _ _ rfl]
        simpa using hj
      case c2 => simp [Value.oneCell']
      rintro e w' ⟨rfl, hroom', hbel'⟩
      rw [fxc_step n wd k hlt _ hx.out] at hroom'
      have hr2 : Hid (w'.heap[w.heap.size]? = some (.cells (fxc n wd (k + 1)).toArray 5 (0, 0))) := hroom'
      clear hroom' hroom hbel hx
      go_wp2
      go_roundw
      case rel => exact ⟨k + 1, by omega, by go_num, by go_num, hr2, hbel'⟩
      case measure => simp [intOf]; omega

theorem impl_fx_big (n wd : Nat) (hn : n < 9223372036854775808) (h1 : 1 ≤ wd) (h7 : wd ≤ 7) (hfit : ((n : Int) / 2 ^ (8 * wd) != 0) = true) (w : World) :
    Calls Tryd.prog 9 #[.int .i64 n, .int .i64 wd] w fun e w' => e = .returned (.string ByteArray.empty) ∧ Below w.heap.size w w' := by
  go_enter Tryd.func9, Tryd.ntmps9
  go_wp2
  go_ret
  exact ⟨rfl, Below.refl _ _⟩

theorem impl_fx_all (n wd : Nat) (hn : n < 9223372036854775808) (h1 : 1 ≤ wd) (h7 : wd ≤ 7) (w : World) :
    Calls Tryd.prog 9 #[.int .i64 n, .int .i64 wd] w fun e w' => e = .returned (.string (fxAns n wd)) ∧ Below w.heap.size w w' := by
  by_cases h : n / 256 ^ wd = 0
  · have e : fxAns n wd = fx n wd := by rw [fxAns, if_pos h]
    rw [e]
    exact impl_fx n wd hn h1 h7 (by rw [shr8, h]; rfl) w
  · have e : fxAns n wd = ByteArray.empty := by rw [fxAns, if_neg h]
    rw [e]
    refine impl_fx_big n wd hn h1 h7 ?_ w
    rw [shr8]
    simp only [bne_iff_ne, ne_eq]
    omega

theorem impl_fx_no (n wd : Int) (h : wd < 1 ∨ 7 < wd ∨ n < 0) (w : World) :
    Calls Tryd.prog 9 #[.int .i64 n, .int .i64 wd] w fun e w' => e = .returned (.string ByteArray.empty) ∧ Below w.heap.size w w' := by
  by_cases h1 : wd < 1
  · go_enter Tryd.func9, Tryd.ntmps9
    go_wp2
    go_ret
    exact ⟨rfl, Below.refl _ _⟩
  · by_cases h2 : 7 < wd
    · go_enter Tryd.func9, Tryd.ntmps9
      go_wp2
      go_ret
      exact ⟨rfl, Below.refl _ _⟩
    · have h3 : n < 0 := by omega
      go_enter Tryd.func9, Tryd.ntmps9
      go_wp2
      go_ret
      exact ⟨rfl, Below.refl _ _⟩

def vrF : Nat → Nat → List Int
  | 0, n => [(n : Int)]
  | f + 1, n => if n < 128 then [(n : Int)] else ((128 + n % 128 : Nat) : Int) :: vrF f (n / 128)

def vr (n : Nat) : List Int := vrF n n

theorem vrF_same : ∀ (f g n : Nat), n ≤ f → n ≤ g → vrF f n = vrF g n
  | 0, 0, _, _, _ => rfl
  | 0, g + 1, n, h, _ => by
    obtain rfl : n = 0 := by omega
    rfl
  | f + 1, 0, n, _, h => by
    obtain rfl : n = 0 := by omega
    rfl
  | f + 1, g + 1, n, h1, h2 => by
    simp only [vrF]
    split
    · rfl
    · rw [vrF_same f g (n / 128) (by omega) (by omega)]

theorem vr_small {n : Nat} (h : n < 128) : vr n = [(n : Int)] := by
  unfold vr
  cases n with
  | zero => rfl
  | succ m => simp only [vrF]; rw [if_pos h]

theorem vr_big {n : Nat} (h : ¬ n < 128) : vr n = ((128 + n % 128 : Nat) : Int) :: vr (n / 128) := by
  unfold vr
  cases n with
  | zero => omega
  | succ m =>
    simp only [vrF]
    rw [if_neg h, vrF_same m ((m + 1) / 128) ((m + 1) / 128) (by omega) (Nat.le_refl _)]

theorem vr_length : ∀ (j n : Nat), n < 128 ^ (j + 1) → (vr n).length ≤ j + 1
  | 0, n, h => by rw [vr_small (by simpa using h)]; simp
  | j + 1, n, h => by
    by_cases hs : n < 128
    · rw [vr_small hs]; simp
    · rw [vr_big hs]
      have := vr_length j (n / 128) (by rw [Nat.div_lt_iff_lt_mul (by omega)]; rw [Nat.pow_succ] at h; exact h)
      simp; omega

theorem vr_length7 {n : Nat} (h : n ≤ 562949953421311) : (vr n).length ≤ 7 := vr_length 6 n (by omega)

theorem vr_pos (n : Nat) : 0 < (vr n).length := by
  by_cases h : n < 128
  · rw [vr_small h]; simp
  · rw [vr_big h]; simp

/-- Bytes that a slice of the call's own holds. -/
abbrev ownB (w : World) (base : Nat) (v : Value) (L : List Int) : Prop := w.ownsRow base 5 1 v L.length (L.map (Value.int .u8))

theorem conv_own {w : World} {base : Nat} {v : Value} {L : List Int} (h : ownB w base v L) : (convert 22 9 v).run Tryd.prog w = .ok (.string (strOfNums L)) w := by
  obtain ⟨_, hc⟩ := h
  rcases hc with ⟨rfl, hn⟩ | ⟨g, cap, cur, rfl, hb, hg, hn, hm, hs, hx⟩
  · obtain rfl : L = [] := List.length_eq_zero_iff.1 hn
    exact run_convert_bytes_nil w 22 5 Tryd.underlying22 Tryd.underlying5 0 0 9 Tryd.underlying9
  · refine run_convert_bytes_arg w 22 5 Tryd.underlying22 Tryd.underlying5 g 0 L.length cap L rfl (fun i hi => ?_) 9 Tryd.underlying9
    have e : (cur.toList.take (L.length * 1))[i]? = (L.map (Value.int .u8))[i]? := by rw [hx]
    rw [List.getElem?_take_of_lt (by omega), List.getElem?_map, List.getElem?_eq_getElem hi] at e
    simp only [World.cell?, hg]
    simp [List.getElem?_eq_getElem hi] at e ⊢
    simpa using e

theorem vr_rest {L : List Int} {q n : Nat} (h : L ++ vr q = vr n) (hn : n ≤ 562949953421311) : L.length + (vr q).length ≤ 7 := by
  have := vr_length7 hn
  rw [← h] at this
  simpa using this

theorem vr_le {L : List Int} {q n : Nat} (h : ¬ q < 128) (hvr : L ++ vr q = vr n) : (L ++ [((128 + q % 128 : Nat) : Int)]) ++ vr (q / 128) = vr n := by
  rw [← hvr, vr_big h]
  simp

set_option maxRecDepth 20000 in
theorem spec_var (n : Nat) (hn : n ≤ 562949953421311) (w : World) :
    Calls Tryd.prog 23 #[.int .i64 n] w fun e w' => e = .returned (.string (strOfNums (vr n))) ∧ Below w.heap.size w w' := by
  obtain ⟨i0, hi, hz0, hz1, hz2⟩ := info_parts Tryd.info5
  go_enter Tryd.func23, Tryd.ntmps23
  go_wp2_with (go_at_call 32; refine (in_yes n 0 562949953421311 (by omega) (by omega) w).mono ?_; rintro e w' ⟨rfl, rfl⟩)
  go_loopw [0, 3] (fun m out wr => ∃ (q : Nat) (L : List Int), m = .int .i64 q ∧ q ≤ n ∧ ownB wr w.heap.size out L ∧ Hid (L ++ vr q = vr n) ∧ Below w.heap.size w wr) (fun m _ _ => (intOf m).toNat)
  case atStart => exact ⟨n, [], rfl, Nat.le_refl _, World.ownsRow_lit _ #[] 0 (Nat.le_refl _) (by unfold maxLen; omega) rfl, by simp [Hid], (Below.refl _ _).alloc (Nat.le_refl _) _⟩
  case round =>
    obtain ⟨q, L, rfl, hq, hown, hvr, hbel⟩ := hrel
    have hlen := vr_rest hvr.out hn
    have hpos := vr_pos q
    have hL : L.length + 1 ≤ 7 := by omega
    clear hlen hpos
    by_cases hs : (q : Int) < 128
    · go_wp2_with (at_builtin; refine wpList_append_own _ rfl (.tmp 19) (.tmp 22) 22 rfl w.heap.size 5 i0 (.int .u8 0) 1 1 Tryd.underlying22 hi hz0 hz1 hz2 rfl (by decide) _ _ _ rfl (hown.alloc _) ⟨wr.heap.size, 0, none⟩ 1 1 [.int .u8 (q : Int)] rfl rfl ?c1 ?c2 ?c3 ?c4 ?c5 ?_)
      case c1 => exact cell_one_new _ _ _
      case c2 => simp [Value.oneCell']
      case c3 => unfold maxLen; omega
      case c4 => omega
      case c5 => have := hbel.size; simp; omega
      intro v' w1 hown' hgrow _
      have hown2 : ownB w1 w.heap.size v' (L ++ [(q : Int)]) := by
        simpa [ownB] using hown'
      have hb1 : Below w.heap.size w w1 := (hbel.alloc hbel.size _).grown hgrow (by have := hbel.size; simp; omega) (fun k hk => (hown.lt k hk).1)
      have hfin : L ++ [(q : Int)] = vr n := by rw [← hvr.out, vr_small (by omega)]
      rw [hfin] at hown2
      have hc := conv_own hown2
      clear hown' hgrow hown hown2 hvr hfin
      go_wp2
      go_ret
      exact ⟨rfl, hb1⟩
    · go_wp2_with (at_builtin; refine wpList_append_own _ rfl (.tmp 10) (.tmp 15) 22 rfl w.heap.size 5 i0 (.int .u8 0) 1 1 Tryd.underlying22 hi hz0 hz1 hz2 rfl (by decide) _ _ _ rfl (hown.alloc _) ⟨wr.heap.size, 0, none⟩ 1 1 [.int .u8 (128 + (q : Int) % 128)] rfl rfl ?c1 ?c2 ?c3 ?c4 ?c5 ?_)
      case c2 => simp [Value.oneCell']
      case c3 => unfold maxLen; omega
      case c4 => omega
      case c5 => have := hbel.size; simp; omega
      intro v' w1 hown' hgrow _
      have hown2 : ownB w1 w.heap.size v' (L ++ [((128 + q % 128 : Nat) : Int)]) := by
        simpa [ownB] using hown'
      have hb1 : Below w.heap.size w w1 := (hbel.alloc hbel.size _).grown hgrow (by have := hbel.size; simp; omega) (fun k hk => (hown.lt k hk).1)
      have hfin : Hid ((L ++ [((128 + q % 128 : Nat) : Int)]) ++ vr (q / 128) = vr n) := vr_le (by omega) hvr.out
      clear hown' hgrow hown hvr hbel
      go_wp2
      go_roundw
      case rel => exact ⟨q / 128, L ++ [((128 + q % 128 : Nat) : Int)], by go_num, by omega, hown2, hfin, hb1⟩
      case measure => simp [intOf]; omega

/-- A room of m places more than the bytes that were laid into it. -/
def rm (L : List Int) (m : Nat) : List Value := L.map (Value.int .u8) ++ List.replicate m (.int .u8 0)

theorem rm_length (L : List Int) (m : Nat) : (rm L m).length = L.length + m := by simp [rm]

theorem rm_step (L : List Int) (m : Nat) (x : Int) : splice (rm L (m + 1)) L.length [.int .u8 x] = rm (L ++ [x]) m := by
  simp [splice, rm, List.drop_append, List.replicate_succ]

theorem rm_conv (L : List Int) (m c : Nat) (wr : World) (g : Nat) (h : wr.heap[g]? = some (.cells (rm L m).toArray 5 (0, 0))) :
    (convert 22 9 (.slice (some ⟨g, 0, none⟩) L.length c)).run Tryd.prog wr = .ok (.string (strOfNums L)) wr := by
  refine run_convert_bytes_arg _ 22 5 Tryd.underlying22 Tryd.underlying5 g 0 L.length c _ rfl (fun i hi => ?_) 9 Tryd.underlying9
  rw [room_cell h, Nat.zero_add, rm, List.getElem?_append_left (by simpa using hi)]
  simp [List.getElem?_eq_getElem hi]

/-- One byte, laid behind those that the room holds. -/
theorem put_one (g n c B : Nat) (L : List Int) (m : Nat) (x : Int) (wr w0 : World) (hroom : wr.heap[g]? = some (.cells (rm L (m + 1)).toArray 5 (0, 0)))
    (hfit : L.length + 1 ≤ n) (hn : n ≤ L.length + (m + 1)) (hc : n ≤ c) (hmax : n ≤ maxLen) (hb : Below B w0 wr) (hBg : B ≤ g) :
    Calls Tryd.prog 19 #[.slice (some ⟨g, 0, none⟩) n c, .int .i64 (L.length : Nat), .slice (some ⟨wr.heap.size, 0, none⟩) 1 1] (wr.alloc (.cells #[.int .u8 x] 5)) fun e w' =>
      e = .returned (.int .i64 (L.length + 1 : Nat)) ∧ w'.heap[g]? = some (.cells (rm (L ++ [x]) m).toArray 5 (0, 0)) ∧ Below B w0 w' := by
  have hlt : g < wr.heap.size := (Array.getElem?_eq_some_iff.1 hroom).1
  have h := put_any g n c L.length 1 wr.heap.size B (rm L (m + 1)) [.int .u8 x] (wr.alloc (.cells #[.int .u8 x] 5)) w0 (room_alloc hroom _) rfl
    (fun j v hj => by
      obtain rfl : j = 0 := by
        rcases j with _ | j
        · rfl
        · simp at hj
      rw [World.cell?_alloc_at _ _ _ _ rfl]
      simpa using hj) (by omega) hfit (by rw [rm_length]; exact hn) hc hmax (by simp [Value.oneCell']) (hb.alloc (by omega) _) hBg
  rw [rm_step] at h
  exact h

theorem or128 (q : Nat) : bits .or .i64 ((q : Int) % 128) 128 = 128 + (q : Int) % 128 := by
  have h : bits .or .i64 (((128 : Nat) : Int)) (((q % 128 : Nat) : Int)) = ((128 + q % 128 : Nat) : Int) := or_join 7 128 (q % 128) (by decide) (by omega) (by omega)
  have c : bits .or .i64 ((q : Int) % 128) 128 = bits .or .i64 128 ((q : Int) % 128) := by simp only [bits, BitVec.or_comm]
  rw [c]
  simpa using h

set_option maxRecDepth 20000 in
theorem impl_var (n : Nat) (hn : n ≤ 562949953421311) (w : World) :
    Calls Tryd.prog 7 #[.int .i64 n] w fun e w' => e = .returned (.string (strOfNums (vr n))) ∧ Below w.heap.size w w' := by
  have hmk : ∀ w, (Instr.makeSlice 22 (.int .i64 7) (.int .i64 7)).run Tryd.prog w = .ok (.slice (some ⟨w.heap.size, 0, none⟩) 7 7) (w.alloc (.cells (rm [] 7).toArray 5)) := fun _ => by kernel_rfl
  go_enter Tryd.func7, Tryd.ntmps7
  go_wp2
  go_loopw [0, 4] (fun m a wr => ∃ (q : Nat) (L : List Int), m = .int .i64 q ∧ q ≤ n ∧ a = .int .i64 L.length ∧ L.length ≤ 7 ∧ Hid (wr.heap[w.heap.size]? = some (.cells (rm L (7 - L.length)).toArray 5 (0, 0))) ∧ Hid (L ++ vr q = vr n) ∧ Below w.heap.size w wr) (fun m _ _ => (intOf m).toNat)
  case atStart =>
    refine ⟨n, [], rfl, Nat.le_refl _, rfl, by simp, ?_, by simp [Hid], (Below.refl _ _).alloc (Nat.le_refl _) _⟩
    exact (MapKept.heap_alloc w _).1
  case round =>
    obtain ⟨q, L, rfl, hq, rfl, hL7, hroom, hvr, hbel⟩ := hrel
    clear hmk
    have hlen := vr_rest hvr.out hn
    have hpos := vr_pos q
    have hL : L.length + 1 ≤ 7 := by omega
    clear hlen hpos
    have hmm : 7 - L.length = (7 - (L.length + 1)) + 1 := by omega
    rw [hmm] at hroom
    clear hmm
    by_cases hs : (q : Int) < 128
    · have hfin : L ++ [(q : Int)] = vr n := by rw [← hvr.out, vr_small (by omega)]
      go_wp2_with fail
      refine (put_one w.heap.size 7 7 w.heap.size L (7 - (L.length + 1)) q wr w hroom.out (by omega) (by omega) (by omega) (by unfold maxLen; omega) hbel (Nat.le_refl _)).mono ?_
      rintro e w1 ⟨rfl, hr1, hb1⟩
      have hlen : L.length + 1 = (L ++ [(q : Int)]).length := by simp
      have hc := rm_conv (L ++ [(q : Int)]) (7 - (L.length + 1)) 7 w1 w.heap.size hr1
      rw [← hlen] at hc
      rw [hfin] at hc
      clear hr1 hroom hvr hfin hbel hlen
      go_wp2
      go_ret
      exact ⟨rfl, hb1⟩
    · have hand := i64_and127 (q : Int)
      have hor := or128 q
      have hfin : Hid ((L ++ [((128 + q % 128 : Nat) : Int)]) ++ vr (q / 128) = vr n) := vr_le (by omega) hvr.out
      go_wp2_with fail
      refine (put_one w.heap.size 7 7 w.heap.size L (7 - (L.length + 1)) (128 + (q : Int) % 128) wr w hroom.out (by omega) (by omega) (by omega) (by unfold maxLen; omega) hbel (Nat.le_refl _)).mono ?_
      rintro e w1 ⟨rfl, hr1, hb1⟩
      have hr2 : Hid (w1.heap[w.heap.size]? = some (.cells (rm (L ++ [((128 + q % 128 : Nat) : Int)]) (7 - (L ++ [((128 + q % 128 : Nat) : Int)]).length)).toArray 5 (0, 0))) := by
        show w1.heap[w.heap.size]? = _
        rw [hr1]
        simp
      clear hr1 hroom hvr hbel hand hor
      go_wp2
      go_roundw
      case rel => exact ⟨q / 128, L ++ [((128 + q % 128 : Nat) : Int)], by go_num, by omega, by simp, by simp; omega, hr2, hfin, hb1⟩
      case measure => simp [intOf]; omega

theorem impl_var_no (n : Int) (h : n < 0 ∨ 562949953421311 < n) (w : World) :
    Calls Tryd.prog 7 #[.int .i64 n] w fun e w' => e = .returned (.string ByteArray.empty) ∧ Below w.heap.size w w' := by
  by_cases h1 : n < 0
  · go_enter Tryd.func7, Tryd.ntmps7
    go_wp2
    go_ret
    exact ⟨rfl, Below.refl _ _⟩
  · have h2 : 562949953421311 < n := by omega
    go_enter Tryd.func7, Tryd.ntmps7
    go_wp2
    go_ret
    exact ⟨rfl, Below.refl _ _⟩

theorem spec_var_no (n : Int) (h : n < 0 ∨ 562949953421311 < n) (w : World) :
    Calls Tryd.prog 23 #[.int .i64 n] w fun e w' => e = .returned (.string ByteArray.empty) ∧ Below w.heap.size w w' := by
  go_enter Tryd.func23, Tryd.ntmps23
  go_wp2_with (go_at_call 32; refine (in_no n 0 562949953421311 h w).mono ?_; rintro e w' ⟨rfl, rfl⟩)
  go_ret
  exact ⟨rfl, Below.refl _ _⟩
end Go.Proofs.YtpjaiehkhbkgiacDoor
