/-
  The draws: a new cursor over a code, and a text out of a list. Conditions: written at each theorem.
-/
import Derived.Test.YtjjanmccijghgaaDoorCb
namespace Go.Proofs.YtjjanmccijghgaaDoor
open Go.ChangeShapes Go.WideShapes Go.ChangeAt Go.RowKit
set_option linter.unusedVariables false

theorem curAt_alloc {a : Option Addr} {len cap : Nat} {zs : List Int} {B : Nat} {w : World} {s : Nat × Int} (h : CurAt a len cap zs B w s) (o : Obj) : CurAt a len cap zs B (w.alloc o) s :=
  curAt_below h ((Below.refl _ _).alloc (Nat.le_refl _) o) h.size

theorem only_alloc {B : Nat} (w : World) (o : Obj) : Only B w (w.alloc o) := Only.of_below ((Below.refl _ _).alloc (Nat.le_refl _) o)

theorem and30 (n : Int) : bits .and .i64 n 1073741823 = n % 1073741824 := by
  have h30 : (BitVec.ofInt 64 1073741823).toNat = 2 ^ 30 - 1 := by decide
  have key : (BitVec.ofInt 64 n &&& BitVec.ofInt 64 1073741823).toNat = (n % ((2 ^ 64 : Nat) : Int)).toNat % 2 ^ 30 := by
    rw [BitVec.toNat_and, BitVec.toNat_ofInt, h30, Nat.and_two_pow_sub_one_eq_mod]
  show IntKind.i64.wrap ((BitVec.ofInt 64 n &&& BitVec.ofInt 64 1073741823).toNat : Nat) = n % 1073741824
  rw [key, IntKind.wrap_i64]
  omega

/-- The cursor's number when it is made, k bytes of the code looked at. -/
def newH (zs : List Int) (len : Nat) : Nat → Int
  | 0 => 10101 + len
  | k + 1 => (newH zs len k * 131 + zs.getD k 0 + 7) % 1073741824

theorem newH_range (zs : List Int) (len : Nat) (hl : len ≤ 1048576) : ∀ k, 0 ≤ newH zs len k ∧ newH zs len k < 1073741824
  | 0 => by simp only [newH]; omega
  | k + 1 => by simp only [newH]; omega

def newS (zs : List Int) (len : Nat) : Nat × Int := (0, newH zs len (min len 4000))

theorem row_byte {w : World} {x : Addr} {len cap : Nat} {zs : List Int} (h : IsRow w (some x) len cap zs) (i : Nat) (hi : i < len) :
    x.spot = none ∧ w.cell? ⟨x.block, x.off + i, none⟩ = some (.int .u8 (zs.getD i 0)) ∧ 0 ≤ zs.getD i 0 ∧ zs.getD i 0 ≤ 255 ∧ 0 < zs.length := by
  rcases h with ⟨h, _⟩ | ⟨y, hy, h1, h2, h3, h4, h5⟩
  · cases h
  · injection hy with hy
    subst hy
    have hz := h4 i (by omega)
    have hspot : x.spot = none := by
      have h0 := World.cell?_spot (h4 0 (by omega))
      simpa [Addr.add] using h0
    have hmem : zs.getD i 0 ∈ zs := by
      have e : zs.getD i 0 = zs[i]'(by omega) := by simp [List.getD, List.getElem?_eq_getElem (show i < zs.length by omega)]
      rw [e]
      exact List.getElem_mem _
    have hr : 0 ≤ zs.getD i 0 ∧ zs.getD i 0 ≤ 255 := by simpa [Lit.wf, IntKind.min, IntKind.max, IntKind.signed, IntKind.bits] using h5 _ hmem
    refine ⟨hspot, ?_, hr.1, hr.2, by omega⟩
    obtain ⟨xb, xo, xs⟩ := x
    simp only at hspot
    subst hspot
    have e : (⟨xb, xo, none⟩ : Addr).add i = ⟨xb, xo + i, none⟩ := by unfold Addr.add; split <;> simp_all
    rw [e] at hz
    exact hz

theorem cell_lt {w : World} {p : Addr} {v : Value} (h : w.cell? p = some v) : p.block < w.heap.size := by
  rcases Nat.lt_or_ge p.block w.heap.size with hl | hl
  · exact hl
  · simp [World.cell?, Array.getElem?_eq_none hl] at h

theorem row_low {w : World} {a : Option Addr} {len cap : Nat} {zs : List Int} (h : IsRow w a len cap zs) : ∀ x, a = some x → 0 < zs.length → x.block < w.heap.size := by
  intro x hx hz
  rcases h with ⟨h, _⟩ | ⟨y, hy, h1, h2, h3, h4, h5⟩
  · rw [hx] at h; cases h
  · rw [hx] at hy
    injection hy with hy
    subst hy
    have := cell_lt (h4 0 hz)
    have e : (x.add 0).block = x.block := by unfold Addr.add; split <;> rfl
    rw [e] at this
    exact this

theorem cur_new {a : Option Addr} {len cap : Nat} {zs : List Int} {w : World} (hrow : IsRow w a len cap zs) (hl : len ≤ 1048576) (h : Int) :
    CurAt a len cap zs w.heap.size (w.alloc (.cells #[.slice a len cap, .int .i64 0, .int .i64 h] 56)) (0, h) := by
  have hf : ∀ k, (w.alloc (.cells #[.slice a len cap, .int .i64 0, .int .i64 h] 56)).frozen? ⟨w.heap.size, k, none⟩ = false := by
    intro k
    rw [frozen?_alloc_cells]
    simp [World.frozen?]
  refine ⟨⟨?_, ?_, ?_, hf 1, hf 2⟩, isRow_below hrow ((Below.refl w.heap.size w).alloc (Nat.le_refl _) _) (row_low hrow), hl, row_low hrow, by simp⟩
  · rw [World.cell?_alloc_at _ _ _ _ rfl]; rfl
  · rw [World.cell?_alloc_at _ _ _ _ rfl]; rfl
  · rw [World.cell?_alloc_at _ _ _ _ rfl]; rfl

theorem new_at (a : Option Addr) (len cap : Nat) (zs : List Int) (w : World) (hrow : IsRow w a len cap zs) (hl : len ≤ 1048576) :
    Calls Tryd.prog 13 #[.slice a len cap] w fun e w' => e = .returned (.pointer (some ⟨w.heap.size, 0, none⟩)) ∧ CurAt a len cap zs w.heap.size w' (newS zs len) ∧ Below w.heap.size w w' := by
  have HR : Hid (IsRow w a len cap zs) := hrow
  clear hrow
  go_enter Tryd.func13, Tryd.ntmps13
  go_wp2
  go_loop [3, 4] (fun h i => ∃ k : Nat, k ≤ len ∧ k ≤ 4000 ∧ i = .int .i64 k ∧ h = .int .i64 (newH zs len k)) (fun _ i => 4001 - (intOf i).toNat)
  case atStart => exact ⟨0, by omega, by omega, rfl, rfl⟩
  case round =>
    obtain ⟨k, hk, h4, rfl, rfl⟩ := hrel
    have hr := newH_range zs len hl k
    by_cases hin : k < len ∧ k < 4000
    · obtain ⟨hk1, hk2⟩ := hin
      have hk1' : (k : Int) < len := by omega
      have hk2' : (k : Int) < 4000 := by omega
      cases a with
      | none =>
        rcases HR.out with ⟨_, h0, _⟩ | ⟨x, hx, _⟩
        · omega
        · cases hx
      | some x =>
        obtain ⟨hs, hc, z0, z1, _⟩ := row_byte HR.out k hk1
        obtain ⟨xb, xo, xs⟩ := x
        simp only at hs hc
        subst hs
        have E : Hid (newH zs len (k + 1) = (newH zs len k * 131 + zs.getD k 0 + 7) % 1073741824) := rfl
        generalize zs.getD k 0 = z at *
        have e1 := and30 (newH zs len k * 131 + z + 7)
        generalize newH zs len k = q at *
        go_wp2
        go_round
        case rel => exact ⟨k + 1, by omega, by omega, by go_num, by rw [E.out]⟩
        case measure => simp [intOf]; omega
    · have hkm : min len 4000 = k := by omega
      have E : Hid (newS zs len = (0, newH zs len k)) := by unfold Hid newS; rw [hkm]
      clear hkm
      by_cases hk1 : (k : Int) < len
      · have hk2 : ¬ ((k : Int) < 4000) := by omega
        go_wp2
        go_ret
        rw [E.out]
        exact ⟨rfl, cur_new HR.out hl _, (Below.refl _ _).alloc (Nat.le_refl _) _⟩
      · go_wp2
        go_ret
        rw [E.out]
        exact ⟨rfl, cur_new HR.out hl _, (Below.refl _ _).alloc (Nat.le_refl _) _⟩

end Go.Proofs.YtjjanmccijghgaaDoor
