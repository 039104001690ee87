/-
  No beginning of a text in brackets is a program: the law's walk. Conditions: written at each theorem.
-/
import Derived.Test.YtlooccddflpmnaaDoorGl
import Derived.Test.YtlooccddflpmnaaDoorJG
import Derived.Test.YtlooccddflpmnaaDoorPs
import Derived.Test.YtlooccddflpmnaaDoorJR
namespace Go.Proofs.YtlooccddflpmnaaDoor
open Go.ChangeShapes Go.WideShapes Go.ChangeAt Go.RowKit
set_option linter.unusedVariables false

theorem big_no (a : Option Addr) (len cap : Nat) (h : ¬ (1048576 : Int) < len) (w : World) : Calls Tryd.prog 4 #[.slice a len cap] w fun e w' => e = .returned (.bool false) ∧ w' = w := by
  go_enter Tryd.func4, Tryd.ntmps4
  go_wp2
  go_ret
  exact ⟨by simp, rfl⟩

theorem big_yes (a : Option Addr) (len cap : Nat) (h : (1048576 : Int) < len) (w : World) : Calls Tryd.prog 4 #[.slice a len cap] w fun e w' => e = .returned (.bool true) ∧ w' = w := by
  go_enter Tryd.func4, Tryd.ntmps4
  go_wp2
  go_ret
  exact ⟨by simp, rfl⟩

theorem at_some (a : Option Addr) (len cap : Nat) (zs : List Int) (w : World) (hrow : IsRow w a len cap zs) (hl : len ≤ 1048576) (i : Nat) (hi : i ≤ 1) :
    Calls Tryd.prog 8 #[.slice a len cap, .int .i64 i] w fun e w' => ∃ v : Int, e = .returned (.int .i64 v) ∧ 0 ≤ v ∧ v ≤ 255 ∧ w' = w := by
  by_cases hin : i < len
  · have hin' : (i : Int) < len := by omega
    obtain ⟨x, rfl⟩ : ∃ x, a = some x := by
      rcases hrow with ⟨_, h0, _⟩ | ⟨x, hx, _⟩
      · omega
      · exact ⟨x, hx⟩
    obtain ⟨hsp, hc, h0, h1, _⟩ := row_byte hrow i hin
    obtain ⟨xb, xo, xs⟩ := x
    simp only at hsp hc
    subst hsp
    generalize zs.getD i 0 = v at *
    go_enter Tryd.func8, Tryd.ntmps8
    go_wp2
    go_ret
    exact ⟨v, rfl, h0, h1, rfl⟩
  · have hin' : ¬ (i : Int) < len := by omega
    have hr : 0 ≤ ((i : Int) * 37 + (len : Int) * 11) % 256 ∧ ((i : Int) * 37 + (len : Int) * 11) % 256 ≤ 255 := by omega
    go_enter Tryd.func8, Tryd.ntmps8
    go_wp2
    go_ret
    exact ⟨_, rfl, hr.1, hr.2, rfl⟩

theorem front_is {s : ByteArray} (h : 0 < s.size) : (s.extract 0 1 = ⟨#[40]⟩) ↔ s.data.toList.head? = some 40 := by
  have e : (s.extract 0 1).data.toList = s.data.toList.take 1 := by rw [ByteArray.data_extract]; simp
  have hl : s.data.toList.length = s.size := len_data s
  cases hd : s.data.toList with
  | nil => rw [hd] at hl; simp at hl; omega
  | cons b r =>
    constructor
    · intro h1
      rw [h1, hd] at e
      simp at e
      simp [← e]
    · intro h1
      simp at h1
      apply data_ext
      rw [e, hd, h1]
      rfl

theorem extract_front (T : List UInt8) (k : Nat) : (bsL T).extract 0 k = bsL (T.take k) := by
  apply data_ext
  rw [ByteArray.data_extract, bsL_data]
  simp [bsL]

theorem join_two (T : List UInt8) : bsL T ++ ⟨#[32, 49]⟩ = bsL (T ++ [32, 49]) := by
  apply data_ext
  rw [bytes_join, bsL_data, bsL_data]

/-- What Parse ends with where the tokens are known. -/
theorem parse_known {s : ByteArray} {B : Nat} {e : Ending} {w : World} {vs : List Tok} {r : Int × Int} (h : ParseEnd s B e w) (hx : Lexes s vs (-1)) (hp : (parseE vs s.size).2 = r) : ∃ v : Value, e = .returned (.tuple #[v, .int .i64 r.1, .int .i64 r.2]) := by
  obtain ⟨ts, n, v, h1, h2, h3⟩ := h
  obtain ⟨rfl, rfl⟩ := lexes_one hx h1
  have : parseR vs (-1) s.size = parseE vs s.size := by unfold parseR; rw [if_neg (by omega)]
  rw [this] at h3
  rw [← hp]
  exact ⟨v, h3⟩

theorem begins_empty (w : World) : Calls Tryd.prog 7 #[.string ⟨#[40]⟩, .string ⟨#[]⟩] w fun e w' => e = .returned (.bool false) ∧ w' = w := by
  go_enter Tryd.func7, Tryd.ntmps7
  go_wp2
  go_ret
  exact ⟨rfl, rfl⟩

theorem begins_at (s : ByteArray) (h : 0 < s.size) (hl : s.size ≤ 100000) (w : World) : Calls Tryd.prog 7 #[.string ⟨#[40]⟩, .string s] w fun e w' => (∃ b : Bool, e = .returned (.bool b) ∧ (b = true → s.data.toList.head? = some 40)) ∧ w' = w := by
  have hz : (⟨#[40]⟩ : ByteArray).size = 1 := rfl
  have h1 : (1 : Int) ≤ s.size := by omega
  have HF : Hid ((s.extract 0 1 = ⟨#[40]⟩) ↔ s.data.toList.head? = some 40) := front_is h
  go_enter Tryd.func7, Tryd.ntmps7
  go_wp2
  go_ret
  refine ⟨⟨_, rfl, fun hb => HF.out.1 ?_⟩, rfl⟩
  simp at hb
  apply data_ext
  rw [← Lib.toList_data]
  exact hb

theorem draw_small {l : List Nod} (h : Trim l) : ∀ i, i < l.length → (l.getD i noNod).name.size ≤ maxLen ∧ (l.getD i noNod).other.size ≤ maxLen := by
  intro i hi
  have := trim_at h hi
  unfold Trim1 at this
  unfold maxLen
  omega

set_option maxHeartbeats 8000000 in
set_option maxRecDepth 20000 in
theorem begun_walk (a : Option Addr) (len cap : Nat) (zs : List Int) (w : World) (hrow : IsRow w a len cap zs) (hl : ¬ (1048576 : Int) < len) (hv : Vars w) :
    Calls Tryd.prog 3 #[.slice a len cap] w fun e w' => e = .returned (.bool true) ∧ Below w.heap.size w w' := by
  have HR : Hid (IsRow w a len cap zs) := hrow
  have HV : Hid (Vars w) := hv
  clear hrow hv
  go_enter Tryd.func3, Tryd.ntmps3
  go_wp2_with fail
  refine (big_no a len cap (by omega) w).mono ?_
  rintro e w ⟨rfl, rfl⟩
  go_wp2_with fail
  refine (draw_print a len cap zs w HR.out (by omega)).mono ?_
  rintro e w1 ⟨⟨al, g, c, l, rfl, hal, hA, hll, ht⟩, b1⟩
  have B1 : Hid (Below w.heap.size w w1) := b1
  have CP : Hid (Calls Tryd.prog 6 #[.slice al l.length c] w1 fun e w' => e = .returned (.string (printB l)) ∧ Below w1.heap.size w1 w') := spec_print al g c l hal (by omega) (draw_small ht) w1 hA
  have s1 := b1.size
  clear hA ht hal b1
  cases hn : nodesB l
  · have hp : printB l = ⟨#[]⟩ := by unfold printB; rw [hn]; rfl
    rw [hp] at CP
    clear hp hn
    go_wp2_with fail
    refine Calls.mono CP.out ?_
    rintro e w2 ⟨rfl, b2⟩
    have B2 : Hid (Below w.heap.size w w2) := B1.out.trans (b2.mono s1)
    clear b2
    go_wp2_with fail
    refine (begins_empty w2).mono ?_
    rintro e w2 ⟨rfl, rfl⟩
    go_wp2
    go_ret
    exact ⟨rfl, B2.out⟩
  · obtain ⟨l1, l2, st, hR, hz⟩ := nodesB_zero hn
    have hp : printB l = bsL (textN l l.length (l.length - 1)) := by unfold printB; rw [hn]; rfl
    have hlen := textN_len hR l.length (l.length - 1) (by omega) (by omega)
    have HB : Hid (∀ k, (textN l l.length (l.length - 1)).head? = some 40 → k < (textN l l.length (l.length - 1)).length → ∃ vs c q, Lexes (bsL ((textN l l.length (l.length - 1)).take k)) vs (-1) ∧ parseE vs k = ([], c, q) ∧ ((c = 2 ∧ q = k) ∨ (c = 3 ∧ q < k))) := fun k hh hk => begun_parse hR l1 l2 hh hk
    have HM : Hid (_) := more_parse hR l1 l2 hz
    have hpos : 0 < (textN l l.length (l.length - 1)).length := by
      have := show_count hR l.length (l.length - 1) (by omega) (by omega)
      have hT := text_ulx hR (show l.length - 1 < l.length by omega) (show l.length - 1 < l.length by omega)
      have hvt := show_vt hR l.length (l.length - 1) (by omega) (by omega)
      rw [← hT]
      generalize showP decS l l.length (l.length - 1) = us at *
      obtain ⟨m, hm⟩ : ∃ m, us.length = m + 1 := ⟨us.length - 1, by omega⟩
      rw [hm]
      have h1 := vt_pos (hvt _ (getD_mem (show m < us.length by omega)))
      simp only [ulx, List.length_append, textOf, len_data]
      omega
    rw [hp] at CP
    generalize textN l l.length (l.length - 1) = T at *
    have hsz : (bsL T).size = T.length := bsL_size T
    have HD : Hid ((bsL T).data.toList = T) := bsL_data T
    obtain ⟨S, hS⟩ : ∃ S, bsL T = S := ⟨_, rfl⟩
    have HS : Hid (bsL T = S) := hS
    rw [hS] at CP hsz HD
    clear hS hn hp hR hz
    go_wp2_with fail
    refine Calls.mono CP.out ?_
    rintro e w2 ⟨rfl, b2⟩
    have B2 : Hid (Below w.heap.size w w2) := B1.out.trans (b2.mono s1)
    have s2 := b2.size
    clear b2 CP
    go_wp2_with fail
    refine (begins_at S (by omega) (by omega) w2).mono ?_
    rintro e w2 ⟨⟨bb, rfl, hbb⟩, rfl⟩
    have HH : Hid (bb = true → S.data.toList.head? = some 40) := hbb
    clear hbb
    cases bb
    · go_wp2
      go_ret
      exact ⟨rfl, B2.out⟩
    · have hh : T.head? = some 40 := by have := HH.out rfl; rw [HD.out] at this; exact this
      have HH2 : Hid (T.head? = some 40) := hh
      have R2 : Hid (IsRow w2 a len cap zs) := isRow_below HR.out B2.out (row_low HR.out)
      have V2 : Hid (Vars w2) := HV.out.kept B2.out
      clear hh HH
      go_wp2_with fail
      refine (at_some a len cap zs w2 R2.out (by omega) 0 (by omega)).mono ?_
      rintro e w2 ⟨x, rfl, hx0, hx1, rfl⟩
      go_wp2_with fail
      refine (at_some a len cap zs w2 R2.out (by omega) 1 (by omega)).mono ?_
      rintro e w2 ⟨y, rfl, hy0, hy1, rfl⟩
      have hT0 : (0 : Int) < T.length := by omega
      have hm0 := Int.emod_nonneg (x * 256 + y) (show (T.length : Int) ≠ 0 by omega)
      have hm1 := Int.emod_lt_of_pos (x * 256 + y) hT0
      obtain ⟨k, hk⟩ : ∃ k : Nat, (x * 256 + y) % (T.length : Int) = (k : Int) := ⟨((x * 256 + y) % (T.length : Int)).toNat, by omega⟩
      rw [hk] at hm0 hm1
      have hkl : k < T.length := by omega
      have hk2 : (k : Int) ≤ T.length := by omega
      obtain ⟨vs, pc, pq, hx, hpe, hcase⟩ := HB.out k HH2.out hkl
      obtain ⟨us, hy, hpm⟩ := HM.out
      have hek : S.extract 0 k = bsL (T.take k) := by rw [← HS.out]; exact extract_front T k
      have hzk : (bsL (T.take k)).size = k := by rw [bsL_size, List.length_take]; omega
      have hej : S ++ ⟨#[32, 49]⟩ = bsL (T ++ [32, 49]) := by rw [← HS.out]; exact join_two T
      have hzj : (bsL (T ++ [32, 49])).size = T.length + 2 := by rw [bsL_size]; simp
      have P1 : Hid (∀ w, Vars w → Calls Tryd.prog 9 #[.string (S.extract 0 k)] w fun e w' => (∃ v, e = .returned (.tuple #[v, .int .i64 pc, .int .i64 pq])) ∧ Below w.heap.size w w') := fun w hv => by
        rw [hek]
        refine (impl_parse _ (by omega) w hv).mono ?_
        rintro e w' ⟨h1, h2⟩
        exact ⟨parse_known (r := (pc, pq)) h1 hx (by rw [hzk, hpe]), h2⟩
      have P2 : Hid (∀ w, Vars w → Calls Tryd.prog 9 #[.string (S ++ ⟨#[32, 49]⟩)] w fun e w' => (∃ v, e = .returned (.tuple #[v, .int .i64 4, .int .i64 ((T.length : Int) + 1)])) ∧ Below w.heap.size w w') := fun w hv => by
        rw [hej]
        refine (impl_parse _ (by omega) w hv).mono ?_
        rintro e w' ⟨h1, h2⟩
        exact ⟨parse_known (r := (4, (T.length : Int) + 1)) h1 hy (by rw [hzj, hpm]; simp), h2⟩
      have hz2 : (⟨#[32, 49]⟩ : ByteArray).size = 2 := rfl
      clear hx hpe hy hpm hek hzk hej hzj HB HM HS HD HH2
      go_wp2_with fail
      refine (P1.out w2 V2.out).mono ?_
      rintro e w3 ⟨⟨v3, rfl⟩, b3⟩
      have B3 : Hid (Below w.heap.size w w3) := B2.out.trans (b3.mono (by omega))
      have V3 : Hid (Vars w3) := V2.out.kept b3
      have s3 := b3.size
      clear b3 P1
      go_wp2_with fail
      refine (P2.out w3 V3.out).mono ?_
      rintro e w4 ⟨⟨v4, rfl⟩, b4⟩
      have B4 : Hid (Below w.heap.size w w4) := B3.out.trans (b4.mono (by omega))
      clear b4 P2
      rcases hcase with ⟨rfl, rfl⟩ | ⟨rfl, hq⟩
      · go_wp2
        go_ret
        exact ⟨rfl, B4.out⟩
      · have hq2 : decide (pq < (k : Int)) = true := decide_eq_true hq
        go_wp2
        go_ret
        exact ⟨by simp, B4.out⟩
end Go.Proofs.YtlooccddflpmnaaDoor
