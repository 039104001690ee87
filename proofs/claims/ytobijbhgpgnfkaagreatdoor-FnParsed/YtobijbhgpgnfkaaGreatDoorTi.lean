/-
  The token that begins at a place of a text: what tokenAt answers, as it landed. Conditions: written at each theorem.
-/
import Derived.Test.YtobijbhgpgnfkaaGreatDoorLx
import Derived.Test.YtobijbhgpgnfkaaGreatDoorWg
import Derived.Test.YtobijbhgpgnfkaaGreatDoorRi
import Derived.Laws.ResultCell
namespace Go.Proofs.YtobijbhgpgnfkaaGreatDoor
open Go.ChangeShapes Go.WideShapes Go.ChangeAt Go.RowKit
set_option linter.unusedVariables false

def aggT (t : Tok) : Value := .agg #[.int .i64 t.kind, .string t.text, .int .i64 t.n, .int .i64 t.place]

/-- What a call of tokenAt may end with. -/
def TkEnd (s : ByteArray) (i : Nat) (e : Ending) : Prop :=
  (∃ (t : Tok) (j : Nat), Step s i j [t] ∧ t.text.size = j - i ∧ (∀ q, i ≤ q → q < j → bAt s q < 128) ∧ e = .returned (.tuple #[aggT t, .bool true])) ∨
  (∃ (t : Tok), Bad s i ∧ e = .returned (.tuple #[aggT t, .bool false]))

theorem clone_at (s : ByteArray) (hs : s.size ≤ 4000) (w : World) :
    Calls Tryz.prog 58 #[.string s] w fun e w' => e = .returned (.string s) ∧ Below w.heap.size w w' := by
  go_enter Tryz.func58, Tryz.ntmps58
  go_wp2_with fail
  refine (Tryz.stringslite_Clone s w (by omega)).mono ?_
  rintro e w1 ⟨rfl, hb⟩
  go_wp2
  go_ret
  exact ⟨rfl, hb⟩

theorem one_low {s : ByteArray} {i : Nat} (h : bAt s i < 128) : ∀ q, i ≤ q → q < i + 1 → bAt s q < 128 := by
  intro q h1 h2
  obtain rfl : q = i := by omega
  exact h

theorem tk_open (s : ByteArray) (i : Nat) (hs : s.size ≤ 4000) (hi : i < s.size) (hb : bAt s i = 40) (w : World) :
    Calls Tryz.prog 28 #[.string s, .int .i64 i] w fun e w' => TkEnd s i e ∧ Below w.heap.size w w' := by
  have hfin : Hid (TkEnd s i (.returned (.tuple #[aggT ⟨1, byteS 40, 0, i⟩, .bool true]))) :=
    Or.inl ⟨⟨1, byteS 40, 0, i⟩, i + 1, ⟨hi, Or.inr (Or.inr (Or.inl ⟨hb, rfl, rfl⟩))⟩, by simp [ByteArray.size], one_low (by omega), rfl⟩
  rw [bAt_in hi] at hb
  have hb' : (s[i].toNat : Int) = 40 := by omega
  clear hb
  go_enter Tryz.func28, Tryz.ntmps28
  go_wp2
  (try simp only [Exit.inBlock, Exit.then])
  refine bodyPost_ret (v := .tuple #[aggT ⟨1, byteS 40, 0, i⟩, .bool true]) ?_ rfl ⟨hfin.out, (Below.refl _ w).alloc (Nat.le_refl _) _⟩
  rw [results_cell_tmp rfl]
  go_simp
  rfl

theorem tk_close (s : ByteArray) (i : Nat) (hs : s.size ≤ 4000) (hi : i < s.size) (hb : bAt s i = 41) (w : World) :
    Calls Tryz.prog 28 #[.string s, .int .i64 i] w fun e w' => TkEnd s i e ∧ Below w.heap.size w w' := by
  have hfin : Hid (TkEnd s i (.returned (.tuple #[aggT ⟨2, byteS 41, 0, i⟩, .bool true]))) :=
    Or.inl ⟨⟨2, byteS 41, 0, i⟩, i + 1, ⟨hi, Or.inr (Or.inr (Or.inr (Or.inl ⟨hb, rfl, rfl⟩)))⟩, by simp [ByteArray.size], one_low (by omega), rfl⟩
  rw [bAt_in hi] at hb
  have hb' : (s[i].toNat : Int) = 41 := by omega
  clear hb
  go_enter Tryz.func28, Tryz.ntmps28
  go_wp2
  (try simp only [Exit.inBlock, Exit.then])
  refine bodyPost_ret (v := .tuple #[aggT ⟨2, byteS 41, 0, i⟩, .bool true]) ?_ rfl ⟨hfin.out, (Below.refl _ w).alloc (Nat.le_refl _) _⟩
  rw [results_cell_tmp rfl]
  go_simp
  rfl

/-- Behind a call the block that was laid ahead of it stands as it was laid. -/
structure Kept (w w' : World) : Prop where
  c0 : w'.cell? ⟨w.heap.size, 0, none⟩ = some (.int .i64 0)
  c1 : w'.cell? ⟨w.heap.size, 1, none⟩ = some (.string ⟨#[]⟩)
  c2 : w'.cell? ⟨w.heap.size, 2, none⟩ = some (.int .i64 0)
  c3 : w'.cell? ⟨w.heap.size, 3, none⟩ = some (.int .i64 0)
  f : ∀ j, w'.frozen? ⟨w.heap.size, j, none⟩ = false
  below : Below w.heap.size w w'

theorem kept_new {w w' : World} {N : Nat} (hb : Below N (w.alloc (.cells #[.int .i64 0, .string ⟨#[]⟩, .int .i64 0, .int .i64 0] 66)) w') (hN : N = (w.alloc (.cells #[.int .i64 0, .string ⟨#[]⟩, .int .i64 0, .int .i64 0] 66)).heap.size := by rfl) : Kept w w' := by
  subst hN
  have hk : w'.heap[w.heap.size]? = some (.cells #[.int .i64 0, .string ⟨#[]⟩, .int .i64 0, .int .i64 0] 66 (0, 0)) := by
    rw [hb.block w.heap.size (by simp)]
    exact (MapKept.heap_alloc w _).1
  refine ⟨?_, ?_, ?_, ?_, fun j => frozen_of_row w' _ _ _ _ hk, ((Below.refl _ w).alloc (Nat.le_refl _) _).trans (hb.mono (by simp))⟩
  all_goals rw [cell_of_row w' _ _ _ _ _ hk]; rfl

theorem Kept.later {w w' w'' : World} (h : Kept w w') (hb : Below w'.heap.size w' w'') : Kept w w'' := by
  have hlt : w.heap.size < w'.heap.size := cell_lt' h.c0
  have hk := hb.block _ hlt
  exact ⟨(World.cell?_of_block hk).trans h.c0, (World.cell?_of_block hk).trans h.c1, (World.cell?_of_block hk).trans h.c2, (World.cell?_of_block hk).trans h.c3, fun j => (World.frozen?_of_block hk).trans (h.f j), h.below.trans (hb.mono h.below.size)⟩

theorem below_four {w w' : World} {v0 v1 v2 v3 : Value} (h : Below w.heap.size w w') :
    Below w.heap.size w ((((w'.setCell ⟨w.heap.size, 0, none⟩ v0).setCell ⟨w.heap.size, 1, none⟩ v1).setCell ⟨w.heap.size, 2, none⟩ v2).setCell ⟨w.heap.size, 3, none⟩ v3) :=
  (((h.setCell (p := ⟨w.heap.size, 0, none⟩) (Nat.le_refl _) _).setCell (p := ⟨w.heap.size, 1, none⟩) (Nat.le_refl _) _).setCell (p := ⟨w.heap.size, 2, none⟩) (Nat.le_refl _) _).setCell (p := ⟨w.heap.size, 3, none⟩) (Nat.le_refl _) _

theorem gSyn : Tryz.prog.globalNamed "strconv.ErrSyntax" = some 0 := by kernel_rfl
theorem gRng : Tryz.prog.globalNamed "strconv.ErrRange" = some 1 := by kernel_rfl

/-- The library's table and its two errors lie as ReadDec needs them. -/
def Vars (w : World) : Prop := PowIs w ∧ (∃ ts ps, w.var? Tryz.prog "strconv.ErrSyntax" = some #[.iface ts ps]) ∧ (∃ tr pr, w.var? Tryz.prog "strconv.ErrRange" = some #[.iface tr pr])

theorem Vars.kept {w w' : World} (h : Vars w) (hb : Below w.heap.size w w') : Vars w' := by
  obtain ⟨hp, ⟨ts, ps, hS⟩, tr, pr, hR⟩ := h
  exact ⟨var_kept gPow hp hb, ⟨ts, ps, var_kept gSyn hS hb⟩, tr, pr, var_kept gRng hR hb⟩

theorem run_size {p : Nat → Prop} {s : ByteArray} {i j : Nat} (h : RunTo p s i j) : (s.extract i j).size = j - i := by
  rw [ByteArray.size_extract, Nat.min_eq_left h.2.1]

/-- The letters from a place on are a word where they are at most eight. -/
theorem run_word {s : ByteArray} {i j : Nat} (hi : i < s.size) (hb : lowA (bAt s i)) (h : RunTo lowA s i j) : isWordB (s.extract i j) = decide (j ≤ i + 8) := by
  have hz := run_size h
  have hij : i < j := by
    rcases Nat.lt_or_eq_of_le h.1 with hl | rfl
    · exact hl
    · exact absurd hb (h.2.2.2 hi)
  unfold isWordB
  rw [decide_eq_decide, hz]
  refine ⟨fun h => by omega, fun h8 => ⟨by omega, by omega, fun q hq => ?_⟩⟩
  rw [bAt_extract s i j q h.2.1 (by omega)]
  exact h.2.2.1 (i + q) (by omega) (by omega)

set_option maxHeartbeats 1000000 in
theorem tk_word (s : ByteArray) (i : Nat) (hs : s.size ≤ 4000) (hi : i < s.size) (hb : lowA (bAt s i)) (w : World) :
    Calls Tryz.prog 28 #[.string s, .int .i64 i] w fun e w' => TkEnd s i e ∧ Below w.heap.size w w' := by
  have HB : Hid (lowA (bAt s i)) := hb
  have h1 : (97 : Int) ≤ s[i].toNat := by rw [bAt_in hi] at hb; omega
  have h2 : (s[i].toNat : Int) ≤ 122 := by rw [bAt_in hi] at hb; omega
  have g1 : ((s[i].toNat : Int) == 40) = false := by rw [beq_eq_false_iff_ne]; omega
  have g2 : ((s[i].toNat : Int) == 41) = false := by rw [beq_eq_false_iff_ne]; omega
  have hi' : (i : Int) < s.size := by omega
  clear hb
  go_enter Tryz.func28, Tryz.ntmps28
  go_wp2_with fail
  refine (impl_let_yes _ h1 h2 _).mono ?_
  rintro e w1 ⟨rfl, rfl⟩
  go_wp2_with fail
  refine (impl_front_let (s.extract i s.size) ?c1 _).mono ?_
  case c1 => rw [ByteArray.size_extract]; unfold maxLen; omega
  rintro e w2 ⟨⟨n, hn, rfl⟩, rfl⟩
  have hr := runTo_rest (by omega) hn
  clear hn
  have hle : i + n ≤ s.size := hr.2.1
  obtain ⟨T, hT⟩ : ∃ T, s.extract i (i + n) = T := ⟨_, rfl⟩
  have HT : Hid (s.extract i (i + n) = T) := hT
  have hz : T.size = n := by rw [← hT, run_size hr]; omega
  have HW : Hid (isWordB T = decide (i + n ≤ i + 8)) := by
    show isWordB T = _
    rw [← hT]
    exact run_word hi HB.out hr
  have HR : Hid (RunTo lowA s i (i + n)) := hr
  clear hr
  go_wp2_with fail
  rw [hT]
  clear hT
  refine (clone_at T (by omega) _).mono ?_
  rintro e w3 ⟨rfl, hb3⟩
  have K := kept_new hb3
  have c0 := K.c0
  have c1 := K.c1
  have c2 := K.c2
  have c3 := K.c3
  have f0 := K.f 0
  have f1 := K.f 1
  have f2 := K.f 2
  have f3 := K.f 3
  have hb4 := K.below
  clear K hb3
  go_wp2_with fail
  refine (impl_word T (by unfold maxLen; omega) _).mono ?_
  rintro e w4 ⟨rfl, rfl⟩
  go_wp2
  (try simp only [Exit.inBlock, Exit.then])
  refine bodyPost_ret (v := .tuple #[aggT ⟨3, T, 0, i⟩, .bool (isWordB T)]) ?_ rfl ⟨?_, ?_⟩
  · rw [results_cell_tmp rfl]
    go_simp
    rfl
  · have hw := HW.out
    by_cases h8 : n ≤ 8
    · rw [hw, decide_eq_true (by omega)]
      refine Or.inl ⟨⟨3, T, 0, i⟩, i + n, ⟨hi, Or.inr (Or.inr (Or.inr (Or.inr (Or.inl ⟨HB.out, HR.out, by omega, by rw [HT.out]⟩))))⟩, by simp only; omega, fun q q1 q2 => ?_, rfl⟩
      have := HR.out.2.2.1 q q1 q2
      omega
    · rw [hw, decide_eq_false (by omega)]
      exact Or.inr ⟨⟨3, T, 0, i⟩, ⟨hi, Or.inl ⟨HB.out, i + n, HR.out, by omega⟩⟩, rfl⟩
  · exact below_four hb4

set_option maxHeartbeats 2000000 in
theorem tk_num (s : ByteArray) (i : Nat) (hs : s.size ≤ 4000) (hi : i < s.size) (hb : dig9 (bAt s i)) (w : World) (hv : Vars w) :
    Calls Tryz.prog 28 #[.string s, .int .i64 i] w fun e w' => TkEnd s i e ∧ Below w.heap.size w w' := by
  have HB : Hid (dig9 (bAt s i)) := hb
  have HV : Hid (Vars w) := hv
  clear hv
  have h1 : (48 : Int) ≤ s[i].toNat := by rw [bAt_in hi] at hb; omega
  have h2 : (s[i].toNat : Int) ≤ 57 := by rw [bAt_in hi] at hb; omega
  have g1 : ((s[i].toNat : Int) == 40) = false := by rw [beq_eq_false_iff_ne]; omega
  have g2 : ((s[i].toNat : Int) == 41) = false := by rw [beq_eq_false_iff_ne]; omega
  have hi' : (i : Int) < s.size := by omega
  clear hb
  go_enter Tryz.func28, Tryz.ntmps28
  go_wp2_with fail
  refine (impl_let_no _ (by omega) _).mono ?_
  rintro e w1 ⟨rfl, rfl⟩
  go_wp2_with fail
  refine (impl_dig_yes _ h1 h2 _).mono ?_
  rintro e w1 ⟨rfl, rfl⟩
  go_wp2_with fail
  refine (impl_front_dig (s.extract i s.size) ?c1 _).mono ?_
  case c1 => rw [ByteArray.size_extract]; unfold maxLen; omega
  rintro e w2 ⟨⟨n, hn, rfl⟩, rfl⟩
  have hr := runTo_rest (by omega) hn
  clear hn
  have hle : i + n ≤ s.size := hr.2.1
  obtain ⟨T, hT⟩ : ∃ T, s.extract i (i + n) = T := ⟨_, rfl⟩
  have HT : Hid (s.extract i (i + n) = T) := hT
  have hz : T.size = n := by rw [← hT, run_size hr]; omega
  have HR : Hid (RunTo dig9 s i (i + n)) := hr
  clear hr
  go_wp2_with fail
  rw [hT]
  clear hT
  have V1 : Vars (w.alloc (.cells #[.int .i64 0, .string ⟨#[]⟩, .int .i64 0, .int .i64 0] 66)) := HV.out.kept ((Below.refl _ w).alloc (Nat.le_refl _) _)
  obtain ⟨hp, ⟨ts, ps, hS⟩, tr, pr, hR⟩ := V1
  refine (impl_rd T (by omega) _ hp ts tr ps pr hS hR).mono ?_
  clear hp hS hR
  rintro e w3 ⟨⟨v, ok, hrd, rfl⟩, hb3⟩
  have K := kept_new hb3
  have c0 := K.c0
  have c1 := K.c1
  have c2 := K.c2
  have c3 := K.c3
  have f0 := K.f 0
  have f1 := K.f 1
  have f2 := K.f 2
  have f3 := K.f 3
  have hb4 := K.below
  have hsz := hb4.size
  have hlt : w.heap.size < w3.heap.size := cell_lt' K.c0
  clear hb3
  have HRD : Hid (IsRd T.data.toList v ok) := hrd
  clear hrd
  go_wp2_with fail
  refine (clone_at T (by omega) w3).mono ?_
  rintro e w4 ⟨rfl, hb5⟩
  have K := K.later hb5
  clear c0 c1 c2 c3 f0 f1 f2 f3
  have c0 := K.c0
  have c1 := K.c1
  have c2 := K.c2
  have c3 := K.c3
  have f0 := K.f 0
  have f1 := K.f 1
  have f2 := K.f 2
  have f3 := K.f 3
  have hb6 := K.below
  clear K hb5
  have hfin : Hid (∀ k, k = (ok && decide (v ≤ 65535)) → TkEnd s i (.returned (.tuple #[aggT ⟨4, T, v, i⟩, .bool k]))) := by
    intro k hk
    subst hk
    by_cases hg : ok = true ∧ v ≤ 65535
    · obtain ⟨rfl, hv⟩ := hg
      rw [decide_eq_true hv]
      refine Or.inl ⟨⟨4, T, v, i⟩, i + n, ⟨hi, Or.inr (Or.inr (Or.inr (Or.inr (Or.inr ⟨HB.out, HR.out, v, by rw [HT.out]; exact HRD.out, hv, by rw [HT.out]⟩))))⟩, by simp only; omega, fun q q1 q2 => ?_, rfl⟩
      have := HR.out.2.2.1 q q1 q2
      omega
    · have e : (ok && decide (v ≤ 65535)) = false := by
        cases ok with
        | false => rfl
        | true => rw [decide_eq_false (fun h => hg ⟨rfl, h⟩)]; rfl
      rw [e]
      refine Or.inr ⟨⟨4, T, v, i⟩, ⟨hi, Or.inr (Or.inl ⟨HB.out, i + n, HR.out, v, ok, by rw [HT.out]; exact HRD.out, ?_⟩)⟩, rfl⟩
      cases ok with
      | false => exact Or.inl rfl
      | true => exact Or.inr (Int.not_le.1 (fun h => hg ⟨rfl, h⟩))
  cases ok with
  | true =>
    go_wp2
    (try simp only [Exit.inBlock, Exit.then])
    refine bodyPost_ret (v := .tuple #[aggT ⟨4, T, v, i⟩, .bool (decide (v ≤ 65535))]) ?_ rfl ⟨hfin.out _ (by simp), ?_⟩
    · rw [results_cell_tmp rfl]
      go_simp
      rfl
    · exact below_four hb6
  | false =>
    go_wp2
    (try simp only [Exit.inBlock, Exit.then])
    refine bodyPost_ret (v := .tuple #[aggT ⟨4, T, v, i⟩, .bool false]) ?_ rfl ⟨hfin.out _ (by simp), ?_⟩
    · rw [results_cell_tmp rfl]
      go_simp
      rfl
    · exact below_four hb6

theorem tk_other (s : ByteArray) (i : Nat) (hs : s.size ≤ 4000) (hi : i < s.size) (hb : bAt s i ≠ 32 ∧ bAt s i ≠ 10 ∧ bAt s i ≠ 35 ∧ bAt s i ≠ 40 ∧ bAt s i ≠ 41 ∧ ¬ lowA (bAt s i) ∧ ¬ dig9 (bAt s i)) (w : World) :
    Calls Tryz.prog 28 #[.string s, .int .i64 i] w fun e w' => TkEnd s i e ∧ Below w.heap.size w w' := by
  have hfin : Hid (TkEnd s i (.returned (.tuple #[aggT noTok, .bool false]))) := Or.inr ⟨noTok, ⟨hi, Or.inr (Or.inr hb)⟩, rfl⟩
  rw [bAt_in hi] at hb
  have g1 : ((s[i].toNat : Int) == 40) = false := by rw [beq_eq_false_iff_ne]; omega
  have g2 : ((s[i].toNat : Int) == 41) = false := by rw [beq_eq_false_iff_ne]; omega
  have h1 : (s[i].toNat : Int) < 97 ∨ 122 < (s[i].toNat : Int) := by omega
  have h2 : (s[i].toNat : Int) < 48 ∨ 57 < (s[i].toNat : Int) := by omega
  have hi' : (i : Int) < s.size := by omega
  clear hb
  go_enter Tryz.func28, Tryz.ntmps28
  go_wp2_with fail
  refine (impl_let_no _ h1 _).mono ?_
  rintro e w1 ⟨rfl, rfl⟩
  go_wp2_with fail
  refine (impl_dig_no _ h2 _).mono ?_
  rintro e w1 ⟨rfl, rfl⟩
  go_wp2
  (try simp only [Exit.inBlock, Exit.then])
  refine bodyPost_ret (v := .tuple #[aggT noTok, .bool false]) ?_ rfl ⟨hfin.out, (Below.refl _ w).alloc (Nat.le_refl _) _⟩
  rw [results_cell_tmp rfl]
  go_simp
  rfl

/-- The token at a place where neither a blank nor a remark stands. -/
theorem tk_any (s : ByteArray) (i : Nat) (hs : s.size ≤ 4000) (hi : i < s.size) (hb : bAt s i ≠ 32 ∧ bAt s i ≠ 10 ∧ bAt s i ≠ 35) (w : World) (hv : Vars w) :
    Calls Tryz.prog 28 #[.string s, .int .i64 i] w fun e w' => TkEnd s i e ∧ Below w.heap.size w w' := by
  by_cases h1 : bAt s i = 40
  · exact tk_open s i hs hi h1 w
  · by_cases h2 : bAt s i = 41
    · exact tk_close s i hs hi h2 w
    · by_cases h3 : lowA (bAt s i)
      · exact tk_word s i hs hi h3 w
      · by_cases h4 : dig9 (bAt s i)
        · exact tk_num s i hs hi h4 w hv
        · exact tk_other s i hs hi ⟨hb.1, hb.2.1, hb.2.2, h1, h2, h3, h4⟩ w
end Go.Proofs.YtobijbhgpgnfkaaGreatDoor
