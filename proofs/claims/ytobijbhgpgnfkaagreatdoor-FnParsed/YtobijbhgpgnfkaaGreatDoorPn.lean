/-
  A name is taken, the specification's. Conditions: written at each theorem.
-/
import Derived.Test.YtobijbhgpgnfkaaGreatDoorPa
namespace Go.Proofs.YtobijbhgpgnfkaaGreatDoor
open Go.ChangeShapes Go.WideShapes Go.ChangeAt Go.RowKit
set_option linter.unusedVariables false

theorem fl_name : (Tryz.f27.name == "runtime.NumGoroutine") = false := by kernel_rfl
theorem fl_body : Tryz.f27.body.isNone = false := by kernel_rfl

set_option maxHeartbeats 2000000 in
set_option maxRecDepth 20000 in
theorem spec_nm_in (g n cap i : Nat) (p E : Int) (t : Tok) (hi : i < n) (hc : n ≤ 1048576) (w : World) (hT : TokIn w g i t) (hk : isKeyB t.text = true) :
    Calls Tryz.prog 53 #[stV (some ⟨g, 0, none⟩) n cap i 0 p E] w fun e w' => e = .returned (.tuple #[stV (some ⟨g, 0, none⟩) n cap i 3 t.place E, .string ⟨#[]⟩]) ∧ Below w.heap.size w w' := by
  have hi' : (i : Int) < n := by omega
  obtain ⟨kd, tx, tn, tp⟩ := t
  have t0 : w.cell? ⟨g, i * 4, none⟩ = some (.int .i64 kd) := hT.c0
  have t1 : w.cell? ⟨g, i * 4 + 1, none⟩ = some (.string tx) := hT.c1
  have t2 : w.cell? ⟨g, i * 4 + 2, none⟩ = some (.int .i64 tn) := hT.c2
  have t3 : w.cell? ⟨g, i * 4 + 3, none⟩ = some (.int .i64 tp) := hT.c3
  have hg := cell_lt' t0
  go_enter Tryz.func53, Tryz.ntmps53
  clear hT
  have HK : Hid (isKeyB tx = true) := hk
  clear hk
  go_wp2_with fail
  refine (spec_key tx _).mono ?_
  rintro e w1 ⟨rfl, b1⟩
  rw [HK.out]
  have r0 := (b1.block _ (by simp <;> omega)).trans (heap_alloc2_old w _ _)
  have r1 := (b1.block _ (by simp <;> omega)).trans (heap_alloc2_new w _ _)
  have B1 : Hid (Below w.heap.size w w1) := (((Below.refl _ w).alloc (Nat.le_refl _) _).alloc (by simp) _).trans (b1.mono (by simp <;> omega))
  have T0 := (World.cell?_of_block (a := ⟨g, i * 4, none⟩) (B1.out.block g hg)).trans t0
  have T1 := (World.cell?_of_block (a := ⟨g, i * 4 + 1, none⟩) (B1.out.block g hg)).trans t1
  have T2 := (World.cell?_of_block (a := ⟨g, i * 4 + 2, none⟩) (B1.out.block g hg)).trans t2
  have T3 := (World.cell?_of_block (a := ⟨g, i * 4 + 3, none⟩) (B1.out.block g hg)).trans t3
  obtain ⟨p0, p1, p2, p3, p4, p5⟩ := st_row r0
  have R1 : Hid (_) := r1
  have s1 : w.heap.size + 1 < w1.heap.size := (Array.getElem?_eq_some_iff.1 r1).1
  clear r0 r1 b1 t0 t1 t2 t3
  go_wp2
  go_region_law (refine step_call rfl 27 #[.tmp 27, .const (.int .i64 3), .tmp 34] #[61, 3, 3] rfl #[stV (some ⟨g, 0, none⟩) n cap i 0 p E, .int .i64 3, .int .i64 tp] (by simp [Act.eval]) Tryz.func27 fl_name fl_body _ (spec_fail _ n cap i p E 3 tp _) ?_; rintro e w2 ⟨rfl, b2⟩; have r2 := (b2.block (w.heap.size + 1) s1).trans R1.out; have R2 : Hid (_) := r2; have B2 : Hid (Below w.heap.size w w2) := B1.out.drew.trans (b2.mono (by show w.heap.size ≤ w1.heap.size; omega)); obtain ⟨c0, c1, c2, c3, c4, c5⟩ := st_row r2; clear r2 b2; refine ⟨_, rfl, ?_⟩)
  all_goals
    have F : Hid (_) := put5 R2.out (.slice (some ⟨g, 0, none⟩) n cap) (.int .i64 i) (.int .i64 3) (.int .i64 tp) (.int .i64 E)
    go_wp2
    refine bodyPost_ret (results_row_tmp rfl _ _ (w.heap.size + 1) _ _ rfl (ld_st F.out) rfl) rfl ⟨rfl, ?_⟩
    exact (((((B2.out).setCell (p := ⟨w.heap.size + 1, 0, none⟩) (by show w.heap.size ≤ w.heap.size + 1; omega) _).setCell (p := ⟨w.heap.size + 1, 1, none⟩) (by show w.heap.size ≤ w.heap.size + 1; omega) _).setCell (p := ⟨w.heap.size + 1, 2, none⟩) (by show w.heap.size ≤ w.heap.size + 1; omega) _).setCell (p := ⟨w.heap.size + 1, 3, none⟩) (by show w.heap.size ≤ w.heap.size + 1; omega) _).setCell (p := ⟨w.heap.size + 1, 4, none⟩) (by show w.heap.size ≤ w.heap.size + 1; omega) _

/-- What comes where what stands there is no key. -/
def NmOut (a : Option Addr) (n cap i : Nat) (p E : Int) (ts : List Tok) (e : Ending) : Prop := match takeE ts E i 3 with
  | .ok (j, t) => e = .returned (.tuple #[stV a n cap (j : Nat) 0 p E, .string t.text])
  | .error (c, q) => e = .returned (.tuple #[stV a n cap i c q E, .string ⟨#[]⟩])

theorem nm_out {a : Option Addr} {n cap i : Nat} {p E : Int} {ts : List Tok} {e : Ending}
    (he : match takeE ts E i 3 with
        | .ok (j, t) => e = .returned (.tuple #[stV a n cap (j : Nat) 0 p E, tokV t])
        | .error (c, q) => e = .returned (.tuple #[stV a n cap i c q E, tokV noTok])) :
    ∃ (i' c' q' : Int) (t' : Tok), e = .returned (.tuple #[stV a n cap i' c' q' E, tokV t']) ∧ NmOut a n cap i p E ts (.returned (.tuple #[stV a n cap i' c' q' E, .string t'.text])) := by
  unfold NmOut
  rcases htk : takeE ts E i 3 with ⟨c, q⟩ | ⟨j, t⟩
  · rw [htk] at he
    exact ⟨_, _, _, noTok, he, rfl⟩
  · rw [htk] at he
    exact ⟨_, _, _, t, he, rfl⟩

set_option maxHeartbeats 4000000 in
set_option maxRecDepth 20000 in
theorem spec_nm_take (a : Option Addr) (g n cap i : Nat) (p E : Int) (ts : List Tok) (hn : ts.length = n) (hc : n ≤ 1048576) (ha : 0 < n → a = some ⟨g, 0, none⟩) (w : World) (hT : TokAt w g ts) (hk : i < ts.length → isKeyB (ts.getD i noTok).text = false) :
    Calls Tryz.prog 53 #[stV a n cap i 0 p E] w fun e w' =>
      NmOut a n cap i p E ts e ∧ Below w.heap.size w w' := by
  have HT : Hid (TokAt w g ts) := hT
  have HK : Hid (i < ts.length → isKeyB (ts.getD i noTok).text = false) := hk
  have HN : Hid (ts.length = n) := hn
  clear hT hk hn
  by_cases hi : i < n
  · have hi' : (i : Int) < n := by omega
    obtain rfl := ha (by omega)
    go_enter Tryz.func53, Tryz.ntmps53
    have hT := HT.out i (by rw [HN.out]; exact hi)
    have hk := HK.out (by rw [HN.out]; exact hi)
    generalize ts.getD i noTok = t at hT hk
    obtain ⟨kd, tx, tn, tp⟩ := t
    have t0 : w.cell? ⟨g, i * 4, none⟩ = some (.int .i64 kd) := hT.c0
    have t1 : w.cell? ⟨g, i * 4 + 1, none⟩ = some (.string tx) := hT.c1
    have hg := cell_lt' t0
    have HK2 : Hid (isKeyB tx = false) := hk
    clear hT hk
    go_wp2_with fail
    refine (spec_key tx _).mono ?_
    rintro e w1 ⟨rfl, b1⟩
    rw [HK2.out]
    have r0 := (b1.block _ (by simp <;> omega)).trans (heap_alloc2_old w _ _)
    have r1 := (b1.block _ (by simp <;> omega)).trans (heap_alloc2_new w _ _)
    have B1 : Hid (Below w.heap.size w w1) := (((Below.refl _ w).alloc (Nat.le_refl _) _).alloc (by simp) _).trans (b1.mono (by simp <;> omega))
    obtain ⟨p0, p1, p2, p3, p4, p5⟩ := st_row r0
    have R1 : Hid (_) := r1
    have s1 : w.heap.size + 1 < w1.heap.size := (Array.getElem?_eq_some_iff.1 r1).1
    have HT1 : Hid (TokAt w1 g ts) := HT.out.below B1.out hg
    clear r0 r1 b1 t0 t1
    go_wp2_with fail
    refine (spec_take _ g n cap i p E 3 ts HN.out hc (fun _ => rfl) w1 HT1.out).mono ?_
    rintro e w2 ⟨he, b2⟩
    have r2 := (b2.block _ s1).trans R1.out
    have R2 : Hid (_) := r2
    obtain ⟨c0, c1, c2, c3, c4, c5⟩ := st_row r2
    have B2 : Hid (Below w.heap.size w w2) := B1.out.trans (b2.mono (by omega))
    clear r2 b2 p0 p1 p2 p3 p4 p5
    obtain ⟨i', c', q', t', rfl, hfin⟩ := nm_out he
    have HF : Hid (_) := hfin
    clear hfin he
    obtain ⟨kd, tx, tn, tp⟩ := t'
    have s2 : w.heap.size + 1 < w2.heap.size := (Array.getElem?_eq_some_iff.1 R2.out).1
    have r3 : ((w2.alloc (.cells #[.slice (some ⟨g, 0, none⟩) n cap, .int .i64 i', .int .i64 c', .int .i64 q', .int .i64 E] 61)).alloc (.cells #[.int .i64 kd, .string tx, .int .i64 tn, .int .i64 tp] 66)).heap[w.heap.size + 1]? = _ :=
      (Below.heap_alloc _ _ _ (by simp; omega)).trans ((Below.heap_alloc _ _ _ (by omega)).trans R2.out)
    have F : Hid (_) := put5 r3 (.slice (some ⟨g, 0, none⟩) n cap) (.int .i64 i') (.int .i64 c') (.int .i64 q') (.int .i64 E)
    have B3 : Hid (Below w.heap.size w ((w2.alloc (.cells #[.slice (some ⟨g, 0, none⟩) n cap, .int .i64 i', .int .i64 c', .int .i64 q', .int .i64 E] 61)).alloc (.cells #[.int .i64 kd, .string tx, .int .i64 tn, .int .i64 tp] 66))) :=
      (B2.out.alloc (by omega) _).alloc (by simp; omega) _
    clear c0 c1 c2 c3 c4 c5
    obtain ⟨c0, c1, c2, c3, c4, c5⟩ := st_row r3
    clear r3
    go_wp2
    go_region
    all_goals
      go_wp2
      refine bodyPost_ret (results_row_tmp rfl _ _ (w.heap.size + 1) _ (.string tx) rfl (ld_st F.out) rfl) rfl ⟨?_, ?_⟩
      · exact HF.out
      exact ((((((B3.out).setCell (p := ⟨w.heap.size + 1, 0, none⟩) (by show w.heap.size ≤ w.heap.size + 1; omega) _).setCell (p := ⟨w.heap.size + 1, 1, none⟩) (by show w.heap.size ≤ w.heap.size + 1; omega) _).setCell (p := ⟨w.heap.size + 1, 2, none⟩) (by show w.heap.size ≤ w.heap.size + 1; omega) _).setCell (p := ⟨w.heap.size + 1, 3, none⟩) (by show w.heap.size ≤ w.heap.size + 1; omega) _).setCell (p := ⟨w.heap.size + 1, 4, none⟩) (by show w.heap.size ≤ w.heap.size + 1; omega) _).drew
  · have hi' : (n : Int) ≤ i := by omega
    go_enter Tryz.func53, Tryz.ntmps53
    go_wp2_with fail
    refine (spec_take a g n cap i p E 3 ts HN.out hc ha _ (fun j hj => (HT.out j hj).below (((Below.refl _ w).alloc (Nat.le_refl _) _).alloc (by simp) _) (cell_lt' (HT.out j hj).c0))).mono ?_
    rintro e w2 ⟨he, b2⟩
    have r2 := (b2.block _ (by simp <;> omega)).trans (heap_alloc2_new w _ _)
    have R2 : Hid (_) := r2
    obtain ⟨c0, c1, c2, c3, c4, c5⟩ := st_row r2
    have B2 : Hid (Below w.heap.size w w2) := (((Below.refl _ w).alloc (Nat.le_refl _) _).alloc (by simp) _).trans (b2.mono (by simp <;> omega))
    clear r2 b2
    obtain ⟨i', c', q', t', rfl, hfin⟩ := nm_out he
    have HF : Hid (_) := hfin
    clear hfin he
    obtain ⟨kd, tx, tn, tp⟩ := t'
    have s2 : w.heap.size + 1 < w2.heap.size := (Array.getElem?_eq_some_iff.1 R2.out).1
    have r3 : ((w2.alloc (.cells #[.slice a n cap, .int .i64 i', .int .i64 c', .int .i64 q', .int .i64 E] 61)).alloc (.cells #[.int .i64 kd, .string tx, .int .i64 tn, .int .i64 tp] 66)).heap[w.heap.size + 1]? = _ :=
      (Below.heap_alloc _ _ _ (by simp; omega)).trans ((Below.heap_alloc _ _ _ (by omega)).trans R2.out)
    have F : Hid (_) := put5 r3 (.slice a n cap) (.int .i64 i') (.int .i64 c') (.int .i64 q') (.int .i64 E)
    have B3 : Hid (Below w.heap.size w ((w2.alloc (.cells #[.slice a n cap, .int .i64 i', .int .i64 c', .int .i64 q', .int .i64 E] 61)).alloc (.cells #[.int .i64 kd, .string tx, .int .i64 tn, .int .i64 tp] 66))) :=
      (B2.out.alloc (by omega) _).alloc (by simp; omega) _
    clear c0 c1 c2 c3 c4 c5
    obtain ⟨c0, c1, c2, c3, c4, c5⟩ := st_row r3
    clear r3
    go_wp2
    go_region
    all_goals
      go_wp2
      refine bodyPost_ret (results_row_tmp rfl _ _ (w.heap.size + 1) _ (.string tx) rfl (ld_st F.out) rfl) rfl ⟨?_, ?_⟩
      · exact HF.out
      exact ((((((B3.out).setCell (p := ⟨w.heap.size + 1, 0, none⟩) (by show w.heap.size ≤ w.heap.size + 1; omega) _).setCell (p := ⟨w.heap.size + 1, 1, none⟩) (by show w.heap.size ≤ w.heap.size + 1; omega) _).setCell (p := ⟨w.heap.size + 1, 2, none⟩) (by show w.heap.size ≤ w.heap.size + 1; omega) _).setCell (p := ⟨w.heap.size + 1, 3, none⟩) (by show w.heap.size ≤ w.heap.size + 1; omega) _).setCell (p := ⟨w.heap.size + 1, 4, none⟩) (by show w.heap.size ≤ w.heap.size + 1; omega) _).drew

/-- A name is taken. -/
theorem spec_nm (a : Option Addr) (g n cap i : Nat) (p E : Int) (ts : List Tok) (hn : ts.length = n) (hc : n ≤ 1048576) (ha : 0 < n → a = some ⟨g, 0, none⟩) (w : World) (hT : TokAt w g ts) :
    Calls Tryz.prog 53 #[stV a n cap i 0 p E] w fun e w' =>
      (match nameE ts E i with
        | .ok (j, s) => e = .returned (.tuple #[stV a n cap (j : Nat) 0 p E, .string s])
        | .error (c, q) => e = .returned (.tuple #[stV a n cap i c q E, .string ⟨#[]⟩])) ∧ Below w.heap.size w w' := by
  by_cases hk : i < ts.length ∧ isKeyB (ts.getD i noTok).text = true
  · obtain rfl := ha (by omega)
    unfold nameE
    rw [if_pos hk]
    exact spec_nm_in g n cap i p E _ (by omega) hc w (hT i hk.1) hk.2
  · unfold nameE
    rw [if_neg hk]
    refine (spec_nm_take a g n cap i p E ts hn hc ha w hT (fun hi => ?_)).mono ?_
    · cases hb : isKeyB (ts.getD i noTok).text with
      | false => rfl
      | true => exact absurd ⟨hi, hb⟩ hk
    · rintro e w1 ⟨he, b⟩
      refine ⟨?_, b⟩
      unfold NmOut at he
      rcases htk : takeE ts E i 3 with ⟨c, q⟩ | ⟨j, t⟩
      · rw [htk] at he
        exact he
      · rw [htk] at he
        exact he
end Go.Proofs.YtobijbhgpgnfkaaGreatDoor
