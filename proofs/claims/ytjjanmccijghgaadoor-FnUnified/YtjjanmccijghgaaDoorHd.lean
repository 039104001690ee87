/-
  Types, the specification's: which tables are right. Conditions: written at each theorem.
-/
import Derived.Test.YtjjanmccijghgaaDoorHc
import Derived.Lib.QuietBelow
namespace Go.Proofs.YtjjanmccijghgaaDoor
open Go.ChangeShapes Go.WideShapes Go.ChangeAt Go.RowKit
set_option linter.unusedVariables false

theorem in_name : (Tryd.f22.name == "runtime.NumGoroutine") = false := by kernel_rfl
theorem in_body : Tryd.f22.body.isNone = false := by kernel_rfl

theorem tab_no_len {ts : List Typ} (h : ¬ ts.length ≤ 40) : tabB ts = false := by
  unfold tabB
  rw [decide_eq_false h]
  rfl

theorem tab_no_ent {ts : List Typ} {i : Nat} (hi : i < ts.length) (h : ¬ EntOk ts.length (ts.getD i noTyp)) : tabB ts = false := by
  have e : ts.all (entB ts.length) = false := by
    apply Bool.eq_false_iff.2
    intro q
    rw [List.all_eq_true] at q
    exact h ((entB_iff _ _).1 (q _ (by simp [List.getD, hi])))
  unfold tabB
  rw [e]
  simp

theorem tab_of_rounds {ts : List Typ} (h : ts.length ≤ 40) (he : ∀ i, i < ts.length → EntOk ts.length (ts.getD i noTyp)) : tabB ts = (roundsG ts ts.length).all id := by
  have e : ts.all (entB ts.length) = true := by
    rw [List.all_eq_true]
    intro t ht
    obtain ⟨i, hi, rfl⟩ := List.getElem_of_mem ht
    have := he i hi
    rw [show ts.getD i noTyp = ts[i] by simp [List.getD, hi]] at this
    exact (entB_iff _ _).2 this
  unfold tabB
  rw [e, decide_eq_true h]
  simp

theorem kid_mem (t : Typ) (q : Nat) (h : q < (kidZ t).length) : (kidZ t).getD q 0 ∈ kidZ t := by simp [List.getD, h]

theorem all_step (g : List Bool) (ks : List Int) (q : Nat) (h : q < ks.length) : allG g (ks.take (q + 1)) = (allG g (ks.take q) && g.getD (ks.getD q 0).toNat false) := by
  unfold allG
  rw [List.take_succ_eq_append_getElem h, List.all_append]
  simp [List.getD, h]

theorem tab_no_own {ts : List Typ} {i : Nat} (hi : i < ts.length) (h : ownB (ts.getD i noTyp) = false) : tabB ts = false :=
  tab_no_ent hi (fun q => by
    have := (entB_iff _ _).2 q
    unfold entB at this
    rw [h] at this
    simp at this)

theorem ent_of {n : Nat} {t : Typ} (h : ownB t = true) (hk : ∀ q, q < (kidZ t).length → 0 ≤ (kidZ t).getD q 0 ∧ (kidZ t).getD q 0 < n) : EntOk n t := by
  refine (entB_iff n t).1 ?_
  unfold entB
  rw [h, Bool.true_and, List.all_eq_true]
  intro k hm
  obtain ⟨q, hq, rfl⟩ := List.getElem_of_mem hm
  have := hk q hq
  simp [List.getD, hq] at this ⊢
  exact this

set_option maxHeartbeats 2000000 in
set_option maxRecDepth 20000 in
theorem spec_table (a : Option Addr) (g cap : Nat) (ts : List Typ) (hne : 0 < ts.length → a = some ⟨g, 0, none⟩) (hl : ts.length ≤ 1048576) (w : World) (hA : TypAt w g ts) :
    Calls Tryd.prog 11 #[.slice a ts.length cap] w fun e w' => e = .returned (.bool (tabB ts)) ∧ Below w.heap.size w w' := by
  have HA : Hid (TypAt w g ts) := hA
  clear hA
  by_cases h40 : ts.length ≤ 40
  · have h40' : (ts.length : Int) ≤ 40 := by omega
    go_enter Tryd.func11, Tryd.ntmps11
    go_wp2
    go_loopw [3, 4, 5] (fun iv _ _ wr => ∃ i : Nat, iv = .int .i64 i ∧ i ≤ ts.length ∧ Hid (∀ j, j < i → EntOk ts.length (ts.getD j noTyp)) ∧ Below w.heap.size w wr) (fun iv _ _ _ => ts.length - (intOf iv).toNat)
    case atStart => exact ⟨0, rfl, by omega, fun j hj => absurd hj (by omega), Below.refl _ _⟩
    case round =>
      obtain ⟨i, rfl, hi, HE, hb⟩ := hrel
      have hbs := hb.size
      by_cases hin : i < ts.length
      · have hin' : (i : Int) < ts.length := by omega
        obtain rfl := hne (by omega)
        have t := (HA.out.below hb (fun h => HA.out.lt h)) i hin
        have HN : Hid (ownB (ts.getD i noTyp) = false → tabB ts = false) := tab_no_own hin
        obtain ⟨⟨x0, x1, x2⟩, hx⟩ : ∃ y, ts.getD i noTyp = y := ⟨_, rfl⟩
        have HX : Hid (ts.getD i noTyp = ⟨x0, x1, x2⟩) := hx
        rw [hx] at t
        have q0 : wr.cell? ⟨g, i * 3, none⟩ = some (.int .i64 x0) := t.c0
        have q1 : wr.cell? ⟨g, i * 3 + 1, none⟩ = some (.int .i64 x1) := t.c1
        have q2 : wr.cell? ⟨g, i * 3 + 2, none⟩ = some (.int .i64 x2) := t.c2
        clear t hx
        by_cases hA1 : (0 ≤ x0 ∧ x0 ≤ 5)
        · have cI : ∀ w : World, Calls Tryd.prog 22 #[.int .i64 x0, .int .i64 0, .int .i64 5] w fun e w' => e = .returned (.bool true) ∧ w' = w := fun w => by
            have := ty_in x0 0 5 w
            rwa [decide_eq_true hA1.1, decide_eq_true hA1.2] at this
          have CI : Hid (∀ w : World, Calls Tryd.prog 22 #[.int .i64 x0, .int .i64 0, .int .i64 5] w fun e w' => e = .returned (.bool true) ∧ w' = w) := cI
          clear cI
          rcases (by omega : x0 = 0 ∨ x0 = 1 ∨ x0 = 2 ∨ x0 = 3 ∨ x0 = 4 ∨ x0 = 5) with rfl | rfl | rfl | rfl | rfl | rfl
          · by_cases c1 : x1 < -1
            · have HV : Hid (tabB ts = false) := HN.out (by rw [HX.out]; simp [ownB] <;> omega)
              go_wp2_with fail
              refine (CI.out wr).mono ?_
              rintro e wr ⟨rfl, rfl⟩
              go_wp2
              go_ret
              exact ⟨by rw [HV.out] <;> rfl, hb⟩
            · by_cases c2 : x2 = 0
              · subst c2
                go_wp2_with fail
                refine (CI.out wr).mono ?_
                rintro e wr ⟨rfl, rfl⟩
                have HO : Hid (ownB ⟨0, x1, 0⟩ = true) := by show ownB ⟨0, x1, 0⟩ = true; simp [ownB] <;> omega
                have HNK : Hid (∀ q, q < (kidZ ⟨0, x1, 0⟩).length → ¬ (0 ≤ (kidZ ⟨0, x1, 0⟩).getD q 0 ∧ (kidZ ⟨0, x1, 0⟩).getD q 0 < ts.length) → tabB ts = false) := fun q hq h => tab_no_ent hin (fun e => h (e.kids _ (by rw [HX.out]; exact kid_mem _ q hq)))
                have HYK : Hid ((∀ q, q < (kidZ ⟨0, x1, 0⟩).length → 0 ≤ (kidZ ⟨0, x1, 0⟩).getD q 0 ∧ (kidZ ⟨0, x1, 0⟩).getD q 0 < ts.length) → EntOk ts.length (ts.getD i noTyp)) := fun h => by rw [HX.out]; exact ent_of HO.out h
                go_wp2_with fail
                refine (spec_kids 0 x1 0 wr).mono ?_
                have hkl := kidZ_length ⟨0, x1, 0⟩
                rintro e w2 ⟨ka, G, kc, rfl, hka, hkA, kb, hkG⟩
                generalize kidZ ⟨0, x1, 0⟩ = ks at *
                have HKA : Hid (IntAt w2 G ks) := hkA
                have hb2 : Below w.heap.size w w2 := hb.trans (kb.mono hbs)
                have hb2s := hb2.size
                clear hkA kb q0 q1 q2 hb HO
                go_wp2
                go_loopw [5] (fun qv wq => ∃ q : Nat, qv = .int .i64 q ∧ q ≤ ks.length ∧ Hid (∀ p, p < q → 0 ≤ ks.getD p 0 ∧ ks.getD p 0 < ts.length) ∧ wq = w2) (fun qv _ => ks.length - (intOf qv).toNat)
                case atStart => exact ⟨0, rfl, by omega, fun p hp => absurd hp (by omega), rfl⟩
                case round =>
                  obtain ⟨q, rfl, hq, HQ, rfl⟩ := hrel
                  by_cases hqn : q < ks.length
                  · have hqn' : (q : Int) < ks.length := by omega
                    obtain rfl := hka (by omega)
                    have ck := HKA.out q hqn
                    have HN2 : Hid (¬ (0 ≤ ks.getD q 0 ∧ ks.getD q 0 < ts.length) → tabB ts = false) := HNK.out q hqn
                    have HQ2 : Hid ((0 ≤ ks.getD q 0 ∧ ks.getD q 0 < ts.length) → ∀ p, p < q + 1 → 0 ≤ ks.getD p 0 ∧ ks.getD p 0 < ts.length) := fun h p hp => by
                      by_cases e : p = q
                      · subst e; exact h
                      · exact HQ.out p (by omega)
                    generalize ks.getD q 0 = kv at ck HN2 HQ2
                    go_wp2_with fail
                    refine (ty_in kv 0 (ts.length - 1) _).mono ?_
                    rintro e wv ⟨rfl, rfl⟩
                    by_cases hr : 0 ≤ kv ∧ kv < ts.length
                    · rw [decide_eq_true hr.1, decide_eq_true (show kv ≤ (ts.length : Int) - 1 by omega)]
                      have HQ3 : Hid (_) := HQ2.out hr
                      clear hr HN2 HQ2
                      go_wp2
                      go_roundw
                      case rel => exact ⟨q + 1, by go_num, by omega, HQ3, trivial⟩
                      case measure => simp [intOf]; omega
                    · have HV : Hid (tabB ts = false) := HN2.out hr
                      rw [show (decide (0 ≤ kv) && decide (kv ≤ (ts.length : Int) - 1)) = false by
                        rw [Bool.and_eq_false_iff]
                        rcases Int.lt_or_le kv 0 with h | h
                        · exact Or.inl (decide_eq_false (by omega))
                        · exact Or.inr (decide_eq_false (by omega))]
                      clear hr HN2 HQ2
                      go_wp2
                      go_ret
                      exact ⟨by rw [HV.out] <;> rfl, hb2⟩
                  · obtain rfl : q = ks.length := by omega
                    have HEn : Hid (∀ j, j < i + 1 → EntOk ts.length (ts.getD j noTyp)) := fun j hj => by
                      by_cases e : j = i
                      · subst e; exact HYK.out HQ.out
                      · exact HE.out j (by omega)
                    go_wp2
                    go_roundw
                    case rel => exact ⟨i + 1, by go_num, by omega, HEn, hb2⟩
                    case measure => simp [intOf]; omega
              · have HV : Hid (tabB ts = false) := HN.out (by rw [HX.out]; simp [ownB] <;> omega)
                go_wp2_with fail
                refine (CI.out wr).mono ?_
                rintro e wr ⟨rfl, rfl⟩
                go_wp2
                go_ret
                exact ⟨by rw [HV.out] <;> rfl, hb⟩
          · by_cases c1 : x1 = 0
            · by_cases c2 : x2 = 0
              · subst c1 c2
                go_wp2_with fail
                refine (CI.out wr).mono ?_
                rintro e wr ⟨rfl, rfl⟩
                have HO : Hid (ownB ⟨1, 0, 0⟩ = true) := by show ownB ⟨1, 0, 0⟩ = true; simp [ownB] <;> omega
                have HNK : Hid (∀ q, q < (kidZ ⟨1, 0, 0⟩).length → ¬ (0 ≤ (kidZ ⟨1, 0, 0⟩).getD q 0 ∧ (kidZ ⟨1, 0, 0⟩).getD q 0 < ts.length) → tabB ts = false) := fun q hq h => tab_no_ent hin (fun e => h (e.kids _ (by rw [HX.out]; exact kid_mem _ q hq)))
                have HYK : Hid ((∀ q, q < (kidZ ⟨1, 0, 0⟩).length → 0 ≤ (kidZ ⟨1, 0, 0⟩).getD q 0 ∧ (kidZ ⟨1, 0, 0⟩).getD q 0 < ts.length) → EntOk ts.length (ts.getD i noTyp)) := fun h => by rw [HX.out]; exact ent_of HO.out h
                go_wp2_with fail
                refine (spec_kids 1 0 0 wr).mono ?_
                have hkl := kidZ_length ⟨1, 0, 0⟩
                rintro e w2 ⟨ka, G, kc, rfl, hka, hkA, kb, hkG⟩
                generalize kidZ ⟨1, 0, 0⟩ = ks at *
                have HKA : Hid (IntAt w2 G ks) := hkA
                have hb2 : Below w.heap.size w w2 := hb.trans (kb.mono hbs)
                have hb2s := hb2.size
                clear hkA kb q0 q1 q2 hb HO
                go_wp2
                go_loopw [5] (fun qv wq => ∃ q : Nat, qv = .int .i64 q ∧ q ≤ ks.length ∧ Hid (∀ p, p < q → 0 ≤ ks.getD p 0 ∧ ks.getD p 0 < ts.length) ∧ wq = w2) (fun qv _ => ks.length - (intOf qv).toNat)
                case atStart => exact ⟨0, rfl, by omega, fun p hp => absurd hp (by omega), rfl⟩
                case round =>
                  obtain ⟨q, rfl, hq, HQ, rfl⟩ := hrel
                  by_cases hqn : q < ks.length
                  · have hqn' : (q : Int) < ks.length := by omega
                    obtain rfl := hka (by omega)
                    have ck := HKA.out q hqn
                    have HN2 : Hid (¬ (0 ≤ ks.getD q 0 ∧ ks.getD q 0 < ts.length) → tabB ts = false) := HNK.out q hqn
                    have HQ2 : Hid ((0 ≤ ks.getD q 0 ∧ ks.getD q 0 < ts.length) → ∀ p, p < q + 1 → 0 ≤ ks.getD p 0 ∧ ks.getD p 0 < ts.length) := fun h p hp => by
                      by_cases e : p = q
                      · subst e; exact h
                      · exact HQ.out p (by omega)
                    generalize ks.getD q 0 = kv at ck HN2 HQ2
                    go_wp2_with fail
                    refine (ty_in kv 0 (ts.length - 1) _).mono ?_
                    rintro e wv ⟨rfl, rfl⟩
                    by_cases hr : 0 ≤ kv ∧ kv < ts.length
                    · rw [decide_eq_true hr.1, decide_eq_true (show kv ≤ (ts.length : Int) - 1 by omega)]
                      have HQ3 : Hid (_) := HQ2.out hr
                      clear hr HN2 HQ2
                      go_wp2
                      go_roundw
                      case rel => exact ⟨q + 1, by go_num, by omega, HQ3, trivial⟩
                      case measure => simp [intOf]; omega
                    · have HV : Hid (tabB ts = false) := HN2.out hr
                      rw [show (decide (0 ≤ kv) && decide (kv ≤ (ts.length : Int) - 1)) = false by
                        rw [Bool.and_eq_false_iff]
                        rcases Int.lt_or_le kv 0 with h | h
                        · exact Or.inl (decide_eq_false (by omega))
                        · exact Or.inr (decide_eq_false (by omega))]
                      clear hr HN2 HQ2
                      go_wp2
                      go_ret
                      exact ⟨by rw [HV.out] <;> rfl, hb2⟩
                  · obtain rfl : q = ks.length := by omega
                    have HEn : Hid (∀ j, j < i + 1 → EntOk ts.length (ts.getD j noTyp)) := fun j hj => by
                      by_cases e : j = i
                      · subst e; exact HYK.out HQ.out
                      · exact HE.out j (by omega)
                    go_wp2
                    go_roundw
                    case rel => exact ⟨i + 1, by go_num, by omega, HEn, hb2⟩
                    case measure => simp [intOf]; omega
              · have HV : Hid (tabB ts = false) := HN.out (by rw [HX.out]; simp [ownB] <;> omega)
                go_wp2_with fail
                refine (CI.out wr).mono ?_
                rintro e wr ⟨rfl, rfl⟩
                go_wp2
                go_ret
                exact ⟨by rw [HV.out] <;> rfl, hb⟩
            · have HV : Hid (tabB ts = false) := HN.out (by rw [HX.out]; simp [ownB] <;> omega)
              go_wp2_with fail
              refine (CI.out wr).mono ?_
              rintro e wr ⟨rfl, rfl⟩
              go_wp2
              go_ret
              exact ⟨by rw [HV.out] <;> rfl, hb⟩
          · go_wp2_with fail
            refine (CI.out wr).mono ?_
            rintro e wr ⟨rfl, rfl⟩
            have HO : Hid (ownB ⟨2, x1, x2⟩ = true) := by show ownB ⟨2, x1, x2⟩ = true; simp [ownB] <;> omega
            have HNK : Hid (∀ q, q < (kidZ ⟨2, x1, x2⟩).length → ¬ (0 ≤ (kidZ ⟨2, x1, x2⟩).getD q 0 ∧ (kidZ ⟨2, x1, x2⟩).getD q 0 < ts.length) → tabB ts = false) := fun q hq h => tab_no_ent hin (fun e => h (e.kids _ (by rw [HX.out]; exact kid_mem _ q hq)))
            have HYK : Hid ((∀ q, q < (kidZ ⟨2, x1, x2⟩).length → 0 ≤ (kidZ ⟨2, x1, x2⟩).getD q 0 ∧ (kidZ ⟨2, x1, x2⟩).getD q 0 < ts.length) → EntOk ts.length (ts.getD i noTyp)) := fun h => by rw [HX.out]; exact ent_of HO.out h
            go_wp2_with fail
            refine (spec_kids 2 x1 x2 wr).mono ?_
            have hkl := kidZ_length ⟨2, x1, x2⟩
            rintro e w2 ⟨ka, G, kc, rfl, hka, hkA, kb, hkG⟩
            generalize kidZ ⟨2, x1, x2⟩ = ks at *
            have HKA : Hid (IntAt w2 G ks) := hkA
            have hb2 : Below w.heap.size w w2 := hb.trans (kb.mono hbs)
            have hb2s := hb2.size
            clear hkA kb q0 q1 q2 hb HO
            go_wp2
            go_loopw [5] (fun qv wq => ∃ q : Nat, qv = .int .i64 q ∧ q ≤ ks.length ∧ Hid (∀ p, p < q → 0 ≤ ks.getD p 0 ∧ ks.getD p 0 < ts.length) ∧ wq = w2) (fun qv _ => ks.length - (intOf qv).toNat)
            case atStart => exact ⟨0, rfl, by omega, fun p hp => absurd hp (by omega), rfl⟩
            case round =>
              obtain ⟨q, rfl, hq, HQ, rfl⟩ := hrel
              by_cases hqn : q < ks.length
              · have hqn' : (q : Int) < ks.length := by omega
                obtain rfl := hka (by omega)
                have ck := HKA.out q hqn
                have HN2 : Hid (¬ (0 ≤ ks.getD q 0 ∧ ks.getD q 0 < ts.length) → tabB ts = false) := HNK.out q hqn
                have HQ2 : Hid ((0 ≤ ks.getD q 0 ∧ ks.getD q 0 < ts.length) → ∀ p, p < q + 1 → 0 ≤ ks.getD p 0 ∧ ks.getD p 0 < ts.length) := fun h p hp => by
                  by_cases e : p = q
                  · subst e; exact h
                  · exact HQ.out p (by omega)
                generalize ks.getD q 0 = kv at ck HN2 HQ2
                go_wp2_with fail
                refine (ty_in kv 0 (ts.length - 1) _).mono ?_
                rintro e wv ⟨rfl, rfl⟩
                by_cases hr : 0 ≤ kv ∧ kv < ts.length
                · rw [decide_eq_true hr.1, decide_eq_true (show kv ≤ (ts.length : Int) - 1 by omega)]
                  have HQ3 : Hid (_) := HQ2.out hr
                  clear hr HN2 HQ2
                  go_wp2
                  go_roundw
                  case rel => exact ⟨q + 1, by go_num, by omega, HQ3, trivial⟩
                  case measure => simp [intOf]; omega
                · have HV : Hid (tabB ts = false) := HN2.out hr
                  rw [show (decide (0 ≤ kv) && decide (kv ≤ (ts.length : Int) - 1)) = false by
                    rw [Bool.and_eq_false_iff]
                    rcases Int.lt_or_le kv 0 with h | h
                    · exact Or.inl (decide_eq_false (by omega))
                    · exact Or.inr (decide_eq_false (by omega))]
                  clear hr HN2 HQ2
                  go_wp2
                  go_ret
                  exact ⟨by rw [HV.out] <;> rfl, hb2⟩
              · obtain rfl : q = ks.length := by omega
                have HEn : Hid (∀ j, j < i + 1 → EntOk ts.length (ts.getD j noTyp)) := fun j hj => by
                  by_cases e : j = i
                  · subst e; exact HYK.out HQ.out
                  · exact HE.out j (by omega)
                go_wp2
                go_roundw
                case rel => exact ⟨i + 1, by go_num, by omega, HEn, hb2⟩
                case measure => simp [intOf]; omega
          · go_wp2_with fail
            refine (CI.out wr).mono ?_
            rintro e wr ⟨rfl, rfl⟩
            have HO : Hid (ownB ⟨3, x1, x2⟩ = true) := by show ownB ⟨3, x1, x2⟩ = true; simp [ownB] <;> omega
            have HNK : Hid (∀ q, q < (kidZ ⟨3, x1, x2⟩).length → ¬ (0 ≤ (kidZ ⟨3, x1, x2⟩).getD q 0 ∧ (kidZ ⟨3, x1, x2⟩).getD q 0 < ts.length) → tabB ts = false) := fun q hq h => tab_no_ent hin (fun e => h (e.kids _ (by rw [HX.out]; exact kid_mem _ q hq)))
            have HYK : Hid ((∀ q, q < (kidZ ⟨3, x1, x2⟩).length → 0 ≤ (kidZ ⟨3, x1, x2⟩).getD q 0 ∧ (kidZ ⟨3, x1, x2⟩).getD q 0 < ts.length) → EntOk ts.length (ts.getD i noTyp)) := fun h => by rw [HX.out]; exact ent_of HO.out h
            go_wp2_with fail
            refine (spec_kids 3 x1 x2 wr).mono ?_
            have hkl := kidZ_length ⟨3, x1, x2⟩
            rintro e w2 ⟨ka, G, kc, rfl, hka, hkA, kb, hkG⟩
            generalize kidZ ⟨3, x1, x2⟩ = ks at *
            have HKA : Hid (IntAt w2 G ks) := hkA
            have hb2 : Below w.heap.size w w2 := hb.trans (kb.mono hbs)
            have hb2s := hb2.size
            clear hkA kb q0 q1 q2 hb HO
            go_wp2
            go_loopw [5] (fun qv wq => ∃ q : Nat, qv = .int .i64 q ∧ q ≤ ks.length ∧ Hid (∀ p, p < q → 0 ≤ ks.getD p 0 ∧ ks.getD p 0 < ts.length) ∧ wq = w2) (fun qv _ => ks.length - (intOf qv).toNat)
            case atStart => exact ⟨0, rfl, by omega, fun p hp => absurd hp (by omega), rfl⟩
            case round =>
              obtain ⟨q, rfl, hq, HQ, rfl⟩ := hrel
              by_cases hqn : q < ks.length
              · have hqn' : (q : Int) < ks.length := by omega
                obtain rfl := hka (by omega)
                have ck := HKA.out q hqn
                have HN2 : Hid (¬ (0 ≤ ks.getD q 0 ∧ ks.getD q 0 < ts.length) → tabB ts = false) := HNK.out q hqn
                have HQ2 : Hid ((0 ≤ ks.getD q 0 ∧ ks.getD q 0 < ts.length) → ∀ p, p < q + 1 → 0 ≤ ks.getD p 0 ∧ ks.getD p 0 < ts.length) := fun h p hp => by
                  by_cases e : p = q
                  · subst e; exact h
                  · exact HQ.out p (by omega)
                generalize ks.getD q 0 = kv at ck HN2 HQ2
                go_wp2_with fail
                refine (ty_in kv 0 (ts.length - 1) _).mono ?_
                rintro e wv ⟨rfl, rfl⟩
                by_cases hr : 0 ≤ kv ∧ kv < ts.length
                · rw [decide_eq_true hr.1, decide_eq_true (show kv ≤ (ts.length : Int) - 1 by omega)]
                  have HQ3 : Hid (_) := HQ2.out hr
                  clear hr HN2 HQ2
                  go_wp2
                  go_roundw
                  case rel => exact ⟨q + 1, by go_num, by omega, HQ3, trivial⟩
                  case measure => simp [intOf]; omega
                · have HV : Hid (tabB ts = false) := HN2.out hr
                  rw [show (decide (0 ≤ kv) && decide (kv ≤ (ts.length : Int) - 1)) = false by
                    rw [Bool.and_eq_false_iff]
                    rcases Int.lt_or_le kv 0 with h | h
                    · exact Or.inl (decide_eq_false (by omega))
                    · exact Or.inr (decide_eq_false (by omega))]
                  clear hr HN2 HQ2
                  go_wp2
                  go_ret
                  exact ⟨by rw [HV.out] <;> rfl, hb2⟩
              · obtain rfl : q = ks.length := by omega
                have HEn : Hid (∀ j, j < i + 1 → EntOk ts.length (ts.getD j noTyp)) := fun j hj => by
                  by_cases e : j = i
                  · subst e; exact HYK.out HQ.out
                  · exact HE.out j (by omega)
                go_wp2
                go_roundw
                case rel => exact ⟨i + 1, by go_num, by omega, HEn, hb2⟩
                case measure => simp [intOf]; omega
          · by_cases c2 : x2 = 0
            · subst c2
              go_wp2_with fail
              refine (CI.out wr).mono ?_
              rintro e wr ⟨rfl, rfl⟩
              have HO : Hid (ownB ⟨4, x1, 0⟩ = true) := by show ownB ⟨4, x1, 0⟩ = true; simp [ownB] <;> omega
              have HNK : Hid (∀ q, q < (kidZ ⟨4, x1, 0⟩).length → ¬ (0 ≤ (kidZ ⟨4, x1, 0⟩).getD q 0 ∧ (kidZ ⟨4, x1, 0⟩).getD q 0 < ts.length) → tabB ts = false) := fun q hq h => tab_no_ent hin (fun e => h (e.kids _ (by rw [HX.out]; exact kid_mem _ q hq)))
              have HYK : Hid ((∀ q, q < (kidZ ⟨4, x1, 0⟩).length → 0 ≤ (kidZ ⟨4, x1, 0⟩).getD q 0 ∧ (kidZ ⟨4, x1, 0⟩).getD q 0 < ts.length) → EntOk ts.length (ts.getD i noTyp)) := fun h => by rw [HX.out]; exact ent_of HO.out h
              go_wp2_with fail
              refine (spec_kids 4 x1 0 wr).mono ?_
              have hkl := kidZ_length ⟨4, x1, 0⟩
              rintro e w2 ⟨ka, G, kc, rfl, hka, hkA, kb, hkG⟩
              generalize kidZ ⟨4, x1, 0⟩ = ks at *
              have HKA : Hid (IntAt w2 G ks) := hkA
              have hb2 : Below w.heap.size w w2 := hb.trans (kb.mono hbs)
              have hb2s := hb2.size
              clear hkA kb q0 q1 q2 hb HO
              go_wp2
              go_loopw [5] (fun qv wq => ∃ q : Nat, qv = .int .i64 q ∧ q ≤ ks.length ∧ Hid (∀ p, p < q → 0 ≤ ks.getD p 0 ∧ ks.getD p 0 < ts.length) ∧ wq = w2) (fun qv _ => ks.length - (intOf qv).toNat)
              case atStart => exact ⟨0, rfl, by omega, fun p hp => absurd hp (by omega), rfl⟩
              case round =>
                obtain ⟨q, rfl, hq, HQ, rfl⟩ := hrel
                by_cases hqn : q < ks.length
                · have hqn' : (q : Int) < ks.length := by omega
                  obtain rfl := hka (by omega)
                  have ck := HKA.out q hqn
                  have HN2 : Hid (¬ (0 ≤ ks.getD q 0 ∧ ks.getD q 0 < ts.length) → tabB ts = false) := HNK.out q hqn
                  have HQ2 : Hid ((0 ≤ ks.getD q 0 ∧ ks.getD q 0 < ts.length) → ∀ p, p < q + 1 → 0 ≤ ks.getD p 0 ∧ ks.getD p 0 < ts.length) := fun h p hp => by
                    by_cases e : p = q
                    · subst e; exact h
                    · exact HQ.out p (by omega)
                  generalize ks.getD q 0 = kv at ck HN2 HQ2
                  go_wp2_with fail
                  refine (ty_in kv 0 (ts.length - 1) _).mono ?_
                  rintro e wv ⟨rfl, rfl⟩
                  by_cases hr : 0 ≤ kv ∧ kv < ts.length
                  · rw [decide_eq_true hr.1, decide_eq_true (show kv ≤ (ts.length : Int) - 1 by omega)]
                    have HQ3 : Hid (_) := HQ2.out hr
                    clear hr HN2 HQ2
                    go_wp2
                    go_roundw
                    case rel => exact ⟨q + 1, by go_num, by omega, HQ3, trivial⟩
                    case measure => simp [intOf]; omega
                  · have HV : Hid (tabB ts = false) := HN2.out hr
                    rw [show (decide (0 ≤ kv) && decide (kv ≤ (ts.length : Int) - 1)) = false by
                      rw [Bool.and_eq_false_iff]
                      rcases Int.lt_or_le kv 0 with h | h
                      · exact Or.inl (decide_eq_false (by omega))
                      · exact Or.inr (decide_eq_false (by omega))]
                    clear hr HN2 HQ2
                    go_wp2
                    go_ret
                    exact ⟨by rw [HV.out] <;> rfl, hb2⟩
                · obtain rfl : q = ks.length := by omega
                  have HEn : Hid (∀ j, j < i + 1 → EntOk ts.length (ts.getD j noTyp)) := fun j hj => by
                    by_cases e : j = i
                    · subst e; exact HYK.out HQ.out
                    · exact HE.out j (by omega)
                  go_wp2
                  go_roundw
                  case rel => exact ⟨i + 1, by go_num, by omega, HEn, hb2⟩
                  case measure => simp [intOf]; omega
            · have HV : Hid (tabB ts = false) := HN.out (by rw [HX.out]; simp [ownB] <;> omega)
              go_wp2_with fail
              refine (CI.out wr).mono ?_
              rintro e wr ⟨rfl, rfl⟩
              go_wp2
              go_ret
              exact ⟨by rw [HV.out] <;> rfl, hb⟩
          · by_cases c2 : x2 = 0
            · subst c2
              go_wp2_with fail
              refine (CI.out wr).mono ?_
              rintro e wr ⟨rfl, rfl⟩
              have HO : Hid (ownB ⟨5, x1, 0⟩ = true) := by show ownB ⟨5, x1, 0⟩ = true; simp [ownB] <;> omega
              have HNK : Hid (∀ q, q < (kidZ ⟨5, x1, 0⟩).length → ¬ (0 ≤ (kidZ ⟨5, x1, 0⟩).getD q 0 ∧ (kidZ ⟨5, x1, 0⟩).getD q 0 < ts.length) → tabB ts = false) := fun q hq h => tab_no_ent hin (fun e => h (e.kids _ (by rw [HX.out]; exact kid_mem _ q hq)))
              have HYK : Hid ((∀ q, q < (kidZ ⟨5, x1, 0⟩).length → 0 ≤ (kidZ ⟨5, x1, 0⟩).getD q 0 ∧ (kidZ ⟨5, x1, 0⟩).getD q 0 < ts.length) → EntOk ts.length (ts.getD i noTyp)) := fun h => by rw [HX.out]; exact ent_of HO.out h
              go_wp2_with fail
              refine (spec_kids 5 x1 0 wr).mono ?_
              have hkl := kidZ_length ⟨5, x1, 0⟩
              rintro e w2 ⟨ka, G, kc, rfl, hka, hkA, kb, hkG⟩
              generalize kidZ ⟨5, x1, 0⟩ = ks at *
              have HKA : Hid (IntAt w2 G ks) := hkA
              have hb2 : Below w.heap.size w w2 := hb.trans (kb.mono hbs)
              have hb2s := hb2.size
              clear hkA kb q0 q1 q2 hb HO
              go_wp2
              go_loopw [5] (fun qv wq => ∃ q : Nat, qv = .int .i64 q ∧ q ≤ ks.length ∧ Hid (∀ p, p < q → 0 ≤ ks.getD p 0 ∧ ks.getD p 0 < ts.length) ∧ wq = w2) (fun qv _ => ks.length - (intOf qv).toNat)
              case atStart => exact ⟨0, rfl, by omega, fun p hp => absurd hp (by omega), rfl⟩
              case round =>
                obtain ⟨q, rfl, hq, HQ, rfl⟩ := hrel
                by_cases hqn : q < ks.length
                · have hqn' : (q : Int) < ks.length := by omega
                  obtain rfl := hka (by omega)
                  have ck := HKA.out q hqn
                  have HN2 : Hid (¬ (0 ≤ ks.getD q 0 ∧ ks.getD q 0 < ts.length) → tabB ts = false) := HNK.out q hqn
                  have HQ2 : Hid ((0 ≤ ks.getD q 0 ∧ ks.getD q 0 < ts.length) → ∀ p, p < q + 1 → 0 ≤ ks.getD p 0 ∧ ks.getD p 0 < ts.length) := fun h p hp => by
                    by_cases e : p = q
                    · subst e; exact h
                    · exact HQ.out p (by omega)
                  generalize ks.getD q 0 = kv at ck HN2 HQ2
                  go_wp2_with fail
                  refine (ty_in kv 0 (ts.length - 1) _).mono ?_
                  rintro e wv ⟨rfl, rfl⟩
                  by_cases hr : 0 ≤ kv ∧ kv < ts.length
                  · rw [decide_eq_true hr.1, decide_eq_true (show kv ≤ (ts.length : Int) - 1 by omega)]
                    have HQ3 : Hid (_) := HQ2.out hr
                    clear hr HN2 HQ2
                    go_wp2
                    go_roundw
                    case rel => exact ⟨q + 1, by go_num, by omega, HQ3, trivial⟩
                    case measure => simp [intOf]; omega
                  · have HV : Hid (tabB ts = false) := HN2.out hr
                    rw [show (decide (0 ≤ kv) && decide (kv ≤ (ts.length : Int) - 1)) = false by
                      rw [Bool.and_eq_false_iff]
                      rcases Int.lt_or_le kv 0 with h | h
                      · exact Or.inl (decide_eq_false (by omega))
                      · exact Or.inr (decide_eq_false (by omega))]
                    clear hr HN2 HQ2
                    go_wp2
                    go_ret
                    exact ⟨by rw [HV.out] <;> rfl, hb2⟩
                · obtain rfl : q = ks.length := by omega
                  have HEn : Hid (∀ j, j < i + 1 → EntOk ts.length (ts.getD j noTyp)) := fun j hj => by
                    by_cases e : j = i
                    · subst e; exact HYK.out HQ.out
                    · exact HE.out j (by omega)
                  go_wp2
                  go_roundw
                  case rel => exact ⟨i + 1, by go_num, by omega, HEn, hb2⟩
                  case measure => simp [intOf]; omega
            · have HV : Hid (tabB ts = false) := HN.out (by rw [HX.out]; simp [ownB] <;> omega)
              go_wp2_with fail
              refine (CI.out wr).mono ?_
              rintro e wr ⟨rfl, rfl⟩
              go_wp2
              go_ret
              exact ⟨by rw [HV.out] <;> rfl, hb⟩
        · have cI : ∀ w : World, Calls Tryd.prog 22 #[.int .i64 x0, .int .i64 0, .int .i64 5] w fun e w' => e = .returned (.bool false) ∧ w' = w := fun w => by
            have := ty_in x0 0 5 w
            rwa [show (decide (0 ≤ x0) && decide (x0 ≤ 5)) = false by
              rw [Bool.and_eq_false_iff]
              rcases Int.lt_or_le x0 0 with h | h
              · exact Or.inl (decide_eq_false (by omega))
              · exact Or.inr (decide_eq_false (by omega))] at this
          have CI : Hid (∀ w : World, Calls Tryd.prog 22 #[.int .i64 x0, .int .i64 0, .int .i64 5] w fun e w' => e = .returned (.bool false) ∧ w' = w) := cI
          clear cI
          have HV : Hid (tabB ts = false) := HN.out (by rw [HX.out]; unfold ownB; simp; omega)
          go_wp2_with fail
          refine (CI.out wr).mono ?_
          rintro e wr ⟨rfl, rfl⟩
          go_wp2
          go_ret
          exact ⟨by rw [HV.out] <;> rfl, hb⟩
      · obtain rfl : i = ts.length := by omega
        have HT : Hid (tabB ts = (roundsG ts ts.length).all id) := tab_of_rounds h40 HE.out
        obtain ⟨i0, hi, hz0, hz1, hz2⟩ := info_parts info_bool
        have hmk := run_make (P := Tryd.prog) wr 54 4 i0 _ Tryd.underlying54 hi hz0 .i64 .i64 (ts.length : Int) (ts.length : Int) (by omega) (by omega) (by rw [hz2]; omega) (by omega)
        rw [hz1] at hmk
        have ez : ((ts.length : Nat) : Int).toNat = ts.length := by omega
        rw [ez, made_bools] at hmk
        clear hi hz0 hz1 hz2 ez
        obtain ⟨wm, hwm⟩ : ∃ wm, wr.alloc (.cells ((List.replicate ts.length false).map Value.bool).toArray 4) = wm := ⟨_, rfl⟩
        rw [hwm] at hmk
        have HB0 : Hid (BoolAt wm wr.heap.size (roundsG ts 0)) := by show BoolAt _ _ _; rw [← hwm]; exact (MapKept.heap_alloc wr _).1
        have hbm : Below w.heap.size w wm := by rw [← hwm]; exact hb.alloc hbs _
        have HG : Hid (w.heap.size ≤ wr.heap.size) := hbs
        clear hwm hb hbs
        generalize wr.heap.size = G at *
        have HTS : Hid (∀ W : World, Below w.heap.size w W → TypAt W g ts) := fun W hW => HA.out.below hW (fun h => HA.out.lt h)
        have HKL : Hid (∀ i q, i < ts.length → q < (kidZ (ts.getD i noTyp)).length → 0 ≤ (kidZ (ts.getD i noTyp)).getD q 0 ∧ (kidZ (ts.getD i noTyp)).getD q 0 < ts.length) := fun i q hi hq => (HE.out i hi).kids _ (kid_mem _ q hq)
        go_wp2
        go_loopw [7, 8, 9, 10, 11] (fun rv _ _ _ _ wq => ∃ n : Nat, rv = .int .i64 n ∧ n ≤ ts.length ∧ Hid (BoolAt wq G (roundsG ts n)) ∧ Below w.heap.size w wq) (fun rv _ _ _ _ _ => ts.length - (intOf rv).toNat)
        case atStart => exact ⟨0, rfl, by omega, HB0, hbm⟩
        case round =>
          obtain ⟨n, rfl, hn, HB, hb⟩ := hrel
          clear HB0 hbm hmk
          by_cases hnn : n < ts.length
          · have hnn' : (n : Int) < ts.length := by omega
            go_wp2
            go_loopw [8, 9, 10, 11] (fun iv _ _ _ wz => ∃ i : Nat, iv = .int .i64 i ∧ i ≤ ts.length ∧ Hid (BoolAt wz G (sweepG ts (roundsG ts n) i)) ∧ Below w.heap.size w wz) (fun iv _ _ _ _ => ts.length - (intOf iv).toNat)
            case atStart => exact ⟨0, rfl, by omega, HB, hb⟩
            case round =>
              obtain ⟨i, rfl, hi, HBi, hb⟩ := hrel
              have hbs := hb.size
              clear HB
              by_cases hin : i < ts.length
              · have hin' : (i : Int) < ts.length := by omega
                obtain rfl := hne (by omega)
                have t := (HTS.out wr hb) i hin
                have hgl : i < (sweepG ts (roundsG ts n) i).length := by rw [sweepG_length, roundsG_length]; exact hin
                have HOR : Hid (_) := ((ginv_rounds ts n).sweep i (by rw [roundsG_length]; omega)).or hgl
                have HST : Hid (sweepG ts (roundsG ts n) (i + 1) = (sweepG ts (roundsG ts n) i).set i (allG (sweepG ts (roundsG ts n) i) (kidZ (ts.getD i noTyp)))) := rfl
                have HKI : Hid (∀ q, q < (kidZ (ts.getD i noTyp)).length → 0 ≤ (kidZ (ts.getD i noTyp)).getD q 0 ∧ (kidZ (ts.getD i noTyp)).getD q 0 < ts.length) := fun q hq => HKL.out i q hin hq
                have HGL : Hid ((sweepG ts (roundsG ts n) i).length = ts.length) := by show _ = _; rw [sweepG_length, roundsG_length]
                generalize sweepG ts (roundsG ts n) i = gs at *
                generalize ts.getD i noTyp = x at *
                obtain ⟨x0, x1, x2⟩ := x
                have q0 : wr.cell? ⟨g, i * 3, none⟩ = some (.int .i64 x0) := t.c0
                have q1 : wr.cell? ⟨g, i * 3 + 1, none⟩ = some (.int .i64 x1) := t.c1
                have q2 : wr.cell? ⟨g, i * 3 + 2, none⟩ = some (.int .i64 x2) := t.c2
                clear t hgl
                go_wp2_with fail
                refine (spec_kids x0 x1 x2 wr).mono ?_
                rintro e w2 ⟨ka, K, kc, rfl, hka, hkA, kb, hkG⟩
                have hkl := kidZ_length ⟨x0, x1, x2⟩
                generalize kidZ ⟨x0, x1, x2⟩ = ks at *
                have HKA : Hid (IntAt w2 K ks) := hkA
                have HB2 : Hid (BoolAt w2 G gs) := HBi.out.below kb HBi.out.lt
                have hb2 : Below w.heap.size w w2 := hb.trans (kb.mono hbs)
                clear hkA kb q0 q1 q2 hb hbs HBi hkG
                go_wp2
                go_loopw [10, 11] (fun av qv wu => ∃ q : Nat, qv = .int .i64 q ∧ q ≤ ks.length ∧ av = .bool (allG gs (ks.take q)) ∧ wu = w2) (fun _ qv _ => ks.length - (intOf qv).toNat)
                case atStart => exact ⟨0, rfl, by omega, rfl, rfl⟩
                case round =>
                  obtain ⟨q, rfl, hq, rfl, rfl⟩ := hrel
                  by_cases hqn : q < ks.length
                  · have hqn' : (q : Int) < ks.length := by omega
                    obtain rfl := hka (by omega)
                    have ck := HKA.out q hqn
                    have HS : Hid (_) := all_step gs ks q hqn
                    obtain ⟨hk1, hk2⟩ := HKI.out q hqn
                    generalize ks.getD q 0 = kv at ck HS hk1 hk2
                    obtain ⟨m, rfl⟩ := Int.eq_ofNat_of_zero_le hk1
                    have hm : m < ts.length := by omega
                    have cb := HB2.out.cell m (by rw [HGL.out]; exact hm)
                    have HS' : Hid (allG gs (ks.take (q + 1)) = (allG gs (ks.take q) && gs.getD m false)) := HS.out
                    generalize gs.getD m false = bm at cb HS'
                    generalize allG gs (ks.take q) = al at *
                    clear HS hk1
                    cases al
                    · have HS2 : Hid (allG gs (ks.take (q + 1)) = false) := HS'.out
                      clear HS'
                      go_wp2
                      go_roundw
                      case rel => exact ⟨q + 1, by go_num, by omega, by rw [HS2.out], trivial⟩
                      case measure => simp [intOf]; omega
                    · have HS2 : Hid (allG gs (ks.take (q + 1)) = bm) := by show _ = _; rw [HS'.out]; rfl
                      clear HS'
                      go_wp2
                      go_roundw
                      case rel => exact ⟨q + 1, by go_num, by omega, by rw [HS2.out], trivial⟩
                      case measure => simp [intOf]; omega
                  · obtain rfl : q = ks.length := by omega
                    rw [List.take_length]
                    have cb := HB2.out.cell i (by rw [HGL.out]; exact hin)
                    have fz := HB2.out.frozen i
                    have HSet : Hid (∀ b, BoolAt (wr.setCell ⟨G, i, none⟩ (.bool b)) G (gs.set i b)) := fun b => HB2.out.set i b
                    have hbS : Hid (∀ b, Below w.heap.size w (wr.setCell ⟨G, i, none⟩ (.bool b))) := fun b => hb2.setCell (p := ⟨G, i, none⟩) HG.out _
                    generalize allG gs ks = al at *
                    generalize gs.getD i false = bi at cb HOR
                    cases bi
                    · have hal : Hid ((false || al) = al) := HOR.out
                      go_wp2
                      go_roundw
                      case rel => exact ⟨i + 1, by go_num, by omega, by rw [HST.out]; exact HSet.out al, hbS.out al⟩
                      case measure => simp [intOf]; omega
                    · have hal : Hid (al = true) := HOR.out.symm
                      go_wp2
                      go_roundw
                      case rel => exact ⟨i + 1, by go_num, by omega, by rw [HST.out, hal.out]; exact HSet.out true, hbS.out true⟩
                      case measure => simp [intOf]; omega
              · obtain rfl : i = ts.length := by omega
                go_wp2
                go_roundw
                case rel => exact ⟨n + 1, by go_num, by omega, HBi, hb⟩
                case measure => simp [intOf]; omega
          · obtain rfl : n = ts.length := by omega
            have HLL : Hid ((roundsG ts ts.length).length = ts.length) := roundsG_length ts _
            generalize roundsG ts ts.length = gs at *
            go_wp2
            go_loopw [12] (fun iv wz => ∃ i : Nat, iv = .int .i64 i ∧ i ≤ ts.length ∧ Hid (gs.all id = (gs.drop i).all id) ∧ wz = wr) (fun iv _ => ts.length - (intOf iv).toNat)
            case atStart => exact ⟨0, rfl, by omega, rfl, rfl⟩
            case round =>
              obtain ⟨i, rfl, hi, HD, rfl⟩ := hrel
              by_cases hin : i < ts.length
              · have hin' : (i : Int) < ts.length := by omega
                have hig : i < gs.length := by rw [HLL.out]; exact hin
                have cb := HB.out.cell i hig
                have HD2 : Hid (gs.all id = (gs.getD i false && (gs.drop (i + 1)).all id)) := by
                  show _ = _
                  have e : gs.getD i false = gs[i] := by simp [List.getD, hig]
                  rw [HD.out, List.drop_eq_getElem_cons hig, List.all_cons, e]
                  rfl
                generalize gs.getD i false = bi at cb HD2
                cases bi
                · have HV : Hid (tabB ts = false) := by show _ = _; rw [HT.out, HD2.out]; rfl
                  clear HD HD2 hig
                  go_wp2
                  go_ret
                  exact ⟨by rw [HV.out] <;> rfl, hb⟩
                · have HD3 : Hid (gs.all id = (gs.drop (i + 1)).all id) := by show _ = _; rw [HD2.out]; rfl
                  clear HD HD2 hig
                  go_wp2
                  go_roundw
                  case rel => exact ⟨i + 1, by go_num, by omega, HD3, trivial⟩
                  case measure => simp [intOf]; omega
              · have HV : Hid (tabB ts = true) := by
                  show _ = _
                  rw [HT.out, HD.out, List.drop_eq_nil_of_le (by rw [HLL.out]; omega)]
                  rfl
                go_wp2
                go_ret
                exact ⟨by rw [HV.out] <;> rfl, hb⟩
  · have HV : Hid (tabB ts = false) := tab_no_len h40
    have h40' : (40 : Int) < ts.length := by omega
    go_enter Tryd.func11, Tryd.ntmps11
    go_wp2
    go_ret
    exact ⟨by rw [HV.out] <;> rfl, Below.refl _ _⟩
end Go.Proofs.YtjjanmccijghgaaDoor
