/-
  Types, the specification's: does a variable stand in a type; two made one where the first is a free variable. Conditions: written at each theorem.
-/
import Derived.Test.YtbhfpfoekalphaaDoorHl
namespace Go.Proofs.YtbhfpfoekalphaaDoor
open Go.ChangeShapes Go.WideShapes Go.ChangeAt Go.RowKit
set_option linter.unusedVariables false

def occK (v : Nat) (ρ : Nat → Tr) (ks : List Int) : Bool := ks.any (fun k => occT v (ρ k.toNat))

theorem occ_rhs (v : Nat) (t : Typ) (ρ : Nat → Tr) (h0 : t.kind ≠ 0) : occT v (rhsT t ρ) = occK v ρ (kidZ t) := by
  unfold rhsT kidZ occK
  rw [if_neg h0]
  split
  · simp [occT]
  · split
    · simp [occT]
    · simp [occT]

theorem occK_drop (v : Nat) (ρ : Nat → Tr) (ks : List Int) (q : Nat) (h : q < ks.length) : occK v ρ (ks.drop q) = (occT v (ρ (ks.getD q 0).toNat) || occK v ρ (ks.drop (q + 1))) := by
  unfold occK
  have e : ks.getD q 0 = ks[q] := by simp [List.getD, h]
  rw [List.drop_eq_getElem_cons h, List.any_cons, e]

set_option maxHeartbeats 2000000 in
set_option maxRecDepth 20000 in
theorem spec_occ {ts : List Typ} {r : Nat → Nat} {ρ : Nat → Tr} (h : Ok ts r ρ) (a : Option Addr) (g cap : Nat) (hne : 0 < ts.length → a = some ⟨g, 0, none⟩) (hl : ts.length ≤ 1000) (v : Nat) (hv : v < ts.length) (hv0 : (ts.getD v noTyp).kind = 0) (hva : (ts.getD v noTyp).a < 0) : ∀ (K i : Nat), i < ts.length → r i < K → ∀ w : World, TypAt w g ts →
    Calls Tryd.prog 50 #[.slice a ts.length cap, .int .i64 v, .int .i64 i] w fun e w' => e = .returned (.bool (occT v (ρ i))) ∧ Below w.heap.size w w' := by
  intro K
  induction K with
  | zero => intro i _ h; omega
  | succ K ih =>
    intro i hi hK w hA
    have HA : Hid (TypAt w g ts) := hA
    have HH : Hid (Ok ts r ρ) := h
    have IH : Hid (_) := ih
    have HV0 : Hid ((ts.getD v noTyp).kind = 0) := hv0
    obtain rfl := hne (by omega)
    clear hA h ih hv0
    go_enter Tryd.func50, Tryd.ntmps50
    go_wp2_with fail
    refine (spec_find HH.out _ g cap (fun _ => rfl) hl i hi w HA.out).mono ?_
    rintro e w1 ⟨⟨j, rfl, hf⟩, rfl⟩
    have HF : Hid (Found ts r ρ i j) := hf
    have hj := hf.lt
    have e1 : (j : Int) < ts.length := by omega
    have t := HA.out j hj
    obtain ⟨⟨x0, x1, x2⟩, hx⟩ : ∃ y, ts.getD j noTyp = y := ⟨_, rfl⟩
    have HX : Hid (ts.getD j noTyp = ⟨x0, x1, x2⟩) := hx
    rw [hx] at t
    have q0 : w1.cell? ⟨g, j * 3, none⟩ = some (.int .i64 x0) := t.c0
    have q1 : w1.cell? ⟨g, j * 3 + 1, none⟩ = some (.int .i64 x1) := t.c1
    have q2 : w1.cell? ⟨g, j * 3 + 2, none⟩ = some (.int .i64 x2) := t.c2
    clear t hx hf
    by_cases hjv : j = v
    · subst hjv
      have HV : Hid (occT j (ρ i) = true) := by
        show _ = _
        rw [← HF.out.same, HH.out.free j hj HV0.out hva]
        simp [varT, occT]
      go_wp2
      go_ret
      exact ⟨by rw [HV.out] <;> rfl, Below.refl _ _⟩
    · have hjv' : ¬ (j : Int) = v := by omega
      by_cases h0 : x0 = 0
      · subst h0
        have HV : Hid (occT v (ρ i) = false) := by
          show _ = _
          rw [← HF.out.same, HH.out.free j hj (by rw [HX.out]) (HF.out.up (by rw [HX.out]))]
          simp [varT, occT, hjv]
        go_wp2
        go_ret
        exact ⟨by rw [HV.out] <;> rfl, Below.refl _ _⟩
      · have hoc : occT v (ρ i) = occK v ρ (kidZ ⟨x0, x1, x2⟩) := by
          rw [← HF.out.same, HH.out.con hj (by rw [HX.out]; exact h0), HX.out]
          exact occ_rhs v _ ρ h0
        have hks : ∀ q, q < (kidZ ⟨x0, x1, x2⟩).length → ∃ m : Nat, (kidZ ⟨x0, x1, x2⟩).getD q 0 = m ∧ m < ts.length ∧ r m < K := fun q hq => by
          have hmem : (kidZ ⟨x0, x1, x2⟩).getD q 0 ∈ kidZ (ts.getD j noTyp) := by rw [HX.out]; exact kid_mem _ q hq
          have h1 := HH.out.rk j hj _ hmem
          have h2 := (HH.out.ent j hj).kids _ hmem
          have h3 := HF.out.rk
          exact ⟨((kidZ ⟨x0, x1, x2⟩).getD q 0).toNat, by omega, by omega, by omega⟩
        have hkl := kidZ_length ⟨x0, x1, x2⟩
        have HKC : Hid (Calls _ _ _ _ _) := spec_kids x0 x1 x2 w1
        unfold KidEnd at HKC
        generalize kidZ ⟨x0, x1, x2⟩ = ks at *
        have HOC : Hid (occT v (ρ i) = occK v ρ ks) := hoc
        have HKS : Hid (∀ q, q < ks.length → ∃ m : Nat, ks.getD q 0 = m ∧ m < ts.length ∧ r m < K) := hks
        clear hoc hks
        go_wp2_with fail
        refine HKC.out.mono ?_
        rintro e w2 ⟨ka, G, kc, rfl, hka, hkA, kb, hkG⟩
        have HKA : Hid (IntAt w2 G ks) := hkA
        have HKB : Hid (Below w1.heap.size w1 w2) := kb
        have sz2 := kb.size
        clear hkA kb HKC q0 q1 q2
        go_wp2
        go_loopw [8] (fun jv wr => ∃ q : Nat, jv = .int .i64 q ∧ q ≤ ks.length ∧ Hid (occK v ρ ks = occK v ρ (ks.drop q)) ∧ Below w2.heap.size w2 wr) (fun jv _ => ks.length - (intOf jv).toNat)
        case atStart => exact ⟨0, rfl, by omega, rfl, Below.refl _ _⟩
        case round =>
          obtain ⟨q, rfl, hq, HQ, hb⟩ := hrel
          have hbs := hb.size
          by_cases hin : q < ks.length
          · have hin' : (q : Int) < ks.length := by omega
            obtain rfl := hka (by omega)
            obtain ⟨m, hm1, hm2, hm3⟩ := HKS.out q hin
            have HD : Hid (_) := occK_drop v ρ ks q hin
            have ck : wr.cell? ⟨G, q, none⟩ = some (.int .i64 m) := by rw [← hm1]; exact (HKA.out.below hb (fun h => HKA.out.lt h)) q hin
            have HD2 : Hid (occK v ρ (ks.drop q) = (occT v (ρ m) || occK v ρ (ks.drop (q + 1)))) := by
              have := HD.out
              rw [hm1, show ((m : Int)).toNat = m by omega] at this
              exact this
            have HA2 : Hid (TypAt wr g ts) := (HA.out.below HKB.out (fun h => HA.out.lt h)).below hb (fun h => by have := HA.out.lt h; omega)
            have HC : Hid (Calls _ _ _ _ _) := IH.out m hm2 hm3 wr HA2.out
            clear HD hm1
            generalize occT v (ρ m) = bo at HC HD2
            cases bo
            · have HN : Hid (occK v ρ ks = occK v ρ (ks.drop (q + 1))) := by show _ = _; rw [HQ.out, HD2.out, Bool.false_or]
              clear HQ HD2
              go_wp2_with fail
              refine HC.out.mono ?_
              rintro e w3 ⟨rfl, b3⟩
              have hb3 : Below w2.heap.size w2 w3 := hb.trans (b3.mono hbs)
              clear b3 hb ck
              go_wp2
              go_roundw
              case rel => exact ⟨q + 1, by go_num, by omega, HN, hb3⟩
              case measure => simp [intOf]; omega
            · have HV : Hid (occT v (ρ i) = true) := by show _ = _; rw [HOC.out, HQ.out, HD2.out, Bool.true_or]
              clear HQ HD2
              go_wp2_with fail
              refine HC.out.mono ?_
              rintro e w3 ⟨rfl, b3⟩
              have hb3 : Below w1.heap.size w1 w3 := HKB.out.trans ((hb.trans (b3.mono hbs)).mono sz2)
              clear b3 hb ck
              go_wp2
              go_ret
              exact ⟨by rw [HV.out] <;> rfl, hb3⟩
          · have HV : Hid (occT v (ρ i) = false) := by
              show _ = _
              rw [HOC.out, HQ.out, List.drop_eq_nil_of_le (by omega)]
              rfl
            go_wp2
            go_ret
            exact ⟨by rw [HV.out] <;> rfl, HKB.out.trans (hb.mono sz2)⟩
end Go.Proofs.YtbhfpfoekalphaaDoor
