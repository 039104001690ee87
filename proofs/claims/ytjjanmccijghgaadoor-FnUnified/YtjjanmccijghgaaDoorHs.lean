/-
  The writer of types as it landed: the whole; ShowType. Conditions: written at each theorem.
-/
import Derived.Test.YtjjanmccijghgaaDoorHy
namespace Go.Proofs.YtjjanmccijghgaaDoor
open Go.ChangeShapes Go.WideShapes Go.ChangeAt Go.RowKit
set_option linter.unusedVariables false

set_option maxHeartbeats 2000000 in
set_option maxRecDepth 20000 in
theorem impl_shape {ts : List Typ} {r : Nat → Nat} {ρ : Nat → Tr} (h : Ok ts r ρ) (B b : Nat) (bl : Nat → Nat) (hlt : ∀ i, i < ts.length → bl i < B) : ∀ K, WrOk ts r ρ B b bl K := by
  intro K
  induction K with
  | zero => intro m bs l w w1 _ h; omega
  | succ K ih =>
    intro i bs l w w1 hi hK hll hbs hT
    have HT : Hid (TS B b bl ts w bs l w1) := hT
    have HH : Hid (Ok ts r ρ) := h
    have IH : Hid (WrOk ts r ρ B b bl K) := ih
    have HLT : Hid (∀ i, i < ts.length → bl i < B) := hlt
    have HF0 : Hid (Calls _ _ _ _ _) := impl_follow h bl i hi w1 hT.shp
    clear hT h ih hlt
    go_enter Tryd.func34, Tryd.ntmps34
    go_wp2_with fail
    refine HF0.out.mono ?_
    rintro e w2 ⟨⟨j, rfl, hf⟩, rfl⟩
    have HF : Hid (Found ts r ρ i j) := hf
    have hj := hf.lt
    have he := HH.out.ent j hj
    have hk0 := he.k0
    have hk5 := he.k5
    have hks : ∀ k ∈ kidZ (ts.getD j noTyp), ∃ m : Nat, k = m ∧ m < ts.length ∧ r m < K ∧ ∀ p q, ρ m ≠ .append p q := fun k hk => by
      have h1 := HH.out.rk j hj _ hk
      have h2 := he.kids _ hk
      have h3 := hf.rk
      exact ⟨k.toNat, by omega, by omega, by omega, HH.out.form _ _ (Nat.lt_succ_self _) (by omega)⟩
    have HKS : Hid (∀ k ∈ kidZ (ts.getD j noTyp), ∃ m : Nat, k = m ∧ m < ts.length ∧ r m < K ∧ ∀ p q, ρ m ≠ .append p q) := hks
    have HS : Hid (ρ j = ρ i) := hf.same
    obtain ⟨c0, _, _, _⟩ := HT.out.shp.cells hj
    rw [← hf.same] at hll hbs
    have hcon : (ts.getD j noTyp).kind ≠ 0 → ρ j = rhsT (ts.getD j noTyp) ρ := fun h0 => HH.out.con hj h0
    clear he hks hf
    obtain ⟨⟨x0, x1, x2⟩, hx⟩ : ∃ y, ts.getD j noTyp = y := ⟨_, rfl⟩
    have HX : Hid (ts.getD j noTyp = ⟨x0, x1, x2⟩) := hx
    rw [hx] at c0 hk0 hk5 hcon HKS
    change 0 ≤ x0 at hk0
    change x0 ≤ 5 at hk5
    change w2.cell? ⟨bl j, 0, none⟩ = some (.int .i64 x0) at c0
    clear hx
    rcases (by omega : x0 = 0 ∨ x0 = 1 ∨ x0 = 2 ∨ x0 = 3 ∨ x0 = 4 ∨ x0 = 5) with rfl | rfl | rfl | rfl | rfl | rfl
    · have hv : ρ j = varT j := HH.out.free j hj (by rw [HX.out]) (HF.out.up (by rw [HX.out]))
      have HC : Hid (Calls _ _ _ _ _) := impl_variable B b bl bs l j hj (by omega) (by omega) w2 HT.out.shp HT.out.tw HT.out.pow HT.out.size
      have HV : Hid (ρ i = varT j) := by show _ = _; rw [← HS.out, hv]
      clear hcon hv
      go_wp2_with fail
      refine HC.out.mono ?_
      rintro e w3 ⟨rfl, ht, hb⟩
      have HN : Hid (TS B b bl ts w (bs ++ (shoT 0 (varT j) l).1) (shoT 0 (varT j) l).2 w3) := HT.out.next HLT.out ht hb
      clear ht hb c0
      go_wp2
      go_end0
      exact ⟨rfl, by rw [HV.out]; exact HN.out⟩
    · have HV : Hid (ρ i = .line) := by
        show _ = _
        rw [← HS.out, hcon (by simp)]
        simp [rhsT]
      have HC : Hid (Calls _ _ _ _ _) := TS.text ⟨#[105, 110, 116]⟩ HT.out HLT.out (by omega) (by show 3 ≤ 100; omega)
      clear hcon HKS
      go_wp2_with fail
      refine HC.out.mono ?_
      rintro e w3 ⟨rfl, ht⟩
      have HN : Hid (TS B b bl ts w (bs ++ [105, 110, 116]) l w3) := ht
      clear ht c0
      go_wp2
      go_end0
      exact ⟨rfl, by rw [HV.out]; exact HN.out⟩
    · obtain ⟨m, rfl, hm, hrm, hfm⟩ := HKS.out x1 (by simp [kidZ])
      obtain ⟨n, rfl, hn, hrn, hfn⟩ := HKS.out x2 (by simp [kidZ])
      have he : ρ j = .nest 2 (.append (ρ m) (ρ n)) := by
        rw [hcon (by simp)]
        simp [rhsT]
      have HC : Hid (Calls _ _ _ _ _) := impl_two HLT.out IH.out 2 (by simp) j m n ⟨#[32, 45, 62, 32]⟩ rfl (by show 4 ≤ 100; omega) hj (by rw [HX.out]; rfl) hm hn hrm hrn hfm hfn he bs l w w2 hll hbs HT.out
      rw [HS.out] at HC
      clear hcon he hfm hfn HKS
      go_wp2_with fail
      refine HC.out.mono ?_
      rintro e w3 ⟨rfl, ht⟩
      clear c0
      go_wp2
      go_end0
      exact ⟨rfl, ht⟩
    · obtain ⟨m, rfl, hm, hrm, hfm⟩ := HKS.out x1 (by simp [kidZ])
      obtain ⟨n, rfl, hn, hrn, hfn⟩ := HKS.out x2 (by simp [kidZ])
      have he : ρ j = .nest 3 (.append (ρ m) (ρ n)) := by
        rw [hcon (by simp)]
        simp [rhsT]
      have HC : Hid (Calls _ _ _ _ _) := impl_two HLT.out IH.out 3 (by simp) j m n ⟨#[32, 42, 32]⟩ rfl (by show 3 ≤ 100; omega) hj (by rw [HX.out]; rfl) hm hn hrm hrn hfm hfn he bs l w w2 hll hbs HT.out
      rw [HS.out] at HC
      clear hcon he hfm hfn HKS
      go_wp2_with fail
      refine HC.out.mono ?_
      rintro e w3 ⟨rfl, ht⟩
      clear c0
      go_wp2
      go_end0
      exact ⟨rfl, ht⟩
    · obtain ⟨m, rfl, hm, hrm, hfm⟩ := HKS.out x1 (by simp [kidZ])
      have he : ρ j = .nest 4 (ρ m) := by
        rw [hcon (by simp)]
        simp [rhsT]
      have HC : Hid (Calls _ _ _ _ _) := impl_one HLT.out IH.out 4 j m ⟨#[108, 105, 115, 116, 32]⟩ rfl (by show 5 ≤ 100; omega) hj (by rw [HX.out]; rfl) hm hrm hfm he bs l w w2 hll hbs HT.out
      rw [HS.out] at HC
      clear hcon he hfm HKS
      go_wp2_with fail
      refine HC.out.mono ?_
      rintro e w3 ⟨rfl, ht⟩
      clear c0
      go_wp2
      go_end0
      exact ⟨rfl, ht⟩
    · obtain ⟨m, rfl, hm, hrm, hfm⟩ := HKS.out x1 (by simp [kidZ])
      have he : ρ j = .nest 5 (ρ m) := by
        rw [hcon (by simp)]
        simp [rhsT]
      have HC : Hid (Calls _ _ _ _ _) := impl_one HLT.out IH.out 5 j m ⟨#[114, 101, 102, 32]⟩ rfl (by show 4 ≤ 100; omega) hj (by rw [HX.out]; rfl) hm hrm hfm he bs l w w2 hll hbs HT.out
      rw [HS.out] at HC
      clear hcon he hfm HKS
      go_wp2_with fail
      refine HC.out.mono ?_
      rintro e w3 ⟨rfl, ht⟩
      clear c0
      go_wp2
      go_end0
      exact ⟨rfl, ht⟩

set_option maxHeartbeats 2000000 in
set_option maxRecDepth 20000 in
theorem impl_text {ts : List Typ} {r : Nat → Nat} {ρ : Nat → Tr} (h : Ok ts r ρ) (bl : Nat → Nat) (i : Nat) (hi : i < ts.length) (hz : sizeT (ρ i) ≤ 60) (w : World) (hS : Shp w bl ts) (hp : ∀ w', Below w.heap.size w w' → PowIs w') :
    Calls Tryd.prog 20 #[shP bl i] w fun e w' => e = .returned (.string ⟨(shoT 0 (ρ i) []).1.toArray⟩) ∧ Below w.heap.size w w' := by
  have hlt : ∀ i, i < ts.length → bl i < w.heap.size := fun i hi => hS.lt hi
  obtain ⟨w1, hw1⟩ : ∃ w1, w.alloc (.cells #[.pointer none, .slice none 0 0, .slice none 0 0] 72) = w1 := ⟨_, rfl⟩
  have HW1 : Hid (w.alloc (.cells #[.pointer none, .slice none 0 0, .slice none 0 0] 72) = w1) := hw1
  have hr : w1.heap[w.heap.size]? = some (.cells #[.pointer none, .slice none 0 0, .slice none 0 0] 72 (0, 0)) := by rw [← hw1]; exact (MapKept.heap_alloc w _).1
  have hb1 : Below w.heap.size w w1 := by rw [← hw1]; exact (Below.refl _ w).alloc (Nat.le_refl _) _
  have ht : TS w.heap.size w.heap.size bl ts w [] [] w1 := by
    refine ⟨⟨⟨.slice none 0 0, Or.inl ⟨Nat.le_refl _, .slice none 0 0, hr, ?_⟩, ?_⟩, fun v hv => absurd hv (by simp)⟩, hS.keep hb1 hlt, hb1, fun w'' h2 => hp w'' (hb1.trans h2), hb1.size⟩
    · exact ⟨by simp [Lib.byteCells], Or.inl ⟨rfl, rfl⟩⟩
    · exact ⟨by simp, Or.inl ⟨rfl, rfl⟩⟩
  have HC : Hid (Calls _ _ _ _ _) := impl_shape h w.heap.size w.heap.size bl hlt (r i + 1) i [] [] w w1 hi (by omega) (by simp; omega) (by simp; omega) ht
  rw [List.nil_append] at HC
  have hne := sho_ne 0 (ρ i) []
  have HNE : Hid ((shoT 0 (ρ i) []).1 ≠ []) := hne
  clear hr hb1 ht hw1 hS hp h hne
  generalize (shoT 0 (ρ i) []).1 = T at *
  generalize (shoT 0 (ρ i) []).2 = L at *
  go_enter Tryd.func20, Tryd.ntmps20
  go_wp2_with fail
  rw [HW1.out]
  refine HC.out.mono ?_
  rintro e w2 ⟨rfl, h2⟩
  have H2 : Hid (TS w.heap.size w.heap.size bl ts w T L w2) := h2
  clear h2
  obtain ⟨⟨fv, hps, _⟩, _⟩ := H2.out.tw
  have HS2 : Hid (Calls _ _ _ _ _) := wr_string w.heap.size w.heap.size T fv w2 hps HNE.out
  clear hps
  go_wp2_with fail
  refine HS2.out.mono ?_
  rintro e w3 ⟨rfl, b3⟩
  have B3 : Below w.heap.size w w3 := H2.out.bel.trans b3
  go_wp2
  go_ret
  exact ⟨rfl, B3⟩

def toldB (ts : List Typ) (ρ : Nat → Tr) (i : Int) : Bool := decide (0 ≤ i ∧ i < ts.length ∧ sizeT (ρ i.toNat) ≤ 60)

set_option maxHeartbeats 1000000 in
set_option maxRecDepth 20000 in
theorem impl_told {ts : List Typ} {r : Nat → Nat} {ρ : Nat → Tr} (h : Ok ts r ρ) (bl : Nat → Nat) (G : Nat) (i : Int) (w : World) (hS : Shp w bl ts) (hG : ∀ i, i < ts.length → w.cell? ⟨G, i, none⟩ = some (shP bl i)) (hl : ts.length ≤ 1000) :
    Calls Tryd.prog 17 #[.slice (some ⟨G, 0, none⟩) ts.length ts.length, .int .i64 i] w fun e w' => e = .returned (.bool (toldB ts ρ i)) ∧ Below w.heap.size w w' := by
  by_cases h0 : 0 ≤ i
  · obtain ⟨m, rfl⟩ := Int.eq_ofNat_of_zero_le h0
    by_cases hm : m < ts.length
    · have hm' : (m : Int) < ts.length := by omega
      have cG := hG m hm
      have HZ : Hid (Calls _ _ _ _ _) := impl_size h bl m hm w hS
      have HV : Hid (toldB ts ρ m = decide (((min (sizeT (ρ m)) 61 : Nat) : Int) ≤ 60)) := by
        show _ = _
        unfold toldB
        rw [show ((m : Int)).toNat = m by omega]
        apply decide_eq_decide.2
        constructor
        · intro q; omega
        · intro q; exact ⟨by omega, hm', by omega⟩
      clear h hS hG
      generalize min (sizeT (ρ m)) 61 = n at *
      go_enter Tryd.func17, Tryd.ntmps17
      go_wp2_with fail
      refine HZ.out.mono ?_
      rintro e w2 ⟨rfl, b2⟩
      go_wp2
      go_ret
      exact ⟨by rw [HV.out] <;> rfl, b2⟩
    · have hm' : (ts.length : Int) ≤ m := by omega
      have HV : Hid (toldB ts ρ m = false) := decide_eq_false (fun q => by omega)
      clear hS hG h
      go_enter Tryd.func17, Tryd.ntmps17
      go_wp2
      go_ret
      exact ⟨by rw [HV.out] <;> rfl, Below.refl _ _⟩
  · have HV : Hid (toldB ts ρ i = false) := decide_eq_false (fun q => h0 q.1)
    clear hS hG h
    go_enter Tryd.func17, Tryd.ntmps17
    go_wp2
    go_ret
    exact ⟨by rw [HV.out] <;> rfl, Below.refl _ _⟩

theorem told_sho {ts : List Typ} {i : Int} (ht : tabB ts = true) (h : toldB ts (solB ts) i = true) : ∃ m : Nat, i = m ∧ m < ts.length ∧ sizeT (solB ts m) ≤ 60 ∧ shoB ts i = (shoT 0 (solB ts m) []).1 ∧ (1 ≤ sizB ts i ∧ sizB ts i ≤ 60) := by
  have h' := of_decide_eq_true h
  obtain ⟨h0, h1, h2⟩ := h'
  have e : sizB ts i = min (sizeT (solB ts i.toNat)) 61 := by unfold sizB; rw [if_pos ⟨ht, h0, h1⟩]
  have p := sizeT_pos (solB ts i.toNat)
  have hc : 1 ≤ sizB ts i ∧ sizB ts i ≤ 60 := by omega
  exact ⟨i.toNat, by omega, by omega, h2, by unfold shoB; rw [if_pos hc], hc⟩

theorem told_no {ts : List Typ} {i : Int} (ht : tabB ts = true) (h : toldB ts (solB ts) i = false) : ¬ (1 ≤ sizB ts i ∧ sizB ts i ≤ 60) := by
  have h' := of_decide_eq_false h
  intro hc
  obtain ⟨_, h0, h1⟩ := siz_in hc.1
  have e : sizB ts i = min (sizeT (solB ts i.toNat)) 61 := by unfold sizB; rw [if_pos ⟨ht, h0, h1⟩]
  exact h' ⟨h0, h1, by omega⟩

set_option maxHeartbeats 1000000 in
set_option maxRecDepth 20000 in
theorem impl_showType (a : Option Addr) (g cap : Nat) (ts : List Typ) (i : Int) (h0 : -9223372036854775808 ≤ i) (h1 : i ≤ 9223372036854775807) (hne : 0 < ts.length → a = some ⟨g, 0, none⟩) (hl : ts.length ≤ 1048576) (w : World) (hp : ∀ w', Below w.heap.size w w' → PowIs w') (hA : TypAt w g ts) :
    Calls Tryd.prog 10 #[.slice a ts.length cap, .int .i64 i] w fun e w' => e = .returned (.string ⟨(shoB ts i).toArray⟩) ∧ Below w.heap.size w w' := by
  have HC : Hid (Calls _ _ _ _ _) := impl_shapes a g cap ts hne hl w hA
  have HP : Hid (∀ w', Below w.heap.size w w' → PowIs w') := hp
  clear hA hp
  go_enter Tryd.func10, Tryd.ntmps10
  go_wp2_with fail
  refine HC.out.mono ?_
  rintro e w1 (⟨ht, rfl, b1⟩ | ⟨ht, bl, G, rfl, hS, hG, hg1, hg2, _, b1⟩)
  · have HV : Hid (shoB ts i = []) := by show _ = _; unfold shoB sizB; rw [if_neg (fun q => by rw [if_neg (by rw [ht]; simp)] at q; omega)]
    have HT : Hid (Calls Tryd.prog 17 #[.slice none 0 0, .int .i64 i] w1 fun e w' => e = .returned (.bool false) ∧ Below w1.heap.size w1 w') := by
      show Calls _ _ _ _ _
      by_cases hi : 0 ≤ i
      · go_enter Tryd.func17, Tryd.ntmps17
        go_wp2
        go_ret
        exact ⟨rfl, Below.refl _ _⟩
      · go_enter Tryd.func17, Tryd.ntmps17
        go_wp2
        go_ret
        exact ⟨rfl, Below.refl _ _⟩
    clear ht
    go_wp2_with fail
    refine HT.out.mono ?_
    rintro e w2 ⟨rfl, b2⟩
    have B2 : Below w.heap.size w w2 := b1.trans (b2.mono b1.size)
    go_wp2
    go_ret
    exact ⟨by rw [HV.out] <;> rfl, B2⟩
  · obtain ⟨h40, r, hok⟩ := tab_ok ht
    have HOK : Hid (Ok ts r (solB ts)) := hok
    have HTT : Hid (tabB ts = true) := ht
    have HS : Hid (Shp w1 bl ts) := hS
    have HG : Hid (∀ i, i < ts.length → w1.cell? ⟨G, i, none⟩ = some (shP bl i)) := hG
    have HT : Hid (Calls _ _ _ _ _) := impl_told hok bl G i w1 hS hG (by omega)
    have hs1 := b1.size
    cases htl : toldB ts (solB ts) i
    · have hno := told_no ht htl
      have HV : Hid (shoB ts i = []) := by show _ = _; unfold shoB; rw [if_neg hno]
      rw [htl] at HT
      clear ht hok hS hG htl hno
      go_wp2_with fail
      refine HT.out.mono ?_
      rintro e w2 ⟨rfl, b2⟩
      have B2 : Below w.heap.size w w2 := b1.trans (b2.mono hs1)
      go_wp2
      go_ret
      exact ⟨by rw [HV.out] <;> rfl, B2⟩
    · obtain ⟨m, rfl, hm, hz, he, _⟩ := told_sho ht htl
      have HV : Hid (⟨(shoT 0 (solB ts m) []).1.toArray⟩ = (⟨(shoB ts m).toArray⟩ : ByteArray)) := by show _ = _; rw [he]
      rw [htl] at HT
      clear ht hok hS hG htl he
      have hm' : (m : Int) < ts.length := by omega
      go_wp2_with fail
      refine HT.out.mono ?_
      rintro e w2 ⟨rfl, b2⟩
      have B2 : Below w.heap.size w w2 := b1.trans (b2.mono hs1)
      have HB2 : Hid (Below w.heap.size w w2) := B2
      have cG : w2.cell? ⟨G, m, none⟩ = some (shP bl m) := (World.cell?_of_block (b2.block G hg2)).trans (HG.out m hm)
      have HX : Hid (Calls _ _ _ _ _) := impl_text HOK.out bl m hm hz w2 (HS.out.below b2) (fun w' h => HP.out w' (B2.trans (h.mono B2.size)))
      clear b2 B2
      go_wp2_with fail
      refine HX.out.mono ?_
      rintro e w3 ⟨rfl, b3⟩
      have B3 : Below w.heap.size w w3 := HB2.out.trans (b3.mono HB2.out.size)
      go_wp2
      go_ret
      exact ⟨by rw [← HV.out] <;> rfl, B3⟩
end Go.Proofs.YtjjanmccijghgaaDoor
