/-
  Nodes as they landed: the trees of a list of nodes are grown. Conditions: written at each theorem.
-/
import Derived.Test.YtjjanmccijghgaaTc
namespace Go.Proofs.Ytjjanmccijghgaa
open Go.ChangeShapes Go.WideShapes Go.ChangeAt Go.RowKit
set_option linter.unusedVariables false

set_option maxHeartbeats 4000000 in
set_option maxRecDepth 20000 in
theorem impl_trees (a : Option Addr) (g cap : Nat) (ts : List Nod) (hne : 0 < ts.length → a = some ⟨g, 0, none⟩) (hl : ts.length ≤ 1048576)
    (hst : ∀ i, i < ts.length → (ts.getD i noNod).name.size ≤ maxLen ∧ (ts.getD i noNod).other.size ≤ maxLen) (w : World) (hA : NodAt w g ts) :
    Calls Try.prog 18 #[.slice a ts.length cap] w fun e w' => TrEnd ts w.heap.size e w' ∧ Below w.heap.size w w' := by
  have HA : Hid (NodAt w g ts) := hA
  have HT : Hid (∀ i, i < ts.length → (ts.getD i noNod).name.size ≤ maxLen ∧ (ts.getD i noNod).other.size ≤ maxLen) := hst
  have HN : Hid (nodesB ts = (decide (1 ≤ ts.length ∧ ts.length ≤ 150) && (match startsF ts ts.length with | some st => st.getD (ts.length - 1) 0 == 0 | none => false))) := rfl
  clear hA hst
  by_cases hk : 1 ≤ ts.length ∧ ts.length ≤ 150
  · have HV : Hid (nodesB ts = (match startsF ts ts.length with | some st => st.getD (ts.length - 1) 0 == 0 | none => false)) := by
      show nodesB ts = _
      rw [HN.out, decide_eq_true hk, Bool.true_and]
    obtain ⟨hk1, hk2⟩ := hk
    have e1 : ¬ (ts.length : Int) < 1 := by omega
    have e2 : ¬ (150 : Int) < ts.length := by omega
    obtain ⟨i0, hi0, hz0, hz1, hz2⟩ := info_parts info_tree
    obtain ⟨M, hM⟩ : ∃ M, M = madeCells (Value.nilIface).cells (((ts.length : Nat) : Int).toNat * i0.size) := ⟨_, rfl⟩
    have HMS : Hid (M.size = ts.length * 1) := by
      show M.size = ts.length * 1
      rw [hM, size_madeCells, hz1]
      simp
    have hmk : ∀ W : World, (Instr.makeSlice 40 (.int .i64 0) (.int .i64 (ts.length : Int))).run Try.prog W = .ok (.slice (some ⟨W.heap.size, 0, none⟩) 0 ts.length) (W.alloc (.cells M 47)) := fun W => by
      have h := run_make (P := Try.prog) W 40 47 i0 .nilIface Try.underlying40 hi0 hz0 .i64 .i64 0 (ts.length : Int) (by omega) (by omega) (by rw [hz2]; omega) (by omega)
      rw [← hM] at h
      simpa using h
    have HI0 : Hid (Try.prog.info? 47 = some i0 ∧ i0.zero = some .nilIface ∧ i0.size = 1 ∧ i0.bytes = 16) := ⟨hi0, hz0, hz1, hz2⟩
    clear hM hi0 hz0 hz1 hz2 HN
    have HO0 : Hid (ownTr (w.alloc (.cells M 47)) w.heap.size (.slice (some ⟨w.heap.size, 0, none⟩) 0 ts.length) []) :=
      World.ownsRow_made w M ts.length (Nat.le_refl _) (by unfold maxLen; omega) HMS.out
    go_enter Try.func18, Try.ntmps18
    go_wp2
    go_loopg [4, 22] ts.length (fun gg out i wr => TrAt ts w gg out i wr)
    case atStart => exact ⟨0, [], [], rfl, by omega, rfl, ⟨rfl, rfl, fun j hj => by omega, fun j hj => by omega, fun j hj => by omega⟩, HO0.out, (Below.refl _ w).alloc (Nat.le_refl _) _⟩
    case round =>
      obtain ⟨i, st, vs, rfl, hig, hS, hG, hown, hbel⟩ := hrel
      have HS : Hid (startsF ts i = some st) := hS
      have HG : Hid (TreesG ts st vs i) := hG
      have HO : Hid (ownTr wr w.heap.size u4 vs) := hown
      have hlv := hG.lv
      have hsz := hbel.size
      clear hS hown hG HO0 hmk
      by_cases hin : i < ts.length
      · have e1 : (i : Int) < ts.length := by omega
        obtain rfl := hne (by omega)
        have hlt : g < w.heap.size := HA.out.lt (by omega)
        have t := (HA.out.below hbel (fun _ => hlt)) i hin
        have hsm := HT.out i hin
        have HN : Hid (startsF ts (i + 1) = (startsF ts i).bind fun st => (stepS (ts.getD i noNod) i st).map fun a => st ++ [a]) := rfl
        obtain ⟨⟨x0, x1, x2, x3, x4, x5, x6⟩, hx⟩ : ∃ y, ts.getD i noNod = y := ⟨_, rfl⟩
        have HX : Hid (ts.getD i noNod = ⟨x0, x1, x2, x3, x4, x5, x6⟩) := hx
        rw [hx] at t hsm HN
        simp only at hsm
        have HSM : Hid (x5.size ≤ maxLen ∧ x6.size ≤ maxLen) := hsm
        have q0 : wr.cell? ⟨g, i * 7, none⟩ = some (.int .i64 x0) := t.c0
        have q1 : wr.cell? ⟨g, i * 7 + 1, none⟩ = some (.int .i64 x1) := t.c1
        have q2 : wr.cell? ⟨g, i * 7 + 2, none⟩ = some (.int .i64 x2) := t.c2
        have q3 : wr.cell? ⟨g, i * 7 + 3, none⟩ = some (.int .i64 x3) := t.c3
        have q4 : wr.cell? ⟨g, i * 7 + 4, none⟩ = some (.int .i64 x4) := t.c4
        have q5 : wr.cell? ⟨g, i * 7 + 5, none⟩ = some (.string x5) := t.c5
        have q6 : wr.cell? ⟨g, i * 7 + 6, none⟩ = some (.string x6) := t.c6
        obtain ⟨wa, hwa⟩ : ∃ wa, wr.alloc (.cells #[.int .i64 x0, .int .i64 x1, .int .i64 x2, .int .i64 x3, .int .i64 x4, .string x5, .string x6] 34) = wa := ⟨_, rfl⟩
        have HWA : Hid (wr.alloc (.cells #[.int .i64 x0, .int .i64 x1, .int .i64 x2, .int .i64 x3, .int .i64 x4, .string x5, .string x6] 34) = wa) := hwa
        have Ra : Hid (wa.heap[wr.heap.size]? = some (.cells #[.int .i64 x0, .int .i64 x1, .int .i64 x2, .int .i64 x3, .int .i64 x4, .string x5, .string x6] 34 (0, 0))) := by rw [← hwa]; exact (MapKept.heap_alloc wr _).1
        have Sa : Hid (wa.heap.size = wr.heap.size + 1) := by
          show wa.heap.size = wr.heap.size + 1
          rw [← hwa]; simp
        have Ba : Hid (Below w.heap.size w wa) := by rw [← hwa]; exact hbel.alloc (by omega) _
        have Oa : Hid (ownTr wa w.heap.size u4 vs) := by rw [← hwa]; exact HO.out.alloc _
        clear t hx hsm hwa
        go_wp2_with fail
        rw [HWA.out]
        refine (impl_fields x0 x1 x2 x3 x4 x5 x6 HSM.out.1 HSM.out.2 wa).mono ?_
        rintro e w1 ⟨rfl, hb1⟩
        have hs1 := hb1.size
        rw [Sa.out] at hs1
        have R1 := (hb1.block wr.heap.size (by rw [Sa.out]; omega)).trans Ra.out
        have HR1 : Hid (w1.heap[wr.heap.size]? = some (.cells #[.int .i64 x0, .int .i64 x1, .int .i64 x2, .int .i64 x3, .int .i64 x4, .string x5, .string x6] 34 (0, 0))) := R1
        have O1 : Hid (ownTr w1 w.heap.size u4 vs) := ownT_kept Oa.out hb1 (Nat.le_refl _)
        have B1 : Hid (Below w.heap.size w w1) := Ba.out.trans (hb1.mono (by rw [Sa.out]; omega))
        clear q0 q1 q2 q3 q4 q5 q6 hb1 Ra HWA Ba Oa HO hbel
        have HNO : Hid (∀ W : World, startsF ts (i + 1) = none → TrEnd ts w.heap.size (.returned (.tuple #[.slice none 0 0, .bool false])) W) := by
          intro W h
          refine Or.inr ⟨?_, rfl⟩
          rw [HV.out, startsF_none ts (i + 1) ts.length (by omega) h]
        by_cases hf : fieldsB ⟨x0, x1, x2, x3, x4, x5, x6⟩ = true
        · have HE : Hid (startsF ts (i + 1) = (down st (kidL ⟨x0, x1, x2, x3, x4, x5, x6⟩).reverse i).map fun a => st ++ [a]) := by
            show startsF ts (i + 1) = _
            rw [HN.out, HS.out]
            simp only [Option.bind_some, stepS, if_pos hf]
          rw [hf]
          clear hf HN
          obtain ⟨p0, p1, p2, p3, p4, p5, p6⟩ := cells7_of R1
          clear R1
          obtain ⟨a4, g4, c4, rfl, ha4, hT4, hB4, hl4⟩ := ownT_form O1.out
          have T4 : Hid (TreeAt w1 g4 vs) := hT4
          have L4 : Hid (0 < vs.length → g4 < w1.heap.size) := hl4
          have A4 : Hid (0 < vs.length → a4 = some ⟨g4, 0, none⟩) := ha4
          clear hT4 hl4 ha4
          rw [hlv] at *
          go_wp2_with fail
          refine (impl_ahead a4 g4 c4 i st vs ⟨x0, x1, x2, x3, x4, x5, x6⟩ HG.out.b (by omega) A4.out w1 T4.out).mono ?_
          rintro e w2 ⟨hend, hb2⟩
          have hs2 := hb2.size
          have B2 : Hid (Below w.heap.size w w2) := B1.out.trans (hb2.mono (by omega))
          have R2 := (hb2.block wr.heap.size (by omega)).trans HR1.out
          have O2 : Hid (ownTr w2 w.heap.size (.slice a4 i c4) vs) := ownT_kept O1.out hb2 (Nat.le_refl _)
          clear p0 p1 p2 p3 p4 p5 p6 HR1 O1 B1 T4 L4 hb2
          rcases hend with ⟨r, K, hr, rfl, hBK, hTK, hkk, hr1, hr0⟩ | ⟨hno, rfl⟩
          · have HQ : Hid (startsF ts (i + 1) = some (st ++ [r])) := by
              show startsF ts (i + 1) = _
              rw [HE.out, hr]
              rfl
            have hrr := down_range HG.out.ls HG.out.r _ _ r (by omega) (by omega) hr
            have HRR : Hid (0 ≤ r ∧ r ≤ i) := hrr
            have HKK : Hid (∀ j, j < (kidL ⟨x0, x1, x2, x3, x4, x5, x6⟩).length → 0 ≤ (kidL ⟨x0, x1, x2, x3, x4, x5, x6⟩).getD j 0 ∧ (kidL ⟨x0, x1, x2, x3, x4, x5, x6⟩).getD j 0 < i) := hkk
            have hgr := impl_grow ⟨x0, x1, x2, x3, x4, x5, x6⟩ i r K st vs HG.out.b w2 hTK hkk hr1 hr0
            have HGN : Hid (TreesG ts (st ++ [r]) (vs ++ [treeV ⟨x0, x1, x2, x3, x4, x5, x6⟩ r (kidV vs (kidL ⟨x0, x1, x2, x3, x4, x5, x6⟩))]) (i + 1)) := by
              have h := HG.out.next r (by rw [HX.out]; exact hkk) hrr
              rw [HX.out] at h
              exact h
            obtain ⟨p0, p1, p2, p3, p4, p5, p6⟩ := cells7_of R2
            obtain ⟨T, u, hTU⟩ : ∃ T u, treeV ⟨x0, x1, x2, x3, x4, x5, x6⟩ r (kidV vs (kidL ⟨x0, x1, x2, x3, x4, x5, x6⟩)) = .iface T u := ⟨_, _, rfl⟩
            rw [hTU] at hgr HGN
            have HGR : Hid (Calls Try.prog 23 #[.agg (nodCells ⟨x0, x1, x2, x3, x4, x5, x6⟩).toArray, .int .i64 i, .slice (some ⟨K, 0, none⟩) (kidL ⟨x0, x1, x2, x3, x4, x5, x6⟩).length (kidL ⟨x0, x1, x2, x3, x4, x5, x6⟩).length] w2 fun e w' => e = .returned (.iface T u) ∧ Below w2.heap.size w2 w') := hgr
            clear R2 hr hTK hkk hr1 hr0 HE HNO hTU hgr hrr
            generalize (kidL ⟨x0, x1, x2, x3, x4, x5, x6⟩).length = kl at *
            go_wp2_with fail
            refine HGR.out.mono ?_
            rintro e w3 ⟨rfl, hb3⟩
            have hs3 := hb3.size
            have B3 : Hid (Below w.heap.size w w3) := B2.out.trans (hb3.mono (by omega))
            have O3 : Hid (ownTr w3 w.heap.size (.slice a4 i c4) vs) := ownT_kept O2.out hb3 (Nat.le_refl _)
            have HLV : Hid (vs.length = i) := HG.out.lv
            obtain ⟨hi0, hz0, hz1, hz2⟩ := HI0.out
            clear p0 p1 p2 p3 p4 p5 p6 O2 B2 hb3 HGR HKK HRR
            go_wp2_with (at_builtin; refine wpList_append_own _ rfl _ _ 40 rfl w.heap.size 47 i0 _ 1 16 Try.underlying40 hi0 hz0 hz1 hz2 rfl (by decide) _ _ _ rfl (O3.out.alloc _) ⟨w3.heap.size, 0, none⟩ 1 1 [.iface T u] rfl rfl ?a1 ?a2 ?a3 ?a4 ?a5 ?_)
            case a1 =>
              intro j u hj
              match j, hj with
              | 0, hj => simp at hj; subst hj; simp [Addr.add]
            case a2 => intro u hu; simp at hu; subst hu; rfl
            case a3 => have := HLV.out; unfold maxLen; omega
            case a4 => have := HLV.out; omega
            case a5 => simp; omega
            intro v' W4 hown' hgrow _
            have HM : Hid (TrAt ts w (ts.length - (i + 1)) v' (.int .i64 ((i + 1 : Nat) : Int)) W4) :=
              ⟨i + 1, st ++ [r], vs ++ [.iface T u], rfl, by omega, HQ.out, HGN.out, ownT_next (.iface T u) hown' rfl rfl, (B3.out.alloc (by omega) _).grown hgrow (by simp; omega) (fun q hq => (O3.out.lt q hq).1)⟩
            clear hown' hgrow HQ O3 B3 hi0 hz0 hz1 hz2 HGN
            go_wp2
            go_roundg (ts.length - (i + 1))
            case rel => exact HM.out
            case measure => omega
          · have HZ : Hid (TrEnd ts w.heap.size (.returned (.tuple #[.slice none 0 0, .bool false])) w2) := HNO.out w2 (by rw [HE.out, hno]; rfl)
            clear HE HNO hno O2 R2
            go_wp2
            go_ret2
            exact ⟨HZ.out, B2.out⟩
        · have hf' : fieldsB ⟨x0, x1, x2, x3, x4, x5, x6⟩ = false := by simpa using hf
          have HZ : Hid (TrEnd ts w.heap.size (.returned (.tuple #[.slice none 0 0, .bool false])) w1) := HNO.out w1 (by
            rw [HN.out, HS.out]
            simp only [Option.bind_some, stepS, if_neg hf]
            rfl)
          rw [hf']
          clear hf hf' HN HNO R1 HR1 O1
          go_wp2
          go_ret2
          exact ⟨HZ.out, B1.out⟩
      · have e1 : (ts.length : Int) ≤ i := by omega
        obtain rfl : i = ts.length := by omega
        obtain ⟨a4, g4, c4, rfl, ha4, hT4, hB4, hl4⟩ := ownT_form HO.out
        obtain rfl := ha4 (by omega)
        have hlast : ts.length - 1 < ts.length := by omega
        obtain ⟨T, u, t0, hv, hn, hmt⟩ := HG.out.b.b (ts.length - 1) hlast
        have hcell : wr.cell? ⟨g4, ts.length - 1, none⟩ = some (.iface T u) := by
          rw [← hv]
          exact hT4 (ts.length - 1) (by omega)
        obtain ⟨R, hR⟩ : ∃ R, (spotL t0 (st.getD (ts.length - 1) 0)).toArray = R := ⟨_, rfl⟩
        have hI := impl_begin t0 (st.getD (ts.length - 1) 0)
        rw [hR] at hmt hI
        have HZ : Hid (∀ W : World, ownTr W w.heap.size (.slice (some ⟨g4, 0, none⟩) vs.length c4) vs → TrEnd ts w.heap.size (.returned (.tuple #[.slice (some ⟨g4, 0, none⟩) vs.length c4, .bool (st.getD (ts.length - 1) 0 == 0)])) W) := by
          intro W hW
          refine Or.inl ⟨st, vs, _, hk1, hk2, HS.out, HG.out, hW, ?_⟩
          rw [HV.out, HS.out]
        have HO1 : Hid (ownTr (wr.alloc (.cells R 56)) w.heap.size (.slice (some ⟨g4, 0, none⟩) vs.length c4) vs) := HO.out.alloc _
        generalize st.getD (ts.length - 1) 0 = P2 at *
        have HI : Hid (∀ w : World, Calls Try.prog 57 #[.agg R] w fun e w' => e = .returned (.int .i64 P2) ∧ w' = w.alloc (.cells R 56)) := hI
        have HLV : Hid (vs.length = ts.length) := hlv
        rw [hlv] at *
        have e2 : (0 : Int) ≤ (ts.length : Int) - 1 := by omega
        have e3 : (ts.length : Int) - 1 < ts.length := by omega
        clear hR hI hv hT4 hl4 ha4 HO hlv
        go_wp2_with fail
        refine (HI.out _).mono ?_
        rintro e w3 ⟨rfl, rfl⟩
        go_wp2
        go_ret2
        exact ⟨HZ.out _ HO1.out, hbel.alloc (by omega) _⟩
  · have HZ : Hid (TrEnd ts w.heap.size (.returned (.tuple #[.slice none 0 0, .bool false])) w) := by
      refine Or.inr ⟨?_, rfl⟩
      rw [HN.out, decide_eq_false hk, Bool.false_and]
    clear HN
    by_cases h1 : ts.length < 1
    · have e1 : (ts.length : Int) < 1 := by omega
      clear hk
      go_enter Try.func18, Try.ntmps18
      go_wp2
      go_ret2
      exact ⟨HZ.out, Below.refl _ _⟩
    · have e1 : ¬ (ts.length : Int) < 1 := by omega
      have e2 : (150 : Int) < ts.length := by omega
      clear hk
      go_enter Try.func18, Try.ntmps18
      go_wp2
      go_ret2
      exact ⟨HZ.out, Below.refl _ _⟩
end Go.Proofs.Ytjjanmccijghgaa
