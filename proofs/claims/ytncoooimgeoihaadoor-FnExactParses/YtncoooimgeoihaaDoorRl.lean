/-
  Reading as it landed: every expression; a program. Conditions: written at each theorem.
-/
import Derived.Test.YtncoooimgeoihaaDoorRk
import Derived.Test.YtncoooimgeoihaaDoorPp
namespace Go.Proofs.YtncoooimgeoihaaDoor
open Go.ChangeShapes Go.WideShapes Go.ChangeAt Go.RowKit
set_option linter.unusedVariables false

theorem own_len2 {w : World} {B : Nat} {v : Value} {l : List Nod} (h : ownNod w B v l) : (l.length : Int) ≤ 9223372036854775807 := by
  rcases h.2 with ⟨_, h0⟩ | ⟨g, cap, cur, _, _, _, hn, hm, _⟩
  · omega
  · unfold maxLen at hm; omega

theorem own_more {w : World} {B : Nat} {v : Value} {m : List Nod} {nd : Nod} (h : ownNod w B v (m ++ [nd])) : ∃ g c, v = .slice (some ⟨g, 0, none⟩) (m.length + 1) c := by
  obtain ⟨a, g, c, sp, hv, ha, _⟩ := ownNod_form h
  rw [ha (by simp), List.length_append] at hv
  exact ⟨g, c, hv⟩

/-- A node is put behind the others. -/
theorem RS.put {T : World → Prop} {R g fm : Nat} {ts : List Tok} {E : Int} {W w3 : World} {j : Nat} {v v3 : Value} {L L3 : List Nod} {o : Obj} (hT : ∀ a b, T a → Below R a b → T b) (h : RS T R g fm ts E W j v L) (hown : ownNod w3 (R + 1) v3 L3) (hg : Grew (W.drew.alloc o) w3 v v3) :
    RS T R g fm ts E (w3.setCell ⟨R, 2, none⟩ v3) j v3 L3 ∧ Moved R W (w3.setCell ⟨R, 2, none⟩ v3) v v3 ∧ ∃ a c, w3.heap[R]? = some (.cells (rdR a (ts.length - j) c E v fm) 75 (0, 0)) := by
  have hlt := h.lt
  have hb0 : Below W.heap.size W (W.drew.alloc o) := ((Below.refl _ W).drew).alloc (Nat.le_refl _) o
  have hm0 : Moved R W (W.drew.alloc o) v v := Moved.of_below hb0
  have hm1 : Moved R W w3 v v3 := hm0.trans (Moved.of_grew hg)
  have hlow := hm1.low h.far hlt
  obtain ⟨a, c, hr, h1, h2⟩ := h.row
  have hr3 : w3.heap[R]? = some (.cells (rdR a (ts.length - j) c E v fm) 75 (0, 0)) := by
    rw [hg.1.block R (by have := hb0.size; omega) (fun e => by have := h.far R e.symm; omega), hb0.block R hlt]
    exact hr
  have hbs : Below R W (w3.setCell ⟨R, 2, none⟩ v3) := hlow.setCell (p := ⟨R, 2, none⟩) (Nat.le_refl _) _
  have hfar : v3.ownBlock ≠ some R := fun e => by have := (hown.lt R e).1; omega
  refine ⟨⟨⟨a, c, ?_, h1, h2⟩, toks_kept h.tok h.glt hbs, h.glt, ownsRow_setCell_other hown hfar _, hT _ _ h.tab hbs, h.le⟩, hm1.set 2 v3, a, c, hr3⟩
  rw [heap_setCell_same w3 R 2 _ _ v3 hr3]
  rfl

set_option maxHeartbeats 2000000 in
set_option maxRecDepth 20000 in
theorem rd_expr_next {w0 : World} {g M : Nat} {ts : List Tok} {E : Int} {f : Nat} {s : ByteArray} (hms : MS w0 M fTable) (hc : ts.length ≤ 4000) (hs : s.size ≤ 4000) (hk : ∀ i, i < ts.length → TokOk s (ts.getD i noTok)) (ih : ExprI (Below w0.heap.size w0) w0.heap.size g M ts E f) :
    ExprI (Below w0.heap.size w0) w0.heap.size g M ts E (f + 1) := by
  intro w i v l h hf hl
  have HT : Hid (∀ a b, Below w0.heap.size w0 a → Below w0.heap.size a b → Below w0.heap.size w0 b) := fun a b h1 h2 => h1.trans h2
  have HV : Hid (∀ k, v.ownBlock = some k → w0.heap.size < k) := h.far
  have hRw := h.lt
  by_cases hi : i < ts.length
  · rw [exprE_node ts E f i l hi]
    have HND : Hid (∀ (w : World) (v : Value), RS (Below w0.heap.size w0) w0.heap.size g M ts E w (i + 1) v l → Calls Tryd.prog 78 #[.pointer (some ⟨w0.heap.size, 0, none⟩), tokA (ts.getD i noTok)] w fun e w' => DOut (Below w0.heap.size w0) w0.heap.size g M ts E w v (nodeE ts E f i l) e w') := fun w v h => rd_node hms hc hs hk ih w i v l hi h hf hl
    have HTK : Hid (Calls Tryd.prog 79 #[.pointer (some ⟨w0.heap.size, 0, none⟩)] w fun e w' => e = .returned (tokA (ts.getD i noTok)) ∧ RS (Below w0.heap.size w0) w0.heap.size g M ts E w' (i + 1) v l ∧ Moved w0.heap.size w w' v v) := rd_take HT.out h hi hc
    have HFR : Hid (∀ j m, exprOf (nodeE ts E f i l) = .ok (j, m) → m.length ≤ j ∧ j ≤ ts.length) := fun j m hx => by
      rw [← exprE_node ts E f i l hi] at hx
      obtain ⟨h1, h2, h3, h4⟩ := exprE_fair ts E (f + 1) _ _ _ _ hx
      omega
    have HC : Hid (ts.length ≤ 4000) := hc
    obtain ⟨RB, hRB⟩ : ∃ RB, nodeE ts E f i l = RB := ⟨_, rfl⟩
    rw [hRB] at HND HFR ⊢
    clear hRB hms hc hs hk ih hf hl h
    generalize ts.getD i noTok = t at *
    obtain ⟨i0, hii, hz0, hz1, hz2⟩ := info_parts info_nod
    go_enter Tryd.func62, Tryd.ntmps62
    go_wp2_with fail
    refine HTK.out.mono ?_
    rintro e w1 ⟨rfl, hr1, hm1⟩
    have H1 : Hid (RS (Below w0.heap.size w0) w0.heap.size g M ts E w1 (i + 1) v l) := hr1
    have M1 : Hid (Moved w0.heap.size w w1 v v) := hm1
    clear hr1 hm1 HTK
    go_wp2_with fail
    refine (HND.out _ v H1.out).mono ?_
    rintro e w2 he
    obtain ⟨j, nd, m, v2, rfl, rfl, hr2, hm2⟩ | ⟨c2, q2, rfl, rfl, hb2⟩ := dout_case he
    · obtain ⟨y0, y1, y2, y3, y4, y5, y6⟩ := nd
      obtain ⟨hml, hjl⟩ := HFR.out j _ rfl
      have hmc : m.length ≤ 4000 := by have := HC.out; simp at hml; omega
      obtain ⟨W, hW⟩ : ∃ W, w2.alloc (.cells #[.int .i64 y0, .int .i64 y1, .int .i64 y2, .int .i64 y3, .int .i64 y4, .string y5, .string y6] 55) = W := ⟨_, rfl⟩
      have HW : Hid (w2.alloc (.cells #[.int .i64 y0, .int .i64 y1, .int .i64 y2, .int .i64 y3, .int .i64 y4, .string y5, .string y6] 55) = W) := hW
      have hbW : Below w2.heap.size w2 W := by rw [← hW]; exact (Below.refl _ w2).alloc (Nat.le_refl _) _
      have H3 : Hid (RS (Below w0.heap.size w0) w0.heap.size g M ts E W j v2 m) := hr2.below HT.out hbW
      have M3 : Hid (Moved w0.heap.size w W v v2) := (M1.out.trans hm2).trans (Moved.of_below hbW)
      have hnd : W.heap[w2.heap.size]? = some (.cells #[.int .i64 y0, .int .i64 y1, .int .i64 y2, .int .i64 y3, .int .i64 y4, .string y5, .string y6] 55 (0, 0)) := by rw [← hW]; exact heap_alloc_new w2 _
      have HN : Hid (W.heap[w2.heap.size]? = some (.cells #[.int .i64 y0, .int .i64 y1, .int .i64 y2, .int .i64 y3, .int .i64 y4, .string y5, .string y6] 55 (0, 0))) := hnd
      have HV2 : Hid (∀ k, v2.ownBlock = some k → k < w2.heap.size) := fun k hk => (hr2.own.lt k hk).2
      have zR := H3.out.lt
      have zR2 := hr2.lt
      have zN : w2.heap.size < W.heap.size := (Array.getElem?_eq_some_iff.1 hnd).1
      obtain ⟨n0, n1, n2, n3, n4, n5, n6, n7⟩ := node_cells hnd
      obtain ⟨a3, c3, hrow, _, _⟩ := H3.out.row
      obtain ⟨r0, r1, r2, r3, r4⟩ := rd_row hrow
      clear he hr2 hm2 hbW hW hnd hrow M1 H1 HND
      unfold nodAgg
      go_wp2
      rw [HW.out]
      go_region_law (refine step_append_at rfl (.tmp 12) (.tmp 14) 24 rfl (w0.heap.size + 1) 55 i0 _ 7 72 Tryd.underlying24 hii hz0 hz1 hz2 rfl (by decide) v2 _ _ (by simp [Act.eval]) (H3.out.own.drew.alloc _) ⟨W.heap.size, 0, none⟩ 1 1 (nodCells ⟨y0, y1, y2, y3, y4, y5, y6⟩) (by simp [Act.eval]) rfl (nod_new rfl _ _ _ _ _ _ _ _) (nod_one _) (by decide) (by unfold maxLen; omega) (by omega) (by simp <;> omega) ?_; intro v3 w3 hown' hgr; have HO : Hid (ownNod w3 (w0.heap.size + 1) v3 (m ++ [⟨y0, y1, y2, y3, y4, y5, y6⟩])) := ownNod_next _ hown' rfl rfl; have HP : Hid (_) := H3.out.put HT.out HO.out hgr; obtain ⟨a4, c4, hrow4⟩ := HP.out.2.2; obtain ⟨r0, r1, r2, r3, r4⟩ := rd_row hrow4; have zR3 := (Array.getElem?_eq_some_iff.1 hrow4).1; clear hown' hgr hrow4; obtain ⟨g5, c5, rfl⟩ := own_more HO.out)
      all_goals
        go_wp2
        go_ret
        exact ⟨by simp, _, HP.out.1, M3.out.trans HP.out.2.1⟩
    · have HBL : Hid (Below w0.heap.size w w2) := (M1.out.low HV.out hRw).trans hb2
      clear he hb2 HFR HND
      go_wp2
      exact ⟨rfl, rfl, HBL.out⟩
  · have HTK : Hid (Calls Tryd.prog 79 #[.pointer (some ⟨w0.heap.size, 0, none⟩)] w fun e w' => e = .panicked [fltV 2 E] ∧ Below w.heap.size w w') := rd_take_end h hi
    rw [exprE, if_neg hi]
    clear h hms hc hs hk ih hf hl
    go_enter Tryd.func62, Tryd.ntmps62
    go_wp2_with fail
    refine HTK.out.mono ?_
    rintro e w1 ⟨rfl, hb1⟩
    have HBL : Hid (Below w0.heap.size w w1) := hb1.mono (by omega)
    clear hb1 HTK
    go_wp2
    exact ⟨rfl, rfl, HBL.out⟩

theorem rd_expr {w0 : World} {g M : Nat} {ts : List Tok} {E : Int} {s : ByteArray} (hms : MS w0 M fTable) (hc : ts.length ≤ 4000) (hs : s.size ≤ 4000) (hk : ∀ i, i < ts.length → TokOk s (ts.getD i noTok)) : ∀ f, ExprI (Below w0.heap.size w0) w0.heap.size g M ts E f
  | 0 => fun w i v l h hf hl => by have := h.le; omega
  | f + 1 => rd_expr_next hms hc hs hk (rd_expr hms hc hs hk f)

/-- What the reading of a program ends with. -/
def GOut (R : Nat) (w : World) (r : List Nod × Int × Int) (e : Ending) (w' : World) : Prop :=
  (r.2.1 = 0 ∧ r.2.2 = 0 ∧ ∃ v', e = .returned v' ∧ ownNod w' (R + 1) v' r.1 ∧ Below R w w') ∨ (r.1 = [] ∧ e = .panicked [fltV r.2.1 r.2.2] ∧ Below R w w')

set_option maxHeartbeats 1000000 in
set_option maxRecDepth 20000 in
theorem rd_program {w0 : World} {g M : Nat} {ts : List Tok} {E : Int} {s : ByteArray} (hms : MS w0 M fTable) (hc : ts.length ≤ 4000) (hs : s.size ≤ 4000) (hk : ∀ i, i < ts.length → TokOk s (ts.getD i noTok)) (w : World) (v : Value) (h : RS (Below w0.heap.size w0) w0.heap.size g M ts E w 0 v []) :
    Calls Tryd.prog 41 #[.pointer (some ⟨w0.heap.size, 0, none⟩)] w fun e w' => GOut w0.heap.size w (parseE ts E) e w' := by
  have HX : Hid (Calls Tryd.prog 62 #[.pointer (some ⟨w0.heap.size, 0, none⟩)] w fun e w' => EOut (Below w0.heap.size w0) w0.heap.size g M ts E w v (exprE ts E (ts.length + 1) 0 []) e w') := rd_expr hms hc hs hk (ts.length + 1) w 0 v [] h (by omega) (by simp)
  have HV : Hid (∀ k, v.ownBlock = some k → w0.heap.size < k) := h.far
  have HC : Hid (ts.length ≤ 4000) := hc
  have hRw := h.lt
  obtain ⟨P, hP⟩ : ∃ P, parseE ts E = P := ⟨_, rfl⟩
  rw [hP]
  have HP : Hid (parseE ts E = P) := hP
  clear hP hms hc hs hk h
  go_enter Tryd.func41, Tryd.ntmps41
  go_wp2_with fail
  refine HX.out.mono ?_
  rintro e w1 he
  obtain ⟨j, m, v1, hx, rfl, hr1, hm1⟩ | ⟨c1, q1, hx, rfl, hb1⟩ := eout_case he
  · have HB : Hid (Below w0.heap.size w w1) := hm1.low HV.out hRw
    have HO : Hid (ownNod w1 (w0.heap.size + 1) v1 m) := hr1.own
    obtain ⟨a, c, hrow, ha, hac⟩ := hr1.row
    obtain ⟨r0, r1, r2, r3, r4⟩ := rd_row hrow
    have hle := hr1.le
    by_cases hj : j < ts.length
    · have HE : Hid (P = ([], 4, (ts.getD j noTok).place)) := HP.out.symm.trans (parse_more hx hj)
      obtain rfl := ha hj
      have t3 := (hr1.tok j hj).c3
      generalize (ts.getD j noTok).place = tp at t3 HE
      obtain ⟨k, hk⟩ : ∃ k, ts.length - j = k + 1 := ⟨ts.length - j - 1, by omega⟩
      rw [hk] at r0
      clear hk he hx hr1 hm1 hrow ha hac HX HP
      go_wp2
      refine ⟨rfl, Or.inr ⟨?_, ?_, HB.out⟩⟩
      · rw [HE.out]
      · rw [HE.out]
    · have hk : ts.length - j = 0 := by omega
      rw [hk] at r0
      obtain ⟨a5, g5, c5, sp5, rfl, _⟩ := ownNod_form HO.out
      have hm0 := own_len2 HO.out
      by_cases h150 : 150 < m.length
      · have HE : Hid (P = ([], 5, 0)) := HP.out.symm.trans (parse_great hx hj h150)
        have h150' : (150 : Int) < m.length := by omega
        clear hk he hx hr1 hm1 hrow ha hac HX HP
        go_wp2
        refine ⟨rfl, Or.inr ⟨?_, ?_, HB.out⟩⟩
        · rw [HE.out]
        · rw [HE.out]
      · have HE : Hid (P = (m, 0, 0)) := HP.out.symm.trans (parse_ok hx hj h150)
        have h150' : ¬ (150 : Int) < m.length := by omega
        clear hk he hx hr1 hm1 hrow ha hac HX HP
        go_wp2
        go_ret
        refine Or.inl ⟨by rw [HE.out], by rw [HE.out], _, rfl, ?_, HB.out⟩
        rw [HE.out]
        exact HO.out
  · have HE : Hid (P = ([], c1, q1)) := HP.out.symm.trans (parse_bad hx)
    have HB : Hid (Below w0.heap.size w w1) := hb1
    clear he hx hb1 HX HP
    go_wp2
    refine ⟨rfl, Or.inr ⟨?_, ?_, HB.out⟩⟩
    · rw [HE.out]
    · rw [HE.out]
end Go.Proofs.YtncoooimgeoihaaDoor
