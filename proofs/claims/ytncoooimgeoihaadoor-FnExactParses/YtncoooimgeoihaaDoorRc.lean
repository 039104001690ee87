/-
  Reading as it landed: what stands in memory while a form is read; the forms with names. Conditions: written at each theorem.
-/
import Derived.Test.YtncoooimgeoihaaDoorRb
namespace Go.Proofs.YtncoooimgeoihaaDoor
open Go.ChangeShapes Go.WideShapes Go.ChangeAt Go.RowKit
set_option linter.unusedVariables false

/-- What an expression that is read ends with. -/
def EOut (T : World → Prop) (R g fm : Nat) (ts : List Tok) (E : Int) (w : World) (v : Value) (r : Except Flt (Nat × List Nod)) (e : Ending) (w' : World) : Prop := match r with
  | .ok (j, m) => e = .returned (.int .i64 ((m.length : Int) - 1)) ∧ ∃ v', RS T R g fm ts E w' j v' m ∧ Moved R w w' v v'
  | .error (c, q) => e = .panicked [fltV c q] ∧ Below R w w'

/-- With so much fuel an expression is read as it should be. -/
def ExprI (T : World → Prop) (R g fm : Nat) (ts : List Tok) (E : Int) (f : Nat) : Prop := ∀ (w : World) (i : Nat) (v : Value) (l : List Nod), RS T R g fm ts E w i v l → ts.length + 1 ≤ i + f → l.length ≤ i →
  Calls Tryd.prog 62 #[.pointer (some ⟨R, 0, none⟩)] w fun e w' => EOut T R g fm ts E w v (exprE ts E f i l) e w'

/-- What a form that is read ends with. -/
def AOut (T : World → Prop) (R g fm : Nat) (ts : List Tok) (E : Int) (w : World) (v : Value) (r : Except Flt (Nat × Nod × List Nod × List Int)) (e : Ending) (w' : World) : Prop := match r with
  | .ok (j, n, m, ks) => e = .returned (nodAgg (withKids n ks)) ∧ ∃ v', RS T R g fm ts E w' j v' m ∧ Moved R w w' v v'
  | .error (c, q) => e = .panicked [fltV c q] ∧ Below R w w'

/-- A function that reads a form as it should. -/
def FormI (T : World → Prop) (R g fm : Nat) (ts : List Tok) (E : Int) (f : Nat) (F : FuncId) (xs : Array Value) (K op : Int) (form : List UInt8) : Prop := ∀ (w : World) (i : Nat) (v : Value) (l : List Nod), RS T R g fm ts E w i v l → ts.length + 1 ≤ i + f → l.length ≤ i →
  Calls Tryd.prog F xs w fun e w' => AOut T R g fm ts E w v (argsE ts E (exprE ts E f) form i ⟨K, 0, 0, 0, op, ByteArray.empty, ByteArray.empty⟩ l []) e w'

section
variable {T : World → Prop} {R g fm : Nat} {ts : List Tok} {E : Int}

theorem nout_case {w w' : World} {i : Nat} {v : Value} {l : List Nod} {e : Ending} (h : NOut T R g fm ts E w v l (nameE ts E i) e w') :
    (∃ j s, nameE ts E i = .ok (j, s) ∧ e = .returned (.string s) ∧ RS T R g fm ts E w' j v l ∧ Moved R w w' v v) ∨ (∃ c q, nameE ts E i = .error (c, q) ∧ e = .panicked [fltV c q] ∧ Below R w w') := by
  rcases hx : nameE ts E i with ⟨c, q⟩ | ⟨j, s⟩
  · rw [hx] at h
    exact Or.inr ⟨c, q, rfl, h⟩
  · rw [hx] at h
    exact Or.inl ⟨j, s, rfl, h⟩

theorem eout_case {w w' : World} {f i : Nat} {v : Value} {l : List Nod} {e : Ending} (h : EOut T R g fm ts E w v (exprE ts E f i l) e w') :
    (∃ j m v', exprE ts E f i l = .ok (j, m) ∧ e = .returned (.int .i64 ((m.length : Int) - 1)) ∧ RS T R g fm ts E w' j v' m ∧ Moved R w w' v v') ∨ (∃ c q, exprE ts E f i l = .error (c, q) ∧ e = .panicked [fltV c q] ∧ Below R w w') := by
  rcases hx : exprE ts E f i l with ⟨c, q⟩ | ⟨j, m⟩
  · rw [hx] at h
    exact Or.inr ⟨c, q, rfl, h⟩
  · rw [hx] at h
    obtain ⟨h1, v', h2, h3⟩ := h
    exact Or.inl ⟨j, m, v', rfl, h1, h2, h3⟩

/-- Since w: two blocks of the call's own hold these rows; the reader has come so far. -/
structure FS (T : World → Prop) (R g fm : Nat) (ts : List Tok) (E : Int) (w : World) (v : Value) (W : World) (j : Nat) (vx : Value) (L : List Nod) (qr nr : Array Value) (tq tn : TypeId) : Prop where
  rs : RS T R g fm ts E W j vx L
  mv : Moved R w W v vx
  qq : W.heap[w.heap.size]? = some (.cells qr tq (0, 0))
  nn : W.heap[w.heap.size + 1]? = some (.cells nr tn (0, 0))
  far : ∀ k, vx.ownBlock = some k → k ≠ w.heap.size ∧ k ≠ w.heap.size + 1
  rw : R < w.heap.size

variable {w W W' : World} {v vx v' : Value} {j j' : Nat} {L L' : List Nod} {qr nr : Array Value} {tq tn : TypeId}

theorem FS.size (h : FS T R g fm ts E w v W j vx L qr nr tq tn) : w.heap.size + 1 < W.heap.size := (Array.getElem?_eq_some_iff.1 h.nn).1

theorem FS.start (hT : ∀ a b, T a → Below R a b → T b) (h : RS T R g fm ts E w j v L) : FS T R g fm ts E w v ((w.alloc (.cells qr tq)).alloc (.cells nr tn)) j v L qr nr tq tn := by
  have hb : Below w.heap.size w ((w.alloc (.cells qr tq)).alloc (.cells nr tn)) := ((Below.refl _ w).alloc (Nat.le_refl _) _).alloc (by simp) _
  exact ⟨h.below hT hb, Moved.of_below hb, heap_alloc2_old w _ _, heap_alloc2_new w _ _, fun k hk => by have := (h.own.lt k hk).2; omega, h.lt⟩

theorem FS.call (h : FS T R g fm ts E w v W j vx L qr nr tq tn) (hr : RS T R g fm ts E W' j' v' L') (hm : Moved R W W' vx v') : FS T R g fm ts E w v W' j' v' L' qr nr tq tn := by
  have hs := h.size
  have hw := h.rw
  refine ⟨hr, h.mv.trans hm, (hm.block _ (by omega) (by omega) (fun e => (h.far _ e.symm).1 rfl)).trans h.qq, (hm.block _ hs (by omega) (fun e => (h.far _ e.symm).2 rfl)).trans h.nn, fun k hk => ?_, hw⟩
  rcases hm.new k hk with h1 | h1
  · omega
  · exact h.far k h1

theorem FS.below (hT : ∀ a b, T a → Below R a b → T b) (h : FS T R g fm ts E w v W j vx L qr nr tq tn) (hb : Below W.heap.size W W') : FS T R g fm ts E w v W' j vx L qr nr tq tn := h.call (h.rs.below hT hb) (Moved.of_below hb)

/-- A block of the call's own is written. -/
theorem FS.turned (hT : ∀ a b, T a → Below R a b → T b) (h : FS T R g fm ts E w v W j vx L qr nr tq tn) {qr' nr' : Array Value} (hb : Below w.heap.size W W') (ho : ownNod W' (R + 1) vx L) (hq : W'.heap[w.heap.size]? = some (.cells qr' tq (0, 0))) (hn : W'.heap[w.heap.size + 1]? = some (.cells nr' tn (0, 0))) :
    FS T R g fm ts E w v W' j vx L qr' nr' tq tn := by
  have hw := h.rw
  have hbR : Below R W W' := hb.mono (by omega)
  obtain ⟨a, c, hr, h1, h2⟩ := h.rs.row
  refine ⟨⟨⟨a, c, (hb.block R hw).trans hr, h1, h2⟩, toks_kept h.rs.tok h.rs.glt hbR, h.rs.glt, ho, hT _ _ h.rs.tab hbR, h.rs.le⟩, ⟨hb.os.trans h.mv.os, hb.tape.trans h.mv.tape, hb.output.trans h.mv.output, Nat.le_trans h.mv.size hb.size, fun k hk hr hv => (hb.block k hk).trans (h.mv.block k hk hr hv), h.mv.new⟩, hq, hn, h.far, hw⟩

theorem FS.setN (hT : ∀ a b, T a → Below R a b → T b) (h : FS T R g fm ts E w v W j vx L qr nr tq tn) (k : Nat) (y : Value) : FS T R g fm ts E w v (W.setCell ⟨w.heap.size + 1, k, none⟩ y) j vx L qr (nr.setIfInBounds k y) tq tn :=
  h.turned hT ((Below.refl _ W).setCell (p := ⟨w.heap.size + 1, k, none⟩) (by show w.heap.size ≤ w.heap.size + 1; omega) y) (ownsRow_setCell_other h.rs.own (fun e => (h.far _ e).2 rfl) y)
    ((heap_setCell_other W ⟨w.heap.size + 1, k, none⟩ _ y (by show w.heap.size ≠ w.heap.size + 1; omega)).trans h.qq) (heap_setCell_same W _ k _ _ y h.nn)

theorem FS.setQ (hT : ∀ a b, T a → Below R a b → T b) (h : FS T R g fm ts E w v W j vx L qr nr tq tn) (k : Nat) (y : Value) : FS T R g fm ts E w v (W.setCell ⟨w.heap.size, k, none⟩ y) j vx L (qr.setIfInBounds k y) nr tq tn :=
  h.turned hT ((Below.refl _ W).setCell (p := ⟨w.heap.size, k, none⟩) (Nat.le_refl _) y) (ownsRow_setCell_other h.rs.own (fun e => (h.far _ e).1 rfl) y)
    (heap_setCell_same W _ k _ _ y h.qq) ((heap_setCell_other W ⟨w.heap.size, k, none⟩ _ y (by show w.heap.size + 1 ≠ w.heap.size; omega)).trans h.nn)

theorem FS.low (h : FS T R g fm ts E w v W j vx L qr nr tq tn) (hv : ∀ k, v.ownBlock = some k → R < k) : Below R w W := h.mv.low hv h.rw
end

/-- A row of seven cells is written whole. -/
abbrev put7 (W : World) (g : Nat) (y0 y1 y2 y3 y4 y5 y6 : Value) : World := ((((((W.setCell ⟨g, 0, none⟩ y0).setCell ⟨g, 1, none⟩ y1).setCell ⟨g, 2, none⟩ y2).setCell ⟨g, 3, none⟩ y3).setCell ⟨g, 4, none⟩ y4).setCell ⟨g, 5, none⟩ y5).setCell ⟨g, 6, none⟩ y6

abbrev nodZ : Array Value := #[.int .i64 0, .int .i64 0, .int .i64 0, .int .i64 0, .int .i64 0, .string ⟨#[]⟩, .string ⟨#[]⟩]

theorem FS.fin {T : World → Prop} {R g fm : Nat} {ts : List Tok} {E : Int} {w W : World} {v vx : Value} {j : Nat} {L : List Nod} {nr : Array Value} {tn : TypeId} (hT : ∀ a b, T a → Below R a b → T b) (h : FS T R g fm ts E w v W j vx L nodZ nr 55 tn) (y0 y1 y2 y3 y4 y5 y6 : Value) :
    FS T R g fm ts E w v (put7 W w.heap.size y0 y1 y2 y3 y4 y5 y6) j vx L #[y0, y1, y2, y3, y4, y5, y6] nr 55 tn :=
  ((((((h.setQ hT 0 y0).setQ hT 1 y1).setQ hT 2 y2).setQ hT 3 y3).setQ hT 4 y4).setQ hT 5 y5).setQ hT 6 y6

theorem node_cells {w : World} {g : Nat} {y0 y1 y2 y3 y4 y5 y6 : Value} {t : TypeId} (h : w.heap[g]? = some (.cells #[y0, y1, y2, y3, y4, y5, y6] t (0, 0))) :
    w.cell? ⟨g, 0, none⟩ = some y0 ∧ w.cell? ⟨g, 1, none⟩ = some y1 ∧ w.cell? ⟨g, 2, none⟩ = some y2 ∧ w.cell? ⟨g, 3, none⟩ = some y3 ∧ w.cell? ⟨g, 4, none⟩ = some y4 ∧ w.cell? ⟨g, 5, none⟩ = some y5 ∧ w.cell? ⟨g, 6, none⟩ = some y6 ∧ ∀ j, w.frozen? ⟨g, j, none⟩ = false := by
  refine ⟨?_, ?_, ?_, ?_, ?_, ?_, ?_, fun j => frozen_of_row w g j _ _ h⟩ <;> rw [cell_of_row _ _ _ _ _ _ h] <;> rfl

theorem name_size {s : ByteArray} {ts : List Tok} {E : Int} {i j : Nat} {x : ByteArray} (hk : ∀ i, i < ts.length → TokOk s (ts.getD i noTok)) (h : nameE ts E i = .ok (j, x)) : ¬ x.size = 0 ∧ j = i + 1 ∧ i < ts.length := by
  obtain ⟨h1, h2, h3⟩ := nameE_ok h
  rw [nameE_is h2 (hk i h2)] at h
  split at h
  · rename_i hn
    rw [← h3, isNameB, Bool.and_eq_true] at hn
    have := (word_low hn.1).1
    exact ⟨by omega, h1, h2⟩
  · cases h

set_option maxHeartbeats 2000000 in
set_option maxRecDepth 20000 in
theorem rd_readFun {T : World → Prop} {R g fm : Nat} {ts : List Tok} {E : Int} {f : Nat} {s : ByteArray} (hT : ∀ a b, T a → Below R a b → T b) (hc : ts.length ≤ 4000) (hs : s.size ≤ 4000) (hk : ∀ i, i < ts.length → TokOk s (ts.getD i noTok)) (ih : ExprI T R g fm ts E f) :
    FormI T R g fm ts E f 56 #[.pointer (some ⟨R, 0, none⟩)] 3 0 [110, 101] := by
  intro w i v l h hf hl
  obtain ⟨RA, hRA⟩ : ∃ RA, argsE ts E (exprE ts E f) [110, 101] i ⟨3, 0, 0, 0, 0, ByteArray.empty, ByteArray.empty⟩ l [] = RA := ⟨_, rfl⟩
  rw [hRA]
  have HA0 : Hid (argsE ts E (exprE ts E f) [110, 101] i ⟨3, 0, 0, 0, 0, ByteArray.empty, ByteArray.empty⟩ l [] = RA) := hRA
  have HT : Hid (∀ a b, T a → Below R a b → T b) := hT
  have IH : Hid (ExprI T R g fm ts E f) := ih
  have HC : Hid (ts.length ≤ 4000) := hc
  have HS : Hid (s.size ≤ 4000) := hs
  have HK : Hid (∀ i, i < ts.length → TokOk s (ts.getD i noTok)) := hk
  have HV : Hid (∀ k, v.ownBlock = some k → R < k) := h.far
  have HF : Hid (ts.length + 1 ≤ i + f) := hf
  have HL0 : Hid (l.length ≤ i) := hl
  have F0 : Hid (FS T R g fm ts E w v ((w.alloc (.cells nodZ 55)).alloc (.cells #[.int .i64 3, .int .i64 0, .int .i64 0, .int .i64 0, .int .i64 0, .string ⟨#[]⟩, .string ⟨#[]⟩] 55)) i v l nodZ #[.int .i64 3, .int .i64 0, .int .i64 0, .int .i64 0, .int .i64 0, .string ⟨#[]⟩, .string ⟨#[]⟩] 55 55) := FS.start hT h
  clear hRA hT ih hc hs hk hf hl h
  go_enter Tryd.func56, Tryd.ntmps56
  go_wp2_with fail
  refine (rd_name HT.out F0.out.rs HC.out HS.out HK.out).mono ?_
  rintro e w1 he1
  obtain ⟨j1, s1, hx1, rfl, hr1, hm1⟩ | ⟨c1, q1, hx1, rfl, hb1⟩ := nout_case he1
  case inr =>
    have HE : Hid (RA = .error (c1, q1)) := by
      have h := HA0.out
      rw [argsE, if_pos rfl, hx1] at h
      exact h.symm
    have HB : Hid (Below R w w1) := (F0.out.low HV.out).trans hb1
    clear he1 hx1 hb1
    go_wp2
    exact ⟨rfl, by rw [HE.out]; exact ⟨rfl, HB.out⟩⟩
  obtain ⟨hz1, rfl, hl1⟩ := name_size HK.out hx1
  have HA1 : Hid (argsE ts E (exprE ts E f) [101] (i + 1) ⟨3, 0, 0, 0, 0, s1, ByteArray.empty⟩ l [] = RA) := by
    have h := HA0.out
    rw [argsE, if_pos rfl, hx1] at h
    simp only at h
    rw [if_pos (by first | rfl | decide)] at h
    exact h
  have HF1 : Hid (ts.length + 1 ≤ (i + 1) + f ∧ (l).length ≤ (i + 1)) := by
    have h1 := HF.out
    have h2 := HL0.out
    show ts.length + 1 ≤ (i + 1) + f ∧ (l).length ≤ (i + 1)
    omega
  have G1 : Hid (FS T R g fm ts E w v w1 (i + 1) v l nodZ #[.int .i64 3, .int .i64 0, .int .i64 0, .int .i64 0, .int .i64 0, .string ⟨#[]⟩, .string ⟨#[]⟩] 55 55) := F0.out.call hr1 hm1
  obtain ⟨W1, hW1⟩ : ∃ W, w1.setCell ⟨w.heap.size + 1, 5, none⟩ (.string s1) = W := ⟨_, rfl⟩
  have HW1 : Hid (w1.setCell ⟨w.heap.size + 1, 5, none⟩ (.string s1) = W1) := hW1
  have F1 : Hid (FS T R g fm ts E w v W1 (i + 1) v l nodZ #[.int .i64 3, .int .i64 0, .int .i64 0, .int .i64 0, .int .i64 0, .string s1, .string ⟨#[]⟩] 55 55) := by
    rw [← hW1]
    exact G1.out.setN HT.out 5 _
  obtain ⟨n0, n1, n2, n3, n4, n5, n6, n7⟩ := node_cells G1.out.nn
  clear he1 hx1 hr1 hm1 hW1 hl1
  go_wp2_with fail
  rw [HW1.out]
  clear n0 n1 n2 n3 n4 n5 n6 n7 HW1 G1
  refine (IH.out _ _ _ _ F1.out.rs HF1.out.1 HF1.out.2).mono ?_
  rintro e w2 he2
  obtain ⟨j2, m2, v2, hx2, rfl, hr2, hm2⟩ | ⟨c2, q2, hx2, rfl, hb2⟩ := eout_case he2
  case inr =>
    have HE : Hid (RA = .error (c2, q2)) := by
      have h := HA1.out
      rw [argsE, if_neg (by decide), hx2] at h
      exact h.symm
    have HB : Hid (Below R w w2) := (F1.out.low HV.out).trans hb2
    clear he2 hx2 hb2
    go_wp2
    exact ⟨rfl, by rw [HE.out]; exact ⟨rfl, HB.out⟩⟩
  obtain ⟨hl2, hle2, hpos2, hgr2⟩ := exprE_fair ts E f _ _ _ _ hx2
  have HA2 : Hid (argsE ts E (exprE ts E f) [] j2 ⟨3, 0, 0, 0, 0, s1, ByteArray.empty⟩ m2 [((m2.length : Int) - 1)] = RA) := by
    have h := HA1.out
    rw [argsE, if_neg (by decide), hx2] at h
    exact h
  have HF2 : Hid (ts.length + 1 ≤ j2 + f ∧ (m2).length ≤ j2) := by
    have h1 := HF1.out
    
    show ts.length + 1 ≤ j2 + f ∧ (m2).length ≤ j2
    omega
  have G2 : Hid (FS T R g fm ts E w v w2 j2 v2 m2 nodZ #[.int .i64 3, .int .i64 0, .int .i64 0, .int .i64 0, .int .i64 0, .string s1, .string ⟨#[]⟩] 55 55) := F1.out.call hr2 hm2
  obtain ⟨W2, hW2⟩ : ∃ W, w2.setCell ⟨w.heap.size + 1, 1, none⟩ (.int .i64 ((m2.length : Int) - 1)) = W := ⟨_, rfl⟩
  have HW2 : Hid (w2.setCell ⟨w.heap.size + 1, 1, none⟩ (.int .i64 ((m2.length : Int) - 1)) = W2) := hW2
  have F2 : Hid (FS T R g fm ts E w v W2 j2 v2 m2 nodZ #[.int .i64 3, .int .i64 ((m2.length : Int) - 1), .int .i64 0, .int .i64 0, .int .i64 0, .string s1, .string ⟨#[]⟩] 55 55) := by
    rw [← hW2]
    exact G2.out.setN HT.out 1 _
  obtain ⟨n0, n1, n2, n3, n4, n5, n6, n7⟩ := node_cells G2.out.nn
  clear he2 hx2 hr2 hm2 hW2 hl2 hle2 hpos2 hgr2
  obtain ⟨q0, q1, q2, q3, q4, q5, q6, q7⟩ := node_cells G2.out.qq
  have z1 := G2.out.size
  go_wp2
  rw [HW2.out]
  have hfin := F2.out.fin HT.out (.int .i64 3) (.int .i64 ((m2.length : Int) - 1)) (.int .i64 0) (.int .i64 0) (.int .i64 0) (.string s1) (.string ⟨#[]⟩)
  refine bodyPost_ret (results_cell_row rfl _ _ w.heap.size 55 #[.int .i64 3, .int .i64 ((m2.length : Int) - 1), .int .i64 0, .int .i64 0, .int .i64 0, .string s1, .string ⟨#[]⟩] (0, 0) _ rfl hfin.qq Tryd.underlying55 rfl (by kernel_rfl)) rfl ?_
  have hA := HA2.out
  rw [argsE] at hA
  rw [← hA]
  exact ⟨rfl, _, hfin.rs, hfin.mv⟩

set_option maxHeartbeats 2000000 in
set_option maxRecDepth 20000 in
theorem rd_readLet {T : World → Prop} {R g fm : Nat} {ts : List Tok} {E : Int} {f : Nat} {s : ByteArray} (hT : ∀ a b, T a → Below R a b → T b) (hc : ts.length ≤ 4000) (hs : s.size ≤ 4000) (hk : ∀ i, i < ts.length → TokOk s (ts.getD i noTok)) (ih : ExprI T R g fm ts E f) :
    FormI T R g fm ts E f 58 #[.pointer (some ⟨R, 0, none⟩)] 5 0 [110, 101, 101] := by
  intro w i v l h hf hl
  obtain ⟨RA, hRA⟩ : ∃ RA, argsE ts E (exprE ts E f) [110, 101, 101] i ⟨5, 0, 0, 0, 0, ByteArray.empty, ByteArray.empty⟩ l [] = RA := ⟨_, rfl⟩
  rw [hRA]
  have HA0 : Hid (argsE ts E (exprE ts E f) [110, 101, 101] i ⟨5, 0, 0, 0, 0, ByteArray.empty, ByteArray.empty⟩ l [] = RA) := hRA
  have HT : Hid (∀ a b, T a → Below R a b → T b) := hT
  have IH : Hid (ExprI T R g fm ts E f) := ih
  have HC : Hid (ts.length ≤ 4000) := hc
  have HS : Hid (s.size ≤ 4000) := hs
  have HK : Hid (∀ i, i < ts.length → TokOk s (ts.getD i noTok)) := hk
  have HV : Hid (∀ k, v.ownBlock = some k → R < k) := h.far
  have HF : Hid (ts.length + 1 ≤ i + f) := hf
  have HL0 : Hid (l.length ≤ i) := hl
  have F0 : Hid (FS T R g fm ts E w v ((w.alloc (.cells nodZ 55)).alloc (.cells #[.int .i64 5, .int .i64 0, .int .i64 0, .int .i64 0, .int .i64 0, .string ⟨#[]⟩, .string ⟨#[]⟩] 55)) i v l nodZ #[.int .i64 5, .int .i64 0, .int .i64 0, .int .i64 0, .int .i64 0, .string ⟨#[]⟩, .string ⟨#[]⟩] 55 55) := FS.start hT h
  clear hRA hT ih hc hs hk hf hl h
  go_enter Tryd.func58, Tryd.ntmps58
  go_wp2_with fail
  refine (rd_name HT.out F0.out.rs HC.out HS.out HK.out).mono ?_
  rintro e w1 he1
  obtain ⟨j1, s1, hx1, rfl, hr1, hm1⟩ | ⟨c1, q1, hx1, rfl, hb1⟩ := nout_case he1
  case inr =>
    have HE : Hid (RA = .error (c1, q1)) := by
      have h := HA0.out
      rw [argsE, if_pos rfl, hx1] at h
      exact h.symm
    have HB : Hid (Below R w w1) := (F0.out.low HV.out).trans hb1
    clear he1 hx1 hb1
    go_wp2
    exact ⟨rfl, by rw [HE.out]; exact ⟨rfl, HB.out⟩⟩
  obtain ⟨hz1, rfl, hl1⟩ := name_size HK.out hx1
  have HA1 : Hid (argsE ts E (exprE ts E f) [101, 101] (i + 1) ⟨5, 0, 0, 0, 0, s1, ByteArray.empty⟩ l [] = RA) := by
    have h := HA0.out
    rw [argsE, if_pos rfl, hx1] at h
    simp only at h
    rw [if_pos (by first | rfl | decide)] at h
    exact h
  have HF1 : Hid (ts.length + 1 ≤ (i + 1) + f ∧ (l).length ≤ (i + 1)) := by
    have h1 := HF.out
    have h2 := HL0.out
    show ts.length + 1 ≤ (i + 1) + f ∧ (l).length ≤ (i + 1)
    omega
  have G1 : Hid (FS T R g fm ts E w v w1 (i + 1) v l nodZ #[.int .i64 5, .int .i64 0, .int .i64 0, .int .i64 0, .int .i64 0, .string ⟨#[]⟩, .string ⟨#[]⟩] 55 55) := F0.out.call hr1 hm1
  obtain ⟨W1, hW1⟩ : ∃ W, w1.setCell ⟨w.heap.size + 1, 5, none⟩ (.string s1) = W := ⟨_, rfl⟩
  have HW1 : Hid (w1.setCell ⟨w.heap.size + 1, 5, none⟩ (.string s1) = W1) := hW1
  have F1 : Hid (FS T R g fm ts E w v W1 (i + 1) v l nodZ #[.int .i64 5, .int .i64 0, .int .i64 0, .int .i64 0, .int .i64 0, .string s1, .string ⟨#[]⟩] 55 55) := by
    rw [← hW1]
    exact G1.out.setN HT.out 5 _
  obtain ⟨n0, n1, n2, n3, n4, n5, n6, n7⟩ := node_cells G1.out.nn
  clear he1 hx1 hr1 hm1 hW1 hl1
  go_wp2_with fail
  rw [HW1.out]
  clear n0 n1 n2 n3 n4 n5 n6 n7 HW1 G1
  refine (IH.out _ _ _ _ F1.out.rs HF1.out.1 HF1.out.2).mono ?_
  rintro e w2 he2
  obtain ⟨j2, m2, v2, hx2, rfl, hr2, hm2⟩ | ⟨c2, q2, hx2, rfl, hb2⟩ := eout_case he2
  case inr =>
    have HE : Hid (RA = .error (c2, q2)) := by
      have h := HA1.out
      rw [argsE, if_neg (by decide), hx2] at h
      exact h.symm
    have HB : Hid (Below R w w2) := (F1.out.low HV.out).trans hb2
    clear he2 hx2 hb2
    go_wp2
    exact ⟨rfl, by rw [HE.out]; exact ⟨rfl, HB.out⟩⟩
  obtain ⟨hl2, hle2, hpos2, hgr2⟩ := exprE_fair ts E f _ _ _ _ hx2
  have HA2 : Hid (argsE ts E (exprE ts E f) [101] j2 ⟨5, 0, 0, 0, 0, s1, ByteArray.empty⟩ m2 [((m2.length : Int) - 1)] = RA) := by
    have h := HA1.out
    rw [argsE, if_neg (by decide), hx2] at h
    exact h
  have HF2 : Hid (ts.length + 1 ≤ j2 + f ∧ (m2).length ≤ j2) := by
    have h1 := HF1.out
    
    show ts.length + 1 ≤ j2 + f ∧ (m2).length ≤ j2
    omega
  have G2 : Hid (FS T R g fm ts E w v w2 j2 v2 m2 nodZ #[.int .i64 5, .int .i64 0, .int .i64 0, .int .i64 0, .int .i64 0, .string s1, .string ⟨#[]⟩] 55 55) := F1.out.call hr2 hm2
  obtain ⟨W2, hW2⟩ : ∃ W, w2.setCell ⟨w.heap.size + 1, 1, none⟩ (.int .i64 ((m2.length : Int) - 1)) = W := ⟨_, rfl⟩
  have HW2 : Hid (w2.setCell ⟨w.heap.size + 1, 1, none⟩ (.int .i64 ((m2.length : Int) - 1)) = W2) := hW2
  have F2 : Hid (FS T R g fm ts E w v W2 j2 v2 m2 nodZ #[.int .i64 5, .int .i64 ((m2.length : Int) - 1), .int .i64 0, .int .i64 0, .int .i64 0, .string s1, .string ⟨#[]⟩] 55 55) := by
    rw [← hW2]
    exact G2.out.setN HT.out 1 _
  obtain ⟨n0, n1, n2, n3, n4, n5, n6, n7⟩ := node_cells G2.out.nn
  clear he2 hx2 hr2 hm2 hW2 hl2 hle2 hpos2 hgr2
  go_wp2_with fail
  rw [HW2.out]
  clear n0 n1 n2 n3 n4 n5 n6 n7 HW2 G2
  refine (IH.out _ _ _ _ F2.out.rs HF2.out.1 HF2.out.2).mono ?_
  rintro e w3 he3
  obtain ⟨j3, m3, v3, hx3, rfl, hr3, hm3⟩ | ⟨c3, q3, hx3, rfl, hb3⟩ := eout_case he3
  case inr =>
    have HE : Hid (RA = .error (c3, q3)) := by
      have h := HA2.out
      rw [argsE, if_neg (by decide), hx3] at h
      exact h.symm
    have HB : Hid (Below R w w3) := (F2.out.low HV.out).trans hb3
    clear he3 hx3 hb3
    go_wp2
    exact ⟨rfl, by rw [HE.out]; exact ⟨rfl, HB.out⟩⟩
  obtain ⟨hl3, hle3, hpos3, hgr3⟩ := exprE_fair ts E f _ _ _ _ hx3
  have HA3 : Hid (argsE ts E (exprE ts E f) [] j3 ⟨5, 0, 0, 0, 0, s1, ByteArray.empty⟩ m3 [((m2.length : Int) - 1), ((m3.length : Int) - 1)] = RA) := by
    have h := HA2.out
    rw [argsE, if_neg (by decide), hx3] at h
    exact h
  have HF3 : Hid (ts.length + 1 ≤ j3 + f ∧ (m3).length ≤ j3) := by
    have h1 := HF2.out
    
    show ts.length + 1 ≤ j3 + f ∧ (m3).length ≤ j3
    omega
  have G3 : Hid (FS T R g fm ts E w v w3 j3 v3 m3 nodZ #[.int .i64 5, .int .i64 ((m2.length : Int) - 1), .int .i64 0, .int .i64 0, .int .i64 0, .string s1, .string ⟨#[]⟩] 55 55) := F2.out.call hr3 hm3
  obtain ⟨W3, hW3⟩ : ∃ W, w3.setCell ⟨w.heap.size + 1, 2, none⟩ (.int .i64 ((m3.length : Int) - 1)) = W := ⟨_, rfl⟩
  have HW3 : Hid (w3.setCell ⟨w.heap.size + 1, 2, none⟩ (.int .i64 ((m3.length : Int) - 1)) = W3) := hW3
  have F3 : Hid (FS T R g fm ts E w v W3 j3 v3 m3 nodZ #[.int .i64 5, .int .i64 ((m2.length : Int) - 1), .int .i64 ((m3.length : Int) - 1), .int .i64 0, .int .i64 0, .string s1, .string ⟨#[]⟩] 55 55) := by
    rw [← hW3]
    exact G3.out.setN HT.out 2 _
  obtain ⟨n0, n1, n2, n3, n4, n5, n6, n7⟩ := node_cells G3.out.nn
  clear he3 hx3 hr3 hm3 hW3 hl3 hle3 hpos3 hgr3
  obtain ⟨q0, q1, q2, q3, q4, q5, q6, q7⟩ := node_cells G3.out.qq
  have z1 := G3.out.size
  go_wp2
  rw [HW3.out]
  have hfin := F3.out.fin HT.out (.int .i64 5) (.int .i64 ((m2.length : Int) - 1)) (.int .i64 ((m3.length : Int) - 1)) (.int .i64 0) (.int .i64 0) (.string s1) (.string ⟨#[]⟩)
  refine bodyPost_ret (results_cell_row rfl _ _ w.heap.size 55 #[.int .i64 5, .int .i64 ((m2.length : Int) - 1), .int .i64 ((m3.length : Int) - 1), .int .i64 0, .int .i64 0, .string s1, .string ⟨#[]⟩] (0, 0) _ rfl hfin.qq Tryd.underlying55 rfl (by kernel_rfl)) rfl ?_
  have hA := HA3.out
  rw [argsE] at hA
  rw [← hA]
  exact ⟨rfl, _, hfin.rs, hfin.mv⟩

set_option maxHeartbeats 2000000 in
set_option maxRecDepth 20000 in
theorem rd_readRec {T : World → Prop} {R g fm : Nat} {ts : List Tok} {E : Int} {f : Nat} {s : ByteArray} (hT : ∀ a b, T a → Below R a b → T b) (hc : ts.length ≤ 4000) (hs : s.size ≤ 4000) (hk : ∀ i, i < ts.length → TokOk s (ts.getD i noTok)) (ih : ExprI T R g fm ts E f) :
    FormI T R g fm ts E f 59 #[.pointer (some ⟨R, 0, none⟩)] 6 0 [110, 110, 101, 101] := by
  intro w i v l h hf hl
  obtain ⟨RA, hRA⟩ : ∃ RA, argsE ts E (exprE ts E f) [110, 110, 101, 101] i ⟨6, 0, 0, 0, 0, ByteArray.empty, ByteArray.empty⟩ l [] = RA := ⟨_, rfl⟩
  rw [hRA]
  have HA0 : Hid (argsE ts E (exprE ts E f) [110, 110, 101, 101] i ⟨6, 0, 0, 0, 0, ByteArray.empty, ByteArray.empty⟩ l [] = RA) := hRA
  have HT : Hid (∀ a b, T a → Below R a b → T b) := hT
  have IH : Hid (ExprI T R g fm ts E f) := ih
  have HC : Hid (ts.length ≤ 4000) := hc
  have HS : Hid (s.size ≤ 4000) := hs
  have HK : Hid (∀ i, i < ts.length → TokOk s (ts.getD i noTok)) := hk
  have HV : Hid (∀ k, v.ownBlock = some k → R < k) := h.far
  have HF : Hid (ts.length + 1 ≤ i + f) := hf
  have HL0 : Hid (l.length ≤ i) := hl
  have F0 : Hid (FS T R g fm ts E w v ((w.alloc (.cells nodZ 55)).alloc (.cells #[.int .i64 6, .int .i64 0, .int .i64 0, .int .i64 0, .int .i64 0, .string ⟨#[]⟩, .string ⟨#[]⟩] 55)) i v l nodZ #[.int .i64 6, .int .i64 0, .int .i64 0, .int .i64 0, .int .i64 0, .string ⟨#[]⟩, .string ⟨#[]⟩] 55 55) := FS.start hT h
  clear hRA hT ih hc hs hk hf hl h
  go_enter Tryd.func59, Tryd.ntmps59
  go_wp2_with fail
  refine (rd_name HT.out F0.out.rs HC.out HS.out HK.out).mono ?_
  rintro e w1 he1
  obtain ⟨j1, s1, hx1, rfl, hr1, hm1⟩ | ⟨c1, q1, hx1, rfl, hb1⟩ := nout_case he1
  case inr =>
    have HE : Hid (RA = .error (c1, q1)) := by
      have h := HA0.out
      rw [argsE, if_pos rfl, hx1] at h
      exact h.symm
    have HB : Hid (Below R w w1) := (F0.out.low HV.out).trans hb1
    clear he1 hx1 hb1
    go_wp2
    exact ⟨rfl, by rw [HE.out]; exact ⟨rfl, HB.out⟩⟩
  obtain ⟨hz1, rfl, hl1⟩ := name_size HK.out hx1
  have HA1 : Hid (argsE ts E (exprE ts E f) [110, 101, 101] (i + 1) ⟨6, 0, 0, 0, 0, s1, ByteArray.empty⟩ l [] = RA) := by
    have h := HA0.out
    rw [argsE, if_pos rfl, hx1] at h
    simp only at h
    rw [if_pos (by first | rfl | decide)] at h
    exact h
  have HF1 : Hid (ts.length + 1 ≤ (i + 1) + f ∧ (l).length ≤ (i + 1)) := by
    have h1 := HF.out
    have h2 := HL0.out
    show ts.length + 1 ≤ (i + 1) + f ∧ (l).length ≤ (i + 1)
    omega
  have G1 : Hid (FS T R g fm ts E w v w1 (i + 1) v l nodZ #[.int .i64 6, .int .i64 0, .int .i64 0, .int .i64 0, .int .i64 0, .string ⟨#[]⟩, .string ⟨#[]⟩] 55 55) := F0.out.call hr1 hm1
  obtain ⟨W1, hW1⟩ : ∃ W, w1.setCell ⟨w.heap.size + 1, 5, none⟩ (.string s1) = W := ⟨_, rfl⟩
  have HW1 : Hid (w1.setCell ⟨w.heap.size + 1, 5, none⟩ (.string s1) = W1) := hW1
  have F1 : Hid (FS T R g fm ts E w v W1 (i + 1) v l nodZ #[.int .i64 6, .int .i64 0, .int .i64 0, .int .i64 0, .int .i64 0, .string s1, .string ⟨#[]⟩] 55 55) := by
    rw [← hW1]
    exact G1.out.setN HT.out 5 _
  obtain ⟨n0, n1, n2, n3, n4, n5, n6, n7⟩ := node_cells G1.out.nn
  clear he1 hx1 hr1 hm1 hW1 hl1
  go_wp2_with fail
  rw [HW1.out]
  clear n0 n1 n2 n3 n4 n5 n6 n7 HW1 G1
  refine (rd_name HT.out F1.out.rs HC.out HS.out HK.out).mono ?_
  rintro e w2 he2
  obtain ⟨j2, s2, hx2, rfl, hr2, hm2⟩ | ⟨c2, q2, hx2, rfl, hb2⟩ := nout_case he2
  case inr =>
    have HE : Hid (RA = .error (c2, q2)) := by
      have h := HA1.out
      rw [argsE, if_pos rfl, hx2] at h
      exact h.symm
    have HB : Hid (Below R w w2) := (F1.out.low HV.out).trans hb2
    clear he2 hx2 hb2
    go_wp2
    exact ⟨rfl, by rw [HE.out]; exact ⟨rfl, HB.out⟩⟩
  obtain ⟨hz2, rfl, hl2⟩ := name_size HK.out hx2
  have HA2 : Hid (argsE ts E (exprE ts E f) [101, 101] ((i + 1) + 1) ⟨6, 0, 0, 0, 0, s1, s2⟩ l [] = RA) := by
    have h := HA1.out
    rw [argsE, if_pos rfl, hx2] at h
    simp only at h
    rw [if_neg hz1] at h
    exact h
  have HF2 : Hid (ts.length + 1 ≤ ((i + 1) + 1) + f ∧ (l).length ≤ ((i + 1) + 1)) := by
    have h1 := HF1.out
    
    show ts.length + 1 ≤ ((i + 1) + 1) + f ∧ (l).length ≤ ((i + 1) + 1)
    omega
  have G2 : Hid (FS T R g fm ts E w v w2 ((i + 1) + 1) v l nodZ #[.int .i64 6, .int .i64 0, .int .i64 0, .int .i64 0, .int .i64 0, .string s1, .string ⟨#[]⟩] 55 55) := F1.out.call hr2 hm2
  obtain ⟨W2, hW2⟩ : ∃ W, w2.setCell ⟨w.heap.size + 1, 6, none⟩ (.string s2) = W := ⟨_, rfl⟩
  have HW2 : Hid (w2.setCell ⟨w.heap.size + 1, 6, none⟩ (.string s2) = W2) := hW2
  have F2 : Hid (FS T R g fm ts E w v W2 ((i + 1) + 1) v l nodZ #[.int .i64 6, .int .i64 0, .int .i64 0, .int .i64 0, .int .i64 0, .string s1, .string s2] 55 55) := by
    rw [← hW2]
    exact G2.out.setN HT.out 6 _
  obtain ⟨n0, n1, n2, n3, n4, n5, n6, n7⟩ := node_cells G2.out.nn
  clear he2 hx2 hr2 hm2 hW2 hl2
  go_wp2_with fail
  rw [HW2.out]
  clear n0 n1 n2 n3 n4 n5 n6 n7 HW2 G2
  refine (IH.out _ _ _ _ F2.out.rs HF2.out.1 HF2.out.2).mono ?_
  rintro e w3 he3
  obtain ⟨j3, m3, v3, hx3, rfl, hr3, hm3⟩ | ⟨c3, q3, hx3, rfl, hb3⟩ := eout_case he3
  case inr =>
    have HE : Hid (RA = .error (c3, q3)) := by
      have h := HA2.out
      rw [argsE, if_neg (by decide), hx3] at h
      exact h.symm
    have HB : Hid (Below R w w3) := (F2.out.low HV.out).trans hb3
    clear he3 hx3 hb3
    go_wp2
    exact ⟨rfl, by rw [HE.out]; exact ⟨rfl, HB.out⟩⟩
  obtain ⟨hl3, hle3, hpos3, hgr3⟩ := exprE_fair ts E f _ _ _ _ hx3
  have HA3 : Hid (argsE ts E (exprE ts E f) [101] j3 ⟨6, 0, 0, 0, 0, s1, s2⟩ m3 [((m3.length : Int) - 1)] = RA) := by
    have h := HA2.out
    rw [argsE, if_neg (by decide), hx3] at h
    exact h
  have HF3 : Hid (ts.length + 1 ≤ j3 + f ∧ (m3).length ≤ j3) := by
    have h1 := HF2.out
    
    show ts.length + 1 ≤ j3 + f ∧ (m3).length ≤ j3
    omega
  have G3 : Hid (FS T R g fm ts E w v w3 j3 v3 m3 nodZ #[.int .i64 6, .int .i64 0, .int .i64 0, .int .i64 0, .int .i64 0, .string s1, .string s2] 55 55) := F2.out.call hr3 hm3
  obtain ⟨W3, hW3⟩ : ∃ W, w3.setCell ⟨w.heap.size + 1, 1, none⟩ (.int .i64 ((m3.length : Int) - 1)) = W := ⟨_, rfl⟩
  have HW3 : Hid (w3.setCell ⟨w.heap.size + 1, 1, none⟩ (.int .i64 ((m3.length : Int) - 1)) = W3) := hW3
  have F3 : Hid (FS T R g fm ts E w v W3 j3 v3 m3 nodZ #[.int .i64 6, .int .i64 ((m3.length : Int) - 1), .int .i64 0, .int .i64 0, .int .i64 0, .string s1, .string s2] 55 55) := by
    rw [← hW3]
    exact G3.out.setN HT.out 1 _
  obtain ⟨n0, n1, n2, n3, n4, n5, n6, n7⟩ := node_cells G3.out.nn
  clear he3 hx3 hr3 hm3 hW3 hl3 hle3 hpos3 hgr3
  go_wp2_with fail
  rw [HW3.out]
  clear n0 n1 n2 n3 n4 n5 n6 n7 HW3 G3
  refine (IH.out _ _ _ _ F3.out.rs HF3.out.1 HF3.out.2).mono ?_
  rintro e w4 he4
  obtain ⟨j4, m4, v4, hx4, rfl, hr4, hm4⟩ | ⟨c4, q4, hx4, rfl, hb4⟩ := eout_case he4
  case inr =>
    have HE : Hid (RA = .error (c4, q4)) := by
      have h := HA3.out
      rw [argsE, if_neg (by decide), hx4] at h
      exact h.symm
    have HB : Hid (Below R w w4) := (F3.out.low HV.out).trans hb4
    clear he4 hx4 hb4
    go_wp2
    exact ⟨rfl, by rw [HE.out]; exact ⟨rfl, HB.out⟩⟩
  obtain ⟨hl4, hle4, hpos4, hgr4⟩ := exprE_fair ts E f _ _ _ _ hx4
  have HA4 : Hid (argsE ts E (exprE ts E f) [] j4 ⟨6, 0, 0, 0, 0, s1, s2⟩ m4 [((m3.length : Int) - 1), ((m4.length : Int) - 1)] = RA) := by
    have h := HA3.out
    rw [argsE, if_neg (by decide), hx4] at h
    exact h
  have HF4 : Hid (ts.length + 1 ≤ j4 + f ∧ (m4).length ≤ j4) := by
    have h1 := HF3.out
    
    show ts.length + 1 ≤ j4 + f ∧ (m4).length ≤ j4
    omega
  have G4 : Hid (FS T R g fm ts E w v w4 j4 v4 m4 nodZ #[.int .i64 6, .int .i64 ((m3.length : Int) - 1), .int .i64 0, .int .i64 0, .int .i64 0, .string s1, .string s2] 55 55) := F3.out.call hr4 hm4
  obtain ⟨W4, hW4⟩ : ∃ W, w4.setCell ⟨w.heap.size + 1, 2, none⟩ (.int .i64 ((m4.length : Int) - 1)) = W := ⟨_, rfl⟩
  have HW4 : Hid (w4.setCell ⟨w.heap.size + 1, 2, none⟩ (.int .i64 ((m4.length : Int) - 1)) = W4) := hW4
  have F4 : Hid (FS T R g fm ts E w v W4 j4 v4 m4 nodZ #[.int .i64 6, .int .i64 ((m3.length : Int) - 1), .int .i64 ((m4.length : Int) - 1), .int .i64 0, .int .i64 0, .string s1, .string s2] 55 55) := by
    rw [← hW4]
    exact G4.out.setN HT.out 2 _
  obtain ⟨n0, n1, n2, n3, n4, n5, n6, n7⟩ := node_cells G4.out.nn
  clear he4 hx4 hr4 hm4 hW4 hl4 hle4 hpos4 hgr4
  obtain ⟨q0, q1, q2, q3, q4, q5, q6, q7⟩ := node_cells G4.out.qq
  have z1 := G4.out.size
  go_wp2
  rw [HW4.out]
  have hfin := F4.out.fin HT.out (.int .i64 6) (.int .i64 ((m3.length : Int) - 1)) (.int .i64 ((m4.length : Int) - 1)) (.int .i64 0) (.int .i64 0) (.string s1) (.string s2)
  refine bodyPost_ret (results_cell_row rfl _ _ w.heap.size 55 #[.int .i64 6, .int .i64 ((m3.length : Int) - 1), .int .i64 ((m4.length : Int) - 1), .int .i64 0, .int .i64 0, .string s1, .string s2] (0, 0) _ rfl hfin.qq Tryd.underlying55 rfl (by kernel_rfl)) rfl ?_
  have hA := HA4.out
  rw [argsE] at hA
  rw [← hA]
  exact ⟨rfl, _, hfin.rs, hfin.mv⟩

set_option maxHeartbeats 2000000 in
set_option maxRecDepth 20000 in
theorem rd_readMatch {T : World → Prop} {R g fm : Nat} {ts : List Tok} {E : Int} {f : Nat} {s : ByteArray} (hT : ∀ a b, T a → Below R a b → T b) (hc : ts.length ≤ 4000) (hs : s.size ≤ 4000) (hk : ∀ i, i < ts.length → TokOk s (ts.getD i noTok)) (ih : ExprI T R g fm ts E f) :
    FormI T R g fm ts E f 60 #[.pointer (some ⟨R, 0, none⟩)] 14 0 [101, 101, 110, 110, 101] := by
  intro w i v l h hf hl
  obtain ⟨RA, hRA⟩ : ∃ RA, argsE ts E (exprE ts E f) [101, 101, 110, 110, 101] i ⟨14, 0, 0, 0, 0, ByteArray.empty, ByteArray.empty⟩ l [] = RA := ⟨_, rfl⟩
  rw [hRA]
  have HA0 : Hid (argsE ts E (exprE ts E f) [101, 101, 110, 110, 101] i ⟨14, 0, 0, 0, 0, ByteArray.empty, ByteArray.empty⟩ l [] = RA) := hRA
  have HT : Hid (∀ a b, T a → Below R a b → T b) := hT
  have IH : Hid (ExprI T R g fm ts E f) := ih
  have HC : Hid (ts.length ≤ 4000) := hc
  have HS : Hid (s.size ≤ 4000) := hs
  have HK : Hid (∀ i, i < ts.length → TokOk s (ts.getD i noTok)) := hk
  have HV : Hid (∀ k, v.ownBlock = some k → R < k) := h.far
  have HF : Hid (ts.length + 1 ≤ i + f) := hf
  have HL0 : Hid (l.length ≤ i) := hl
  have F0 : Hid (FS T R g fm ts E w v ((w.alloc (.cells nodZ 55)).alloc (.cells #[.int .i64 14, .int .i64 0, .int .i64 0, .int .i64 0, .int .i64 0, .string ⟨#[]⟩, .string ⟨#[]⟩] 55)) i v l nodZ #[.int .i64 14, .int .i64 0, .int .i64 0, .int .i64 0, .int .i64 0, .string ⟨#[]⟩, .string ⟨#[]⟩] 55 55) := FS.start hT h
  clear hRA hT ih hc hs hk hf hl h
  go_enter Tryd.func60, Tryd.ntmps60
  go_wp2_with fail
  refine (IH.out _ _ _ _ F0.out.rs HF.out HL0.out).mono ?_
  rintro e w1 he1
  obtain ⟨j1, m1, v1, hx1, rfl, hr1, hm1⟩ | ⟨c1, q1, hx1, rfl, hb1⟩ := eout_case he1
  case inr =>
    have HE : Hid (RA = .error (c1, q1)) := by
      have h := HA0.out
      rw [argsE, if_neg (by decide), hx1] at h
      exact h.symm
    have HB : Hid (Below R w w1) := (F0.out.low HV.out).trans hb1
    clear he1 hx1 hb1
    go_wp2
    exact ⟨rfl, by rw [HE.out]; exact ⟨rfl, HB.out⟩⟩
  obtain ⟨hl1, hle1, hpos1, hgr1⟩ := exprE_fair ts E f _ _ _ _ hx1
  have HA1 : Hid (argsE ts E (exprE ts E f) [101, 110, 110, 101] j1 ⟨14, 0, 0, 0, 0, ByteArray.empty, ByteArray.empty⟩ m1 [((m1.length : Int) - 1)] = RA) := by
    have h := HA0.out
    rw [argsE, if_neg (by decide), hx1] at h
    exact h
  have HF1 : Hid (ts.length + 1 ≤ j1 + f ∧ (m1).length ≤ j1) := by
    have h1 := HF.out
    have h2 := HL0.out
    show ts.length + 1 ≤ j1 + f ∧ (m1).length ≤ j1
    omega
  have G1 : Hid (FS T R g fm ts E w v w1 j1 v1 m1 nodZ #[.int .i64 14, .int .i64 0, .int .i64 0, .int .i64 0, .int .i64 0, .string ⟨#[]⟩, .string ⟨#[]⟩] 55 55) := F0.out.call hr1 hm1
  obtain ⟨W1, hW1⟩ : ∃ W, w1.setCell ⟨w.heap.size + 1, 1, none⟩ (.int .i64 ((m1.length : Int) - 1)) = W := ⟨_, rfl⟩
  have HW1 : Hid (w1.setCell ⟨w.heap.size + 1, 1, none⟩ (.int .i64 ((m1.length : Int) - 1)) = W1) := hW1
  have F1 : Hid (FS T R g fm ts E w v W1 j1 v1 m1 nodZ #[.int .i64 14, .int .i64 ((m1.length : Int) - 1), .int .i64 0, .int .i64 0, .int .i64 0, .string ⟨#[]⟩, .string ⟨#[]⟩] 55 55) := by
    rw [← hW1]
    exact G1.out.setN HT.out 1 _
  obtain ⟨n0, n1, n2, n3, n4, n5, n6, n7⟩ := node_cells G1.out.nn
  clear he1 hx1 hr1 hm1 hW1 hl1 hle1 hpos1 hgr1
  go_wp2_with fail
  rw [HW1.out]
  clear n0 n1 n2 n3 n4 n5 n6 n7 HW1 G1
  refine (IH.out _ _ _ _ F1.out.rs HF1.out.1 HF1.out.2).mono ?_
  rintro e w2 he2
  obtain ⟨j2, m2, v2, hx2, rfl, hr2, hm2⟩ | ⟨c2, q2, hx2, rfl, hb2⟩ := eout_case he2
  case inr =>
    have HE : Hid (RA = .error (c2, q2)) := by
      have h := HA1.out
      rw [argsE, if_neg (by decide), hx2] at h
      exact h.symm
    have HB : Hid (Below R w w2) := (F1.out.low HV.out).trans hb2
    clear he2 hx2 hb2
    go_wp2
    exact ⟨rfl, by rw [HE.out]; exact ⟨rfl, HB.out⟩⟩
  obtain ⟨hl2, hle2, hpos2, hgr2⟩ := exprE_fair ts E f _ _ _ _ hx2
  have HA2 : Hid (argsE ts E (exprE ts E f) [110, 110, 101] j2 ⟨14, 0, 0, 0, 0, ByteArray.empty, ByteArray.empty⟩ m2 [((m1.length : Int) - 1), ((m2.length : Int) - 1)] = RA) := by
    have h := HA1.out
    rw [argsE, if_neg (by decide), hx2] at h
    exact h
  have HF2 : Hid (ts.length + 1 ≤ j2 + f ∧ (m2).length ≤ j2) := by
    have h1 := HF1.out
    
    show ts.length + 1 ≤ j2 + f ∧ (m2).length ≤ j2
    omega
  have G2 : Hid (FS T R g fm ts E w v w2 j2 v2 m2 nodZ #[.int .i64 14, .int .i64 ((m1.length : Int) - 1), .int .i64 0, .int .i64 0, .int .i64 0, .string ⟨#[]⟩, .string ⟨#[]⟩] 55 55) := F1.out.call hr2 hm2
  obtain ⟨W2, hW2⟩ : ∃ W, w2.setCell ⟨w.heap.size + 1, 2, none⟩ (.int .i64 ((m2.length : Int) - 1)) = W := ⟨_, rfl⟩
  have HW2 : Hid (w2.setCell ⟨w.heap.size + 1, 2, none⟩ (.int .i64 ((m2.length : Int) - 1)) = W2) := hW2
  have F2 : Hid (FS T R g fm ts E w v W2 j2 v2 m2 nodZ #[.int .i64 14, .int .i64 ((m1.length : Int) - 1), .int .i64 ((m2.length : Int) - 1), .int .i64 0, .int .i64 0, .string ⟨#[]⟩, .string ⟨#[]⟩] 55 55) := by
    rw [← hW2]
    exact G2.out.setN HT.out 2 _
  obtain ⟨n0, n1, n2, n3, n4, n5, n6, n7⟩ := node_cells G2.out.nn
  clear he2 hx2 hr2 hm2 hW2 hl2 hle2 hpos2 hgr2
  go_wp2_with fail
  rw [HW2.out]
  clear n0 n1 n2 n3 n4 n5 n6 n7 HW2 G2
  refine (rd_name HT.out F2.out.rs HC.out HS.out HK.out).mono ?_
  rintro e w3 he3
  obtain ⟨j3, s3, hx3, rfl, hr3, hm3⟩ | ⟨c3, q3, hx3, rfl, hb3⟩ := nout_case he3
  case inr =>
    have HE : Hid (RA = .error (c3, q3)) := by
      have h := HA2.out
      rw [argsE, if_pos rfl, hx3] at h
      exact h.symm
    have HB : Hid (Below R w w3) := (F2.out.low HV.out).trans hb3
    clear he3 hx3 hb3
    go_wp2
    exact ⟨rfl, by rw [HE.out]; exact ⟨rfl, HB.out⟩⟩
  obtain ⟨hz1, rfl, hl3⟩ := name_size HK.out hx3
  have HA3 : Hid (argsE ts E (exprE ts E f) [110, 101] (j2 + 1) ⟨14, 0, 0, 0, 0, s3, ByteArray.empty⟩ m2 [((m1.length : Int) - 1), ((m2.length : Int) - 1)] = RA) := by
    have h := HA2.out
    rw [argsE, if_pos rfl, hx3] at h
    simp only at h
    rw [if_pos (by first | rfl | decide)] at h
    exact h
  have HF3 : Hid (ts.length + 1 ≤ (j2 + 1) + f ∧ (m2).length ≤ (j2 + 1)) := by
    have h1 := HF2.out
    
    show ts.length + 1 ≤ (j2 + 1) + f ∧ (m2).length ≤ (j2 + 1)
    omega
  have G3 : Hid (FS T R g fm ts E w v w3 (j2 + 1) v2 m2 nodZ #[.int .i64 14, .int .i64 ((m1.length : Int) - 1), .int .i64 ((m2.length : Int) - 1), .int .i64 0, .int .i64 0, .string ⟨#[]⟩, .string ⟨#[]⟩] 55 55) := F2.out.call hr3 hm3
  obtain ⟨W3, hW3⟩ : ∃ W, w3.setCell ⟨w.heap.size + 1, 5, none⟩ (.string s3) = W := ⟨_, rfl⟩
  have HW3 : Hid (w3.setCell ⟨w.heap.size + 1, 5, none⟩ (.string s3) = W3) := hW3
  have F3 : Hid (FS T R g fm ts E w v W3 (j2 + 1) v2 m2 nodZ #[.int .i64 14, .int .i64 ((m1.length : Int) - 1), .int .i64 ((m2.length : Int) - 1), .int .i64 0, .int .i64 0, .string s3, .string ⟨#[]⟩] 55 55) := by
    rw [← hW3]
    exact G3.out.setN HT.out 5 _
  obtain ⟨n0, n1, n2, n3, n4, n5, n6, n7⟩ := node_cells G3.out.nn
  clear he3 hx3 hr3 hm3 hW3 hl3
  go_wp2_with fail
  rw [HW3.out]
  clear n0 n1 n2 n3 n4 n5 n6 n7 HW3 G3
  refine (rd_name HT.out F3.out.rs HC.out HS.out HK.out).mono ?_
  rintro e w4 he4
  obtain ⟨j4, s4, hx4, rfl, hr4, hm4⟩ | ⟨c4, q4, hx4, rfl, hb4⟩ := nout_case he4
  case inr =>
    have HE : Hid (RA = .error (c4, q4)) := by
      have h := HA3.out
      rw [argsE, if_pos rfl, hx4] at h
      exact h.symm
    have HB : Hid (Below R w w4) := (F3.out.low HV.out).trans hb4
    clear he4 hx4 hb4
    go_wp2
    exact ⟨rfl, by rw [HE.out]; exact ⟨rfl, HB.out⟩⟩
  obtain ⟨hz4, rfl, hl4⟩ := name_size HK.out hx4
  have HA4 : Hid (argsE ts E (exprE ts E f) [101] ((j2 + 1) + 1) ⟨14, 0, 0, 0, 0, s3, s4⟩ m2 [((m1.length : Int) - 1), ((m2.length : Int) - 1)] = RA) := by
    have h := HA3.out
    rw [argsE, if_pos rfl, hx4] at h
    simp only at h
    rw [if_neg hz1] at h
    exact h
  have HF4 : Hid (ts.length + 1 ≤ ((j2 + 1) + 1) + f ∧ (m2).length ≤ ((j2 + 1) + 1)) := by
    have h1 := HF3.out
    
    show ts.length + 1 ≤ ((j2 + 1) + 1) + f ∧ (m2).length ≤ ((j2 + 1) + 1)
    omega
  have G4 : Hid (FS T R g fm ts E w v w4 ((j2 + 1) + 1) v2 m2 nodZ #[.int .i64 14, .int .i64 ((m1.length : Int) - 1), .int .i64 ((m2.length : Int) - 1), .int .i64 0, .int .i64 0, .string s3, .string ⟨#[]⟩] 55 55) := F3.out.call hr4 hm4
  obtain ⟨W4, hW4⟩ : ∃ W, w4.setCell ⟨w.heap.size + 1, 6, none⟩ (.string s4) = W := ⟨_, rfl⟩
  have HW4 : Hid (w4.setCell ⟨w.heap.size + 1, 6, none⟩ (.string s4) = W4) := hW4
  have F4 : Hid (FS T R g fm ts E w v W4 ((j2 + 1) + 1) v2 m2 nodZ #[.int .i64 14, .int .i64 ((m1.length : Int) - 1), .int .i64 ((m2.length : Int) - 1), .int .i64 0, .int .i64 0, .string s3, .string s4] 55 55) := by
    rw [← hW4]
    exact G4.out.setN HT.out 6 _
  obtain ⟨n0, n1, n2, n3, n4, n5, n6, n7⟩ := node_cells G4.out.nn
  clear he4 hx4 hr4 hm4 hW4 hl4
  go_wp2_with fail
  rw [HW4.out]
  clear n0 n1 n2 n3 n4 n5 n6 n7 HW4 G4
  refine (IH.out _ _ _ _ F4.out.rs HF4.out.1 HF4.out.2).mono ?_
  rintro e w5 he5
  obtain ⟨j5, m5, v5, hx5, rfl, hr5, hm5⟩ | ⟨c5, q5, hx5, rfl, hb5⟩ := eout_case he5
  case inr =>
    have HE : Hid (RA = .error (c5, q5)) := by
      have h := HA4.out
      rw [argsE, if_neg (by decide), hx5] at h
      exact h.symm
    have HB : Hid (Below R w w5) := (F4.out.low HV.out).trans hb5
    clear he5 hx5 hb5
    go_wp2
    exact ⟨rfl, by rw [HE.out]; exact ⟨rfl, HB.out⟩⟩
  obtain ⟨hl5, hle5, hpos5, hgr5⟩ := exprE_fair ts E f _ _ _ _ hx5
  have HA5 : Hid (argsE ts E (exprE ts E f) [] j5 ⟨14, 0, 0, 0, 0, s3, s4⟩ m5 [((m1.length : Int) - 1), ((m2.length : Int) - 1), ((m5.length : Int) - 1)] = RA) := by
    have h := HA4.out
    rw [argsE, if_neg (by decide), hx5] at h
    exact h
  have HF5 : Hid (ts.length + 1 ≤ j5 + f ∧ (m5).length ≤ j5) := by
    have h1 := HF4.out
    
    show ts.length + 1 ≤ j5 + f ∧ (m5).length ≤ j5
    omega
  have G5 : Hid (FS T R g fm ts E w v w5 j5 v5 m5 nodZ #[.int .i64 14, .int .i64 ((m1.length : Int) - 1), .int .i64 ((m2.length : Int) - 1), .int .i64 0, .int .i64 0, .string s3, .string s4] 55 55) := F4.out.call hr5 hm5
  obtain ⟨W5, hW5⟩ : ∃ W, w5.setCell ⟨w.heap.size + 1, 3, none⟩ (.int .i64 ((m5.length : Int) - 1)) = W := ⟨_, rfl⟩
  have HW5 : Hid (w5.setCell ⟨w.heap.size + 1, 3, none⟩ (.int .i64 ((m5.length : Int) - 1)) = W5) := hW5
  have F5 : Hid (FS T R g fm ts E w v W5 j5 v5 m5 nodZ #[.int .i64 14, .int .i64 ((m1.length : Int) - 1), .int .i64 ((m2.length : Int) - 1), .int .i64 ((m5.length : Int) - 1), .int .i64 0, .string s3, .string s4] 55 55) := by
    rw [← hW5]
    exact G5.out.setN HT.out 3 _
  obtain ⟨n0, n1, n2, n3, n4, n5, n6, n7⟩ := node_cells G5.out.nn
  clear he5 hx5 hr5 hm5 hW5 hl5 hle5 hpos5 hgr5
  obtain ⟨q0, q1, q2, q3, q4, q5, q6, q7⟩ := node_cells G5.out.qq
  have z1 := G5.out.size
  go_wp2
  rw [HW5.out]
  have hfin := F5.out.fin HT.out (.int .i64 14) (.int .i64 ((m1.length : Int) - 1)) (.int .i64 ((m2.length : Int) - 1)) (.int .i64 ((m5.length : Int) - 1)) (.int .i64 0) (.string s3) (.string s4)
  refine bodyPost_ret (results_cell_row rfl _ _ w.heap.size 55 #[.int .i64 14, .int .i64 ((m1.length : Int) - 1), .int .i64 ((m2.length : Int) - 1), .int .i64 ((m5.length : Int) - 1), .int .i64 0, .string s3, .string s4] (0, 0) _ rfl hfin.qq Tryd.underlying55 rfl (by kernel_rfl)) rfl ?_
  have hA := HA5.out
  rw [argsE] at hA
  rw [← hA]
  exact ⟨rfl, _, hfin.rs, hfin.mv⟩

set_option maxHeartbeats 2000000 in
set_option maxRecDepth 20000 in
theorem rd_readTry {T : World → Prop} {R g fm : Nat} {ts : List Tok} {E : Int} {f : Nat} {s : ByteArray} (hT : ∀ a b, T a → Below R a b → T b) (hc : ts.length ≤ 4000) (hs : s.size ≤ 4000) (hk : ∀ i, i < ts.length → TokOk s (ts.getD i noTok)) (ih : ExprI T R g fm ts E f) :
    FormI T R g fm ts E f 61 #[.pointer (some ⟨R, 0, none⟩)] 19 0 [101, 110, 101] := by
  intro w i v l h hf hl
  obtain ⟨RA, hRA⟩ : ∃ RA, argsE ts E (exprE ts E f) [101, 110, 101] i ⟨19, 0, 0, 0, 0, ByteArray.empty, ByteArray.empty⟩ l [] = RA := ⟨_, rfl⟩
  rw [hRA]
  have HA0 : Hid (argsE ts E (exprE ts E f) [101, 110, 101] i ⟨19, 0, 0, 0, 0, ByteArray.empty, ByteArray.empty⟩ l [] = RA) := hRA
  have HT : Hid (∀ a b, T a → Below R a b → T b) := hT
  have IH : Hid (ExprI T R g fm ts E f) := ih
  have HC : Hid (ts.length ≤ 4000) := hc
  have HS : Hid (s.size ≤ 4000) := hs
  have HK : Hid (∀ i, i < ts.length → TokOk s (ts.getD i noTok)) := hk
  have HV : Hid (∀ k, v.ownBlock = some k → R < k) := h.far
  have HF : Hid (ts.length + 1 ≤ i + f) := hf
  have HL0 : Hid (l.length ≤ i) := hl
  have F0 : Hid (FS T R g fm ts E w v ((w.alloc (.cells nodZ 55)).alloc (.cells #[.int .i64 19, .int .i64 0, .int .i64 0, .int .i64 0, .int .i64 0, .string ⟨#[]⟩, .string ⟨#[]⟩] 55)) i v l nodZ #[.int .i64 19, .int .i64 0, .int .i64 0, .int .i64 0, .int .i64 0, .string ⟨#[]⟩, .string ⟨#[]⟩] 55 55) := FS.start hT h
  clear hRA hT ih hc hs hk hf hl h
  go_enter Tryd.func61, Tryd.ntmps61
  go_wp2_with fail
  refine (IH.out _ _ _ _ F0.out.rs HF.out HL0.out).mono ?_
  rintro e w1 he1
  obtain ⟨j1, m1, v1, hx1, rfl, hr1, hm1⟩ | ⟨c1, q1, hx1, rfl, hb1⟩ := eout_case he1
  case inr =>
    have HE : Hid (RA = .error (c1, q1)) := by
      have h := HA0.out
      rw [argsE, if_neg (by decide), hx1] at h
      exact h.symm
    have HB : Hid (Below R w w1) := (F0.out.low HV.out).trans hb1
    clear he1 hx1 hb1
    go_wp2
    exact ⟨rfl, by rw [HE.out]; exact ⟨rfl, HB.out⟩⟩
  obtain ⟨hl1, hle1, hpos1, hgr1⟩ := exprE_fair ts E f _ _ _ _ hx1
  have HA1 : Hid (argsE ts E (exprE ts E f) [110, 101] j1 ⟨19, 0, 0, 0, 0, ByteArray.empty, ByteArray.empty⟩ m1 [((m1.length : Int) - 1)] = RA) := by
    have h := HA0.out
    rw [argsE, if_neg (by decide), hx1] at h
    exact h
  have HF1 : Hid (ts.length + 1 ≤ j1 + f ∧ (m1).length ≤ j1) := by
    have h1 := HF.out
    have h2 := HL0.out
    show ts.length + 1 ≤ j1 + f ∧ (m1).length ≤ j1
    omega
  have G1 : Hid (FS T R g fm ts E w v w1 j1 v1 m1 nodZ #[.int .i64 19, .int .i64 0, .int .i64 0, .int .i64 0, .int .i64 0, .string ⟨#[]⟩, .string ⟨#[]⟩] 55 55) := F0.out.call hr1 hm1
  obtain ⟨W1, hW1⟩ : ∃ W, w1.setCell ⟨w.heap.size + 1, 1, none⟩ (.int .i64 ((m1.length : Int) - 1)) = W := ⟨_, rfl⟩
  have HW1 : Hid (w1.setCell ⟨w.heap.size + 1, 1, none⟩ (.int .i64 ((m1.length : Int) - 1)) = W1) := hW1
  have F1 : Hid (FS T R g fm ts E w v W1 j1 v1 m1 nodZ #[.int .i64 19, .int .i64 ((m1.length : Int) - 1), .int .i64 0, .int .i64 0, .int .i64 0, .string ⟨#[]⟩, .string ⟨#[]⟩] 55 55) := by
    rw [← hW1]
    exact G1.out.setN HT.out 1 _
  obtain ⟨n0, n1, n2, n3, n4, n5, n6, n7⟩ := node_cells G1.out.nn
  clear he1 hx1 hr1 hm1 hW1 hl1 hle1 hpos1 hgr1
  go_wp2_with fail
  rw [HW1.out]
  clear n0 n1 n2 n3 n4 n5 n6 n7 HW1 G1
  refine (rd_name HT.out F1.out.rs HC.out HS.out HK.out).mono ?_
  rintro e w2 he2
  obtain ⟨j2, s2, hx2, rfl, hr2, hm2⟩ | ⟨c2, q2, hx2, rfl, hb2⟩ := nout_case he2
  case inr =>
    have HE : Hid (RA = .error (c2, q2)) := by
      have h := HA1.out
      rw [argsE, if_pos rfl, hx2] at h
      exact h.symm
    have HB : Hid (Below R w w2) := (F1.out.low HV.out).trans hb2
    clear he2 hx2 hb2
    go_wp2
    exact ⟨rfl, by rw [HE.out]; exact ⟨rfl, HB.out⟩⟩
  obtain ⟨hz1, rfl, hl2⟩ := name_size HK.out hx2
  have HA2 : Hid (argsE ts E (exprE ts E f) [101] (j1 + 1) ⟨19, 0, 0, 0, 0, s2, ByteArray.empty⟩ m1 [((m1.length : Int) - 1)] = RA) := by
    have h := HA1.out
    rw [argsE, if_pos rfl, hx2] at h
    simp only at h
    rw [if_pos (by first | rfl | decide)] at h
    exact h
  have HF2 : Hid (ts.length + 1 ≤ (j1 + 1) + f ∧ (m1).length ≤ (j1 + 1)) := by
    have h1 := HF1.out
    
    show ts.length + 1 ≤ (j1 + 1) + f ∧ (m1).length ≤ (j1 + 1)
    omega
  have G2 : Hid (FS T R g fm ts E w v w2 (j1 + 1) v1 m1 nodZ #[.int .i64 19, .int .i64 ((m1.length : Int) - 1), .int .i64 0, .int .i64 0, .int .i64 0, .string ⟨#[]⟩, .string ⟨#[]⟩] 55 55) := F1.out.call hr2 hm2
  obtain ⟨W2, hW2⟩ : ∃ W, w2.setCell ⟨w.heap.size + 1, 5, none⟩ (.string s2) = W := ⟨_, rfl⟩
  have HW2 : Hid (w2.setCell ⟨w.heap.size + 1, 5, none⟩ (.string s2) = W2) := hW2
  have F2 : Hid (FS T R g fm ts E w v W2 (j1 + 1) v1 m1 nodZ #[.int .i64 19, .int .i64 ((m1.length : Int) - 1), .int .i64 0, .int .i64 0, .int .i64 0, .string s2, .string ⟨#[]⟩] 55 55) := by
    rw [← hW2]
    exact G2.out.setN HT.out 5 _
  obtain ⟨n0, n1, n2, n3, n4, n5, n6, n7⟩ := node_cells G2.out.nn
  clear he2 hx2 hr2 hm2 hW2 hl2
  go_wp2_with fail
  rw [HW2.out]
  clear n0 n1 n2 n3 n4 n5 n6 n7 HW2 G2
  refine (IH.out _ _ _ _ F2.out.rs HF2.out.1 HF2.out.2).mono ?_
  rintro e w3 he3
  obtain ⟨j3, m3, v3, hx3, rfl, hr3, hm3⟩ | ⟨c3, q3, hx3, rfl, hb3⟩ := eout_case he3
  case inr =>
    have HE : Hid (RA = .error (c3, q3)) := by
      have h := HA2.out
      rw [argsE, if_neg (by decide), hx3] at h
      exact h.symm
    have HB : Hid (Below R w w3) := (F2.out.low HV.out).trans hb3
    clear he3 hx3 hb3
    go_wp2
    exact ⟨rfl, by rw [HE.out]; exact ⟨rfl, HB.out⟩⟩
  obtain ⟨hl3, hle3, hpos3, hgr3⟩ := exprE_fair ts E f _ _ _ _ hx3
  have HA3 : Hid (argsE ts E (exprE ts E f) [] j3 ⟨19, 0, 0, 0, 0, s2, ByteArray.empty⟩ m3 [((m1.length : Int) - 1), ((m3.length : Int) - 1)] = RA) := by
    have h := HA2.out
    rw [argsE, if_neg (by decide), hx3] at h
    exact h
  have HF3 : Hid (ts.length + 1 ≤ j3 + f ∧ (m3).length ≤ j3) := by
    have h1 := HF2.out
    
    show ts.length + 1 ≤ j3 + f ∧ (m3).length ≤ j3
    omega
  have G3 : Hid (FS T R g fm ts E w v w3 j3 v3 m3 nodZ #[.int .i64 19, .int .i64 ((m1.length : Int) - 1), .int .i64 0, .int .i64 0, .int .i64 0, .string s2, .string ⟨#[]⟩] 55 55) := F2.out.call hr3 hm3
  obtain ⟨W3, hW3⟩ : ∃ W, w3.setCell ⟨w.heap.size + 1, 2, none⟩ (.int .i64 ((m3.length : Int) - 1)) = W := ⟨_, rfl⟩
  have HW3 : Hid (w3.setCell ⟨w.heap.size + 1, 2, none⟩ (.int .i64 ((m3.length : Int) - 1)) = W3) := hW3
  have F3 : Hid (FS T R g fm ts E w v W3 j3 v3 m3 nodZ #[.int .i64 19, .int .i64 ((m1.length : Int) - 1), .int .i64 ((m3.length : Int) - 1), .int .i64 0, .int .i64 0, .string s2, .string ⟨#[]⟩] 55 55) := by
    rw [← hW3]
    exact G3.out.setN HT.out 2 _
  obtain ⟨n0, n1, n2, n3, n4, n5, n6, n7⟩ := node_cells G3.out.nn
  clear he3 hx3 hr3 hm3 hW3 hl3 hle3 hpos3 hgr3
  obtain ⟨q0, q1, q2, q3, q4, q5, q6, q7⟩ := node_cells G3.out.qq
  have z1 := G3.out.size
  go_wp2
  rw [HW3.out]
  have hfin := F3.out.fin HT.out (.int .i64 19) (.int .i64 ((m1.length : Int) - 1)) (.int .i64 ((m3.length : Int) - 1)) (.int .i64 0) (.int .i64 0) (.string s2) (.string ⟨#[]⟩)
  refine bodyPost_ret (results_cell_row rfl _ _ w.heap.size 55 #[.int .i64 19, .int .i64 ((m1.length : Int) - 1), .int .i64 ((m3.length : Int) - 1), .int .i64 0, .int .i64 0, .string s2, .string ⟨#[]⟩] (0, 0) _ rfl hfin.qq Tryd.underlying55 rfl (by kernel_rfl)) rfl ?_
  have hA := HA3.out
  rw [argsE] at hA
  rw [← hA]
  exact ⟨rfl, _, hfin.rs, hfin.mv⟩

end Go.Proofs.YtncoooimgeoihaaDoor
