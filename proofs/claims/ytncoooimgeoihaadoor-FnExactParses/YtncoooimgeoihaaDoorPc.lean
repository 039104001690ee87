/-
  A form in brackets, the specification's. Conditions: written at each theorem.
-/
import Derived.Test.YtncoooimgeoihaaDoorPb
import Derived.WalkMore
import Derived.Deep.CutRange
import Derived.Deep.LoopGhost
namespace Go.Proofs.YtncoooimgeoihaaDoor
open Go.ChangeShapes Go.WideShapes Go.ChangeAt Go.RowKit
set_option linter.unusedVariables false

/-- Behind an opening bracket. -/
def openX (ts : List Tok) (E : Int) (f i : Nat) (l : List Nod) : Except Flt (Nat × List Nod) := match takeE ts E (i + 1) 3 with
  | .error e => .error e
  | .ok (j, key) =>
    if (formE key.text).1 = 0 then .error (3, key.place)
    else match argsE ts E (exprE ts E f) (formE key.text).2.2.data.toList j ⟨(formE key.text).1, 0, 0, 0, (formE key.text).2.1, ByteArray.empty, ByteArray.empty⟩ l [] with
      | .error e => .error e
      | .ok (j2, n, l2, ks) => match takeE ts E j2 2 with
        | .error e => .error e
        | .ok (j3, _) => .ok (j3, l2 ++ [withKids n ks])

/-- The reading of an expression with so much fuel is as it should be. -/
def ExprC (g cap : Nat) (ts : List Tok) (E : Int) (f : Nat) : Prop := ∀ (i : Nat) (l : List Nod) (v : Value) (B : Nat) (p : Int) (w : World), ts.length + 1 ≤ i + f → i ≤ ts.length → l.length ≤ i → ownNod w B v l → B ≤ w.heap.size → TokAt w g ts → v.ownBlock ≠ some g → 
  Calls Tryd.prog 24 #[stV (some ⟨g, 0, none⟩) ts.length cap i 0 p E, v] w fun e w' => XOut (some ⟨g, 0, none⟩) ts.length cap p E B w v (exprE ts E f i l) e w'

/-- What a token that is taken makes of the state. -/
theorem take_form {a : Option Addr} {n cap i : Nat} {p E k : Int} {ts : List Tok} {e : Ending}
    (he : match takeE ts E i k with
        | .ok (j, t) => e = .returned (.tuple #[stV a n cap (j : Nat) 0 p E, tokV t])
        | .error (c, q) => e = .returned (.tuple #[stV a n cap i c q E, tokV noTok])) :
    ∃ (i' c' q' : Int) (t' : Tok), e = .returned (.tuple #[stV a n cap i' c' q' E, tokV t']) ∧
      ((c' = 0 ∧ p = q' ∧ i' = ((i + 1 : Nat) : Int) ∧ i < ts.length ∧ t' = ts.getD i noTok ∧ takeE ts E i k = .ok (i + 1, t')) ∨ (¬ c' = 0 ∧ t' = noTok ∧ takeE ts E i k = .error (c', q'))) := by
  rcases htk : takeE ts E i k with ⟨c, q⟩ | ⟨j, t⟩
  · rw [htk] at he
    have := takeE_bad htk
    exact ⟨_, _, _, noTok, he, Or.inr ⟨by simp at this; omega, rfl, rfl⟩⟩
  · rw [htk] at he
    obtain ⟨rfl, h1, h2, _⟩ := takeE_ok htk
    exact ⟨_, _, _, t, he, Or.inl ⟨rfl, rfl, rfl, h1, h2, rfl⟩⟩

/-- What a name that is taken makes of the state. -/
theorem nm_case {a : Option Addr} {n cap i : Nat} {p E : Int} {ts : List Tok} {e : Ending}
    (he : match nameE ts E i with
        | .ok (j, s) => e = .returned (.tuple #[stV a n cap (j : Nat) 0 p E, .string s])
        | .error (c, q) => e = .returned (.tuple #[stV a n cap i c q E, .string ⟨#[]⟩])) :
    ∃ (i' c' q' : Int) (s' : ByteArray), e = .returned (.tuple #[stV a n cap i' c' q' E, .string s']) ∧
      ((c' = 0 ∧ p = q' ∧ i' = ((i + 1 : Nat) : Int) ∧ i < ts.length ∧ nameE ts E i = .ok (i + 1, s')) ∨ (¬ c' = 0 ∧ nameE ts E i = .error (c', q'))) := by
  rcases htk : nameE ts E i with ⟨c, q⟩ | ⟨j, s⟩
  · rw [htk] at he
    have := nameE_bad htk
    exact ⟨_, _, _, _, he, Or.inr ⟨by simp at this; omega, rfl⟩⟩
  · rw [htk] at he
    obtain ⟨rfl, h1, h2⟩ := nameE_ok htk
    exact ⟨_, _, _, s, he, Or.inl ⟨rfl, rfl, rfl, h1, rfl⟩⟩

/-- What an expression that is read makes of the state. -/
theorem x_case {a : Option Addr} {n cap i f : Nat} {p E : Int} {B : Nat} {w w' : World} {v : Value} {ts : List Tok} {l : List Nod} {e : Ending} (hf : ts.length + 1 ≤ i + f) (hi : i ≤ ts.length) (hl : l.length ≤ i) (h : XOut a n cap p E B w v (exprE ts E f i l) e w') :
    ∃ (i' c' q' : Int) (v' : Value) (m : List Nod), e = .returned (.tuple #[stV a n cap i' c' q' E, v']) ∧ ownNod w' B v' m ∧ Grew w w' v v' ∧
      ((c' = 0 ∧ p = q' ∧ ∃ j : Nat, i' = (j : Int) ∧ i < j ∧ j ≤ ts.length ∧ m.length ≤ j ∧ exprE ts E f i l = .ok (j, m)) ∨ (¬ c' = 0 ∧ exprE ts E f i l = .error (c', q'))) := by
  rcases hx : exprE ts E f i l with ⟨c, q⟩ | ⟨j, m⟩
  · rw [hx] at h
    obtain ⟨i', v', m, he, ho, hg⟩ := h
    have := exprE_bad ts E f i l _ hf hi hx
    exact ⟨i', c, q, v', m, he, ho, hg, Or.inr ⟨by simp at this; omega, rfl⟩⟩
  · rw [hx] at h
    obtain ⟨v', he, ho, hg⟩ := h
    obtain ⟨h1, h2, h3, h4⟩ := exprE_fair ts E f _ _ _ _ hx
    exact ⟨j, 0, p, v', m, he, ho, hg, Or.inl ⟨rfl, rfl, j, rfl, h1, h2, by omega, rfl⟩⟩

theorem one_new {w : World} {N : Nat} (h : w.heap.size = N) (x : Value) (t : TypeId) : ∀ j u, ([x] : List Value)[j]? = some u → (w.alloc (.cells #[x] t)).cell? ((⟨N, 0, none⟩ : Addr).add j) = some u := by
  intro j u hj
  match j, hj with
  | 0, hj =>
    rw [add_plain, cell_of_row _ _ _ _ _ _ (heap_new_at h)]
    exact hj

theorem nod_row {w : World} {N : Nat} {y0 y1 y2 y3 y4 : Int} {y5 y6 : ByteArray} {t : TypeId} (h : w.heap[N]? = some (.cells (nodCells ⟨y0, y1, y2, y3, y4, y5, y6⟩).toArray t (0, 0))) :
    w.cell? ⟨N, 0, none⟩ = some (.int .i64 y0) ∧ w.cell? ⟨N, 1, none⟩ = some (.int .i64 y1) ∧ w.cell? ⟨N, 2, none⟩ = some (.int .i64 y2) ∧ w.cell? ⟨N, 3, none⟩ = some (.int .i64 y3) ∧ w.cell? ⟨N, 4, none⟩ = some (.int .i64 y4) ∧ w.cell? ⟨N, 5, none⟩ = some (.string y5) ∧ w.cell? ⟨N, 6, none⟩ = some (.string y6) := by
  refine ⟨?_, ?_, ?_, ?_, ?_, ?_, ?_⟩ <;> rw [cell_of_row _ _ _ _ _ _ h] <;> rfl

theorem own_len {w : World} {B : Nat} {v : Value} {l : List Nod} (h : ownNod w B v l) : l.length ≤ 9223372036854775807 := by
  rcases h.2 with ⟨_, h0⟩ | ⟨g, cap, cur, _, _, _, hn, hm, _⟩
  · omega
  · unfold maxLen at hm; omega

theorem XF.gFar {w W : World} {v vx kv : Value} {B N g : Nat} {a : Option Addr} {n cap : Nat} {E : Int} {L : List Nod} {i c q : Int} {nod : Nod} {ks : List Int} (h : XF w v B a n cap E W vx L i c q N nod kv ks) (hv : v.ownBlock ≠ some g) (hg : g < w.heap.size) : vx.ownBlock ≠ some g := fun e => by
  rcases h.xs.grew.2 g e with h1 | h1
  · omega
  · exact hv h1

/-- What stands ahead of the k-th round: so much of the form is read, or a fault was met. -/
def LX (w : World) (v : Value) (B g cap : Nat) (ts : List Tok) (p E : Int) (f i0 N : Nat) (form : ByteArray) (RA : Except Flt (Nat × Nod × List Nod × List Int)) (k : Nat) (W : World) (lv kv : Value) : Prop :=
  ∃ (i c q : Int) (nod : Nod) (L : List Nod) (ks : List Int), XF w v B (some ⟨g, 0, none⟩) ts.length cap E W lv L i c q N nod kv ks ∧ ks.length ≤ k ∧
    ((c = 0 ∧ p = q ∧ ∃ j : Nat, i = (j : Int) ∧ j ≤ ts.length ∧ i0 + 2 ≤ j ∧ L.length ≤ j ∧ argsE ts E (exprE ts E f) (form.data.toList.drop k) j nod L ks = RA) ∨ (¬ c = 0 ∧ RA = .error (c, q)))

theorem wk_step (nod : Nod) (ks : List Int) (k : Nat) (hk : k < ks.length) (h3 : ks.length ≤ 3) :
    ((nodCells (withKids nod (ks.take k))).toArray).setIfInBounds (k + 1) (.int .i64 (ks.getD k 0)) = (nodCells (withKids nod (ks.take (k + 1)))).toArray := by
  obtain ⟨x0, x1, x2, x3, x4, x5, x6⟩ := nod
  match ks, k, hk, h3 with
  | [a], 0, _, _ => rfl
  | [a, b], 0, _, _ => rfl
  | [a, b], 1, _, _ => rfl
  | [a, b, c], 0, _, _ => rfl
  | [a, b, c], 1, _, _ => rfl
  | [a, b, c], 2, _, _ => rfl

theorem wk_end (nod : Nod) (ks : List Int) : withKids nod (ks.take ks.length) = withKids nod ks := by rw [List.take_length]

theorem empty_yes {s : ByteArray} (h : s.size = 0) : s.toList.isEmpty = true := by
  rw [Lib.toList_data, List.isEmpty_iff_length_eq_zero, Array.length_toList]
  exact h
theorem empty_no {s : ByteArray} (h : ¬ s.size = 0) : s.toList.isEmpty = false := by
  rw [Lib.toList_data, Bool.eq_false_iff, ne_eq, List.isEmpty_iff_length_eq_zero, Array.length_toList]
  exact h

theorem drop_byte {s : ByteArray} {k : Nat} (h : k < s.size) : s.data.toList.drop k = s[k] :: s.data.toList.drop (k + 1) := by
  have h' : k < s.data.toList.length := by rw [Array.length_toList]; exact h
  rw [List.drop_eq_getElem_cons h']
  congr 1

theorem formE_nil : formE ⟨#[]⟩ = (0, 0, ⟨#[]⟩) := by
  unfold formE
  simp only [Lib.toList_data]
  rfl

set_option maxHeartbeats 4000000 in
set_option maxRecDepth 20000 in
theorem spec_x_open (f g cap i : Nat) (p E : Int) (ts : List Tok) (ih : ExprC g cap ts E f) (hf : ts.length + 1 ≤ i + (f + 1)) (tx : ByteArray) (tn tp : Int) (hi : i < ts.length) (hc : ts.length ≤ 1048576) (v : Value) (B : Nat) (l : List Nod) (w : World) (hown : ownNod w B v l) (hB : B ≤ w.heap.size) (hl : l.length ≤ i)
    (hTA : TokAt w g ts) (hgv : v.ownBlock ≠ some g) (hT : TokIn w g i ⟨1, tx, tn, tp⟩) :
    Calls Tryd.prog 24 #[stV (some ⟨g, 0, none⟩) ts.length cap i 0 p E, v] w fun e w' => XOut (some ⟨g, 0, none⟩) ts.length cap p E B w v (openX ts E f i l) e w' := by
  have hi' : (i : Int) < ts.length := by omega
  have IH : Hid (ExprC g cap ts E f) := ih
  have HFu : Hid (ts.length + 1 ≤ i + (f + 1)) := hf
  have HB : Hid (B ≤ w.heap.size) := hB
  have HL : Hid (l.length ≤ i) := hl
  have HGV : Hid (v.ownBlock ≠ some g) := hgv
  have HTA : Hid (TokAt w g ts) := hTA
  have t0 : w.cell? ⟨g, i * 4, none⟩ = some (.int .i64 1) := hT.c0
  have t1 : w.cell? ⟨g, i * 4 + 1, none⟩ = some (.string tx) := hT.c1
  have t2 : w.cell? ⟨g, i * 4 + 2, none⟩ = some (.int .i64 tn) := hT.c2
  have t3 : w.cell? ⟨g, i * 4 + 3, none⟩ = some (.int .i64 tp) := hT.c3
  have hg := cell_lt' t0
  obtain ⟨R, hR⟩ : ∃ R, openX ts E f i l = R := ⟨_, rfl⟩
  rw [hR]
  have HR : Hid (_) := hR
  obtain ⟨W0, hW0⟩ : ∃ W0, (((w.alloc (.cells (stR (some ⟨g, 0, none⟩) ts.length cap ((i : Int) + 1) 0 p E) 47)).alloc (.cells (stR none 0 0 0 0 0 0) 47)).alloc (.cells (tokR 1 tx tn tp) 52)) = W0 := ⟨_, rfl⟩
  have HW : Hid (_) := hW0
  have HX1 : Hid (XS w v B (some ⟨g, 0, none⟩) ts.length cap E W0 v l ((i : Int) + 1) 0 p) := by
    rw [← hW0]
    exact (XS.start hown).alloc _
  have H3 : Hid (∀ h : i + 1 < ts.length, w.cell? ⟨g, (i + 1) * 4 + 3, none⟩ = some (.int .i64 (ts.getD (i + 1) noTok).place)) := fun h => (hTA (i + 1) h).c3
  clear hown hB hl hT hTA hgv hW0 hR ih hf
  obtain ⟨at0, hat⟩ : ∃ at0 : Int, (if i + 1 < ts.length then (ts.getD (i + 1) noTok).place else E) = at0 := ⟨_, rfl⟩
  have HAT : Hid (_) := hat
  clear hat
  by_cases hi2 : i + 1 < ts.length
  · have hi3 : (i : Int) + 1 < ts.length := by omega
    have t7 := H3.out hi2
    have ha := HAT.out
    rw [if_pos hi2] at ha
    rw [ha] at t7
    have t8 := (World.cell?_of_block (a := ⟨g, (i + 1) * 4 + 3, none⟩) ((below3 w (.cells (stR (some ⟨g, 0, none⟩) ts.length cap ((i : Int) + 1) 0 p E) 47) (.cells (stR none 0 0 0 0 0 0) 47) (.cells (tokR 1 tx tn tp) 52)).block g hg)).trans t7
    clear ha t7
    go_enter Tryd.func24, Tryd.ntmps24
    go_wp2_with fail
    rw [HW.out]
    refine (spec_take (some ⟨g, 0, none⟩) g ts.length cap (i + 1) p E 3 ts rfl hc (fun _ => rfl) W0 (HX1.out.toks HTA.out HGV.out)).mono ?_
    rintro e w1 ⟨he, b1⟩
    obtain ⟨i', c', q', ⟨kd, ktx, ktn, ktp⟩, rfl, hcase⟩ := take_form he
    have HC : Hid (_) := hcase
    have HX2 : Hid (XS w v B (some ⟨g, 0, none⟩) ts.length cap E w1 v l ((i : Int) + 1) 0 p) := HX1.out.below b1
    clear he hcase b1 HW HX1 t0 t1 t2 t3 t8
    obtain ⟨⟨p0, p1, p2, p3, p4, p5⟩, q0, q1, q2, q3, q4, q5⟩ := HX2.out.cells
    clear q0 q1 q2 q3 q4 q5
    have z1 := HX2.out.size
    have z0 : w.heap.size < w1.heap.size := by omega
    obtain ⟨W2, hW2⟩ : ∃ W2, (putQ w1 w.heap.size (some ⟨g, 0, none⟩) ts.length cap i' c' q' E).alloc (.cells (tokR kd ktx ktn ktp) 52) = W2 := ⟨_, rfl⟩
    have HW2 : Hid (_) := hW2
    have HX3 : Hid (XS w v B (some ⟨g, 0, none⟩) ts.length cap E W2 v l i' c' q') := by
      rw [← hW2]
      exact (HX2.out.setP i' c' q').alloc _
    clear hW2
    go_wp2_with fail
    rw [HW2.out]
    refine (spec_form ktx W2).mono ?_
    rintro e w2 ⟨rfl, rfl⟩
    clear p0 p1 p2 p3 p4 p5 HW2 HX2 z1 z0
    obtain ⟨⟨p0, p1, p2, p3, p4, p5⟩, q0, q1, q2, q3, q4, q5⟩ := HX3.out.cells
    rcases HC.out with ⟨rfl, rfl, rfl, hlt, htk, hok⟩ | ⟨hc0, htk, hbad⟩
    · have hat : at0 = ktp := by
        have h := HAT.out
        rw [if_pos hi2, ← htk] at h
        exact h.symm
      subst hat
      obtain ⟨⟨K, op, form⟩, hfm⟩ : ∃ F, formE ktx = F := ⟨_, rfl⟩
      have hsz : form.size ≤ 5 := by
        have := formE_len ktx
        rw [hfm] at this
        exact this
      have HKD : Hid (nExpr form.data.toList ≤ 3) := by
        have := formE_kids ktx
        rw [hfm] at this
        exact this
      have HR1 := HR.out
      unfold openX at HR1
      rw [hok] at HR1
      simp only [hfm] at HR1
      rw [hfm]
      clear hok hfm htk HC HR HAT H3
      by_cases hK : K = 0
      · rw [if_pos hK] at HR1
        have HRB : Hid (R = .error (3, at0)) := HR1.symm
        clear HR1
        subst hK
        go_wp2_with fail
        refine (spec_fail _ ts.length cap _ p E 3 at0 _).mono ?_
        rintro e w5 ⟨rfl, b5⟩
        have HX5 : Hid (XS w v B (some ⟨g, 0, none⟩) ts.length cap E w5 v l ((i + 1 + 1 : Nat) : Int) 0 p) := HX3.out.below b5
        clear p0 p1 p2 p3 p4 p5 q0 q1 q2 q3 q4 q5 b5
        obtain ⟨⟨p0, p1, p2, p3, p4, p5⟩, q0, q1, q2, q3, q4, q5⟩ := HX5.out.cells
        go_wp2
        obtain ⟨f0, f1, f2⟩ := HX5.out.back ((i + 1 + 1 : Nat) : Int) 3 at0
        refine bodyPost_ret (results_row_tmp rfl _ _ (w.heap.size + 1) _ v rfl f0 rfl) rfl ?_
        rw [HRB.out]
        exact ⟨_, v, l, rfl, f1, f2⟩
      · rw [if_neg hK] at HR1
        have hKf : (K == 0) = false := beq_eq_false_iff_ne.2 hK
        clear hK
        obtain ⟨RA, hRA⟩ : ∃ RA, argsE ts E (exprE ts E f) form.data.toList (i + 1 + 1) ⟨K, 0, 0, 0, op, ByteArray.empty, ByteArray.empty⟩ l [] = RA := ⟨_, rfl⟩
        rw [hRA] at HR1
        have HR : Hid (_) := HR1
        have HRA : Hid (_) := hRA
        clear HR1 hRA
        obtain ⟨W4, hW4⟩ : ∃ W4, ((w2.alloc (.cells (nodCells ⟨K, 0, 0, 0, op, ⟨#[]⟩, ⟨#[]⟩⟩).toArray 55)).alloc (.cells #[] 3)) = W4 := ⟨_, rfl⟩
        have HW4 : Hid (_) := hW4
        have HX4 : Hid (XF w v B (some ⟨g, 0, none⟩) ts.length cap E W4 v l ((i + 1 + 1 : Nat) : Int) 0 p w2.heap.size ⟨K, 0, 0, 0, op, ⟨#[]⟩, ⟨#[]⟩⟩ (.slice (some ⟨w2.heap.size + 1, 0, none⟩) 0 0) []) := by
          rw [← hW4]
          exact XF.start HX3.out (fun k hk => by have := HX3.out.low k hk; have := HX3.out.size; omega)
        clear hW4
        go_wp2
        rw [show ((w2.alloc (.cells #[.int .i64 K, .int .i64 0, .int .i64 0, .int .i64 0, .int .i64 op, .string ⟨#[]⟩, .string ⟨#[]⟩] 55)).alloc (.cells #[] 3)) = W4 from HW4.out]
        have HLX : Hid (LX w v B g cap ts p E f i w2.heap.size form RA 0 W4 v (.slice (some ⟨w2.heap.size + 1, 0, none⟩) 0 0)) :=
          ⟨_, _, _, _, _, _, HX4.out, by simp, Or.inl ⟨rfl, rfl, i + 1 + 1, rfl, by omega, by omega, by have := HL.out; omega, by rw [List.drop_zero]; exact HRA.out⟩⟩
        clear HW4 p0 p1 p2 p3 p4 p5 q0 q1 q2 q3 q4 q5 HX4 HX3
        generalize w2.heap.size = N at *
        go_loopg [1, 15, 16] form.size (fun gk lv kv k wr => ∃ kk : Nat, kk ≤ form.size ∧ gk = form.size - kk ∧ k = .int .i64 kk ∧ Hid (LX w v B g cap ts p E f i N form RA kk wr lv kv))
        case atStart => exact ⟨0, by omega, by omega, rfl, HLX⟩
        case round =>
          clear HLX
          obtain ⟨kk, hkk, hgk, rfl, hlx⟩ := hrel
          have HGK : Hid (_) := hgk
          clear hgk
          obtain ⟨i1, cc, qq, nod, L, ks, hXF, hks, hcase⟩ := hlx.out
          clear hlx
          have HXF : Hid (_) := hXF
          obtain ⟨⟨p0, p1, p2, p3, p4, p5⟩, q0, q1, q2, q3, q4, q5⟩ := hXF.xs.cells
          clear q0 q1 q2 q3 q4 q5
          rcases hcase with ⟨rfl, rfl, j, rfl, hj, hj2, hLj, hargs⟩ | ⟨hc1, hbadA⟩
          · have HAR : Hid (_) := hargs
            clear hargs
            by_cases hin : kk < form.size
            · have hin' : (kk : Int) < form.size := by omega
              rw [drop_byte hin, argsE] at HAR
              by_cases hb : form[kk] = 110
              · have hb' : (form[kk].toNat : Int) = 110 := by rw [hb]; rfl
                rw [if_pos hb] at HAR
                clear hb hXF
                go_wp2_with fail
                refine (spec_nm (some ⟨g, 0, none⟩) g ts.length cap j p E ts rfl hc (fun _ => rfl) _ (HXF.out.xs.toks HTA.out HGV.out)).mono ?_
                rintro e w6 ⟨he, b6⟩
                obtain ⟨i6, c6, q6, s6, rfl, h6⟩ := nm_case he
                have H6 : Hid (_) := h6
                have HX6 : Hid (XF w v B (some ⟨g, 0, none⟩) ts.length cap E w6 u1 L j 0 p N nod u15 ks) := HXF.out.below b6
                clear he h6 b6 p0 p1 p2 p3 p4 p5 HXF
                obtain ⟨⟨p0, p1, p2, p3, p4, p5⟩, q0, q1, q2, q3, q4, q5⟩ := HX6.out.xs.cells
                clear q0 q1 q2 q3 q4 q5
                obtain ⟨n0, n1, n2, n3, n4, n5, n6, n7⟩ := HX6.out.cells
                have z1 := HX6.out.xs.size
                have z0 : w.heap.size < w6.heap.size := by omega
                have z2 := HX6.out.lt
                have z3 := HX6.out.wn
                by_cases hnm : nod.name.size = 0
                · have hne := empty_yes hnm
                  have HLX : Hid (LX w v B g cap ts p E f i N form RA (kk + 1) (((putQ w6 w.heap.size (some ⟨g, 0, none⟩) ts.length cap i6 c6 q6 E).setCell ⟨N, 5, none⟩ (.string s6)).alloc (.cells (stR (some ⟨g, 0, none⟩) ts.length cap i6 c6 q6 E) 47)) u1 u15) := by
                    refine ⟨i6, c6, q6, { nod with name := s6 }, L, ks, ((HX6.out.setP i6 c6 q6).setN 5 (.string s6) rfl).alloc _, by omega, ?_⟩
                    have h := HAR.out
                    rcases H6.out with ⟨a1, a2, a3, a4, a5⟩ | ⟨a1, a2⟩
                    · rw [a5] at h
                      simp only [hnm, if_true] at h
                      exact Or.inl ⟨a1, a2, j + 1, a3, by omega, by omega, by omega, h⟩
                    · rw [a2] at h
                      exact Or.inr ⟨a1, h.symm⟩
                  clear hnm HAR H6 HX6
                  go_wp2
                  go_roundg (form.size - (kk + 1))
                  case rel => exact ⟨kk + 1, by omega, rfl, by go_num, HLX⟩
                  case measure => have := HGK.out; omega
                · have hne := empty_no hnm
                  have HLX : Hid (LX w v B g cap ts p E f i N form RA (kk + 1) (((putQ w6 w.heap.size (some ⟨g, 0, none⟩) ts.length cap i6 c6 q6 E).setCell ⟨N, 6, none⟩ (.string s6)).alloc (.cells (stR (some ⟨g, 0, none⟩) ts.length cap i6 c6 q6 E) 47)) u1 u15) := by
                    refine ⟨i6, c6, q6, { nod with other := s6 }, L, ks, ((HX6.out.setP i6 c6 q6).setN 6 (.string s6) rfl).alloc _, by omega, ?_⟩
                    have h := HAR.out
                    rcases H6.out with ⟨a1, a2, a3, a4, a5⟩ | ⟨a1, a2⟩
                    · rw [a5] at h
                      simp only [hnm, if_false] at h
                      exact Or.inl ⟨a1, a2, j + 1, a3, by omega, by omega, by omega, h⟩
                    · rw [a2] at h
                      exact Or.inr ⟨a1, h.symm⟩
                  clear hnm HAR H6 HX6
                  go_wp2
                  go_roundg (form.size - (kk + 1))
                  case rel => exact ⟨kk + 1, by omega, rfl, by go_num, HLX⟩
                  case measure => have := HGK.out; omega
              · have hb' : ¬ (form[kk].toNat : Int) = 110 := fun h => hb (UInt8.toNat_inj.1 (by show form[kk].toNat = 110; omega))
                rw [if_neg hb] at HAR
                clear hb hXF
                go_wp2_with fail
                refine (IH.out j L u1 B p _ (by have := HFu.out; omega) hj hLj HXF.out.xs.own (by have := HXF.out.xs.size; have := HB.out; omega) (HXF.out.xs.toks HTA.out HGV.out) (HXF.out.gFar HGV.out hg)).mono ?_
                rintro e w6 he
                obtain ⟨i6, c6, q6, v6, L6, rfl, ho6, hg6, h6⟩ := x_case (by have := HFu.out; omega) hj hLj he
                have H6 : Hid (_) := h6
                have HX6 : Hid (XF w v B (some ⟨g, 0, none⟩) ts.length cap E w6 v6 L6 j 0 p N nod u15 ks) := HXF.out.grow ho6 hg6
                obtain ⟨a6, g6, cap6, sp6, rfl, _⟩ := ownNod_form ho6
                have hL6 : (L6.length : Int) ≤ 9223372036854775807 := by have := own_len ho6; omega
                clear he h6 ho6 hg6 p0 p1 p2 p3 p4 p5 HXF
                obtain ⟨⟨p0, p1, p2, p3, p4, p5⟩, q0, q1, q2, q3, q4, q5⟩ := HX6.out.xs.cells
                clear q0 q1 q2 q3 q4 q5
                have z1 := HX6.out.xs.size
                have z0 : w.heap.size < w6.heap.size := by omega
                obtain ⟨i0, hii, hz0, hz1, hz2⟩ := info_parts info_num
                have HX7 : Hid (XF w v B (some ⟨g, 0, none⟩) ts.length cap E ((putQ w6 w.heap.size (some ⟨g, 0, none⟩) ts.length cap i6 c6 q6 E).alloc (.cells (stR (some ⟨g, 0, none⟩) ts.length cap i6 c6 q6 E) 47)) (.slice a6 L6.length cap6) L6 i6 c6 q6 N nod u15 ks) := (HX6.out.setP i6 c6 q6).alloc _
                have hks5 : ks.length ≤ 5 := by omega
                go_wp2_with (at_builtin; refine wpList_append_at _ rfl _ _ 61 rfl (N + 1) 3 i0 _ 1 8 Tryd.underlying61 hii hz0 hz1 hz2 rfl (by decide) _ _ _ rfl (HX7.out.kid.alloc _) ⟨w6.heap.size + 1, 0, none⟩ 1 1 [.int .i64 ((L6.length : Int) - 1)] rfl rfl ?a1 ?a2 ?a6 ?a3 ?a4 ?a5 ?_)
                case a1 => exact one_new (by simp [World.setCell]) _ _
                case a2 => intro u hu; simp at hu; subst hu; rfl
                case a3 => unfold maxLen; omega
                case a4 => omega
                case a5 => have := HX7.out.lt; simp at this ⊢; omega
                case a6 => omega
                intro kv7 w7 ho7 hg7
                have HLX : Hid (LX w v B g cap ts p E f i N form RA (kk + 1) w7 (.slice a6 L6.length cap6) kv7) := by
                  refine ⟨i6, c6, q6, nod, L6, ks ++ [(L6.length : Int) - 1], HX7.out.more _ ho7 rfl rfl hg7, by simp; omega, ?_⟩
                  have h := HAR.out
                  rcases H6.out with ⟨a1, a2, j6, a3, a4, a5, a7, a8⟩ | ⟨a1, a2⟩
                  · rw [a8] at h
                    exact Or.inl ⟨a1, a2, j6, a3, a5, by omega, a7, h⟩
                  · rw [a2] at h
                    exact Or.inr ⟨a1, h.symm⟩
                clear HAR H6 HX6 HX7 ho7 hg7
                go_wp2
                go_roundg (form.size - (kk + 1))
                case rel => exact ⟨kk + 1, by omega, rfl, by go_num, HLX⟩
                case measure => have := HGK.out; omega
            · obtain rfl : kk = form.size := by omega
              have hd : form.data.toList.drop form.size = [] := List.drop_eq_nil_of_le (by rw [Array.length_toList]; exact Nat.le_refl _)
              rw [hd, argsE] at HAR
              have h3 : ks.length ≤ 3 := by
                have h1 := HRA.out
                rw [← HAR.out] at h1
                have h2 := argsE_kids _ _ _ _ _ _ _ _ _ h1
                have := HKD.out
                simp at h2
                omega
              have HR2 := HR.out
              rw [← HAR.out] at HR2
              simp only at HR2
              have HR3 : Hid (_) := HR2
              clear HR2 HAR hd HRA HR HKD hXF
              go_wp2_with fail
              refine (spec_take (some ⟨g, 0, none⟩) g ts.length cap j p E 2 ts rfl hc (fun _ => rfl) _ (HXF.out.xs.toks HTA.out HGV.out)).mono ?_
              rintro e w8 ⟨he, b8⟩
              obtain ⟨i8, c8, q8, t8, rfl, h8⟩ := take_form he
              have HX8 : Hid (XF w v B (some ⟨g, 0, none⟩) ts.length cap E w8 u1 L j 0 p N nod u15 ks) := HXF.out.below b8
              clear he b8 p0 p1 p2 p3 p4 p5 HXF
              obtain ⟨⟨p0, p1, p2, p3, p4, p5⟩, q0, q1, q2, q3, q4, q5⟩ := HX8.out.xs.cells
              have z1 := HX8.out.xs.size
              have z0 : w.heap.size < w8.heap.size := by omega
              rcases h8 with ⟨rfl, rfl, rfl, hlt8, _, hok8⟩ | ⟨hc8, _, hbad8⟩
              · have HRK : Hid (R = .ok (j + 1, L ++ [withKids nod ks])) := by
                  have h := HR3.out
                  rw [hok8] at h
                  exact h.symm
                obtain ⟨ak, capk, rfl⟩ := ownK_form HX8.out.kid
                have HX9 : Hid (XF w v B (some ⟨g, 0, none⟩) ts.length cap E (putQ w8 w.heap.size (some ⟨g, 0, none⟩) ts.length cap ((j : Int) + 1) 0 p E) u1 L ((j : Int) + 1) 0 p N (withKids nod (ks.take 0)) (.slice ak ks.length capk) ks) := HX8.out.setP _ _ _
                clear HR3 hok8 HX8
                obtain ⟨W9, hW9⟩ : ∃ W9, putQ w8 w.heap.size (some ⟨g, 0, none⟩) ts.length cap ((j : Int) + 1) 0 p E = W9 := ⟨_, rfl⟩
                have HW9 : Hid (_) := hW9
                rw [hW9] at HX9
                clear hW9
                go_wp2
                have hw9 := HW9.out
                unfold putQ at hw9
                rw [hw9]
                clear hw9 HW9 p0 p1 p2 p3 p4 p5 q0 q1 q2 q3 q4 q5 z0 z1
                go_loopg [21] ks.length (fun gk k wr => ∃ kk : Nat, kk ≤ ks.length ∧ gk = ks.length - kk ∧ k = .int .i64 kk ∧ Hid (XF w v B (some ⟨g, 0, none⟩) ts.length cap E wr u1 L ((j : Int) + 1) 0 p N (withKids nod (ks.take kk)) (.slice ak ks.length capk) ks))
                case atStart => exact ⟨0, by omega, by omega, rfl, HX9⟩
                case round =>
                  clear HX9
                  obtain ⟨kk, hkk, hgk, rfl, HXF⟩ := hrel
                  have HGK : Hid (_) := hgk
                  clear hgk
                  by_cases hin : kk < ks.length
                  · obtain ⟨gk2, capk2, hkv, hcl⟩ := ownK_cells HXF.out.kid (by omega)
                    cases hkv
                    have kc := hcl kk hin
                    have HS : Hid (_) := HXF.out.setN (kk + 1) (.int .i64 (ks.getD kk 0)) (wk_step nod ks kk hin h3)
                    obtain ⟨n0, n1, n2, n3, n4, n5, n6, n7⟩ := HXF.out.cells
                    have hin' : (kk : Int) < ks.length := by omega
                    generalize ks.getD kk 0 = kx at kc HS
                    clear hcl HXF
                    rcases (by omega : kk = 0 ∨ kk = 1 ∨ kk = 2) with rfl | rfl | rfl
                    · go_wp2
                      go_roundg (ks.length - 1)
                      case rel => exact ⟨1, by omega, rfl, by go_num, HS⟩
                      case measure => have := HGK.out; omega
                    · go_wp2
                      go_roundg (ks.length - 2)
                      case rel => exact ⟨2, by omega, rfl, by go_num, HS⟩
                      case measure => have := HGK.out; omega
                    · go_wp2
                      go_roundg (ks.length - 3)
                      case rel => exact ⟨3, by omega, rfl, by go_num, HS⟩
                      case measure => have := HGK.out; omega
                  · obtain rfl : kk = ks.length := by omega
                    rw [List.take_length] at HXF
                    have hLc : L.length ≤ 1048576 := by omega
                    obtain ⟨nd, hnd⟩ : ∃ nd, withKids nod ks = nd := ⟨_, rfl⟩
                    rw [hnd] at HXF HRK
                    clear hnd
                    obtain ⟨y0, y1, y2, y3, y4, y5, y6⟩ := nd
                    obtain ⟨i0, hii, hz0, hz1, hz2⟩ := info_parts info_nod
                    go_wp2
                    obtain ⟨⟨p0, p1, p2, p3, p4, p5⟩, q0, q1, q2, q3, q4, q5⟩ := HXF.out.xs.cells
                    obtain ⟨n0, n1, n2, n3, n4, n5, n6, n7⟩ := HXF.out.cells
                    have z1 := HXF.out.xs.size
                    have z0 : w.heap.size < wr.heap.size := by omega
                    have z2 := HXF.out.lt
                    go_region_law (refine step_append_at rfl (.tmp 226) (.tmp 228) 24 rfl B 55 i0 _ 7 72 Tryd.underlying24 hii hz0 hz1 hz2 rfl (by decide) u1 _ _ (by simp [Act.eval]) (HXF.out.xs.drew.alloc _).own ⟨wr.heap.size, 0, none⟩ 1 1 (nodCells ⟨y0, y1, y2, y3, y4, y5, y6⟩) (by simp [Act.eval]) rfl (nod_at (heap_new_at rfl)) (nod_one _) (by decide) (by unfold maxLen; omega) (by omega) (by have := HB.out; simp <;> omega) ?_; intro v' w3 hown' hgr; have HH : Hid (_) := HXF.out.xs.more hown' hgr; have HO : Hid (_) := hown'; obtain ⟨p0, p1, p2, p3, p4, p5⟩ := st_row HH.out.1; obtain ⟨q0, q1, q2, q3, q4, q5⟩ := st_row HH.out.2.1; obtain ⟨n0, n1, n2, n3, n4, n5, n6⟩ := nod_row ((hgr.1.block N (by simp <;> omega) (fun e => HXF.out.farN N e.symm rfl)).trans (((Below.refl _ wr.drew).alloc (Nat.le_refl _) _).block N (by show N < wr.heap.size; omega) |>.trans HXF.out.nd)); clear hown' hgr)
                    all_goals
                      go_wp2
                      refine bodyPost_ret (results_row_tmp rfl _ _ (w.heap.size + 1) _ v' rfl (st_put HH.out.2.1 (some ⟨g, 0, none⟩) ts.length cap ((j : Int) + 1) 0 p E) rfl) rfl ?_
                      obtain ⟨f1, f2⟩ := x_fin HH.out.2.2.1 HH.out.2.2.2 HXF.out.xs.low (ownNod_next ⟨y0, y1, y2, y3, y4, y5, y6⟩ HO.out rfl rfl) (some ⟨g, 0, none⟩) ts.length cap ((j : Int) + 1) 0 p E
                      rw [HRK.out]
                      exact ⟨v', by rw [Int.natCast_add]; rfl, f1, f2⟩
              · have HRB : Hid (R = .error (c8, q8)) := by
                  have h := HR3.out
                  rw [hbad8] at h
                  exact h.symm
                clear HR3 hbad8
                go_wp2
                obtain ⟨f0, f1, f2⟩ := (HX8.out.setP i8 c8 q8).xs.back i8 c8 q8
                refine bodyPost_ret (results_row_tmp rfl _ _ (w.heap.size + 1) _ u1 rfl f0 rfl) rfl ?_
                rw [HRB.out]
                exact ⟨i8, u1, L, rfl, f1, f2⟩
          · have HRB : Hid (R = .error (cc, qq)) := by
              have h := HR.out
              rw [hbadA] at h
              exact h.symm
            clear HR HRA hbadA hXF HKD
            have hk2 : (kk : Int) < form.size ∨ ¬ (kk : Int) < form.size := by omega
            rcases hk2 with hin' | hin'
            all_goals
              go_wp2_with fail
              refine (spec_take_off _ _ _ i1 cc qq E 2 hc1 _).mono ?_
              rintro e w8 ⟨rfl, b8⟩
              have HX8 : Hid (XF w v B (some ⟨g, 0, none⟩) ts.length cap E w8 u1 L i1 cc qq N nod u15 ks) := HXF.out.below b8
              clear b8 p0 p1 p2 p3 p4 p5 HXF
              obtain ⟨⟨p0, p1, p2, p3, p4, p5⟩, q0, q1, q2, q3, q4, q5⟩ := HX8.out.xs.cells
              have z1 := HX8.out.xs.size
              have z0 : w.heap.size < w8.heap.size := by omega
              go_wp2
              obtain ⟨f0, f1, f2⟩ := (HX8.out.setP i1 cc qq).xs.back i1 cc qq
              refine bodyPost_ret (results_row_tmp rfl _ _ (w.heap.size + 1) _ u1 rfl f0 rfl) rfl ?_
              rw [HRB.out]
              exact ⟨i1, u1, L, rfl, f1, f2⟩
    · have HRB : Hid (R = .error (c', q')) := by
        have h := HR.out
        rw [openX, hbad] at h
        exact h.symm
      have hk0 : ktx = ⟨#[]⟩ := by
        have := congrArg Tok.text htk
        exact this
      subst hk0
      rw [formE_nil]
      clear htk hbad HC
      obtain ⟨W4, hW4⟩ : ∃ W4, ((w2.alloc (.cells (nodCells ⟨0, 0, 0, 0, 0, ⟨#[]⟩, ⟨#[]⟩⟩).toArray 55)).alloc (.cells #[] 3)) = W4 := ⟨_, rfl⟩
      have HW4 : Hid (_) := hW4
      have HX4 : Hid (XS w v B (some ⟨g, 0, none⟩) ts.length cap E W4 v l i' c' q') := by
        rw [← hW4]
        exact (HX3.out.alloc _).alloc _
      clear hW4
      go_wp2
      rw [show ((w2.alloc (.cells #[.int .i64 0, .int .i64 0, .int .i64 0, .int .i64 0, .int .i64 0, .string ⟨#[]⟩, .string ⟨#[]⟩] 55)).alloc (.cells #[] 3)) = W4 from HW4.out]
      clear HW4 p0 p1 p2 p3 p4 p5 q0 q1 q2 q3 q4 q5
      go_loopw [1, 15, 16] (fun lv kv k wr => v = lv ∧ k = .int .i64 0 ∧ W4 = wr) (fun _ _ _ _ => 0)
      case atStart => exact ⟨rfl, rfl, rfl⟩
      case round =>
        obtain ⟨rfl, rfl, rfl⟩ := hrel
        obtain ⟨⟨p0, p1, p2, p3, p4, p5⟩, q0, q1, q2, q3, q4, q5⟩ := HX4.out.cells
        clear q0 q1 q2 q3 q4 q5
        go_wp2_with fail
        refine (spec_take_off _ _ _ i' c' q' E 2 hc0 _).mono ?_
        rintro e w5 ⟨rfl, b5⟩
        have HX5 : Hid (XS w v B (some ⟨g, 0, none⟩) ts.length cap E w5 v l i' c' q') := HX4.out.below b5
        clear p0 p1 p2 p3 p4 p5
        obtain ⟨⟨p0, p1, p2, p3, p4, p5⟩, q0, q1, q2, q3, q4, q5⟩ := HX5.out.cells
        have z1 := HX5.out.size
        have z0 : w.heap.size < w5.heap.size := by omega
        clear b5
        go_wp2
        obtain ⟨f0, f1, f2⟩ := (HX5.out.setP i' c' q').back i' c' q'
        refine bodyPost_ret (results_row_tmp rfl _ _ (w.heap.size + 1) _ v rfl f0 rfl) rfl ?_
        rw [HRB.out]
        exact ⟨i', v, l, rfl, f1, f2⟩
  · have hi3 : ¬ (i : Int) + 1 < ts.length := by omega
    go_enter Tryd.func24, Tryd.ntmps24
    go_wp2_with fail
    rw [HW.out]
    refine (spec_take (some ⟨g, 0, none⟩) g ts.length cap (i + 1) p E 3 ts rfl hc (fun _ => rfl) W0 (HX1.out.toks HTA.out HGV.out)).mono ?_
    rintro e w1 ⟨he, b1⟩
    obtain ⟨i', c', q', ⟨kd, ktx, ktn, ktp⟩, rfl, hcase⟩ := take_form he
    have HC : Hid (_) := hcase
    have HX2 : Hid (XS w v B (some ⟨g, 0, none⟩) ts.length cap E w1 v l ((i : Int) + 1) 0 p) := HX1.out.below b1
    clear he hcase b1 HW HX1 t0 t1 t2 t3
    obtain ⟨⟨p0, p1, p2, p3, p4, p5⟩, q0, q1, q2, q3, q4, q5⟩ := HX2.out.cells
    clear q0 q1 q2 q3 q4 q5
    have z1 := HX2.out.size
    have z0 : w.heap.size < w1.heap.size := by omega
    obtain ⟨W2, hW2⟩ : ∃ W2, (putQ w1 w.heap.size (some ⟨g, 0, none⟩) ts.length cap i' c' q' E).alloc (.cells (tokR kd ktx ktn ktp) 52) = W2 := ⟨_, rfl⟩
    have HW2 : Hid (_) := hW2
    have HX3 : Hid (XS w v B (some ⟨g, 0, none⟩) ts.length cap E W2 v l i' c' q') := by
      rw [← hW2]
      exact (HX2.out.setP i' c' q').alloc _
    clear hW2
    go_wp2_with fail
    rw [HW2.out]
    refine (spec_form ktx W2).mono ?_
    rintro e w2 ⟨rfl, rfl⟩
    clear p0 p1 p2 p3 p4 p5 HW2 HX2 z1 z0
    obtain ⟨⟨p0, p1, p2, p3, p4, p5⟩, q0, q1, q2, q3, q4, q5⟩ := HX3.out.cells
    rcases HC.out with ⟨_, _, _, hlt, _, _⟩ | ⟨hc0, htk, hbad⟩
    · omega
    · have HRB : Hid (R = .error (c', q')) := by
        have h := HR.out
        rw [openX, hbad] at h
        exact h.symm
      have hk0 : ktx = ⟨#[]⟩ := by
        have := congrArg Tok.text htk
        exact this
      subst hk0
      rw [formE_nil]
      clear htk hbad HC
      obtain ⟨W4, hW4⟩ : ∃ W4, ((w2.alloc (.cells (nodCells ⟨0, 0, 0, 0, 0, ⟨#[]⟩, ⟨#[]⟩⟩).toArray 55)).alloc (.cells #[] 3)) = W4 := ⟨_, rfl⟩
      have HW4 : Hid (_) := hW4
      have HX4 : Hid (XS w v B (some ⟨g, 0, none⟩) ts.length cap E W4 v l i' c' q') := by
        rw [← hW4]
        exact (HX3.out.alloc _).alloc _
      clear hW4
      go_wp2
      rw [show ((w2.alloc (.cells #[.int .i64 0, .int .i64 0, .int .i64 0, .int .i64 0, .int .i64 0, .string ⟨#[]⟩, .string ⟨#[]⟩] 55)).alloc (.cells #[] 3)) = W4 from HW4.out]
      clear HW4 p0 p1 p2 p3 p4 p5 q0 q1 q2 q3 q4 q5
      go_loopw [1, 15, 16] (fun lv kv k wr => v = lv ∧ k = .int .i64 0 ∧ W4 = wr) (fun _ _ _ _ => 0)
      case atStart => exact ⟨rfl, rfl, rfl⟩
      case round =>
        obtain ⟨rfl, rfl, rfl⟩ := hrel
        obtain ⟨⟨p0, p1, p2, p3, p4, p5⟩, q0, q1, q2, q3, q4, q5⟩ := HX4.out.cells
        clear q0 q1 q2 q3 q4 q5
        go_wp2_with fail
        refine (spec_take_off _ _ _ i' c' q' E 2 hc0 _).mono ?_
        rintro e w5 ⟨rfl, b5⟩
        have HX5 : Hid (XS w v B (some ⟨g, 0, none⟩) ts.length cap E w5 v l i' c' q') := HX4.out.below b5
        clear p0 p1 p2 p3 p4 p5
        obtain ⟨⟨p0, p1, p2, p3, p4, p5⟩, q0, q1, q2, q3, q4, q5⟩ := HX5.out.cells
        have z1 := HX5.out.size
        have z0 : w.heap.size < w5.heap.size := by omega
        clear b5
        go_wp2
        obtain ⟨f0, f1, f2⟩ := (HX5.out.setP i' c' q').back i' c' q'
        refine bodyPost_ret (results_row_tmp rfl _ _ (w.heap.size + 1) _ v rfl f0 rfl) rfl ?_
        rw [HRB.out]
        exact ⟨i', v, l, rfl, f1, f2⟩
end Go.Proofs.YtncoooimgeoihaaDoor
