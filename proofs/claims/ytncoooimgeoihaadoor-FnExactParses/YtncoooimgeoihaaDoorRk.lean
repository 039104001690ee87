/-
  Reading as it landed: a node, an expression. Conditions: written at each theorem.
-/
import Derived.Test.YtncoooimgeoihaaDoorRj
import Derived.Test.YtncoooimgeoihaaDoorPg
namespace Go.Proofs.YtncoooimgeoihaaDoor
open Go.ChangeShapes Go.WideShapes Go.ChangeAt Go.RowKit
set_option linter.unusedVariables false

/-- The node that begins with token i, and the nodes ahead of it. -/
def nodeE (ts : List Tok) (E : Int) (f i : Nat) (l : List Nod) : Except Flt (Nat × Nod × List Nod) :=
  if (ts.getD i noTok).kind = 4 then .ok (i + 1, ⟨2, 0, 0, 0, (ts.getD i noTok).n, ByteArray.empty, ByteArray.empty⟩, l)
  else if (ts.getD i noTok).kind = 3 then
    if (ts.getD i noTok).text.data.toList = [110, 105, 108] then .ok (i + 1, ⟨12, 0, 0, 0, 0, ByteArray.empty, ByteArray.empty⟩, l)
    else match nameE ts E i with
      | .ok (j, s) => .ok (j, ⟨1, 0, 0, 0, 0, s, ByteArray.empty⟩, l)
      | .error e => .error e
  else if (ts.getD i noTok).kind = 2 then .error (3, (ts.getD i noTok).place)
  else brE ts E f i l

/-- The node is put behind the others. -/
def exprOf (r : Except Flt (Nat × Nod × List Nod)) : Except Flt (Nat × List Nod) := match r with
  | .ok (j, n, m) => .ok (j, m ++ [n])
  | .error e => .error e

theorem exprE_node (ts : List Tok) (E : Int) (f i : Nat) (l : List Nod) (hi : i < ts.length) : exprE ts E (f + 1) i l = exprOf (nodeE ts E f i l) := by
  rw [exprE, if_pos hi, nodeE]
  by_cases h4 : (ts.getD i noTok).kind = 4
  · rw [if_pos h4, if_pos h4]
    rfl
  · rw [if_neg h4, if_neg h4]
    by_cases h3 : (ts.getD i noTok).kind = 3
    · rw [if_pos h3, if_pos h3]
      by_cases hn : (ts.getD i noTok).text.data.toList = [110, 105, 108]
      · rw [if_pos hn, if_pos hn]
        rfl
      · rw [if_neg hn, if_neg hn]
        cases nameE ts E i <;> rfl
    · rw [if_neg h3, if_neg h3]
      by_cases h2 : (ts.getD i noTok).kind = 2
      · rw [if_pos h2, if_pos h2]
        rfl
      · rw [if_neg h2, if_neg h2, brE]
        cases takeE ts E (i + 1) 3 with
        | error e => rfl
        | ok p =>
          obtain ⟨j, key⟩ := p
          simp only
          by_cases hk : (formE key.text).1 = 0
          · rw [if_pos hk, if_pos hk]
            rfl
          · rw [if_neg hk, if_neg hk]
            cases argsE ts E (exprE ts E f) (formE key.text).2.2.data.toList j ⟨(formE key.text).1, 0, 0, 0, (formE key.text).2.1, ByteArray.empty, ByteArray.empty⟩ l [] with
            | error e => rfl
            | ok p =>
              obtain ⟨j2, n, l2, ks⟩ := p
              simp only
              cases takeE ts E j2 2 with
              | error e => rfl
              | ok p => rfl

theorem dout_case {T : World → Prop} {R g fm : Nat} {ts : List Tok} {E : Int} {w w' : World} {v : Value} {r : Except Flt (Nat × Nod × List Nod)} {e : Ending} (h : DOut T R g fm ts E w v r e w') :
    (∃ j n m v', r = .ok (j, n, m) ∧ e = .returned (nodAgg n) ∧ RS T R g fm ts E w' j v' m ∧ Moved R w w' v v') ∨ (∃ c q, r = .error (c, q) ∧ e = .panicked [fltV c q] ∧ Below R w w') := by
  rcases r with ⟨c, q⟩ | ⟨j, n, m⟩
  · exact Or.inr ⟨c, q, rfl, h⟩
  · obtain ⟨h1, v', h2, h3⟩ := h
    exact Or.inl ⟨j, n, m, v', rfl, h1, h2, h3⟩

theorem FS.finN {T : World → Prop} {R g fm : Nat} {ts : List Tok} {E : Int} {w W : World} {v vx : Value} {j : Nat} {L : List Nod} {qr : Array Value} {tq : TypeId} (hT : ∀ a b, T a → Below R a b → T b) (h : FS T R g fm ts E w v W j vx L qr nodZ tq 55) (y0 y1 y2 y3 y4 y5 y6 : Value) :
    FS T R g fm ts E w v (put7 W (w.heap.size + 1) y0 y1 y2 y3 y4 y5 y6) j vx L qr #[y0, y1, y2, y3, y4, y5, y6] tq 55 :=
  ((((((h.setN hT 0 y0).setN hT 1 y1).setN hT 2 y2).setN hT 3 y3).setN hT 4 y4).setN hT 5 y5).setN hT 6 y6

set_option maxHeartbeats 2000000 in
set_option maxRecDepth 20000 in
theorem rd_node {w0 : World} {g M : Nat} {ts : List Tok} {E : Int} {f : Nat} {s : ByteArray} (hms : MS w0 M fTable) (hc : ts.length ≤ 4000) (hs : s.size ≤ 4000) (hk : ∀ i, i < ts.length → TokOk s (ts.getD i noTok)) (ih : ExprI (Below w0.heap.size w0) w0.heap.size g M ts E f)
    (w : World) (i : Nat) (v : Value) (l : List Nod) (hi : i < ts.length) (h : RS (Below w0.heap.size w0) w0.heap.size g M ts E w (i + 1) v l) (hf : ts.length + 1 ≤ i + (f + 1)) (hl : l.length ≤ i) :
    Calls Tryd.prog 78 #[.pointer (some ⟨w0.heap.size, 0, none⟩), tokA (ts.getD i noTok)] w fun e w' => DOut (Below w0.heap.size w0) w0.heap.size g M ts E w v (nodeE ts E f i l) e w' := by
  have HT : Hid (∀ a b, Below w0.heap.size w0 a → Below w0.heap.size a b → Below w0.heap.size w0 b) := fun a b h1 h2 => h1.trans h2
  have HV : Hid (∀ k, v.ownBlock = some k → w0.heap.size < k) := h.far
  obtain ⟨RB, hRB⟩ : ∃ RB, nodeE ts E f i l = RB := ⟨_, rfl⟩
  rw [hRB]
  rw [nodeE] at hRB
  have hOK := hk i hi
  have hnm := nameE_is (E := E) hi hOK
  have hsz : (ts.getD i noTok).text.size ≤ 4000 := by have := hOK.2.2.2; omega
  have hno : (ts.getD i noTok).kind = 2 → isNameB (ts.getD i noTok).text = false := fun e => no_name hOK (by omega)
  have hkd := hOK.1
  have F0 : Hid (FS (Below w0.heap.size w0) w0.heap.size g M ts E w v ((w.alloc (.cells #[.int .i64 (ts.getD i noTok).kind, .string (ts.getD i noTok).text, .int .i64 (ts.getD i noTok).n, .int .i64 (ts.getD i noTok).place] 52)).alloc (.cells nodZ 55)) (i + 1) v l #[.int .i64 (ts.getD i noTok).kind, .string (ts.getD i noTok).text, .int .i64 (ts.getD i noTok).n, .int .i64 (ts.getD i noTok).place] nodZ 52 55) := FS.start HT.out h
  have FA : Hid (∀ nr, FS (Below w0.heap.size w0) w0.heap.size g M ts E w v ((w.alloc (.cells #[.int .i64 (ts.getD i noTok).kind, .string (ts.getD i noTok).text, .int .i64 (ts.getD i noTok).n, .int .i64 (ts.getD i noTok).place] 52)).alloc (.cells nr 55)) (i + 1) v l #[.int .i64 (ts.getD i noTok).kind, .string (ts.getD i noTok).text, .int .i64 (ts.getD i noTok).n, .int .i64 (ts.getD i noTok).place] nr 52 55) := fun nr => FS.start HT.out h
  have HBR : Hid (∀ (w : World) (v : Value) (l : List Nod), RS (Below w0.heap.size w0) w0.heap.size g M ts E w (i + 1) v l → l.length ≤ i → Calls Tryd.prog 89 #[.pointer (some ⟨w0.heap.size, 0, none⟩)] w fun e w' => DOut (Below w0.heap.size w0) w0.heap.size g M ts E w v (brE ts E f i l) e w') := fun w v l h hl => rd_brackets hms hc hs hk ih w i v l h hf hl
  have HL : Hid (l.length ≤ i) := hl
  clear h hms hc hs hk ih hf hl hOK
  generalize ts.getD i noTok = t at *
  obtain ⟨kd, tx, tn, tp⟩ := t
  simp only at hkd hRB hno hsz hnm F0 FA
  by_cases h1 : kd = 1
  · subst h1
    rw [if_neg (by decide), if_neg (by decide), if_neg (by decide)] at hRB
    have HRB : Hid (brE ts E f i l = RB) := hRB
    clear hRB hno hkd hnm hsz
    go_enter Tryd.func78, Tryd.ntmps78
    go_wp2_with fail
    refine (HBR.out _ v l F0.out.rs HL.out).mono ?_
    rintro e w1 he
    rw [HRB.out] at he
    obtain ⟨j1, nd, m1, v1, hE, rfl, hr1, hm1⟩ | ⟨c1, q1, hE, rfl, hb1⟩ := dout_case he
    · obtain ⟨y0, y1, y2, y3, y4, y5, y6⟩ := nd
      have F1 : Hid (FS (Below w0.heap.size w0) w0.heap.size g M ts E w v w1 j1 v1 m1 #[.int .i64 1, .string tx, .int .i64 tn, .int .i64 tp] nodZ 52 55) := F0.out.call hr1 hm1
      have HE : Hid (RB = .ok (j1, ⟨y0, y1, y2, y3, y4, y5, y6⟩, m1)) := hE
      obtain ⟨n0, n1, n2, n3, n4, n5, n6, n7⟩ := node_cells F1.out.nn
      clear he hE hr1 hm1 F0
      unfold nodAgg
      go_wp2
      have hfin := F1.out.finN HT.out (.int .i64 y0) (.int .i64 y1) (.int .i64 y2) (.int .i64 y3) (.int .i64 y4) (.string y5) (.string y6)
      refine bodyPost_ret (results_cell_row rfl _ _ (w.heap.size + 1) 55 #[.int .i64 y0, .int .i64 y1, .int .i64 y2, .int .i64 y3, .int .i64 y4, .string y5, .string y6] (0, 0) _ rfl hfin.nn Tryd.underlying55 rfl (by kernel_rfl)) rfl ?_
      rw [HE.out]
      exact ⟨rfl, _, hfin.rs, hfin.mv⟩
    · have HE : Hid (RB = .error (c1, q1)) := hE
      have HBL : Hid (Below w0.heap.size w w1) := (F0.out.low HV.out).trans hb1
      clear he hE hb1 F0
      go_wp2
      exact ⟨rfl, by rw [HE.out]; exact ⟨rfl, HBL.out⟩⟩
  · by_cases h4 : kd = 4
    · subst h4
      rw [if_pos rfl] at hRB
      have HE : Hid (RB = .ok (i + 1, ⟨2, 0, 0, 0, tn, ByteArray.empty, ByteArray.empty⟩, l)) := hRB.symm
      clear hRB hno hkd hnm hsz h1 HBR
      go_enter Tryd.func78, Tryd.ntmps78
      go_wp2
      have hfin := FA.out #[.int .i64 2, .int .i64 0, .int .i64 0, .int .i64 0, .int .i64 tn, .string ⟨#[]⟩, .string ⟨#[]⟩]
      refine bodyPost_ret (results_cell_row rfl _ _ (w.heap.size + 1) 55 #[.int .i64 2, .int .i64 0, .int .i64 0, .int .i64 0, .int .i64 tn, .string ⟨#[]⟩, .string ⟨#[]⟩] (0, 0) _ rfl hfin.nn Tryd.underlying55 rfl (by kernel_rfl)) rfl ?_
      rw [HE.out]
      exact ⟨rfl, _, hfin.rs, hfin.mv⟩
    · rw [if_neg h4] at hRB
      by_cases hn : tx.data.toList = [110, 105, 108]
      · have h3 : kd = 3 := by
          rcases hkd with ⟨e, _⟩ | ⟨_, e⟩ | ⟨e, _⟩ | ⟨e, _⟩
          · exact absurd e h1
          · rw [e] at hn; exact absurd hn (by decide)
          · exact e
          · exact absurd e h4
        subst h3
        rw [if_pos rfl, if_pos hn] at hRB
        obtain rfl : tx = ⟨#[110, 105, 108]⟩ := data_ext hn
        have HE : Hid (RB = .ok (i + 1, ⟨12, 0, 0, 0, 0, ByteArray.empty, ByteArray.empty⟩, l)) := hRB.symm
        clear hRB hno hkd hnm hsz h1 HBR hn h4
        go_enter Tryd.func78, Tryd.ntmps78
        go_wp2
        have hfin := FA.out #[.int .i64 12, .int .i64 0, .int .i64 0, .int .i64 0, .int .i64 0, .string ⟨#[]⟩, .string ⟨#[]⟩]
        refine bodyPost_ret (results_cell_row rfl _ _ (w.heap.size + 1) 55 #[.int .i64 12, .int .i64 0, .int .i64 0, .int .i64 0, .int .i64 0, .string ⟨#[]⟩, .string ⟨#[]⟩] (0, 0) _ rfl hfin.nn Tryd.underlying55 rfl (by kernel_rfl)) rfl ?_
        rw [HE.out]
        exact ⟨rfl, _, hfin.rs, hfin.mv⟩
      · have hnl : (tx.toList == [110, 105, 108]) = false := by
          rw [beq_eq_false_iff_ne, Lib.toList_data]
          exact hn
        by_cases hb : isNameB tx = true
        · have h3 : kd = 3 := by
            rcases hkd with ⟨e, _⟩ | ⟨e, _⟩ | ⟨e, _⟩ | ⟨e, _⟩
            · exact absurd e h1
            · rw [hno e] at hb; cases hb
            · exact e
            · exact absurd e h4
          subst h3
          rw [if_pos rfl, if_neg hn, hnm, if_pos hb] at hRB
          have HE : Hid (RB = .ok (i + 1, ⟨1, 0, 0, 0, 0, tx, ByteArray.empty⟩, l)) := hRB.symm
          have HCN : Hid (∀ w, Calls Tryd.prog 88 #[tokA ⟨3, tx, tn, tp⟩] w fun e w' => e = .returned (.string tx) ∧ Below w.heap.size w w') := rd_name_yes ⟨3, tx, tn, tp⟩ hsz hb
          clear hRB hno hkd hnm hsz h1 HBR hn h4 hb
          go_enter Tryd.func78, Tryd.ntmps78
          go_wp2_with fail
          refine (HCN.out _).mono ?_
          rintro e w1 ⟨rfl, hb1⟩
          have F1 : Hid (FS (Below w0.heap.size w0) w0.heap.size g M ts E w v w1 (i + 1) v l #[.int .i64 3, .string tx, .int .i64 tn, .int .i64 tp] nodZ 52 55) := F0.out.below HT.out hb1
          obtain ⟨n0, n1, n2, n3, n4, n5, n6, n7⟩ := node_cells F1.out.nn
          clear hb1 F0 FA
          go_wp2
          have hfin := F1.out.finN HT.out (.int .i64 1) (.int .i64 0) (.int .i64 0) (.int .i64 0) (.int .i64 0) (.string tx) (.string ⟨#[]⟩)
          refine bodyPost_ret (results_cell_row rfl _ _ (w.heap.size + 1) 55 #[.int .i64 1, .int .i64 0, .int .i64 0, .int .i64 0, .int .i64 0, .string tx, .string ⟨#[]⟩] (0, 0) _ rfl hfin.nn Tryd.underlying55 rfl (by kernel_rfl)) rfl ?_
          rw [HE.out]
          exact ⟨rfl, _, hfin.rs, hfin.mv⟩
        · have HE : Hid (RB = .error (3, tp)) := by
            rw [hnm, if_neg hb, if_neg hn] at hRB
            rcases hkd with ⟨e, _⟩ | ⟨e, _⟩ | ⟨e, _⟩ | ⟨e, _⟩
            · exact absurd e h1
            · rw [if_neg (by omega), if_pos e] at hRB
              exact hRB.symm
            · rw [if_pos e] at hRB
              exact hRB.symm
            · exact absurd e h4
          have HCN : Hid (∀ w, Calls Tryd.prog 88 #[tokA ⟨kd, tx, tn, tp⟩] w fun e w' => e = .panicked [fltV 3 tp] ∧ Below w.heap.size w w') := rd_name_no ⟨kd, tx, tn, tp⟩ hsz (by simpa using hb)
          clear hRB hno hkd hnm hsz HBR hn hb
          go_enter Tryd.func78, Tryd.ntmps78
          go_wp2_with fail
          refine (HCN.out _).mono ?_
          rintro e w1 ⟨rfl, hb1⟩
          have HBL : Hid (Below w0.heap.size w w1) := (F0.out.low HV.out).trans (hb1.mono (Nat.le_of_lt F0.out.rs.lt))
          clear hb1
          go_wp2
          exact ⟨rfl, by rw [HE.out]; exact ⟨rfl, HBL.out⟩⟩
end Go.Proofs.YtncoooimgeoihaaDoor
