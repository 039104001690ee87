/-
  Reading as it landed: what stands in brackets. Conditions: written at each theorem.
-/
import Derived.Test.YtncoooimgeoihaaDoorRh
import Derived.Test.YtncoooimgeoihaaDoorSt
import Derived.Deep.QuietTactic
import Derived.BigQuiet
namespace Go.Proofs.YtncoooimgeoihaaDoor
open Go.ChangeShapes Go.WideShapes Go.ChangeAt Go.RowKit
set_option linter.unusedVariables false

theorem call_enter {P : Program} {f : FuncId} {fn : Func} (hf : P.funcs[f]? = some fn) (hname : (fn.name == "runtime.NumGoroutine") = false) (hbody : fn.body.isNone = false) (args : Array Value) (w : World) : (callFunc f args).run P w = .ok (.enter f args) w := by
  have hn : ¬ fn.name = "runtime.NumGoroutine" := by simpa using hname
  have hb : ¬ fn.body = none := fun h => by rw [h] at hbody; simp at hbody
  simp [callFunc, hf, hn, hb]

/-- Behind an opening bracket: the node that comes, and the nodes ahead of it. -/
def brE (ts : List Tok) (E : Int) (f i : Nat) (l : List Nod) : Except Flt (Nat × Nod × List Nod) := match takeE ts E (i + 1) 3 with
  | .error e => .error e
  | .ok (j, key) =>
    if (formE key.text).1 = 0 then .error (3, key.place)
    else match argsE ts E (exprE ts E f) (formE key.text).2.2.data.toList j ⟨(formE key.text).1, 0, 0, 0, (formE key.text).2.1, ByteArray.empty, ByteArray.empty⟩ l [] with
      | .error e => .error e
      | .ok (j2, n, l2, ks) => match takeE ts E j2 2 with
        | .error e => .error e
        | .ok (j3, _) => .ok (j3, withKids n ks, l2)

/-- What a node that is read ends with. -/
def DOut (T : World → Prop) (R g fm : Nat) (ts : List Tok) (E : Int) (w : World) (v : Value) (r : Except Flt (Nat × Nod × List Nod)) (e : Ending) (w' : World) : Prop := match r with
  | .ok (j, n, m) => e = .returned (nodAgg n) ∧ ∃ v', RS T R g fm ts E w' j v' m ∧ Moved R w w' v v'
  | .error (c, q) => e = .panicked [fltV c q] ∧ Below R w w'

theorem aout_case {T : World → Prop} {R g fm : Nat} {ts : List Tok} {E : Int} {w w' : World} {v : Value} {r : Except Flt (Nat × Nod × List Nod × List Int)} {e : Ending} (h : AOut T R g fm ts E w v r e w') :
    (∃ j n m ks v', r = .ok (j, n, m, ks) ∧ e = .returned (nodAgg (withKids n ks)) ∧ RS T R g fm ts E w' j v' m ∧ Moved R w w' v v') ∨ (∃ c q, r = .error (c, q) ∧ e = .panicked [fltV c q] ∧ Below R w w') := by
  rcases r with ⟨c, q⟩ | ⟨j, n, m, ks⟩
  · exact Or.inr ⟨c, q, rfl, h⟩
  · obtain ⟨h1, v', h2, h3⟩ := h
    exact Or.inl ⟨j, n, m, ks, v', rfl, h1, h2, h3⟩

/-- Since w: the result's place is there yet; the reader has come so far. -/
structure GS (T : World → Prop) (R g fm : Nat) (ts : List Tok) (E : Int) (w : World) (v : Value) (W : World) (j : Nat) (vx : Value) (L : List Nod) (qr : Array Value) : Prop where
  rs : RS T R g fm ts E W j vx L
  mv : Moved R w W v vx
  qq : W.heap[w.heap.size]? = some (.cells qr 55 (0, 0))
  far : ∀ k, vx.ownBlock = some k → k ≠ w.heap.size
  rw : R < w.heap.size

section
variable {T : World → Prop} {R g fm : Nat} {ts : List Tok} {E : Int} {w W W' : World} {v vx v' : Value} {j j' : Nat} {L L' : List Nod} {qr : Array Value}

theorem GS.size (h : GS T R g fm ts E w v W j vx L qr) : w.heap.size < W.heap.size := (Array.getElem?_eq_some_iff.1 h.qq).1

theorem GS.start (hT : ∀ a b, T a → Below R a b → T b) (h : RS T R g fm ts E w j v L) : GS T R g fm ts E w v (w.alloc (.cells qr 55)) j v L qr := by
  have hb : Below w.heap.size w (w.alloc (.cells qr 55)) := (Below.refl _ w).alloc (Nat.le_refl _) _
  exact ⟨h.below hT hb, Moved.of_below hb, heap_alloc_new w _, fun k hk => by have := (h.own.lt k hk).2; omega, h.lt⟩

theorem GS.call (h : GS T R g fm ts E w v W j vx L qr) (hr : RS T R g fm ts E W' j' v' L') (hm : Moved R W W' vx v') : GS T R g fm ts E w v W' j' v' L' qr := by
  have hs := h.size
  have hw := h.rw
  refine ⟨hr, h.mv.trans hm, (hm.block _ hs (by omega) (fun e => h.far _ e.symm rfl)).trans h.qq, fun k hk => ?_, hw⟩
  rcases hm.new k hk with h1 | h1
  · omega
  · exact h.far k h1

theorem GS.below (hT : ∀ a b, T a → Below R a b → T b) (h : GS T R g fm ts E w v W j vx L qr) (hb : Below W.heap.size W W') : GS T R g fm ts E w v W' j vx L qr := h.call (h.rs.below hT hb) (Moved.of_below hb)

theorem GS.alloc (hT : ∀ a b, T a → Below R a b → T b) (h : GS T R g fm ts E w v W j vx L qr) (o : Obj) : GS T R g fm ts E w v (W.alloc o) j vx L qr := h.below hT ((Below.refl _ W).alloc (Nat.le_refl _) o)

theorem GS.setQ (hT : ∀ a b, T a → Below R a b → T b) (h : GS T R g fm ts E w v W j vx L qr) (k : Nat) (y : Value) : GS T R g fm ts E w v (W.setCell ⟨w.heap.size, k, none⟩ y) j vx L (qr.setIfInBounds k y) := by
  have hw := h.rw
  have hb : Below w.heap.size W (W.setCell ⟨w.heap.size, k, none⟩ y) := (Below.refl _ W).setCell (p := ⟨w.heap.size, k, none⟩) (Nat.le_refl _) y
  have hbR : Below R W (W.setCell ⟨w.heap.size, k, none⟩ y) := hb.mono (by omega)
  obtain ⟨a, c, hr, h1, h2⟩ := h.rs.row
  refine ⟨⟨⟨a, c, (hb.block R hw).trans hr, h1, h2⟩, toks_kept h.rs.tok h.rs.glt hbR, h.rs.glt, ownsRow_setCell_other h.rs.own (fun e => h.far _ e rfl) y, hT _ _ h.rs.tab hbR, h.rs.le⟩, ⟨hb.os.trans h.mv.os, hb.tape.trans h.mv.tape, hb.output.trans h.mv.output, Nat.le_trans h.mv.size hb.size, fun k hk hr hv => (hb.block k hk).trans (h.mv.block k hk hr hv), h.mv.new⟩, heap_setCell_same W _ k _ _ y h.qq, h.far, hw⟩

theorem GS.fin (hT : ∀ a b, T a → Below R a b → T b) (h : GS T R g fm ts E w v W j vx L nodZ) (y0 y1 y2 y3 y4 y5 y6 : Value) :
    GS T R g fm ts E w v (put7 W w.heap.size y0 y1 y2 y3 y4 y5 y6) j vx L #[y0, y1, y2, y3, y4, y5, y6] :=
  ((((((h.setQ hT 0 y0).setQ hT 1 y1).setQ hT 2 y2).setQ hT 3 y3).setQ hT 4 y4).setQ hT 5 y5).setQ hT 6 y6

theorem GS.low (h : GS T R g fm ts E w v W j vx L qr) (hv : ∀ k, v.ownBlock = some k → R < k) : Below R w W := h.mv.low hv h.rw
end

set_option maxHeartbeats 2000000 in
set_option maxRecDepth 20000 in
theorem rd_brackets {w0 : World} {g M : Nat} {ts : List Tok} {E : Int} {f : Nat} {s : ByteArray} (hms : MS w0 M fTable) (hc : ts.length ≤ 4000) (hs : s.size ≤ 4000) (hk : ∀ i, i < ts.length → TokOk s (ts.getD i noTok)) (ih : ExprI (Below w0.heap.size w0) w0.heap.size g M ts E f)
    (w : World) (i : Nat) (v : Value) (l : List Nod) (h : RS (Below w0.heap.size w0) w0.heap.size g M ts E w (i + 1) v l) (hf : ts.length + 1 ≤ i + (f + 1)) (hl : l.length ≤ i) :
    Calls Tryd.prog 89 #[.pointer (some ⟨w0.heap.size, 0, none⟩)] w fun e w' => DOut (Below w0.heap.size w0) w0.heap.size g M ts E w v (brE ts E f i l) e w' := by
  obtain ⟨RB, hRB⟩ : ∃ RB, brE ts E f i l = RB := ⟨_, rfl⟩
  rw [hRB]
  have HRB : Hid (brE ts E f i l = RB) := hRB
  have HT : Hid (∀ a b, Below w0.heap.size w0 a → Below w0.heap.size a b → Below w0.heap.size w0 b) := fun a b h1 h2 => h1.trans h2
  have HMS : Hid (MS w0 M fTable) := hms
  have HC : Hid (ts.length ≤ 4000) := hc
  have HS : Hid (s.size ≤ 4000) := hs
  have HK : Hid (∀ i, i < ts.length → TokOk s (ts.getD i noTok)) := hk
  have IH : Hid (ExprI (Below w0.heap.size w0) w0.heap.size g M ts E f) := ih
  have HV : Hid (∀ k, v.ownBlock = some k → w0.heap.size < k) := h.far
  have HF : Hid (ts.length + 1 ≤ i + (f + 1) ∧ l.length ≤ i) := ⟨hf, hl⟩
  have G0 : Hid (GS (Below w0.heap.size w0) w0.heap.size g M ts E w v (w.alloc (.cells nodZ 55)) (i + 1) v l nodZ) := GS.start HT.out h
  have hlt := h.lt
  clear hRB hms hc hs hk ih hf hl h
  by_cases hi : i + 1 < ts.length
  · have HTK : Hid (Calls Tryd.prog 79 #[.pointer (some ⟨w0.heap.size, 0, none⟩)] (w.alloc (.cells nodZ 55)) fun e w' => e = .returned (tokA (ts.getD (i + 1) noTok)) ∧ RS (Below w0.heap.size w0) w0.heap.size g M ts E w' (i + 1 + 1) v l ∧ Moved w0.heap.size (w.alloc (.cells nodZ 55)) w' v v) := rd_take HT.out G0.out.rs hi HC.out
    have HB1 := HRB.out
    rw [brE] at HB1
    have HOK := HK.out (i + 1) hi
    have htk : takeE ts E (i + 1) 3 = if (ts.getD (i + 1) noTok).kind = 3 then .ok (i + 1 + 1, ts.getD (i + 1) noTok) else .error (3, (ts.getD (i + 1) noTok).place) := by
      rw [takeE, if_pos hi]
    rw [htk] at HB1
    clear htk HRB
    generalize ts.getD (i + 1) noTok = key at *
    obtain ⟨kd, ktx, ktn, ktp⟩ := key
    have HB2 : (if (formE ktx).1 = 0 then (.error (3, ktp)) else match argsE ts E (exprE ts E f) (formE ktx).2.2.data.toList (i + 1 + 1) ⟨(formE ktx).1, 0, 0, 0, (formE ktx).2.1, ByteArray.empty, ByteArray.empty⟩ l [] with
      | .error e => (.error e : Except Flt (Nat × Nod × List Nod))
      | .ok (j2, n, l2, ks) => match takeE ts E j2 2 with
        | .error e => .error e
        | .ok (j3, _) => .ok (j3, withKids n ks, l2)) = RB := by
      by_cases hk3 : kd = 3
      · rw [if_pos hk3] at HB1
        exact HB1
      · rw [if_neg hk3] at HB1
        have h0 : (formE ktx).1 = 0 := by
          rcases Decidable.em ((formE ktx).1 = 0) with h | h
          · exact h
          · have hlow := formE_word h HMS.out
            rcases HOK.1 with ⟨_, e⟩ | ⟨_, e⟩ | ⟨e, _⟩ | ⟨_, _, e⟩
            · simp only at e; subst e; exact absurd hlow (by decide)
            · simp only at e; subst e; exact absurd hlow (by decide)
            · exact absurd e hk3
            · simp only [dig9, lowA] at e hlow; omega
        rw [if_pos h0]
        exact HB1
    have HB3 : Hid (_) := HB2
    clear HB1 HB2 HOK
    go_enter Tryd.func89, Tryd.ntmps89
    go_wp2_with fail
    refine HTK.out.mono ?_
    rintro e w1 ⟨rfl, hr1, hm1⟩
    have G1 : Hid (GS (Below w0.heap.size w0) w0.heap.size g M ts E w v (w1.alloc (.cells #[.int .i64 kd, .string ktx, .int .i64 ktn, .int .i64 ktp] 52)) (i + 1 + 1) v l nodZ) := (G0.out.call hr1 hm1).alloc HT.out _
    obtain ⟨a1, c1, hrow, _, _⟩ := hr1.row
    obtain ⟨r0, r1, r2, r3, r4⟩ := rd_row hrow
    have hlt1 := hr1.lt
    have HLK := map_look HMS.out ktx
    have HTB : ∀ n, Below w0.heap.size w0 ((w1.alloc (.cells #[.int .i64 kd, .string ktx, .int .i64 ktn, .int .i64 ktp] 52)).drewN n) := fun n => below_drew_n G1.out.rs.tab n
    clear hr1 hm1 HTK G0 hrow
    rcases HLK with ⟨h0, hlk'⟩ | ⟨r, fv, hr, hkk, hfn, hfe, hlk'⟩
    · have hlk := fun n => hlk' _ (HTB n)
      clear hlk' HTB
      have HE : Hid (RB = .error (3, ktp)) := by
        have h := HB3.out
        rw [if_pos h0] at h
        exact h.symm
      clear HB3 h0
      go_wp2
      go_quiet (fail)
      go_wp2
      exact ⟨rfl, by rw [HE.out]; exact ⟨rfl, below_drew_n (G1.out.low HV.out) _⟩⟩
    · have hlk := fun n => hlk' _ (HTB n)
      clear hlk' HTB
      obtain ⟨F, cap, rfl, hF, hform⟩ := form_of hr hfn HC.out HS.out HK.out IH.out
      obtain ⟨hknz, _⟩ := table_kinds r hr
      have HB4 := HB3.out
      rw [hfe] at HB4
      simp only at HB4
      rw [if_neg hknz] at HB4
      have HFM : Hid (FormI (Below w0.heap.size w0) w0.heap.size g M ts E f F (#[.pointer (some ⟨w0.heap.size, 0, none⟩)] ++ cap) r.kind r.op r.form) := hform
      obtain ⟨RA, hRA⟩ : ∃ RA, argsE ts E (exprE ts E f) r.form (i + 1 + 1) ⟨r.kind, 0, 0, 0, r.op, ByteArray.empty, ByteArray.empty⟩ l [] = RA := ⟨_, rfl⟩
      have HRA : Hid (argsE ts E (exprE ts E f) r.form (i + 1 + 1) ⟨r.kind, 0, 0, 0, r.op, ByteArray.empty, ByteArray.empty⟩ l [] = RA) := hRA
      rw [hRA] at HB4
      have HB5 : Hid (_) := HB4
      have hcf : ∀ (args : Array Value) (w : World), (callFunc F args).run Tryd.prog w = .ok (.enter F args) w := by
        rcases hF with rfl | rfl | rfl | rfl | rfl | rfl
        · exact call_enter Tryd.func56 (by kernel_rfl) (by kernel_rfl)
        · exact call_enter Tryd.func58 (by kernel_rfl) (by kernel_rfl)
        · exact call_enter Tryd.func59 (by kernel_rfl) (by kernel_rfl)
        · exact call_enter Tryd.func60 (by kernel_rfl) (by kernel_rfl)
        · exact call_enter Tryd.func61 (by kernel_rfl) (by kernel_rfl)
        · exact call_enter Tryd.func76 (by kernel_rfl) (by kernel_rfl)
      clear hr hkk hfn hfe hknz HB4 hRA hform HB3 hF
      go_wp2
      go_quiet (fail)
      go_wp2_with fail
      have G2 : Hid (GS (Below w0.heap.size w0) w0.heap.size g M ts E w v ((w1.alloc (.cells #[.int .i64 kd, .string ktx, .int .i64 ktn, .int .i64 ktp] 52)).drewN nq) (i + 1 + 1) v l nodZ) := G1.out.below HT.out (below_drew_n (Below.refl _ _) _)
      refine (HFM.out _ (i + 1 + 1) v l G2.out.rs (by have := HF.out; omega) (by have := HF.out; omega)).mono ?_
      rintro e w3 he
      rw [HRA.out] at he
      obtain ⟨j3, n3, m3, ks3, v3, hRA3, rfl, hr3, hm3⟩ | ⟨c3, q3, hRA3, rfl, hb3⟩ := aout_case he
      · have G3 : Hid (GS (Below w0.heap.size w0) w0.heap.size g M ts E w v w3 j3 v3 m3 nodZ) := G2.out.call hr3 hm3
        have HB6 := HB5.out
        rw [hRA3] at HB6
        simp only at HB6
        have HB7 : Hid (_) := HB6
        clear he hRA3 hr3 hm3 HB6 HB5 G2 G1 HFM r0 r1 r2 r3 r4 hlk hcf HRA
        obtain ⟨nd, hnd⟩ : ∃ nd, withKids n3 ks3 = nd := ⟨_, rfl⟩
        rw [hnd] at HB7 ⊢
        clear hnd
        obtain ⟨y0, y1, y2, y3, y4, y5, y6⟩ := nd
        unfold nodAgg
        have hv3 : ∀ k, v3.ownBlock = some k → k < w3.heap.size := fun k hk => (G3.out.rs.own.lt k hk).2
        have HV3 : Hid (∀ k, v3.ownBlock = some k → k < w3.heap.size) := hv3
        have hR3 := G3.out.rs.lt
        have G4 : Hid (GS (Below w0.heap.size w0) w0.heap.size g M ts E w v (w3.alloc (.cells #[.int .i64 y0, .int .i64 y1, .int .i64 y2, .int .i64 y3, .int .i64 y4, .string y5, .string y6] 55)) j3 v3 m3 nodZ) := G3.out.alloc HT.out _
        clear hv3
        by_cases hj : j3 < ts.length
        · have HTK : Hid (Calls Tryd.prog 79 #[.pointer (some ⟨w0.heap.size, 0, none⟩)] (w3.alloc (.cells #[.int .i64 y0, .int .i64 y1, .int .i64 y2, .int .i64 y3, .int .i64 y4, .string y5, .string y6] 55)) fun e w' => e = .returned (tokA (ts.getD j3 noTok)) ∧ RS (Below w0.heap.size w0) w0.heap.size g M ts E w' (j3 + 1) v3 m3 ∧ Moved w0.heap.size (w3.alloc (.cells #[.int .i64 y0, .int .i64 y1, .int .i64 y2, .int .i64 y3, .int .i64 y4, .string y5, .string y6] 55)) w' v3 v3) := rd_take HT.out G4.out.rs hj HC.out
          have HB8 := HB7.out
          rw [takeE, if_pos hj] at HB8
          generalize ts.getD j3 noTok = tk at *
          obtain ⟨kd5, tx5, tn5, tp5⟩ := tk
          simp only at HB8
          have HB9 : Hid (_) := HB8
          clear HB8 HB7
          go_wp2_with fail
          refine HTK.out.mono ?_
          rintro e w5 ⟨rfl, hr5, hm5⟩
          have G5a : Hid (GS (Below w0.heap.size w0) w0.heap.size g M ts E w v w5 (j3 + 1) v3 m3 nodZ) := G4.out.call hr5 hm5
          have G5 : Hid (GS (Below w0.heap.size w0) w0.heap.size g M ts E w v (w5.alloc (.cells #[.int .i64 kd5, .string tx5, .int .i64 tn5, .int .i64 tp5] 52)) (j3 + 1) v3 m3 nodZ) := (G4.out.call hr5 hm5).alloc HT.out _
          have hn5 : w5.heap[w3.heap.size]? = some (.cells #[.int .i64 y0, .int .i64 y1, .int .i64 y2, .int .i64 y3, .int .i64 y4, .string y5, .string y6] 55 (0, 0)) := (hm5.block w3.heap.size (by simp) (by omega) (fun e => by have := HV3.out _ e.symm; omega)).trans (heap_alloc_new w3 _)
          have z5 : w3.heap.size < w5.heap.size := (Array.getElem?_eq_some_iff.1 hn5).1
          obtain ⟨n0, n1, n2, n3', n4, n5, n6, n7⟩ := node_cells hn5
          have zq := (G4.out.call hr5 hm5).size
          obtain ⟨q0, q1, q2, q3, q4, q5, q6, q7⟩ := node_cells (G4.out.call hr5 hm5).qq
          clear hr5 hm5 hn5 HTK G4 G3
          by_cases hk5 : kd5 = 2
          · have HE : Hid (RB = .ok (j3 + 1, ⟨y0, y1, y2, y3, y4, y5, y6⟩, m3)) := by
              have h := HB9.out
              rw [if_pos hk5] at h
              exact h.symm
            clear HB9
            subst hk5
            go_wp2
            have hfin := (G5a.out.fin HT.out (.int .i64 y0) (.int .i64 y1) (.int .i64 y2) (.int .i64 y3) (.int .i64 y4) (.string y5) (.string y6)).alloc HT.out (.cells #[.int .i64 2, .string tx5, .int .i64 tn5, .int .i64 tp5] 52)
            refine bodyPost_ret (results_cell_row rfl _ _ w.heap.size 55 #[.int .i64 y0, .int .i64 y1, .int .i64 y2, .int .i64 y3, .int .i64 y4, .string y5, .string y6] (0, 0) _ rfl hfin.qq Tryd.underlying55 rfl (by kernel_rfl)) rfl ?_
            rw [HE.out]
            exact ⟨rfl, _, hfin.rs, hfin.mv⟩
          · have HE : Hid (RB = .error (3, tp5)) := by
              have h := HB9.out
              rw [if_neg hk5] at h
              exact h.symm
            have HBL : Hid (Below w0.heap.size w (w5.alloc (.cells #[.int .i64 kd5, .string tx5, .int .i64 tn5, .int .i64 tp5] 52))) := G5.out.low HV.out
            clear HB9
            go_wp2
            exact ⟨rfl, by rw [HE.out]; exact ⟨rfl, HBL.out⟩⟩
        · have HTK : Hid (Calls Tryd.prog 79 #[.pointer (some ⟨w0.heap.size, 0, none⟩)] (w3.alloc (.cells #[.int .i64 y0, .int .i64 y1, .int .i64 y2, .int .i64 y3, .int .i64 y4, .string y5, .string y6] 55)) fun e w' => e = .panicked [fltV 2 E] ∧ Below (w3.alloc (.cells #[.int .i64 y0, .int .i64 y1, .int .i64 y2, .int .i64 y3, .int .i64 y4, .string y5, .string y6] 55)).heap.size (w3.alloc (.cells #[.int .i64 y0, .int .i64 y1, .int .i64 y2, .int .i64 y3, .int .i64 y4, .string y5, .string y6] 55)) w') := rd_take_end G4.out.rs hj
          have HE : Hid (RB = .error (2, E)) := by
            have h := HB7.out
            rw [takeE, if_neg hj] at h
            exact h.symm
          clear HB7
          go_wp2_with fail
          refine HTK.out.mono ?_
          rintro e w5 ⟨rfl, hb5⟩
          have HBL : Hid (Below w0.heap.size w w5) := (G4.out.low HV.out).trans (hb5.mono (by simp; omega))
          clear hb5 HTK
          go_wp2
          exact ⟨rfl, by rw [HE.out]; exact ⟨rfl, HBL.out⟩⟩
      · have HE : Hid (RB = .error (c3, q3)) := by
          have h := HB5.out
          rw [hRA3] at h
          exact h.symm
        have HBL : Hid (Below w0.heap.size w w3) := (G2.out.low HV.out).trans hb3
        clear he hRA3 hb3 HB5 HFM G1 G2 HRA r0 r1 r2 r3 r4 hlk hcf
        go_wp2
        exact ⟨rfl, by rw [HE.out]; exact ⟨rfl, HBL.out⟩⟩
  · have HTK : Hid (Calls Tryd.prog 79 #[.pointer (some ⟨w0.heap.size, 0, none⟩)] (w.alloc (.cells nodZ 55)) fun e w' => e = .panicked [fltV 2 E] ∧ Below (w.alloc (.cells nodZ 55)).heap.size (w.alloc (.cells nodZ 55)) w') := rd_take_end G0.out.rs hi
    have HE : Hid (RB = .error (2, E)) := by
      have h := HRB.out
      rw [brE, takeE, if_neg hi] at h
      exact h.symm
    clear HRB
    go_enter Tryd.func89, Tryd.ntmps89
    go_wp2_with fail
    refine HTK.out.mono ?_
    rintro e w1 ⟨rfl, hb1⟩
    have HBL : Hid (Below w0.heap.size w w1) := (G0.out.low HV.out).trans (hb1.mono (by simp; omega))
    clear hb1 HTK
    go_wp2
    exact ⟨rfl, by rw [HE.out]; exact ⟨rfl, HBL.out⟩⟩
end Go.Proofs.YtncoooimgeoihaaDoor
