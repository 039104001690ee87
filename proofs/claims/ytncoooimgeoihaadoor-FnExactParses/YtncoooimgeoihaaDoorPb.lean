/-
  What stands in memory while the specification reads a form. Conditions: written at each theorem.
-/
import Derived.Test.YtncoooimgeoihaaDoorPy
namespace Go.Proofs.YtncoooimgeoihaaDoor
open Go.ChangeShapes Go.WideShapes Go.ChangeAt Go.RowKit
set_option linter.unusedVariables false

theorem ld_put5 {w : World} {g : Nat} {x0 x1 x2 x3 x4 : Value} {t : TypeId} (h : w.heap[g]? = some (.cells #[x0, x1, x2, x3, x4] t (0, 0))) (a : Option Addr) (n cap : Nat) (i c q E : Int) :
    (putQ w g a n cap i c q E).heap[g]? = some (.cells (stR a n cap i c q E) t (0, 0)) := put5 h _ _ _ _ _

set_option maxRecDepth 20000 in
/-- Behind a fault nothing is taken. -/
theorem spec_take_off (a : Option Addr) (n cap : Nat) (i c q E k : Int) (hc : ¬ c = 0) (w : World) :
    Calls Tryd.prog 48 #[stV a n cap i c q E, .int .i64 k] w fun e w' => e = .returned (.tuple #[stV a n cap i c q E, tokV noTok]) ∧ Below w.heap.size w w' := by
  go_enter Tryd.func48, Tryd.ntmps48
  go_wp2
  exact bodyPost_ret (results_rows2 rfl _ _ (w.heap.size + 1) (w.heap.size + 1 + 1) _ _ rfl (ld_st (alloc3_1 w _ _ _)) rfl (ld_tok (alloc3_2 w _ _ _))) rfl ⟨rfl, below3 w _ _ _⟩

/-- A slice of the call's own holds these numbers. -/
abbrev ownK (w : World) (base : Nat) (v : Value) (st : List Int) : Prop := w.ownsRow base 3 1 v st.length (st.map (Value.int .i64))

theorem info_num : (Tryd.prog.info? 3).map (fun i => (i.zero, i.size, i.bytes)) = some (some (.int .i64 0), 1, 8) := by kernel_rfl

theorem ownK_next {w : World} {B : Nat} {v : Value} {st : List Int} {m : Nat} {xs : List Value} (x : Int) (h : w.ownsRow B 3 1 v m xs) (hn : m = st.length + 1) (hx : xs = st.map (Value.int .i64) ++ [.int .i64 x]) : ownK w B v (st ++ [x]) := by
  subst hn hx
  show w.ownsRow B 3 1 v (st ++ [x]).length ((st ++ [x]).map (Value.int .i64))
  rw [List.length_append, List.map_append]
  simpa using h

theorem ownK_form {w : World} {B : Nat} {v : Value} {st : List Int} (h : ownK w B v st) : ∃ (a : Option Addr) (cap : Nat), v = .slice a st.length cap := by
  rcases h.2 with ⟨rfl, hz⟩ | ⟨g, cap, cur, rfl, _⟩
  · exact ⟨none, 0, by rw [hz]⟩
  · exact ⟨_, _, rfl⟩

theorem ownK_cells {w : World} {B : Nat} {v : Value} {st : List Int} (h : ownK w B v st) (h0 : 0 < st.length) : ∃ (g cap : Nat), v = .slice (some ⟨g, 0, none⟩) st.length cap ∧ ∀ k, k < st.length → w.cell? ⟨g, k, none⟩ = some (.int .i64 (st.getD k 0)) := by
  rcases h.2 with ⟨rfl, hz⟩ | ⟨g, cap, cur, rfl, hrest⟩
  · omega
  · refine ⟨g, cap, rfl, fun k hk => ?_⟩
    rw [h.cellAt k (by omega), List.getElem?_map]
    simp [List.getD, List.getElem?_eq_getElem hk]

/-- Since w: beside the state and the result's place, N holds the node, kv the kids. -/
structure XF (w : World) (v : Value) (B : Nat) (a : Option Addr) (n cap : Nat) (E : Int) (W : World) (vx : Value) (L : List Nod) (i c q : Int) (N : Nat) (nod : Nod) (kv : Value) (ks : List Int) : Prop where
  xs : XS w v B a n cap E W vx L i c q
  nd : W.heap[N]? = some (.cells (nodCells nod).toArray 55 (0, 0))
  kid : ownK W (N + 1) kv ks
  wn : w.heap.size + 1 < N
  farN : ∀ k, vx.ownBlock = some k → k ≠ N
  farK : ∀ k, kv.ownBlock = some k → vx.ownBlock ≠ some k

section
variable {w W W' : World} {v vx kv : Value} {B N : Nat} {a : Option Addr} {n cap : Nat} {E : Int} {L : List Nod} {i c q : Int} {nod : Nod} {ks : List Int}

theorem XF.lt (h : XF w v B a n cap E W vx L i c q N nod kv ks) : N < W.heap.size := (Array.getElem?_eq_some_iff.1 h.nd).1

theorem ownK_kept (h : ownK W B kv ks) (hb : Below W.heap.size W W') : ownK W' B kv ks :=
  h.kept (row := none) ⟨hb.os, hb.tape, hb.output, hb.size, fun k hk _ => hb.block k hk⟩ (by cases hv : kv.ownBlock <;> simp)

theorem XF.start (h : XS w v B a n cap E W vx L i c q) (hl : ∀ k, vx.ownBlock = some k → k < W.heap.size) :
    XF w v B a n cap E ((W.alloc (.cells (nodCells nod).toArray 55)).alloc (.cells #[] 3)) vx L i c q W.heap.size nod (.slice (some ⟨W.heap.size + 1, 0, none⟩) 0 0) [] := by
  have hx := (h.alloc (.cells (nodCells nod).toArray 55)).alloc (.cells #[] 3)
  refine ⟨hx, heap_alloc2_old W _ _, ?_, h.size, fun k hk => by have := hl k hk; omega, fun k hk e => ?_⟩
  · have := World.ownsRow_lit (base := W.heap.size + 1) (e := 3) (size := 1) (W.alloc (.cells (nodCells nod).toArray 55)) #[] 0 (by simp) (by omega) rfl
    simp at this
    exact this
  · simp [Value.ownBlock] at hk
    have := hl k e
    omega

theorem XF.below (h : XF w v B a n cap E W vx L i c q N nod kv ks) (hb : Below W.heap.size W W') : XF w v B a n cap E W' vx L i c q N nod kv ks :=
  ⟨h.xs.below hb, (hb.block _ h.lt).trans h.nd, ownK_kept h.kid hb, h.wn, h.farN, h.farK⟩

theorem XF.alloc (h : XF w v B a n cap E W vx L i c q N nod kv ks) (o : Obj) : XF w v B a n cap E (W.alloc o) vx L i c q N nod kv ks := h.below ((Below.refl _ W).alloc (Nat.le_refl _) o)
theorem XF.drew (h : XF w v B a n cap E W vx L i c q N nod kv ks) : XF w v B a n cap E W.drew vx L i c q N nod kv ks := h.below ((Below.refl _ W).drew)

theorem XF.kidFar (h : XF w v B a n cap E W vx L i c q N nod kv ks) : ∀ k, kv.ownBlock = some k → N < k := fun k hk => by have := (h.kid.lt k hk).1; omega

theorem XF.setP (h : XF w v B a n cap E W vx L i c q N nod kv ks) (i' c' q' : Int) : XF w v B a n cap E (putQ W w.heap.size a n cap i' c' q' E) vx L i' c' q' N nod kv ks := by
  refine ⟨h.xs.setP i' c' q', (heap_putQ_other W _ _ _ _ _ _ _ _ N (by have := h.wn; omega)).trans h.nd, ?_, h.wn, h.farN, h.farK⟩
  have hf : ∀ j, kv.ownBlock ≠ some (⟨w.heap.size, j, none⟩ : Addr).block := fun j e => by have := h.kidFar _ e; have := h.wn; simp at *; omega
  exact ownsRow_setCell_other (ownsRow_setCell_other (ownsRow_setCell_other (ownsRow_setCell_other (ownsRow_setCell_other h.kid (hf 0) _) (hf 1) _) (hf 2) _) (hf 3) _) (hf 4) _

theorem XF.setN (h : XF w v B a n cap E W vx L i c q N nod kv ks) {nod' : Nod} (j : Nat) (y : Value) (hn : ((nodCells nod).toArray).setIfInBounds j y = (nodCells nod').toArray) : XF w v B a n cap E (W.setCell ⟨N, j, none⟩ y) vx L i c q N nod' kv ks := by
  have hs := heap_setCell_same W N j _ _ y h.nd
  rw [hn] at hs
  have hoth : ∀ k, k ≠ N → (W.setCell ⟨N, j, none⟩ y).heap[k]? = W.heap[k]? := fun k hk => heap_setCell_other W ⟨N, j, none⟩ k y hk
  have hw := h.wn
  refine ⟨h.xs.turned ((Below.refl _ W).setCell (p := ⟨N, j, none⟩) (by show w.heap.size ≤ N; omega) y) (ownsRow_setCell_other h.xs.own (fun e => h.farN N e rfl) y) ((hoth _ (by omega)).trans h.xs.pp) ((hoth _ (by omega)).trans h.xs.qq), hs, ownsRow_setCell_other h.kid (fun e => by have := h.kidFar N e; omega) y, h.wn, h.farN, h.farK⟩

/-- The nodes have grown by a call. -/
theorem XF.grow (h : XF w v B a n cap E W vx L i c q N nod kv ks) {v' : Value} {L' : List Nod} (ho : ownNod W' B v' L') (hg : Grew W W' vx v') : XF w v B a n cap E W' v' L' i c q N nod kv ks := by
  have hs := h.xs.size
  have hN := h.lt
  have new : ∀ k, v'.ownBlock = some k → W.heap.size ≤ k ∨ vx.ownBlock = some k := hg.2
  refine ⟨⟨h.xs.grew.trans hg, ho, (hg.1.block _ (by omega) (fun e => (h.xs.far _ e.symm).1 rfl)).trans h.xs.pp, (hg.1.block _ hs (fun e => (h.xs.far _ e.symm).2 rfl)).trans h.xs.qq, fun k hk => ?_, h.xs.low⟩, (hg.1.block _ hN (fun e => h.farN _ e.symm rfl)).trans h.nd, ?_, h.wn, fun k hk => ?_, fun k hk e => ?_⟩
  · rcases new k hk with h1 | h1
    · omega
    · exact h.xs.far k h1
  · refine h.kid.kept hg.1 ?_
    cases hv : kv.ownBlock with
    | none => exact .inl rfl
    | some k => exact .inr (fun e => h.farK k hv e.symm)
  · rcases new k hk with h1 | h1
    · omega
    · exact h.farN k h1
  · have hk' := (h.kid.lt k hk).2
    rcases new k e with h1 | h1
    · omega
    · exact h.farK k hk h1

/-- A kid is put behind the others. -/
theorem XF.more (h : XF w v B a n cap E W vx L i c q N nod kv ks) {kv' : Value} {m : Nat} {xs : List Value} {o : Obj} (x : Int) (ho : W'.ownsRow (N + 1) 3 1 kv' m xs) (hm : m = ks.length + 1) (hx : xs = ks.map (Value.int .i64) ++ [.int .i64 x]) (hg : Grew (W.alloc o) W' kv kv') :
    XF w v B a n cap E W' vx L i c q N nod kv' (ks ++ [x]) := by
  have h' := h.alloc o
  have hs := h'.xs.size
  have hN := h'.lt
  have hw := h'.wn
  have hf : ∀ k, k ≤ N → some k ≠ kv.ownBlock := fun k hk e => by have := h'.kidFar k e.symm; omega
  have hlow : Below w.heap.size (W.alloc o) W' := ⟨hg.1.os, hg.1.tape, hg.1.output, hg.1.size, fun k hk => hg.1.block k (by omega) (hf k (by omega))⟩
  have hown : ownNod W' B vx L := by
    refine h'.xs.own.kept hg.1 ?_
    cases hv : vx.ownBlock with
    | none => exact .inl rfl
    | some k => exact .inr (fun e => h'.farK k e.symm hv)
  refine ⟨h'.xs.turned hlow hown ((hg.1.block _ (by omega) (hf _ (by omega))).trans h'.xs.pp) ((hg.1.block _ hs (hf _ (by omega))).trans h'.xs.qq), (hg.1.block _ hN (hf _ (Nat.le_refl _))).trans h'.nd, ownK_next x ho hm hx, h.wn, h.farN, fun k hk e => ?_⟩
  rcases hg.2 k hk with h1 | h1
  · have := (h'.xs.own.lt k e).2
    omega
  · exact h'.farK k h1 e

/-- The cells of the node. -/
theorem XF.cells (h : XF w v B a n cap E W vx L i c q N nod kv ks) :
    W.cell? ⟨N, 0, none⟩ = some (.int .i64 nod.kind) ∧ W.cell? ⟨N, 1, none⟩ = some (.int .i64 nod.a) ∧ W.cell? ⟨N, 2, none⟩ = some (.int .i64 nod.b) ∧ W.cell? ⟨N, 3, none⟩ = some (.int .i64 nod.c) ∧ W.cell? ⟨N, 4, none⟩ = some (.int .i64 nod.n) ∧ W.cell? ⟨N, 5, none⟩ = some (.string nod.name) ∧ W.cell? ⟨N, 6, none⟩ = some (.string nod.other) ∧ ∀ j, W.frozen? ⟨N, j, none⟩ = false := by
  refine ⟨?_, ?_, ?_, ?_, ?_, ?_, ?_, fun j => frozen_of_row W N j _ _ h.nd⟩ <;> rw [cell_of_row _ _ _ _ _ _ h.nd] <;> rfl

/-- Tokens that lie elsewhere stay. -/
theorem XS.toks {g : Nat} {ts : List Tok} (h : XS w v B a n cap E W vx L i c q) (hT : TokAt w g ts) (hgv : v.ownBlock ≠ some g) : TokAt W g ts := fun j hj => by
  have hlt := cell_lt' (hT j hj).c0
  have hb : W.heap[g]? = w.heap[g]? := h.grew.1.block g hlt (fun e => hgv e.symm)
  exact ⟨(World.cell?_of_block hb).trans (hT j hj).c0, (World.cell?_of_block hb).trans (hT j hj).c1, (World.cell?_of_block hb).trans (hT j hj).c2, (World.cell?_of_block hb).trans (hT j hj).c3⟩
end

/-- How many kids a form has: three at most. -/
def nExpr (cs : List UInt8) : Nat := (cs.filter (· ≠ 110)).length

theorem argsE_kids {ts : List Tok} {E : Int} {rec : Nat → List Nod → Except Flt (Nat × List Nod)} : ∀ (cs : List UInt8) (i : Nat) (n : Nod) (l : List Nod) (ks : List Int) (j : Nat) (n' : Nod) (m : List Nod) (ks' : List Int),
    argsE ts E rec cs i n l ks = .ok (j, n', m, ks') → ks'.length = ks.length + nExpr cs
  | [], i, n, l, ks, j, n', m, ks', h => by
    simp only [argsE, Except.ok.injEq, Prod.mk.injEq] at h
    obtain ⟨rfl, rfl, rfl, rfl⟩ := h
    simp [nExpr]
  | c :: cs, i, n, l, ks, j, n', m, ks', h => by
    rw [argsE] at h
    split at h
    · rename_i hc
      split at h
      · have ih := argsE_kids cs _ _ _ _ _ _ _ _ h
        rw [ih]
        simp [nExpr, hc]
      · cases h
    · rename_i hc
      split at h
      · have ih := argsE_kids cs _ _ _ _ _ _ _ _ h
        rw [ih]
        simp [nExpr, hc]
        omega
      · cases h

theorem ite_kids {c : Prop} [Decidable c] {x y : Int × Int × ByteArray} (hx : nExpr x.2.2.data.toList ≤ 3) (hy : nExpr y.2.2.data.toList ≤ 3) : nExpr (if c then x else y).2.2.data.toList ≤ 3 := by
  split <;> assumption

theorem formE_kids (key : ByteArray) : nExpr (formE key).2.2.data.toList ≤ 3 := by
  unfold formE
  repeat' first | decide | refine ite_kids ?_ ?_

theorem argsE_bad {ts : List Tok} {E : Int} {i0 : Nat} {rec : Nat → List Nod → Except Flt (Nat × List Nod)} (hf : Fair ts rec) (hr : ∀ i l e, i0 ≤ i → rec i l = .error e → e.1 = 2 ∨ e.1 = 3) : ∀ (cs : List UInt8) (i : Nat) (n : Nod) (l : List Nod) (ks : List Int) (e : Flt), i0 ≤ i →
    argsE ts E rec cs i n l ks = .error e → e.1 = 2 ∨ e.1 = 3
  | [], i, n, l, ks, e, hi, h => by simp [argsE] at h
  | c :: cs, i, n, l, ks, e, hi, h => by
    rw [argsE] at h
    split at h
    · split at h
      · rename_i j s hs
        obtain ⟨e1, _⟩ := nameE_ok hs
        exact argsE_bad hf hr cs _ _ _ _ _ (by omega) h
      · rename_i e' he
        simp only [Except.error.injEq] at h
        subst h
        exact nameE_bad he
    · split at h
      · rename_i j m hs
        obtain ⟨e1, _⟩ := hf _ _ _ _ hs
        exact argsE_bad hf hr cs _ _ _ _ _ (by omega) h
      · rename_i e' he
        simp only [Except.error.injEq] at h
        subst h
        exact hr _ _ _ hi he

theorem exprE_bad (ts : List Tok) (E : Int) : ∀ (f i : Nat) (l : List Nod) (e : Flt), ts.length + 1 ≤ i + f → i ≤ ts.length → exprE ts E f i l = .error e → e.1 = 2 ∨ e.1 = 3
  | 0, i, l, e, hf, hi, h => by omega
  | f + 1, i, l, e, hf, hi, h => by
    rw [exprE] at h
    split at h
    · rename_i hlt
      split at h
      · cases h
      · split at h
        · split at h
          · cases h
          · split at h
            · cases h
            · rename_i e' he
              simp only [Except.error.injEq] at h
              subst h
              exact nameE_bad he
        · split at h
          · simp only [Except.error.injEq] at h
            subst h
            exact Or.inr rfl
          · split at h
            · rename_i e' he
              simp only [Except.error.injEq] at h
              subst h
              exact takeE_bad he
            · rename_i j key hk
              obtain ⟨k1, k2, _, _⟩ := takeE_ok hk
              split at h
              · simp only [Except.error.injEq] at h
                subst h
                exact Or.inr rfl
              · split at h
                · rename_i e' he
                  simp only [Except.error.injEq] at h
                  subst h
                  refine argsE_bad (i0 := j) (exprE_fair ts E f) (fun i' l' e2 h1 h2 => ?_) _ _ _ _ _ _ (Nat.le_refl _) he
                  rcases Nat.lt_or_ge ts.length i' with hgt | hle
                  · rcases f with _ | f
                    · omega
                    · rw [exprE, if_neg (by omega)] at h2
                      simp only [Except.error.injEq] at h2
                      subst h2
                      exact Or.inl rfl
                  · exact exprE_bad ts E f i' l' e2 (by omega) hle h2
                · split at h
                  · rename_i e' he
                    simp only [Except.error.injEq] at h
                    subst h
                    exact takeE_bad he
                  · cases h
    · simp only [Except.error.injEq] at h
      subst h
      exact Or.inl rfl
end Go.Proofs.YtncoooimgeoihaaDoor
