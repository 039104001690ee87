/-
  What stands in memory while the specification reads an expression. Conditions: written at each theorem.
-/
import Derived.Test.YtncoooimgeoihaaDoorPg
namespace Go.Proofs.YtncoooimgeoihaaDoor
open Go.ChangeShapes Go.WideShapes Go.ChangeAt Go.RowKit
set_option linter.unusedVariables false

theorem heap_new_at {w : World} {o : Obj} {N : Nat} (h : w.heap.size = N) : (w.alloc o).heap[N]? = some o := by
  subst h
  exact heap_alloc_new w o

theorem nod_at {w : World} {N : Nat} {x0 x1 x2 x3 x4 : Int} {x5 x6 : ByteArray} {e : TypeId} {z : Nat × Nat} (h : w.heap[N]? = some (.cells #[.int .i64 x0, .int .i64 x1, .int .i64 x2, .int .i64 x3, .int .i64 x4, .string x5, .string x6] e z)) :
    ∀ j u, (nodCells ⟨x0, x1, x2, x3, x4, x5, x6⟩)[j]? = some u → w.cell? ((⟨N, 0, none⟩ : Addr).add j) = some u := by
  intro j u hj
  have hl : j < 7 := by
    rcases Nat.lt_or_ge j 7 with h | h
    · exact h
    · rw [List.getElem?_eq_none (by simpa [nodCells] using h)] at hj; cases hj
  rw [add_plain, cell_of_row _ _ _ _ _ _ h]
  rcases (by omega : j = 0 ∨ j = 1 ∨ j = 2 ∨ j = 3 ∨ j = 4 ∨ j = 5 ∨ j = 6) with rfl | rfl | rfl | rfl | rfl | rfl | rfl <;> exact hj

/-- The row of a state. -/
abbrev stR (a : Option Addr) (n cap : Nat) (i c q E : Int) : Array Value := #[.slice a n cap, .int .i64 i, .int .i64 c, .int .i64 q, .int .i64 E]

/-- Since w: P holds the state, Q the place of the result; the nodes so far are the call's own. -/
structure XS (w : World) (v : Value) (B : Nat) (a : Option Addr) (n cap : Nat) (E : Int) (W : World) (vx : Value) (L : List Nod) (i c q : Int) : Prop where
  grew : Grew w W v vx
  own : ownNod W B vx L
  pp : W.heap[w.heap.size]? = some (.cells (stR a n cap i c q E) 47 (0, 0))
  qq : W.heap[w.heap.size + 1]? = some (.cells (stR none 0 0 0 0 0 0) 47 (0, 0))
  far : ∀ k, vx.ownBlock = some k → k ≠ w.heap.size ∧ k ≠ w.heap.size + 1
  low : ∀ k, v.ownBlock = some k → k < w.heap.size

section
variable {w W W' : World} {v vx : Value} {B : Nat} {a : Option Addr} {n cap : Nat} {E : Int} {L : List Nod} {i c q : Int}

theorem XS.size (h : XS w v B a n cap E W vx L i c q) : w.heap.size + 1 < W.heap.size := (Array.getElem?_eq_some_iff.1 h.qq).1

theorem XS.start (hown : ownNod w B v L) : XS w v B a n cap E ((w.alloc (.cells (stR a n cap i c q E) 47)).alloc (.cells (stR none 0 0 0 0 0 0) 47)) v L i c q := by
  have hb : Below w.heap.size w ((w.alloc (.cells (stR a n cap i c q E) 47)).alloc (.cells (stR none 0 0 0 0 0 0) 47)) := ((Below.refl _ w).alloc (Nat.le_refl _) _).alloc (by simp) _
  have hlt : ∀ k, v.ownBlock = some k → k < w.heap.size := fun k hk => (hown.lt k hk).2
  exact ⟨Grew.of_below hb, ownNod_kept hown hb (Nat.le_refl _), heap_alloc2_old w _ _, heap_alloc2_new w _ _, fun k hk => by have := hlt k hk; omega, hlt⟩

theorem XS.below (h : XS w v B a n cap E W vx L i c q) (hb : Below W.heap.size W W') : XS w v B a n cap E W' vx L i c q :=
  ⟨h.grew.step (hb.mono (by have := h.size; omega)) h.low, ownNod_kept h.own hb (Nat.le_refl _), (hb.block _ (by have := h.size; omega)).trans h.pp, (hb.block _ h.size).trans h.qq, h.far, h.low⟩

theorem XS.alloc (h : XS w v B a n cap E W vx L i c q) (o : Obj) : XS w v B a n cap E (W.alloc o) vx L i c q := h.below ((Below.refl _ W).alloc (Nat.le_refl _) o)
theorem XS.drew (h : XS w v B a n cap E W vx L i c q) : XS w v B a n cap E W.drew vx L i c q := h.below ((Below.refl _ W).drew)

/-- What lies in the call's own blocks, the nodes' aside, is turned. -/
theorem XS.turned (h : XS w v B a n cap E W vx L i c q) {i' c' q' : Int} (hb : Below w.heap.size W W') (ho : ownNod W' B vx L) (hp : W'.heap[w.heap.size]? = some (.cells (stR a n cap i' c' q' E) 47 (0, 0))) (hq : W'.heap[w.heap.size + 1]? = some (.cells (stR none 0 0 0 0 0 0) 47 (0, 0))) :
    XS w v B a n cap E W' vx L i' c' q' := ⟨h.grew.step hb h.low, ho, hp, hq, h.far, h.low⟩

theorem XS.setI (h : XS w v B a n cap E W vx L i c q) (i' : Int) : XS w v B a n cap E (W.setCell ⟨w.heap.size, 1, none⟩ (.int .i64 i')) vx L i' c q :=
  h.turned ((Below.refl _ W).setCell (p := ⟨w.heap.size, 1, none⟩) (Nat.le_refl _) _) (ownsRow_setCell_other h.own (fun e => (h.far _ e).1 rfl) _) (heap_setCell_same W _ 1 _ _ _ h.pp) ((heap_setCell_other W ⟨w.heap.size, 1, none⟩ _ _ (by show w.heap.size + 1 ≠ w.heap.size; omega)).trans h.qq)

/-- The whole state is written. -/
theorem XS.setP (h : XS w v B a n cap E W vx L i c q) (i' c' q' : Int) :
    XS w v B a n cap E (((((W.setCell ⟨w.heap.size, 0, none⟩ (.slice a n cap)).setCell ⟨w.heap.size, 1, none⟩ (.int .i64 i')).setCell ⟨w.heap.size, 2, none⟩ (.int .i64 c')).setCell ⟨w.heap.size, 3, none⟩ (.int .i64 q')).setCell ⟨w.heap.size, 4, none⟩ (.int .i64 E)) vx L i' c' q' := by
  have o : ∀ (X : World) (j : Nat) (y : Value), ownNod X B vx L → ownNod (X.setCell ⟨w.heap.size, j, none⟩ y) B vx L := fun X j y ho => ownsRow_setCell_other ho (fun e => (h.far _ e).1 rfl) y
  have z : ∀ (X : World) (j : Nat) (y : Value) (r : Option Obj), X.heap[w.heap.size + 1]? = r → (X.setCell ⟨w.heap.size, j, none⟩ y).heap[w.heap.size + 1]? = r := fun X j y r hr => (heap_setCell_other X ⟨w.heap.size, j, none⟩ _ _ (by show w.heap.size + 1 ≠ w.heap.size; omega)).trans hr
  exact h.turned (below_put5 (Below.refl _ W) (Nat.le_refl _) _ _ _ _ _) (o _ _ _ (o _ _ _ (o _ _ _ (o _ _ _ (o _ _ _ h.own))))) (put5 h.pp _ _ _ _ _) (z _ _ _ _ (z _ _ _ _ (z _ _ _ _ (z _ _ _ _ (z _ _ _ _ h.qq)))))

/-- The cells of the state and of the result's place. -/
theorem XS.cells (h : XS w v B a n cap E W vx L i c q) :
    (W.cell? ⟨w.heap.size, 0, none⟩ = some (.slice a n cap) ∧ W.cell? ⟨w.heap.size, 1, none⟩ = some (.int .i64 i) ∧ W.cell? ⟨w.heap.size, 2, none⟩ = some (.int .i64 c) ∧ W.cell? ⟨w.heap.size, 3, none⟩ = some (.int .i64 q) ∧ W.cell? ⟨w.heap.size, 4, none⟩ = some (.int .i64 E) ∧ ∀ j, W.frozen? ⟨w.heap.size, j, none⟩ = false) ∧
    (W.cell? ⟨w.heap.size + 1, 0, none⟩ = some (.slice none 0 0) ∧ W.cell? ⟨w.heap.size + 1, 1, none⟩ = some (.int .i64 0) ∧ W.cell? ⟨w.heap.size + 1, 2, none⟩ = some (.int .i64 0) ∧ W.cell? ⟨w.heap.size + 1, 3, none⟩ = some (.int .i64 0) ∧ W.cell? ⟨w.heap.size + 1, 4, none⟩ = some (.int .i64 0) ∧ ∀ j, W.frozen? ⟨w.heap.size + 1, j, none⟩ = false) := ⟨st_row h.pp, st_row h.qq⟩

/-- The result's place is written. -/
abbrev putQ (W : World) (g : Nat) (a : Option Addr) (n cap : Nat) (i c q E : Int) : World := (((((W.setCell ⟨g, 0, none⟩ (.slice a n cap)).setCell ⟨g, 1, none⟩ (.int .i64 i)).setCell ⟨g, 2, none⟩ (.int .i64 c)).setCell ⟨g, 3, none⟩ (.int .i64 q)).setCell ⟨g, 4, none⟩ (.int .i64 E))

theorem own_putQ {W : World} {g : Nat} (h : ownNod W B vx L) (hf : vx.ownBlock ≠ some g) (a : Option Addr) (n cap : Nat) (i c q E : Int) : ownNod (putQ W g a n cap i c q E) B vx L :=
  ownsRow_setCell_other (ownsRow_setCell_other (ownsRow_setCell_other (ownsRow_setCell_other (ownsRow_setCell_other h (a := ⟨g, 0, none⟩) hf _) (a := ⟨g, 1, none⟩) hf _) (a := ⟨g, 2, none⟩) hf _) (a := ⟨g, 3, none⟩) hf _) (a := ⟨g, 4, none⟩) hf _

theorem heap_putQ_other (W : World) (g : Nat) (a : Option Addr) (n cap : Nat) (i c q E : Int) (k : Nat) (hk : k ≠ g) : (putQ W g a n cap i c q E).heap[k]? = W.heap[k]? := by
  unfold putQ
  rw [heap_setCell_other _ _ _ _ (by exact hk), heap_setCell_other _ _ _ _ (by exact hk), heap_setCell_other _ _ _ _ (by exact hk), heap_setCell_other _ _ _ _ (by exact hk), heap_setCell_other _ _ _ _ (by exact hk)]

theorem size_putQ (W : World) (g : Nat) (a : Option Addr) (n cap : Nat) (i c q E : Int) : (putQ W g a n cap i c q E).heap.size = W.heap.size := by simp [putQ, World.setCell]

/-- The state is handed back as it stands, with the nodes so far. -/
theorem XS.back (h : XS w v B a n cap E W vx L i c q) (i' c' q' : Int) :
    (loadVar 47 ⟨w.heap.size + 1, 0, none⟩).run Tryd.prog (putQ W (w.heap.size + 1) a n cap i' c' q' E) = .ok (stV a n cap i' c' q' E) (putQ W (w.heap.size + 1) a n cap i' c' q' E) ∧
    ownNod (putQ W (w.heap.size + 1) a n cap i' c' q' E) B vx L ∧ Grew w (putQ W (w.heap.size + 1) a n cap i' c' q' E) v vx :=
  ⟨st_put h.qq a n cap i' c' q' E, own_putQ h.own (fun e => (h.far _ e).2 rfl) _ _ _ _ _ _ _, h.grew.step (below_put5 (Below.refl _ W) (by omega) _ _ _ _ _) h.low⟩

/-- A node is put behind the others, then the state is handed back. -/
theorem XS.more {w3 : World} {v' : Value} {m : Nat} {xs : List Value} {o : Obj} (h : XS w v B a n cap E W vx L i c q) (hown : w3.ownsRow B 55 7 v' m xs) (hg : Grew (W.drew.alloc o) w3 vx v') :
    w3.heap[w.heap.size]? = some (.cells (stR a n cap i c q E) 47 (0, 0)) ∧ w3.heap[w.heap.size + 1]? = some (.cells (stR none 0 0 0 0 0 0) 47 (0, 0)) ∧ Grew w w3 v v' ∧ (∀ k, v'.ownBlock = some k → k ≠ w.heap.size ∧ k ≠ w.heap.size + 1) := by
  have h' := h.drew.alloc o
  have hs := h'.size
  refine ⟨(hg.1.block _ (by omega) (fun e => (h'.far _ e.symm).1 rfl)).trans h'.pp, (hg.1.block _ hs (fun e => (h'.far _ e.symm).2 rfl)).trans h'.qq, h'.grew.trans hg, fun k hk => ?_⟩
  rcases hg.2 k hk with h1 | h1
  · omega
  · exact h'.far k h1

theorem x_fin {w3 : World} {v' : Value} {m : List Nod} (hg : Grew w w3 v v') (hf : ∀ k, v'.ownBlock = some k → k ≠ w.heap.size ∧ k ≠ w.heap.size + 1) (hlow : ∀ k, v.ownBlock = some k → k < w.heap.size) (hown : ownNod w3 B v' m) (a : Option Addr) (n cap : Nat) (i c q E : Int) :
    ownNod (putQ w3 (w.heap.size + 1) a n cap i c q E) B v' m ∧ Grew w (putQ w3 (w.heap.size + 1) a n cap i c q E) v v' :=
  ⟨own_putQ hown (fun e => (hf _ e).2 rfl) _ _ _ _ _ _ _, hg.step (below_put5 (Below.refl _ w3) (by omega) _ _ _ _ _) hlow⟩
end
end Go.Proofs.YtncoooimgeoihaaDoor
