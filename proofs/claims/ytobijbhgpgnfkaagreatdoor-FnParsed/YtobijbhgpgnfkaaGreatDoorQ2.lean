/-
  Several texts in one, in their order: each is told at its own place by its theorems. Conditions: written at each theorem.
-/
import Derived.Test.YtobijbhgpgnfkaaGreatDoorPg
import Derived.WalkMore
import Derived.Deep.CutRange
import Derived.Deep.LoopGhost
import Derived.Test.YtobijbhgpgnfkaaGreatDoorLr
import Derived.Test.YtobijbhgpgnfkaaGreatDoorPp
namespace Go.Proofs.YtobijbhgpgnfkaaGreatDoor
set_option linter.unusedVariables false

section
open Go.ChangeShapes Go.WideShapes Go.ChangeAt Go.RowKit

theorem heap_new_at {w : World} {o : Obj} {N : Nat} (h : w.heap.size = N) : (w.alloc o).heap[N]? = some o := by
  subst h
  exact heap_alloc_new w o

theorem nod_at {w : World} {N : Nat} {x0 x1 x2 x3 x4 : Int} {x5 x6 : ByteArray} {e : TypeId} {z : Nat × Nat} (h : w.heap[N]? = some (.cells #[.int .i64 x0, .int .i64 x1, .int .i64 x2, .int .i64 x3, .int .i64 x4, .string x5, .string x6] e z)) :
    ∀ j u, (nodCells ⟨x0, x1, x2, x3, x4, x5, x6⟩)[j]? = some u → w.cell? ((⟨N, 0, none⟩ : Addr).add j) = some u := by
  intro j u hj
  have hl : j < 7 := by
    rcases Nat.lt_or_ge j 7 with h | h
    · exact h
    · rw [List.getElem?_eq_none (by simpa [nodCells] using h)] at hj; cases hj
  rw [add_plain, cell_of_row _ _ _ _ _ _ h]
  rcases (by omega : j = 0 ∨ j = 1 ∨ j = 2 ∨ j = 3 ∨ j = 4 ∨ j = 5 ∨ j = 6) with rfl | rfl | rfl | rfl | rfl | rfl | rfl <;> exact hj

/-- The row of a state. -/
abbrev stR (a : Option Addr) (n cap : Nat) (i c q E : Int) : Array Value := #[.slice a n cap, .int .i64 i, .int .i64 c, .int .i64 q, .int .i64 E]

/-- Since w: P holds the state, Q the place of the result; the nodes so far are the call's own. -/
structure XS (w : World) (v : Value) (B : Nat) (a : Option Addr) (n cap : Nat) (E : Int) (W : World) (vx : Value) (L : List Nod) (i c q : Int) : Prop where
  grew : Grew w W v vx
  own : ownNod W B vx L
  pp : W.heap[w.heap.size]? = some (.cells (stR a n cap i c q E) 61 (0, 0))
  qq : W.heap[w.heap.size + 1]? = some (.cells (stR none 0 0 0 0 0 0) 61 (0, 0))
  far : ∀ k, vx.ownBlock = some k → k ≠ w.heap.size ∧ k ≠ w.heap.size + 1
  low : ∀ k, v.ownBlock = some k → k < w.heap.size

section
variable {w W W' : World} {v vx : Value} {B : Nat} {a : Option Addr} {n cap : Nat} {E : Int} {L : List Nod} {i c q : Int}

theorem XS.size (h : XS w v B a n cap E W vx L i c q) : w.heap.size + 1 < W.heap.size := (Array.getElem?_eq_some_iff.1 h.qq).1

theorem XS.start (hown : ownNod w B v L) : XS w v B a n cap E ((w.alloc (.cells (stR a n cap i c q E) 61)).alloc (.cells (stR none 0 0 0 0 0 0) 61)) v L i c q := by
  have hb : Below w.heap.size w ((w.alloc (.cells (stR a n cap i c q E) 61)).alloc (.cells (stR none 0 0 0 0 0 0) 61)) := ((Below.refl _ w).alloc (Nat.le_refl _) _).alloc (by simp) _
  have hlt : ∀ k, v.ownBlock = some k → k < w.heap.size := fun k hk => (hown.lt k hk).2
  exact ⟨Grew.of_below hb, ownNod_kept hown hb (Nat.le_refl _), heap_alloc2_old w _ _, heap_alloc2_new w _ _, fun k hk => by have := hlt k hk; omega, hlt⟩

theorem XS.below (h : XS w v B a n cap E W vx L i c q) (hb : Below W.heap.size W W') : XS w v B a n cap E W' vx L i c q :=
  ⟨h.grew.step (hb.mono (by have := h.size; omega)) h.low, ownNod_kept h.own hb (Nat.le_refl _), (hb.block _ (by have := h.size; omega)).trans h.pp, (hb.block _ h.size).trans h.qq, h.far, h.low⟩

theorem XS.alloc (h : XS w v B a n cap E W vx L i c q) (o : Obj) : XS w v B a n cap E (W.alloc o) vx L i c q := h.below ((Below.refl _ W).alloc (Nat.le_refl _) o)
theorem XS.drew (h : XS w v B a n cap E W vx L i c q) : XS w v B a n cap E W.drew vx L i c q := h.below ((Below.refl _ W).drew)

/-- What lies in the call's own blocks, the nodes' aside, is turned. -/
theorem XS.turned (h : XS w v B a n cap E W vx L i c q) {i' c' q' : Int} (hb : Below w.heap.size W W') (ho : ownNod W' B vx L) (hp : W'.heap[w.heap.size]? = some (.cells (stR a n cap i' c' q' E) 61 (0, 0))) (hq : W'.heap[w.heap.size + 1]? = some (.cells (stR none 0 0 0 0 0 0) 61 (0, 0))) :
    XS w v B a n cap E W' vx L i' c' q' := ⟨h.grew.step hb h.low, ho, hp, hq, h.far, h.low⟩

theorem XS.setI (h : XS w v B a n cap E W vx L i c q) (i' : Int) : XS w v B a n cap E (W.setCell ⟨w.heap.size, 1, none⟩ (.int .i64 i')) vx L i' c q :=
  h.turned ((Below.refl _ W).setCell (p := ⟨w.heap.size, 1, none⟩) (Nat.le_refl _) _) (ownsRow_setCell_other h.own (fun e => (h.far _ e).1 rfl) _) (heap_setCell_same W _ 1 _ _ _ h.pp) ((heap_setCell_other W ⟨w.heap.size, 1, none⟩ _ _ (by show w.heap.size + 1 ≠ w.heap.size; omega)).trans h.qq)

/-- The whole state is written. -/
theorem XS.setP (h : XS w v B a n cap E W vx L i c q) (i' c' q' : Int) :
    XS w v B a n cap E (((((W.setCell ⟨w.heap.size, 0, none⟩ (.slice a n cap)).setCell ⟨w.heap.size, 1, none⟩ (.int .i64 i')).setCell ⟨w.heap.size, 2, none⟩ (.int .i64 c')).setCell ⟨w.heap.size, 3, none⟩ (.int .i64 q')).setCell ⟨w.heap.size, 4, none⟩ (.int .i64 E)) vx L i' c' q' := by
  have o : ∀ (X : World) (j : Nat) (y : Value), ownNod X B vx L → ownNod (X.setCell ⟨w.heap.size, j, none⟩ y) B vx L := fun X j y ho => ownsRow_setCell_other ho (fun e => (h.far _ e).1 rfl) y
  have z : ∀ (X : World) (j : Nat) (y : Value) (r : Option Obj), X.heap[w.heap.size + 1]? = r → (X.setCell ⟨w.heap.size, j, none⟩ y).heap[w.heap.size + 1]? = r := fun X j y r hr => (heap_setCell_other X ⟨w.heap.size, j, none⟩ _ _ (by show w.heap.size + 1 ≠ w.heap.size; omega)).trans hr
  exact h.turned (below_put5 (Below.refl _ W) (Nat.le_refl _) _ _ _ _ _) (o _ _ _ (o _ _ _ (o _ _ _ (o _ _ _ (o _ _ _ h.own))))) (put5 h.pp _ _ _ _ _) (z _ _ _ _ (z _ _ _ _ (z _ _ _ _ (z _ _ _ _ (z _ _ _ _ h.qq)))))

/-- The cells of the state and of the result's place. -/
theorem XS.cells (h : XS w v B a n cap E W vx L i c q) :
    (W.cell? ⟨w.heap.size, 0, none⟩ = some (.slice a n cap) ∧ W.cell? ⟨w.heap.size, 1, none⟩ = some (.int .i64 i) ∧ W.cell? ⟨w.heap.size, 2, none⟩ = some (.int .i64 c) ∧ W.cell? ⟨w.heap.size, 3, none⟩ = some (.int .i64 q) ∧ W.cell? ⟨w.heap.size, 4, none⟩ = some (.int .i64 E) ∧ ∀ j, W.frozen? ⟨w.heap.size, j, none⟩ = false) ∧
    (W.cell? ⟨w.heap.size + 1, 0, none⟩ = some (.slice none 0 0) ∧ W.cell? ⟨w.heap.size + 1, 1, none⟩ = some (.int .i64 0) ∧ W.cell? ⟨w.heap.size + 1, 2, none⟩ = some (.int .i64 0) ∧ W.cell? ⟨w.heap.size + 1, 3, none⟩ = some (.int .i64 0) ∧ W.cell? ⟨w.heap.size + 1, 4, none⟩ = some (.int .i64 0) ∧ ∀ j, W.frozen? ⟨w.heap.size + 1, j, none⟩ = false) := ⟨st_row h.pp, st_row h.qq⟩

/-- The result's place is written. -/
abbrev putQ (W : World) (g : Nat) (a : Option Addr) (n cap : Nat) (i c q E : Int) : World := (((((W.setCell ⟨g, 0, none⟩ (.slice a n cap)).setCell ⟨g, 1, none⟩ (.int .i64 i)).setCell ⟨g, 2, none⟩ (.int .i64 c)).setCell ⟨g, 3, none⟩ (.int .i64 q)).setCell ⟨g, 4, none⟩ (.int .i64 E))

theorem own_putQ {W : World} {g : Nat} (h : ownNod W B vx L) (hf : vx.ownBlock ≠ some g) (a : Option Addr) (n cap : Nat) (i c q E : Int) : ownNod (putQ W g a n cap i c q E) B vx L :=
  ownsRow_setCell_other (ownsRow_setCell_other (ownsRow_setCell_other (ownsRow_setCell_other (ownsRow_setCell_other h (a := ⟨g, 0, none⟩) hf _) (a := ⟨g, 1, none⟩) hf _) (a := ⟨g, 2, none⟩) hf _) (a := ⟨g, 3, none⟩) hf _) (a := ⟨g, 4, none⟩) hf _

theorem heap_putQ_other (W : World) (g : Nat) (a : Option Addr) (n cap : Nat) (i c q E : Int) (k : Nat) (hk : k ≠ g) : (putQ W g a n cap i c q E).heap[k]? = W.heap[k]? := by
  unfold putQ
  rw [heap_setCell_other _ _ _ _ (by exact hk), heap_setCell_other _ _ _ _ (by exact hk), heap_setCell_other _ _ _ _ (by exact hk), heap_setCell_other _ _ _ _ (by exact hk), heap_setCell_other _ _ _ _ (by exact hk)]

theorem size_putQ (W : World) (g : Nat) (a : Option Addr) (n cap : Nat) (i c q E : Int) : (putQ W g a n cap i c q E).heap.size = W.heap.size := by simp [putQ, World.setCell]

/-- The state is handed back as it stands, with the nodes so far. -/
theorem XS.back (h : XS w v B a n cap E W vx L i c q) (i' c' q' : Int) :
    (loadVar 61 ⟨w.heap.size + 1, 0, none⟩).run Tryz.prog (putQ W (w.heap.size + 1) a n cap i' c' q' E) = .ok (stV a n cap i' c' q' E) (putQ W (w.heap.size + 1) a n cap i' c' q' E) ∧
    ownNod (putQ W (w.heap.size + 1) a n cap i' c' q' E) B vx L ∧ Grew w (putQ W (w.heap.size + 1) a n cap i' c' q' E) v vx :=
  ⟨st_put h.qq a n cap i' c' q' E, own_putQ h.own (fun e => (h.far _ e).2 rfl) _ _ _ _ _ _ _, h.grew.step (below_put5 (Below.refl _ W) (by omega) _ _ _ _ _) h.low⟩

/-- A node is put behind the others, then the state is handed back. -/
theorem XS.more {w3 : World} {v' : Value} {m : Nat} {xs : List Value} {o : Obj} (h : XS w v B a n cap E W vx L i c q) (hown : w3.ownsRow B 58 7 v' m xs) (hg : Grew (W.drew.alloc o) w3 vx v') :
    w3.heap[w.heap.size]? = some (.cells (stR a n cap i c q E) 61 (0, 0)) ∧ w3.heap[w.heap.size + 1]? = some (.cells (stR none 0 0 0 0 0 0) 61 (0, 0)) ∧ Grew w w3 v v' ∧ (∀ k, v'.ownBlock = some k → k ≠ w.heap.size ∧ k ≠ w.heap.size + 1) := by
  have h' := h.drew.alloc o
  have hs := h'.size
  refine ⟨(hg.1.block _ (by omega) (fun e => (h'.far _ e.symm).1 rfl)).trans h'.pp, (hg.1.block _ hs (fun e => (h'.far _ e.symm).2 rfl)).trans h'.qq, h'.grew.trans hg, fun k hk => ?_⟩
  rcases hg.2 k hk with h1 | h1
  · omega
  · exact h'.far k h1

theorem x_fin {w3 : World} {v' : Value} {m : List Nod} (hg : Grew w w3 v v') (hf : ∀ k, v'.ownBlock = some k → k ≠ w.heap.size ∧ k ≠ w.heap.size + 1) (hlow : ∀ k, v.ownBlock = some k → k < w.heap.size) (hown : ownNod w3 B v' m) (a : Option Addr) (n cap : Nat) (i c q E : Int) :
    ownNod (putQ w3 (w.heap.size + 1) a n cap i c q E) B v' m ∧ Grew w (putQ w3 (w.heap.size + 1) a n cap i c q E) v v' :=
  ⟨own_putQ hown (fun e => (hf _ e).2 rfl) _ _ _ _ _ _ _, hg.step (below_put5 (Below.refl _ w3) (by omega) _ _ _ _ _) hlow⟩
end
end

section
open Go.ChangeShapes Go.WideShapes Go.ChangeAt Go.RowKit

abbrev tokR (k : Int) (s : ByteArray) (n p : Int) : Array Value := #[.int .i64 k, .string s, .int .i64 n, .int .i64 p]

theorem tok_cells {w : World} {g : Nat} {k n p : Int} {s : ByteArray} {t : TypeId} (h : w.heap[g]? = some (.cells (tokR k s n p) t (0, 0))) :
    w.cell? ⟨g, 0, none⟩ = some (.int .i64 k) ∧ w.cell? ⟨g, 1, none⟩ = some (.string s) ∧ w.cell? ⟨g, 2, none⟩ = some (.int .i64 n) ∧ w.cell? ⟨g, 3, none⟩ = some (.int .i64 p) := by
  refine ⟨?_, ?_, ?_, ?_⟩ <;> rw [cell_of_row _ _ _ _ _ _ h] <;> rfl

set_option maxHeartbeats 2000000 in
set_option maxRecDepth 20000 in
theorem spec_x_num (g n cap i : Nat) (p E : Int) (tx : ByteArray) (tn tp : Int) (hi : i < n) (hc : n ≤ 1048576) (v : Value) (B : Nat) (l : List Nod) (w : World) (hown : ownNod w B v l) (hB : B ≤ w.heap.size) (hl : l.length ≤ 1048576) (hT : TokIn w g i ⟨4, tx, tn, tp⟩) :
    Calls Tryz.prog 26 #[stV (some ⟨g, 0, none⟩) n cap i 0 p E, v] w fun e w' => XOut (some ⟨g, 0, none⟩) n cap p E B w v (.ok (i + 1, l ++ [⟨2, 0, 0, 0, tn, ByteArray.empty, ByteArray.empty⟩])) e w' := by
  have hi' : (i : Int) < n := by omega
  have HB : Hid (B ≤ w.heap.size) := hB
  have HL : Hid (l.length ≤ 1048576) := hl
  have t0 : w.cell? ⟨g, i * 4, none⟩ = some (.int .i64 4) := hT.c0
  have t1 : w.cell? ⟨g, i * 4 + 1, none⟩ = some (.string tx) := hT.c1
  have t2 : w.cell? ⟨g, i * 4 + 2, none⟩ = some (.int .i64 tn) := hT.c2
  have t3 : w.cell? ⟨g, i * 4 + 3, none⟩ = some (.int .i64 tp) := hT.c3
  have hg := cell_lt' t0
  obtain ⟨i0, hii, hz0, hz1, hz2⟩ := info_parts info_nod
  obtain ⟨W0, hW0⟩ : ∃ W0, (((w.alloc (.cells (stR (some ⟨g, 0, none⟩) n cap ((i : Int) + 1) 0 p E) 61)).alloc (.cells (stR none 0 0 0 0 0 0) 61)).alloc (.cells (tokR 4 tx tn tp) 66)) = W0 := ⟨_, rfl⟩
  have HW : Hid (_) := hW0
  have HX1 : Hid (XS w v B (some ⟨g, 0, none⟩) n cap E W0 v l ((i : Int) + 1) 0 p) := by
    rw [← hW0]
    exact (XS.start hown).alloc _
  have HZ : Hid (W0.heap.size = w.heap.size + 1 + 1 + 1) := by
    show W0.heap.size = _
    rw [← hW0]
    simp
  have HTK : Hid (W0.heap[w.heap.size + 1 + 1]? = some (.cells (tokR 4 tx tn tp) 66 (0, 0))) := by
    show W0.heap[w.heap.size + 1 + 1]? = _
    rw [← hW0]
    exact heap_new_at (by simp)
  clear hown hB hl hT hW0
  go_enter Tryz.func26, Tryz.ntmps26
  go_wp2
  rw [HW.out]
  obtain ⟨⟨p0, p1, p2, p3, p4, p5⟩, q0, q1, q2, q3, q4, q5⟩ := HX1.out.cells
  obtain ⟨k0, k1, k2, k3⟩ := tok_cells HTK.out
  have z0 := HZ.out
  clear t0 t1 t2 t3 HW HTK
  go_region_law (refine step_append_at rfl (.tmp 53) (.tmp 57) 24 rfl B 58 i0 _ 7 72 Tryz.underlying24 hii hz0 hz1 hz2 rfl (by decide) v _ _ (by simp [Act.eval]) (HX1.out.drew.alloc _).own ⟨w.heap.size + 1 + 1 + 1, 0, none⟩ 1 1 (nodCells ⟨2, 0, 0, 0, tn, ByteArray.empty, ByteArray.empty⟩) (by simp [Act.eval]) rfl (nod_at (heap_new_at z0)) (nod_one _) (by decide) (by have := HL.out; unfold maxLen; omega) (by have := HL.out; omega) (by have := HB.out; simp <;> omega) ?_; intro v' w3 hown' hgr; have HH : Hid (_) := HX1.out.more hown' hgr; have HO : Hid (_) := hown'; have HGR : Hid (_) := hgr; obtain ⟨p0, p1, p2, p3, p4, p5⟩ := st_row HH.out.1; obtain ⟨q0, q1, q2, q3, q4, q5⟩ := st_row HH.out.2.1; clear hown' hgr)
  all_goals
    go_wp2
    refine bodyPost_ret (results_row_tmp rfl _ _ (w.heap.size + 1) _ v' rfl (st_put HH.out.2.1 (some ⟨g, 0, none⟩) n cap ((i : Int) + 1) 0 p E) rfl) rfl ?_
    obtain ⟨f1, f2⟩ := x_fin HH.out.2.2.1 HH.out.2.2.2 HX1.out.low (ownNod_next ⟨2, 0, 0, 0, tn, ByteArray.empty, ByteArray.empty⟩ HO.out rfl rfl) (some ⟨g, 0, none⟩) n cap ((i : Int) + 1) 0 p E
    exact ⟨v', by rw [Int.natCast_add]; rfl, f1, f2⟩
end

section
open Go.ChangeShapes Go.WideShapes Go.ChangeAt Go.RowKit

set_option maxHeartbeats 2000000 in
set_option maxRecDepth 20000 in
theorem spec_x_nil (g n cap i : Nat) (p E : Int) (tn tp : Int) (hi : i < n) (hc : n ≤ 1048576) (v : Value) (B : Nat) (l : List Nod) (w : World) (hown : ownNod w B v l) (hB : B ≤ w.heap.size) (hl : l.length ≤ 1048576) (hT : TokIn w g i ⟨3, ⟨#[110, 105, 108]⟩, tn, tp⟩) :
    Calls Tryz.prog 26 #[stV (some ⟨g, 0, none⟩) n cap i 0 p E, v] w fun e w' => XOut (some ⟨g, 0, none⟩) n cap p E B w v (.ok (i + 1, l ++ [⟨12, 0, 0, 0, 0, ByteArray.empty, ByteArray.empty⟩])) e w' := by
  have hi' : (i : Int) < n := by omega
  have HB : Hid (B ≤ w.heap.size) := hB
  have HL : Hid (l.length ≤ 1048576) := hl
  have t0 : w.cell? ⟨g, i * 4, none⟩ = some (.int .i64 3) := hT.c0
  have t1 : w.cell? ⟨g, i * 4 + 1, none⟩ = some (.string ⟨#[110, 105, 108]⟩) := hT.c1
  have t2 : w.cell? ⟨g, i * 4 + 2, none⟩ = some (.int .i64 tn) := hT.c2
  have t3 : w.cell? ⟨g, i * 4 + 3, none⟩ = some (.int .i64 tp) := hT.c3
  have hg := cell_lt' t0
  obtain ⟨i0, hii, hz0, hz1, hz2⟩ := info_parts info_nod
  obtain ⟨W0, hW0⟩ : ∃ W0, (((w.alloc (.cells (stR (some ⟨g, 0, none⟩) n cap ((i : Int) + 1) 0 p E) 61)).alloc (.cells (stR none 0 0 0 0 0 0) 61)).alloc (.cells (tokR 3 ⟨#[110, 105, 108]⟩ tn tp) 66)) = W0 := ⟨_, rfl⟩
  have HW : Hid (_) := hW0
  have HX1 : Hid (XS w v B (some ⟨g, 0, none⟩) n cap E W0 v l ((i : Int) + 1) 0 p) := by
    rw [← hW0]
    exact (XS.start hown).alloc _
  have HZ : Hid (W0.heap.size = w.heap.size + 1 + 1 + 1) := by
    show W0.heap.size = _
    rw [← hW0]
    simp
  have HTK : Hid (W0.heap[w.heap.size + 1 + 1]? = some (.cells (tokR 3 ⟨#[110, 105, 108]⟩ tn tp) 66 (0, 0))) := by
    show W0.heap[w.heap.size + 1 + 1]? = _
    rw [← hW0]
    exact heap_new_at (by simp)
  clear hown hB hl hT hW0
  go_enter Tryz.func26, Tryz.ntmps26
  go_wp2
  rw [HW.out]
  obtain ⟨⟨p0, p1, p2, p3, p4, p5⟩, q0, q1, q2, q3, q4, q5⟩ := HX1.out.cells
  obtain ⟨k0, k1, k2, k3⟩ := tok_cells HTK.out
  have z0 := HZ.out
  clear t0 t1 t2 t3 HW HTK
  go_region_law (refine step_append_at rfl (.tmp 73) (.tmp 75) 24 rfl B 58 i0 _ 7 72 Tryz.underlying24 hii hz0 hz1 hz2 rfl (by decide) v _ _ (by simp [Act.eval]) (HX1.out.drew.alloc _).own ⟨w.heap.size + 1 + 1 + 1, 0, none⟩ 1 1 (nodCells ⟨12, 0, 0, 0, 0, ByteArray.empty, ByteArray.empty⟩) (by simp [Act.eval]) rfl (nod_at (heap_new_at z0)) (nod_one _) (by decide) (by have := HL.out; unfold maxLen; omega) (by have := HL.out; omega) (by have := HB.out; simp <;> omega) ?_; intro v' w3 hown' hgr; have HH : Hid (_) := HX1.out.more hown' hgr; have HO : Hid (_) := hown'; have HGR : Hid (_) := hgr; obtain ⟨p0, p1, p2, p3, p4, p5⟩ := st_row HH.out.1; obtain ⟨q0, q1, q2, q3, q4, q5⟩ := st_row HH.out.2.1; clear hown' hgr)
  all_goals
    go_wp2
    refine bodyPost_ret (results_row_tmp rfl _ _ (w.heap.size + 1) _ v' rfl (st_put HH.out.2.1 (some ⟨g, 0, none⟩) n cap ((i : Int) + 1) 0 p E) rfl) rfl ?_
    obtain ⟨f1, f2⟩ := x_fin HH.out.2.2.1 HH.out.2.2.2 HX1.out.low (ownNod_next ⟨12, 0, 0, 0, 0, ByteArray.empty, ByteArray.empty⟩ HO.out rfl rfl) (some ⟨g, 0, none⟩) n cap ((i : Int) + 1) 0 p E
    exact ⟨v', by rw [Int.natCast_add]; rfl, f1, f2⟩
set_option maxHeartbeats 2000000 in
set_option maxRecDepth 20000 in
theorem spec_x_close (g n cap i : Nat) (p E : Int) (tx : ByteArray) (tn tp : Int) (hi : i < n) (hc : n ≤ 1048576) (v : Value) (B : Nat) (l : List Nod) (w : World) (hown : ownNod w B v l) (hT : TokIn w g i ⟨2, tx, tn, tp⟩) :
    Calls Tryz.prog 26 #[stV (some ⟨g, 0, none⟩) n cap i 0 p E, v] w fun e w' => XOut (some ⟨g, 0, none⟩) n cap p E B w v (.error (3, tp)) e w' := by
  have hi' : (i : Int) < n := by omega
  have t0 : w.cell? ⟨g, i * 4, none⟩ = some (.int .i64 2) := hT.c0
  have t1 : w.cell? ⟨g, i * 4 + 1, none⟩ = some (.string tx) := hT.c1
  have t2 : w.cell? ⟨g, i * 4 + 2, none⟩ = some (.int .i64 tn) := hT.c2
  have t3 : w.cell? ⟨g, i * 4 + 3, none⟩ = some (.int .i64 tp) := hT.c3
  have hg := cell_lt' t0
  obtain ⟨W0, hW0⟩ : ∃ W0, (((w.alloc (.cells (stR (some ⟨g, 0, none⟩) n cap i 0 p E) 61)).alloc (.cells (stR none 0 0 0 0 0 0) 61)).alloc (.cells (tokR 2 tx tn tp) 66)) = W0 := ⟨_, rfl⟩
  have HW : Hid (_) := hW0
  have HX1 : Hid (XS w v B (some ⟨g, 0, none⟩) n cap E W0 v l i 0 p) := by
    rw [← hW0]
    exact (XS.start hown).alloc _
  clear hown hT hW0
  go_enter Tryz.func26, Tryz.ntmps26
  go_wp2_with fail
  rw [HW.out]
  refine (spec_fail _ n cap i p E 3 tp W0).mono ?_
  rintro e w1 ⟨rfl, b1⟩
  have HX2 : Hid (XS w v B (some ⟨g, 0, none⟩) n cap E w1 v l i 0 p) := HX1.out.below b1
  obtain ⟨⟨p0, p1, p2, p3, p4, p5⟩, q0, q1, q2, q3, q4, q5⟩ := HX2.out.cells
  clear b1 HW HX1 t0 t1 t2 t3
  go_wp2
  obtain ⟨f0, f1, f2⟩ := HX2.out.back i 3 tp
  refine bodyPost_ret (results_row_tmp rfl _ _ (w.heap.size + 1) _ v rfl f0 rfl) rfl ?_
  exact ⟨i, v, l, rfl, f1, f2⟩

/-- What a name that is taken makes of the reading. -/
def nameX (ts : List Tok) (E : Int) (i : Nat) (l : List Nod) : Except Flt (Nat × List Nod) := match nameE ts E i with
  | .ok (j, s) => .ok (j, l ++ [⟨1, 0, 0, 0, 0, s, ByteArray.empty⟩])
  | .error e => .error e

theorem nm_form {a : Option Addr} {n cap i : Nat} {p E : Int} {ts : List Tok} {e : Ending} {l : List Nod} {B : Nat} {w : World} {v : Value}
    (he : match nameE ts E i with
        | .ok (j, s) => e = .returned (.tuple #[stV a n cap (j : Nat) 0 p E, .string s])
        | .error (c, q) => e = .returned (.tuple #[stV a n cap i c q E, .string ⟨#[]⟩])) :
    ∃ (i' c' q' : Int) (s' : ByteArray), e = .returned (.tuple #[stV a n cap i' c' q' E, .string s']) ∧
      ∀ v' w', ownNod w' B v' (l ++ [⟨1, 0, 0, 0, 0, s', ByteArray.empty⟩]) → Grew w w' v v' → XOut a n cap p E B w v (nameX ts E i l) (.returned (.tuple #[stV a n cap i' c' q' E, v'])) w' := by
  unfold nameX
  rcases htk : nameE ts E i with ⟨c, q⟩ | ⟨j, s⟩
  · rw [htk] at he
    exact ⟨_, _, _, _, he, fun v' w' h1 h2 => ⟨_, v', _, rfl, h1, h2⟩⟩
  · rw [htk] at he
    exact ⟨_, _, _, s, he, fun v' w' h1 h2 => ⟨v', rfl, h1, h2⟩⟩

set_option maxHeartbeats 4000000 in
set_option maxRecDepth 20000 in
theorem spec_x_name (g n cap i : Nat) (p E : Int) (ts : List Tok) (hn : ts.length = n) (tx : ByteArray) (tn tp : Int) (hi : i < n) (hc : n ≤ 1048576) (v : Value) (B : Nat) (l : List Nod) (w : World) (hown : ownNod w B v l) (hB : B ≤ w.heap.size) (hl : l.length ≤ 1048576) (hTA : TokAt w g ts) (hT : TokIn w g i ⟨3, tx, tn, tp⟩) (hnil : (tx.toList == [110, 105, 108]) = false) :
    Calls Tryz.prog 26 #[stV (some ⟨g, 0, none⟩) n cap i 0 p E, v] w fun e w' => XOut (some ⟨g, 0, none⟩) n cap p E B w v (nameX ts E i l) e w' := by
  have hi' : (i : Int) < n := by omega
  have HN : Hid (ts.length = n) := hn
  have HB : Hid (B ≤ w.heap.size) := hB
  have HL : Hid (l.length ≤ 1048576) := hl
  have t0 : w.cell? ⟨g, i * 4, none⟩ = some (.int .i64 3) := hT.c0
  have t1 : w.cell? ⟨g, i * 4 + 1, none⟩ = some (.string tx) := hT.c1
  have t2 : w.cell? ⟨g, i * 4 + 2, none⟩ = some (.int .i64 tn) := hT.c2
  have t3 : w.cell? ⟨g, i * 4 + 3, none⟩ = some (.int .i64 tp) := hT.c3
  have hg := cell_lt' t0
  obtain ⟨i0, hii, hz0, hz1, hz2⟩ := info_parts info_nod
  obtain ⟨W0, hW0⟩ : ∃ W0, (((w.alloc (.cells (stR (some ⟨g, 0, none⟩) n cap i 0 p E) 61)).alloc (.cells (stR none 0 0 0 0 0 0) 61)).alloc (.cells (tokR 3 tx tn tp) 66)) = W0 := ⟨_, rfl⟩
  have HW : Hid (_) := hW0
  have HX1 : Hid (XS w v B (some ⟨g, 0, none⟩) n cap E W0 v l i 0 p) := by
    rw [← hW0]
    exact (XS.start hown).alloc _
  have HTA : Hid (TokAt W0 g ts) := by
    rw [← hW0]
    exact hTA.below (below3 w _ _ _) hg
  clear hown hB hl hT hTA hW0 hn
  go_enter Tryz.func26, Tryz.ntmps26
  go_wp2_with fail
  rw [HW.out]
  refine (spec_nm _ g n cap i p E ts HN.out hc (fun _ => rfl) W0 HTA.out).mono ?_
  rintro e w1 ⟨he, b1⟩
  obtain ⟨i', c', q', s', rfl, hfin⟩ := nm_form (l := l) (B := B) (w := w) (v := v) he
  have HF : Hid (_) := hfin
  have HX2 : Hid (XS w v B (some ⟨g, 0, none⟩) n cap E (w1.alloc (.cells (stR (some ⟨g, 0, none⟩) n cap i' c' q' E) 61)) v l i 0 p) := (HX1.out.below b1).alloc _
  obtain ⟨W2, hW2⟩ : ∃ W2, w1.alloc (.cells (stR (some ⟨g, 0, none⟩) n cap i' c' q' E) 61) = W2 := ⟨_, rfl⟩
  have HW2 : Hid (_) := hW2
  have HS : Hid (W2.heap[w1.heap.size]? = some (.cells (stR (some ⟨g, 0, none⟩) n cap i' c' q' E) 61 (0, 0))) := by rw [← hW2]; exact heap_alloc_new w1 _
  have HZ : Hid (W2.heap.size = w1.heap.size + 1) := by
    show W2.heap.size = _
    rw [← hW2]; simp
  have hs1 : w.heap.size + 1 < w1.heap.size := (HX1.out.below b1).size
  have HVL : Hid (∀ k, v.ownBlock = some k → k < w.heap.size) := HX1.out.low
  rw [hW2] at HX2
  clear hfin he b1 HW HX1 t0 t1 t2 t3 HTA hW2
  go_wp2
  rw [HW2.out]
  obtain ⟨⟨p0, p1, p2, p3, p4, p5⟩, q0, q1, q2, q3, q4, q5⟩ := HX2.out.cells
  obtain ⟨s0, s1, s2, s3, s4, s5⟩ := st_row HS.out
  have z0 := HZ.out
  clear p0 p1 p2 p3 p4 p5
  go_region_law (refine step_append_at rfl (.tmp 87) (.tmp 90) 24 rfl B 58 i0 _ 7 72 Tryz.underlying24 hii hz0 hz1 hz2 rfl (by decide) v _ _ (by simp [Act.eval]) (HX2.out.drew.alloc _).own ⟨w1.heap.size + 1, 0, none⟩ 1 1 (nodCells ⟨1, 0, 0, 0, 0, s', ByteArray.empty⟩) (by simp [Act.eval]) rfl (nod_at (heap_new_at z0)) (nod_one _) (by decide) (by have := HL.out; unfold maxLen; omega) (by have := HL.out; omega) (by have := HB.out; simp <;> omega) ?_; intro v' w3 hown' hgr; have HH : Hid (_) := HX2.out.more hown' hgr; have HO : Hid (_) := hown'; have HGR : Hid (_) := hgr; obtain ⟨q0, q1, q2, q3, q4, q5⟩ := st_row HH.out.2.1; obtain ⟨s0, s1, s2, s3, s4, s5⟩ := st_row ((hgr.1.block w1.heap.size (by simp <;> omega) (fun e => by have := HVL.out _ e.symm; omega)).trans (((Below.refl _ W2.drew).alloc (Nat.le_refl _) _).block w1.heap.size (by show w1.heap.size < W2.heap.size; omega) |>.trans HS.out)); clear hown' hgr)
  all_goals
    go_wp2
    refine bodyPost_ret (results_row_tmp rfl _ _ (w.heap.size + 1) _ v' rfl (st_put HH.out.2.1 (some ⟨g, 0, none⟩) n cap i' c' q' E) rfl) rfl ?_
    obtain ⟨f1, f2⟩ := x_fin HH.out.2.2.1 HH.out.2.2.2 HX2.out.low (ownNod_next ⟨1, 0, 0, 0, 0, s', ByteArray.empty⟩ HO.out rfl rfl) (some ⟨g, 0, none⟩) n cap i' c' q' E
    exact HF.out v' _ f1 f2
end

section
open Go.ChangeShapes Go.WideShapes Go.ChangeAt Go.RowKit

theorem ld_put5 {w : World} {g : Nat} {x0 x1 x2 x3 x4 : Value} {t : TypeId} (h : w.heap[g]? = some (.cells #[x0, x1, x2, x3, x4] t (0, 0))) (a : Option Addr) (n cap : Nat) (i c q E : Int) :
    (putQ w g a n cap i c q E).heap[g]? = some (.cells (stR a n cap i c q E) t (0, 0)) := put5 h _ _ _ _ _

set_option maxRecDepth 20000 in
/-- Behind a fault nothing is taken. -/
theorem spec_take_off (a : Option Addr) (n cap : Nat) (i c q E k : Int) (hc : ¬ c = 0) (w : World) :
    Calls Tryz.prog 54 #[stV a n cap i c q E, .int .i64 k] w fun e w' => e = .returned (.tuple #[stV a n cap i c q E, tokV noTok]) ∧ Below w.heap.size w w' := by
  go_enter Tryz.func54, Tryz.ntmps54
  go_wp2
  exact bodyPost_ret (results_rows2 rfl _ _ (w.heap.size + 1) (w.heap.size + 1 + 1) _ _ rfl (ld_st (alloc3_1 w _ _ _)) rfl (ld_tok (alloc3_2 w _ _ _))) rfl ⟨rfl, below3 w _ _ _⟩

/-- A slice of the call's own holds these numbers. -/
abbrev ownK (w : World) (base : Nat) (v : Value) (st : List Int) : Prop := w.ownsRow base 3 1 v st.length (st.map (Value.int .i64))

theorem info_num : (Tryz.prog.info? 3).map (fun i => (i.zero, i.size, i.bytes)) = some (some (.int .i64 0), 1, 8) := by kernel_rfl

theorem ownK_next {w : World} {B : Nat} {v : Value} {st : List Int} {m : Nat} {xs : List Value} (x : Int) (h : w.ownsRow B 3 1 v m xs) (hn : m = st.length + 1) (hx : xs = st.map (Value.int .i64) ++ [.int .i64 x]) : ownK w B v (st ++ [x]) := by
  subst hn hx
  show w.ownsRow B 3 1 v (st ++ [x]).length ((st ++ [x]).map (Value.int .i64))
  rw [List.length_append, List.map_append]
  simpa using h

theorem ownK_form {w : World} {B : Nat} {v : Value} {st : List Int} (h : ownK w B v st) : ∃ (a : Option Addr) (cap : Nat), v = .slice a st.length cap := by
  rcases h.2 with ⟨rfl, hz⟩ | ⟨g, cap, cur, rfl, _⟩
  · exact ⟨none, 0, by rw [hz]⟩
  · exact ⟨_, _, rfl⟩

theorem ownK_cells {w : World} {B : Nat} {v : Value} {st : List Int} (h : ownK w B v st) (h0 : 0 < st.length) : ∃ (g cap : Nat), v = .slice (some ⟨g, 0, none⟩) st.length cap ∧ ∀ k, k < st.length → w.cell? ⟨g, k, none⟩ = some (.int .i64 (st.getD k 0)) := by
  rcases h.2 with ⟨rfl, hz⟩ | ⟨g, cap, cur, rfl, hrest⟩
  · omega
  · refine ⟨g, cap, rfl, fun k hk => ?_⟩
    rw [h.cellAt k (by omega), List.getElem?_map]
    simp [List.getD, List.getElem?_eq_getElem hk]

/-- Since w: beside the state and the result's place, N holds the node, kv the kids. -/
structure XF (w : World) (v : Value) (B : Nat) (a : Option Addr) (n cap : Nat) (E : Int) (W : World) (vx : Value) (L : List Nod) (i c q : Int) (N : Nat) (nod : Nod) (kv : Value) (ks : List Int) : Prop where
  xs : XS w v B a n cap E W vx L i c q
  nd : W.heap[N]? = some (.cells (nodCells nod).toArray 58 (0, 0))
  kid : ownK W (N + 1) kv ks
  wn : w.heap.size + 1 < N
  farN : ∀ k, vx.ownBlock = some k → k ≠ N
  farK : ∀ k, kv.ownBlock = some k → vx.ownBlock ≠ some k

section
variable {w W W' : World} {v vx kv : Value} {B N : Nat} {a : Option Addr} {n cap : Nat} {E : Int} {L : List Nod} {i c q : Int} {nod : Nod} {ks : List Int}

theorem XF.lt (h : XF w v B a n cap E W vx L i c q N nod kv ks) : N < W.heap.size := (Array.getElem?_eq_some_iff.1 h.nd).1

theorem ownK_kept (h : ownK W B kv ks) (hb : Below W.heap.size W W') : ownK W' B kv ks :=
  h.kept (row := none) ⟨hb.os, hb.tape, hb.output, hb.size, fun k hk _ => hb.block k hk⟩ (by cases hv : kv.ownBlock <;> simp)

theorem XF.start (h : XS w v B a n cap E W vx L i c q) (hl : ∀ k, vx.ownBlock = some k → k < W.heap.size) :
    XF w v B a n cap E ((W.alloc (.cells (nodCells nod).toArray 58)).alloc (.cells #[] 3)) vx L i c q W.heap.size nod (.slice (some ⟨W.heap.size + 1, 0, none⟩) 0 0) [] := by
  have hx := (h.alloc (.cells (nodCells nod).toArray 58)).alloc (.cells #[] 3)
  refine ⟨hx, heap_alloc2_old W _ _, ?_, h.size, fun k hk => by have := hl k hk; omega, fun k hk e => ?_⟩
  · have := World.ownsRow_lit (base := W.heap.size + 1) (e := 3) (size := 1) (W.alloc (.cells (nodCells nod).toArray 58)) #[] 0 (by simp) (by omega) rfl
    simp at this
    exact this
  · simp [Value.ownBlock] at hk
    have := hl k e
    omega

theorem XF.below (h : XF w v B a n cap E W vx L i c q N nod kv ks) (hb : Below W.heap.size W W') : XF w v B a n cap E W' vx L i c q N nod kv ks :=
  ⟨h.xs.below hb, (hb.block _ h.lt).trans h.nd, ownK_kept h.kid hb, h.wn, h.farN, h.farK⟩

theorem XF.alloc (h : XF w v B a n cap E W vx L i c q N nod kv ks) (o : Obj) : XF w v B a n cap E (W.alloc o) vx L i c q N nod kv ks := h.below ((Below.refl _ W).alloc (Nat.le_refl _) o)
theorem XF.drew (h : XF w v B a n cap E W vx L i c q N nod kv ks) : XF w v B a n cap E W.drew vx L i c q N nod kv ks := h.below ((Below.refl _ W).drew)

theorem XF.kidFar (h : XF w v B a n cap E W vx L i c q N nod kv ks) : ∀ k, kv.ownBlock = some k → N < k := fun k hk => by have := (h.kid.lt k hk).1; omega

theorem XF.setP (h : XF w v B a n cap E W vx L i c q N nod kv ks) (i' c' q' : Int) : XF w v B a n cap E (putQ W w.heap.size a n cap i' c' q' E) vx L i' c' q' N nod kv ks := by
  refine ⟨h.xs.setP i' c' q', (heap_putQ_other W _ _ _ _ _ _ _ _ N (by have := h.wn; omega)).trans h.nd, ?_, h.wn, h.farN, h.farK⟩
  have hf : ∀ j, kv.ownBlock ≠ some (⟨w.heap.size, j, none⟩ : Addr).block := fun j e => by have := h.kidFar _ e; have := h.wn; simp at *; omega
  exact ownsRow_setCell_other (ownsRow_setCell_other (ownsRow_setCell_other (ownsRow_setCell_other (ownsRow_setCell_other h.kid (hf 0) _) (hf 1) _) (hf 2) _) (hf 3) _) (hf 4) _

theorem XF.setN (h : XF w v B a n cap E W vx L i c q N nod kv ks) {nod' : Nod} (j : Nat) (y : Value) (hn : ((nodCells nod).toArray).setIfInBounds j y = (nodCells nod').toArray) : XF w v B a n cap E (W.setCell ⟨N, j, none⟩ y) vx L i c q N nod' kv ks := by
  have hs := heap_setCell_same W N j _ _ y h.nd
  rw [hn] at hs
  have hoth : ∀ k, k ≠ N → (W.setCell ⟨N, j, none⟩ y).heap[k]? = W.heap[k]? := fun k hk => heap_setCell_other W ⟨N, j, none⟩ k y hk
  have hw := h.wn
  refine ⟨h.xs.turned ((Below.refl _ W).setCell (p := ⟨N, j, none⟩) (by show w.heap.size ≤ N; omega) y) (ownsRow_setCell_other h.xs.own (fun e => h.farN N e rfl) y) ((hoth _ (by omega)).trans h.xs.pp) ((hoth _ (by omega)).trans h.xs.qq), hs, ownsRow_setCell_other h.kid (fun e => by have := h.kidFar N e; omega) y, h.wn, h.farN, h.farK⟩

/-- The nodes have grown by a call. -/
theorem XF.grow (h : XF w v B a n cap E W vx L i c q N nod kv ks) {v' : Value} {L' : List Nod} (ho : ownNod W' B v' L') (hg : Grew W W' vx v') : XF w v B a n cap E W' v' L' i c q N nod kv ks := by
  have hs := h.xs.size
  have hN := h.lt
  have new : ∀ k, v'.ownBlock = some k → W.heap.size ≤ k ∨ vx.ownBlock = some k := hg.2
  refine ⟨⟨h.xs.grew.trans hg, ho, (hg.1.block _ (by omega) (fun e => (h.xs.far _ e.symm).1 rfl)).trans h.xs.pp, (hg.1.block _ hs (fun e => (h.xs.far _ e.symm).2 rfl)).trans h.xs.qq, fun k hk => ?_, h.xs.low⟩, (hg.1.block _ hN (fun e => h.farN _ e.symm rfl)).trans h.nd, ?_, h.wn, fun k hk => ?_, fun k hk e => ?_⟩
  · rcases new k hk with h1 | h1
    · omega
    · exact h.xs.far k h1
  · refine h.kid.kept hg.1 ?_
    cases hv : kv.ownBlock with
    | none => exact .inl rfl
    | some k => exact .inr (fun e => h.farK k hv e.symm)
  · rcases new k hk with h1 | h1
    · omega
    · exact h.farN k h1
  · have hk' := (h.kid.lt k hk).2
    rcases new k e with h1 | h1
    · omega
    · exact h.farK k hk h1

/-- A kid is put behind the others. -/
theorem XF.more (h : XF w v B a n cap E W vx L i c q N nod kv ks) {kv' : Value} {m : Nat} {xs : List Value} {o : Obj} (x : Int) (ho : W'.ownsRow (N + 1) 3 1 kv' m xs) (hm : m = ks.length + 1) (hx : xs = ks.map (Value.int .i64) ++ [.int .i64 x]) (hg : Grew (W.alloc o) W' kv kv') :
    XF w v B a n cap E W' vx L i c q N nod kv' (ks ++ [x]) := by
  have h' := h.alloc o
  have hs := h'.xs.size
  have hN := h'.lt
  have hw := h'.wn
  have hf : ∀ k, k ≤ N → some k ≠ kv.ownBlock := fun k hk e => by have := h'.kidFar k e.symm; omega
  have hlow : Below w.heap.size (W.alloc o) W' := ⟨hg.1.os, hg.1.tape, hg.1.output, hg.1.size, fun k hk => hg.1.block k (by omega) (hf k (by omega))⟩
  have hown : ownNod W' B vx L := by
    refine h'.xs.own.kept hg.1 ?_
    cases hv : vx.ownBlock with
    | none => exact .inl rfl
    | some k => exact .inr (fun e => h'.farK k e.symm hv)
  refine ⟨h'.xs.turned hlow hown ((hg.1.block _ (by omega) (hf _ (by omega))).trans h'.xs.pp) ((hg.1.block _ hs (hf _ (by omega))).trans h'.xs.qq), (hg.1.block _ hN (hf _ (Nat.le_refl _))).trans h'.nd, ownK_next x ho hm hx, h.wn, h.farN, fun k hk e => ?_⟩
  rcases hg.2 k hk with h1 | h1
  · have := (h'.xs.own.lt k e).2
    omega
  · exact h'.farK k h1 e

/-- The cells of the node. -/
theorem XF.cells (h : XF w v B a n cap E W vx L i c q N nod kv ks) :
    W.cell? ⟨N, 0, none⟩ = some (.int .i64 nod.kind) ∧ W.cell? ⟨N, 1, none⟩ = some (.int .i64 nod.a) ∧ W.cell? ⟨N, 2, none⟩ = some (.int .i64 nod.b) ∧ W.cell? ⟨N, 3, none⟩ = some (.int .i64 nod.c) ∧ W.cell? ⟨N, 4, none⟩ = some (.int .i64 nod.n) ∧ W.cell? ⟨N, 5, none⟩ = some (.string nod.name) ∧ W.cell? ⟨N, 6, none⟩ = some (.string nod.other) ∧ ∀ j, W.frozen? ⟨N, j, none⟩ = false := by
  refine ⟨?_, ?_, ?_, ?_, ?_, ?_, ?_, fun j => frozen_of_row W N j _ _ h.nd⟩ <;> rw [cell_of_row _ _ _ _ _ _ h.nd] <;> rfl

/-- Tokens that lie elsewhere stay. -/
theorem XS.toks {g : Nat} {ts : List Tok} (h : XS w v B a n cap E W vx L i c q) (hT : TokAt w g ts) (hgv : v.ownBlock ≠ some g) : TokAt W g ts := fun j hj => by
  have hlt := cell_lt' (hT j hj).c0
  have hb : W.heap[g]? = w.heap[g]? := h.grew.1.block g hlt (fun e => hgv e.symm)
  exact ⟨(World.cell?_of_block hb).trans (hT j hj).c0, (World.cell?_of_block hb).trans (hT j hj).c1, (World.cell?_of_block hb).trans (hT j hj).c2, (World.cell?_of_block hb).trans (hT j hj).c3⟩
end

/-- How many kids a form has: three at most. -/
def nExpr (cs : List UInt8) : Nat := (cs.filter (· ≠ 110)).length

theorem argsE_kids {ts : List Tok} {E : Int} {rec : Nat → List Nod → Except Flt (Nat × List Nod)} : ∀ (cs : List UInt8) (i : Nat) (n : Nod) (l : List Nod) (ks : List Int) (j : Nat) (n' : Nod) (m : List Nod) (ks' : List Int),
    argsE ts E rec cs i n l ks = .ok (j, n', m, ks') → ks'.length = ks.length + nExpr cs
  | [], i, n, l, ks, j, n', m, ks', h => by
    simp only [argsE, Except.ok.injEq, Prod.mk.injEq] at h
    obtain ⟨rfl, rfl, rfl, rfl⟩ := h
    simp [nExpr]
  | c :: cs, i, n, l, ks, j, n', m, ks', h => by
    rw [argsE] at h
    split at h
    · rename_i hc
      split at h
      · have ih := argsE_kids cs _ _ _ _ _ _ _ _ h
        rw [ih]
        simp [nExpr, hc]
      · cases h
    · rename_i hc
      split at h
      · have ih := argsE_kids cs _ _ _ _ _ _ _ _ h
        rw [ih]
        simp [nExpr, hc]
        omega
      · cases h

theorem ite_kids {c : Prop} [Decidable c] {x y : Int × Int × ByteArray} (hx : nExpr x.2.2.data.toList ≤ 3) (hy : nExpr y.2.2.data.toList ≤ 3) : nExpr (if c then x else y).2.2.data.toList ≤ 3 := by
  split <;> assumption

theorem formE_kids (key : ByteArray) : nExpr (formE key).2.2.data.toList ≤ 3 := by
  unfold formE
  repeat' first | decide | refine ite_kids ?_ ?_

theorem argsE_bad {ts : List Tok} {E : Int} {i0 : Nat} {rec : Nat → List Nod → Except Flt (Nat × List Nod)} (hf : Fair ts rec) (hr : ∀ i l e, i0 ≤ i → rec i l = .error e → e.1 = 2 ∨ e.1 = 3) : ∀ (cs : List UInt8) (i : Nat) (n : Nod) (l : List Nod) (ks : List Int) (e : Flt), i0 ≤ i →
    argsE ts E rec cs i n l ks = .error e → e.1 = 2 ∨ e.1 = 3
  | [], i, n, l, ks, e, hi, h => by simp [argsE] at h
  | c :: cs, i, n, l, ks, e, hi, h => by
    rw [argsE] at h
    split at h
    · split at h
      · rename_i j s hs
        obtain ⟨e1, _⟩ := nameE_ok hs
        exact argsE_bad hf hr cs _ _ _ _ _ (by omega) h
      · rename_i e' he
        simp only [Except.error.injEq] at h
        subst h
        exact nameE_bad he
    · split at h
      · rename_i j m hs
        obtain ⟨e1, _⟩ := hf _ _ _ _ hs
        exact argsE_bad hf hr cs _ _ _ _ _ (by omega) h
      · rename_i e' he
        simp only [Except.error.injEq] at h
        subst h
        exact hr _ _ _ hi he

theorem exprE_bad (ts : List Tok) (E : Int) : ∀ (f i : Nat) (l : List Nod) (e : Flt), ts.length + 1 ≤ i + f → i ≤ ts.length → exprE ts E f i l = .error e → e.1 = 2 ∨ e.1 = 3
  | 0, i, l, e, hf, hi, h => by omega
  | f + 1, i, l, e, hf, hi, h => by
    rw [exprE] at h
    split at h
    · rename_i hlt
      split at h
      · cases h
      · split at h
        · split at h
          · cases h
          · split at h
            · cases h
            · rename_i e' he
              simp only [Except.error.injEq] at h
              subst h
              exact nameE_bad he
        · split at h
          · simp only [Except.error.injEq] at h
            subst h
            exact Or.inr rfl
          · split at h
            · rename_i e' he
              simp only [Except.error.injEq] at h
              subst h
              exact takeE_bad he
            · rename_i j key hk
              obtain ⟨k1, k2, _, _⟩ := takeE_ok hk
              split at h
              · simp only [Except.error.injEq] at h
                subst h
                exact Or.inr rfl
              · split at h
                · rename_i e' he
                  simp only [Except.error.injEq] at h
                  subst h
                  refine argsE_bad (i0 := j) (exprE_fair ts E f) (fun i' l' e2 h1 h2 => ?_) _ _ _ _ _ _ (Nat.le_refl _) he
                  rcases Nat.lt_or_ge ts.length i' with hgt | hle
                  · rcases f with _ | f
                    · omega
                    · rw [exprE, if_neg (by omega)] at h2
                      simp only [Except.error.injEq] at h2
                      subst h2
                      exact Or.inl rfl
                  · exact exprE_bad ts E f i' l' e2 (by omega) hle h2
                · split at h
                  · rename_i e' he
                    simp only [Except.error.injEq] at h
                    subst h
                    exact takeE_bad he
                  · cases h
    · simp only [Except.error.injEq] at h
      subst h
      exact Or.inl rfl
end

section
open Go.ChangeShapes Go.WideShapes Go.ChangeAt Go.RowKit

/-- Behind an opening bracket. -/
def openX (ts : List Tok) (E : Int) (f i : Nat) (l : List Nod) : Except Flt (Nat × List Nod) := match takeE ts E (i + 1) 3 with
  | .error e => .error e
  | .ok (j, key) =>
    if (formE key.text).1 = 0 then .error (3, key.place)
    else match argsE ts E (exprE ts E f) (formE key.text).2.2.data.toList j ⟨(formE key.text).1, 0, 0, 0, (formE key.text).2.1, ByteArray.empty, ByteArray.empty⟩ l [] with
      | .error e => .error e
      | .ok (j2, n, l2, ks) => match takeE ts E j2 2 with
        | .error e => .error e
        | .ok (j3, _) => .ok (j3, l2 ++ [withKids n ks])

/-- The reading of an expression with so much fuel is as it should be. -/
def ExprC (g cap : Nat) (ts : List Tok) (E : Int) (f : Nat) : Prop := ∀ (i : Nat) (l : List Nod) (v : Value) (B : Nat) (p : Int) (w : World), ts.length + 1 ≤ i + f → i ≤ ts.length → l.length ≤ i → ownNod w B v l → B ≤ w.heap.size → TokAt w g ts → v.ownBlock ≠ some g → 
  Calls Tryz.prog 26 #[stV (some ⟨g, 0, none⟩) ts.length cap i 0 p E, v] w fun e w' => XOut (some ⟨g, 0, none⟩) ts.length cap p E B w v (exprE ts E f i l) e w'

/-- What a token that is taken makes of the state. -/
theorem take_form {a : Option Addr} {n cap i : Nat} {p E k : Int} {ts : List Tok} {e : Ending}
    (he : match takeE ts E i k with
        | .ok (j, t) => e = .returned (.tuple #[stV a n cap (j : Nat) 0 p E, tokV t])
        | .error (c, q) => e = .returned (.tuple #[stV a n cap i c q E, tokV noTok])) :
    ∃ (i' c' q' : Int) (t' : Tok), e = .returned (.tuple #[stV a n cap i' c' q' E, tokV t']) ∧
      ((c' = 0 ∧ p = q' ∧ i' = ((i + 1 : Nat) : Int) ∧ i < ts.length ∧ t' = ts.getD i noTok ∧ takeE ts E i k = .ok (i + 1, t')) ∨ (¬ c' = 0 ∧ t' = noTok ∧ takeE ts E i k = .error (c', q'))) := by
  rcases htk : takeE ts E i k with ⟨c, q⟩ | ⟨j, t⟩
  · rw [htk] at he
    have := takeE_bad htk
    exact ⟨_, _, _, noTok, he, Or.inr ⟨by simp at this; omega, rfl, rfl⟩⟩
  · rw [htk] at he
    obtain ⟨rfl, h1, h2, _⟩ := takeE_ok htk
    exact ⟨_, _, _, t, he, Or.inl ⟨rfl, rfl, rfl, h1, h2, rfl⟩⟩

/-- What a name that is taken makes of the state. -/
theorem nm_case {a : Option Addr} {n cap i : Nat} {p E : Int} {ts : List Tok} {e : Ending}
    (he : match nameE ts E i with
        | .ok (j, s) => e = .returned (.tuple #[stV a n cap (j : Nat) 0 p E, .string s])
        | .error (c, q) => e = .returned (.tuple #[stV a n cap i c q E, .string ⟨#[]⟩])) :
    ∃ (i' c' q' : Int) (s' : ByteArray), e = .returned (.tuple #[stV a n cap i' c' q' E, .string s']) ∧
      ((c' = 0 ∧ p = q' ∧ i' = ((i + 1 : Nat) : Int) ∧ i < ts.length ∧ nameE ts E i = .ok (i + 1, s')) ∨ (¬ c' = 0 ∧ nameE ts E i = .error (c', q'))) := by
  rcases htk : nameE ts E i with ⟨c, q⟩ | ⟨j, s⟩
  · rw [htk] at he
    have := nameE_bad htk
    exact ⟨_, _, _, _, he, Or.inr ⟨by simp at this; omega, rfl⟩⟩
  · rw [htk] at he
    obtain ⟨rfl, h1, h2⟩ := nameE_ok htk
    exact ⟨_, _, _, s, he, Or.inl ⟨rfl, rfl, rfl, h1, rfl⟩⟩

/-- What an expression that is read makes of the state. -/
theorem x_case {a : Option Addr} {n cap i f : Nat} {p E : Int} {B : Nat} {w w' : World} {v : Value} {ts : List Tok} {l : List Nod} {e : Ending} (hf : ts.length + 1 ≤ i + f) (hi : i ≤ ts.length) (hl : l.length ≤ i) (h : XOut a n cap p E B w v (exprE ts E f i l) e w') :
    ∃ (i' c' q' : Int) (v' : Value) (m : List Nod), e = .returned (.tuple #[stV a n cap i' c' q' E, v']) ∧ ownNod w' B v' m ∧ Grew w w' v v' ∧
      ((c' = 0 ∧ p = q' ∧ ∃ j : Nat, i' = (j : Int) ∧ i < j ∧ j ≤ ts.length ∧ m.length ≤ j ∧ exprE ts E f i l = .ok (j, m)) ∨ (¬ c' = 0 ∧ exprE ts E f i l = .error (c', q'))) := by
  rcases hx : exprE ts E f i l with ⟨c, q⟩ | ⟨j, m⟩
  · rw [hx] at h
    obtain ⟨i', v', m, he, ho, hg⟩ := h
    have := exprE_bad ts E f i l _ hf hi hx
    exact ⟨i', c, q, v', m, he, ho, hg, Or.inr ⟨by simp at this; omega, rfl⟩⟩
  · rw [hx] at h
    obtain ⟨v', he, ho, hg⟩ := h
    obtain ⟨h1, h2, h3, h4⟩ := exprE_fair ts E f _ _ _ _ hx
    exact ⟨j, 0, p, v', m, he, ho, hg, Or.inl ⟨rfl, rfl, j, rfl, h1, h2, by omega, rfl⟩⟩

theorem one_new {w : World} {N : Nat} (h : w.heap.size = N) (x : Value) (t : TypeId) : ∀ j u, ([x] : List Value)[j]? = some u → (w.alloc (.cells #[x] t)).cell? ((⟨N, 0, none⟩ : Addr).add j) = some u := by
  intro j u hj
  match j, hj with
  | 0, hj =>
    rw [add_plain, cell_of_row _ _ _ _ _ _ (heap_new_at h)]
    exact hj

theorem nod_row {w : World} {N : Nat} {y0 y1 y2 y3 y4 : Int} {y5 y6 : ByteArray} {t : TypeId} (h : w.heap[N]? = some (.cells (nodCells ⟨y0, y1, y2, y3, y4, y5, y6⟩).toArray t (0, 0))) :
    w.cell? ⟨N, 0, none⟩ = some (.int .i64 y0) ∧ w.cell? ⟨N, 1, none⟩ = some (.int .i64 y1) ∧ w.cell? ⟨N, 2, none⟩ = some (.int .i64 y2) ∧ w.cell? ⟨N, 3, none⟩ = some (.int .i64 y3) ∧ w.cell? ⟨N, 4, none⟩ = some (.int .i64 y4) ∧ w.cell? ⟨N, 5, none⟩ = some (.string y5) ∧ w.cell? ⟨N, 6, none⟩ = some (.string y6) := by
  refine ⟨?_, ?_, ?_, ?_, ?_, ?_, ?_⟩ <;> rw [cell_of_row _ _ _ _ _ _ h] <;> rfl

theorem own_len {w : World} {B : Nat} {v : Value} {l : List Nod} (h : ownNod w B v l) : l.length ≤ 9223372036854775807 := by
  rcases h.2 with ⟨_, h0⟩ | ⟨g, cap, cur, _, _, _, hn, hm, _⟩
  · omega
  · unfold maxLen at hm; omega

theorem XF.gFar {w W : World} {v vx kv : Value} {B N g : Nat} {a : Option Addr} {n cap : Nat} {E : Int} {L : List Nod} {i c q : Int} {nod : Nod} {ks : List Int} (h : XF w v B a n cap E W vx L i c q N nod kv ks) (hv : v.ownBlock ≠ some g) (hg : g < w.heap.size) : vx.ownBlock ≠ some g := fun e => by
  rcases h.xs.grew.2 g e with h1 | h1
  · omega
  · exact hv h1

/-- What stands ahead of the k-th round: so much of the form is read, or a fault was met. -/
def LX (w : World) (v : Value) (B g cap : Nat) (ts : List Tok) (p E : Int) (f i0 N : Nat) (form : ByteArray) (RA : Except Flt (Nat × Nod × List Nod × List Int)) (k : Nat) (W : World) (lv kv : Value) : Prop :=
  ∃ (i c q : Int) (nod : Nod) (L : List Nod) (ks : List Int), XF w v B (some ⟨g, 0, none⟩) ts.length cap E W lv L i c q N nod kv ks ∧ ks.length ≤ k ∧
    ((c = 0 ∧ p = q ∧ ∃ j : Nat, i = (j : Int) ∧ j ≤ ts.length ∧ i0 + 2 ≤ j ∧ L.length ≤ j ∧ argsE ts E (exprE ts E f) (form.data.toList.drop k) j nod L ks = RA) ∨ (¬ c = 0 ∧ RA = .error (c, q)))

theorem wk_step (nod : Nod) (ks : List Int) (k : Nat) (hk : k < ks.length) (h3 : ks.length ≤ 3) :
    ((nodCells (withKids nod (ks.take k))).toArray).setIfInBounds (k + 1) (.int .i64 (ks.getD k 0)) = (nodCells (withKids nod (ks.take (k + 1)))).toArray := by
  obtain ⟨x0, x1, x2, x3, x4, x5, x6⟩ := nod
  match ks, k, hk, h3 with
  | [a], 0, _, _ => rfl
  | [a, b], 0, _, _ => rfl
  | [a, b], 1, _, _ => rfl
  | [a, b, c], 0, _, _ => rfl
  | [a, b, c], 1, _, _ => rfl
  | [a, b, c], 2, _, _ => rfl

theorem wk_end (nod : Nod) (ks : List Int) : withKids nod (ks.take ks.length) = withKids nod ks := by rw [List.take_length]

theorem empty_yes {s : ByteArray} (h : s.size = 0) : s.toList.isEmpty = true := by
  rw [Lib.toList_data, List.isEmpty_iff_length_eq_zero, Array.length_toList]
  exact h
theorem empty_no {s : ByteArray} (h : ¬ s.size = 0) : s.toList.isEmpty = false := by
  rw [Lib.toList_data, Bool.eq_false_iff, ne_eq, List.isEmpty_iff_length_eq_zero, Array.length_toList]
  exact h

theorem drop_byte {s : ByteArray} {k : Nat} (h : k < s.size) : s.data.toList.drop k = s[k] :: s.data.toList.drop (k + 1) := by
  have h' : k < s.data.toList.length := by rw [Array.length_toList]; exact h
  rw [List.drop_eq_getElem_cons h']
  congr 1

theorem formE_nil : formE ⟨#[]⟩ = (0, 0, ⟨#[]⟩) := by
  unfold formE
  simp only [Lib.toList_data]
  rfl

set_option maxHeartbeats 4000000 in
set_option maxRecDepth 20000 in
theorem spec_x_open (f g cap i : Nat) (p E : Int) (ts : List Tok) (ih : ExprC g cap ts E f) (hf : ts.length + 1 ≤ i + (f + 1)) (tx : ByteArray) (tn tp : Int) (hi : i < ts.length) (hc : ts.length ≤ 1048576) (v : Value) (B : Nat) (l : List Nod) (w : World) (hown : ownNod w B v l) (hB : B ≤ w.heap.size) (hl : l.length ≤ i)
    (hTA : TokAt w g ts) (hgv : v.ownBlock ≠ some g) (hT : TokIn w g i ⟨1, tx, tn, tp⟩) :
    Calls Tryz.prog 26 #[stV (some ⟨g, 0, none⟩) ts.length cap i 0 p E, v] w fun e w' => XOut (some ⟨g, 0, none⟩) ts.length cap p E B w v (openX ts E f i l) e w' := by
  have hi' : (i : Int) < ts.length := by omega
  have IH : Hid (ExprC g cap ts E f) := ih
  have HFu : Hid (ts.length + 1 ≤ i + (f + 1)) := hf
  have HB : Hid (B ≤ w.heap.size) := hB
  have HL : Hid (l.length ≤ i) := hl
  have HGV : Hid (v.ownBlock ≠ some g) := hgv
  have HTA : Hid (TokAt w g ts) := hTA
  have t0 : w.cell? ⟨g, i * 4, none⟩ = some (.int .i64 1) := hT.c0
  have t1 : w.cell? ⟨g, i * 4 + 1, none⟩ = some (.string tx) := hT.c1
  have t2 : w.cell? ⟨g, i * 4 + 2, none⟩ = some (.int .i64 tn) := hT.c2
  have t3 : w.cell? ⟨g, i * 4 + 3, none⟩ = some (.int .i64 tp) := hT.c3
  have hg := cell_lt' t0
  obtain ⟨R, hR⟩ : ∃ R, openX ts E f i l = R := ⟨_, rfl⟩
  rw [hR]
  have HR : Hid (_) := hR
  obtain ⟨W0, hW0⟩ : ∃ W0, (((w.alloc (.cells (stR (some ⟨g, 0, none⟩) ts.length cap ((i : Int) + 1) 0 p E) 61)).alloc (.cells (stR none 0 0 0 0 0 0) 61)).alloc (.cells (tokR 1 tx tn tp) 66)) = W0 := ⟨_, rfl⟩
  have HW : Hid (_) := hW0
  have HX1 : Hid (XS w v B (some ⟨g, 0, none⟩) ts.length cap E W0 v l ((i : Int) + 1) 0 p) := by
    rw [← hW0]
    exact (XS.start hown).alloc _
  have H3 : Hid (∀ h : i + 1 < ts.length, w.cell? ⟨g, (i + 1) * 4 + 3, none⟩ = some (.int .i64 (ts.getD (i + 1) noTok).place)) := fun h => (hTA (i + 1) h).c3
  clear hown hB hl hT hTA hgv hW0 hR ih hf
  obtain ⟨at0, hat⟩ : ∃ at0 : Int, (if i + 1 < ts.length then (ts.getD (i + 1) noTok).place else E) = at0 := ⟨_, rfl⟩
  have HAT : Hid (_) := hat
  clear hat
  by_cases hi2 : i + 1 < ts.length
  · have hi3 : (i : Int) + 1 < ts.length := by omega
    have t7 := H3.out hi2
    have ha := HAT.out
    rw [if_pos hi2] at ha
    rw [ha] at t7
    have t8 := (World.cell?_of_block (a := ⟨g, (i + 1) * 4 + 3, none⟩) ((below3 w (.cells (stR (some ⟨g, 0, none⟩) ts.length cap ((i : Int) + 1) 0 p E) 61) (.cells (stR none 0 0 0 0 0 0) 61) (.cells (tokR 1 tx tn tp) 66)).block g hg)).trans t7
    clear ha t7
    go_enter Tryz.func26, Tryz.ntmps26
    go_wp2_with fail
    rw [HW.out]
    refine (spec_take (some ⟨g, 0, none⟩) g ts.length cap (i + 1) p E 3 ts rfl hc (fun _ => rfl) W0 (HX1.out.toks HTA.out HGV.out)).mono ?_
    rintro e w1 ⟨he, b1⟩
    obtain ⟨i', c', q', ⟨kd, ktx, ktn, ktp⟩, rfl, hcase⟩ := take_form he
    have HC : Hid (_) := hcase
    have HX2 : Hid (XS w v B (some ⟨g, 0, none⟩) ts.length cap E w1 v l ((i : Int) + 1) 0 p) := HX1.out.below b1
    clear he hcase b1 HW HX1 t0 t1 t2 t3 t8
    obtain ⟨⟨p0, p1, p2, p3, p4, p5⟩, q0, q1, q2, q3, q4, q5⟩ := HX2.out.cells
    clear q0 q1 q2 q3 q4 q5
    have z1 := HX2.out.size
    have z0 : w.heap.size < w1.heap.size := by omega
    obtain ⟨W2, hW2⟩ : ∃ W2, (putQ w1 w.heap.size (some ⟨g, 0, none⟩) ts.length cap i' c' q' E).alloc (.cells (tokR kd ktx ktn ktp) 66) = W2 := ⟨_, rfl⟩
    have HW2 : Hid (_) := hW2
    have HX3 : Hid (XS w v B (some ⟨g, 0, none⟩) ts.length cap E W2 v l i' c' q') := by
      rw [← hW2]
      exact (HX2.out.setP i' c' q').alloc _
    clear hW2
    go_wp2_with fail
    rw [HW2.out]
    refine (spec_form ktx W2).mono ?_
    rintro e w2 ⟨rfl, rfl⟩
    clear p0 p1 p2 p3 p4 p5 HW2 HX2 z1 z0
    obtain ⟨⟨p0, p1, p2, p3, p4, p5⟩, q0, q1, q2, q3, q4, q5⟩ := HX3.out.cells
    rcases HC.out with ⟨rfl, rfl, rfl, hlt, htk, hok⟩ | ⟨hc0, htk, hbad⟩
    · have hat : at0 = ktp := by
        have h := HAT.out
        rw [if_pos hi2, ← htk] at h
        exact h.symm
      subst hat
      obtain ⟨⟨K, op, form⟩, hfm⟩ : ∃ F, formE ktx = F := ⟨_, rfl⟩
      have hsz : form.size ≤ 5 := by
        have := formE_len ktx
        rw [hfm] at this
        exact this
      have HKD : Hid (nExpr form.data.toList ≤ 3) := by
        have := formE_kids ktx
        rw [hfm] at this
        exact this
      have HR1 := HR.out
      unfold openX at HR1
      rw [hok] at HR1
      simp only [hfm] at HR1
      rw [hfm]
      clear hok hfm htk HC HR HAT H3
      by_cases hK : K = 0
      · rw [if_pos hK] at HR1
        have HRB : Hid (R = .error (3, at0)) := HR1.symm
        clear HR1
        subst hK
        go_wp2_with fail
        refine (spec_fail _ ts.length cap _ p E 3 at0 _).mono ?_
        rintro e w5 ⟨rfl, b5⟩
        have HX5 : Hid (XS w v B (some ⟨g, 0, none⟩) ts.length cap E w5 v l ((i + 1 + 1 : Nat) : Int) 0 p) := HX3.out.below b5
        clear p0 p1 p2 p3 p4 p5 q0 q1 q2 q3 q4 q5 b5
        obtain ⟨⟨p0, p1, p2, p3, p4, p5⟩, q0, q1, q2, q3, q4, q5⟩ := HX5.out.cells
        go_wp2
        obtain ⟨f0, f1, f2⟩ := HX5.out.back ((i + 1 + 1 : Nat) : Int) 3 at0
        refine bodyPost_ret (results_row_tmp rfl _ _ (w.heap.size + 1) _ v rfl f0 rfl) rfl ?_
        rw [HRB.out]
        exact ⟨_, v, l, rfl, f1, f2⟩
      · rw [if_neg hK] at HR1
        have hKf : (K == 0) = false := beq_eq_false_iff_ne.2 hK
        clear hK
        obtain ⟨RA, hRA⟩ : ∃ RA, argsE ts E (exprE ts E f) form.data.toList (i + 1 + 1) ⟨K, 0, 0, 0, op, ByteArray.empty, ByteArray.empty⟩ l [] = RA := ⟨_, rfl⟩
        rw [hRA] at HR1
        have HR : Hid (_) := HR1
        have HRA : Hid (_) := hRA
        clear HR1 hRA
        obtain ⟨W4, hW4⟩ : ∃ W4, ((w2.alloc (.cells (nodCells ⟨K, 0, 0, 0, op, ⟨#[]⟩, ⟨#[]⟩⟩).toArray 58)).alloc (.cells #[] 3)) = W4 := ⟨_, rfl⟩
        have HW4 : Hid (_) := hW4
        have HX4 : Hid (XF w v B (some ⟨g, 0, none⟩) ts.length cap E W4 v l ((i + 1 + 1 : Nat) : Int) 0 p w2.heap.size ⟨K, 0, 0, 0, op, ⟨#[]⟩, ⟨#[]⟩⟩ (.slice (some ⟨w2.heap.size + 1, 0, none⟩) 0 0) []) := by
          rw [← hW4]
          exact XF.start HX3.out (fun k hk => by have := HX3.out.low k hk; have := HX3.out.size; omega)
        clear hW4
        go_wp2
        rw [show ((w2.alloc (.cells #[.int .i64 K, .int .i64 0, .int .i64 0, .int .i64 0, .int .i64 op, .string ⟨#[]⟩, .string ⟨#[]⟩] 58)).alloc (.cells #[] 3)) = W4 from HW4.out]
        have HLX : Hid (LX w v B g cap ts p E f i w2.heap.size form RA 0 W4 v (.slice (some ⟨w2.heap.size + 1, 0, none⟩) 0 0)) :=
          ⟨_, _, _, _, _, _, HX4.out, by simp, Or.inl ⟨rfl, rfl, i + 1 + 1, rfl, by omega, by omega, by have := HL.out; omega, by rw [List.drop_zero]; exact HRA.out⟩⟩
        clear HW4 p0 p1 p2 p3 p4 p5 q0 q1 q2 q3 q4 q5 HX4 HX3
        generalize w2.heap.size = N at *
        go_loopg [1, 15, 16] form.size (fun gk lv kv k wr => ∃ kk : Nat, kk ≤ form.size ∧ gk = form.size - kk ∧ k = .int .i64 kk ∧ Hid (LX w v B g cap ts p E f i N form RA kk wr lv kv))
        case atStart => exact ⟨0, by omega, by omega, rfl, HLX⟩
        case round =>
          clear HLX
          obtain ⟨kk, hkk, hgk, rfl, hlx⟩ := hrel
          have HGK : Hid (_) := hgk
          clear hgk
          obtain ⟨i1, cc, qq, nod, L, ks, hXF, hks, hcase⟩ := hlx.out
          clear hlx
          have HXF : Hid (_) := hXF
          obtain ⟨⟨p0, p1, p2, p3, p4, p5⟩, q0, q1, q2, q3, q4, q5⟩ := hXF.xs.cells
          clear q0 q1 q2 q3 q4 q5
          rcases hcase with ⟨rfl, rfl, j, rfl, hj, hj2, hLj, hargs⟩ | ⟨hc1, hbadA⟩
          · have HAR : Hid (_) := hargs
            clear hargs
            by_cases hin : kk < form.size
            · have hin' : (kk : Int) < form.size := by omega
              rw [drop_byte hin, argsE] at HAR
              by_cases hb : form[kk] = 110
              · have hb' : (form[kk].toNat : Int) = 110 := by rw [hb]; rfl
                rw [if_pos hb] at HAR
                clear hb hXF
                go_wp2_with fail
                refine (spec_nm (some ⟨g, 0, none⟩) g ts.length cap j p E ts rfl hc (fun _ => rfl) _ (HXF.out.xs.toks HTA.out HGV.out)).mono ?_
                rintro e w6 ⟨he, b6⟩
                obtain ⟨i6, c6, q6, s6, rfl, h6⟩ := nm_case he
                have H6 : Hid (_) := h6
                have HX6 : Hid (XF w v B (some ⟨g, 0, none⟩) ts.length cap E w6 u1 L j 0 p N nod u15 ks) := HXF.out.below b6
                clear he h6 b6 p0 p1 p2 p3 p4 p5 HXF
                obtain ⟨⟨p0, p1, p2, p3, p4, p5⟩, q0, q1, q2, q3, q4, q5⟩ := HX6.out.xs.cells
                clear q0 q1 q2 q3 q4 q5
                obtain ⟨n0, n1, n2, n3, n4, n5, n6, n7⟩ := HX6.out.cells
                have z1 := HX6.out.xs.size
                have z0 : w.heap.size < w6.heap.size := by omega
                have z2 := HX6.out.lt
                have z3 := HX6.out.wn
                by_cases hnm : nod.name.size = 0
                · have hne := empty_yes hnm
                  have HLX : Hid (LX w v B g cap ts p E f i N form RA (kk + 1) (((putQ w6 w.heap.size (some ⟨g, 0, none⟩) ts.length cap i6 c6 q6 E).setCell ⟨N, 5, none⟩ (.string s6)).alloc (.cells (stR (some ⟨g, 0, none⟩) ts.length cap i6 c6 q6 E) 61)) u1 u15) := by
                    refine ⟨i6, c6, q6, { nod with name := s6 }, L, ks, ((HX6.out.setP i6 c6 q6).setN 5 (.string s6) rfl).alloc _, by omega, ?_⟩
                    have h := HAR.out
                    rcases H6.out with ⟨a1, a2, a3, a4, a5⟩ | ⟨a1, a2⟩
                    · rw [a5] at h
                      simp only [hnm, if_true] at h
                      exact Or.inl ⟨a1, a2, j + 1, a3, by omega, by omega, by omega, h⟩
                    · rw [a2] at h
                      exact Or.inr ⟨a1, h.symm⟩
                  clear hnm HAR H6 HX6
                  go_wp2
                  go_roundg (form.size - (kk + 1))
                  case rel => exact ⟨kk + 1, by omega, rfl, by go_num, HLX⟩
                  case measure => have := HGK.out; omega
                · have hne := empty_no hnm
                  have HLX : Hid (LX w v B g cap ts p E f i N form RA (kk + 1) (((putQ w6 w.heap.size (some ⟨g, 0, none⟩) ts.length cap i6 c6 q6 E).setCell ⟨N, 6, none⟩ (.string s6)).alloc (.cells (stR (some ⟨g, 0, none⟩) ts.length cap i6 c6 q6 E) 61)) u1 u15) := by
                    refine ⟨i6, c6, q6, { nod with other := s6 }, L, ks, ((HX6.out.setP i6 c6 q6).setN 6 (.string s6) rfl).alloc _, by omega, ?_⟩
                    have h := HAR.out
                    rcases H6.out with ⟨a1, a2, a3, a4, a5⟩ | ⟨a1, a2⟩
                    · rw [a5] at h
                      simp only [hnm, if_false] at h
                      exact Or.inl ⟨a1, a2, j + 1, a3, by omega, by omega, by omega, h⟩
                    · rw [a2] at h
                      exact Or.inr ⟨a1, h.symm⟩
                  clear hnm HAR H6 HX6
                  go_wp2
                  go_roundg (form.size - (kk + 1))
                  case rel => exact ⟨kk + 1, by omega, rfl, by go_num, HLX⟩
                  case measure => have := HGK.out; omega
              · have hb' : ¬ (form[kk].toNat : Int) = 110 := fun h => hb (UInt8.toNat_inj.1 (by show form[kk].toNat = 110; omega))
                rw [if_neg hb] at HAR
                clear hb hXF
                go_wp2_with fail
                refine (IH.out j L u1 B p _ (by have := HFu.out; omega) hj hLj HXF.out.xs.own (by have := HXF.out.xs.size; have := HB.out; omega) (HXF.out.xs.toks HTA.out HGV.out) (HXF.out.gFar HGV.out hg)).mono ?_
                rintro e w6 he
                obtain ⟨i6, c6, q6, v6, L6, rfl, ho6, hg6, h6⟩ := x_case (by have := HFu.out; omega) hj hLj he
                have H6 : Hid (_) := h6
                have HX6 : Hid (XF w v B (some ⟨g, 0, none⟩) ts.length cap E w6 v6 L6 j 0 p N nod u15 ks) := HXF.out.grow ho6 hg6
                obtain ⟨a6, g6, cap6, sp6, rfl, _⟩ := ownNod_form ho6
                have hL6 : (L6.length : Int) ≤ 9223372036854775807 := by have := own_len ho6; omega
                clear he h6 ho6 hg6 p0 p1 p2 p3 p4 p5 HXF
                obtain ⟨⟨p0, p1, p2, p3, p4, p5⟩, q0, q1, q2, q3, q4, q5⟩ := HX6.out.xs.cells
                clear q0 q1 q2 q3 q4 q5
                have z1 := HX6.out.xs.size
                have z0 : w.heap.size < w6.heap.size := by omega
                obtain ⟨i0, hii, hz0, hz1, hz2⟩ := info_parts info_num
                have HX7 : Hid (XF w v B (some ⟨g, 0, none⟩) ts.length cap E ((putQ w6 w.heap.size (some ⟨g, 0, none⟩) ts.length cap i6 c6 q6 E).alloc (.cells (stR (some ⟨g, 0, none⟩) ts.length cap i6 c6 q6 E) 61)) (.slice a6 L6.length cap6) L6 i6 c6 q6 N nod u15 ks) := (HX6.out.setP i6 c6 q6).alloc _
                have hks5 : ks.length ≤ 5 := by omega
                go_wp2_with (at_builtin; refine wpList_append_at _ rfl _ _ 54 rfl (N + 1) 3 i0 _ 1 8 Tryz.underlying54 hii hz0 hz1 hz2 rfl (by decide) _ _ _ rfl (HX7.out.kid.alloc _) ⟨w6.heap.size + 1, 0, none⟩ 1 1 [.int .i64 ((L6.length : Int) - 1)] rfl rfl ?a1 ?a2 ?a6 ?a3 ?a4 ?a5 ?_)
                case a1 => exact one_new (by simp [World.setCell]) _ _
                case a2 => intro u hu; simp at hu; subst hu; rfl
                case a3 => unfold maxLen; omega
                case a4 => omega
                case a5 => have := HX7.out.lt; simp at this ⊢; omega
                case a6 => omega
                intro kv7 w7 ho7 hg7
                have HLX : Hid (LX w v B g cap ts p E f i N form RA (kk + 1) w7 (.slice a6 L6.length cap6) kv7) := by
                  refine ⟨i6, c6, q6, nod, L6, ks ++ [(L6.length : Int) - 1], HX7.out.more _ ho7 rfl rfl hg7, by simp; omega, ?_⟩
                  have h := HAR.out
                  rcases H6.out with ⟨a1, a2, j6, a3, a4, a5, a7, a8⟩ | ⟨a1, a2⟩
                  · rw [a8] at h
                    exact Or.inl ⟨a1, a2, j6, a3, a5, by omega, a7, h⟩
                  · rw [a2] at h
                    exact Or.inr ⟨a1, h.symm⟩
                clear HAR H6 HX6 HX7 ho7 hg7
                go_wp2
                go_roundg (form.size - (kk + 1))
                case rel => exact ⟨kk + 1, by omega, rfl, by go_num, HLX⟩
                case measure => have := HGK.out; omega
            · obtain rfl : kk = form.size := by omega
              have hd : form.data.toList.drop form.size = [] := List.drop_eq_nil_of_le (by rw [Array.length_toList]; exact Nat.le_refl _)
              rw [hd, argsE] at HAR
              have h3 : ks.length ≤ 3 := by
                have h1 := HRA.out
                rw [← HAR.out] at h1
                have h2 := argsE_kids _ _ _ _ _ _ _ _ _ h1
                have := HKD.out
                simp at h2
                omega
              have HR2 := HR.out
              rw [← HAR.out] at HR2
              simp only at HR2
              have HR3 : Hid (_) := HR2
              clear HR2 HAR hd HRA HR HKD hXF
              go_wp2_with fail
              refine (spec_take (some ⟨g, 0, none⟩) g ts.length cap j p E 2 ts rfl hc (fun _ => rfl) _ (HXF.out.xs.toks HTA.out HGV.out)).mono ?_
              rintro e w8 ⟨he, b8⟩
              obtain ⟨i8, c8, q8, t8, rfl, h8⟩ := take_form he
              have HX8 : Hid (XF w v B (some ⟨g, 0, none⟩) ts.length cap E w8 u1 L j 0 p N nod u15 ks) := HXF.out.below b8
              clear he b8 p0 p1 p2 p3 p4 p5 HXF
              obtain ⟨⟨p0, p1, p2, p3, p4, p5⟩, q0, q1, q2, q3, q4, q5⟩ := HX8.out.xs.cells
              have z1 := HX8.out.xs.size
              have z0 : w.heap.size < w8.heap.size := by omega
              rcases h8 with ⟨rfl, rfl, rfl, hlt8, _, hok8⟩ | ⟨hc8, _, hbad8⟩
              · have HRK : Hid (R = .ok (j + 1, L ++ [withKids nod ks])) := by
                  have h := HR3.out
                  rw [hok8] at h
                  exact h.symm
                obtain ⟨ak, capk, rfl⟩ := ownK_form HX8.out.kid
                have HX9 : Hid (XF w v B (some ⟨g, 0, none⟩) ts.length cap E (putQ w8 w.heap.size (some ⟨g, 0, none⟩) ts.length cap ((j : Int) + 1) 0 p E) u1 L ((j : Int) + 1) 0 p N (withKids nod (ks.take 0)) (.slice ak ks.length capk) ks) := HX8.out.setP _ _ _
                clear HR3 hok8 HX8
                obtain ⟨W9, hW9⟩ : ∃ W9, putQ w8 w.heap.size (some ⟨g, 0, none⟩) ts.length cap ((j : Int) + 1) 0 p E = W9 := ⟨_, rfl⟩
                have HW9 : Hid (_) := hW9
                rw [hW9] at HX9
                clear hW9
                go_wp2
                have hw9 := HW9.out
                unfold putQ at hw9
                rw [hw9]
                clear hw9 HW9 p0 p1 p2 p3 p4 p5 q0 q1 q2 q3 q4 q5 z0 z1
                go_loopg [21] ks.length (fun gk k wr => ∃ kk : Nat, kk ≤ ks.length ∧ gk = ks.length - kk ∧ k = .int .i64 kk ∧ Hid (XF w v B (some ⟨g, 0, none⟩) ts.length cap E wr u1 L ((j : Int) + 1) 0 p N (withKids nod (ks.take kk)) (.slice ak ks.length capk) ks))
                case atStart => exact ⟨0, by omega, by omega, rfl, HX9⟩
                case round =>
                  clear HX9
                  obtain ⟨kk, hkk, hgk, rfl, HXF⟩ := hrel
                  have HGK : Hid (_) := hgk
                  clear hgk
                  by_cases hin : kk < ks.length
                  · obtain ⟨gk2, capk2, hkv, hcl⟩ := ownK_cells HXF.out.kid (by omega)
                    cases hkv
                    have kc := hcl kk hin
                    have HS : Hid (_) := HXF.out.setN (kk + 1) (.int .i64 (ks.getD kk 0)) (wk_step nod ks kk hin h3)
                    obtain ⟨n0, n1, n2, n3, n4, n5, n6, n7⟩ := HXF.out.cells
                    have hin' : (kk : Int) < ks.length := by omega
                    generalize ks.getD kk 0 = kx at kc HS
                    clear hcl HXF
                    rcases (by omega : kk = 0 ∨ kk = 1 ∨ kk = 2) with rfl | rfl | rfl
                    · go_wp2
                      go_roundg (ks.length - 1)
                      case rel => exact ⟨1, by omega, rfl, by go_num, HS⟩
                      case measure => have := HGK.out; omega
                    · go_wp2
                      go_roundg (ks.length - 2)
                      case rel => exact ⟨2, by omega, rfl, by go_num, HS⟩
                      case measure => have := HGK.out; omega
                    · go_wp2
                      go_roundg (ks.length - 3)
                      case rel => exact ⟨3, by omega, rfl, by go_num, HS⟩
                      case measure => have := HGK.out; omega
                  · obtain rfl : kk = ks.length := by omega
                    rw [List.take_length] at HXF
                    have hLc : L.length ≤ 1048576 := by omega
                    obtain ⟨nd, hnd⟩ : ∃ nd, withKids nod ks = nd := ⟨_, rfl⟩
                    rw [hnd] at HXF HRK
                    clear hnd
                    obtain ⟨y0, y1, y2, y3, y4, y5, y6⟩ := nd
                    obtain ⟨i0, hii, hz0, hz1, hz2⟩ := info_parts info_nod
                    go_wp2
                    obtain ⟨⟨p0, p1, p2, p3, p4, p5⟩, q0, q1, q2, q3, q4, q5⟩ := HXF.out.xs.cells
                    obtain ⟨n0, n1, n2, n3, n4, n5, n6, n7⟩ := HXF.out.cells
                    have z1 := HXF.out.xs.size
                    have z0 : w.heap.size < wr.heap.size := by omega
                    have z2 := HXF.out.lt
                    go_region_law (refine step_append_at rfl (.tmp 226) (.tmp 228) 24 rfl B 58 i0 _ 7 72 Tryz.underlying24 hii hz0 hz1 hz2 rfl (by decide) u1 _ _ (by simp [Act.eval]) (HXF.out.xs.drew.alloc _).own ⟨wr.heap.size, 0, none⟩ 1 1 (nodCells ⟨y0, y1, y2, y3, y4, y5, y6⟩) (by simp [Act.eval]) rfl (nod_at (heap_new_at rfl)) (nod_one _) (by decide) (by unfold maxLen; omega) (by omega) (by have := HB.out; simp <;> omega) ?_; intro v' w3 hown' hgr; have HH : Hid (_) := HXF.out.xs.more hown' hgr; have HO : Hid (_) := hown'; obtain ⟨p0, p1, p2, p3, p4, p5⟩ := st_row HH.out.1; obtain ⟨q0, q1, q2, q3, q4, q5⟩ := st_row HH.out.2.1; obtain ⟨n0, n1, n2, n3, n4, n5, n6⟩ := nod_row ((hgr.1.block N (by simp <;> omega) (fun e => HXF.out.farN N e.symm rfl)).trans (((Below.refl _ wr.drew).alloc (Nat.le_refl _) _).block N (by show N < wr.heap.size; omega) |>.trans HXF.out.nd)); clear hown' hgr)
                    all_goals
                      go_wp2
                      refine bodyPost_ret (results_row_tmp rfl _ _ (w.heap.size + 1) _ v' rfl (st_put HH.out.2.1 (some ⟨g, 0, none⟩) ts.length cap ((j : Int) + 1) 0 p E) rfl) rfl ?_
                      obtain ⟨f1, f2⟩ := x_fin HH.out.2.2.1 HH.out.2.2.2 HXF.out.xs.low (ownNod_next ⟨y0, y1, y2, y3, y4, y5, y6⟩ HO.out rfl rfl) (some ⟨g, 0, none⟩) ts.length cap ((j : Int) + 1) 0 p E
                      rw [HRK.out]
                      exact ⟨v', by rw [Int.natCast_add]; rfl, f1, f2⟩
              · have HRB : Hid (R = .error (c8, q8)) := by
                  have h := HR3.out
                  rw [hbad8] at h
                  exact h.symm
                clear HR3 hbad8
                go_wp2
                obtain ⟨f0, f1, f2⟩ := (HX8.out.setP i8 c8 q8).xs.back i8 c8 q8
                refine bodyPost_ret (results_row_tmp rfl _ _ (w.heap.size + 1) _ u1 rfl f0 rfl) rfl ?_
                rw [HRB.out]
                exact ⟨i8, u1, L, rfl, f1, f2⟩
          · have HRB : Hid (R = .error (cc, qq)) := by
              have h := HR.out
              rw [hbadA] at h
              exact h.symm
            clear HR HRA hbadA hXF HKD
            have hk2 : (kk : Int) < form.size ∨ ¬ (kk : Int) < form.size := by omega
            rcases hk2 with hin' | hin'
            all_goals
              go_wp2_with fail
              refine (spec_take_off _ _ _ i1 cc qq E 2 hc1 _).mono ?_
              rintro e w8 ⟨rfl, b8⟩
              have HX8 : Hid (XF w v B (some ⟨g, 0, none⟩) ts.length cap E w8 u1 L i1 cc qq N nod u15 ks) := HXF.out.below b8
              clear b8 p0 p1 p2 p3 p4 p5 HXF
              obtain ⟨⟨p0, p1, p2, p3, p4, p5⟩, q0, q1, q2, q3, q4, q5⟩ := HX8.out.xs.cells
              have z1 := HX8.out.xs.size
              have z0 : w.heap.size < w8.heap.size := by omega
              go_wp2
              obtain ⟨f0, f1, f2⟩ := (HX8.out.setP i1 cc qq).xs.back i1 cc qq
              refine bodyPost_ret (results_row_tmp rfl _ _ (w.heap.size + 1) _ u1 rfl f0 rfl) rfl ?_
              rw [HRB.out]
              exact ⟨i1, u1, L, rfl, f1, f2⟩
    · have HRB : Hid (R = .error (c', q')) := by
        have h := HR.out
        rw [openX, hbad] at h
        exact h.symm
      have hk0 : ktx = ⟨#[]⟩ := by
        have := congrArg Tok.text htk
        exact this
      subst hk0
      rw [formE_nil]
      clear htk hbad HC
      obtain ⟨W4, hW4⟩ : ∃ W4, ((w2.alloc (.cells (nodCells ⟨0, 0, 0, 0, 0, ⟨#[]⟩, ⟨#[]⟩⟩).toArray 58)).alloc (.cells #[] 3)) = W4 := ⟨_, rfl⟩
      have HW4 : Hid (_) := hW4
      have HX4 : Hid (XS w v B (some ⟨g, 0, none⟩) ts.length cap E W4 v l i' c' q') := by
        rw [← hW4]
        exact (HX3.out.alloc _).alloc _
      clear hW4
      go_wp2
      rw [show ((w2.alloc (.cells #[.int .i64 0, .int .i64 0, .int .i64 0, .int .i64 0, .int .i64 0, .string ⟨#[]⟩, .string ⟨#[]⟩] 58)).alloc (.cells #[] 3)) = W4 from HW4.out]
      clear HW4 p0 p1 p2 p3 p4 p5 q0 q1 q2 q3 q4 q5
      go_loopw [1, 15, 16] (fun lv kv k wr => v = lv ∧ k = .int .i64 0 ∧ W4 = wr) (fun _ _ _ _ => 0)
      case atStart => exact ⟨rfl, rfl, rfl⟩
      case round =>
        obtain ⟨rfl, rfl, rfl⟩ := hrel
        obtain ⟨⟨p0, p1, p2, p3, p4, p5⟩, q0, q1, q2, q3, q4, q5⟩ := HX4.out.cells
        clear q0 q1 q2 q3 q4 q5
        go_wp2_with fail
        refine (spec_take_off _ _ _ i' c' q' E 2 hc0 _).mono ?_
        rintro e w5 ⟨rfl, b5⟩
        have HX5 : Hid (XS w v B (some ⟨g, 0, none⟩) ts.length cap E w5 v l i' c' q') := HX4.out.below b5
        clear p0 p1 p2 p3 p4 p5
        obtain ⟨⟨p0, p1, p2, p3, p4, p5⟩, q0, q1, q2, q3, q4, q5⟩ := HX5.out.cells
        have z1 := HX5.out.size
        have z0 : w.heap.size < w5.heap.size := by omega
        clear b5
        go_wp2
        obtain ⟨f0, f1, f2⟩ := (HX5.out.setP i' c' q').back i' c' q'
        refine bodyPost_ret (results_row_tmp rfl _ _ (w.heap.size + 1) _ v rfl f0 rfl) rfl ?_
        rw [HRB.out]
        exact ⟨i', v, l, rfl, f1, f2⟩
  · have hi3 : ¬ (i : Int) + 1 < ts.length := by omega
    go_enter Tryz.func26, Tryz.ntmps26
    go_wp2_with fail
    rw [HW.out]
    refine (spec_take (some ⟨g, 0, none⟩) g ts.length cap (i + 1) p E 3 ts rfl hc (fun _ => rfl) W0 (HX1.out.toks HTA.out HGV.out)).mono ?_
    rintro e w1 ⟨he, b1⟩
    obtain ⟨i', c', q', ⟨kd, ktx, ktn, ktp⟩, rfl, hcase⟩ := take_form he
    have HC : Hid (_) := hcase
    have HX2 : Hid (XS w v B (some ⟨g, 0, none⟩) ts.length cap E w1 v l ((i : Int) + 1) 0 p) := HX1.out.below b1
    clear he hcase b1 HW HX1 t0 t1 t2 t3
    obtain ⟨⟨p0, p1, p2, p3, p4, p5⟩, q0, q1, q2, q3, q4, q5⟩ := HX2.out.cells
    clear q0 q1 q2 q3 q4 q5
    have z1 := HX2.out.size
    have z0 : w.heap.size < w1.heap.size := by omega
    obtain ⟨W2, hW2⟩ : ∃ W2, (putQ w1 w.heap.size (some ⟨g, 0, none⟩) ts.length cap i' c' q' E).alloc (.cells (tokR kd ktx ktn ktp) 66) = W2 := ⟨_, rfl⟩
    have HW2 : Hid (_) := hW2
    have HX3 : Hid (XS w v B (some ⟨g, 0, none⟩) ts.length cap E W2 v l i' c' q') := by
      rw [← hW2]
      exact (HX2.out.setP i' c' q').alloc _
    clear hW2
    go_wp2_with fail
    rw [HW2.out]
    refine (spec_form ktx W2).mono ?_
    rintro e w2 ⟨rfl, rfl⟩
    clear p0 p1 p2 p3 p4 p5 HW2 HX2 z1 z0
    obtain ⟨⟨p0, p1, p2, p3, p4, p5⟩, q0, q1, q2, q3, q4, q5⟩ := HX3.out.cells
    rcases HC.out with ⟨_, _, _, hlt, _, _⟩ | ⟨hc0, htk, hbad⟩
    · omega
    · have HRB : Hid (R = .error (c', q')) := by
        have h := HR.out
        rw [openX, hbad] at h
        exact h.symm
      have hk0 : ktx = ⟨#[]⟩ := by
        have := congrArg Tok.text htk
        exact this
      subst hk0
      rw [formE_nil]
      clear htk hbad HC
      obtain ⟨W4, hW4⟩ : ∃ W4, ((w2.alloc (.cells (nodCells ⟨0, 0, 0, 0, 0, ⟨#[]⟩, ⟨#[]⟩⟩).toArray 58)).alloc (.cells #[] 3)) = W4 := ⟨_, rfl⟩
      have HW4 : Hid (_) := hW4
      have HX4 : Hid (XS w v B (some ⟨g, 0, none⟩) ts.length cap E W4 v l i' c' q') := by
        rw [← hW4]
        exact (HX3.out.alloc _).alloc _
      clear hW4
      go_wp2
      rw [show ((w2.alloc (.cells #[.int .i64 0, .int .i64 0, .int .i64 0, .int .i64 0, .int .i64 0, .string ⟨#[]⟩, .string ⟨#[]⟩] 58)).alloc (.cells #[] 3)) = W4 from HW4.out]
      clear HW4 p0 p1 p2 p3 p4 p5 q0 q1 q2 q3 q4 q5
      go_loopw [1, 15, 16] (fun lv kv k wr => v = lv ∧ k = .int .i64 0 ∧ W4 = wr) (fun _ _ _ _ => 0)
      case atStart => exact ⟨rfl, rfl, rfl⟩
      case round =>
        obtain ⟨rfl, rfl, rfl⟩ := hrel
        obtain ⟨⟨p0, p1, p2, p3, p4, p5⟩, q0, q1, q2, q3, q4, q5⟩ := HX4.out.cells
        clear q0 q1 q2 q3 q4 q5
        go_wp2_with fail
        refine (spec_take_off _ _ _ i' c' q' E 2 hc0 _).mono ?_
        rintro e w5 ⟨rfl, b5⟩
        have HX5 : Hid (XS w v B (some ⟨g, 0, none⟩) ts.length cap E w5 v l i' c' q') := HX4.out.below b5
        clear p0 p1 p2 p3 p4 p5
        obtain ⟨⟨p0, p1, p2, p3, p4, p5⟩, q0, q1, q2, q3, q4, q5⟩ := HX5.out.cells
        have z1 := HX5.out.size
        have z0 : w.heap.size < w5.heap.size := by omega
        clear b5
        go_wp2
        obtain ⟨f0, f1, f2⟩ := (HX5.out.setP i' c' q').back i' c' q'
        refine bodyPost_ret (results_row_tmp rfl _ _ (w.heap.size + 1) _ v rfl f0 rfl) rfl ?_
        rw [HRB.out]
        exact ⟨i', v, l, rfl, f1, f2⟩
end

section
open Go.ChangeShapes Go.WideShapes Go.ChangeAt Go.RowKit

theorem tok_kinds {s : ByteArray} {t : Tok} (h : TokOk s t) : t.kind = 1 ∨ t.kind = 2 ∨ t.kind = 3 ∨ t.kind = 4 := by
  rcases h.1 with h | h | h | h
  · exact Or.inl h.1
  · exact Or.inr (Or.inl h.1)
  · exact Or.inr (Or.inr (Or.inl h.1))
  · exact Or.inr (Or.inr (Or.inr h.1))

theorem spec_expr (g cap : Nat) (ts : List Tok) (E : Int) (hc : ts.length ≤ 4000) (hk : ∀ i, i < ts.length → (ts.getD i noTok).kind = 1 ∨ (ts.getD i noTok).kind = 2 ∨ (ts.getD i noTok).kind = 3 ∨ (ts.getD i noTok).kind = 4) : ∀ f, ExprC g cap ts E f
  | 0 => fun i l v B p w hf hi _ _ _ _ _ => by omega
  | f + 1 => fun i l v B p w hf hi hl hown hB hT hgv => by
    rw [exprE]
    by_cases hlt : i < ts.length
    · rw [if_pos hlt]
      have hk0 := hk i hlt
      have hT0 := hT i hlt
      have hn : nameX ts E i l = (match nameE ts E i with | .ok (j, s) => .ok (j, l ++ [⟨1, 0, 0, 0, 0, s, ByteArray.empty⟩]) | .error e => .error e) := rfl
      have ho : openX ts E f i l = _ := rfl
      unfold openX at ho
      obtain ⟨t, ht⟩ : ∃ t, ts.getD i noTok = t := ⟨_, rfl⟩
      rw [ht] at hk0 hT0 ⊢
      obtain ⟨kd, tx, tn, tp⟩ := t
      simp only at hk0 ⊢
      rcases hk0 with rfl | rfl | rfl | rfl
      · rw [if_neg (by decide), if_neg (by decide), if_neg (by decide)]
        exact spec_x_open f g cap i p E ts (spec_expr g cap ts E hc hk f) hf tx tn tp hlt (by omega) v B l w hown hB hl hT hgv hT0
      · rw [if_neg (by decide), if_neg (by decide), if_pos rfl]
        exact spec_x_close g ts.length cap i p E tx tn tp hlt (by omega) v B l w hown hT0
      · rw [if_neg (by decide), if_pos rfl]
        by_cases hnil : tx.data.toList = [110, 105, 108]
        · rw [if_pos hnil]
          obtain rfl : tx = ⟨#[110, 105, 108]⟩ := data_ext hnil
          exact spec_x_nil g ts.length cap i p E tn tp hlt (by omega) v B l w hown hB (by omega) hT0
        · rw [if_neg hnil]
          refine spec_x_name g ts.length cap i p E ts rfl tx tn tp hlt (by omega) v B l w hown hB (by omega) hT hT0 ?_
          rw [beq_eq_false_iff_ne, Lib.toList_data]
          exact hnil
      · rw [if_pos rfl]
        exact spec_x_num g ts.length cap i p E tx tn tp hlt (by omega) v B l w hown hB (by omega) hT0
    · rw [if_neg hlt]
      exact spec_x_end _ ts.length cap i p E (by omega) v B l w hown

theorem spec_top (a : Option Addr) (g cap : Nat) (ts : List Tok) (E : Int) (hc : ts.length ≤ 4000) (ha : 0 < ts.length → a = some ⟨g, 0, none⟩) (hk : ∀ i, i < ts.length → (ts.getD i noTok).kind = 1 ∨ (ts.getD i noTok).kind = 2 ∨ (ts.getD i noTok).kind = 3 ∨ (ts.getD i noTok).kind = 4)
    (v : Value) (B : Nat) (w : World) (hown : ownNod w B v []) (hB : B ≤ w.heap.size) (hT : TokAt w g ts) (hgv : 0 < ts.length → v.ownBlock ≠ some g) :
    Calls Tryz.prog 26 #[stV a ts.length cap 0 0 0 E, v] w fun e w' => XOut a ts.length cap 0 E B w v (exprE ts E (ts.length + 1) 0 []) e w' := by
  by_cases h0 : 0 < ts.length
  · obtain rfl := ha h0
    exact spec_expr g cap ts E hc hk (ts.length + 1) 0 [] v B 0 w (by omega) (by omega) (by simp) hown hB hT (hgv h0)
  · rw [exprE, if_neg h0]
    exact spec_x_end a ts.length cap 0 0 E (by omega) v B [] w hown

/-- No nodes, beside a code. -/
theorem pe_none {s : ByteArray} {w X : World} {ts : List Tok} {n c q : Int} {N : Nat} (hx : Lexes s ts n) (hP : parseR ts n s.size = ([], c, q)) (hb : Below w.heap.size w X) (hN : X.heap.size = N) :
    ParseEnd s w.heap.size (.returned (.tuple #[.slice (some ⟨N, 0, none⟩) 0 0, .int .i64 c, .int .i64 q])) (X.alloc (.cells #[] 58)).drew ∧ Below w.heap.size w (X.alloc (.cells #[] 58)).drew := by
  subst hN
  exact ⟨⟨ts, n, _, hx, by rw [hP]; exact (ownNod_empty hb.size : ownNod (X.alloc (.cells #[] 58)) _ _ _), by rw [hP]⟩, (hb.alloc hb.size _).drew⟩

set_option maxHeartbeats 4000000 in
set_option maxRecDepth 20000 in
theorem spec_parse (s : ByteArray) (hs : s.size ≤ 1048576) (w : World) :
    Calls Tryz.prog 11 #[.string s] w fun e w' => ParseEnd s w.heap.size e w' ∧ Below w.heap.size w w' := by
  have HS : Hid (s.size ≤ 1048576) := hs
  clear hs
  go_enter Tryz.func11, Tryz.ntmps11
  go_wp2_with fail
  refine (lex_spec s w (by have := HS.out; unfold maxLen; omega)).mono ?_
  rintro e w1 ⟨⟨ts, n, v1, hx, ho1, rfl⟩, b1⟩
  have HX : Hid (Lexes s ts n) := hx
  have hlen := lexes_len hx
  have hsg := lexes_sign hx
  have s1 := b1.size
  have B1 : Hid (Below w.heap.size w w1) := b1
  obtain ⟨a1, g1, c1, sp1, rfl, ha1, hT1, hB1, hl1, hr1⟩ := own_form ho1
  have HT1 : Hid (TokAt w1 g1 ts) := hT1
  have HL1 : Hid (0 < ts.length → g1 < w1.heap.size) := hl1
  have HA1 : Hid (0 < ts.length → a1 = some ⟨g1, 0, none⟩) := ha1
  clear hx ho1 hT1 hl1 hr1 ha1 b1 hB1
  by_cases hn : 0 ≤ n
  · have HE : Hid (ownNod (w1.alloc (.cells #[] 58)) w.heap.size (.slice (some ⟨w1.heap.size, 0, none⟩) 0 0) []) := ownNod_empty s1
    have HB2 : Hid (Below w.heap.size w (w1.alloc (.cells #[] 58))) := B1.out.alloc s1 _
    have HP : Hid (parseR ts n s.size = ([], 1, n)) := by
      show parseR ts n s.size = _
      rw [parseR, if_pos hn]
    go_wp2
    go_ret3
    exact ⟨⟨ts, n, _, HX.out, by rw [HP.out]; exact HE.out, by rw [HP.out]; rfl⟩, HB2.out⟩
  · have HP : Hid (parseR ts n s.size = parseE ts s.size) := by
      show parseR ts n s.size = _
      rw [parseR, if_neg hn]
    have hn' : n < 0 := by omega
    have HT0 : Hid (TokAt (w1.alloc (.cells #[] 58)) g1 ts) := fun k hk => (HT1.out k hk).below ((Below.refl _ w1).alloc (Nat.le_refl _) _) (HL1.out (by omega))
    have HO0 : Hid (ownNod (w1.alloc (.cells #[] 58)) w.heap.size (.slice (some ⟨w1.heap.size, 0, none⟩) 0 0) []) := ownNod_empty s1
    go_wp2_with fail
    refine (spec_top a1 g1 c1 ts s.size hlen HA1.out (fun k hk => tok_kinds (lexes_at HX.out k hk)) _ w.heap.size _ HO0.out (by simp; omega) HT0.out (fun h e => by simp [Value.ownBlock] at e; have := HL1.out h; omega)).mono ?_
    rintro e w2 he
    obtain ⟨i', c', q', v', m, rfl, ho2, hg2, hcase⟩ := x_case (by omega) (by omega) (by simp) he
    have B2 : Hid (Below w.heap.size w w2) := (B1.out.alloc s1 _).trans (hg2.below (by simp; omega) (fun k hk => by simp [Value.ownBlock] at hk; omega))
    have HO2 : Hid (ownNod w2 w.heap.size v' m) := ho2
    have HT2 : Hid (TokAt w2 g1 ts) := fun k hk => by
      have hb : w2.heap[g1]? = (w1.alloc (.cells #[] 58)).heap[g1]? := hg2.1.block g1 (cell_lt' (HT0.out k hk).c0) (fun e => by simp [Value.ownBlock] at e; have := HL1.out (by omega); omega)
      exact ⟨(World.cell?_of_block hb).trans (HT0.out k hk).c0, (World.cell?_of_block hb).trans (HT0.out k hk).c1, (World.cell?_of_block hb).trans (HT0.out k hk).c2, (World.cell?_of_block hb).trans (HT0.out k hk).c3⟩
    obtain ⟨a2, g2, cap2, sp2, rfl, _⟩ := ownNod_form ho2
    have hm : (m.length : Int) ≤ 9223372036854775807 := by have := own_len ho2; omega
    have s2 : w1.heap.size ≤ w2.heap.size := by have := hg2.1.size; simp at this; omega
    clear he ho2 hg2 HT0 HO0 HT1 B1
    obtain ⟨W3, hW3⟩ : ∃ W3, w2.alloc (.cells (stR a1 ts.length c1 i' c' q' s.size) 61) = W3 := ⟨_, rfl⟩
    have HW3 : Hid (_) := hW3
    have B3 : Hid (Below w.heap.size w W3) := by rw [← hW3]; exact B2.out.alloc (by omega) _
    have R3 : Hid (W3.heap[w2.heap.size]? = some (.cells (stR a1 ts.length c1 i' c' q' s.size) 61 (0, 0))) := by rw [← hW3]; exact heap_alloc_new w2 _
    have HO3 : Hid (ownNod W3 w.heap.size (.slice a2 m.length cap2) m) := by rw [← hW3]; exact HO2.out.alloc _
    have HT3 : Hid (TokAt W3 g1 ts) := by rw [← hW3]; exact fun k hk => (HT2.out k hk).below ((Below.refl _ w2).alloc (Nat.le_refl _) _) (by have := HL1.out (by omega); omega)
    have s3 : w2.heap.size < W3.heap.size := by rw [← hW3]; simp
    clear hW3 HT2 HO2 B2
    obtain ⟨p0, p1, p2, p3, p4, p5⟩ := st_row R3.out
    rcases hcase with ⟨rfl, rfl, j, rfl, hj0, hj1, hml, hxe⟩ | ⟨hc0, hxe⟩
    · by_cases hjl : j < ts.length
      · have HP2 : Hid (parseR ts n s.size = ([], 4, (ts.getD j noTok).place)) := HP.out.trans (parse_more hxe hjl)
        obtain rfl := HA1.out (by omega)
        have t3 := (HT3.out j hjl).c3
        generalize (ts.getD j noTok).place = tp at t3 HP2
        have hjl' : (j : Int) < ts.length := by omega
        clear hxe HP
        go_wp2
        rw [HW3.out]
        go_region_law (refine step_call rfl 27 #[.tmp 37, .const (.int .i64 4), .tmp 43] #[61, 3, 3] rfl #[stV (some ⟨g1, 0, none⟩) ts.length c1 j 0 0 s.size, .int .i64 4, .int .i64 tp] (by simp [Act.eval]) Tryz.func27 fl_name fl_body _ (spec_fail _ ts.length c1 j 0 s.size 4 tp _) ?_; rintro e w4 ⟨rfl, b4⟩; have r4 := (b4.block w2.heap.size (by show w2.heap.size < W3.heap.size; omega)).trans R3.out; have s4 : w2.heap.size < w4.heap.size := (Array.getElem?_eq_some_iff.1 r4).1; have R4 : Hid (_) := r4; have B4 : Hid (Below w.heap.size w w4) := B3.out.drew.trans (b4.mono (by show w.heap.size ≤ W3.heap.size; omega)); clear p0 p1 p2 p3 p4 p5; obtain ⟨p0, p1, p2, p3, p4, p5⟩ := st_row r4; clear r4 b4; refine ⟨_, rfl, ?_⟩)
        all_goals
          go_wp2
          go_region
          all_goals
            go_wp2
            go_ret3
            exact pe_none HX.out HP2.out (below_put5 B4.out (by omega) _ _ _ _ _) (by simp [World.setCell])
      · by_cases h150 : 150 < m.length
        · have HP2 : Hid (parseR ts n s.size = ([], 5, 0)) := HP.out.trans (parse_great hxe hjl h150)
          have hjl' : ¬ (j : Int) < ts.length := by omega
          have h150' : (150 : Int) < m.length := by omega
          clear hxe HP
          go_wp2_with fail
          rw [HW3.out]
          refine (spec_fail a1 ts.length c1 j 0 s.size 5 0 W3).mono ?_
          rintro e w4 ⟨rfl, b4⟩
          have r4 := (b4.block w2.heap.size (by omega)).trans R3.out
          have s4 : w2.heap.size < w4.heap.size := (Array.getElem?_eq_some_iff.1 r4).1
          have B4 : Hid (Below w.heap.size w w4) := B3.out.trans (b4.mono (by omega))
          clear p0 p1 p2 p3 p4 p5
          obtain ⟨p0, p1, p2, p3, p4, p5⟩ := st_row r4
          clear r4 b4
          go_wp2
          go_region
          all_goals
            go_wp2
            go_ret3
            exact pe_none HX.out HP2.out (below_put5 B4.out (by omega) _ _ _ _ _) (by simp [World.setCell])
        · have HP2 : Hid (parseR ts n s.size = (m, 0, 0)) := HP.out.trans (parse_ok hxe hjl h150)
          have hjl' : ¬ (j : Int) < ts.length := by omega
          have h150' : ¬ (150 : Int) < m.length := by omega
          clear hxe HP
          go_wp2
          rw [HW3.out]
          go_ret3
          exact ⟨⟨ts, n, _, HX.out, by rw [HP2.out]; exact HO3.out, by rw [HP2.out]; rfl⟩, B3.out⟩
    · have HP2 : Hid (parseR ts n s.size = ([], c', q')) := HP.out.trans (parse_bad hxe)
      clear hxe HP
      go_wp2
      rw [HW3.out]
      go_region
      all_goals
        go_wp2
        go_ret3
        exact pe_none HX.out HP2.out B3.out rfl
end
end Go.Proofs.YtobijbhgpgnfkaaGreatDoor
