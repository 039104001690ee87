/-
  Reading a program, the specification's: a fault is noted; a token, a name is taken; forms by their key. Conditions: written at each theorem.
-/
import Derived.Test.YtobijbhgpgnfkaaGreatDoorPm
import Derived.Test.YtobijbhgpgnfkaaGreatDoorRs
namespace Go.Proofs.YtobijbhgpgnfkaaGreatDoor
open Go.ChangeShapes Go.WideShapes Go.ChangeAt Go.RowKit
set_option linter.unusedVariables false

/-- Where the reading is. -/
abbrev stV (a : Option Addr) (n cap : Nat) (i c p E : Int) : Value := .agg #[.slice a n cap, .int .i64 i, .int .i64 c, .int .i64 p, .int .i64 E]
abbrev tokV (t : Tok) : Value := .agg #[.int .i64 t.kind, .string t.text, .int .i64 t.n, .int .i64 t.place]

theorem spec_fail (a : Option Addr) (n cap : Nat) (i p E c q : Int) (w : World) :
    Calls Tryz.prog 27 #[stV a n cap i 0 p E, .int .i64 c, .int .i64 q] w fun e w' => e = .returned (stV a n cap i c q E) ∧ Below w.heap.size w w' := by
  go_enter Tryz.func27, Tryz.ntmps27
  go_wp2
  refine bodyPost_ret (results_cell_row rfl _ _ (w.heap.size + 1) 61 #[.slice a n cap, .int .i64 i, .int .i64 c, .int .i64 q, .int .i64 E] (0, 0) _ rfl ?_ Tryz.underlying61 rfl (by kernel_rfl)) rfl ?_
  · rw [heap_alloc2_new]
  · exact ⟨rfl, ((Below.refl _ w).alloc (Nat.le_refl _) _).alloc (by simp) _⟩

theorem ld_st {w : World} {g : Nat} {a : Option Addr} {n cap : Nat} {i c p E : Int} {t : TypeId} {z : Nat × Nat} (h : w.heap[g]? = some (.cells #[.slice a n cap, .int .i64 i, .int .i64 c, .int .i64 p, .int .i64 E] t z)) :
    (loadVar 61 ⟨g, 0, none⟩).run Tryz.prog w = .ok (stV a n cap i c p E) w := run_loadVar_row w g t 61 _ z _ h Tryz.underlying61 rfl (by kernel_rfl)

theorem ld_tok {w : World} {g : Nat} {k : Int} {s : ByteArray} {n p : Int} {t : TypeId} {z : Nat × Nat} (h : w.heap[g]? = some (.cells #[.int .i64 k, .string s, .int .i64 n, .int .i64 p] t z)) :
    (loadVar 66 ⟨g, 0, none⟩).run Tryz.prog w = .ok (.agg #[.int .i64 k, .string s, .int .i64 n, .int .i64 p]) w := run_loadVar_row w g t 66 _ z _ h Tryz.underlying66 rfl (by kernel_rfl)

theorem alloc3_1 (w : World) (A B C : Obj) : (((w.alloc A).alloc B).alloc C).heap[w.heap.size + 1]? = some B := by
  rw [Below.heap_alloc _ _ _ (by simp), heap_alloc2_new]
theorem alloc3_2 (w : World) (A B C : Obj) : (((w.alloc A).alloc B).alloc C).heap[w.heap.size + 1 + 1]? = some C := by
  have h := heap_alloc_new ((w.alloc A).alloc B) C
  simpa using h
theorem alloc3_0 (w : World) (A B C : Obj) : (((w.alloc A).alloc B).alloc C).heap[w.heap.size]? = some A := by
  rw [Below.heap_alloc _ _ _ (by simp <;> omega), heap_alloc2_old]

theorem below3 (w : World) (A B C : Obj) : Below w.heap.size w (((w.alloc A).alloc B).alloc C) := (((Below.refl _ w).alloc (Nat.le_refl _) _).alloc (by simp) _).alloc (by simp <;> omega) _

theorem alloc4_1 (w : World) (A B C D : Obj) : ((((w.alloc A).alloc B).alloc C).alloc D).heap[w.heap.size + 1]? = some B := by
  rw [Below.heap_alloc _ _ _ (by simp <;> omega), alloc3_1]
theorem alloc4_2 (w : World) (A B C D : Obj) : ((((w.alloc A).alloc B).alloc C).alloc D).heap[w.heap.size + 1 + 1]? = some C := by
  rw [Below.heap_alloc _ _ _ (by simp), alloc3_2]
theorem below4 (w : World) (A B C D : Obj) : Below w.heap.size w ((((w.alloc A).alloc B).alloc C).alloc D) := (below3 w A B C).alloc (by simp <;> omega) _

theorem st_row {w : World} {g : Nat} {a : Option Addr} {n cap : Nat} {i c p E : Int} {t : TypeId} (h : w.heap[g]? = some (.cells #[.slice a n cap, .int .i64 i, .int .i64 c, .int .i64 p, .int .i64 E] t (0, 0))) :
    w.cell? ⟨g, 0, none⟩ = some (.slice a n cap) ∧ w.cell? ⟨g, 1, none⟩ = some (.int .i64 i) ∧ w.cell? ⟨g, 2, none⟩ = some (.int .i64 c) ∧ w.cell? ⟨g, 3, none⟩ = some (.int .i64 p) ∧ w.cell? ⟨g, 4, none⟩ = some (.int .i64 E) ∧ ∀ j, w.frozen? ⟨g, j, none⟩ = false := by
  refine ⟨?_, ?_, ?_, ?_, ?_, fun j => frozen_of_row w _ _ _ _ h⟩ <;> (rw [cell_of_row _ _ _ _ _ _ h]; rfl)

theorem tok_row {w : World} {g : Nat} {k : Int} {s : ByteArray} {n p : Int} {t : TypeId} (h : w.heap[g]? = some (.cells #[.int .i64 k, .string s, .int .i64 n, .int .i64 p] t (0, 0))) :
    w.cell? ⟨g, 0, none⟩ = some (.int .i64 k) ∧ w.cell? ⟨g, 1, none⟩ = some (.string s) ∧ w.cell? ⟨g, 2, none⟩ = some (.int .i64 n) ∧ w.cell? ⟨g, 3, none⟩ = some (.int .i64 p) ∧ ∀ j, w.frozen? ⟨g, j, none⟩ = false := by
  refine ⟨?_, ?_, ?_, ?_, fun j => frozen_of_row w _ _ _ _ h⟩ <;> (rw [cell_of_row _ _ _ _ _ _ h]; rfl)

theorem put5 {w : World} {g : Nat} {x0 x1 x2 x3 x4 : Value} {t : TypeId} (h : w.heap[g]? = some (.cells #[x0, x1, x2, x3, x4] t (0, 0))) (y0 y1 y2 y3 y4 : Value) : (((((w.setCell ⟨g, 0, none⟩ y0).setCell ⟨g, 1, none⟩ y1).setCell ⟨g, 2, none⟩ y2).setCell ⟨g, 3, none⟩ y3).setCell ⟨g, 4, none⟩ y4).heap[g]? = some (.cells #[y0, y1, y2, y3, y4] t (0, 0)) := by
  have h := heap_setCell_same _ g 4 _ _ y4 (heap_setCell_same _ g 3 _ _ y3 (heap_setCell_same _ g 2 _ _ y2 (heap_setCell_same _ g 1 _ _ y1 (heap_setCell_same _ g 0 _ _ y0 (h)))))
  simpa using h

theorem put4 {w : World} {g : Nat} {x0 x1 x2 x3 : Value} {t : TypeId} (h : w.heap[g]? = some (.cells #[x0, x1, x2, x3] t (0, 0))) (y0 y1 y2 y3 : Value) : ((((w.setCell ⟨g, 0, none⟩ y0).setCell ⟨g, 1, none⟩ y1).setCell ⟨g, 2, none⟩ y2).setCell ⟨g, 3, none⟩ y3).heap[g]? = some (.cells #[y0, y1, y2, y3] t (0, 0)) := by
  have h := heap_setCell_same _ g 3 _ _ y3 (heap_setCell_same _ g 2 _ _ y2 (heap_setCell_same _ g 1 _ _ y1 (heap_setCell_same _ g 0 _ _ y0 (h))))
  simpa using h

theorem off4 {w : World} {g k : Nat} (h : k ≠ g) (y0 y1 y2 y3 : Value) : ((((w.setCell ⟨g, 0, none⟩ y0).setCell ⟨g, 1, none⟩ y1).setCell ⟨g, 2, none⟩ y2).setCell ⟨g, 3, none⟩ y3).heap[k]? = w.heap[k]? := by
  rw [heap_setCell_other _ _ _ _ h, heap_setCell_other _ _ _ _ h, heap_setCell_other _ _ _ _ h, heap_setCell_other _ _ _ _ h]

theorem off5 {w : World} {g k : Nat} (h : k ≠ g) (y0 y1 y2 y3 y4 : Value) : (((((w.setCell ⟨g, 0, none⟩ y0).setCell ⟨g, 1, none⟩ y1).setCell ⟨g, 2, none⟩ y2).setCell ⟨g, 3, none⟩ y3).setCell ⟨g, 4, none⟩ y4).heap[k]? = w.heap[k]? := by
  rw [heap_setCell_other _ _ _ _ h, heap_setCell_other _ _ _ _ h, heap_setCell_other _ _ _ _ h, heap_setCell_other _ _ _ _ h, heap_setCell_other _ _ _ _ h]

/-- The two results of a taking. -/
theorem take_fin {w w1 : World} {x0 x1 x2 x3 x4 z0 z1 z2 z3 : Value} (R1 : w1.heap[w.heap.size + 1]? = some (.cells #[x0, x1, x2, x3, x4] 61 (0, 0))) (R2 : w1.heap[w.heap.size + 1 + 1]? = some (.cells #[z0, z1, z2, z3] 66 (0, 0))) (b : Below w.heap.size w w1)
    (a : Option Addr) (n cap : Nat) (i c p E : Int) (t : Tok) :
    (loadVar 61 ⟨w.heap.size + 1, 0, none⟩).run Tryz.prog (((((((((w1.setCell ⟨w.heap.size + 1, 0, none⟩ (.slice a n cap)).setCell ⟨w.heap.size + 1, 1, none⟩ (.int .i64 i)).setCell ⟨w.heap.size + 1, 2, none⟩ (.int .i64 c)).setCell ⟨w.heap.size + 1, 3, none⟩ (.int .i64 p)).setCell ⟨w.heap.size + 1, 4, none⟩ (.int .i64 E)).setCell ⟨w.heap.size + 1 + 1, 0, none⟩ (.int .i64 t.kind)).setCell ⟨w.heap.size + 1 + 1, 1, none⟩ (.string t.text)).setCell ⟨w.heap.size + 1 + 1, 2, none⟩ (.int .i64 t.n)).setCell ⟨w.heap.size + 1 + 1, 3, none⟩ (.int .i64 t.place)) = .ok (stV a n cap i c p E) (((((((((w1.setCell ⟨w.heap.size + 1, 0, none⟩ (.slice a n cap)).setCell ⟨w.heap.size + 1, 1, none⟩ (.int .i64 i)).setCell ⟨w.heap.size + 1, 2, none⟩ (.int .i64 c)).setCell ⟨w.heap.size + 1, 3, none⟩ (.int .i64 p)).setCell ⟨w.heap.size + 1, 4, none⟩ (.int .i64 E)).setCell ⟨w.heap.size + 1 + 1, 0, none⟩ (.int .i64 t.kind)).setCell ⟨w.heap.size + 1 + 1, 1, none⟩ (.string t.text)).setCell ⟨w.heap.size + 1 + 1, 2, none⟩ (.int .i64 t.n)).setCell ⟨w.heap.size + 1 + 1, 3, none⟩ (.int .i64 t.place)) ∧
    (loadVar 66 ⟨w.heap.size + 1 + 1, 0, none⟩).run Tryz.prog (((((((((w1.setCell ⟨w.heap.size + 1, 0, none⟩ (.slice a n cap)).setCell ⟨w.heap.size + 1, 1, none⟩ (.int .i64 i)).setCell ⟨w.heap.size + 1, 2, none⟩ (.int .i64 c)).setCell ⟨w.heap.size + 1, 3, none⟩ (.int .i64 p)).setCell ⟨w.heap.size + 1, 4, none⟩ (.int .i64 E)).setCell ⟨w.heap.size + 1 + 1, 0, none⟩ (.int .i64 t.kind)).setCell ⟨w.heap.size + 1 + 1, 1, none⟩ (.string t.text)).setCell ⟨w.heap.size + 1 + 1, 2, none⟩ (.int .i64 t.n)).setCell ⟨w.heap.size + 1 + 1, 3, none⟩ (.int .i64 t.place)) = .ok (tokV t) (((((((((w1.setCell ⟨w.heap.size + 1, 0, none⟩ (.slice a n cap)).setCell ⟨w.heap.size + 1, 1, none⟩ (.int .i64 i)).setCell ⟨w.heap.size + 1, 2, none⟩ (.int .i64 c)).setCell ⟨w.heap.size + 1, 3, none⟩ (.int .i64 p)).setCell ⟨w.heap.size + 1, 4, none⟩ (.int .i64 E)).setCell ⟨w.heap.size + 1 + 1, 0, none⟩ (.int .i64 t.kind)).setCell ⟨w.heap.size + 1 + 1, 1, none⟩ (.string t.text)).setCell ⟨w.heap.size + 1 + 1, 2, none⟩ (.int .i64 t.n)).setCell ⟨w.heap.size + 1 + 1, 3, none⟩ (.int .i64 t.place)) ∧ Below w.heap.size w (((((((((w1.setCell ⟨w.heap.size + 1, 0, none⟩ (.slice a n cap)).setCell ⟨w.heap.size + 1, 1, none⟩ (.int .i64 i)).setCell ⟨w.heap.size + 1, 2, none⟩ (.int .i64 c)).setCell ⟨w.heap.size + 1, 3, none⟩ (.int .i64 p)).setCell ⟨w.heap.size + 1, 4, none⟩ (.int .i64 E)).setCell ⟨w.heap.size + 1 + 1, 0, none⟩ (.int .i64 t.kind)).setCell ⟨w.heap.size + 1 + 1, 1, none⟩ (.string t.text)).setCell ⟨w.heap.size + 1 + 1, 2, none⟩ (.int .i64 t.n)).setCell ⟨w.heap.size + 1 + 1, 3, none⟩ (.int .i64 t.place)) := by
  refine ⟨ld_st (t := 61) (z := (0, 0)) ?_, ld_tok (t := 66) (z := (0, 0)) (put4 (x0 := z0) (x1 := z1) (x2 := z2) (x3 := z3) ?_ _ _ _ _), ((((((((((((((((((b).setCell (p := ⟨w.heap.size + 1, 0, none⟩) (by show w.heap.size ≤ w.heap.size + 1; omega) _)).setCell (p := ⟨w.heap.size + 1, 1, none⟩) (by show w.heap.size ≤ w.heap.size + 1; omega) _)).setCell (p := ⟨w.heap.size + 1, 2, none⟩) (by show w.heap.size ≤ w.heap.size + 1; omega) _)).setCell (p := ⟨w.heap.size + 1, 3, none⟩) (by show w.heap.size ≤ w.heap.size + 1; omega) _)).setCell (p := ⟨w.heap.size + 1, 4, none⟩) (by show w.heap.size ≤ w.heap.size + 1; omega) _)).setCell (p := ⟨w.heap.size + 1 + 1, 0, none⟩) (by show w.heap.size ≤ w.heap.size + 1 + 1; omega) _)).setCell (p := ⟨w.heap.size + 1 + 1, 1, none⟩) (by show w.heap.size ≤ w.heap.size + 1 + 1; omega) _)).setCell (p := ⟨w.heap.size + 1 + 1, 2, none⟩) (by show w.heap.size ≤ w.heap.size + 1 + 1; omega) _)).setCell (p := ⟨w.heap.size + 1 + 1, 3, none⟩) (by show w.heap.size ≤ w.heap.size + 1 + 1; omega) _)⟩
  · rw [off4 (by omega)]
    exact put5 R1 _ _ _ _ _
  · rw [off5 (by omega)]
    exact R2

theorem spec_take_bad (a : Option Addr) (n cap : Nat) (i p E c k : Int) (hc : c ≠ 0) (w : World) :
    Calls Tryz.prog 54 #[stV a n cap i c p E, .int .i64 k] w fun e w' => e = .returned (.tuple #[stV a n cap i c p E, tokV noTok]) ∧ Below w.heap.size w w' := by
  go_enter Tryz.func54, Tryz.ntmps54
  go_wp2
  refine bodyPost_ret (results_rows2 rfl _ _ (w.heap.size + 1) (w.heap.size + 1 + 1) _ _ rfl (ld_st (alloc3_1 _ _ _ _)) rfl (ld_tok (alloc3_2 _ _ _ _))) rfl ?_
  exact ⟨rfl, below3 _ _ _ _⟩

theorem spec_take_end (a : Option Addr) (n cap : Nat) (i p E k : Int) (hi : (n : Int) ≤ i) (w : World) :
    Calls Tryz.prog 54 #[stV a n cap i 0 p E, .int .i64 k] w fun e w' => e = .returned (.tuple #[stV a n cap i 2 E E, tokV noTok]) ∧ Below w.heap.size w w' := by
  go_enter Tryz.func54, Tryz.ntmps54
  obtain ⟨w0, h0⟩ : ∃ w0, ((w.alloc (.cells #[.slice a n cap, .int .i64 i, .int .i64 0, .int .i64 p, .int .i64 E] 61)).alloc (.cells #[.slice none 0 0, .int .i64 0, .int .i64 0, .int .i64 0, .int .i64 0] 61)).alloc (.cells #[.int .i64 0, .string ⟨#[]⟩, .int .i64 0, .int .i64 0] 66) = w0 := ⟨_, rfl⟩
  have q1 := alloc3_1 w (.cells #[.slice a n cap, .int .i64 i, .int .i64 0, .int .i64 p, .int .i64 E] 61) (.cells #[.slice none 0 0, .int .i64 0, .int .i64 0, .int .i64 0, .int .i64 0] 61) (.cells #[.int .i64 0, .string ⟨#[]⟩, .int .i64 0, .int .i64 0] 66)
  have q2 := alloc3_2 w (.cells #[.slice a n cap, .int .i64 i, .int .i64 0, .int .i64 p, .int .i64 E] 61) (.cells #[.slice none 0 0, .int .i64 0, .int .i64 0, .int .i64 0, .int .i64 0] 61) (.cells #[.int .i64 0, .string ⟨#[]⟩, .int .i64 0, .int .i64 0] 66)
  have q3 := below3 w (.cells #[.slice a n cap, .int .i64 i, .int .i64 0, .int .i64 p, .int .i64 E] 61) (.cells #[.slice none 0 0, .int .i64 0, .int .i64 0, .int .i64 0, .int .i64 0] 61) (.cells #[.int .i64 0, .string ⟨#[]⟩, .int .i64 0, .int .i64 0] 66)
  rw [h0] at q1 q2 q3
  have HQ1 : Hid (_) := q1
  have HQ2 : Hid (_) := q2
  have HQ3 : Hid (_) := q3
  have H0 : Hid (_) := h0
  clear h0 q1 q2 q3
  go_wp2_with fail
  rw [H0.out]
  refine (spec_fail a n cap i p E 2 E w0).mono ?_
  rintro e w1 ⟨rfl, b1⟩
  have r1 := (b1.block _ (Array.getElem?_eq_some_iff.1 HQ1.out).1).trans HQ1.out
  have r2 := (b1.block _ (Array.getElem?_eq_some_iff.1 HQ2.out).1).trans HQ2.out
  obtain ⟨c0, c1, c2, c3, c4, c5⟩ := st_row r1
  obtain ⟨d0, d1, d2, d3, d4⟩ := tok_row r2
  have R1 : Hid (_) := r1
  have R2 : Hid (_) := r2
  clear r1 r2
  obtain ⟨f1, f2, f3⟩ := take_fin R1.out R2.out (HQ3.out.trans (b1.mono HQ3.out.size)) a n cap i 2 E E noTok
  have F1 : Hid (_) := f1
  have F2 : Hid (_) := f2
  have F3 : Hid (_) := f3
  clear f1 f2 f3
  go_wp2
  exact bodyPost_ret (results_rows2 rfl _ _ (w.heap.size + 1) (w.heap.size + 1 + 1) _ _ rfl F1.out rfl F2.out) rfl ⟨rfl, F3.out⟩

set_option maxRecDepth 20000 in
theorem spec_take_no (g n cap : Nat) (i : Nat) (p E k : Int) (t : Tok) (hi : i < n) (hc : n ≤ 1048576) (hk : t.kind ≠ k) (w : World) (hT : TokIn w g i t) :
    Calls Tryz.prog 54 #[stV (some ⟨g, 0, none⟩) n cap i 0 p E, .int .i64 k] w fun e w' => e = .returned (.tuple #[stV (some ⟨g, 0, none⟩) n cap i 3 t.place E, tokV noTok]) ∧ Below w.heap.size w w' := by
  have hi' : (i : Int) < n := by omega
  obtain ⟨kd, tx, tn, tp⟩ := t
  have t0 : w.cell? ⟨g, i * 4, none⟩ = some (.int .i64 kd) := hT.c0
  have t1 : w.cell? ⟨g, i * 4 + 1, none⟩ = some (.string tx) := hT.c1
  have t2 : w.cell? ⟨g, i * 4 + 2, none⟩ = some (.int .i64 tn) := hT.c2
  have t3 : w.cell? ⟨g, i * 4 + 3, none⟩ = some (.int .i64 tp) := hT.c3
  have hg := cell_lt' t0
  have hk' : (kd != k) = true := by simpa using hk
  have bl := (below3 w (.cells #[.slice (some ⟨g, 0, none⟩) n cap, .int .i64 i, .int .i64 0, .int .i64 p, .int .i64 E] 61) (.cells #[.slice none 0 0, .int .i64 0, .int .i64 0, .int .i64 0, .int .i64 0] 61) (.cells #[.int .i64 0, .string ⟨#[]⟩, .int .i64 0, .int .i64 0] 66)).block g hg
  have t0' := (World.cell?_of_block (a := ⟨g, i * 4, none⟩) bl).trans t0
  have t1' := (World.cell?_of_block (a := ⟨g, i * 4 + 1, none⟩) bl).trans t1
  have t2' := (World.cell?_of_block (a := ⟨g, i * 4 + 2, none⟩) bl).trans t2
  have t3' := (World.cell?_of_block (a := ⟨g, i * 4 + 3, none⟩) bl).trans t3
  clear hT bl t0 t1 t2 t3
  go_enter Tryz.func54, Tryz.ntmps54
  go_wp2_with fail
  refine (spec_fail _ n cap i p E 3 tp _).mono ?_
  rintro e w1 ⟨rfl, b1⟩
  have r1 := (b1.block _ (by simp <;> omega)).trans (alloc4_1 w _ _ _ _)
  have r2 := (b1.block _ (by simp)).trans (alloc4_2 w _ _ _ _)
  have B1 : Hid (Below w.heap.size w w1) := (below4 w _ _ _ _).trans (b1.mono (by simp <;> omega))
  obtain ⟨c0, c1, c2, c3, c4, c5⟩ := st_row r1
  obtain ⟨d0, d1, d2, d3, d4⟩ := tok_row r2
  obtain ⟨f1, f2, f3⟩ := take_fin r1 r2 B1.out (some ⟨g, 0, none⟩) n cap i 3 tp E noTok
  have F1 : Hid (_) := f1
  have F2 : Hid (_) := f2
  have F3 : Hid (_) := f3
  clear f1 f2 f3 r1 r2 b1 t0' t1' t2' t3' hk'
  go_wp2
  exact bodyPost_ret (results_rows2 rfl _ _ (w.heap.size + 1) (w.heap.size + 1 + 1) _ _ rfl F1.out rfl F2.out) rfl ⟨rfl, F3.out⟩

set_option maxRecDepth 20000 in
theorem spec_take_yes (g n cap : Nat) (i : Nat) (p E k : Int) (t : Tok) (hi : i < n) (hc : n ≤ 1048576) (hk : t.kind = k) (w : World) (hT : TokIn w g i t) :
    Calls Tryz.prog 54 #[stV (some ⟨g, 0, none⟩) n cap i 0 p E, .int .i64 k] w fun e w' => e = .returned (.tuple #[stV (some ⟨g, 0, none⟩) n cap ((i + 1 : Nat) : Int) 0 p E, tokV t]) ∧ Below w.heap.size w w' := by
  have hi' : (i : Int) < n := by omega
  obtain ⟨kd, tx, tn, tp⟩ := t
  have t0 : w.cell? ⟨g, i * 4, none⟩ = some (.int .i64 kd) := hT.c0
  have t1 : w.cell? ⟨g, i * 4 + 1, none⟩ = some (.string tx) := hT.c1
  have t2 : w.cell? ⟨g, i * 4 + 2, none⟩ = some (.int .i64 tn) := hT.c2
  have t3 : w.cell? ⟨g, i * 4 + 3, none⟩ = some (.int .i64 tp) := hT.c3
  have hg := cell_lt' t0
  obtain rfl : kd = k := hk
  have bl := (below3 w (.cells #[.slice (some ⟨g, 0, none⟩) n cap, .int .i64 i, .int .i64 0, .int .i64 p, .int .i64 E] 61) (.cells #[.slice none 0 0, .int .i64 0, .int .i64 0, .int .i64 0, .int .i64 0] 61) (.cells #[.int .i64 0, .string ⟨#[]⟩, .int .i64 0, .int .i64 0] 66)).block g hg
  have t0' := (World.cell?_of_block (a := ⟨g, i * 4, none⟩) bl).trans t0
  have t1' := (World.cell?_of_block (a := ⟨g, i * 4 + 1, none⟩) bl).trans t1
  have t2' := (World.cell?_of_block (a := ⟨g, i * 4 + 2, none⟩) bl).trans t2
  have t3' := (World.cell?_of_block (a := ⟨g, i * 4 + 3, none⟩) bl).trans t3
  clear hT bl t0 t1 t2 t3
  go_enter Tryz.func54, Tryz.ntmps54
  go_wp2
  go_region
  all_goals
    go_wp2
    exact bodyPost_ret (results_rows2 rfl _ _ (w.heap.size + 1) (w.heap.size + 1 + 1) _ _ rfl (ld_st (alloc4_1 w _ _ _ _)) rfl (ld_tok (alloc4_2 w _ _ _ _))) rfl ⟨by rw [Int.natCast_add]; rfl, (below4 w _ _ _ _).drew⟩

/-- A token is taken. -/
theorem spec_take (a : Option Addr) (g n cap i : Nat) (p E k : Int) (ts : List Tok) (hn : ts.length = n) (hc : n ≤ 1048576) (ha : 0 < n → a = some ⟨g, 0, none⟩) (w : World) (hT : TokAt w g ts) :
    Calls Tryz.prog 54 #[stV a n cap i 0 p E, .int .i64 k] w fun e w' =>
      (match takeE ts E i k with
        | .ok (j, t) => e = .returned (.tuple #[stV a n cap (j : Nat) 0 p E, tokV t])
        | .error (c, q) => e = .returned (.tuple #[stV a n cap i c q E, tokV noTok])) ∧ Below w.heap.size w w' := by
  subst hn
  unfold takeE
  by_cases hi : i < ts.length
  · obtain rfl := ha (by omega)
    rw [if_pos hi]
    by_cases hk : (ts.getD i noTok).kind = k
    · rw [if_pos hk]
      exact spec_take_yes g ts.length cap i p E k _ hi hc hk w (hT i hi)
    · rw [if_neg hk]
      exact spec_take_no g ts.length cap i p E k _ hi hc hk w (hT i hi)
  · rw [if_neg hi]
    exact spec_take_end a ts.length cap i p E k (by omega) w
end Go.Proofs.YtobijbhgpgnfkaaGreatDoor
