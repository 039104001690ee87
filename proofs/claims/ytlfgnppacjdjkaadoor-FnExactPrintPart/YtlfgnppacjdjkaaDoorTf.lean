/-
  Nodes as they landed: a node is copied; a tree is laid out. Conditions: written at each theorem.
-/
import Derived.Test.YtlfgnppacjdjkaaDoorTa
import Derived.Test.YtlfgnppacjdjkaaDoorShelf
namespace Go.Proofs.YtlfgnppacjdjkaaDoor
open Go.ChangeShapes Go.WideShapes Go.ChangeAt Go.RowKit
set_option linter.unusedVariables false

theorem impl_clone (s : ByteArray) (hs : s.size ≤ 281474976710656) (w : World) : Calls Tryd.prog 84 #[.string s] w fun e w' => e = .returned (.string s) ∧ Below w.heap.size w w' := by
  have HI : Hid (Calls Tryd.prog 105 #[.string s] w fun e w' => e = .returned (.string s) ∧ Below w.heap.size w w') := Tryd.stringslite_Clone s w hs
  go_enter Tryd.func84, Tryd.ntmps84
  go_wp2_with fail
  refine HI.out.mono ?_
  rintro e w1 ⟨rfl, hb1⟩
  go_wp2
  go_ret
  exact ⟨rfl, hb1⟩

theorem node_stored {W : World} {g : Nat} {z0 z1 z2 z3 z4 z5 z6 : Value} {t : TypeId} (h : W.heap[g]? = some (.cells #[z0, z1, z2, z3, z4, z5, z6] t (0, 0))) (v0 v1 v2 v3 v4 v5 v6 : Value) :
    (((((((W.setCell ⟨g, 0, none⟩ v0).setCell ⟨g, 1, none⟩ v1).setCell ⟨g, 2, none⟩ v2).setCell ⟨g, 3, none⟩ v3).setCell ⟨g, 4, none⟩ v4).setCell ⟨g, 5, none⟩ v5).setCell ⟨g, 6, none⟩ v6).heap[g]? = some (.cells #[v0, v1, v2, v3, v4, v5, v6] t (0, 0)) := by
  have h0 : (W.setCell ⟨g, 0, none⟩ v0).heap[g]? = some (.cells #[v0, z1, z2, z3, z4, z5, z6] t (0, 0)) := heap_setCell_same W g 0 _ _ v0 h
  have h1 : ((W.setCell ⟨g, 0, none⟩ v0).setCell ⟨g, 1, none⟩ v1).heap[g]? = some (.cells #[v0, v1, z2, z3, z4, z5, z6] t (0, 0)) := heap_setCell_same (W.setCell ⟨g, 0, none⟩ v0) g 1 _ _ v1 h0
  have h2 : (((W.setCell ⟨g, 0, none⟩ v0).setCell ⟨g, 1, none⟩ v1).setCell ⟨g, 2, none⟩ v2).heap[g]? = some (.cells #[v0, v1, v2, z3, z4, z5, z6] t (0, 0)) := heap_setCell_same ((W.setCell ⟨g, 0, none⟩ v0).setCell ⟨g, 1, none⟩ v1) g 2 _ _ v2 h1
  have h3 : ((((W.setCell ⟨g, 0, none⟩ v0).setCell ⟨g, 1, none⟩ v1).setCell ⟨g, 2, none⟩ v2).setCell ⟨g, 3, none⟩ v3).heap[g]? = some (.cells #[v0, v1, v2, v3, z4, z5, z6] t (0, 0)) := heap_setCell_same (((W.setCell ⟨g, 0, none⟩ v0).setCell ⟨g, 1, none⟩ v1).setCell ⟨g, 2, none⟩ v2) g 3 _ _ v3 h2
  have h4 : (((((W.setCell ⟨g, 0, none⟩ v0).setCell ⟨g, 1, none⟩ v1).setCell ⟨g, 2, none⟩ v2).setCell ⟨g, 3, none⟩ v3).setCell ⟨g, 4, none⟩ v4).heap[g]? = some (.cells #[v0, v1, v2, v3, v4, z5, z6] t (0, 0)) := heap_setCell_same ((((W.setCell ⟨g, 0, none⟩ v0).setCell ⟨g, 1, none⟩ v1).setCell ⟨g, 2, none⟩ v2).setCell ⟨g, 3, none⟩ v3) g 4 _ _ v4 h3
  have h5 : ((((((W.setCell ⟨g, 0, none⟩ v0).setCell ⟨g, 1, none⟩ v1).setCell ⟨g, 2, none⟩ v2).setCell ⟨g, 3, none⟩ v3).setCell ⟨g, 4, none⟩ v4).setCell ⟨g, 5, none⟩ v5).heap[g]? = some (.cells #[v0, v1, v2, v3, v4, v5, z6] t (0, 0)) := heap_setCell_same (((((W.setCell ⟨g, 0, none⟩ v0).setCell ⟨g, 1, none⟩ v1).setCell ⟨g, 2, none⟩ v2).setCell ⟨g, 3, none⟩ v3).setCell ⟨g, 4, none⟩ v4) g 5 _ _ v5 h4
  have h6 : (((((((W.setCell ⟨g, 0, none⟩ v0).setCell ⟨g, 1, none⟩ v1).setCell ⟨g, 2, none⟩ v2).setCell ⟨g, 3, none⟩ v3).setCell ⟨g, 4, none⟩ v4).setCell ⟨g, 5, none⟩ v5).setCell ⟨g, 6, none⟩ v6).heap[g]? = some (.cells #[v0, v1, v2, v3, v4, v5, v6] t (0, 0)) := heap_setCell_same ((((((W.setCell ⟨g, 0, none⟩ v0).setCell ⟨g, 1, none⟩ v1).setCell ⟨g, 2, none⟩ v2).setCell ⟨g, 3, none⟩ v3).setCell ⟨g, 4, none⟩ v4).setCell ⟨g, 5, none⟩ v5) g 6 _ _ v6 h5
  exact h6

theorem node_below {B : Nat} {w W : World} {g : Nat} (h : Below B w W) (hg : B ≤ g) (v0 v1 v2 v3 v4 v5 v6 : Value) :
    Below B w (((((((W.setCell ⟨g, 0, none⟩ v0).setCell ⟨g, 1, none⟩ v1).setCell ⟨g, 2, none⟩ v2).setCell ⟨g, 3, none⟩ v3).setCell ⟨g, 4, none⟩ v4).setCell ⟨g, 5, none⟩ v5).setCell ⟨g, 6, none⟩ v6) :=
  ((((((h.setCell (p := ⟨g, 0, none⟩) hg v0).setCell (p := ⟨g, 1, none⟩) hg v1).setCell (p := ⟨g, 2, none⟩) hg v2).setCell (p := ⟨g, 3, none⟩) hg v3).setCell (p := ⟨g, 4, none⟩) hg v4).setCell (p := ⟨g, 5, none⟩) hg v5).setCell (p := ⟨g, 6, none⟩) hg v6

set_option maxHeartbeats 1000000 in
theorem impl_copy (t : Nod) (hs : t.name.size ≤ 281474976710656) (ho : t.other.size ≤ 281474976710656) (w : World) :
    Calls Tryd.prog 156 #[.agg (nodCells t).toArray] w fun e w' => e = .returned (.agg (nodCells t).toArray) ∧ Below w.heap.size w w' := by
  obtain ⟨x0, x1, x2, x3, x4, x5, x6⟩ := t
  have HS : Hid (x5.size ≤ 281474976710656 ∧ x6.size ≤ 281474976710656) := ⟨hs, ho⟩
  clear hs ho
  show Calls Tryd.prog 156 #[.agg #[.int .i64 x0, .int .i64 x1, .int .i64 x2, .int .i64 x3, .int .i64 x4, .string x5, .string x6]] w fun e w' => e = .returned (.agg #[.int .i64 x0, .int .i64 x1, .int .i64 x2, .int .i64 x3, .int .i64 x4, .string x5, .string x6]) ∧ Below w.heap.size w w'
  obtain ⟨W0, hW0⟩ : ∃ W0, (w.alloc (.cells #[.int .i64 x0, .int .i64 x1, .int .i64 x2, .int .i64 x3, .int .i64 x4, .string x5, .string x6] 49)).alloc (.cells #[.int .i64 0, .int .i64 0, .int .i64 0, .int .i64 0, .int .i64 0, .string ⟨#[]⟩, .string ⟨#[]⟩] 49) = W0 := ⟨_, rfl⟩
  have HW0 : Hid ((w.alloc (.cells #[.int .i64 x0, .int .i64 x1, .int .i64 x2, .int .i64 x3, .int .i64 x4, .string x5, .string x6] 49)).alloc (.cells #[.int .i64 0, .int .i64 0, .int .i64 0, .int .i64 0, .int .i64 0, .string ⟨#[]⟩, .string ⟨#[]⟩] 49) = W0) := hW0
  have RA0 : Hid (W0.heap[w.heap.size]? = some (.cells #[.int .i64 x0, .int .i64 x1, .int .i64 x2, .int .i64 x3, .int .i64 x4, .string x5, .string x6] 49 (0, 0))) := by
    rw [← hW0]
    exact ((Below.refl (w.heap.size + 1) (w.alloc (.cells #[.int .i64 x0, .int .i64 x1, .int .i64 x2, .int .i64 x3, .int .i64 x4, .string x5, .string x6] 49))).alloc (by simp) _).block w.heap.size (by omega) |>.trans (MapKept.heap_alloc w _).1
  have RB0 : Hid (W0.heap[w.heap.size + 1]? = some (.cells #[.int .i64 0, .int .i64 0, .int .i64 0, .int .i64 0, .int .i64 0, .string ⟨#[]⟩, .string ⟨#[]⟩] 49 (0, 0))) := by
    have h := (MapKept.heap_alloc (w.alloc (.cells #[.int .i64 x0, .int .i64 x1, .int .i64 x2, .int .i64 x3, .int .i64 x4, .string x5, .string x6] 49)) (.cells #[.int .i64 0, .int .i64 0, .int .i64 0, .int .i64 0, .int .i64 0, .string ⟨#[]⟩, .string ⟨#[]⟩] 49)).1
    rw [hW0] at h
    have e : (w.alloc (.cells #[.int .i64 x0, .int .i64 x1, .int .i64 x2, .int .i64 x3, .int .i64 x4, .string x5, .string x6] 49)).heap.size = w.heap.size + 1 := by simp
    rw [e] at h
    exact h
  have S0 : Hid (W0.heap.size = w.heap.size + 2) := by
    show W0.heap.size = w.heap.size + 2
    rw [← hW0]; simp
  have B0 : Hid (Below w.heap.size w W0) := by rw [← hW0]; exact ((Below.refl _ w).alloc (Nat.le_refl _) _).alloc (by simp) _
  clear hW0
  go_enter Tryd.func156, Tryd.ntmps156
  go_wp2_with fail
  rw [HW0.out]
  refine (impl_clone x5 HS.out.1 W0).mono ?_
  rintro e w1 ⟨rfl, hb1⟩
  have s1 := hb1.size
  rw [S0.out] at s1
  have ra1 := (hb1.block w.heap.size (by rw [S0.out]; omega)).trans RA0.out
  have RA1 : Hid (w1.heap[w.heap.size]? = some (.cells #[.int .i64 x0, .int .i64 x1, .int .i64 x2, .int .i64 x3, .int .i64 x4, .string x5, .string x6] 49 (0, 0))) := ra1
  have RB1 : Hid (w1.heap[w.heap.size + 1]? = some (.cells #[.int .i64 0, .int .i64 0, .int .i64 0, .int .i64 0, .int .i64 0, .string ⟨#[]⟩, .string ⟨#[]⟩] 49 (0, 0))) := (hb1.block (w.heap.size + 1) (by rw [S0.out]; omega)).trans RB0.out
  have B1 : Hid (Below w.heap.size w w1) := B0.out.trans (hb1.mono (by rw [S0.out]; omega))
  obtain ⟨q0, q1, q2, q3, q4, q5, q6⟩ := cells7_of ra1
  have f1 : ∀ o, w1.frozen? ⟨w.heap.size, o, none⟩ = false := fun o => frozen_of_row w1 _ _ _ _ RA1.out
  clear hb1 ra1 HW0 RA0 RB0 B0
  have RA2 : Hid ((w1.setCell ⟨w.heap.size, 5, none⟩ (.string x5)).heap[w.heap.size]? = some (.cells #[.int .i64 x0, .int .i64 x1, .int .i64 x2, .int .i64 x3, .int .i64 x4, .string x5, .string x6] 49 (0, 0))) := heap_setCell_same w1 w.heap.size 5 _ _ (.string x5) RA1.out
  have RB2 : Hid ((w1.setCell ⟨w.heap.size, 5, none⟩ (.string x5)).heap[w.heap.size + 1]? = some (.cells #[.int .i64 0, .int .i64 0, .int .i64 0, .int .i64 0, .int .i64 0, .string ⟨#[]⟩, .string ⟨#[]⟩] 49 (0, 0))) := (heap_setCell_other w1 _ _ _ (by simp)).trans RB1.out
  have B2 : Hid (Below w.heap.size w (w1.setCell ⟨w.heap.size, 5, none⟩ (.string x5))) := B1.out.setCell (p := ⟨w.heap.size, 5, none⟩) (Nat.le_refl _) _
  clear RA1 RB1 B1
  go_wp2_with fail
  refine (impl_clone x6 HS.out.2 _).mono ?_
  rintro e w2 ⟨rfl, hb2⟩
  have l2 : w.heap.size + 1 < (w1.setCell ⟨w.heap.size, 5, none⟩ (.string x5)).heap.size := (Array.getElem?_eq_some_iff.1 RB2.out).1
  have ra3 := (hb2.block w.heap.size (by omega)).trans RA2.out
  have rb3 := (hb2.block (w.heap.size + 1) l2).trans RB2.out
  have B3 : Hid (Below w.heap.size w w2) := B2.out.trans (hb2.mono (by omega))
  have RA3 : Hid (w2.heap[w.heap.size]? = some (.cells #[.int .i64 x0, .int .i64 x1, .int .i64 x2, .int .i64 x3, .int .i64 x4, .string x5, .string x6] 49 (0, 0))) := ra3
  have RB3 : Hid (w2.heap[w.heap.size + 1]? = some (.cells #[.int .i64 0, .int .i64 0, .int .i64 0, .int .i64 0, .int .i64 0, .string ⟨#[]⟩, .string ⟨#[]⟩] 49 (0, 0))) := rb3
  have l3 : w.heap.size + 1 < w2.heap.size := (Array.getElem?_eq_some_iff.1 rb3).1
  clear q0 q1 q2 q3 q4 q5 q6 f1 hb2 RA2 RB2 B2 l2 s1
  obtain ⟨q0, q1, q2, q3, q4, q5, q6⟩ := cells7_of ra3
  obtain ⟨r0, r1, r2, r3, r4, r5, r6⟩ := cells7_of rb3
  have f1 : ∀ o, w2.frozen? ⟨w.heap.size, o, none⟩ = false := fun o => frozen_of_row w2 _ _ _ _ RA3.out
  have f2 : ∀ o, w2.frozen? ⟨w.heap.size + 1, o, none⟩ = false := fun o => frozen_of_row w2 _ _ _ _ RB3.out
  clear ra3 rb3
  have RZ : Hid ((w2.setCell ⟨w.heap.size, 6, none⟩ (.string x6)).heap[w.heap.size + 1]? = some (.cells #[.int .i64 0, .int .i64 0, .int .i64 0, .int .i64 0, .int .i64 0, .string ⟨#[]⟩, .string ⟨#[]⟩] 49 (0, 0))) := (heap_setCell_other w2 _ _ _ (by simp)).trans RB3.out
  have BZ : Hid (Below w.heap.size w (w2.setCell ⟨w.heap.size, 6, none⟩ (.string x6))) := B3.out.setCell (p := ⟨w.heap.size, 6, none⟩) (Nat.le_refl _) _
  clear RA3 RB3 B3
  go_wp2
  refine bodyPost_ret (results_cell_row rfl _ _ (w.heap.size + 1) 49 #[.int .i64 x0, .int .i64 x1, .int .i64 x2, .int .i64 x3, .int .i64 x4, .string x5, .string x6] (0, 0) _ rfl (node_stored RZ.out _ _ _ _ _ _ _) Tryd.underlying49 rfl (by kernel_rfl)) rfl ?_
  exact ⟨rfl, node_below BZ.out (by omega) _ _ _ _ _ _ _⟩
end Go.Proofs.YtlfgnppacjdjkaaDoor
