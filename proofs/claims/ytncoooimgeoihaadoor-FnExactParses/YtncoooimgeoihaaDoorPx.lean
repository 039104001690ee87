/-
  An expression of one token, the specification's. Conditions: written at each theorem.
-/
import Derived.Test.YtncoooimgeoihaaDoorPh
namespace Go.Proofs.YtncoooimgeoihaaDoor
open Go.ChangeShapes Go.WideShapes Go.ChangeAt Go.RowKit
set_option linter.unusedVariables false

abbrev tokR (k : Int) (s : ByteArray) (n p : Int) : Array Value := #[.int .i64 k, .string s, .int .i64 n, .int .i64 p]

theorem tok_cells {w : World} {g : Nat} {k n p : Int} {s : ByteArray} {t : TypeId} (h : w.heap[g]? = some (.cells (tokR k s n p) t (0, 0))) :
    w.cell? ⟨g, 0, none⟩ = some (.int .i64 k) ∧ w.cell? ⟨g, 1, none⟩ = some (.string s) ∧ w.cell? ⟨g, 2, none⟩ = some (.int .i64 n) ∧ w.cell? ⟨g, 3, none⟩ = some (.int .i64 p) := by
  refine ⟨?_, ?_, ?_, ?_⟩ <;> rw [cell_of_row _ _ _ _ _ _ h] <;> rfl

set_option maxHeartbeats 2000000 in
set_option maxRecDepth 20000 in
theorem spec_x_num (g n cap i : Nat) (p E : Int) (tx : ByteArray) (tn tp : Int) (hi : i < n) (hc : n ≤ 1048576) (v : Value) (B : Nat) (l : List Nod) (w : World) (hown : ownNod w B v l) (hB : B ≤ w.heap.size) (hl : l.length ≤ 1048576) (hT : TokIn w g i ⟨4, tx, tn, tp⟩) :
    Calls Tryd.prog 24 #[stV (some ⟨g, 0, none⟩) n cap i 0 p E, v] w fun e w' => XOut (some ⟨g, 0, none⟩) n cap p E B w v (.ok (i + 1, l ++ [⟨2, 0, 0, 0, tn, ByteArray.empty, ByteArray.empty⟩])) e w' := by
  have hi' : (i : Int) < n := by omega
  have HB : Hid (B ≤ w.heap.size) := hB
  have HL : Hid (l.length ≤ 1048576) := hl
  have t0 : w.cell? ⟨g, i * 4, none⟩ = some (.int .i64 4) := hT.c0
  have t1 : w.cell? ⟨g, i * 4 + 1, none⟩ = some (.string tx) := hT.c1
  have t2 : w.cell? ⟨g, i * 4 + 2, none⟩ = some (.int .i64 tn) := hT.c2
  have t3 : w.cell? ⟨g, i * 4 + 3, none⟩ = some (.int .i64 tp) := hT.c3
  have hg := cell_lt' t0
  obtain ⟨i0, hii, hz0, hz1, hz2⟩ := info_parts info_nod
  obtain ⟨W0, hW0⟩ : ∃ W0, (((w.alloc (.cells (stR (some ⟨g, 0, none⟩) n cap ((i : Int) + 1) 0 p E) 47)).alloc (.cells (stR none 0 0 0 0 0 0) 47)).alloc (.cells (tokR 4 tx tn tp) 52)) = W0 := ⟨_, rfl⟩
  have HW : Hid (_) := hW0
  have HX1 : Hid (XS w v B (some ⟨g, 0, none⟩) n cap E W0 v l ((i : Int) + 1) 0 p) := by
    rw [← hW0]
    exact (XS.start hown).alloc _
  have HZ : Hid (W0.heap.size = w.heap.size + 1 + 1 + 1) := by
    show W0.heap.size = _
    rw [← hW0]
    simp
  have HTK : Hid (W0.heap[w.heap.size + 1 + 1]? = some (.cells (tokR 4 tx tn tp) 52 (0, 0))) := by
    show W0.heap[w.heap.size + 1 + 1]? = _
    rw [← hW0]
    exact heap_new_at (by simp)
  clear hown hB hl hT hW0
  go_enter Tryd.func24, Tryd.ntmps24
  go_wp2
  rw [HW.out]
  obtain ⟨⟨p0, p1, p2, p3, p4, p5⟩, q0, q1, q2, q3, q4, q5⟩ := HX1.out.cells
  obtain ⟨k0, k1, k2, k3⟩ := tok_cells HTK.out
  have z0 := HZ.out
  clear t0 t1 t2 t3 HW HTK
  go_region_law (refine step_append_at rfl (.tmp 53) (.tmp 57) 24 rfl B 55 i0 _ 7 72 Tryd.underlying24 hii hz0 hz1 hz2 rfl (by decide) v _ _ (by simp [Act.eval]) (HX1.out.drew.alloc _).own ⟨w.heap.size + 1 + 1 + 1, 0, none⟩ 1 1 (nodCells ⟨2, 0, 0, 0, tn, ByteArray.empty, ByteArray.empty⟩) (by simp [Act.eval]) rfl (nod_at (heap_new_at z0)) (nod_one _) (by decide) (by have := HL.out; unfold maxLen; omega) (by have := HL.out; omega) (by have := HB.out; simp <;> omega) ?_; intro v' w3 hown' hgr; have HH : Hid (_) := HX1.out.more hown' hgr; have HO : Hid (_) := hown'; have HGR : Hid (_) := hgr; obtain ⟨p0, p1, p2, p3, p4, p5⟩ := st_row HH.out.1; obtain ⟨q0, q1, q2, q3, q4, q5⟩ := st_row HH.out.2.1; clear hown' hgr)
  all_goals
    go_wp2
    refine bodyPost_ret (results_row_tmp rfl _ _ (w.heap.size + 1) _ v' rfl (st_put HH.out.2.1 (some ⟨g, 0, none⟩) n cap ((i : Int) + 1) 0 p E) rfl) rfl ?_
    obtain ⟨f1, f2⟩ := x_fin HH.out.2.2.1 HH.out.2.2.2 HX1.out.low (ownNod_next ⟨2, 0, 0, 0, tn, ByteArray.empty, ByteArray.empty⟩ HO.out rfl rfl) (some ⟨g, 0, none⟩) n cap ((i : Int) + 1) 0 p E
    exact ⟨v', by rw [Int.natCast_add]; rfl, f1, f2⟩
end Go.Proofs.YtncoooimgeoihaaDoor
