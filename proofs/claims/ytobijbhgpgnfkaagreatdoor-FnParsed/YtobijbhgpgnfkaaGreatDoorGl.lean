/-
  The draws of programs: a right one, and one that may be bent. Conditions: written at each theorem.
-/
import Derived.Test.YtobijbhgpgnfkaaGreatDoorGi
namespace Go.Proofs.YtobijbhgpgnfkaaGreatDoor
open Go.ChangeShapes Go.WideShapes Go.ChangeAt Go.RowKit
set_option linter.unusedVariables false

set_option maxRecDepth 20000 in
theorem some_at (a : Option Addr) (len cap : Nat) (zs : List Int) (B : Nat) (w0 : World) (s : Nat × Int) (h : CurAt a len cap zs B w0 s) :
    Calls Tryz.prog 31 #[.pointer (some ⟨B, 0, none⟩)] w0 (DrawEnd a len cap zs B w0 1024) := by
  have C0 : Hid (CurAt a len cap zs B w0 s) := h
  clear h
  go_enter Tryz.func31, Tryz.ntmps31
  go_wp2_with fail
  refine (once_some C0.out 3 (by omega)).mono ?_
  rintro e w1 ⟨bb, s1, rfl, c1, n1⟩
  have C1 : Hid (CurAt a len cap zs B w1 s1) := c1
  have N1 : Hid (Only B w0 w1) := n1
  clear c1 n1
  cases bb
  · go_wp2_with fail
    refine (prog_at a len cap zs B w1 s1 C1.out).mono ?_
    intro e we hde
    have D : Hid (DrawEnd a len cap zs B w0 1024 e we) := hde.more N1.out (Nat.le_refl _)
    obtain ⟨ve, le, se, rfl, -⟩ := hde
    go_wp2
    go_ret
    exact D.out
  · go_wp2_with fail
    refine (loose_ok 3 (by omega) a len cap zs B w1 s1 3 C1.out (by omega) (by omega)).mono ?_
    intro e we hde
    have D : Hid (DrawEnd a len cap zs B w0 1024 e we) := hde.more N1.out (by decide)
    obtain ⟨ve, le, se, rfl, -⟩ := hde
    go_wp2
    go_ret
    exact D.out

/-- Nodes that may be bent: what a draw of them ends with. -/
def BentEnd (w : World) (e : Ending) (w' : World) : Prop :=
  ∃ (al : Option Addr) (g c : Nat) (l : List Nod), e = .returned (.slice al l.length c) ∧ (0 < l.length → al = some ⟨g, 0, none⟩) ∧ NodAt w' g l ∧ l.length ≤ 1200 ∧ Trim l

theorem trim_set {l : List Nod} {t : Nod} {k : Nat} (h : Trim l) (ht : Trim1 t) : Trim (l.set k t) := by
  intro u hu
  rcases List.mem_or_eq_of_mem_set hu with h1 | h1
  · exact h u h1
  · rw [h1]; exact ht

theorem trim_at {l : List Nod} {k : Nat} (h : Trim l) (hk : k < l.length) : Trim1 (l.getD k noNod) := by
  rw [List.getD, List.getElem?_eq_getElem hk]
  exact h _ (List.getElem_mem hk)

theorem nodAt_of_cells {w : World} {g : Nat} {l : List Nod} (h : ∀ i j, i < l.length → j < 7 → w.cell? ⟨g, i * 7 + j, none⟩ = (nodCells (l.getD i noNod))[j]?) : NodAt w g l := fun i hi =>
  ⟨h i 0 hi (by omega), h i 1 hi (by omega), h i 2 hi (by omega), h i 3 hi (by omega), h i 4 hi (by omega), h i 5 hi (by omega), h i 6 hi (by omega)⟩

theorem cells_of_nodAt {w : World} {g : Nat} {l : List Nod} (h : NodAt w g l) : ∀ i j, i < l.length → j < 7 → w.cell? ⟨g, i * 7 + j, none⟩ = (nodCells (l.getD i noNod))[j]? := by
  intro i j hi hj
  have t := h i hi
  rcases (by omega : j = 0 ∨ j = 1 ∨ j = 2 ∨ j = 3 ∨ j = 4 ∨ j = 5 ∨ j = 6) with rfl | rfl | rfl | rfl | rfl | rfl | rfl
  · exact t.c0
  · exact t.c1
  · exact t.c2
  · exact t.c3
  · exact t.c4
  · exact t.c5
  · exact t.c6

/-- One field of one node is another one. -/
theorem nodAt_put {w : World} {g k f : Nat} {l : List Nod} {t : Nod} {v : Value} {cs : Array Value} {ty : TypeId} (h : NodAt w g l) (hg : w.heap[g]? = some (.cells cs ty (0, 0))) (hk : k < l.length) (hf : f < 7) (hv : (nodCells t)[f]? = some v) (ho : ∀ j, j < 7 → j ≠ f → (nodCells t)[j]? = (nodCells (l.getD k noNod))[j]?) :
    NodAt (w.setCell ⟨g, k * 7 + f, none⟩ v) g (l.set k t) := by
  refine nodAt_of_cells (fun i j hi hj => ?_)
  rw [List.length_set] at hi
  have hc := cells_of_nodAt h i j hi hj
  have hr := heap_setCell_same w g (k * 7 + f) cs ty v hg
  rw [cell_of_row _ _ _ _ _ _ hr]
  rw [cell_of_row _ _ _ _ _ _ hg] at hc
  have hkf := cells_of_nodAt h k f hk hf
  rw [cell_of_row _ _ _ _ _ _ hg] at hkf
  have hin : k * 7 + f < cs.size := by
    rcases Nat.lt_or_ge (k * 7 + f) cs.size with h1 | h1
    · exact h1
    · rw [Array.getElem?_eq_none h1] at hkf
      have : (nodCells (l.getD k noNod)).length = 7 := rfl
      rw [List.getElem?_eq_getElem (by omega)] at hkf
      cases hkf
  rw [Array.getElem?_setIfInBounds]
  have e : (l.set k t).getD i noNod = if k = i then t else l.getD i noNod := by
    simp only [List.getD, List.getElem?_set]
    split
    · rename_i h1; subst h1; simp
    · rfl
  rw [e]
  by_cases hki : k = i
  · subst hki
    rw [if_pos rfl]
    by_cases hjf : j = f
    · subst hjf
      rw [if_pos rfl, if_pos hin, hv]
    · rw [if_neg (by omega), ho j hj hjf]
      exact hc
  · rw [if_neg (by omega), if_neg hki]
    exact hc

theorem bent_end {w w1 : World} {g c : Nat} {l : List Nod} (h : NodAt w1 g l) (hl : l.length ≤ 1200) (ht : Trim l) : BentEnd w (.returned (.slice (some ⟨g, 0, none⟩) l.length c)) w1 := ⟨_, g, c, l, rfl, fun _ => rfl, h, hl, ht⟩
theorem bent_cap {w : World} {B c : Nat} {a : Option Addr} {l : List Nod} (h : ownNod w B (.slice a l.length c) l) : l.length ≤ c := by
  rcases h.2 with ⟨h0, hz⟩ | ⟨g, cap, cur, hv, hbg, hg, hn, _⟩
  · simp only [Value.slice.injEq] at h0
    omega
  · simp only [Value.slice.injEq] at hv
    obtain ⟨_, _, rfl⟩ := hv
    exact hn

theorem only_below {B : Nat} {w0 w w' : World} (h : Only B w0 w) (hb : Below w0.heap.size w w') : Only B w0 w' :=
  ⟨hb.os.trans h.os, hb.tape.trans h.tape, hb.output.trans h.output, Nat.le_trans h.size hb.size, fun k hk hB => (hb.block k hk).trans (h.block k hk hB)⟩

theorem nodAt_row {w w' : World} {g : Nat} {l : List Nod} {cs : Array Value} {ty : TypeId} {z : Nat × Nat} (h : w.heap[g]? = some (.cells cs ty z)) (h' : w'.heap[g]? = some (.cells cs ty z)) (hA : NodAt w g l) : NodAt w' g l := by
  refine nodAt_of_cells (fun i j hi hj => ?_)
  have := cells_of_nodAt hA i j hi hj
  rw [cell_of_row _ _ _ _ _ _ h] at this
  rw [cell_of_row _ _ _ _ _ _ h']
  exact this

theorem nodAt_take {w : World} {g : Nat} {l : List Nod} (h : NodAt w g l) (k : Nat) : NodAt w g (l.take k) := by
  intro i hi
  have hi' : i < k ∧ i < l.length := by simp at hi; omega
  have e : (l.take k).getD i noNod = l.getD i noNod := by simp only [List.getD]; rw [List.getElem?_take_of_lt hi'.1]
  rw [e]
  exact h i hi'.2

theorem trim_take {l : List Nod} (h : Trim l) (k : Nat) : Trim (l.take k) := fun t ht => h t (List.mem_of_mem_take ht)

set_option maxHeartbeats 8000000 in
set_option maxRecDepth 20000 in
theorem bent_at (a : Option Addr) (len cap : Nat) (zs : List Int) (B : Nat) (w0 : World) (s : Nat × Int) (h : CurAt a len cap zs B w0 s) :
    Calls Tryz.prog 16 #[.pointer (some ⟨B, 0, none⟩)] w0 fun e w' => BentEnd w0 e w' ∧ Only B w0 w' ∧ ∃ s', CurAt a len cap zs B w' s' := by
  have C0 : Hid (CurAt a len cap zs B w0 s) := h
  have hBw : B < w0.heap.size := h.size
  have OE : Hid (ownNod (w0.alloc (.cells #[] 58)) w0.heap.size (.slice (some ⟨w0.heap.size, 0, none⟩) 0 0) []) := ownNod_empty (Nat.le_refl _)
  clear h
  go_enter Tryz.func16, Tryz.ntmps16
  go_wp2_with fail
  refine (some_at a len cap zs B _ s (curAt_alloc C0.out _)).mono ?_
  rintro e w2 ⟨v2, l2, s2, rfl, o2, p2, m2, t2, c2, n2⟩
  obtain ⟨b2, g2, k2, sp2, rfl, hb2, hA2, hg2, hl2, hr2⟩ := ownNod_form o2
  obtain rfl := hb2 p2
  have C2 : Hid (CurAt a len cap zs B w2 s2) := c2
  have N2 : Hid (Only B w0 w2) := (only_alloc w0 _).trans n2
  have OE2 : Hid (ownNod w2 w0.heap.size (.slice (some ⟨w0.heap.size, 0, none⟩) 0 0) []) := ownNod_only OE.out n2 hBw
  have T3 : Hid (Trim l2) := t2
  have HC2 : Hid (∀ j u, (l2.flatMap nodCells)[j]? = some u → w2.cell? ((⟨g2, 0, none⟩ : Addr).add j) = some u) := o2.cells rfl
  have z2 := N2.out.size
  obtain ⟨i0, hii, hz0, hz1, hz2⟩ := info_parts info_nod
  clear c2 n2 o2 hA2 hr2 t2 hb2 hg2 hl2 OE
  go_wp2_with (at_builtin; refine wpList_append_at _ rfl _ _ 24 rfl w0.heap.size 58 i0 _ 7 72 Tryz.underlying24 hii hz0 hz1 hz2 rfl (by decide) _ _ _ rfl OE2.out ⟨g2, 0, none⟩ l2.length k2 (l2.flatMap nodCells) rfl (by rw [nod_flat_length]) HC2.out (flat_one _) p2 (by unfold maxLen; simp; omega) (by simp; omega) (by omega) ?_)
  intro v3 w3 ho3 hg3
  have HO3 : Hid (ownNod w3 w0.heap.size v3 l2) := by
    show w3.ownsRow w0.heap.size 58 7 v3 l2.length (l2.flatMap nodCells)
    simpa using ho3
  have bel3 : Below w0.heap.size w2 w3 := hg3.below (by omega) (fun k hk => (OE2.out.lt k hk).1)
  have C3 : Hid (CurAt a len cap zs B w3 s2) := curAt_below C2.out bel3 hBw
  have N3 : Hid (Only B w0 w3) := only_below N2.out bel3
  obtain ⟨a3, g3, c3, sp3, rfl, ha3, hA3, hge3, hlt3, hr3⟩ := ownNod_form HO3.out
  obtain rfl := ha3 p2
  have R3 : Hid (w3.heap[g3]? = some (.cells (l2.flatMap nodCells ++ sp3).toArray 58 (0, 0))) := hr3 p2
  have A3 : Hid (NodAt w3 g3 l2) := hA3
  have hgB : g3 ≠ B := by omega
  have hcp := bent_cap HO3.out
  generalize (l2.flatMap nodCells ++ sp3).toArray = cs3 at *
  clear ho3 hg3 bel3 ha3 hA3 hlt3 hr3 HC2 OE2
  go_wp2_with fail
  refine (below_some C3.out l2.length (by omega) (by omega)).mono ?_
  rintro e w4 ⟨KK, s4, rfl, hK0, hK1, c4, n4⟩
  obtain ⟨K, rfl⟩ : ∃ K : Nat, KK = K := ⟨KK.toNat, by omega⟩
  have hK : K < l2.length := by omega
  have C4 : Hid (CurAt a len cap zs B w4 s4) := c4
  have N4 : Hid (Only B w0 w4) := N3.out.trans n4
  have R4 : Hid (w4.heap[g3]? = some (.cells cs3 58 (0, 0))) := (n4.block g3 (Array.getElem?_eq_some_iff.1 R3.out).1 hgB).trans R3.out
  have A4 : Hid (NodAt w4 g3 l2) := nodAt_row R3.out R4.out A3.out
  have n4' := n4
  clear c4 n4 R3 A3 C3 N3
  go_wp2_with fail
  refine (below_some C4.out 14 (by omega) (by omega)).mono ?_
  rintro e w5 ⟨J, s5, rfl, hJ0, hJ1, c5, n5⟩
  have C5 : Hid (CurAt a len cap zs B w5 s5) := c5
  have N5 : Hid (Only B w0 w5) := N4.out.trans n5
  have R5 : Hid (w5.heap[g3]? = some (.cells cs3 58 (0, 0))) := (n5.block g3 (Array.getElem?_eq_some_iff.1 R4.out).1 hgB).trans R4.out
  have A5 : Hid (NodAt w5 g3 l2) := nodAt_row R4.out R5.out A4.out
  have hKi : (K : Int) < l2.length := by omega
  have hKc : (K : Int) ≤ c3 := by omega
  have HO5 : Hid (ownNod w5 w0.heap.size (.slice (some ⟨g3, 0, none⟩) l2.length c3) l2) := ownNod_only (ownNod_only HO3.out n4' hBw) n5 hBw
  have hgw : g3 < w5.heap.size := (Array.getElem?_eq_some_iff.1 R5.out).1
  clear c5 n5 n4' R4 A4 C4 N4 HO3
  rcases (by omega : J = 0 ∨ J = 1 ∨ J = 2 ∨ J = 3 ∨ J = 4 ∨ J = 5 ∨ J = 6 ∨ 7 ≤ J) with rfl | rfl | rfl | rfl | rfl | rfl | rfl | h7
  · have D : Hid (BentEnd w0 (.returned (.slice (some ⟨g3, 0, none⟩) K c3)) w5) := by
      have := bent_end (w := w0) (c := c3) (nodAt_take A5.out K) (by rw [List.length_take]; omega) (trim_take T3.out K)
      rw [List.length_take, Nat.min_eq_left (by omega)] at this
      exact this
    go_wp2
    go_ret
    exact ⟨D.out, N5.out, _, C5.out⟩
  · go_wp2_with fail
    refine (pick_int (curAt_alloc C5.out _) [0, 20, -1, 2, 4] w5.heap.size 5 rfl (by omega) (by omega) (by simp) (by have := C5.out.size; omega) (row_ints w5 [0, 20, -1, 2, 4] 3 _ rfl)).mono ?_
    rintro e w6 ⟨V, s6, hm6, rfl, c6, no6⟩
    have n6 : Only B w5 w6 := (only_alloc w5 _).trans no6
    have RW : Hid (w6.heap[g3]? = some (.cells cs3 58 (0, 0))) := (n6.block g3 (Array.getElem?_eq_some_iff.1 R5.out).1 (by omega)).trans R5.out
    have NW : Hid (NodAt w6 g3 l2) := nodAt_row R5.out RW.out A5.out
    have DN : Hid (Only B w0 w6) := N5.out.trans n6
    have C6 : Hid (CurAt a len cap zs B w6 s6) := c6
    clear c6 no6 n6 hm6
    have hfz : w6.frozen? ⟨g3, K * 7, none⟩ = false := frozen_of_row w6 _ _ _ _ RW.out
    have hex : w6.cell? ⟨g3, K * 7, none⟩ = some _ := cells_of_nodAt NW.out K 0 hK (by omega)
    have D : Hid (BentEnd w0 (.returned (.slice (some ⟨g3, 0, none⟩) l2.length c3)) (w6.setCell ⟨g3, K * 7, none⟩ (.int .i64 V))) := by
      have := bent_end (w := w0) (c := c3) (nodAt_put (f := 0) (t := { (l2.getD K noNod) with kind := V }) NW.out RW.out hK (by omega) rfl (by intro j hj hjf; rcases (by omega : j = 0 ∨ j = 1 ∨ j = 2 ∨ j = 3 ∨ j = 4 ∨ j = 5 ∨ j = 6) with rfl | rfl | rfl | rfl | rfl | rfl | rfl <;> first | rfl | exact absurd rfl hjf)) (by rw [List.length_set]; omega) (trim_set T3.out (trim_at T3.out hK))
      rw [List.length_set] at this
      exact this
    go_wp2
    go_ret
    exact ⟨D.out, only_set DN.out hge3, _, cur_set C6.out (by omega)⟩
  · go_wp2_with fail
    refine (pick_int (curAt_alloc C5.out _) [-1, (K : Int), 0, 99] w5.heap.size 4 rfl (by omega) (by omega) (by simp) (by have := C5.out.size; omega) (row_ints w5 [-1, (K : Int), 0, 99] 3 _ rfl)).mono ?_
    rintro e w6 ⟨V, s6, hm6, rfl, c6, no6⟩
    have n6 : Only B w5 w6 := (only_alloc w5 _).trans no6
    have RW : Hid (w6.heap[g3]? = some (.cells cs3 58 (0, 0))) := (n6.block g3 (Array.getElem?_eq_some_iff.1 R5.out).1 (by omega)).trans R5.out
    have NW : Hid (NodAt w6 g3 l2) := nodAt_row R5.out RW.out A5.out
    have DN : Hid (Only B w0 w6) := N5.out.trans n6
    have C6 : Hid (CurAt a len cap zs B w6 s6) := c6
    clear c6 no6 n6 hm6
    have hfz : w6.frozen? ⟨g3, K * 7 + 1, none⟩ = false := frozen_of_row w6 _ _ _ _ RW.out
    have hex : w6.cell? ⟨g3, K * 7 + 1, none⟩ = some _ := cells_of_nodAt NW.out K 1 hK (by omega)
    have D : Hid (BentEnd w0 (.returned (.slice (some ⟨g3, 0, none⟩) l2.length c3)) (w6.setCell ⟨g3, K * 7 + 1, none⟩ (.int .i64 V))) := by
      have := bent_end (w := w0) (c := c3) (nodAt_put (f := 1) (t := { (l2.getD K noNod) with a := V }) NW.out RW.out hK (by omega) rfl (by intro j hj hjf; rcases (by omega : j = 0 ∨ j = 1 ∨ j = 2 ∨ j = 3 ∨ j = 4 ∨ j = 5 ∨ j = 6) with rfl | rfl | rfl | rfl | rfl | rfl | rfl <;> first | rfl | exact absurd rfl hjf)) (by rw [List.length_set]; omega) (trim_set T3.out (trim_at T3.out hK))
      rw [List.length_set] at this
      exact this
    go_wp2
    go_ret
    exact ⟨D.out, only_set DN.out hge3, _, cur_set C6.out (by omega)⟩
  · go_wp2_with fail
    refine (pick_text (curAt_alloc C5.out _) [⟨#[]⟩, ⟨#[102, 117, 110]⟩, ⟨#[88]⟩, ⟨#[97, 98, 99, 100, 101, 102, 103, 104, 105]⟩, ⟨#[113]⟩] w5.heap.size 5 rfl (by omega) (by omega) (by simp) (by have := C5.out.size; omega) (row_new w5 [⟨#[]⟩, ⟨#[102, 117, 110]⟩, ⟨#[88]⟩, ⟨#[97, 98, 99, 100, 101, 102, 103, 104, 105]⟩, ⟨#[113]⟩] 9 _ rfl)).mono ?_
    rintro e w6 ⟨V, s6, hm6, rfl, c6, no6⟩
    have hzV : Fit9 V := (by decide : ∀ t ∈ ([⟨#[]⟩, ⟨#[102, 117, 110]⟩, ⟨#[88]⟩, ⟨#[97, 98, 99, 100, 101, 102, 103, 104, 105]⟩, ⟨#[113]⟩] : List ByteArray), Fit9 t) V hm6
    have n6 : Only B w5 w6 := (only_alloc w5 _).trans no6
    have RW : Hid (w6.heap[g3]? = some (.cells cs3 58 (0, 0))) := (n6.block g3 (Array.getElem?_eq_some_iff.1 R5.out).1 (by omega)).trans R5.out
    have NW : Hid (NodAt w6 g3 l2) := nodAt_row R5.out RW.out A5.out
    have DN : Hid (Only B w0 w6) := N5.out.trans n6
    have C6 : Hid (CurAt a len cap zs B w6 s6) := c6
    clear c6 no6 n6 hm6
    have hfz : w6.frozen? ⟨g3, K * 7 + 5, none⟩ = false := frozen_of_row w6 _ _ _ _ RW.out
    have hex : w6.cell? ⟨g3, K * 7 + 5, none⟩ = some _ := cells_of_nodAt NW.out K 5 hK (by omega)
    have D : Hid (BentEnd w0 (.returned (.slice (some ⟨g3, 0, none⟩) l2.length c3)) (w6.setCell ⟨g3, K * 7 + 5, none⟩ (.string V))) := by
      have := bent_end (w := w0) (c := c3) (nodAt_put (f := 5) (t := { (l2.getD K noNod) with name := V }) NW.out RW.out hK (by omega) rfl (by intro j hj hjf; rcases (by omega : j = 0 ∨ j = 1 ∨ j = 2 ∨ j = 3 ∨ j = 4 ∨ j = 5 ∨ j = 6) with rfl | rfl | rfl | rfl | rfl | rfl | rfl <;> first | rfl | exact absurd rfl hjf)) (by rw [List.length_set]; omega) (trim_set T3.out (⟨hzV, (trim_at T3.out hK).2⟩))
      rw [List.length_set] at this
      exact this
    go_wp2
    go_ret
    exact ⟨D.out, only_set DN.out hge3, _, cur_set C6.out (by omega)⟩
  · go_wp2_with fail
    refine (pick_int (curAt_alloc C5.out _) [-1, 65536, 4, 1] w5.heap.size 4 rfl (by omega) (by omega) (by simp) (by have := C5.out.size; omega) (row_ints w5 [-1, 65536, 4, 1] 3 _ rfl)).mono ?_
    rintro e w6 ⟨V, s6, hm6, rfl, c6, no6⟩
    have n6 : Only B w5 w6 := (only_alloc w5 _).trans no6
    have RW : Hid (w6.heap[g3]? = some (.cells cs3 58 (0, 0))) := (n6.block g3 (Array.getElem?_eq_some_iff.1 R5.out).1 (by omega)).trans R5.out
    have NW : Hid (NodAt w6 g3 l2) := nodAt_row R5.out RW.out A5.out
    have DN : Hid (Only B w0 w6) := N5.out.trans n6
    have C6 : Hid (CurAt a len cap zs B w6 s6) := c6
    clear c6 no6 n6 hm6
    have hfz : w6.frozen? ⟨g3, K * 7 + 4, none⟩ = false := frozen_of_row w6 _ _ _ _ RW.out
    have hex : w6.cell? ⟨g3, K * 7 + 4, none⟩ = some _ := cells_of_nodAt NW.out K 4 hK (by omega)
    have D : Hid (BentEnd w0 (.returned (.slice (some ⟨g3, 0, none⟩) l2.length c3)) (w6.setCell ⟨g3, K * 7 + 4, none⟩ (.int .i64 V))) := by
      have := bent_end (w := w0) (c := c3) (nodAt_put (f := 4) (t := { (l2.getD K noNod) with n := V }) NW.out RW.out hK (by omega) rfl (by intro j hj hjf; rcases (by omega : j = 0 ∨ j = 1 ∨ j = 2 ∨ j = 3 ∨ j = 4 ∨ j = 5 ∨ j = 6) with rfl | rfl | rfl | rfl | rfl | rfl | rfl <;> first | rfl | exact absurd rfl hjf)) (by rw [List.length_set]; omega) (trim_set T3.out (trim_at T3.out hK))
      rw [List.length_set] at this
      exact this
    go_wp2
    go_ret
    exact ⟨D.out, only_set DN.out hge3, _, cur_set C6.out (by omega)⟩
  · have RW : Hid (w5.heap[g3]? = some (.cells cs3 58 (0, 0))) := R5
    have NW : Hid (NodAt w5 g3 l2) := A5
    have DN : Hid (Only B w0 w5) := N5
    have hfz : w5.frozen? ⟨g3, K * 7 + 6, none⟩ = false := frozen_of_row w5 _ _ _ _ RW.out
    have hex : w5.cell? ⟨g3, K * 7 + 6, none⟩ = some _ := cells_of_nodAt NW.out K 6 hK (by omega)
    have D : Hid (BentEnd w0 (.returned (.slice (some ⟨g3, 0, none⟩) l2.length c3)) (w5.setCell ⟨g3, K * 7 + 6, none⟩ (.string ⟨#[119]⟩))) := by
      have := bent_end (w := w0) (c := c3) (nodAt_put (f := 6) (t := { (l2.getD K noNod) with other := ⟨#[119]⟩ }) NW.out RW.out hK (by omega) rfl (by intro j hj hjf; rcases (by omega : j = 0 ∨ j = 1 ∨ j = 2 ∨ j = 3 ∨ j = 4 ∨ j = 5 ∨ j = 6) with rfl | rfl | rfl | rfl | rfl | rfl | rfl <;> first | rfl | exact absurd rfl hjf)) (by rw [List.length_set]; omega) (trim_set T3.out (⟨(trim_at T3.out hK).1, by show Fit9 (⟨#[119]⟩ : ByteArray); decide⟩))
      rw [List.length_set] at this
      exact this
    go_wp2
    go_ret
    exact ⟨D.out, only_set DN.out hge3, _, cur_set C5.out (by omega)⟩
  · clear R5 A5
    go_wp2
    go_loopg [3] (152 - l2.length) (fun gk v wr => ∃ (ls : List Nod) (sx : Nat × Int), gk = 152 - ls.length ∧ 0 < ls.length ∧ ls.length ≤ 1100 ∧ Hid (ownNod wr w0.heap.size v ls) ∧ Hid (Trim ls) ∧ Hid (CurAt a len cap zs B wr sx) ∧ Hid (Only B w0 wr))
    case atStart => exact ⟨l2, s5, rfl, p2, by omega, HO5, T3, C5, N5⟩
    case round =>
      clear HO5 C5 N5
      obtain ⟨ls, sx, hgk, hp, hm, HO, HT, HC, HN⟩ := hrel
      have HGK : Hid (_) := hgk
      clear hgk
      obtain ⟨a6, g6, c6, sp6, rfl, ha6, -⟩ := ownNod_form HO.out
      obtain rfl := ha6 hp
      have hzr := HN.out.size
      go_wp2_with fail
      refine (below_some HC.out 2 (by omega) (by omega)).mono ?_
      rintro e w6 ⟨D, s6, rfl, hD0, hD1, k6, n6⟩
      have C6 : Hid (CurAt a len cap zs B w6 s6) := k6
      have N6 : Hid (Only B w0 w6) := HN.out.trans n6
      have O6 : Hid (ownNod w6 w0.heap.size (.slice (some ⟨g6, 0, none⟩) ls.length c6) ls) := ownNod_only HO.out n6 hBw
      have hz6 := N6.out.size
      clear k6 n6 HO HC HN
      by_cases hlt : (ls.length : Int) < 150 + D
      · obtain ⟨i1, hj, hy0, hy1, hy2⟩ := info_parts info_nod
        go_wp2_with (at_builtin; refine wpList_append_at _ rfl _ _ 24 rfl w0.heap.size 58 i1 _ 7 72 Tryz.underlying24 hj hy0 hy1 hy2 rfl (by decide) _ _ _ rfl (O6.out.alloc _) ⟨w6.heap.size, 0, none⟩ 1 1 (nodCells ⟨10, (ls.length : Int) - 1, 0, 0, 0, ⟨#[]⟩, ⟨#[]⟩⟩) rfl rfl (nod_new rfl _ _ _ _ _ _ _ _) (nod_one _) (by omega) (by unfold maxLen; omega) (by omega) (by simp; omega) ?_)
        intro v7 w7 ho7 hg7
        have HO7 : Hid (ownNod w7 w0.heap.size v7 (ls ++ [⟨10, (ls.length : Int) - 1, 0, 0, 0, ⟨#[]⟩, ⟨#[]⟩⟩])) := ownNod_next _ ho7 rfl rfl
        have bel7 : Below w0.heap.size w6 w7 := ((Below.refl _ w6).alloc hz6 _).trans (hg7.below (by simp; omega) (fun k hk => (O6.out.lt k hk).1))
        have C7 : Hid (CurAt a len cap zs B w7 s6) := curAt_below C6.out bel7 hBw
        have N7 : Hid (Only B w0 w7) := only_below N6.out bel7
        have T7 : Hid (Trim (ls ++ [⟨10, (ls.length : Int) - 1, 0, 0, 0, ⟨#[]⟩, ⟨#[]⟩⟩])) := good_app HT.out (good_one ⟨by show Fit9 (⟨#[]⟩ : ByteArray); decide, by show Fit9 (⟨#[]⟩ : ByteArray); decide⟩)
        clear ho7 hg7 bel7
        go_wp2
        go_roundg (152 - (ls.length + 1))
        case rel => exact ⟨ls ++ [⟨10, (ls.length : Int) - 1, 0, 0, 0, ⟨#[]⟩, ⟨#[]⟩⟩], s6, by simp, by simp, by simp; omega, HO7, T7, C7, N7⟩
        case measure => have := HGK.out; omega
      · have D6 : Hid (BentEnd w0 (.returned (.slice (some ⟨g6, 0, none⟩) ls.length c6)) w6) := by
          obtain ⟨a8, g8, c8, sp8, he, ha8, hA8, -⟩ := ownNod_form O6.out
          obtain rfl := ha8 hp
          simp only [Value.slice.injEq, Option.some.injEq, Addr.mk.injEq, true_and, and_true] at he
          obtain ⟨rfl, rfl⟩ := he
          exact bent_end hA8 (by omega) HT.out
        go_wp2
        go_ret
        exact ⟨D6.out, N6.out, _, C6.out⟩
  · have D : Hid (BentEnd w0 (.returned (.slice (some ⟨g3, 0, none⟩) l2.length c3)) w5) := bent_end A5.out (by omega) T3.out
    have e0 : ¬ J = 0 := by omega
    have e1 : ¬ J = 1 := by omega
    have e2 : ¬ J = 2 := by omega
    have e3 : ¬ J = 3 := by omega
    have e4 : ¬ J = 4 := by omega
    have e5 : ¬ J = 5 := by omega
    have e6 : ¬ J = 6 := by omega
    go_wp2
    go_ret
    exact ⟨D.out, N5.out, _, C5.out⟩

/-- What DrawPrint gives: some nodes, bent or not. -/
theorem draw_print (a : Option Addr) (len cap : Nat) (zs : List Int) (w : World) (hrow : IsRow w a len cap zs) (hl : len ≤ 1048576) :
    Calls Tryz.prog 5 #[.slice a len cap] w fun e w' => BentEnd w e w' ∧ Below w.heap.size w w' := by
  have HN : Hid (Calls Tryz.prog 15 #[.slice a len cap] w fun e w' => e = .returned (.pointer (some ⟨w.heap.size, 0, none⟩)) ∧ CurAt a len cap zs w.heap.size w' (newS zs len) ∧ Below w.heap.size w w') := new_at a len cap zs w hrow hl
  clear hrow
  go_enter Tryz.func5, Tryz.ntmps5
  go_wp2_with fail
  refine Calls.mono HN.out ?_
  rintro e w1 ⟨rfl, c1, b1⟩
  have C1 : Hid (CurAt a len cap zs w.heap.size w1 (newS zs len)) := c1
  have B1 : Hid (Below w.heap.size w w1) := b1
  clear c1 b1 HN
  go_wp2_with fail
  refine (bent_at a len cap zs w.heap.size w1 _ C1.out).mono ?_
  rintro e w2 ⟨hb, hn, -⟩
  have BB : Hid (BentEnd w e w2 ∧ Below w.heap.size w w2) := by
    refine ⟨hb, ?_⟩
    have hs := B1.out.size
    exact ⟨hn.os.trans B1.out.os, hn.tape.trans B1.out.tape, hn.output.trans B1.out.output, Nat.le_trans hs hn.size, fun k hk => (hn.block k (by omega) (by omega)).trans (B1.out.block k hk)⟩
  obtain ⟨al, g, c, l, rfl, -⟩ := hb
  clear hn
  go_wp2
  go_ret
  exact BB.out
end Go.Proofs.YtobijbhgpgnfkaaGreatDoor
