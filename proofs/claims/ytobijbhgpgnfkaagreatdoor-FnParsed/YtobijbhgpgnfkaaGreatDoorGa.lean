/-
  Rows of texts and of numbers that grow behind each other. Conditions: written at each theorem.
-/
import Derived.Test.YtobijbhgpgnfkaaGreatDoorGf
namespace Go.Proofs.YtobijbhgpgnfkaaGreatDoor
open Go.ChangeShapes Go.WideShapes Go.ChangeAt Go.RowKit
set_option linter.unusedVariables false

theorem str_info : (Tryz.prog.info? 9).map (fun i => (i.zero, i.size, i.bytes)) = some (some (.string ⟨#[]⟩), 1, 16) := by kernel_rfl
theorem num_info : (Tryz.prog.info? 3).map (fun i => (i.zero, i.size, i.bytes)) = some (some (.int .i64 0), 1, 8) := by kernel_rfl

def ownS (w : World) (B : Nat) (v : Value) (ns : List ByteArray) : Prop := w.ownsRow B 9 1 v ns.length (ns.map Value.string)
def ownN (w : World) (B : Nat) (v : Value) (ns : List Int) : Prop := w.ownsRow B 3 1 v ns.length (ns.map (Value.int .i64))

theorem str_empty {w : World} : ownS (w.alloc (.cells #[] 9)) w.heap.size (.slice (some ⟨w.heap.size, 0, none⟩) 0 0) [] := World.ownsRow_lit w #[] 0 (Nat.le_refl _) (by omega) rfl
theorem num_empty {w : World} : ownN (w.alloc (.cells #[] 3)) w.heap.size (.slice (some ⟨w.heap.size, 0, none⟩) 0 0) [] := World.ownsRow_lit w #[] 0 (Nat.le_refl _) (by omega) rfl

theorem row_slice {w : World} {B : Nat} {e : TypeId} {v : Value} {n : Nat} {xs : List Value} (h : w.ownsRow B e 1 v n xs) (hv : ¬ v = .slice none 0 0) : ∃ g cap, v = .slice (some ⟨g, 0, none⟩) n cap ∧ B ≤ g ∧ g < w.heap.size ∧ n ≤ cap ∧ cap ≤ maxLen := by
  rcases h.2 with ⟨h0, _⟩ | ⟨g, cap, cur, hv', hb, hg, hn, hm, _⟩
  · exact absurd h0 hv
  · exact ⟨g, cap, hv', hb, (Array.getElem?_eq_some_iff.1 hg).1, hn, hm⟩

theorem grow_str (w : World) {ops : Array Oper} {rest : List Oper} {o : Oper} {a : Act} {Q : Exit → Act → World → Prop} (hgd : o.guard = none) (s x : Operand) (ho : o.op = .call { callee := .builtin .append, args := #[s, x], argTypes := #[79, 79] })
    (base : Nat) (v : Value) (ms : List ByteArray) (hs : a.eval s = v) (hown : ownS w base v ms) (hv : ¬ v = .slice none 0 0) (g m c : Nat) (ns : List ByteArray) (hx : a.eval x = .slice (some ⟨g, 0, none⟩) m c) (hm : ns.length = m) (hc : ∀ j, j < m → w.cell? ⟨g, j, none⟩ = some (.string (ns.getD j ByteArray.empty)))
    (tot : Nat) (htot : ms.length + m = tot) (hl : tot ≤ 1000) (hb : base ≤ w.heap.size)
    (h : ∀ g' c' w', ownS w' base (.slice (some ⟨g', 0, none⟩) tot c') (ms ++ ns) → Below base w w' → wpList Tryz.prog ops Q rest (a.put o.dst (.slice (some ⟨g', 0, none⟩) tot c')) w') : wpList Tryz.prog ops Q (o :: rest) a w := by
  subst htot
  obtain ⟨i0, hi, hz0, hz1, hz2⟩ := info_parts str_info
  refine wpList_append_own w hgd s x 79 ho base 9 i0 (.string ⟨#[]⟩) 1 16 Tryz.underlying79 hi hz0 hz1 hz2 rfl (by decide) v ms.length (ms.map Value.string) hs hown ⟨g, 0, none⟩ m c (ns.map Value.string) hx (by simp [hm]) ?_ ?_ (by unfold maxLen; omega) (by omega) hb ?_
  · intro j u hj
    rw [List.getElem?_map] at hj
    obtain ⟨y, hy, rfl⟩ := Option.map_eq_some_iff.1 hj
    have hjl : j < ns.length := (List.getElem?_eq_some_iff.1 hy).1
    have := hc j (by omega)
    rw [add_plain, Nat.zero_add, this, List.getD, hy]
    rfl
  · intro u hu
    obtain ⟨y, _, rfl⟩ := List.mem_map.1 hu
    rfl
  · intro v' w' h2 h3 h4
    have hv' : ¬ v' = .slice none 0 0 := fun e => hv (h4.1 e).1
    obtain ⟨g', c', rfl, _⟩ := row_slice h2 hv'
    refine h g' c' w' ?_ ((Below.refl base w).grown h3 hb (fun k hk => (hown.lt k hk).1))
    show w'.ownsRow base 9 1 _ (ms ++ ns).length ((ms ++ ns).map Value.string)
    rw [List.length_append, List.map_append, hm]
    exact h2

theorem grow_num (w : World) {ops : Array Oper} {rest : List Oper} {o : Oper} {a : Act} {Q : Exit → Act → World → Prop} (hgd : o.guard = none) (s x : Operand) (ho : o.op = .call { callee := .builtin .append, args := #[s, x], argTypes := #[54, 54] })
    (base : Nat) (v : Value) (ms : List Int) (hs : a.eval s = v) (hown : ownN w base v ms) (hv : ¬ v = .slice none 0 0) (g m c : Nat) (ns : List Int) (hx : a.eval x = .slice (some ⟨g, 0, none⟩) m c) (hm : ns.length = m) (hc : ∀ j, j < m → w.cell? ⟨g, j, none⟩ = some (.int .i64 (ns.getD j 0)))
    (tot : Nat) (htot : ms.length + m = tot) (hl : tot ≤ 1000) (hb : base ≤ w.heap.size)
    (h : ∀ g' c' w', ownN w' base (.slice (some ⟨g', 0, none⟩) tot c') (ms ++ ns) → Below base w w' → wpList Tryz.prog ops Q rest (a.put o.dst (.slice (some ⟨g', 0, none⟩) tot c')) w') : wpList Tryz.prog ops Q (o :: rest) a w := by
  subst htot
  obtain ⟨i0, hi, hz0, hz1, hz2⟩ := info_parts num_info
  refine wpList_append_own w hgd s x 54 ho base 3 i0 (.int .i64 0) 1 8 Tryz.underlying54 hi hz0 hz1 hz2 rfl (by decide) v ms.length (ms.map (Value.int .i64)) hs hown ⟨g, 0, none⟩ m c (ns.map (Value.int .i64)) hx (by simp [hm]) ?_ ?_ (by unfold maxLen; omega) (by omega) hb ?_
  · intro j u hj
    rw [List.getElem?_map] at hj
    obtain ⟨y, hy, rfl⟩ := Option.map_eq_some_iff.1 hj
    have hjl : j < ns.length := (List.getElem?_eq_some_iff.1 hy).1
    have := hc j (by omega)
    rw [add_plain, Nat.zero_add, this, List.getD, hy]
    rfl
  · intro u hu
    obtain ⟨y, _, rfl⟩ := List.mem_map.1 hu
    rfl
  · intro v' w' h2 h3 h4
    have hv' : ¬ v' = .slice none 0 0 := fun e => hv (h4.1 e).1
    obtain ⟨g', c', rfl, _⟩ := row_slice h2 hv'
    refine h g' c' w' ?_ ((Below.refl base w).grown h3 hb (fun k hk => (hown.lt k hk).1))
    show w'.ownsRow base 3 1 _ (ms ++ ns).length ((ms ++ ns).map (Value.int .i64))
    rw [List.length_append, List.map_append, hm]
    exact h2

theorem Strs.cells {B : Nat} {w : World} {g n c : Nat} (h : Strs B w (.slice (some ⟨g, 0, none⟩) n c) n) : ∃ ns : List ByteArray, ns.length = n ∧ g ≠ B ∧ g < w.heap.size ∧ (∀ j, j < n → Fit9 (ns.getD j ByteArray.empty)) ∧ ∀ j, j < n → w.cell? ⟨g, j, none⟩ = some (.string (ns.getD j ByteArray.empty)) := by
  obtain ⟨g', cap, ns, h1, h2, h2', h3, h4, h5, h6, h7⟩ := h
  simp only [Value.slice.injEq, Option.some.injEq, Addr.mk.injEq, true_and, and_true] at h1
  obtain ⟨rfl, rfl⟩ := h1
  exact ⟨ns, h3, h4, h5, h6, h7⟩

theorem Ints.cells {B : Nat} {w : World} {g n c : Nat} (h : Ints B w (.slice (some ⟨g, 0, none⟩) n c) n) : ∃ ns : List Int, ns.length = n ∧ g ≠ B ∧ g < w.heap.size ∧ ∀ j, j < n → w.cell? ⟨g, j, none⟩ = some (.int .i64 (ns.getD j 0)) := by
  obtain ⟨g', cap, ns, h1, h2, h2', h3, h4, h5, h7⟩ := h
  simp only [Value.slice.injEq, Option.some.injEq, Addr.mk.injEq, true_and, and_true] at h1
  obtain ⟨rfl, rfl⟩ := h1
  exact ⟨ns, h3, h4, h5, h7⟩

theorem own_cells {w : World} {B : Nat} {e : TypeId} {g n c : Nat} {xs : List Value} (h : w.ownsRow B e 1 (.slice (some ⟨g, 0, none⟩) n c) n xs) : ∀ j u, xs[j]? = some u → w.cell? ⟨g, j, none⟩ = some u := by
  intro j u hj
  have := h.cells (g := g) rfl j u hj
  rwa [add_plain, Nat.zero_add] at this

theorem ownS.strs {w : World} {base B : Nat} {g n c : Nat} {ns : List ByteArray} (h : ownS w base (.slice (some ⟨g, 0, none⟩) n c) ns) (hn : ns.length = n) (hB : B < base) (hs : ∀ t ∈ ns, Fit9 t) : Strs B w (.slice (some ⟨g, 0, none⟩) n c) n := by
  subst hn
  obtain ⟨g', c', he, h1, h2, h3, h4⟩ := row_slice h (by intro e; cases e)
  simp only [Value.slice.injEq, Option.some.injEq, Addr.mk.injEq, true_and, and_true] at he
  obtain ⟨rfl, rfl⟩ := he
  refine ⟨_, _, ns, rfl, h3, h4, rfl, by omega, h2, fun j hj => ?_, fun j hj => ?_⟩
  · rw [List.getD, List.getElem?_eq_getElem hj]
    exact hs _ (List.getElem_mem hj)
  · refine own_cells h j _ ?_
    rw [List.getElem?_map, List.getElem?_eq_getElem hj, List.getD, List.getElem?_eq_getElem hj]
    rfl

theorem ownN.ints {w : World} {base B : Nat} {g n c : Nat} {ns : List Int} (h : ownN w base (.slice (some ⟨g, 0, none⟩) n c) ns) (hn : ns.length = n) (hB : B < base) : Ints B w (.slice (some ⟨g, 0, none⟩) n c) n := by
  subst hn
  obtain ⟨g', c', he, h1, h2, h3, h4⟩ := row_slice h (by intro e; cases e)
  simp only [Value.slice.injEq, Option.some.injEq, Addr.mk.injEq, true_and, and_true] at he
  obtain ⟨rfl, rfl⟩ := he
  refine ⟨_, _, ns, rfl, h3, h4, rfl, by omega, h2, fun j hj => ?_⟩
  refine own_cells h j _ ?_
  rw [List.getElem?_map, List.getElem?_eq_getElem hj, List.getD, List.getElem?_eq_getElem hj]
  rfl

theorem row_ints (w : World) (ls : List Int) (t : TypeId) (cs : Array Value) (hcs : cs = (ls.map (Value.int .i64)).toArray) : ∀ j, j < ls.length → (w.alloc (.cells cs t)).cell? ⟨w.heap.size, j, none⟩ = some (.int .i64 (ls.getD j 0)) := by
  subst hcs
  intro j hj
  rw [cell_of_row _ _ _ _ _ _ (MapKept.heap_alloc w _).1]
  simp [List.getD, List.getElem?_eq_getElem hj]

theorem old_cell {w : World} {g q : Nat} {v : Value} (hg : g < w.heap.size) (h : w.cell? ⟨g, q, none⟩ = some v) (o : Obj) : (w.alloc o).cell? ⟨g, q, none⟩ = some v :=
  (((Below.refl w.heap.size w).alloc (Nat.le_refl _) o).cell (p := ⟨g, q, none⟩) hg).trans h

theorem sizes_mem {ns : List ByteArray} {n : Nat} (hn : ns.length = n) (h : ∀ j, j < n → Fit9 (ns.getD j ByteArray.empty)) : ∀ t ∈ ns, Fit9 t := by
  intro t ht
  obtain ⟨j, hj, rfl⟩ := List.getElem_of_mem ht
  have := h j (by omega)
  rwa [List.getD, List.getElem?_eq_getElem hj] at this
end Go.Proofs.YtobijbhgpgnfkaaGreatDoor
