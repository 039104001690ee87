/-
  The text of a node, the specification's. Conditions: written at each theorem.
-/
import Derived.Test.YtlooccddflpmnaaDoorXt
import Derived.Test.YtlooccddflpmnaaDoorKf
import Derived.Test.YtlooccddflpmnaaDoorPf
import Derived.Test.YtlooccddflpmnaaDoorKs
import Derived.Test.YtlooccddflpmnaaDoorDs
namespace Go.Proofs.YtlooccddflpmnaaDoor
open Go.ChangeShapes Go.WideShapes Go.ChangeAt Go.RowKit
set_option linter.unusedVariables false

/-- What is asked of the text of node i. -/
def ShowAt (ts : List Nod) (g cap f i : Nat) : Prop := ∀ w : World, NodAt w g ts →
  Calls Tryd.prog 13 #[.slice (some ⟨g, 0, none⟩) ts.length cap, .int .i64 i] w fun e w' => e = .returned (.string ⟨(textN ts f i).toArray⟩) ∧ Below w.heap.size w w'

theorem cells7_at {w : World} {g : Nat} {t : Nod} {e : TypeId} {z : Nat × Nat} (h : w.heap[g]? = some (.cells (nodCells t).toArray e z)) :
    w.cell? ⟨g, 0, none⟩ = some (.int .i64 t.kind) ∧ w.cell? ⟨g, 1, none⟩ = some (.int .i64 t.a) ∧ w.cell? ⟨g, 2, none⟩ = some (.int .i64 t.b) ∧ w.cell? ⟨g, 3, none⟩ = some (.int .i64 t.c) ∧ w.cell? ⟨g, 4, none⟩ = some (.int .i64 t.n) ∧ w.cell? ⟨g, 5, none⟩ = some (.string t.name) ∧ w.cell? ⟨g, 6, none⟩ = some (.string t.other) := by
  refine ⟨?_, ?_, ?_, ?_, ?_, ?_, ?_⟩ <;> (rw [cell_of_row _ _ _ _ _ _ h]; rfl)

theorem cells2_at {w : World} {g : Nat} {a b : ByteArray} {e : TypeId} {z : Nat × Nat} (h : w.heap[g]? = some (.cells #[.string a, .string b] e z)) : w.cell? ⟨g, 0, none⟩ = some (.string a) ∧ w.cell? ⟨g, 1, none⟩ = some (.string b) := by
  refine ⟨?_, ?_⟩ <;> (rw [cell_of_row _ _ _ _ _ _ h]; rfl)

theorem cells3_at {w : World} {g : Nat} {a b c : Int} {e : TypeId} {z : Nat × Nat} (h : w.heap[g]? = some (.cells #[.int .i64 a, .int .i64 b, .int .i64 c] e z)) : w.cell? ⟨g, 0, none⟩ = some (.int .i64 a) ∧ w.cell? ⟨g, 1, none⟩ = some (.int .i64 b) ∧ w.cell? ⟨g, 2, none⟩ = some (.int .i64 c) := by
  refine ⟨?_, ?_, ?_⟩ <;> (rw [cell_of_row _ _ _ _ _ _ h]; rfl)

theorem show_leaf {ts : List Nod} {g cap f i : Nat} (hi : i < ts.length) (hl : ts.length ≤ 1000) (h : (ts.getD i noNod).kind = 1 ∨ ((ts.getD i noNod).kind = 2 ∧ 0 ≤ (ts.getD i noNod).n ∧ (ts.getD i noNod).n ≤ 65535) ∨ (ts.getD i noNod).kind = 12) : ShowAt ts g cap (f + 1) i := by
  intro w hA
  have t := hA i hi
  have HX : Hid (textN ts (f + 1) i = nodeT (textN ts f) (ts.getD i noNod)) := rfl
  obtain ⟨⟨x0, x1, x2, x3, x4, x5, x6⟩, hx⟩ : ∃ y, ts.getD i noNod = y := ⟨_, rfl⟩
  rw [hx] at t h HX
  simp only at h
  have q0 : w.cell? ⟨g, i * 7, none⟩ = some (.int .i64 x0) := t.c0
  have q1 : w.cell? ⟨g, i * 7 + 1, none⟩ = some (.int .i64 x1) := t.c1
  have q2 : w.cell? ⟨g, i * 7 + 2, none⟩ = some (.int .i64 x2) := t.c2
  have q3 : w.cell? ⟨g, i * 7 + 3, none⟩ = some (.int .i64 x3) := t.c3
  have q4 : w.cell? ⟨g, i * 7 + 4, none⟩ = some (.int .i64 x4) := t.c4
  have q5 : w.cell? ⟨g, i * 7 + 5, none⟩ = some (.string x5) := t.c5
  have q6 : w.cell? ⟨g, i * 7 + 6, none⟩ = some (.string x6) := t.c6
  have hi' : (i : Int) < ts.length := by omega
  clear t hx hA
  have HB : Hid (Below w.heap.size w (w.alloc (.cells (nodCells ⟨x0, x1, x2, x3, x4, x5, x6⟩).toArray 46))) := (Below.refl _ w).alloc (Nat.le_refl _) _
  rcases h with rfl | ⟨rfl, h0, h1⟩ | rfl
  · go_enter Tryd.func13, Tryd.ntmps13
    go_wp2
    go_ret
    exact ⟨by rw [HX.out]; rfl, HB.out⟩
  · go_enter Tryd.func13, Tryd.ntmps13
    go_wp2_with fail
    refine (spec_dec x4 (by omega) (by omega) _).mono ?_
    rintro e w1 ⟨rfl, b1⟩
    have B1 : Hid (Below w.heap.size w w1) := HB.out.trans (b1.mono (by simp))
    clear b1
    go_wp2
    go_ret
    exact ⟨by rw [HX.out]; rfl, B1.out⟩
  · go_enter Tryd.func13, Tryd.ntmps13
    go_wp2
    go_ret
    exact ⟨by rw [HX.out]; rfl, HB.out⟩

theorem spec_form_key {k n : Int} (h : IsForm k n) (w : World) :
    Calls Tryd.prog 22 #[.string (keyN k n)] w fun e w' => (∃ m : Int, e = .returned (.tuple #[.int .i64 k, .int .i64 m, .string ⟨(goesOn k).toArray⟩])) ∧ w' = w := by
  refine (spec_form (keyN k n) w).mono ?_
  rintro e w' ⟨rfl, rfl⟩
  have := form_key h
  exact ⟨⟨_, by rw [this]⟩, rfl⟩

/-- While the form goes on: what is written, what is left. -/
def LoopS (rec : Nat → List UInt8) (t : Nod) (gn gk : Nat) (k : Nat) (s ns ks : Value) : Prop :=
  ∃ (S : ByteArray) (don : List UInt8) (x y ox oy : Nat), s = .string S ∧ S.data.toList = [40] ++ (keyN t.kind t.n).data.toList ++ don ∧ ns = .slice (some ⟨gn, ox, none⟩) (2 - x) (2 - x) ∧ ks = .slice (some ⟨gk, oy, none⟩) (arN t.kind - y) (3 - y) ∧ (x < 2 → ox = x) ∧ (y < 3 → oy = y)
    ∧ don ++ argT rec ((goesOn t.kind).drop k) ([t.name, t.other].drop x) ([t.a, t.b, t.c].drop y) = argT rec (goesOn t.kind) [t.name, t.other] [t.a, t.b, t.c]
    ∧ (((goesOn t.kind).drop k).filter (· = 110)).length + x ≤ 2 ∧ (((goesOn t.kind).drop k).filter (· ≠ 110)).length + y ≤ arN t.kind

theorem goes_two_names (k : Int) : ((goesOn k).filter (· = 110)).length ≤ 2 := by
  unfold goesOn
  by_cases h3 : k = 3
  · rw [if_pos h3]; decide
  rw [if_neg h3]
  by_cases h5 : k = 5
  · rw [if_pos h5]; decide
  rw [if_neg h5]
  by_cases h6 : k = 6
  · rw [if_pos h6]; decide
  rw [if_neg h6]
  by_cases h7 : k = 7
  · rw [if_pos h7]; decide
  rw [if_neg h7]
  by_cases h14 : k = 14
  · rw [if_pos h14]; decide
  rw [if_neg h14]
  by_cases h19 : k = 19
  · rw [if_pos h19]; decide
  rw [if_neg h19]
  by_cases h10 : k = 10 ∨ k = 11 ∨ k = 15 ∨ k = 16 ∨ k = 18
  · rw [if_pos h10]; decide
  rw [if_neg h10]
  decide

theorem nodeT_form {rec : Nat → List UInt8} {t : Nod} (h : IsForm t.kind t.n) : nodeT rec t = formT rec t := by
  unfold nodeT
  rw [if_neg (by have := h.1; omega), if_neg (by have := h.1; omega), if_neg h.2.2.1]

theorem goes_len (k : Int) : (goesOn k).length ≤ 5 := by
  unfold goesOn
  by_cases h3 : k = 3
  · rw [if_pos h3]; decide
  rw [if_neg h3]
  by_cases h5 : k = 5
  · rw [if_pos h5]; decide
  rw [if_neg h5]
  by_cases h6 : k = 6
  · rw [if_pos h6]; decide
  rw [if_neg h6]
  by_cases h7 : k = 7
  · rw [if_pos h7]; decide
  rw [if_neg h7]
  by_cases h14 : k = 14
  · rw [if_pos h14]; decide
  rw [if_neg h14]
  by_cases h19 : k = 19
  · rw [if_pos h19]; decide
  rw [if_neg h19]
  by_cases h10 : k = 10 ∨ k = 11 ∨ k = 15 ∨ k = 16 ∨ k = 18
  · rw [if_pos h10]; decide
  rw [if_neg h10]
  decide

theorem loop_start (rec : Nat → List UInt8) (t : Nod) (gn gk : Nat) (h : IsForm t.kind t.n) : LoopS rec t gn gk 0 (.string (⟨#[40]⟩ ++ keyN t.kind t.n)) (.slice (some ⟨gn, 0, none⟩) 2 2) (.slice (some ⟨gk, 0, none⟩) (arN t.kind) 3) := by
  refine ⟨_, [], 0, 0, 0, 0, rfl, ?_, rfl, rfl, fun _ => rfl, fun _ => rfl, rfl, ?_, ?_⟩
  · rw [ByteArray.data_append, Array.toList_append]
    simp
  · have := goes_two_names t.kind
    simpa using this
  · have := asked_ar h
    unfold asked at this
    show ((goesOn t.kind).filter (· ≠ 110)).length + 0 ≤ _
    omega

theorem bytes_join (A B : ByteArray) : (A ++ B).data.toList = A.data.toList ++ B.data.toList := by
  rw [ByteArray.data_append, Array.toList_append]

theorem loop_name {rec : Nat → List UInt8} {t : Nod} {gn gk k ox oy : Nat} {S : ByteArray} {don : List UInt8} {x y : Nat} (hox : x + 1 < 2 → ox = x + 1) (hoy : y < 3 → oy = y) {c : UInt8} {cs : List UInt8} (hc : (goesOn t.kind).drop k = c :: cs) (h110 : c = 110)
    (hS : S.data.toList = [40] ++ (keyN t.kind t.n).data.toList ++ don) (hd : don ++ argT rec ((goesOn t.kind).drop k) ([t.name, t.other].drop x) ([t.a, t.b, t.c].drop y) = argT rec (goesOn t.kind) [t.name, t.other] [t.a, t.b, t.c])
    (hn : (((goesOn t.kind).drop k).filter (· = 110)).length + x ≤ 2) (hk : (((goesOn t.kind).drop k).filter (· ≠ 110)).length + y ≤ arN t.kind) :
    x < 2 ∧ LoopS rec t gn gk (k + 1) (.string (S ++ ⟨#[32]⟩ ++ [t.name, t.other].getD x ByteArray.empty)) (.slice (some ⟨gn, ox, none⟩) (2 - (x + 1)) (2 - (x + 1))) (.slice (some ⟨gk, oy, none⟩) (arN t.kind - y) (3 - y)) := by
  have hcs : (goesOn t.kind).drop (k + 1) = cs := by rw [← List.drop_drop, hc]; rfl
  rw [hc] at hd hn hk
  have e1 : ((c :: cs).filter (· = 110)).length = (cs.filter (· = 110)).length + 1 := by simp [h110]
  have e2 : ((c :: cs).filter (· ≠ 110)).length = (cs.filter (· ≠ 110)).length := by simp [h110]
  rw [e1] at hn
  rw [e2] at hk
  refine ⟨by omega, _, don ++ [32] ++ ([t.name, t.other].getD x ByteArray.empty).data.toList, x + 1, y, ox, oy, rfl, ?_, rfl, rfl, hox, hoy, ?_, by rw [hcs]; omega, by rw [hcs]; exact hk⟩
  · rw [bytes_join, bytes_join, hS]
    simp
  · rw [hcs, ← hd]
    have hx : x = 0 ∨ x = 1 := by omega
    rw [argT, if_pos h110]
    rcases hx with rfl | rfl <;> simp

theorem loop_kid {rec : Nat → List UInt8} {t : Nod} {gn gk k ox oy : Nat} {S : ByteArray} {don : List UInt8} {x y : Nat} (hox : x < 2 → ox = x) (hoy : y + 1 < 3 → oy = y + 1) {c : UInt8} {cs : List UInt8} (hc : (goesOn t.kind).drop k = c :: cs) (h110 : c ≠ 110)
    (hS : S.data.toList = [40] ++ (keyN t.kind t.n).data.toList ++ don) (hd : don ++ argT rec ((goesOn t.kind).drop k) ([t.name, t.other].drop x) ([t.a, t.b, t.c].drop y) = argT rec (goesOn t.kind) [t.name, t.other] [t.a, t.b, t.c])
    (hn : (((goesOn t.kind).drop k).filter (· = 110)).length + x ≤ 2) (hk : (((goesOn t.kind).drop k).filter (· ≠ 110)).length + y ≤ arN t.kind) :
    y < arN t.kind ∧ LoopS rec t gn gk (k + 1) (.string (S ++ ⟨#[32]⟩ ++ ⟨(rec ([t.a, t.b, t.c].getD y 0).toNat).toArray⟩)) (.slice (some ⟨gn, ox, none⟩) (2 - x) (2 - x)) (.slice (some ⟨gk, oy, none⟩) (arN t.kind - (y + 1)) (3 - (y + 1))) := by
  have hcs : (goesOn t.kind).drop (k + 1) = cs := by rw [← List.drop_drop, hc]; rfl
  have har := arN_le t.kind
  rw [hc] at hd hn hk
  have e1 : ((c :: cs).filter (· = 110)).length = (cs.filter (· = 110)).length := by simp [h110]
  have e2 : ((c :: cs).filter (· ≠ 110)).length = (cs.filter (· ≠ 110)).length + 1 := by simp [h110]
  rw [e1] at hn
  rw [e2] at hk
  refine ⟨by omega, _, don ++ [32] ++ rec ([t.a, t.b, t.c].getD y 0).toNat, x, y + 1, ox, oy, rfl, ?_, rfl, rfl, hox, hoy, ?_, by rw [hcs]; exact hn, by rw [hcs]; omega⟩
  · rw [bytes_join, bytes_join, hS]
    simp
  · rw [hcs, ← hd]
    have hy : y = 0 ∨ y = 1 ∨ y = 2 := by omega
    rw [argT, if_neg h110]
    rcases hy with rfl | rfl | rfl <;> simp

theorem loop_end {rec : Nat → List UInt8} {t : Nod} {k : Nat} {S : ByteArray} {don : List UInt8} {x y : Nat} (hk : (goesOn t.kind).length ≤ k) (hS : S.data.toList = [40] ++ (keyN t.kind t.n).data.toList ++ don)
    (hd : don ++ argT rec ((goesOn t.kind).drop k) ([t.name, t.other].drop x) ([t.a, t.b, t.c].drop y) = argT rec (goesOn t.kind) [t.name, t.other] [t.a, t.b, t.c]) : S ++ ⟨#[41]⟩ = ⟨(formT rec t).toArray⟩ := by
  rw [List.drop_eq_nil_of_le hk, argT, List.append_nil] at hd
  apply data_ext
  rw [bytes_join, hS, hd]
  simp [formT]

theorem loop_len {rec : Nat → List UInt8} {t : Nod} {k : Nat} {S : ByteArray} {don : List UInt8} {x y : Nat} (hS : S.data.toList = [40] ++ (keyN t.kind t.n).data.toList ++ don)
    (hd : don ++ argT rec ((goesOn t.kind).drop k) ([t.name, t.other].drop x) ([t.a, t.b, t.c].drop y) = argT rec (goesOn t.kind) [t.name, t.other] [t.a, t.b, t.c]) : S.size ≤ (formT rec t).length := by
  have h1 : S.data.toList.length = S.size := by rw [Array.length_toList]; rfl
  rw [← h1, hS]
  unfold formT
  rw [← hd]
  simp only [List.length_append]
  omega

set_option maxHeartbeats 4000000 in
set_option maxRecDepth 20000 in
theorem show_form {ts : List Nod} {g cap f i : Nat} (hi : i < ts.length) (hl : ts.length ≤ 1000) (h : IsForm (ts.getD i noNod).kind (ts.getD i noNod).n) (hlen : (formT (textN ts f) (ts.getD i noNod)).length ≤ 100000) (IH : ∀ j, j < arN (ts.getD i noNod).kind → ∃ q : Nat, [(ts.getD i noNod).a, (ts.getD i noNod).b, (ts.getD i noNod).c].getD j 0 = q ∧ ShowAt ts g cap f q) : ShowAt ts g cap (f + 1) i := by
  intro w hA
  have t := hA i hi
  have HX : Hid (textN ts (f + 1) i = nodeT (textN ts f) (ts.getD i noNod)) := rfl
  obtain ⟨⟨x0, x1, x2, x3, x4, x5, x6⟩, hx⟩ : ∃ y, ts.getD i noNod = y := ⟨_, rfl⟩
  rw [hx] at t h HX IH hlen
  simp only at h IH
  have q0 : w.cell? ⟨g, i * 7, none⟩ = some (.int .i64 x0) := t.c0
  have q1 : w.cell? ⟨g, i * 7 + 1, none⟩ = some (.int .i64 x1) := t.c1
  have q2 : w.cell? ⟨g, i * 7 + 2, none⟩ = some (.int .i64 x2) := t.c2
  have q3 : w.cell? ⟨g, i * 7 + 3, none⟩ = some (.int .i64 x3) := t.c3
  have q4 : w.cell? ⟨g, i * 7 + 4, none⟩ = some (.int .i64 x4) := t.c4
  have q5 : w.cell? ⟨g, i * 7 + 5, none⟩ = some (.string x5) := t.c5
  have q6 : w.cell? ⟨g, i * 7 + 6, none⟩ = some (.string x6) := t.c6
  have hi' : (i : Int) < ts.length := by omega
  have HI : Hid (∀ j, j < arN x0 → ∃ q : Nat, [x1, x2, x3].getD j 0 = q ∧ ShowAt ts g cap f q) := IH
  have HF : Hid (IsForm x0 x4) := h
  have HA : Hid (NodAt w g ts) := hA
  have hg : g < w.heap.size := nod_lt q0
  have g1 : (x0 == 1) = false := by simp; have := h.1; omega
  have g2 : (x0 == 2) = false := by simp; have := h.1; omega
  have g12 : (x0 == 12) = false := by simp; exact h.2.2.1
  clear t hx hA IH h
  obtain ⟨wa, hwa⟩ : ∃ wa, w.alloc (.cells #[.int .i64 x0, .int .i64 x1, .int .i64 x2, .int .i64 x3, .int .i64 x4, .string x5, .string x6] 46) = wa := ⟨_, rfl⟩
  have HWA : Hid (w.alloc (.cells #[.int .i64 x0, .int .i64 x1, .int .i64 x2, .int .i64 x3, .int .i64 x4, .string x5, .string x6] 46) = wa) := hwa
  have Rf : Hid (wa.heap[w.heap.size]? = some (.cells (nodCells ⟨x0, x1, x2, x3, x4, x5, x6⟩).toArray 46 (0, 0))) := by rw [← hwa]; exact (MapKept.heap_alloc w _).1
  have sa : wa.heap.size = w.heap.size + 1 := by rw [← hwa]; simp
  have BA : Hid (Below w.heap.size w wa) := by rw [← hwa]; exact (Below.refl _ w).alloc (Nat.le_refl _) _
  clear hwa
  have CF : Hid (∀ w : World, Calls Tryd.prog 22 #[.string (keyN x0 x4)] w fun e w' => (∃ m : Int, e = .returned (.tuple #[.int .i64 x0, .int .i64 m, .string ⟨(goesOn x0).toArray⟩])) ∧ w' = w) := fun w => spec_form_key HF.out w
  have CK : Hid (∀ w : World, Calls Tryd.prog 23 #[.agg #[.int .i64 x0, .int .i64 x1, .int .i64 x2, .int .i64 x3, .int .i64 x4, .string x5, .string x6]] w fun e w' => e = .returned (.string (keyN x0 x4)) ∧ Below w.heap.size w w') := fun w => spec_keyOf x0 x1 x2 x3 x4 x5 x6 w
  have HL0 : Hid (∀ gn gk, LoopS (textN ts f) ⟨x0, x1, x2, x3, x4, x5, x6⟩ gn gk 0 (.string (⟨#[40]⟩ ++ keyN x0 x4)) (.slice (some ⟨gn, 0, none⟩) 2 2) (.slice (some ⟨gk, 0, none⟩) (arN x0) 3)) := fun gn gk => loop_start _ ⟨x0, x1, x2, x3, x4, x5, x6⟩ gn gk HF.out
  obtain ⟨KY, hKY⟩ : ∃ KY, keyN x0 x4 = KY := ⟨_, rfl⟩
  have HKY : Hid (keyN x0 x4 = KY) := hKY
  have hks : KY.size ≤ 5 := by rw [← hKY]; have := keyN_len x0 x4; rw [Array.length_toList] at this; exact this
  rw [hKY] at CF CK HL0
  clear hKY
  go_enter Tryd.func13, Tryd.ntmps13
  go_wp2_with fail
  rw [HWA.out]
  refine (CK.out wa).mono ?_
  rintro e w1 ⟨rfl, b1⟩
  have s1 := b1.size
  have r1 := (b1.block _ (by omega)).trans Rf.out
  have R1 : Hid (_) := r1
  have B1 : Hid (Below w.heap.size w w1) := BA.out.trans (b1.mono (by omega))
  clear b1 Rf BA HWA q0 q1 q2 q3 q4 q5 q6
  obtain ⟨q0, q1, q2, q3, q4, q5, q6⟩ := cells7_at r1
  simp only at q0 q1 q2 q3 q4 q5 q6
  clear r1
  go_wp2_with fail
  refine (CF.out w1).mono ?_
  rintro e w1 ⟨⟨m1, rfl⟩, rfl⟩
  obtain ⟨FB, hFB⟩ : ∃ FB : ByteArray, ⟨(goesOn x0).toArray⟩ = FB := ⟨_, rfl⟩
  rw [hFB]
  go_wp2_with fail
  refine (CK.out _).mono ?_
  rintro e w2 ⟨rfl, b2⟩
  have s2 := b2.size
  have r2 := (b2.block _ (by omega)).trans R1.out
  have R2 : Hid (_) := r2
  have B2 : Hid (Below w.heap.size w w2) := B1.out.trans (b2.mono (by omega))
  clear b2 q0 q1 q2 q3 q4 q5 q6 R1 B1
  obtain ⟨q0, q1, q2, q3, q4, q5, q6⟩ := cells7_at r2
  simp only at q0 q1 q2 q3 q4 q5 q6
  have hz1 : (⟨#[40]⟩ : ByteArray).size = 1 := rfl
  have R3 : Hid ((w2.alloc (.cells #[.string x5, .string x6] 9)).heap[w.heap.size]? = some (.cells (nodCells ⟨x0, x1, x2, x3, x4, x5, x6⟩).toArray 46 (0, 0))) := (((Below.refl w2.heap.size w2).alloc (Nat.le_refl _) _).block _ (by omega)).trans r2
  obtain ⟨p0, p1, p2, p3, p4, p5, p6⟩ := cells7_at R3.out
  simp only at p0 p1 p2 p3 p4 p5 p6
  have B3 : Hid (Below w.heap.size w (w2.alloc (.cells #[.string x5, .string x6] 9))) := B2.out.alloc (by omega) _
  have N3 : Hid ((w2.alloc (.cells #[.string x5, .string x6] 9)).heap[w2.heap.size]? = some (.cells #[.string x5, .string x6] 9 (0, 0))) := (MapKept.heap_alloc w2 _).1
  clear r2 B2 R2
  obtain ⟨w3, hw3⟩ : ∃ w3, w2.alloc (.cells #[.string x5, .string x6] 9) = w3 := ⟨_, rfl⟩
  have HW3 : Hid (w2.alloc (.cells #[.string x5, .string x6] 9) = w3) := hw3
  have s3 : w3.heap.size = w2.heap.size + 1 := by rw [← hw3]; simp
  have BW : Hid (Below w2.heap.size w2 w3) := by rw [← hw3]; exact (Below.refl _ w2).alloc (Nat.le_refl _) _
  rw [hw3] at R3 B3 N3
  clear hw3
  go_wp2_with fail
  refine (spec_kids x0 x1 x2 x3 x4 x5 x6 _).mono ?_
  rw [HW3.out]
  rintro e w4 ⟨rfl, hk4, b4⟩
  obtain ⟨GK, hGK⟩ : ∃ GK, w3.heap.size + 1 = GK := ⟨_, rfl⟩
  rw [hGK] at hk4 ⊢
  have s4 := b4.size
  have N4 : Hid (w4.heap[w2.heap.size]? = some (.cells #[.string x5, .string x6] 9 (0, 0))) := (b4.block _ (by omega)).trans N3.out
  have K4 : Hid (w4.heap[GK]? = some (.cells #[.int .i64 x1, .int .i64 x2, .int .i64 x3] 3 (0, 0))) := hk4
  have hkl : GK < w4.heap.size := (Array.getElem?_eq_some_iff.1 hk4).1
  have B4 : Hid (Below w.heap.size w w4) := B3.out.trans (b4.mono (by omega))
  clear b4 hk4 R3 B3 N3 HW3 BW p0 p1 p2 p3 p4 p5 p6 q0 q1 q2 q3 q4 q5 q6
  have L0 : Hid (LoopS (textN ts f) ⟨x0, x1, x2, x3, x4, x5, x6⟩ w2.heap.size (GK) 0 (.string (⟨#[40]⟩ ++ KY)) (.slice (some ⟨w2.heap.size, 0, none⟩) 2 2) (.slice (some ⟨GK, 0, none⟩) (arN x0) 3)) := HL0.out _ _
  have hfs : FB.size = (goesOn x0).length := by rw [← hFB]; simp [ByteArray.size]
  have hf5 : (goesOn x0).length ≤ 5 := goes_len x0
  have HFB : Hid (⟨(goesOn x0).toArray⟩ = FB) := hFB
  have har := arN_le x0
  clear hFB HL0 hGK
  go_wp2
  go_loopw [9, 10, 11, 12] (fun s ns ks i wr => ∃ k : Nat, k ≤ FB.size ∧ i = .int .i64 k ∧ Hid (LoopS (textN ts f) ⟨x0, x1, x2, x3, x4, x5, x6⟩ w2.heap.size (GK) k s ns ks) ∧ Below w4.heap.size w4 wr) (fun _ _ _ i _ => FB.size - (intOf i).toNat)
  case atStart => exact ⟨0, by omega, rfl, L0, Below.refl _ _⟩
  case round =>
    obtain ⟨k, hk, rfl, hL, hb⟩ := hrel
    obtain ⟨S, don, x, y, ox, oy, rfl, hS, rfl, rfl, hox, hoy, hd, hcn, hck⟩ := hL.out
    have hsize := hb.size
    have hSl := loop_len hS hd
    by_cases hin : k < FB.size
    · have hin' : (k : Int) < FB.size := by omega
      obtain ⟨c, cs, hc, hcb⟩ : ∃ c cs, (goesOn x0).drop k = c :: cs ∧ FB[k] = c := by
        have hkl : k < (goesOn x0).length := by omega
        refine ⟨(goesOn x0)[k], (goesOn x0).drop (k + 1), List.drop_eq_getElem_cons hkl, ?_⟩
        have : FB.data[k]? = some (goesOn x0)[k] := by
          rw [← HFB.out]
          simp [List.getElem?_eq_getElem hkl]
        rw [ByteArray.getElem_eq_getElem_data]
        have h2 : FB.data[k]? = some FB.data[k] := Array.getElem?_eq_getElem _
        rw [h2] at this
        exact Option.some.inj this
      by_cases h110 : c = 110
      · obtain ⟨hx2, hN⟩ := loop_name (gn := w2.heap.size) (gk := GK) (ox := min (x + 1) 1) (oy := oy) (fun h => by omega) hoy hc h110 hS hd hcn hck
        obtain rfl : x = ox := (hox hx2).symm
        have HN : Hid (LoopS _ _ _ _ _ _ _ _) := hN
        obtain ⟨S2, don2, x', y', _, _, hS2, hS3, -, -, -, -, hd2, -, -⟩ := hN
        have hl2 := loop_len hS3 hd2
        obtain rfl : _ = S2 := by injection hS2
        have hq : (FB[k].toNat : Int) = 110 := by rw [hcb, h110]; rfl
        obtain ⟨hn0, hn1⟩ := cells2_at ((hb.block _ (by omega)).trans N4.out)
        have hz2 : (⟨#[32]⟩ : ByteArray).size = 1 := rfl
        have hj := ByteArray.size_append (a := S) (b := ⟨#[32]⟩)
        have hB1 : Hid (Below w4.heap.size w4 wr) := hb
        have HL : Hid (S.size ≤ 100000) := by show S.size ≤ 100000; omega
        clear hS hd hcn hck hL hSl hS2 hS3 hd2 hc hcb h110 hb
        have hx : x = 0 ∨ x = 1 := by omega
        rcases hx with rfl | rfl
        · have hj2 := ByteArray.size_append (a := S ++ ⟨#[32]⟩) (b := x5)
          have hl3 : (S ++ ⟨#[32]⟩ ++ x5).size ≤ 100000 := by
            have := hl2
            simp only [List.getD_cons_zero] at this
            omega
          clear hl2
          go_wp2
          go_roundw
          case rel => exact ⟨k + 1, by omega, by go_num, HN, hB1.out⟩
          case measure => simp [intOf]; omega
        · have hj2 := ByteArray.size_append (a := S ++ ⟨#[32]⟩) (b := x6)
          have hl3 : (S ++ ⟨#[32]⟩ ++ x6).size ≤ 100000 := by
            have := hl2
            simp only [List.getD_cons_succ, List.getD_cons_zero] at this
            omega
          clear hl2
          go_wp2
          go_roundw
          case rel => exact ⟨k + 1, by omega, by go_num, HN, hB1.out⟩
          case measure => simp [intOf]; omega
      · obtain ⟨hy2, hN⟩ := loop_kid (gn := w2.heap.size) (gk := GK) (ox := ox) (oy := min (y + 1) 2) hox (fun h => by omega) hc h110 hS hd hcn hck
        obtain rfl : y = oy := (hoy (by simp only at hy2; omega)).symm
        have HN : Hid (LoopS _ _ _ _ _ _ _ _) := hN
        obtain ⟨S2, don2, x', y', _, _, hS2, hS3, -, -, -, -, hd2, -, -⟩ := hN
        have hl2 := loop_len hS3 hd2
        obtain rfl : _ = S2 := by injection hS2
        have hq : ((FB[k].toNat : Int) == 110) = false := by
          rw [hcb, beq_eq_false_iff_ne]
          intro e
          apply h110
          apply UInt8.toNat_inj.1
          have : (110 : UInt8).toNat = 110 := rfl
          omega
        obtain ⟨hk0, hk1, hk2⟩ := cells3_at ((hb.block _ (by omega)).trans K4.out)
        have hz2 : (⟨#[32]⟩ : ByteArray).size = 1 := rfl
        have hj := ByteArray.size_append (a := S) (b := ⟨#[32]⟩)
        have hB1 : Hid (Below w4.heap.size w4 wr) := hb
        have HL : Hid (S.size ≤ 100000) := by show S.size ≤ 100000; omega
        obtain ⟨n1, hn1⟩ : ∃ n1, arN x0 - y = n1 + 1 := ⟨arN x0 - y - 1, by simp only at hy2; omega⟩
        have hn2 : arN x0 - (y + 1) = n1 := by omega
        simp only at HN hl2 hy2
        rw [hn2] at HN
        rw [hn1]
        obtain ⟨Q, hQ, hSh⟩ := HI.out y hy2
        have HQ : Hid (∀ w : World, NodAt w g ts → Calls Tryd.prog 13 #[.slice (some ⟨g, 0, none⟩) ts.length cap, .int .i64 Q] w fun e w' => e = .returned (.string ⟨(textN ts f Q).toArray⟩) ∧ Below w.heap.size w w') := hSh
        rw [hQ, Int.toNat_natCast] at HN hl2
        have AW : Hid (NodAt wr g ts) := HA.out.below (B4.out.trans (hb.mono (by omega))) (fun _ => hg)
        have hn3 : n1 ≤ 2 := by omega
        obtain ⟨TX, hTX⟩ : ∃ TX : ByteArray, ⟨(textN ts f Q).toArray⟩ = TX := ⟨_, rfl⟩
        rw [hTX] at HN hl2 HQ
        have hj2 := ByteArray.size_append (a := S ++ ⟨#[32]⟩) (b := TX)
        have hl3 : (S ++ ⟨#[32]⟩ ++ TX).size ≤ 100000 := by omega
        clear hS hd hcn hck hL hSl hS2 hS3 hd2 hc hcb h110 hb hn1 hn2 hl2 hTX hSh
        have hy : y = 0 ∨ y = 1 ∨ y = 2 := by omega
        clear har hy2
        rcases hy with rfl | rfl | rfl
        · rw [show x1 = (Q : Int) from hQ] at hk0
          clear hQ
          go_wp2_with fail
          refine (HQ.out wr AW.out).mono ?_
          rintro e w5 ⟨rfl, b5⟩
          have B5 : Hid (Below w4.heap.size w4 w5) := hB1.out.trans (b5.mono hsize)
          clear b5 hB1 hk0 hk1 hk2 AW
          go_wp2
          go_roundw
          case rel => exact ⟨k + 1, by omega, by go_num, HN, B5.out⟩
          case measure => simp [intOf]; omega
        · rw [show x2 = (Q : Int) from hQ] at hk1
          clear hQ
          go_wp2_with fail
          refine (HQ.out wr AW.out).mono ?_
          rintro e w5 ⟨rfl, b5⟩
          have B5 : Hid (Below w4.heap.size w4 w5) := hB1.out.trans (b5.mono hsize)
          clear b5 hB1 hk0 hk1 hk2 AW
          go_wp2
          go_roundw
          case rel => exact ⟨k + 1, by omega, by go_num, HN, B5.out⟩
          case measure => simp [intOf]; omega
        · rw [show x3 = (Q : Int) from hQ] at hk2
          clear hQ
          go_wp2_with fail
          refine (HQ.out wr AW.out).mono ?_
          rintro e w5 ⟨rfl, b5⟩
          have B5 : Hid (Below w4.heap.size w4 w5) := hB1.out.trans (b5.mono hsize)
          clear b5 hB1 hk0 hk1 hk2 AW
          go_wp2
          go_roundw
          case rel => exact ⟨k + 1, by omega, by go_num, HN, B5.out⟩
          case measure => simp [intOf]; omega
    · obtain rfl : k = FB.size := by omega
      have HE : Hid (S ++ ⟨#[41]⟩ = ⟨(formT (textN ts f) ⟨x0, x1, x2, x3, x4, x5, x6⟩).toArray⟩) := loop_end (by show (goesOn x0).length ≤ _; omega) hS hd
      have hz2 : (⟨#[41]⟩ : ByteArray).size = 1 := rfl
      have hsz : S.size ≤ 100000 := by omega
      clear hS hd hcn hck hL hin hSl
      go_wp2
      go_ret
      exact ⟨by rw [HX.out, nodeT_form HF.out, ← HE.out]; rfl, B4.out.trans (hb.mono (by omega))⟩

/-- The text of every node of a right program. -/
theorem spec_show {ts : List Nod} {st : List Nat} (hR : Right ts st) (g cap : Nat) : ∀ (f i : Nat), i < f → i < ts.length → ShowAt ts g cap f i
  | 0, i, h, _ => absurd h (by omega)
  | f + 1, i, h, hi => by
    obtain ⟨hF, _⟩ := hR.2 i hi
    have hl := hR.1
    by_cases h1 : (ts.getD i noNod).kind = 1
    · exact show_leaf hi hl (Or.inl h1)
    by_cases h2 : (ts.getD i noNod).kind = 2
    · have hn := hF.2.2.2.1 h2
      exact show_leaf hi hl (Or.inr (Or.inl ⟨h2, hn.1, hn.2⟩))
    by_cases h12 : (ts.getD i noNod).kind = 12
    · exact show_leaf hi hl (Or.inr (Or.inr h12))
    have hfm := fields_form hF h1 h2 h12
    refine show_form hi hl hfm ?_ (fun j hj => ?_)
    · have := textN_len hR (f + 1) i h hi
      have e : textN ts (f + 1) i = formT (textN ts f) (ts.getD i noNod) := nodeT_form hfm
      rw [e] at this
      omega
    · obtain ⟨q, hq, hlt, _⟩ := kid_ahead hR hi hj
      exact ⟨q, hq, spec_show hR g cap f q (by omega) (by omega)⟩
end Go.Proofs.YtlooccddflpmnaaDoor
