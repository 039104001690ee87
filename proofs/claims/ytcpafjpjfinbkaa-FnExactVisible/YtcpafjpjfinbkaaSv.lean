/-
  Scopes as they landed: a scope as a function value, and what comes of calling it. Conditions: written at each theorem.
-/
import Derived.Test.YtcpafjpjfinbkaaSd
import Derived.Test.YtcpafjpjfinbkaaIa
import Derived.Test.YtcpafjpjfinbkaaBk
namespace Go.Proofs.Ytcpafjpjfinbkaa
open Go.ChangeShapes Go.WideShapes Go.ChangeAt Go.RowKit
set_option linter.unusedVariables false

/-- What binds a name, in a list of binders. -/
def lookL : List (ByteArray × Int × Int) → ByteArray → Int × Int
  | [], _ => (-1, -1)
  | (s, n, r) :: l, x => if x = s then (n, r) else lookL l x

theorem cells7v {w : World} {g : Nat} {k a b c n : Int} {s o : ByteArray} {t : TypeId} {z : Nat × Nat} (h : w.heap[g]? = some (.cells #[.int .i64 k, .int .i64 a, .int .i64 b, .int .i64 c, .int .i64 n, .string s, .string o] t z)) :
    w.cell? ⟨g, 0, none⟩ = some (.int .i64 k) ∧ w.cell? ⟨g, 1, none⟩ = some (.int .i64 a) ∧ w.cell? ⟨g, 2, none⟩ = some (.int .i64 b) ∧ w.cell? ⟨g, 3, none⟩ = some (.int .i64 c) ∧ w.cell? ⟨g, 4, none⟩ = some (.int .i64 n) ∧ w.cell? ⟨g, 5, none⟩ = some (.string s) ∧ w.cell? ⟨g, 6, none⟩ = some (.string o) := by
  refine ⟨?_, ?_, ?_, ?_, ?_, ?_, ?_⟩ <;> (rw [cell_of_row _ _ _ _ _ _ h]; rfl)

/-- A scope as a value: its binders, the innermost first; it lies outside of block g. -/
def ScL (g : Nat) (w : World) : List (ByteArray × Int × Int) → Value → Prop
  | [], v => v = .func (.func 64) #[] #[]
  | (s, n, r) :: l, v => ∃ (a b c : Nat) (u : Value), v = .func (.func 92) #[] #[.pointer (some ⟨a, 0, none⟩), .pointer (some ⟨b, 0, none⟩), .pointer (some ⟨c, 0, none⟩)] ∧ a ≠ g ∧ b ≠ g ∧ c ≠ g ∧
      w.cell? ⟨a, 0, none⟩ = some (.string s) ∧ w.cell? ⟨b, 0, none⟩ = some (.int .i64 n) ∧ w.cell? ⟨b, 1, none⟩ = some (.int .i64 r) ∧ w.cell? ⟨c, 0, none⟩ = some u ∧ ScL g w l u

/-- All but one block is as it was. -/
def Kept (g : Nat) (w w' : World) : Prop := w.heap.size ≤ w'.heap.size ∧ ∀ k, k < w.heap.size → k ≠ g → w'.heap[k]? = w.heap[k]?

theorem Kept.refl (g : Nat) (w : World) : Kept g w w := ⟨Nat.le_refl _, fun _ _ _ => rfl⟩
theorem Kept.trans {g : Nat} {a b c : World} (h : Kept g a b) (h' : Kept g b c) : Kept g a c := ⟨Nat.le_trans h.1 h'.1, fun k hk hne => (h'.2 k (Nat.lt_of_lt_of_le hk h.1) hne).trans (h.2 k hk hne)⟩
theorem Kept.of_below {g : Nat} {a b : World} (h : Below a.heap.size a b) : Kept g a b := ⟨h.size, fun k hk _ => h.block k hk⟩

theorem Kept.cell {g : Nat} {w w' : World} (h : Kept g w w') {k o : Nat} {v : Value} (hk : k ≠ g) (hc : w.cell? ⟨k, o, none⟩ = some v) : w'.cell? ⟨k, o, none⟩ = some v :=
  (World.cell?_of_block (h.2 k (nod_lt hc) hk)).trans hc

theorem ScL.kept {g : Nat} {w w' : World} (h : Kept g w w') : ∀ (l : List (ByteArray × Int × Int)) (v : Value), ScL g w l v → ScL g w' l v
  | [], v, hs => hs
  | (s, n, r) :: l, v, hs => by
    obtain ⟨a, b, c, u, hv, ha, hb, hc, h1, h2, h3, h4, h5⟩ := hs
    exact ⟨a, b, c, u, hv, ha, hb, hc, h.cell ha h1, h.cell hb h2, h.cell hb h3, h.cell hc h4, ScL.kept h l u h5⟩

theorem sc_enter {P : Program} {f : FuncId} {fn : Func} (hf : P.funcs[f]? = some fn) (hname : (fn.name == "runtime.NumGoroutine") = false) (hbody : fn.body.isNone = false) (args : Array Value) (w : World) : (callFunc f args).run P w = .ok (.enter f args) w := by
  have hn : ¬ fn.name = "runtime.NumGoroutine" := by simpa using hname
  have hb : ¬ fn.body = none := fun h => by rw [h] at hbody; simp at hbody
  simp [callFunc, hf, hn, hb]

theorem impl_noBind (w : World) : Calls Try.prog 47 #[] w fun e w' => e = .returned (.agg #[.int .i64 (-1), .int .i64 (-1)]) ∧ Below w.heap.size w w' := by
  have hr : (w.alloc (.cells #[.int .i64 (-1), .int .i64 (-1)] 30)).heap[w.heap.size]? = some (.cells #[.int .i64 (-1), .int .i64 (-1)] 30 (0, 0)) := (MapKept.heap_alloc w _).1
  have HR : Hid (_) := hr
  clear hr
  go_enter Try.func47, Try.ntmps47
  go_wp2
  exact bodyPost_ret (results_cell_row rfl _ _ w.heap.size 30 _ (0, 0) _ rfl HR.out Try.underlying30 rfl (by kernel_rfl)) rfl ⟨rfl, (Below.refl _ w).alloc (Nat.le_refl _) _⟩

/-- Two cells of a block are set. -/
theorem row2_put {W : World} {g : Nat} {t : TypeId} {x0 x1 : Value} (y0 y1 : Value) (h : W.heap[g]? = some (.cells #[x0, x1] t (0, 0))) : ((W.setCell ⟨g, 0, none⟩ y0).setCell ⟨g, 1, none⟩ y1).heap[g]? = some (.cells #[y0, y1] t (0, 0)) :=
  heap_setCell_same _ g 1 _ _ y1 (heap_setCell_same W g 0 _ _ y0 h)

theorem row2_below {W : World} {g B : Nat} {w : World} (hb : Below B w W) (h : B ≤ g) (y0 y1 : Value) : Below B w ((W.setCell ⟨g, 0, none⟩ y0).setCell ⟨g, 1, none⟩ y1) :=
  (hb.setCell (p := ⟨g, 0, none⟩) h y0).setCell (p := ⟨g, 1, none⟩) h y1

theorem row2_cells {w : World} {g : Nat} {x0 x1 : Value} {t : TypeId} (h : w.heap[g]? = some (.cells #[x0, x1] t (0, 0))) : w.cell? ⟨g, 0, none⟩ = some x0 ∧ w.cell? ⟨g, 1, none⟩ = some x1 ∧ ∀ j, w.frozen? ⟨g, j, none⟩ = false := by
  refine ⟨?_, ?_, fun j => frozen_of_row w g j _ _ h⟩ <;> rw [cell_of_row _ _ _ _ _ _ h] <;> rfl

theorem impl_outermost (s : ByteArray) (w : World) : Calls Try.prog 64 #[.string s] w fun e w' => e = .returned (.agg #[.int .i64 (-1), .int .i64 (-1)]) ∧ Below w.heap.size w w' := by
  obtain ⟨wa, hwa⟩ : ∃ wa, w.alloc (.cells #[.int .i64 0, .int .i64 0] 30) = wa := ⟨_, rfl⟩
  have HWA : Hid (w.alloc (.cells #[.int .i64 0, .int .i64 0] 30) = wa) := hwa
  have RF : Hid (wa.heap[w.heap.size]? = some (.cells #[.int .i64 0, .int .i64 0] 30 (0, 0))) := by show wa.heap[w.heap.size]? = _; rw [← hwa]; exact (MapKept.heap_alloc w _).1
  have BA : Hid (Below w.heap.size w wa) := by show Below w.heap.size w wa; rw [← hwa]; exact (Below.refl _ w).alloc (Nat.le_refl _) _
  have sa : wa.heap.size = w.heap.size + 1 := by rw [← hwa]; simp
  clear hwa
  go_enter Try.func64, Try.ntmps64
  go_wp2_with fail
  rw [HWA.out]
  refine (impl_noBind wa).mono ?_
  rintro e w1 ⟨rfl, b1⟩
  have R1 : Hid (w1.heap[w.heap.size]? = some (.cells #[.int .i64 0, .int .i64 0] 30 (0, 0))) := (b1.block w.heap.size (by omega)).trans RF.out
  have B1 : Hid (Below w.heap.size w w1) := BA.out.trans (b1.mono (by omega))
  obtain ⟨q0, q1, q2⟩ := row2_cells R1.out
  clear b1
  go_wp2
  exact bodyPost_ret (results_cell_row rfl _ _ w.heap.size 30 _ (0, 0) _ rfl (row2_put _ _ R1.out) Try.underlying30 rfl (by kernel_rfl)) rfl ⟨rfl, row2_below B1.out (Nat.le_refl _) _ _⟩

/-- What a scope answers when it is called, wherever. -/
def ScC (g : Nat) (w : World) (l : List (ByteArray × Int × Int)) (v : Value) : Prop :=
  ∃ (F : FuncId) (cap : Array Value), v = .func (.func F) #[] cap ∧ (∀ (args : Array Value) (w : World), (callFunc F args).run Try.prog w = .ok (.enter F args) w) ∧ ∀ (s : ByteArray) (w' : World), Kept g w w' →
    Calls Try.prog F (#[.string s] ++ cap) w' fun e w'' => e = .returned (.agg #[.int .i64 (lookL l s).1, .int .i64 (lookL l s).2]) ∧ Below w'.heap.size w' w''

theorem text_ne {x s : ByteArray} (h : ¬ x = s) : (x.toList == s.toList) = false := by
  rw [beq_eq_false_iff_ne]
  intro e
  rw [Lib.toList_data, Lib.toList_data] at e
  exact h (data_ext e)

set_option maxRecDepth 20000 in
theorem impl_inner (g : Nat) (s : ByteArray) (n r : Int) (l : List (ByteArray × Int × Int)) (u : Value) (a b c : Nat) (w0 : World) (hu : ScC g w0 l u) (x : ByteArray) (w : World) (hk : Kept g w0 w)
    (h1 : w.cell? ⟨a, 0, none⟩ = some (.string s)) (h2 : w.cell? ⟨b, 0, none⟩ = some (.int .i64 n)) (h3 : w.cell? ⟨b, 1, none⟩ = some (.int .i64 r)) (h4 : w.cell? ⟨c, 0, none⟩ = some u) :
    Calls Try.prog 92 #[.string x, .pointer (some ⟨a, 0, none⟩), .pointer (some ⟨b, 0, none⟩), .pointer (some ⟨c, 0, none⟩)] w fun e w' => e = .returned (.agg #[.int .i64 (lookL ((s, n, r) :: l) x).1, .int .i64 (lookL ((s, n, r) :: l) x).2]) ∧ Below w.heap.size w w' := by
  have rf : (w.alloc (.cells #[.int .i64 0, .int .i64 0] 30)).heap[w.heap.size]? = some (.cells #[.int .i64 0, .int .i64 0] 30 (0, 0)) := (MapKept.heap_alloc w _).1
  have ba : Below w.heap.size w (w.alloc (.cells #[.int .i64 0, .int .i64 0] 30)) := (Below.refl _ w).alloc (Nat.le_refl _) _
  have g1 := (World.cell?_of_block (ba.block a (nod_lt h1))).trans h1
  have g2 := (World.cell?_of_block (ba.block b (nod_lt h2))).trans h2
  have g3 := (World.cell?_of_block (ba.block b (nod_lt h3))).trans h3
  have g4 := (World.cell?_of_block (ba.block c (nod_lt h4))).trans h4
  have KA : Hid (Kept g w0 (w.alloc (.cells #[.int .i64 0, .int .i64 0] 30))) := hk.trans (Kept.of_below ba)
  have RF : Hid (_) := rf
  have BA : Hid (_) := ba
  have sa : (w.alloc (.cells #[.int .i64 0, .int .i64 0] 30)).heap.size = w.heap.size + 1 := by simp
  have SA : Hid (_) := sa
  obtain ⟨F, cap, rfl, hcf, hcl⟩ := hu
  have HCL : Hid (∀ (s : ByteArray) (w' : World), Kept g w0 w' →
    Calls Try.prog F (#[.string s] ++ cap) w' fun e w'' => e = .returned (.agg #[.int .i64 (lookL l s).1, .int .i64 (lookL l s).2]) ∧ Below w'.heap.size w' w'') := hcl
  clear hcl hk h1 h2 h3 h4 rf ba sa
  by_cases hx : x = s
  · have HV : Hid (lookL ((s, n, r) :: l) x = (n, r)) := by show lookL ((s, n, r) :: l) x = (n, r); rw [lookL, if_pos hx]
    subst hx
    have hr : (w.alloc (.cells #[.int .i64 n, .int .i64 r] 30)).heap[w.heap.size]? = some (.cells #[.int .i64 n, .int .i64 r] 30 (0, 0)) := (MapKept.heap_alloc w _).1
    have HR : Hid (_) := hr
    clear hr
    go_enter Try.func92, Try.ntmps92
    go_wp2
    exact bodyPost_ret (results_cell_row rfl _ _ w.heap.size 30 _ (0, 0) _ rfl HR.out Try.underlying30 rfl (by kernel_rfl)) rfl ⟨by rw [HV.out], (Below.refl _ w).alloc (Nat.le_refl _) _⟩
  · have HV : Hid (lookL ((s, n, r) :: l) x = lookL l x) := by show lookL ((s, n, r) :: l) x = _; rw [lookL, if_neg hx]
    have hxs := text_ne hx
    clear hx
    go_enter Try.func92, Try.ntmps92
    go_wp2_with fail
    refine (HCL.out x _ KA.out).mono ?_
    rintro e w1 ⟨rfl, b1⟩
    have R1 : Hid (w1.heap[w.heap.size]? = some (.cells #[.int .i64 0, .int .i64 0] 30 (0, 0))) := (b1.block w.heap.size (by have := SA.out; omega)).trans RF.out
    have B1 : Hid (Below w.heap.size w w1) := BA.out.trans (b1.mono (by have := SA.out; omega))
    obtain ⟨q0, q1, q2⟩ := row2_cells R1.out
    clear b1
    go_wp2
    exact bodyPost_ret (results_cell_row rfl _ _ w.heap.size 30 _ (0, 0) _ rfl (row2_put _ _ R1.out) Try.underlying30 rfl (by kernel_rfl)) rfl ⟨by rw [HV.out], row2_below B1.out (Nat.le_refl _) _ _⟩

theorem sc_call (g : Nat) (w : World) : ∀ (l : List (ByteArray × Int × Int)) (v : Value), ScL g w l v → ScC g w l v
  | [], v, h => ⟨64, #[], h, sc_enter Try.func64 (by kernel_rfl) (by kernel_rfl), fun s w' _ => impl_outermost s w'⟩
  | (s, n, r) :: l, v, h => by
    obtain ⟨a, b, c, u, hv, ha, hb, hc, h1, h2, h3, h4, h5⟩ := h
    refine ⟨92, _, hv, sc_enter Try.func92 (by kernel_rfl) (by kernel_rfl), fun x w' hk => ?_⟩
    exact impl_inner g s n r l u a b c w (sc_call g w l u h5) x w' hk (hk.cell ha h1) (hk.cell hb h2) (hk.cell hb h3) (hk.cell hc h4)

/-- One name more is bound. -/
theorem impl_within (g : Nat) (u : Value) (s : ByteArray) (n r : Int) (l : List (ByteArray × Int × Int)) (w : World) (hu : ScL g w l u) (hg : g < w.heap.size) :
    Calls Try.prog 75 #[u, .string s, .agg #[.int .i64 n, .int .i64 r]] w fun e w' => ∃ v, e = .returned v ∧ ScL g w' ((s, n, r) :: l) v ∧ Below w.heap.size w w' := by
  obtain ⟨F, cap, rfl, _, _⟩ := sc_call g w l u hu
  have B3 : Below w.heap.size w (((w.alloc (.cells #[.func (.func F) #[] cap] 70)).alloc (.cells #[.string s] 9)).alloc (.cells #[.int .i64 n, .int .i64 r] 30)) :=
    (((Below.refl _ w).alloc (Nat.le_refl _) _).alloc (by simp) _).alloc (by simp; omega) _
  have h0 : (((w.alloc (.cells #[.func (.func F) #[] cap] 70)).alloc (.cells #[.string s] 9)).alloc (.cells #[.int .i64 n, .int .i64 r] 30)).heap[w.heap.size]? = some (.cells #[.func (.func F) #[] cap] 70 (0, 0)) := by
    rw [Below.heap_alloc _ _ _ (by simp; omega), Below.heap_alloc _ _ _ (by simp)]
    exact (MapKept.heap_alloc w _).1
  have h1 : (((w.alloc (.cells #[.func (.func F) #[] cap] 70)).alloc (.cells #[.string s] 9)).alloc (.cells #[.int .i64 n, .int .i64 r] 30)).heap[w.heap.size + 1]? = some (.cells #[.string s] 9 (0, 0)) := by
    rw [Below.heap_alloc _ _ _ (by simp)]
    have := (MapKept.heap_alloc (w.alloc (.cells #[.func (.func F) #[] cap] 70)) (.cells #[.string s] 9)).1
    simpa using this
  have h2 : (((w.alloc (.cells #[.func (.func F) #[] cap] 70)).alloc (.cells #[.string s] 9)).alloc (.cells #[.int .i64 n, .int .i64 r] 30)).heap[w.heap.size + 2]? = some (.cells #[.int .i64 n, .int .i64 r] 30 (0, 0)) := by
    have := (MapKept.heap_alloc ((w.alloc (.cells #[.func (.func F) #[] cap] 70)).alloc (.cells #[.string s] 9)) (.cells #[.int .i64 n, .int .i64 r] 30)).1
    simpa using this
  have HS : Hid (ScL g (((w.alloc (.cells #[.func (.func F) #[] cap] 70)).alloc (.cells #[.string s] 9)).alloc (.cells #[.int .i64 n, .int .i64 r] 30)) ((s, n, r) :: l) (.func (.func 92) #[] #[.pointer (some ⟨w.heap.size + 1, 0, none⟩), .pointer (some ⟨w.heap.size + 2, 0, none⟩), .pointer (some ⟨w.heap.size, 0, none⟩)])) := by
    refine ⟨w.heap.size + 1, w.heap.size + 2, w.heap.size, _, rfl, by omega, by omega, by omega, ?_, (row2_cells h2).1, (row2_cells h2).2.1, ?_, ScL.kept (Kept.of_below B3) l _ hu⟩
    · rw [cell_of_row _ _ _ _ _ _ h1]; rfl
    · rw [cell_of_row _ _ _ _ _ _ h0]; rfl
  have HB : Hid (_) := B3
  clear B3 h0 h1 h2 hu
  go_enter Try.func75, Try.ntmps75
  go_wp2
  go_ret
  exact ⟨_, rfl, HS.out, HB.out⟩

theorem ix3 (a b c : Int) (k : Nat) (hk : k < 3) (w : World) : (Instr.index 77 (.agg #[.int .i64 a, .int .i64 b, .int .i64 c]) (.int .i64 k)).run Try.prog w = .ok (.int .i64 ([a, b, c].getD k 0)) w := by
  rcases (by omega : k = 0 ∨ k = 1 ∨ k = 2) with rfl | rfl | rfl <;>
  simp [Instr.index, run_underlying Try.underlying77, asIntOf, go_sem]

set_option maxHeartbeats 1000000 in
set_option maxRecDepth 20000 in
theorem impl_rolesInKid (kind : Int) (k : Nat) (hk : k < 3) (w : World) : Calls Try.prog 74 #[.int .i64 kind, .int .i64 k] w fun e w' => e = .returned (.int .i64 (rolN kind k : Nat)) ∧ w' = w := by
  by_cases h3 : kind = 3
  · have HV : Hid (((rolN kind k : Nat) : Int) = [1, 0, 0].getD k 0) := by
      subst h3
      rcases (by omega : k = 0 ∨ k = 1 ∨ k = 2) with rfl | rfl | rfl <;> rfl
    subst h3
    have hix := ix3 1 0 0 k hk
    generalize ([1, 0, 0] : List Int).getD k 0 = y at *
    go_enter Try.func74, Try.ntmps74
    go_wp2
    go_ret
    exact ⟨by rw [HV.out] <;> rfl, rfl⟩
  by_cases h5 : kind = 5
  · have HV : Hid (((rolN kind k : Nat) : Int) = [0, 1, 0].getD k 0) := by
      subst h5
      rcases (by omega : k = 0 ∨ k = 1 ∨ k = 2) with rfl | rfl | rfl <;> rfl
    subst h5
    have hix := ix3 0 1 0 k hk
    generalize ([0, 1, 0] : List Int).getD k 0 = y at *
    go_enter Try.func74, Try.ntmps74
    go_wp2
    go_ret
    exact ⟨by rw [HV.out] <;> rfl, rfl⟩
  by_cases h19 : kind = 19
  · have HV : Hid (((rolN kind k : Nat) : Int) = [0, 1, 0].getD k 0) := by
      subst h19
      rcases (by omega : k = 0 ∨ k = 1 ∨ k = 2) with rfl | rfl | rfl <;> rfl
    subst h19
    have hix := ix3 0 1 0 k hk
    generalize ([0, 1, 0] : List Int).getD k 0 = y at *
    go_enter Try.func74, Try.ntmps74
    go_wp2
    go_ret
    exact ⟨by rw [HV.out] <;> rfl, rfl⟩
  by_cases h6 : kind = 6
  · have HV : Hid (((rolN kind k : Nat) : Int) = [2, 1, 0].getD k 0) := by
      subst h6
      rcases (by omega : k = 0 ∨ k = 1 ∨ k = 2) with rfl | rfl | rfl <;> rfl
    subst h6
    have hix := ix3 2 1 0 k hk
    generalize ([2, 1, 0] : List Int).getD k 0 = y at *
    go_enter Try.func74, Try.ntmps74
    go_wp2
    go_ret
    exact ⟨by rw [HV.out] <;> rfl, rfl⟩
  by_cases h14 : kind = 14
  · have HV : Hid (((rolN kind k : Nat) : Int) = [0, 0, 2].getD k 0) := by
      subst h14
      rcases (by omega : k = 0 ∨ k = 1 ∨ k = 2) with rfl | rfl | rfl <;> rfl
    subst h14
    have hix := ix3 0 0 2 k hk
    generalize ([0, 0, 2] : List Int).getD k 0 = y at *
    go_enter Try.func74, Try.ntmps74
    go_wp2
    go_ret
    exact ⟨by rw [HV.out] <;> rfl, rfl⟩
  have HV : Hid (rolN kind k = 0) := by
    show rolN kind k = 0
    rw [rolN, if_neg h3, if_neg (by omega), if_neg h6, if_neg h14]
  go_enter Try.func74, Try.ntmps74
  go_wp2
  go_ret
  exact ⟨by rw [HV.out] <;> rfl, rfl⟩

/-- The name of a role. -/
def roleS (t : Nod) (r : Int) : ByteArray := if r = 1 then t.other else t.name

theorem impl_nameOfRole (k a b c n : Int) (s o : ByteArray) (r : Int) (w : World) : Calls Try.prog 53 #[.agg #[.int .i64 k, .int .i64 a, .int .i64 b, .int .i64 c, .int .i64 n, .string s, .string o], .int .i64 r] w fun e w' => e = .returned (.string (roleS ⟨k, a, b, c, n, s, o⟩ r)) ∧ Below w.heap.size w w' := by
  by_cases h : r = 1
  · have HV : Hid (roleS ⟨k, a, b, c, n, s, o⟩ r = o) := by show roleS _ r = o; rw [roleS, if_pos h]
    subst h
    go_enter Try.func53, Try.ntmps53
    go_wp2
    go_ret
    exact ⟨by rw [HV.out] <;> rfl, (Below.refl _ w).alloc (Nat.le_refl _) _⟩
  · have HV : Hid (roleS ⟨k, a, b, c, n, s, o⟩ r = s) := by show roleS _ r = s; rw [roleS, if_neg h]
    go_enter Try.func53, Try.ntmps53
    go_wp2
    go_ret
    exact ⟨by rw [HV.out] <;> rfl, (Below.refl _ w).alloc (Nat.le_refl _) _⟩

/-- What a node adds to a scope. -/
def kidS (t : Nod) (i : Int) (l : List (ByteArray × Int × Int)) : Nat → List (ByteArray × Int × Int)
  | 0 => l
  | q + 1 => (roleS t q, i, (q : Int)) :: kidS t i l q

theorem kidS_look (t : Nod) (i : Int) (l : List (ByteArray × Int × Int)) (q : Nat) (hq : q ≤ 2) (x : ByteArray) : lookL (kidS t i l q) x = match lookR x (rolL t q) with
    | some r => (i, r)
    | none => lookL l x := by
  rcases (by omega : q = 0 ∨ q = 1 ∨ q = 2) with rfl | rfl | rfl
  · rfl
  · simp only [kidS, rolL, lookL, lookR, roleS]
    by_cases h : t.name = x
    · rw [if_pos h]; simp [h]
    · rw [if_neg h, if_neg (fun e => h (by simpa using e.symm))]
  · simp only [kidS, rolL, lookL, lookR, roleS]
    by_cases h : t.other = x
    · rw [if_pos h]; simp [h]
    · rw [if_neg h]
      by_cases h2 : t.name = x
      · rw [if_pos h2, if_neg (fun e => h (by simpa using e.symm))]; simp [h2]
      · rw [if_neg h2, if_neg (fun e => h (by simpa using e.symm)), if_neg (fun e => h2 (by simpa using e.symm))]

theorem rolN_le (kind : Int) (k : Nat) : rolN kind k ≤ 2 := by
  unfold rolN
  have hg : ∀ l : List Nat, (∀ x ∈ l, x ≤ 2) → l.getD k 0 ≤ 2 := fun l h => by
    simp only [List.getD]
    cases e : l[k]? with
    | none => simp
    | some y => exact h y (List.mem_of_getElem? e)
  split
  · exact hg _ (by decide)
  · split
    · exact hg _ (by decide)
    · split
      · exact hg _ (by decide)
      · split
        · exact hg _ (by decide)
        · omega

set_option maxHeartbeats 1000000 in
set_option maxRecDepth 20000 in
/-- The scope in a kid. -/
theorem impl_inKid (g : Nat) (u : Value) (l : List (ByteArray × Int × Int)) (x0 x1 x2 x3 x4 : Int) (x5 x6 : ByteArray) (i : Int) (k : Nat) (hk : k < 3) (w : World) (hu : ScL g w l u) (hg : g < w.heap.size) :
    Calls Try.prog 65 #[u, .agg #[.int .i64 x0, .int .i64 x1, .int .i64 x2, .int .i64 x3, .int .i64 x4, .string x5, .string x6], .int .i64 i, .int .i64 k] w fun e w' =>
      ∃ v, e = .returned v ∧ ScL g w' (kidS ⟨x0, x1, x2, x3, x4, x5, x6⟩ i l (rolN x0 k)) v ∧ Below w.heap.size w w' := by
  have BA : Below w.heap.size w (w.alloc (.cells #[.int .i64 x0, .int .i64 x1, .int .i64 x2, .int .i64 x3, .int .i64 x4, .string x5, .string x6] 52)) := (Below.refl _ w).alloc (Nat.le_refl _) _
  have rf : (w.alloc (.cells #[.int .i64 x0, .int .i64 x1, .int .i64 x2, .int .i64 x3, .int .i64 x4, .string x5, .string x6] 52)).heap[w.heap.size]? = some (.cells #[.int .i64 x0, .int .i64 x1, .int .i64 x2, .int .i64 x3, .int .i64 x4, .string x5, .string x6] 52 (0, 0)) := (MapKept.heap_alloc w _).1
  have hsa : (w.alloc (.cells #[.int .i64 x0, .int .i64 x1, .int .i64 x2, .int .i64 x3, .int .i64 x4, .string x5, .string x6] 52)).heap.size = w.heap.size + 1 := by simp
  have HU : Hid (ScL g (w.alloc (.cells #[.int .i64 x0, .int .i64 x1, .int .i64 x2, .int .i64 x3, .int .i64 x4, .string x5, .string x6] 52)) l u) := ScL.kept (Kept.of_below BA) l u hu
  have HBA : Hid (_) := BA
  have HRF : Hid (_) := rf
  have HSA : Hid (_) := hsa
  clear BA rf hsa hu
  have HRC : Hid (∀ w, Calls Try.prog 74 #[.int .i64 x0, .int .i64 k] w fun e w' => e = .returned (.int .i64 (rolN x0 k : Nat)) ∧ w' = w) := impl_rolesInKid x0 k hk
  have hrn := rolN_le x0 k
  generalize rolN x0 k = ro at *
  go_enter Try.func65, Try.ntmps65
  go_wp2_with fail
  refine (HRC.out _).mono ?_
  rintro e w1 ⟨rfl, rfl⟩
  generalize w.alloc (.cells #[.int .i64 x0, .int .i64 x1, .int .i64 x2, .int .i64 x3, .int .i64 x4, .string x5, .string x6] 52) = wa at *
  go_wp2
  go_loopw [9, 16] (fun v r wr => ∃ q : Nat, q ≤ ro ∧ r = .int .i64 q ∧ Hid (ScL g wr (kidS ⟨x0, x1, x2, x3, x4, x5, x6⟩ i l q) v) ∧ Below wa.heap.size wa wr) (fun _ r _ => ro - (intOf r).toNat)
  case atStart => exact ⟨0, by omega, rfl, HU, Below.refl _ _⟩
  case round =>
    obtain ⟨q, hq, rfl, HS, hb⟩ := hrel
    have hsz := hb.size
    have hrow := (hb.block w.heap.size (by have := HSA.out; omega)).trans HRF.out
    have HROW : Hid (_) := hrow
    by_cases hin : q < ro
    · have e1 : (q : Int) < ro := by omega
      obtain ⟨p0, p1, p2, p3, p4, p5, p6⟩ := cells7v hrow
      clear hrow
      go_wp2_with fail
      refine (impl_nameOfRole x0 x1 x2 x3 x4 x5 x6 q wr).mono ?_
      rintro e w2 ⟨rfl, b2⟩
      have s2 := b2.size
      have HS2 := ScL.kept (Kept.of_below b2) _ _ HS.out
      have HB2 : Hid (Below wa.heap.size wa w2) := hb.trans (b2.mono (by omega))
      have HNM : Hid (kidS ⟨x0, x1, x2, x3, x4, x5, x6⟩ i l (q + 1) = (roleS ⟨x0, x1, x2, x3, x4, x5, x6⟩ q, i, (q : Int)) :: kidS ⟨x0, x1, x2, x3, x4, x5, x6⟩ i l q) := rfl
      have HS3 : Hid (_) := HS2
      generalize roleS ⟨x0, x1, x2, x3, x4, x5, x6⟩ q = nm at *
      clear p0 p1 p2 p3 p4 p5 p6 HS2 HS
      go_wp2_with fail
      refine (impl_within g u9 nm i q _ w2 HS3.out (by have := HSA.out; omega)).mono ?_
      rintro e w3 ⟨v3, rfl, hs3, b3⟩
      have HS4 : Hid (ScL g w3 (kidS ⟨x0, x1, x2, x3, x4, x5, x6⟩ i l (q + 1)) v3) := by show ScL g w3 _ v3; rw [HNM.out]; exact hs3
      have HB3 : Hid (Below wa.heap.size wa w3) := HB2.out.trans (b3.mono (by omega))
      clear hs3 b3 HS3 HNM
      go_wp2
      go_roundw
      case rel => exact ⟨q + 1, by omega, by go_num, HS4, HB3.out⟩
      case measure => simp [intOf]; omega
    · obtain rfl : q = ro := by omega
      clear hrow
      have HB2 : Hid (Below w.heap.size w wr) := HBA.out.trans (hb.mono (by have := HSA.out; omega))
      go_wp2
      go_ret
      exact ⟨_, rfl, HS.out, HB2.out⟩

end Go.Proofs.Ytcpafjpjfinbkaa
