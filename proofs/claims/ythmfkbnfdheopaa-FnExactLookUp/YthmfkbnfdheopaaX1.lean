/-
  A heap of values: as data, as it lies in memory; how much one holds that is handed in, a copy of it, two held against each other. Conditions: written at each theorem.
-/
import Derived.Test.YthmfkbnfdheopaaE1a
import Derived.Test.YthmfkbnfdheopaaC1a
import Derived.Test.YthmfkbnfdheopaaT1a
import Derived.Test.YthmfkbnfdheopaaE1e
import Derived.Test.YthmfkbnfdheopaaC1e
import Derived.Test.YthmfkbnfdheopaaT1e
namespace Go.Proofs.Ythmfkbnfdheopaa
open Go.ChangeShapes Go.WideShapes Go.ChangeAt Go.RowKit
set_option linter.unusedVariables false

structure Hq where
  envs : List Cel
  clos : List Clq
  twos : List Tw
  refs : List Vl

/-- The rows of a heap in memory, each from its block's beginning. -/
structure HpAt (w : World) (a0 a1 a2 a3 : Option Addr) (g0 g1 g2 g3 : Nat) (h : Hq) : Prop where
  e0 : 0 < h.envs.length → a0 = some ⟨g0, 0, none⟩
  l0 : h.envs.length ≤ 1048576
  r0 : CelAt w g0 h.envs
  e1 : 0 < h.clos.length → a1 = some ⟨g1, 0, none⟩
  l1 : h.clos.length ≤ 1048576
  r1 : ClqAt w g1 h.clos
  e2 : 0 < h.twos.length → a2 = some ⟨g2, 0, none⟩
  l2 : h.twos.length ≤ 1048576
  r2 : TwAt w g2 h.twos
  e3 : 0 < h.refs.length → a3 = some ⟨g3, 0, none⟩
  l3 : h.refs.length ≤ 1048576
  r3 : VlAt w g3 h.refs

theorem HpAt.below {w w' : World} {B : Nat} {a0 a1 a2 a3 : Option Addr} {g0 g1 g2 g3 : Nat} {h : Hq} (H : HpAt w a0 a1 a2 a3 g0 g1 g2 g3 h) (hb : Below B w w') (hB : w.heap.size ≤ B) : HpAt w' a0 a1 a2 a3 g0 g1 g2 g3 h :=
  ⟨H.e0, H.l0, H.r0.below hb (fun q => Nat.lt_of_lt_of_le (H.r0.lt q) hB), H.e1, H.l1, H.r1.below hb (fun q => Nat.lt_of_lt_of_le (H.r1.lt q) hB), H.e2, H.l2, H.r2.below hb (fun q => Nat.lt_of_lt_of_le (H.r2.lt q) hB), H.e3, H.l3, H.r3.below hb (fun q => Nat.lt_of_lt_of_le (H.r3.lt q) hB)⟩

/-- The rows of a heap that is handed in, from some place on. -/
structure AHp (w : World) (a0 a1 a2 a3 : Option Addr) (g0 g1 g2 g3 o0 o1 o2 o3 : Nat) (h : Hq) : Prop where
  e0 : 0 < h.envs.length → a0 = some ⟨g0, o0, none⟩
  r0 : ACels w g0 o0 h.envs
  e1 : 0 < h.clos.length → a1 = some ⟨g1, o1, none⟩
  r1 : AClqs w g1 o1 h.clos
  e2 : 0 < h.twos.length → a2 = some ⟨g2, o2, none⟩
  r2 : ATws w g2 o2 h.twos
  e3 : 0 < h.refs.length → a3 = some ⟨g3, o3, none⟩
  r3 : AVls w g3 o3 h.refs

theorem AHp.below {w w' : World} {B : Nat} {a0 a1 a2 a3 : Option Addr} {g0 g1 g2 g3 o0 o1 o2 o3 : Nat} {h : Hq} (H : AHp w a0 a1 a2 a3 g0 g1 g2 g3 o0 o1 o2 o3 h) (hb : Below B w w') (hB : w.heap.size ≤ B) : AHp w' a0 a1 a2 a3 g0 g1 g2 g3 o0 o1 o2 o3 h :=
  ⟨H.e0, H.r0.below hb (fun q => Nat.lt_of_lt_of_le (H.r0.lt q) hB), H.e1, H.r1.below hb (fun q => Nat.lt_of_lt_of_le (H.r1.lt q) hB), H.e2, H.r2.below hb (fun q => Nat.lt_of_lt_of_le (H.r2.lt q) hB), H.e3, H.r3.below hb (fun q => Nat.lt_of_lt_of_le (H.r3.lt q) hB)⟩

theorem cel_sz_row (a : Option Addr) (cap n : Nat) (L0 : Int) (h0 : 0 ≤ L0) (h1 : L0 ≤ 1048576) (hm : n ≤ maxLen) (w : World) :
    Calls Try.prog 18 #[.slice a n cap, .int .i64 L0] w fun e w' => e = .returned (.int .i64 (if L0 - n < 0 then -1 else L0 - n)) ∧ Below w.heap.size w w' := by
  unfold maxLen at hm
  by_cases h : L0 - n < 0
  · rw [if_pos h]
    go_enter Try.func18, Try.ntmps18
    go_wp2
    go_ret
    exact ⟨rfl, Below.refl _ _⟩
  · rw [if_neg h]
    go_enter Try.func18, Try.ntmps18
    go_wp2
    go_ret
    exact ⟨rfl, Below.refl _ _⟩

theorem cel_to_row' (a : Option Addr) (b o cap : Nat) (ts : List Cel) (hne : 0 < ts.length → a = some ⟨b, o, none⟩) (hl : ts.length ≤ 1048576) (w : World) (hA : ACels w b o ts) :
    Calls Try.prog 23 #[.slice a ts.length cap] w fun e w' => ∃ g, w.heap.size ≤ g ∧ g < w'.heap.size ∧
      e = .returned (.slice (some ⟨g, 0, none⟩) ts.length ts.length) ∧ w'.heap[g]? = some (.cells (ts.flatMap celCells).toArray 59 (0, 0)) ∧ Below w.heap.size w w' :=
  (cel_to_row a b o cap ts hne hl w hA).mono fun e w' ⟨h1, h2, h3⟩ => ⟨_, Nat.le_refl _, (Array.getElem?_eq_some_iff.1 h2).1, h1, h2, h3⟩

theorem clq_sz_row (a : Option Addr) (cap n : Nat) (L0 : Int) (h0 : 0 ≤ L0) (h1 : L0 ≤ 1048576) (hm : n ≤ maxLen) (w : World) :
    Calls Try.prog 19 #[.slice a n cap, .int .i64 L0] w fun e w' => e = .returned (.int .i64 (if L0 - n < 0 then -1 else L0 - n)) ∧ Below w.heap.size w w' := by
  unfold maxLen at hm
  by_cases h : L0 - n < 0
  · rw [if_pos h]
    go_enter Try.func19, Try.ntmps19
    go_wp2
    go_ret
    exact ⟨rfl, Below.refl _ _⟩
  · rw [if_neg h]
    go_enter Try.func19, Try.ntmps19
    go_wp2
    go_ret
    exact ⟨rfl, Below.refl _ _⟩

theorem clq_to_row' (a : Option Addr) (b o cap : Nat) (ts : List Clq) (hne : 0 < ts.length → a = some ⟨b, o, none⟩) (hl : ts.length ≤ 1048576) (w : World) (hA : AClqs w b o ts) :
    Calls Try.prog 24 #[.slice a ts.length cap] w fun e w' => ∃ g, w.heap.size ≤ g ∧ g < w'.heap.size ∧
      e = .returned (.slice (some ⟨g, 0, none⟩) ts.length ts.length) ∧ w'.heap[g]? = some (.cells (ts.flatMap clqCells).toArray 61 (0, 0)) ∧ Below w.heap.size w w' :=
  (clq_to_row a b o cap ts hne hl w hA).mono fun e w' ⟨h1, h2, h3⟩ => ⟨_, Nat.le_refl _, (Array.getElem?_eq_some_iff.1 h2).1, h1, h2, h3⟩

theorem tw_sz_row (a : Option Addr) (cap n : Nat) (L0 : Int) (h0 : 0 ≤ L0) (h1 : L0 ≤ 1048576) (hm : n ≤ maxLen) (w : World) :
    Calls Try.prog 20 #[.slice a n cap, .int .i64 L0] w fun e w' => e = .returned (.int .i64 (if L0 - n < 0 then -1 else L0 - n)) ∧ Below w.heap.size w w' := by
  unfold maxLen at hm
  by_cases h : L0 - n < 0
  · rw [if_pos h]
    go_enter Try.func20, Try.ntmps20
    go_wp2
    go_ret
    exact ⟨rfl, Below.refl _ _⟩
  · rw [if_neg h]
    go_enter Try.func20, Try.ntmps20
    go_wp2
    go_ret
    exact ⟨rfl, Below.refl _ _⟩

theorem tw_to_row' (a : Option Addr) (b o cap : Nat) (ts : List Tw) (hne : 0 < ts.length → a = some ⟨b, o, none⟩) (hl : ts.length ≤ 1048576) (w : World) (hA : ATws w b o ts) :
    Calls Try.prog 25 #[.slice a ts.length cap] w fun e w' => ∃ g, w.heap.size ≤ g ∧ g < w'.heap.size ∧
      e = .returned (.slice (some ⟨g, 0, none⟩) ts.length ts.length) ∧ w'.heap[g]? = some (.cells (ts.flatMap twCells).toArray 63 (0, 0)) ∧ Below w.heap.size w w' :=
  (tw_to_row a b o cap ts hne hl w hA).mono fun e w' ⟨h1, h2, h3⟩ => ⟨_, Nat.le_refl _, (Array.getElem?_eq_some_iff.1 h2).1, h1, h2, h3⟩

theorem vl_sz_row (a : Option Addr) (cap n : Nat) (L0 : Int) (h0 : 0 ≤ L0) (h1 : L0 ≤ 1048576) (hm : n ≤ maxLen) (w : World) :
    Calls Try.prog 21 #[.slice a n cap, .int .i64 L0] w fun e w' => e = .returned (.int .i64 (if L0 - n < 0 then -1 else L0 - n)) ∧ Below w.heap.size w w' := by
  unfold maxLen at hm
  by_cases h : L0 - n < 0
  · rw [if_pos h]
    go_enter Try.func21, Try.ntmps21
    go_wp2
    go_ret
    exact ⟨rfl, Below.refl _ _⟩
  · rw [if_neg h]
    go_enter Try.func21, Try.ntmps21
    go_wp2
    go_ret
    exact ⟨rfl, Below.refl _ _⟩

theorem vl_to_row' (a : Option Addr) (b o cap : Nat) (ts : List Vl) (hne : 0 < ts.length → a = some ⟨b, o, none⟩) (hl : ts.length ≤ 1048576) (w : World) (hA : AVls w b o ts) :
    Calls Try.prog 26 #[.slice a ts.length cap] w fun e w' => ∃ g, w.heap.size ≤ g ∧ g < w'.heap.size ∧
      e = .returned (.slice (some ⟨g, 0, none⟩) ts.length ts.length) ∧ w'.heap[g]? = some (.cells (ts.flatMap vlCells).toArray 42 (0, 0)) ∧ Below w.heap.size w w' :=
  (vl_to_row a b o cap ts hne hl w hA).mono fun e w' ⟨h1, h2, h3⟩ => ⟨_, Nat.le_refl _, (Array.getElem?_eq_some_iff.1 h2).1, h1, h2, h3⟩

set_option maxRecDepth 20000 in
/-- What is told of a heap's size: where it isn't negative, each row is of at most 1048576. -/
theorem hp_sz (a0 a1 a2 a3 : Option Addr) (c0 c1 c2 c3 : Nat) (h : Hq) (m0 : h.envs.length ≤ maxLen) (m1 : h.clos.length ≤ maxLen) (m2 : h.twos.length ≤ maxLen) (m3 : h.refs.length ≤ maxLen) (w : World) :
    Calls Try.prog 6 #[.agg #[.slice a0 h.envs.length c0, .slice a1 h.clos.length c1, .slice a2 h.twos.length c2, .slice a3 h.refs.length c3], .int .i64 1048576] w fun e w' =>
      (∃ r : Int, e = .returned (.int .i64 r) ∧ (0 ≤ r → h.envs.length ≤ 1048576 ∧ h.clos.length ≤ 1048576 ∧ h.twos.length ≤ 1048576 ∧ h.refs.length ≤ 1048576)) ∧ Below w.heap.size w w' := by
  obtain ⟨n0, hn0⟩ : ∃ n, h.envs.length = n := ⟨_, rfl⟩
  obtain ⟨n1, hn1⟩ : ∃ n, h.clos.length = n := ⟨_, rfl⟩
  obtain ⟨n2, hn2⟩ : ∃ n, h.twos.length = n := ⟨_, rfl⟩
  obtain ⟨n3, hn3⟩ : ∃ n, h.refs.length = n := ⟨_, rfl⟩
  rw [hn0] at m0 ⊢
  rw [hn1] at m1 ⊢
  rw [hn2] at m2 ⊢
  rw [hn3] at m3 ⊢
  clear hn0 hn1 hn2 hn3
  have hb0 : (0 : Int) ≤ 1048576 := by omega
  by_cases q0 : 1048576 - (n0 : Int) < 0
  · go_enter Try.func6, Try.ntmps6
    go_wp2_with fail
    refine (cel_sz_row _ _ _ _ (by omega) (by omega) m0 _).mono ?_
    rintro e w1 ⟨rfl, b1⟩
    rw [if_pos (by omega)]
    have hp1 : w1.heap[w.heap.size]? = some (.cells #[.slice a0 n0 c0, .slice a1 n1 c1, .slice a2 n2 c2, .slice a3 n3 c3] 27 (0, 0)) := (b1.block _ (by simp)).trans (MapKept.heap_alloc w _).1
    have B1 : Hid (Below w.heap.size w w1) := ((Below.refl _ w).alloc (Nat.le_refl _) _).trans (b1.mono (by simp))
    have sz1 : w.heap.size + 1 ≤ w1.heap.size := by have := b1.size; simp at this; omega
    have p0_1 : w1.cell? ⟨w.heap.size, 0, none⟩ = some (.slice a0 n0 c0) := (cell_of_row _ _ _ _ _ _ hp1).trans rfl
    have p1_1 : w1.cell? ⟨w.heap.size, 1, none⟩ = some (.slice a1 n1 c1) := (cell_of_row _ _ _ _ _ _ hp1).trans rfl
    have p2_1 : w1.cell? ⟨w.heap.size, 2, none⟩ = some (.slice a2 n2 c2) := (cell_of_row _ _ _ _ _ _ hp1).trans rfl
    have p3_1 : w1.cell? ⟨w.heap.size, 3, none⟩ = some (.slice a3 n3 c3) := (cell_of_row _ _ _ _ _ _ hp1).trans rfl
    clear b1
    clear hp1
    go_wp2
    go_ret
    exact ⟨⟨_, rfl, fun h => absurd h (by decide)⟩, B1.out⟩
  by_cases q1 : 1048576 - (n0 : Int) - (n1 : Int) < 0
  · go_enter Try.func6, Try.ntmps6
    go_wp2_with fail
    refine (cel_sz_row _ _ _ _ (by omega) (by omega) m0 _).mono ?_
    rintro e w1 ⟨rfl, b1⟩
    rw [if_neg (by omega)]
    have hp1 : w1.heap[w.heap.size]? = some (.cells #[.slice a0 n0 c0, .slice a1 n1 c1, .slice a2 n2 c2, .slice a3 n3 c3] 27 (0, 0)) := (b1.block _ (by simp)).trans (MapKept.heap_alloc w _).1
    have B1 : Hid (Below w.heap.size w w1) := ((Below.refl _ w).alloc (Nat.le_refl _) _).trans (b1.mono (by simp))
    have sz1 : w.heap.size + 1 ≤ w1.heap.size := by have := b1.size; simp at this; omega
    have p0_1 : w1.cell? ⟨w.heap.size, 0, none⟩ = some (.slice a0 n0 c0) := (cell_of_row _ _ _ _ _ _ hp1).trans rfl
    have p1_1 : w1.cell? ⟨w.heap.size, 1, none⟩ = some (.slice a1 n1 c1) := (cell_of_row _ _ _ _ _ _ hp1).trans rfl
    have p2_1 : w1.cell? ⟨w.heap.size, 2, none⟩ = some (.slice a2 n2 c2) := (cell_of_row _ _ _ _ _ _ hp1).trans rfl
    have p3_1 : w1.cell? ⟨w.heap.size, 3, none⟩ = some (.slice a3 n3 c3) := (cell_of_row _ _ _ _ _ _ hp1).trans rfl
    clear b1
    go_wp2_with fail
    refine (clq_sz_row _ _ _ _ (by omega) (by omega) m1 _).mono ?_
    rintro e w2 ⟨rfl, b2⟩
    rw [if_pos (by omega)]
    have hp2 : w2.heap[w.heap.size]? = some (.cells #[.slice a0 n0 c0, .slice a1 n1 c1, .slice a2 n2 c2, .slice a3 n3 c3] 27 (0, 0)) := (b2.block _ (by omega)).trans hp1
    have B2 : Hid (Below w.heap.size w w2) := B1.out.trans (b2.mono (by omega))
    have sz2 : w.heap.size + 1 ≤ w2.heap.size := by have := b2.size; omega
    clear p0_1 p1_1 p2_1 p3_1 hp1
    have p0_2 : w2.cell? ⟨w.heap.size, 0, none⟩ = some (.slice a0 n0 c0) := (cell_of_row _ _ _ _ _ _ hp2).trans rfl
    have p1_2 : w2.cell? ⟨w.heap.size, 1, none⟩ = some (.slice a1 n1 c1) := (cell_of_row _ _ _ _ _ _ hp2).trans rfl
    have p2_2 : w2.cell? ⟨w.heap.size, 2, none⟩ = some (.slice a2 n2 c2) := (cell_of_row _ _ _ _ _ _ hp2).trans rfl
    have p3_2 : w2.cell? ⟨w.heap.size, 3, none⟩ = some (.slice a3 n3 c3) := (cell_of_row _ _ _ _ _ _ hp2).trans rfl
    clear b2
    clear hp2
    go_wp2
    go_ret
    exact ⟨⟨_, rfl, fun h => absurd h (by decide)⟩, B2.out⟩
  by_cases q2 : 1048576 - (n0 : Int) - (n1 : Int) - (n2 : Int) < 0
  · go_enter Try.func6, Try.ntmps6
    go_wp2_with fail
    refine (cel_sz_row _ _ _ _ (by omega) (by omega) m0 _).mono ?_
    rintro e w1 ⟨rfl, b1⟩
    rw [if_neg (by omega)]
    have hp1 : w1.heap[w.heap.size]? = some (.cells #[.slice a0 n0 c0, .slice a1 n1 c1, .slice a2 n2 c2, .slice a3 n3 c3] 27 (0, 0)) := (b1.block _ (by simp)).trans (MapKept.heap_alloc w _).1
    have B1 : Hid (Below w.heap.size w w1) := ((Below.refl _ w).alloc (Nat.le_refl _) _).trans (b1.mono (by simp))
    have sz1 : w.heap.size + 1 ≤ w1.heap.size := by have := b1.size; simp at this; omega
    have p0_1 : w1.cell? ⟨w.heap.size, 0, none⟩ = some (.slice a0 n0 c0) := (cell_of_row _ _ _ _ _ _ hp1).trans rfl
    have p1_1 : w1.cell? ⟨w.heap.size, 1, none⟩ = some (.slice a1 n1 c1) := (cell_of_row _ _ _ _ _ _ hp1).trans rfl
    have p2_1 : w1.cell? ⟨w.heap.size, 2, none⟩ = some (.slice a2 n2 c2) := (cell_of_row _ _ _ _ _ _ hp1).trans rfl
    have p3_1 : w1.cell? ⟨w.heap.size, 3, none⟩ = some (.slice a3 n3 c3) := (cell_of_row _ _ _ _ _ _ hp1).trans rfl
    clear b1
    go_wp2_with fail
    refine (clq_sz_row _ _ _ _ (by omega) (by omega) m1 _).mono ?_
    rintro e w2 ⟨rfl, b2⟩
    rw [if_neg (by omega)]
    have hp2 : w2.heap[w.heap.size]? = some (.cells #[.slice a0 n0 c0, .slice a1 n1 c1, .slice a2 n2 c2, .slice a3 n3 c3] 27 (0, 0)) := (b2.block _ (by omega)).trans hp1
    have B2 : Hid (Below w.heap.size w w2) := B1.out.trans (b2.mono (by omega))
    have sz2 : w.heap.size + 1 ≤ w2.heap.size := by have := b2.size; omega
    clear p0_1 p1_1 p2_1 p3_1 hp1
    have p0_2 : w2.cell? ⟨w.heap.size, 0, none⟩ = some (.slice a0 n0 c0) := (cell_of_row _ _ _ _ _ _ hp2).trans rfl
    have p1_2 : w2.cell? ⟨w.heap.size, 1, none⟩ = some (.slice a1 n1 c1) := (cell_of_row _ _ _ _ _ _ hp2).trans rfl
    have p2_2 : w2.cell? ⟨w.heap.size, 2, none⟩ = some (.slice a2 n2 c2) := (cell_of_row _ _ _ _ _ _ hp2).trans rfl
    have p3_2 : w2.cell? ⟨w.heap.size, 3, none⟩ = some (.slice a3 n3 c3) := (cell_of_row _ _ _ _ _ _ hp2).trans rfl
    clear b2
    go_wp2_with fail
    refine (tw_sz_row _ _ _ _ (by omega) (by omega) m2 _).mono ?_
    rintro e w3 ⟨rfl, b3⟩
    rw [if_pos (by omega)]
    have hp3 : w3.heap[w.heap.size]? = some (.cells #[.slice a0 n0 c0, .slice a1 n1 c1, .slice a2 n2 c2, .slice a3 n3 c3] 27 (0, 0)) := (b3.block _ (by omega)).trans hp2
    have B3 : Hid (Below w.heap.size w w3) := B2.out.trans (b3.mono (by omega))
    have sz3 : w.heap.size + 1 ≤ w3.heap.size := by have := b3.size; omega
    clear p0_2 p1_2 p2_2 p3_2 hp2
    have p0_3 : w3.cell? ⟨w.heap.size, 0, none⟩ = some (.slice a0 n0 c0) := (cell_of_row _ _ _ _ _ _ hp3).trans rfl
    have p1_3 : w3.cell? ⟨w.heap.size, 1, none⟩ = some (.slice a1 n1 c1) := (cell_of_row _ _ _ _ _ _ hp3).trans rfl
    have p2_3 : w3.cell? ⟨w.heap.size, 2, none⟩ = some (.slice a2 n2 c2) := (cell_of_row _ _ _ _ _ _ hp3).trans rfl
    have p3_3 : w3.cell? ⟨w.heap.size, 3, none⟩ = some (.slice a3 n3 c3) := (cell_of_row _ _ _ _ _ _ hp3).trans rfl
    clear b3
    clear hp3
    go_wp2
    go_ret
    exact ⟨⟨_, rfl, fun h => absurd h (by decide)⟩, B3.out⟩
  by_cases q3 : 1048576 - (n0 : Int) - (n1 : Int) - (n2 : Int) - (n3 : Int) < 0
  · go_enter Try.func6, Try.ntmps6
    go_wp2_with fail
    refine (cel_sz_row _ _ _ _ (by omega) (by omega) m0 _).mono ?_
    rintro e w1 ⟨rfl, b1⟩
    rw [if_neg (by omega)]
    have hp1 : w1.heap[w.heap.size]? = some (.cells #[.slice a0 n0 c0, .slice a1 n1 c1, .slice a2 n2 c2, .slice a3 n3 c3] 27 (0, 0)) := (b1.block _ (by simp)).trans (MapKept.heap_alloc w _).1
    have B1 : Hid (Below w.heap.size w w1) := ((Below.refl _ w).alloc (Nat.le_refl _) _).trans (b1.mono (by simp))
    have sz1 : w.heap.size + 1 ≤ w1.heap.size := by have := b1.size; simp at this; omega
    have p0_1 : w1.cell? ⟨w.heap.size, 0, none⟩ = some (.slice a0 n0 c0) := (cell_of_row _ _ _ _ _ _ hp1).trans rfl
    have p1_1 : w1.cell? ⟨w.heap.size, 1, none⟩ = some (.slice a1 n1 c1) := (cell_of_row _ _ _ _ _ _ hp1).trans rfl
    have p2_1 : w1.cell? ⟨w.heap.size, 2, none⟩ = some (.slice a2 n2 c2) := (cell_of_row _ _ _ _ _ _ hp1).trans rfl
    have p3_1 : w1.cell? ⟨w.heap.size, 3, none⟩ = some (.slice a3 n3 c3) := (cell_of_row _ _ _ _ _ _ hp1).trans rfl
    clear b1
    go_wp2_with fail
    refine (clq_sz_row _ _ _ _ (by omega) (by omega) m1 _).mono ?_
    rintro e w2 ⟨rfl, b2⟩
    rw [if_neg (by omega)]
    have hp2 : w2.heap[w.heap.size]? = some (.cells #[.slice a0 n0 c0, .slice a1 n1 c1, .slice a2 n2 c2, .slice a3 n3 c3] 27 (0, 0)) := (b2.block _ (by omega)).trans hp1
    have B2 : Hid (Below w.heap.size w w2) := B1.out.trans (b2.mono (by omega))
    have sz2 : w.heap.size + 1 ≤ w2.heap.size := by have := b2.size; omega
    clear p0_1 p1_1 p2_1 p3_1 hp1
    have p0_2 : w2.cell? ⟨w.heap.size, 0, none⟩ = some (.slice a0 n0 c0) := (cell_of_row _ _ _ _ _ _ hp2).trans rfl
    have p1_2 : w2.cell? ⟨w.heap.size, 1, none⟩ = some (.slice a1 n1 c1) := (cell_of_row _ _ _ _ _ _ hp2).trans rfl
    have p2_2 : w2.cell? ⟨w.heap.size, 2, none⟩ = some (.slice a2 n2 c2) := (cell_of_row _ _ _ _ _ _ hp2).trans rfl
    have p3_2 : w2.cell? ⟨w.heap.size, 3, none⟩ = some (.slice a3 n3 c3) := (cell_of_row _ _ _ _ _ _ hp2).trans rfl
    clear b2
    go_wp2_with fail
    refine (tw_sz_row _ _ _ _ (by omega) (by omega) m2 _).mono ?_
    rintro e w3 ⟨rfl, b3⟩
    rw [if_neg (by omega)]
    have hp3 : w3.heap[w.heap.size]? = some (.cells #[.slice a0 n0 c0, .slice a1 n1 c1, .slice a2 n2 c2, .slice a3 n3 c3] 27 (0, 0)) := (b3.block _ (by omega)).trans hp2
    have B3 : Hid (Below w.heap.size w w3) := B2.out.trans (b3.mono (by omega))
    have sz3 : w.heap.size + 1 ≤ w3.heap.size := by have := b3.size; omega
    clear p0_2 p1_2 p2_2 p3_2 hp2
    have p0_3 : w3.cell? ⟨w.heap.size, 0, none⟩ = some (.slice a0 n0 c0) := (cell_of_row _ _ _ _ _ _ hp3).trans rfl
    have p1_3 : w3.cell? ⟨w.heap.size, 1, none⟩ = some (.slice a1 n1 c1) := (cell_of_row _ _ _ _ _ _ hp3).trans rfl
    have p2_3 : w3.cell? ⟨w.heap.size, 2, none⟩ = some (.slice a2 n2 c2) := (cell_of_row _ _ _ _ _ _ hp3).trans rfl
    have p3_3 : w3.cell? ⟨w.heap.size, 3, none⟩ = some (.slice a3 n3 c3) := (cell_of_row _ _ _ _ _ _ hp3).trans rfl
    clear b3
    go_wp2_with fail
    refine (vl_sz_row _ _ _ _ (by omega) (by omega) m3 _).mono ?_
    rintro e w4 ⟨rfl, b4⟩
    rw [if_pos (by omega)]
    have hp4 : w4.heap[w.heap.size]? = some (.cells #[.slice a0 n0 c0, .slice a1 n1 c1, .slice a2 n2 c2, .slice a3 n3 c3] 27 (0, 0)) := (b4.block _ (by omega)).trans hp3
    have B4 : Hid (Below w.heap.size w w4) := B3.out.trans (b4.mono (by omega))
    have sz4 : w.heap.size + 1 ≤ w4.heap.size := by have := b4.size; omega
    clear p0_3 p1_3 p2_3 p3_3 hp3
    have p0_4 : w4.cell? ⟨w.heap.size, 0, none⟩ = some (.slice a0 n0 c0) := (cell_of_row _ _ _ _ _ _ hp4).trans rfl
    have p1_4 : w4.cell? ⟨w.heap.size, 1, none⟩ = some (.slice a1 n1 c1) := (cell_of_row _ _ _ _ _ _ hp4).trans rfl
    have p2_4 : w4.cell? ⟨w.heap.size, 2, none⟩ = some (.slice a2 n2 c2) := (cell_of_row _ _ _ _ _ _ hp4).trans rfl
    have p3_4 : w4.cell? ⟨w.heap.size, 3, none⟩ = some (.slice a3 n3 c3) := (cell_of_row _ _ _ _ _ _ hp4).trans rfl
    clear b4
    clear hp4
    go_wp2
    go_ret
    exact ⟨⟨_, rfl, fun h => absurd h (by decide)⟩, B4.out⟩
  · go_enter Try.func6, Try.ntmps6
    go_wp2_with fail
    refine (cel_sz_row _ _ _ _ (by omega) (by omega) m0 _).mono ?_
    rintro e w1 ⟨rfl, b1⟩
    rw [if_neg (by omega)]
    have hp1 : w1.heap[w.heap.size]? = some (.cells #[.slice a0 n0 c0, .slice a1 n1 c1, .slice a2 n2 c2, .slice a3 n3 c3] 27 (0, 0)) := (b1.block _ (by simp)).trans (MapKept.heap_alloc w _).1
    have B1 : Hid (Below w.heap.size w w1) := ((Below.refl _ w).alloc (Nat.le_refl _) _).trans (b1.mono (by simp))
    have sz1 : w.heap.size + 1 ≤ w1.heap.size := by have := b1.size; simp at this; omega
    have p0_1 : w1.cell? ⟨w.heap.size, 0, none⟩ = some (.slice a0 n0 c0) := (cell_of_row _ _ _ _ _ _ hp1).trans rfl
    have p1_1 : w1.cell? ⟨w.heap.size, 1, none⟩ = some (.slice a1 n1 c1) := (cell_of_row _ _ _ _ _ _ hp1).trans rfl
    have p2_1 : w1.cell? ⟨w.heap.size, 2, none⟩ = some (.slice a2 n2 c2) := (cell_of_row _ _ _ _ _ _ hp1).trans rfl
    have p3_1 : w1.cell? ⟨w.heap.size, 3, none⟩ = some (.slice a3 n3 c3) := (cell_of_row _ _ _ _ _ _ hp1).trans rfl
    clear b1
    go_wp2_with fail
    refine (clq_sz_row _ _ _ _ (by omega) (by omega) m1 _).mono ?_
    rintro e w2 ⟨rfl, b2⟩
    rw [if_neg (by omega)]
    have hp2 : w2.heap[w.heap.size]? = some (.cells #[.slice a0 n0 c0, .slice a1 n1 c1, .slice a2 n2 c2, .slice a3 n3 c3] 27 (0, 0)) := (b2.block _ (by omega)).trans hp1
    have B2 : Hid (Below w.heap.size w w2) := B1.out.trans (b2.mono (by omega))
    have sz2 : w.heap.size + 1 ≤ w2.heap.size := by have := b2.size; omega
    clear p0_1 p1_1 p2_1 p3_1 hp1
    have p0_2 : w2.cell? ⟨w.heap.size, 0, none⟩ = some (.slice a0 n0 c0) := (cell_of_row _ _ _ _ _ _ hp2).trans rfl
    have p1_2 : w2.cell? ⟨w.heap.size, 1, none⟩ = some (.slice a1 n1 c1) := (cell_of_row _ _ _ _ _ _ hp2).trans rfl
    have p2_2 : w2.cell? ⟨w.heap.size, 2, none⟩ = some (.slice a2 n2 c2) := (cell_of_row _ _ _ _ _ _ hp2).trans rfl
    have p3_2 : w2.cell? ⟨w.heap.size, 3, none⟩ = some (.slice a3 n3 c3) := (cell_of_row _ _ _ _ _ _ hp2).trans rfl
    clear b2
    go_wp2_with fail
    refine (tw_sz_row _ _ _ _ (by omega) (by omega) m2 _).mono ?_
    rintro e w3 ⟨rfl, b3⟩
    rw [if_neg (by omega)]
    have hp3 : w3.heap[w.heap.size]? = some (.cells #[.slice a0 n0 c0, .slice a1 n1 c1, .slice a2 n2 c2, .slice a3 n3 c3] 27 (0, 0)) := (b3.block _ (by omega)).trans hp2
    have B3 : Hid (Below w.heap.size w w3) := B2.out.trans (b3.mono (by omega))
    have sz3 : w.heap.size + 1 ≤ w3.heap.size := by have := b3.size; omega
    clear p0_2 p1_2 p2_2 p3_2 hp2
    have p0_3 : w3.cell? ⟨w.heap.size, 0, none⟩ = some (.slice a0 n0 c0) := (cell_of_row _ _ _ _ _ _ hp3).trans rfl
    have p1_3 : w3.cell? ⟨w.heap.size, 1, none⟩ = some (.slice a1 n1 c1) := (cell_of_row _ _ _ _ _ _ hp3).trans rfl
    have p2_3 : w3.cell? ⟨w.heap.size, 2, none⟩ = some (.slice a2 n2 c2) := (cell_of_row _ _ _ _ _ _ hp3).trans rfl
    have p3_3 : w3.cell? ⟨w.heap.size, 3, none⟩ = some (.slice a3 n3 c3) := (cell_of_row _ _ _ _ _ _ hp3).trans rfl
    clear b3
    go_wp2_with fail
    refine (vl_sz_row _ _ _ _ (by omega) (by omega) m3 _).mono ?_
    rintro e w4 ⟨rfl, b4⟩
    rw [if_neg (by omega)]
    have hp4 : w4.heap[w.heap.size]? = some (.cells #[.slice a0 n0 c0, .slice a1 n1 c1, .slice a2 n2 c2, .slice a3 n3 c3] 27 (0, 0)) := (b4.block _ (by omega)).trans hp3
    have B4 : Hid (Below w.heap.size w w4) := B3.out.trans (b4.mono (by omega))
    have sz4 : w.heap.size + 1 ≤ w4.heap.size := by have := b4.size; omega
    clear p0_3 p1_3 p2_3 p3_3 hp3
    have p0_4 : w4.cell? ⟨w.heap.size, 0, none⟩ = some (.slice a0 n0 c0) := (cell_of_row _ _ _ _ _ _ hp4).trans rfl
    have p1_4 : w4.cell? ⟨w.heap.size, 1, none⟩ = some (.slice a1 n1 c1) := (cell_of_row _ _ _ _ _ _ hp4).trans rfl
    have p2_4 : w4.cell? ⟨w.heap.size, 2, none⟩ = some (.slice a2 n2 c2) := (cell_of_row _ _ _ _ _ _ hp4).trans rfl
    have p3_4 : w4.cell? ⟨w.heap.size, 3, none⟩ = some (.slice a3 n3 c3) := (cell_of_row _ _ _ _ _ _ hp4).trans rfl
    clear b4
    clear hp4
    go_wp2
    go_ret
    exact ⟨⟨_, rfl, fun _ => by omega⟩, B4.out⟩

set_option maxRecDepth 20000 in
theorem hp_to (a0 a1 a2 a3 : Option Addr) (g0 g1 g2 g3 o0 o1 o2 o3 c0 c1 c2 c3 : Nat) (h : Hq) (l0 : h.envs.length ≤ 1048576) (l1 : h.clos.length ≤ 1048576) (l2 : h.twos.length ≤ 1048576) (l3 : h.refs.length ≤ 1048576) (w : World) (hA : AHp w a0 a1 a2 a3 g0 g1 g2 g3 o0 o1 o2 o3 h) :
    Calls Try.prog 8 #[.agg #[.slice a0 h.envs.length c0, .slice a1 h.clos.length c1, .slice a2 h.twos.length c2, .slice a3 h.refs.length c3]] w fun e w' => ∃ k0 k1 k2 k3, e = .returned (.agg #[.slice (some ⟨k0, 0, none⟩) h.envs.length h.envs.length, .slice (some ⟨k1, 0, none⟩) h.clos.length h.clos.length, .slice (some ⟨k2, 0, none⟩) h.twos.length h.twos.length, .slice (some ⟨k3, 0, none⟩) h.refs.length h.refs.length]) ∧ HpAt w' (some ⟨k0, 0, none⟩) (some ⟨k1, 0, none⟩) (some ⟨k2, 0, none⟩) (some ⟨k3, 0, none⟩) k0 k1 k2 k3 h ∧ Below w.heap.size w w' := by
  have HA : Hid (AHp w a0 a1 a2 a3 g0 g1 g2 g3 o0 o1 o2 o3 h) := hA
  clear hA
  go_enter Try.func8, Try.ntmps8
  go_wp2_with fail
  refine (cel_to_row' _ g0 o0 _ h.envs HA.out.e0 l0 _ (HA.out.below ((((Below.refl _ w).alloc (Nat.le_refl _) _).alloc (by simp) _).alloc (by simp; omega) _) (Nat.le_refl _)).r0).mono ?_
  rintro e w3 ⟨k0, hk0, hj0, rfl, hr0, b3⟩
  have B3 : Hid (Below w.heap.size w w3) := ((((Below.refl _ w).alloc (Nat.le_refl _) _).alloc (by simp) _).alloc (by simp; omega) _).trans (b3.mono (by simp; omega))
  have hp3 : w3.heap[w.heap.size]? = some (.cells #[.slice a0 h.envs.length c0, .slice a1 h.clos.length c1, .slice a2 h.twos.length c2, .slice a3 h.refs.length c3] 27 (0, 0)) := by
    rw [b3.block _ (by simp; omega), Below.heap_alloc _ _ _ (by simp; omega), Below.heap_alloc _ _ _ (by simp)]
    exact (MapKept.heap_alloc w _).1
  have hu3 : w3.heap[w.heap.size + 1]? = some (.cells #[.slice none 0 0, .slice none 0 0, .slice none 0 0, .slice none 0 0] 35 (0, 0)) := by
    rw [b3.block _ (by simp), Below.heap_alloc _ _ _ (by simp), heap_alloc2_new]
  have ho3 : w3.heap[w.heap.size + 1 + 1]? = some (.cells #[.slice none 0 0, .slice none 0 0, .slice none 0 0, .slice none 0 0] 35 (0, 0)) := by
    rw [b3.block _ (by simp)]
    have := (MapKept.heap_alloc ((w.alloc (.cells #[.slice a0 h.envs.length c0, .slice a1 h.clos.length c1, .slice a2 h.twos.length c2, .slice a3 h.refs.length c3] 27)).alloc (.cells #[.slice none 0 0, .slice none 0 0, .slice none 0 0, .slice none 0 0] 35)) (.cells #[.slice none 0 0, .slice none 0 0, .slice none 0 0, .slice none 0 0] 35)).1
    simpa using this
  have sz3 : w.heap.size + 3 ≤ w3.heap.size := by have := b3.size; simp at this; omega
  have hk0' : w.heap.size + 3 ≤ k0 := by simp at hk0; omega
  have R0_3 : Hid (w3.heap[k0]? = some (.cells (h.envs.flatMap celCells).toArray 59 (0, 0))) := hr0
  clear b3 hr0 hj0 hk0
  have p0_3 : w3.cell? ⟨w.heap.size, 0, none⟩ = some (.slice a0 h.envs.length c0) := (cell_of_row _ _ _ _ _ _ hp3).trans rfl
  have p1_3 : w3.cell? ⟨w.heap.size, 1, none⟩ = some (.slice a1 h.clos.length c1) := (cell_of_row _ _ _ _ _ _ hp3).trans rfl
  have p2_3 : w3.cell? ⟨w.heap.size, 2, none⟩ = some (.slice a2 h.twos.length c2) := (cell_of_row _ _ _ _ _ _ hp3).trans rfl
  have p3_3 : w3.cell? ⟨w.heap.size, 3, none⟩ = some (.slice a3 h.refs.length c3) := (cell_of_row _ _ _ _ _ _ hp3).trans rfl
  have u0_3 : w3.cell? ⟨w.heap.size + 1, 0, none⟩ = some (.slice none 0 0) := (cell_of_row _ _ _ _ _ _ hu3).trans rfl
  have uf0_3 : w3.frozen? ⟨w.heap.size + 1, 0, none⟩ = false := frozen_of_row w3 _ _ _ _ hu3
  have u1_3 : w3.cell? ⟨w.heap.size + 1, 1, none⟩ = some (.slice none 0 0) := (cell_of_row _ _ _ _ _ _ hu3).trans rfl
  have uf1_3 : w3.frozen? ⟨w.heap.size + 1, 1, none⟩ = false := frozen_of_row w3 _ _ _ _ hu3
  have u2_3 : w3.cell? ⟨w.heap.size + 1, 2, none⟩ = some (.slice none 0 0) := (cell_of_row _ _ _ _ _ _ hu3).trans rfl
  have uf2_3 : w3.frozen? ⟨w.heap.size + 1, 2, none⟩ = false := frozen_of_row w3 _ _ _ _ hu3
  have u3_3 : w3.cell? ⟨w.heap.size + 1, 3, none⟩ = some (.slice none 0 0) := (cell_of_row _ _ _ _ _ _ hu3).trans rfl
  have uf3_3 : w3.frozen? ⟨w.heap.size + 1, 3, none⟩ = false := frozen_of_row w3 _ _ _ _ hu3
  have o0_3 : w3.cell? ⟨w.heap.size + 1 + 1, 0, none⟩ = some (.slice none 0 0) := (cell_of_row _ _ _ _ _ _ ho3).trans rfl
  have of0_3 : w3.frozen? ⟨w.heap.size + 1 + 1, 0, none⟩ = false := frozen_of_row w3 _ _ _ _ ho3
  have o1_3 : w3.cell? ⟨w.heap.size + 1 + 1, 1, none⟩ = some (.slice none 0 0) := (cell_of_row _ _ _ _ _ _ ho3).trans rfl
  have of1_3 : w3.frozen? ⟨w.heap.size + 1 + 1, 1, none⟩ = false := frozen_of_row w3 _ _ _ _ ho3
  have o2_3 : w3.cell? ⟨w.heap.size + 1 + 1, 2, none⟩ = some (.slice none 0 0) := (cell_of_row _ _ _ _ _ _ ho3).trans rfl
  have of2_3 : w3.frozen? ⟨w.heap.size + 1 + 1, 2, none⟩ = false := frozen_of_row w3 _ _ _ _ ho3
  have o3_3 : w3.cell? ⟨w.heap.size + 1 + 1, 3, none⟩ = some (.slice none 0 0) := (cell_of_row _ _ _ _ _ _ ho3).trans rfl
  have of3_3 : w3.frozen? ⟨w.heap.size + 1 + 1, 3, none⟩ = false := frozen_of_row w3 _ _ _ _ ho3
  have HP3 : Hid (w3.heap[w.heap.size]? = some (.cells #[.slice a0 h.envs.length c0, .slice a1 h.clos.length c1, .slice a2 h.twos.length c2, .slice a3 h.refs.length c3] 27 (0, 0))) := hp3
  have HU3 : Hid (w3.heap[w.heap.size + 1]? = some (.cells #[.slice none 0 0, .slice none 0 0, .slice none 0 0, .slice none 0 0] 35 (0, 0))) := hu3
  have HO3 : Hid (w3.heap[w.heap.size + 1 + 1]? = some (.cells #[.slice none 0 0, .slice none 0 0, .slice none 0 0, .slice none 0 0] 35 (0, 0))) := ho3
  clear hp3 hu3 ho3
  go_wp2_with fail
  refine (clq_to_row' _ g1 o1 _ h.clos HA.out.e1 l1 _ (HA.out.below (Below.setCell (p := ⟨w.heap.size + 1 + 1, 0, none⟩) B3.out (by simp; omega) (.slice (some ⟨k0, 0, none⟩) h.envs.length h.envs.length)) (Nat.le_refl _)).r1).mono ?_
  rintro e w4 ⟨k1, hk1, hj1, rfl, hr1, b4⟩
  have B4 : Hid (Below w.heap.size w w4) := (Below.setCell (p := ⟨w.heap.size + 1 + 1, 0, none⟩) B3.out (by simp; omega) (.slice (some ⟨k0, 0, none⟩) h.envs.length h.envs.length)).trans (b4.mono (by simp; omega))
  have hp4 : w4.heap[w.heap.size]? = some (.cells #[.slice a0 h.envs.length c0, .slice a1 h.clos.length c1, .slice a2 h.twos.length c2, .slice a3 h.refs.length c3] 27 (0, 0)) := (b4.block _ (by simp; omega)).trans ((heap_setCell_other _ _ _ _ (by simp; try omega)).trans HP3.out)
  have hu4 : w4.heap[w.heap.size + 1]? = some (.cells #[.slice none 0 0, .slice none 0 0, .slice none 0 0, .slice none 0 0] 35 (0, 0)) := (b4.block _ (by simp; omega)).trans ((heap_setCell_other _ _ _ _ (by simp)).trans HU3.out)
  have ho4 : w4.heap[w.heap.size + 1 + 1]? = some (.cells #[.slice (some ⟨k0, 0, none⟩) h.envs.length h.envs.length, .slice none 0 0, .slice none 0 0, .slice none 0 0] 35 (0, 0)) := (b4.block _ (by simp; omega)).trans (heap_setCell_same _ _ _ _ _ _ HO3.out)
  have sz4 : w.heap.size + 3 ≤ w4.heap.size := by have := b4.size; simp at this; omega
  have hk1' : w.heap.size + 3 ≤ k1 := by simp at hk1; omega
  have R0_4 : Hid (w4.heap[k0]? = some (.cells (h.envs.flatMap celCells).toArray 59 (0, 0))) := (b4.block _ (by have := (Array.getElem?_eq_some_iff.1 R0_3.out).1; simp; omega)).trans ((heap_setCell_other _ _ _ _ (by simp; omega)).trans R0_3.out)
  clear R0_3 p0_3 u0_3 uf0_3 o0_3 of0_3 p1_3 u1_3 uf1_3 o1_3 of1_3 p2_3 u2_3 uf2_3 o2_3 of2_3 p3_3 u3_3 uf3_3 o3_3 of3_3 HP3 HU3 HO3 B3
  have R1_4 : Hid (w4.heap[k1]? = some (.cells (h.clos.flatMap clqCells).toArray 61 (0, 0))) := hr1
  clear b4 hr1 hj1 hk1
  have p0_4 : w4.cell? ⟨w.heap.size, 0, none⟩ = some (.slice a0 h.envs.length c0) := (cell_of_row _ _ _ _ _ _ hp4).trans rfl
  have p1_4 : w4.cell? ⟨w.heap.size, 1, none⟩ = some (.slice a1 h.clos.length c1) := (cell_of_row _ _ _ _ _ _ hp4).trans rfl
  have p2_4 : w4.cell? ⟨w.heap.size, 2, none⟩ = some (.slice a2 h.twos.length c2) := (cell_of_row _ _ _ _ _ _ hp4).trans rfl
  have p3_4 : w4.cell? ⟨w.heap.size, 3, none⟩ = some (.slice a3 h.refs.length c3) := (cell_of_row _ _ _ _ _ _ hp4).trans rfl
  have u0_4 : w4.cell? ⟨w.heap.size + 1, 0, none⟩ = some (.slice none 0 0) := (cell_of_row _ _ _ _ _ _ hu4).trans rfl
  have uf0_4 : w4.frozen? ⟨w.heap.size + 1, 0, none⟩ = false := frozen_of_row w4 _ _ _ _ hu4
  have u1_4 : w4.cell? ⟨w.heap.size + 1, 1, none⟩ = some (.slice none 0 0) := (cell_of_row _ _ _ _ _ _ hu4).trans rfl
  have uf1_4 : w4.frozen? ⟨w.heap.size + 1, 1, none⟩ = false := frozen_of_row w4 _ _ _ _ hu4
  have u2_4 : w4.cell? ⟨w.heap.size + 1, 2, none⟩ = some (.slice none 0 0) := (cell_of_row _ _ _ _ _ _ hu4).trans rfl
  have uf2_4 : w4.frozen? ⟨w.heap.size + 1, 2, none⟩ = false := frozen_of_row w4 _ _ _ _ hu4
  have u3_4 : w4.cell? ⟨w.heap.size + 1, 3, none⟩ = some (.slice none 0 0) := (cell_of_row _ _ _ _ _ _ hu4).trans rfl
  have uf3_4 : w4.frozen? ⟨w.heap.size + 1, 3, none⟩ = false := frozen_of_row w4 _ _ _ _ hu4
  have o0_4 : w4.cell? ⟨w.heap.size + 1 + 1, 0, none⟩ = some (.slice (some ⟨k0, 0, none⟩) h.envs.length h.envs.length) := (cell_of_row _ _ _ _ _ _ ho4).trans rfl
  have of0_4 : w4.frozen? ⟨w.heap.size + 1 + 1, 0, none⟩ = false := frozen_of_row w4 _ _ _ _ ho4
  have o1_4 : w4.cell? ⟨w.heap.size + 1 + 1, 1, none⟩ = some (.slice none 0 0) := (cell_of_row _ _ _ _ _ _ ho4).trans rfl
  have of1_4 : w4.frozen? ⟨w.heap.size + 1 + 1, 1, none⟩ = false := frozen_of_row w4 _ _ _ _ ho4
  have o2_4 : w4.cell? ⟨w.heap.size + 1 + 1, 2, none⟩ = some (.slice none 0 0) := (cell_of_row _ _ _ _ _ _ ho4).trans rfl
  have of2_4 : w4.frozen? ⟨w.heap.size + 1 + 1, 2, none⟩ = false := frozen_of_row w4 _ _ _ _ ho4
  have o3_4 : w4.cell? ⟨w.heap.size + 1 + 1, 3, none⟩ = some (.slice none 0 0) := (cell_of_row _ _ _ _ _ _ ho4).trans rfl
  have of3_4 : w4.frozen? ⟨w.heap.size + 1 + 1, 3, none⟩ = false := frozen_of_row w4 _ _ _ _ ho4
  have HP4 : Hid (w4.heap[w.heap.size]? = some (.cells #[.slice a0 h.envs.length c0, .slice a1 h.clos.length c1, .slice a2 h.twos.length c2, .slice a3 h.refs.length c3] 27 (0, 0))) := hp4
  have HU4 : Hid (w4.heap[w.heap.size + 1]? = some (.cells #[.slice none 0 0, .slice none 0 0, .slice none 0 0, .slice none 0 0] 35 (0, 0))) := hu4
  have HO4 : Hid (w4.heap[w.heap.size + 1 + 1]? = some (.cells #[.slice (some ⟨k0, 0, none⟩) h.envs.length h.envs.length, .slice none 0 0, .slice none 0 0, .slice none 0 0] 35 (0, 0))) := ho4
  clear hp4 hu4 ho4
  go_wp2_with fail
  refine (tw_to_row' _ g2 o2 _ h.twos HA.out.e2 l2 _ (HA.out.below (Below.setCell (p := ⟨w.heap.size + 1 + 1, 1, none⟩) B4.out (by simp; omega) (.slice (some ⟨k1, 0, none⟩) h.clos.length h.clos.length)) (Nat.le_refl _)).r2).mono ?_
  rintro e w5 ⟨k2, hk2, hj2, rfl, hr2, b5⟩
  have B5 : Hid (Below w.heap.size w w5) := (Below.setCell (p := ⟨w.heap.size + 1 + 1, 1, none⟩) B4.out (by simp; omega) (.slice (some ⟨k1, 0, none⟩) h.clos.length h.clos.length)).trans (b5.mono (by simp; omega))
  have hp5 : w5.heap[w.heap.size]? = some (.cells #[.slice a0 h.envs.length c0, .slice a1 h.clos.length c1, .slice a2 h.twos.length c2, .slice a3 h.refs.length c3] 27 (0, 0)) := (b5.block _ (by simp; omega)).trans ((heap_setCell_other _ _ _ _ (by simp; try omega)).trans HP4.out)
  have hu5 : w5.heap[w.heap.size + 1]? = some (.cells #[.slice none 0 0, .slice none 0 0, .slice none 0 0, .slice none 0 0] 35 (0, 0)) := (b5.block _ (by simp; omega)).trans ((heap_setCell_other _ _ _ _ (by simp)).trans HU4.out)
  have ho5 : w5.heap[w.heap.size + 1 + 1]? = some (.cells #[.slice (some ⟨k0, 0, none⟩) h.envs.length h.envs.length, .slice (some ⟨k1, 0, none⟩) h.clos.length h.clos.length, .slice none 0 0, .slice none 0 0] 35 (0, 0)) := (b5.block _ (by simp; omega)).trans (heap_setCell_same _ _ _ _ _ _ HO4.out)
  have sz5 : w.heap.size + 3 ≤ w5.heap.size := by have := b5.size; simp at this; omega
  have hk2' : w.heap.size + 3 ≤ k2 := by simp at hk2; omega
  have R0_5 : Hid (w5.heap[k0]? = some (.cells (h.envs.flatMap celCells).toArray 59 (0, 0))) := (b5.block _ (by have := (Array.getElem?_eq_some_iff.1 R0_4.out).1; simp; omega)).trans ((heap_setCell_other _ _ _ _ (by simp; omega)).trans R0_4.out)
  have R1_5 : Hid (w5.heap[k1]? = some (.cells (h.clos.flatMap clqCells).toArray 61 (0, 0))) := (b5.block _ (by have := (Array.getElem?_eq_some_iff.1 R1_4.out).1; simp; omega)).trans ((heap_setCell_other _ _ _ _ (by simp; omega)).trans R1_4.out)
  clear R0_4 R1_4 p0_4 u0_4 uf0_4 o0_4 of0_4 p1_4 u1_4 uf1_4 o1_4 of1_4 p2_4 u2_4 uf2_4 o2_4 of2_4 p3_4 u3_4 uf3_4 o3_4 of3_4 HP4 HU4 HO4 B4
  have R2_5 : Hid (w5.heap[k2]? = some (.cells (h.twos.flatMap twCells).toArray 63 (0, 0))) := hr2
  clear b5 hr2 hj2 hk2
  have p0_5 : w5.cell? ⟨w.heap.size, 0, none⟩ = some (.slice a0 h.envs.length c0) := (cell_of_row _ _ _ _ _ _ hp5).trans rfl
  have p1_5 : w5.cell? ⟨w.heap.size, 1, none⟩ = some (.slice a1 h.clos.length c1) := (cell_of_row _ _ _ _ _ _ hp5).trans rfl
  have p2_5 : w5.cell? ⟨w.heap.size, 2, none⟩ = some (.slice a2 h.twos.length c2) := (cell_of_row _ _ _ _ _ _ hp5).trans rfl
  have p3_5 : w5.cell? ⟨w.heap.size, 3, none⟩ = some (.slice a3 h.refs.length c3) := (cell_of_row _ _ _ _ _ _ hp5).trans rfl
  have u0_5 : w5.cell? ⟨w.heap.size + 1, 0, none⟩ = some (.slice none 0 0) := (cell_of_row _ _ _ _ _ _ hu5).trans rfl
  have uf0_5 : w5.frozen? ⟨w.heap.size + 1, 0, none⟩ = false := frozen_of_row w5 _ _ _ _ hu5
  have u1_5 : w5.cell? ⟨w.heap.size + 1, 1, none⟩ = some (.slice none 0 0) := (cell_of_row _ _ _ _ _ _ hu5).trans rfl
  have uf1_5 : w5.frozen? ⟨w.heap.size + 1, 1, none⟩ = false := frozen_of_row w5 _ _ _ _ hu5
  have u2_5 : w5.cell? ⟨w.heap.size + 1, 2, none⟩ = some (.slice none 0 0) := (cell_of_row _ _ _ _ _ _ hu5).trans rfl
  have uf2_5 : w5.frozen? ⟨w.heap.size + 1, 2, none⟩ = false := frozen_of_row w5 _ _ _ _ hu5
  have u3_5 : w5.cell? ⟨w.heap.size + 1, 3, none⟩ = some (.slice none 0 0) := (cell_of_row _ _ _ _ _ _ hu5).trans rfl
  have uf3_5 : w5.frozen? ⟨w.heap.size + 1, 3, none⟩ = false := frozen_of_row w5 _ _ _ _ hu5
  have o0_5 : w5.cell? ⟨w.heap.size + 1 + 1, 0, none⟩ = some (.slice (some ⟨k0, 0, none⟩) h.envs.length h.envs.length) := (cell_of_row _ _ _ _ _ _ ho5).trans rfl
  have of0_5 : w5.frozen? ⟨w.heap.size + 1 + 1, 0, none⟩ = false := frozen_of_row w5 _ _ _ _ ho5
  have o1_5 : w5.cell? ⟨w.heap.size + 1 + 1, 1, none⟩ = some (.slice (some ⟨k1, 0, none⟩) h.clos.length h.clos.length) := (cell_of_row _ _ _ _ _ _ ho5).trans rfl
  have of1_5 : w5.frozen? ⟨w.heap.size + 1 + 1, 1, none⟩ = false := frozen_of_row w5 _ _ _ _ ho5
  have o2_5 : w5.cell? ⟨w.heap.size + 1 + 1, 2, none⟩ = some (.slice none 0 0) := (cell_of_row _ _ _ _ _ _ ho5).trans rfl
  have of2_5 : w5.frozen? ⟨w.heap.size + 1 + 1, 2, none⟩ = false := frozen_of_row w5 _ _ _ _ ho5
  have o3_5 : w5.cell? ⟨w.heap.size + 1 + 1, 3, none⟩ = some (.slice none 0 0) := (cell_of_row _ _ _ _ _ _ ho5).trans rfl
  have of3_5 : w5.frozen? ⟨w.heap.size + 1 + 1, 3, none⟩ = false := frozen_of_row w5 _ _ _ _ ho5
  have HP5 : Hid (w5.heap[w.heap.size]? = some (.cells #[.slice a0 h.envs.length c0, .slice a1 h.clos.length c1, .slice a2 h.twos.length c2, .slice a3 h.refs.length c3] 27 (0, 0))) := hp5
  have HU5 : Hid (w5.heap[w.heap.size + 1]? = some (.cells #[.slice none 0 0, .slice none 0 0, .slice none 0 0, .slice none 0 0] 35 (0, 0))) := hu5
  have HO5 : Hid (w5.heap[w.heap.size + 1 + 1]? = some (.cells #[.slice (some ⟨k0, 0, none⟩) h.envs.length h.envs.length, .slice (some ⟨k1, 0, none⟩) h.clos.length h.clos.length, .slice none 0 0, .slice none 0 0] 35 (0, 0))) := ho5
  clear hp5 hu5 ho5
  go_wp2_with fail
  refine (vl_to_row' _ g3 o3 _ h.refs HA.out.e3 l3 _ (HA.out.below (Below.setCell (p := ⟨w.heap.size + 1 + 1, 2, none⟩) B5.out (by simp; omega) (.slice (some ⟨k2, 0, none⟩) h.twos.length h.twos.length)) (Nat.le_refl _)).r3).mono ?_
  rintro e w6 ⟨k3, hk3, hj3, rfl, hr3, b6⟩
  have B6 : Hid (Below w.heap.size w w6) := (Below.setCell (p := ⟨w.heap.size + 1 + 1, 2, none⟩) B5.out (by simp; omega) (.slice (some ⟨k2, 0, none⟩) h.twos.length h.twos.length)).trans (b6.mono (by simp; omega))
  have hp6 : w6.heap[w.heap.size]? = some (.cells #[.slice a0 h.envs.length c0, .slice a1 h.clos.length c1, .slice a2 h.twos.length c2, .slice a3 h.refs.length c3] 27 (0, 0)) := (b6.block _ (by simp; omega)).trans ((heap_setCell_other _ _ _ _ (by simp; try omega)).trans HP5.out)
  have hu6 : w6.heap[w.heap.size + 1]? = some (.cells #[.slice none 0 0, .slice none 0 0, .slice none 0 0, .slice none 0 0] 35 (0, 0)) := (b6.block _ (by simp; omega)).trans ((heap_setCell_other _ _ _ _ (by simp)).trans HU5.out)
  have ho6 : w6.heap[w.heap.size + 1 + 1]? = some (.cells #[.slice (some ⟨k0, 0, none⟩) h.envs.length h.envs.length, .slice (some ⟨k1, 0, none⟩) h.clos.length h.clos.length, .slice (some ⟨k2, 0, none⟩) h.twos.length h.twos.length, .slice none 0 0] 35 (0, 0)) := (b6.block _ (by simp; omega)).trans (heap_setCell_same _ _ _ _ _ _ HO5.out)
  have sz6 : w.heap.size + 3 ≤ w6.heap.size := by have := b6.size; simp at this; omega
  have hk3' : w.heap.size + 3 ≤ k3 := by simp at hk3; omega
  have R0_6 : Hid (w6.heap[k0]? = some (.cells (h.envs.flatMap celCells).toArray 59 (0, 0))) := (b6.block _ (by have := (Array.getElem?_eq_some_iff.1 R0_5.out).1; simp; omega)).trans ((heap_setCell_other _ _ _ _ (by simp; omega)).trans R0_5.out)
  have R1_6 : Hid (w6.heap[k1]? = some (.cells (h.clos.flatMap clqCells).toArray 61 (0, 0))) := (b6.block _ (by have := (Array.getElem?_eq_some_iff.1 R1_5.out).1; simp; omega)).trans ((heap_setCell_other _ _ _ _ (by simp; omega)).trans R1_5.out)
  have R2_6 : Hid (w6.heap[k2]? = some (.cells (h.twos.flatMap twCells).toArray 63 (0, 0))) := (b6.block _ (by have := (Array.getElem?_eq_some_iff.1 R2_5.out).1; simp; omega)).trans ((heap_setCell_other _ _ _ _ (by simp; omega)).trans R2_5.out)
  clear R0_5 R1_5 R2_5 p0_5 u0_5 uf0_5 o0_5 of0_5 p1_5 u1_5 uf1_5 o1_5 of1_5 p2_5 u2_5 uf2_5 o2_5 of2_5 p3_5 u3_5 uf3_5 o3_5 of3_5 HP5 HU5 HO5 B5
  have R3_6 : Hid (w6.heap[k3]? = some (.cells (h.refs.flatMap vlCells).toArray 42 (0, 0))) := hr3
  clear b6 hr3 hj3 hk3
  have p0_6 : w6.cell? ⟨w.heap.size, 0, none⟩ = some (.slice a0 h.envs.length c0) := (cell_of_row _ _ _ _ _ _ hp6).trans rfl
  have p1_6 : w6.cell? ⟨w.heap.size, 1, none⟩ = some (.slice a1 h.clos.length c1) := (cell_of_row _ _ _ _ _ _ hp6).trans rfl
  have p2_6 : w6.cell? ⟨w.heap.size, 2, none⟩ = some (.slice a2 h.twos.length c2) := (cell_of_row _ _ _ _ _ _ hp6).trans rfl
  have p3_6 : w6.cell? ⟨w.heap.size, 3, none⟩ = some (.slice a3 h.refs.length c3) := (cell_of_row _ _ _ _ _ _ hp6).trans rfl
  have u0_6 : w6.cell? ⟨w.heap.size + 1, 0, none⟩ = some (.slice none 0 0) := (cell_of_row _ _ _ _ _ _ hu6).trans rfl
  have uf0_6 : w6.frozen? ⟨w.heap.size + 1, 0, none⟩ = false := frozen_of_row w6 _ _ _ _ hu6
  have u1_6 : w6.cell? ⟨w.heap.size + 1, 1, none⟩ = some (.slice none 0 0) := (cell_of_row _ _ _ _ _ _ hu6).trans rfl
  have uf1_6 : w6.frozen? ⟨w.heap.size + 1, 1, none⟩ = false := frozen_of_row w6 _ _ _ _ hu6
  have u2_6 : w6.cell? ⟨w.heap.size + 1, 2, none⟩ = some (.slice none 0 0) := (cell_of_row _ _ _ _ _ _ hu6).trans rfl
  have uf2_6 : w6.frozen? ⟨w.heap.size + 1, 2, none⟩ = false := frozen_of_row w6 _ _ _ _ hu6
  have u3_6 : w6.cell? ⟨w.heap.size + 1, 3, none⟩ = some (.slice none 0 0) := (cell_of_row _ _ _ _ _ _ hu6).trans rfl
  have uf3_6 : w6.frozen? ⟨w.heap.size + 1, 3, none⟩ = false := frozen_of_row w6 _ _ _ _ hu6
  have o0_6 : w6.cell? ⟨w.heap.size + 1 + 1, 0, none⟩ = some (.slice (some ⟨k0, 0, none⟩) h.envs.length h.envs.length) := (cell_of_row _ _ _ _ _ _ ho6).trans rfl
  have of0_6 : w6.frozen? ⟨w.heap.size + 1 + 1, 0, none⟩ = false := frozen_of_row w6 _ _ _ _ ho6
  have o1_6 : w6.cell? ⟨w.heap.size + 1 + 1, 1, none⟩ = some (.slice (some ⟨k1, 0, none⟩) h.clos.length h.clos.length) := (cell_of_row _ _ _ _ _ _ ho6).trans rfl
  have of1_6 : w6.frozen? ⟨w.heap.size + 1 + 1, 1, none⟩ = false := frozen_of_row w6 _ _ _ _ ho6
  have o2_6 : w6.cell? ⟨w.heap.size + 1 + 1, 2, none⟩ = some (.slice (some ⟨k2, 0, none⟩) h.twos.length h.twos.length) := (cell_of_row _ _ _ _ _ _ ho6).trans rfl
  have of2_6 : w6.frozen? ⟨w.heap.size + 1 + 1, 2, none⟩ = false := frozen_of_row w6 _ _ _ _ ho6
  have o3_6 : w6.cell? ⟨w.heap.size + 1 + 1, 3, none⟩ = some (.slice none 0 0) := (cell_of_row _ _ _ _ _ _ ho6).trans rfl
  have of3_6 : w6.frozen? ⟨w.heap.size + 1 + 1, 3, none⟩ = false := frozen_of_row w6 _ _ _ _ ho6
  have HP6 : Hid (w6.heap[w.heap.size]? = some (.cells #[.slice a0 h.envs.length c0, .slice a1 h.clos.length c1, .slice a2 h.twos.length c2, .slice a3 h.refs.length c3] 27 (0, 0))) := hp6
  have HU6 : Hid (w6.heap[w.heap.size + 1]? = some (.cells #[.slice none 0 0, .slice none 0 0, .slice none 0 0, .slice none 0 0] 35 (0, 0))) := hu6
  have HO6 : Hid (w6.heap[w.heap.size + 1 + 1]? = some (.cells #[.slice (some ⟨k0, 0, none⟩) h.envs.length h.envs.length, .slice (some ⟨k1, 0, none⟩) h.clos.length h.clos.length, .slice (some ⟨k2, 0, none⟩) h.twos.length h.twos.length, .slice none 0 0] 35 (0, 0))) := ho6
  clear hp6 hu6 ho6
  go_wp2
  (try simp only [Exit.inBlock, Exit.then])
  refine bodyPost_ret (results_cell_row rfl _ _ (w.heap.size + 1) 35 #[.slice (some ⟨k0, 0, none⟩) h.envs.length h.envs.length, .slice (some ⟨k1, 0, none⟩) h.clos.length h.clos.length, .slice (some ⟨k2, 0, none⟩) h.twos.length h.twos.length, .slice (some ⟨k3, 0, none⟩) h.refs.length h.refs.length] (0, 0) _ rfl ?_ Try.underlying35 rfl (by kernel_rfl)) rfl ?_
  · exact heap_setCell_same _ _ _ _ _ _ (heap_setCell_same _ _ _ _ _ _ (heap_setCell_same _ _ _ _ _ _ (heap_setCell_same _ _ _ _ _ _ ((heap_setCell_other _ _ _ _ (by simp)).trans HU6.out))))
  · exact ⟨k0, k1, k2, k3, rfl, ⟨fun _ => rfl, l0, cel_of_room ((heap_setCell_other _ _ _ _ (by simp; omega)).trans ((heap_setCell_other _ _ _ _ (by simp; omega)).trans ((heap_setCell_other _ _ _ _ (by simp; omega)).trans ((heap_setCell_other _ _ _ _ (by simp; omega)).trans ((heap_setCell_other _ _ _ _ (by simp; omega)).trans (R0_6.out)))))), fun _ => rfl, l1, clq_of_room ((heap_setCell_other _ _ _ _ (by simp; omega)).trans ((heap_setCell_other _ _ _ _ (by simp; omega)).trans ((heap_setCell_other _ _ _ _ (by simp; omega)).trans ((heap_setCell_other _ _ _ _ (by simp; omega)).trans ((heap_setCell_other _ _ _ _ (by simp; omega)).trans (R1_6.out)))))), fun _ => rfl, l2, tw_of_room ((heap_setCell_other _ _ _ _ (by simp; omega)).trans ((heap_setCell_other _ _ _ _ (by simp; omega)).trans ((heap_setCell_other _ _ _ _ (by simp; omega)).trans ((heap_setCell_other _ _ _ _ (by simp; omega)).trans ((heap_setCell_other _ _ _ _ (by simp; omega)).trans (R2_6.out)))))), fun _ => rfl, l3, vl_of_room ((heap_setCell_other _ _ _ _ (by simp; omega)).trans ((heap_setCell_other _ _ _ _ (by simp; omega)).trans ((heap_setCell_other _ _ _ _ (by simp; omega)).trans ((heap_setCell_other _ _ _ _ (by simp; omega)).trans ((heap_setCell_other _ _ _ _ (by simp; omega)).trans (R3_6.out))))))⟩, (Below.setCell (p := ⟨w.heap.size + 1, 3, none⟩) (Below.setCell (p := ⟨w.heap.size + 1, 2, none⟩) (Below.setCell (p := ⟨w.heap.size + 1, 1, none⟩) (Below.setCell (p := ⟨w.heap.size + 1, 0, none⟩) (Below.setCell (p := ⟨w.heap.size + 1 + 1, 3, none⟩) B6.out (by simp; omega) _) (by simp) _) (by simp) _) (by simp) _) (by simp) _)⟩

set_option maxRecDepth 20000 in
theorem hp_eq (a0 a1 a2 a3 b0 b1 b2 b3 : Option Addr) (g0 g1 g2 g3 k0 k1 k2 k3 c0 c1 c2 c3 d0 d1 d2 d3 : Nat) (h : Hq) (w : World) (hA : HpAt w a0 a1 a2 a3 g0 g1 g2 g3 h) (hB : HpAt w b0 b1 b2 b3 k0 k1 k2 k3 h) :
    Calls Try.prog 10 #[.agg #[.slice a0 h.envs.length c0, .slice a1 h.clos.length c1, .slice a2 h.twos.length c2, .slice a3 h.refs.length c3], .agg #[.slice b0 h.envs.length d0, .slice b1 h.clos.length d1, .slice b2 h.twos.length d2, .slice b3 h.refs.length d3]] w fun e w' => e = .returned (.bool true) ∧ Below w.heap.size w w' := by
  have HA : Hid (HpAt w a0 a1 a2 a3 g0 g1 g2 g3 h) := hA
  have HB : Hid (HpAt w b0 b1 b2 b3 k0 k1 k2 k3 h) := hB
  clear hA hB
  go_enter Try.func10, Try.ntmps10
  go_wp2_with fail
  refine (cel_eq_row _ _ g0 k0 _ _ h.envs HA.out.l0 HA.out.e0 HB.out.e0 _ (HA.out.below (((Below.refl _ w).alloc (Nat.le_refl _) _).alloc (by simp) _) (Nat.le_refl _)).r0 (HB.out.below (((Below.refl _ w).alloc (Nat.le_refl _) _).alloc (by simp) _) (Nat.le_refl _)).r0).mono ?_
  rintro e v1 ⟨rfl, q1⟩
  have B1 : Hid (Below w.heap.size w v1) := (((Below.refl _ w).alloc (Nat.le_refl _) _).alloc (by simp) _).trans (q1.mono (by simp; omega))
  have hp1 : v1.heap[w.heap.size]? = some (.cells #[.slice a0 h.envs.length c0, .slice a1 h.clos.length c1, .slice a2 h.twos.length c2, .slice a3 h.refs.length c3] 35 (0, 0)) := by
    rw [q1.block _ (by simp; omega), Below.heap_alloc _ _ _ (by simp)]
    exact (MapKept.heap_alloc w _).1
  have hu1 : v1.heap[w.heap.size + 1]? = some (.cells #[.slice b0 h.envs.length d0, .slice b1 h.clos.length d1, .slice b2 h.twos.length d2, .slice b3 h.refs.length d3] 35 (0, 0)) := by
    rw [q1.block _ (by simp)]
    have := (MapKept.heap_alloc (w.alloc (.cells #[.slice a0 h.envs.length c0, .slice a1 h.clos.length c1, .slice a2 h.twos.length c2, .slice a3 h.refs.length c3] 35)) (.cells #[.slice b0 h.envs.length d0, .slice b1 h.clos.length d1, .slice b2 h.twos.length d2, .slice b3 h.refs.length d3] 35)).1
    simpa using this
  have sz1 : w.heap.size + 2 ≤ v1.heap.size := by have := q1.size; simp at this; omega
  clear q1
  have p0_1 : v1.cell? ⟨w.heap.size, 0, none⟩ = some (.slice a0 h.envs.length c0) := (cell_of_row _ _ _ _ _ _ hp1).trans rfl
  have p1_1 : v1.cell? ⟨w.heap.size, 1, none⟩ = some (.slice a1 h.clos.length c1) := (cell_of_row _ _ _ _ _ _ hp1).trans rfl
  have p2_1 : v1.cell? ⟨w.heap.size, 2, none⟩ = some (.slice a2 h.twos.length c2) := (cell_of_row _ _ _ _ _ _ hp1).trans rfl
  have p3_1 : v1.cell? ⟨w.heap.size, 3, none⟩ = some (.slice a3 h.refs.length c3) := (cell_of_row _ _ _ _ _ _ hp1).trans rfl
  have u0_1 : v1.cell? ⟨w.heap.size + 1, 0, none⟩ = some (.slice b0 h.envs.length d0) := (cell_of_row _ _ _ _ _ _ hu1).trans rfl
  have u1_1 : v1.cell? ⟨w.heap.size + 1, 1, none⟩ = some (.slice b1 h.clos.length d1) := (cell_of_row _ _ _ _ _ _ hu1).trans rfl
  have u2_1 : v1.cell? ⟨w.heap.size + 1, 2, none⟩ = some (.slice b2 h.twos.length d2) := (cell_of_row _ _ _ _ _ _ hu1).trans rfl
  have u3_1 : v1.cell? ⟨w.heap.size + 1, 3, none⟩ = some (.slice b3 h.refs.length d3) := (cell_of_row _ _ _ _ _ _ hu1).trans rfl
  have HP1 : Hid (v1.heap[w.heap.size]? = some (.cells #[.slice a0 h.envs.length c0, .slice a1 h.clos.length c1, .slice a2 h.twos.length c2, .slice a3 h.refs.length c3] 35 (0, 0))) := hp1
  have HU1 : Hid (v1.heap[w.heap.size + 1]? = some (.cells #[.slice b0 h.envs.length d0, .slice b1 h.clos.length d1, .slice b2 h.twos.length d2, .slice b3 h.refs.length d3] 35 (0, 0))) := hu1
  clear hp1 hu1
  go_wp2_with fail
  refine (clq_eq_row _ _ g1 k1 _ _ h.clos HA.out.l1 HA.out.e1 HB.out.e1 _ (HA.out.below B1.out (Nat.le_refl _)).r1 (HB.out.below B1.out (Nat.le_refl _)).r1).mono ?_
  rintro e v2 ⟨rfl, q2⟩
  have B2 : Hid (Below w.heap.size w v2) := B1.out.trans (q2.mono (by omega))
  have hp2 : v2.heap[w.heap.size]? = some (.cells #[.slice a0 h.envs.length c0, .slice a1 h.clos.length c1, .slice a2 h.twos.length c2, .slice a3 h.refs.length c3] 35 (0, 0)) := (q2.block _ (by omega)).trans HP1.out
  have hu2 : v2.heap[w.heap.size + 1]? = some (.cells #[.slice b0 h.envs.length d0, .slice b1 h.clos.length d1, .slice b2 h.twos.length d2, .slice b3 h.refs.length d3] 35 (0, 0)) := (q2.block _ (by omega)).trans HU1.out
  have sz2 : w.heap.size + 2 ≤ v2.heap.size := by have := q2.size; omega
  clear p0_1 u0_1 p1_1 u1_1 p2_1 u2_1 p3_1 u3_1 HP1 HU1
  clear q2
  have p0_2 : v2.cell? ⟨w.heap.size, 0, none⟩ = some (.slice a0 h.envs.length c0) := (cell_of_row _ _ _ _ _ _ hp2).trans rfl
  have p1_2 : v2.cell? ⟨w.heap.size, 1, none⟩ = some (.slice a1 h.clos.length c1) := (cell_of_row _ _ _ _ _ _ hp2).trans rfl
  have p2_2 : v2.cell? ⟨w.heap.size, 2, none⟩ = some (.slice a2 h.twos.length c2) := (cell_of_row _ _ _ _ _ _ hp2).trans rfl
  have p3_2 : v2.cell? ⟨w.heap.size, 3, none⟩ = some (.slice a3 h.refs.length c3) := (cell_of_row _ _ _ _ _ _ hp2).trans rfl
  have u0_2 : v2.cell? ⟨w.heap.size + 1, 0, none⟩ = some (.slice b0 h.envs.length d0) := (cell_of_row _ _ _ _ _ _ hu2).trans rfl
  have u1_2 : v2.cell? ⟨w.heap.size + 1, 1, none⟩ = some (.slice b1 h.clos.length d1) := (cell_of_row _ _ _ _ _ _ hu2).trans rfl
  have u2_2 : v2.cell? ⟨w.heap.size + 1, 2, none⟩ = some (.slice b2 h.twos.length d2) := (cell_of_row _ _ _ _ _ _ hu2).trans rfl
  have u3_2 : v2.cell? ⟨w.heap.size + 1, 3, none⟩ = some (.slice b3 h.refs.length d3) := (cell_of_row _ _ _ _ _ _ hu2).trans rfl
  have HP2 : Hid (v2.heap[w.heap.size]? = some (.cells #[.slice a0 h.envs.length c0, .slice a1 h.clos.length c1, .slice a2 h.twos.length c2, .slice a3 h.refs.length c3] 35 (0, 0))) := hp2
  have HU2 : Hid (v2.heap[w.heap.size + 1]? = some (.cells #[.slice b0 h.envs.length d0, .slice b1 h.clos.length d1, .slice b2 h.twos.length d2, .slice b3 h.refs.length d3] 35 (0, 0))) := hu2
  clear hp2 hu2
  go_wp2_with fail
  refine (tw_eq_row _ _ g2 k2 _ _ h.twos HA.out.l2 HA.out.e2 HB.out.e2 _ (HA.out.below B2.out (Nat.le_refl _)).r2 (HB.out.below B2.out (Nat.le_refl _)).r2).mono ?_
  rintro e v3 ⟨rfl, q3⟩
  have B3 : Hid (Below w.heap.size w v3) := B2.out.trans (q3.mono (by omega))
  have hp3 : v3.heap[w.heap.size]? = some (.cells #[.slice a0 h.envs.length c0, .slice a1 h.clos.length c1, .slice a2 h.twos.length c2, .slice a3 h.refs.length c3] 35 (0, 0)) := (q3.block _ (by omega)).trans HP2.out
  have hu3 : v3.heap[w.heap.size + 1]? = some (.cells #[.slice b0 h.envs.length d0, .slice b1 h.clos.length d1, .slice b2 h.twos.length d2, .slice b3 h.refs.length d3] 35 (0, 0)) := (q3.block _ (by omega)).trans HU2.out
  have sz3 : w.heap.size + 2 ≤ v3.heap.size := by have := q3.size; omega
  clear p0_2 u0_2 p1_2 u1_2 p2_2 u2_2 p3_2 u3_2 HP2 HU2
  clear q3
  have p0_3 : v3.cell? ⟨w.heap.size, 0, none⟩ = some (.slice a0 h.envs.length c0) := (cell_of_row _ _ _ _ _ _ hp3).trans rfl
  have p1_3 : v3.cell? ⟨w.heap.size, 1, none⟩ = some (.slice a1 h.clos.length c1) := (cell_of_row _ _ _ _ _ _ hp3).trans rfl
  have p2_3 : v3.cell? ⟨w.heap.size, 2, none⟩ = some (.slice a2 h.twos.length c2) := (cell_of_row _ _ _ _ _ _ hp3).trans rfl
  have p3_3 : v3.cell? ⟨w.heap.size, 3, none⟩ = some (.slice a3 h.refs.length c3) := (cell_of_row _ _ _ _ _ _ hp3).trans rfl
  have u0_3 : v3.cell? ⟨w.heap.size + 1, 0, none⟩ = some (.slice b0 h.envs.length d0) := (cell_of_row _ _ _ _ _ _ hu3).trans rfl
  have u1_3 : v3.cell? ⟨w.heap.size + 1, 1, none⟩ = some (.slice b1 h.clos.length d1) := (cell_of_row _ _ _ _ _ _ hu3).trans rfl
  have u2_3 : v3.cell? ⟨w.heap.size + 1, 2, none⟩ = some (.slice b2 h.twos.length d2) := (cell_of_row _ _ _ _ _ _ hu3).trans rfl
  have u3_3 : v3.cell? ⟨w.heap.size + 1, 3, none⟩ = some (.slice b3 h.refs.length d3) := (cell_of_row _ _ _ _ _ _ hu3).trans rfl
  have HP3 : Hid (v3.heap[w.heap.size]? = some (.cells #[.slice a0 h.envs.length c0, .slice a1 h.clos.length c1, .slice a2 h.twos.length c2, .slice a3 h.refs.length c3] 35 (0, 0))) := hp3
  have HU3 : Hid (v3.heap[w.heap.size + 1]? = some (.cells #[.slice b0 h.envs.length d0, .slice b1 h.clos.length d1, .slice b2 h.twos.length d2, .slice b3 h.refs.length d3] 35 (0, 0))) := hu3
  clear hp3 hu3
  go_wp2_with fail
  refine (vl_eq_row _ _ g3 k3 _ _ h.refs HA.out.l3 HA.out.e3 HB.out.e3 _ (HA.out.below B3.out (Nat.le_refl _)).r3 (HB.out.below B3.out (Nat.le_refl _)).r3).mono ?_
  rintro e v4 ⟨rfl, q4⟩
  have B4 : Hid (Below w.heap.size w v4) := B3.out.trans (q4.mono (by omega))
  have hp4 : v4.heap[w.heap.size]? = some (.cells #[.slice a0 h.envs.length c0, .slice a1 h.clos.length c1, .slice a2 h.twos.length c2, .slice a3 h.refs.length c3] 35 (0, 0)) := (q4.block _ (by omega)).trans HP3.out
  have hu4 : v4.heap[w.heap.size + 1]? = some (.cells #[.slice b0 h.envs.length d0, .slice b1 h.clos.length d1, .slice b2 h.twos.length d2, .slice b3 h.refs.length d3] 35 (0, 0)) := (q4.block _ (by omega)).trans HU3.out
  have sz4 : w.heap.size + 2 ≤ v4.heap.size := by have := q4.size; omega
  clear p0_3 u0_3 p1_3 u1_3 p2_3 u2_3 p3_3 u3_3 HP3 HU3
  clear q4
  have p0_4 : v4.cell? ⟨w.heap.size, 0, none⟩ = some (.slice a0 h.envs.length c0) := (cell_of_row _ _ _ _ _ _ hp4).trans rfl
  have p1_4 : v4.cell? ⟨w.heap.size, 1, none⟩ = some (.slice a1 h.clos.length c1) := (cell_of_row _ _ _ _ _ _ hp4).trans rfl
  have p2_4 : v4.cell? ⟨w.heap.size, 2, none⟩ = some (.slice a2 h.twos.length c2) := (cell_of_row _ _ _ _ _ _ hp4).trans rfl
  have p3_4 : v4.cell? ⟨w.heap.size, 3, none⟩ = some (.slice a3 h.refs.length c3) := (cell_of_row _ _ _ _ _ _ hp4).trans rfl
  have u0_4 : v4.cell? ⟨w.heap.size + 1, 0, none⟩ = some (.slice b0 h.envs.length d0) := (cell_of_row _ _ _ _ _ _ hu4).trans rfl
  have u1_4 : v4.cell? ⟨w.heap.size + 1, 1, none⟩ = some (.slice b1 h.clos.length d1) := (cell_of_row _ _ _ _ _ _ hu4).trans rfl
  have u2_4 : v4.cell? ⟨w.heap.size + 1, 2, none⟩ = some (.slice b2 h.twos.length d2) := (cell_of_row _ _ _ _ _ _ hu4).trans rfl
  have u3_4 : v4.cell? ⟨w.heap.size + 1, 3, none⟩ = some (.slice b3 h.refs.length d3) := (cell_of_row _ _ _ _ _ _ hu4).trans rfl
  have HP4 : Hid (v4.heap[w.heap.size]? = some (.cells #[.slice a0 h.envs.length c0, .slice a1 h.clos.length c1, .slice a2 h.twos.length c2, .slice a3 h.refs.length c3] 35 (0, 0))) := hp4
  have HU4 : Hid (v4.heap[w.heap.size + 1]? = some (.cells #[.slice b0 h.envs.length d0, .slice b1 h.clos.length d1, .slice b2 h.twos.length d2, .slice b3 h.refs.length d3] 35 (0, 0))) := hu4
  clear hp4 hu4
  go_wp2
  go_ret
  exact ⟨rfl, B4.out⟩
end Go.Proofs.Ythmfkbnfdheopaa
