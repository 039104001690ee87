/-
  The draws of programs: names and types that may be read, what is asked of a draw, and parts put together. Conditions: written at each theorem.
-/
import Derived.Test.YtobijbhgpgnfkaaGreatDoorGm
namespace Go.Proofs.YtobijbhgpgnfkaaGreatDoor
open Go.ChangeShapes Go.WideShapes Go.ChangeAt Go.RowKit
set_option linter.unusedVariables false

/-- A row of short texts that may be read. -/
def Strs (B : Nat) (w : World) (v : Value) (n : Nat) : Prop := ∃ (g cap : Nat) (ns : List ByteArray), v = .slice (some ⟨g, 0, none⟩) n cap ∧ n ≤ cap ∧ cap ≤ maxLen ∧ ns.length = n ∧ g ≠ B ∧ g < w.heap.size ∧ (∀ j, j < n → Fit9 (ns.getD j ByteArray.empty)) ∧ ∀ j, j < n → w.cell? ⟨g, j, none⟩ = some (.string (ns.getD j ByteArray.empty))

/-- A row of numbers that may be read. -/
def Ints (B : Nat) (w : World) (v : Value) (n : Nat) : Prop := ∃ (g cap : Nat) (ns : List Int), v = .slice (some ⟨g, 0, none⟩) n cap ∧ n ≤ cap ∧ cap ≤ maxLen ∧ ns.length = n ∧ g ≠ B ∧ g < w.heap.size ∧ ∀ j, j < n → w.cell? ⟨g, j, none⟩ = some (.int .i64 (ns.getD j 0))

theorem Only.grow {B : Nat} {w w' : World} (h : Only B w w') : w.heap.size ≤ w'.heap.size := h.size

theorem Strs.only {B : Nat} {w w' : World} {v : Value} {n : Nat} (h : Strs B w v n) (ho : Only B w w') : Strs B w' v n := by
  obtain ⟨g, cap, ns, h1, h2, h2', h3, h4, h5, h6, h7⟩ := h
  exact ⟨g, cap, ns, h1, h2, h2', h3, h4, by have := ho.grow; omega, h6, fun j hj => (ho.cell (p := ⟨g, j, none⟩) h5 h4).trans (h7 j hj)⟩

theorem Ints.only {B : Nat} {w w' : World} {v : Value} {n : Nat} (h : Ints B w v n) (ho : Only B w w') : Ints B w' v n := by
  obtain ⟨g, cap, ns, h1, h2, h2', h3, h4, h5, h7⟩ := h
  exact ⟨g, cap, ns, h1, h2, h2', h3, h4, by have := ho.grow; omega, fun j hj => (ho.cell (p := ⟨g, j, none⟩) h5 h4).trans (h7 j hj)⟩

/-- How deep a draw goes on yet. -/
def mu (ty deep : Int) : Nat := if deep ≤ 0 then (if ty = 0 then 0 else 1) else deep.toNat + 1

/-- What is asked of l3Gen where it goes no deeper than f. -/
def GenC (f : Nat) : Prop := ∀ (a : Option Addr) (len cap : Nat) (zs : List Int) (B : Nat) (w : World) (s : Nat × Int) (ty deep : Int) (nv tv : Value) (n : Nat), CurAt a len cap zs B w s → mu ty deep ≤ f → 2 * (f : Int) ≤ deep + 1000 → deep ≤ 100 → n + 2 * f ≤ 60 → f ≤ 7 → Strs B w nv n → Ints B w tv n →
  Calls Tryz.prog 96 #[.pointer (some ⟨B, 0, none⟩), .int .i64 ty, .int .i64 deep, nv, tv] w (DrawEnd a len cap zs B w (4 ^ f))

theorem below_some {a : Option Addr} {len cap : Nat} {zs : List Int} {B : Nat} {w : World} {s : Nat × Int} (h : CurAt a len cap zs B w s) (n : Int) (h0 : 0 < n) (hn : n ≤ 2147483647) :
    Calls Tryz.prog 32 #[.pointer (some ⟨B, 0, none⟩), .int .i64 n] w fun e w' => ∃ (K : Int) (s' : Nat × Int), e = .returned (.int .i64 K) ∧ 0 ≤ K ∧ K < n ∧ CurAt a len cap zs B w' s' ∧ Only B w w' := by
  have hr := belowV_range (zs := zs) (len := len) n s h0
  refine (below_at h n hn).mono ?_
  rintro e w' ⟨rfl, c, o⟩
  exact ⟨_, _, rfl, hr.1, hr.2, c, o⟩

theorem once_some {a : Option Addr} {len cap : Nat} {zs : List Int} {B : Nat} {w : World} {s : Nat × Int} (h : CurAt a len cap zs B w s) (n : Int) (hn : n ≤ 2147483647) :
    Calls Tryz.prog 63 #[.pointer (some ⟨B, 0, none⟩), .int .i64 n] w fun e w' => ∃ (b : Bool) (s' : Nat × Int), e = .returned (.bool b) ∧ CurAt a len cap zs B w' s' ∧ Only B w w' := by
  refine (once_at h n hn).mono ?_
  rintro e w' ⟨rfl, c, o⟩
  exact ⟨_, _, rfl, c, o⟩

theorem trim_node {k x : Int} {s o : ByteArray} (hs : Fit9 s) (ho : Fit9 o) : Trim1 ⟨k, 0, 0, 0, x, s, o⟩ := ⟨hs, ho⟩

theorem make1 (n : Nod) (hn : Trim1 n) (w : World) (base : Nat) (v1 : Value) (l1 : List Nod) (h1 : ownNod w base v1 l1) (p1 : 0 < l1.length) (t1 : Trim l1) (hl : l1.length ≤ 100000) :
    Calls Tryz.prog 95 #[nodAgg n, .slice (some ⟨w.heap.size, 0, none⟩) 1 1] (w.alloc (.cells #[v1] 24)) fun e w' => ∃ (v : Value) (l : List Nod), e = .returned v ∧ ownNod w' w.heap.size v l ∧ l.length = l1.length + 1 ∧ Trim l ∧ Below w.heap.size w w' := by
  have hw := ownNod_kept h1 ((Below.refl _ w).alloc (Nat.le_refl _) (.cells #[v1] 24)) (Nat.le_refl _)
  refine (make_at n hn w.heap.size [(v1, l1)] base _ (MapKept.heap_alloc w _).1 (fun i hi => by
    have : i = 0 := by simp at hi; omega
    subst this
    exact ⟨hw, p1, t1⟩) (by simp [partsLen]; omega) (by simp)).mono ?_
  rintro e w' ⟨v, l, rfl, ho, hl2, ht, hb⟩
  have e1 : ∀ o, w.heap.size ≤ (w.alloc o).heap.size := fun o => by simp
  refine ⟨v, l, rfl, ownNod_base ho (e1 _), by rw [hl2]; simp [partsLen], ht, ((Below.refl _ w).alloc (Nat.le_refl _) _).trans (hb.mono (e1 _))⟩

theorem make2 (n : Nod) (hn : Trim1 n) (w : World) (base : Nat) (v1 v2 : Value) (l1 l2 : List Nod) (h1 : ownNod w base v1 l1) (h2 : ownNod w base v2 l2) (p1 : 0 < l1.length) (p2 : 0 < l2.length) (t1 : Trim l1) (t2 : Trim l2) (hl : l1.length + l2.length ≤ 100000) :
    Calls Tryz.prog 95 #[nodAgg n, .slice (some ⟨w.heap.size, 0, none⟩) 2 2] (w.alloc (.cells #[v1, v2] 24)) fun e w' => ∃ (v : Value) (l : List Nod), e = .returned v ∧ ownNod w' w.heap.size v l ∧ l.length = l1.length + l2.length + 1 ∧ Trim l ∧ Below w.heap.size w w' := by
  have hb0 := (Below.refl _ w).alloc (Nat.le_refl _) (.cells #[v1, v2] 24)
  refine (make_at n hn w.heap.size [(v1, l1), (v2, l2)] base _ (MapKept.heap_alloc w _).1 (fun i hi => by
    have : i = 0 ∨ i = 1 := by simp at hi; omega
    rcases this with rfl | rfl
    · exact ⟨ownNod_kept h1 hb0 (Nat.le_refl _), p1, t1⟩
    · exact ⟨ownNod_kept h2 hb0 (Nat.le_refl _), p2, t2⟩) (by simp [partsLen]; omega) (by simp)).mono ?_
  rintro e w' ⟨v, l, rfl, ho, hl2, ht, hb⟩
  have e1 : ∀ o, w.heap.size ≤ (w.alloc o).heap.size := fun o => by simp
  refine ⟨v, l, rfl, ownNod_base ho (e1 _), by rw [hl2]; simp [partsLen], ht, ((Below.refl _ w).alloc (Nat.le_refl _) _).trans (hb.mono (e1 _))⟩

theorem make3 (n : Nod) (hn : Trim1 n) (w : World) (base : Nat) (v1 v2 v3 : Value) (l1 l2 l3 : List Nod) (h1 : ownNod w base v1 l1) (h2 : ownNod w base v2 l2) (h3 : ownNod w base v3 l3) (p1 : 0 < l1.length) (p2 : 0 < l2.length) (p3 : 0 < l3.length) (t1 : Trim l1) (t2 : Trim l2) (t3 : Trim l3) (hl : l1.length + l2.length + l3.length ≤ 100000) :
    Calls Tryz.prog 95 #[nodAgg n, .slice (some ⟨w.heap.size, 0, none⟩) 3 3] (w.alloc (.cells #[v1, v2, v3] 24)) fun e w' => ∃ (v : Value) (l : List Nod), e = .returned v ∧ ownNod w' w.heap.size v l ∧ l.length = l1.length + l2.length + l3.length + 1 ∧ Trim l ∧ Below w.heap.size w w' := by
  have hb0 := (Below.refl _ w).alloc (Nat.le_refl _) (.cells #[v1, v2, v3] 24)
  refine (make_at n hn w.heap.size [(v1, l1), (v2, l2), (v3, l3)] base _ (MapKept.heap_alloc w _).1 (fun i hi => by
    have : i = 0 ∨ i = 1 ∨ i = 2 := by simp at hi; omega
    rcases this with rfl | rfl | rfl
    · exact ⟨ownNod_kept h1 hb0 (Nat.le_refl _), p1, t1⟩
    · exact ⟨ownNod_kept h2 hb0 (Nat.le_refl _), p2, t2⟩
    · exact ⟨ownNod_kept h3 hb0 (Nat.le_refl _), p3, t3⟩) (by simp [partsLen]; omega) (by simp)).mono ?_
  rintro e w' ⟨v, l, rfl, ho, hl2, ht, hb⟩
  have e1 : ∀ o, w.heap.size ≤ (w.alloc o).heap.size := fun o => by simp
  refine ⟨v, l, rfl, ownNod_base ho (e1 _), by rw [hl2]; simp [partsLen]; omega, ht, ((Below.refl _ w).alloc (Nat.le_refl _) _).trans (hb.mono (e1 _))⟩

/-- The end of a draw. -/
theorem draw_end {a : Option Addr} {len cap : Nat} {zs : List Int} {B : Nat} {w w1 w2 : World} {s : Nat × Int} {most : Nat} {v : Value} {l : List Nod} (h1 : Only B w w1) (hc : CurAt a len cap zs B w1 s) (hb : Below w1.heap.size w1 w2) (ho : ownNod w2 w1.heap.size v l) (hp : 0 < l.length) (hm : l.length ≤ most) (ht : Trim l) :
    DrawEnd a len cap zs B w most (.returned v) w2 :=
  ⟨v, l, s, rfl, ownNod_base ho h1.grow, hp, hm, ht, curAt_below hc hb hc.size, h1.trans (Only.of_below hb)⟩

theorem DrawEnd.more {a : Option Addr} {len cap : Nat} {zs : List Int} {B : Nat} {w w1 : World} {most most' : Nat} {e : Ending} {w2 : World} (h1 : Only B w w1) (h : DrawEnd a len cap zs B w1 most e w2) (hm : most ≤ most') : DrawEnd a len cap zs B w most' e w2 := by
  obtain ⟨v, l, s', he, ho, hp, hl, ht, hc, hn⟩ := h
  exact ⟨v, l, s', he, ownNod_base ho h1.grow, hp, by omega, ht, hc, h1.trans hn⟩

/-- One node that was made. -/
theorem one_end {a : Option Addr} {len cap : Nat} {zs : List Int} {B : Nat} {w w1 : World} {s : Nat × Int} {most : Nat} (t : Nod) (h1 : Only B w w1) (hc : CurAt a len cap zs B w1 s) (hm : 1 ≤ most) (ht : Trim1 t) :
    DrawEnd a len cap zs B w most (.returned (.slice (some ⟨w1.heap.size, 0, none⟩) 1 1)) (w1.alloc (.cells (nodCells t).toArray 58)) :=
  draw_end h1 hc ((Below.refl _ w1).alloc (Nat.le_refl _) _) (own_single t (Nat.le_refl _)) (by simp) (by simpa using hm) (good_one ht)
end Go.Proofs.YtobijbhgpgnfkaaGreatDoor
