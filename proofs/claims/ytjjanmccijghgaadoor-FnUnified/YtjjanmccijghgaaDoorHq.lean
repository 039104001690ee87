/-
  The draws of tables of types. Conditions: written at each theorem.
-/
import Derived.Test.YtjjanmccijghgaaDoorCn
import Derived.Test.YtjjanmccijghgaaDoorHi
namespace Go.Proofs.YtjjanmccijghgaaDoor
open Go.ChangeShapes Go.WideShapes Go.ChangeAt Go.RowKit
set_option linter.unusedVariables false

theorem belowT {a : Option Addr} {len cap : Nat} {zs : List Int} {B : Nat} {w : World} {s : Nat × Int} (h : CurAt a len cap zs B w s) (n : Int) (h0 : 0 < n) (hn : n ≤ 2147483647) :
    Calls Tryd.prog 25 #[.pointer (some ⟨B, 0, none⟩), .int .i64 n] w fun e w' => ∃ (K : Nat) (s' : Nat × Int), e = .returned (.int .i64 K) ∧ (K : Int) < n ∧ CurAt a len cap zs B w' s' ∧ Only B w w' := by
  have hr := belowV_range (zs := zs) (len := len) n s h0
  refine (below_at h n hn).mono ?_
  rintro e w' ⟨rfl, c, o⟩
  obtain ⟨K, hK⟩ := Int.eq_ofNat_of_zero_le hr.1
  exact ⟨K, _, by rw [hK], by have := hr.2; rw [hK] at this; exact this, c, o⟩

theorem onceT {a : Option Addr} {len cap : Nat} {zs : List Int} {B : Nat} {w : World} {s : Nat × Int} (h : CurAt a len cap zs B w s) (n : Int) (hn : n ≤ 2147483647) :
    Calls Tryd.prog 26 #[.pointer (some ⟨B, 0, none⟩), .int .i64 n] w fun e w' => ∃ (b : Bool) (s' : Nat × Int), e = .returned (.bool b) ∧ CurAt a len cap zs B w' s' ∧ Only B w w' := by
  refine (once_at h n hn).mono ?_
  rintro e w' ⟨rfl, c, o⟩
  exact ⟨_, _, rfl, c, o⟩

def SmB (t : Typ) : Prop := -1000 ≤ t.b ∧ t.b ≤ 1000
def AnyB (t : Typ) : Prop := True

/-- A slice of n types of the call's own, each of them such a one. -/
def TabO (P : Typ → Prop) (N : Nat) (w : World) (v : Value) (n : Nat) : Prop :=
  ∃ (g cap : Nat) (l : List Typ), v = .slice (some ⟨g, 0, none⟩) n cap ∧ l.length = n ∧ (∀ t ∈ l, P t) ∧ w.ownsRow N 35 3 v n (l.flatMap typCells)

theorem ownsRow_only {N B : Nat} {w w' : World} {v : Value} {n : Nat} {e : TypeId} {k : Nat} {xs : List Value} (h : w.ownsRow N e k v n xs) (ho : Only B w w') (hB : B < N) : w'.ownsRow N e k v n xs := by
  refine ⟨h.1, ?_⟩
  rcases h.2 with hn | ⟨g, cap, cur, hv, hbg, hg, rest⟩
  · exact Or.inl hn
  · exact Or.inr ⟨g, cap, cur, hv, hbg, (ho.block g (Array.getElem?_eq_some_iff.1 hg).1 (by omega)).trans hg, rest⟩

theorem TabO.only {P : Typ → Prop} {N B : Nat} {w w' : World} {v : Value} {n : Nat} (h : TabO P N w v n) (ho : Only B w w') (hB : B < N) : TabO P N w' v n := by
  obtain ⟨g, cap, l, hv, hl, hb, hr⟩ := h
  exact ⟨g, cap, l, hv, hl, hb, ownsRow_only hr ho hB⟩

theorem Only.trans_low {B : Nat} {w w1 w2 : World} (h : Only B w w1) (hb : Below w.heap.size w1 w2) : Only B w w2 :=
  ⟨hb.os.trans h.os, hb.tape.trans h.tape, hb.output.trans h.output, Nat.le_trans h.size hb.size, fun k hk hkB => (hb.block k hk).trans (h.block k hk hkB)⟩

/-- Behind so much of a draw. -/
structure DrT (P : Typ → Prop) (a : Option Addr) (len cap : Nat) (zs : List Int) (B : Nat) (w : World) (v : Value) (n : Nat) (w' : World) : Prop where
  tab : TabO P w.heap.size w' v n
  cur : ∃ s, CurAt a len cap zs B w' s
  only : Only B w w'
  lt : B < w.heap.size

section
variable {P : Typ → Prop} {a : Option Addr} {len cap : Nat} {zs : List Int} {B : Nat} {w w1 w2 : World} {v : Value} {n : Nat}

theorem DrT.below (h : DrT P a len cap zs B w v n w1) (hb : Below w1.heap.size w1 w2) : DrT P a len cap zs B w v n w2 := by
  obtain ⟨s, hc⟩ := h.cur
  exact ⟨h.tab.only (Only.of_below hb) h.lt, ⟨s, curAt_below hc hb hc.size⟩, h.only.trans (Only.of_below hb), h.lt⟩

theorem DrT.draw (h : DrT P a len cap zs B w v n w1) (m : Int) (h0 : 0 < m) (hm : m ≤ 2147483647) :
    Calls Tryd.prog 25 #[.pointer (some ⟨B, 0, none⟩), .int .i64 m] w1 fun e w' => ∃ K : Nat, e = .returned (.int .i64 K) ∧ (K : Int) < m ∧ DrT P a len cap zs B w v n w' ∧ Only B w1 w' := by
  obtain ⟨s, hc⟩ := h.cur
  refine (belowT hc m h0 hm).mono ?_
  rintro e w' ⟨K, s', rfl, hK, c, o⟩
  exact ⟨K, rfl, hK, ⟨h.tab.only o h.lt, ⟨s', c⟩, h.only.trans o, h.lt⟩, o⟩

theorem DrT.once (h : DrT P a len cap zs B w v n w1) (m : Int) (hm : m ≤ 2147483647) :
    Calls Tryd.prog 26 #[.pointer (some ⟨B, 0, none⟩), .int .i64 m] w1 fun e w' => ∃ b : Bool, e = .returned (.bool b) ∧ DrT P a len cap zs B w v n w' ∧ Only B w1 w' := by
  obtain ⟨s, hc⟩ := h.cur
  refine (onceT hc m hm).mono ?_
  rintro e w' ⟨b, s', rfl, c, o⟩
  exact ⟨b, rfl, ⟨h.tab.only o h.lt, ⟨s', c⟩, h.only.trans o, h.lt⟩, o⟩

theorem DrT.size (h : DrT P a len cap zs B w v n w1) : w.heap.size ≤ w1.heap.size := h.only.size
end

/-- A type in a block of its own. -/
def XB (w : World) (X : Nat) (t : Typ) : Prop := w.heap[X]? = some (.cells (typCells t).toArray 35 (0, 0))

section
variable {w w' : World} {X : Nat} {t : Typ}
theorem XB.c0 (h : XB w X t) : w.cell? ⟨X, 0, none⟩ = some (.int .i64 t.kind) := by rw [cell_of_row _ _ _ _ _ _ h]; rfl
theorem XB.c1 (h : XB w X t) : w.cell? ⟨X, 1, none⟩ = some (.int .i64 t.a) := by rw [cell_of_row _ _ _ _ _ _ h]; rfl
theorem XB.c2 (h : XB w X t) : w.cell? ⟨X, 2, none⟩ = some (.int .i64 t.b) := by rw [cell_of_row _ _ _ _ _ _ h]; rfl
theorem XB.fz (h : XB w X t) (j : Nat) : w.frozen? ⟨X, j, none⟩ = false := frozen_of_row w X j _ _ h
theorem XB.lt (h : XB w X t) : X < w.heap.size := (Array.getElem?_eq_some_iff.1 h).1
theorem XB.only {B : Nat} (h : XB w X t) (ho : Only B w w') (hB : X ≠ B) : XB w' X t := (ho.block X h.lt hB).trans h
theorem XB.set2 (h : XB w X t) (v : Int) : XB (w.setCell ⟨X, 2, none⟩ (.int .i64 v)) X ⟨t.kind, t.a, v⟩ := by
  unfold XB at h ⊢
  rw [heap_setCell_same _ _ _ _ _ _ h]
  simp [typCells]
theorem XB.set0 (h : XB w X t) (v : Int) : XB (w.setCell ⟨X, 0, none⟩ (.int .i64 v)) X ⟨v, t.a, t.b⟩ := by
  unfold XB at h ⊢
  rw [heap_setCell_same _ _ _ _ _ _ h]
  simp [typCells]
theorem XB.set1 (h : XB w X t) (v : Int) : XB (w.setCell ⟨X, 1, none⟩ (.int .i64 v)) X ⟨t.kind, v, t.b⟩ := by
  unfold XB at h ⊢
  rw [heap_setCell_same _ _ _ _ _ _ h]
  simp [typCells]
theorem XB.new (w : World) (x y z : Int) : XB (w.alloc (.cells #[.int .i64 x, .int .i64 y, .int .i64 z] 35)) w.heap.size ⟨x, y, z⟩ := by
  unfold XB
  rw [(MapKept.heap_alloc w _).1]
  rfl
end

theorem below_set {C : Nat} (w : World) (X j : Nat) (v : Value) (h : C ≤ X) : Below C w (w.setCell ⟨X, j, none⟩ v) :=
  (Below.refl C w).setCell (p := ⟨X, j, none⟩) h v

theorem ownsRow_set {w : World} {N X j g n kc : Nat} {e : TypeId} {k : Nat} {xs : List Value} {u : Value} (h : w.ownsRow N e k (.slice (some ⟨g, 0, none⟩) n kc) n xs) (hg : X ≠ g) : (w.setCell ⟨X, j, none⟩ u).ownsRow N e k (.slice (some ⟨g, 0, none⟩) n kc) n xs := by
  refine ⟨h.1, ?_⟩
  rcases h.2 with hn | ⟨g', cap, cur, hv, hbg, hg', rest⟩
  · exact Or.inl hn
  · have hv' := hv
    injection hv with hv1 _ _
    injection hv1 with hv1
    injection hv1 with hv1
    subst hv1
    exact Or.inr ⟨g, cap, cur, hv', hbg, ((Only.set (Only.refl X w) j u).block g (Array.getElem?_eq_some_iff.1 hg').1 (Ne.symm hg)).trans hg', rest⟩

theorem DrT.setX {P : Typ → Prop} {a : Option Addr} {len cap : Nat} {zs : List Int} {B : Nat} {w w1 : World} {g kc n X : Nat} (h : DrT P a len cap zs B w (.slice (some ⟨g, 0, none⟩) n kc) n w1) (hX : w.heap.size ≤ X) (hg : X ≠ g) (j : Nat) (v : Value) : DrT P a len cap zs B w (.slice (some ⟨g, 0, none⟩) n kc) n (w1.setCell ⟨X, j, none⟩ v) := by
  obtain ⟨s, hc⟩ := h.cur
  have hb := below_set w1 X j v hX
  have hs := h.only.size
  refine ⟨?_, ⟨s, curAt_below hc hb h.lt⟩, h.only.trans_low hb, h.lt⟩
  obtain ⟨g', cap', l, hv, hl, hr, ho⟩ := h.tab
  exact ⟨g', cap', l, hv, hl, hr, ownsRow_set ho hg⟩

theorem DrT.own_lt {P : Typ → Prop} {a : Option Addr} {len cap : Nat} {zs : List Int} {B : Nat} {w w1 : World} {g kc n : Nat} (h : DrT P a len cap zs B w (.slice (some ⟨g, 0, none⟩) n kc) n w1) (hn : 0 < n) : g < w1.heap.size ∧ w.heap.size ≤ g := by
  obtain ⟨g', cap', l, hv, hl, hr, ho⟩ := h.tab
  rcases ho.2 with ⟨_, h0⟩ | ⟨g2, cap, cur, hv2, hbg, hg2, rest⟩
  · omega
  · injection hv2 with hv1 _ _
    injection hv1 with hv1
    injection hv1 with hv1
    subst hv1
    exact ⟨(Array.getElem?_eq_some_iff.1 hg2).1, hbg⟩

theorem DrT.form {P : Typ → Prop} {a : Option Addr} {len cap : Nat} {zs : List Int} {B : Nat} {w w1 : World} {v : Value} {n : Nat} (h : DrT P a len cap zs B w v n w1) : ∃ g kc, v = .slice (some ⟨g, 0, none⟩) n kc := by
  obtain ⟨g, cap, l, hv, _⟩ := h.tab
  exact ⟨g, cap, hv⟩

theorem DrT.list {P : Typ → Prop} {a : Option Addr} {len cap : Nat} {zs : List Int} {B : Nat} {w w1 : World} {v : Value} {n : Nat} (h : DrT P a len cap zs B w v n w1) : ∃ l : List Typ, l.length = n ∧ (∀ t ∈ l, P t) ∧ w1.ownsRow w.heap.size 35 3 v n (l.flatMap typCells) := by
  obtain ⟨g', cap', l, hv, hl, hr, ho⟩ := h.tab
  exact ⟨l, hl, hr, ho⟩

theorem DrT.grow {P : Typ → Prop} {a : Option Addr} {len cap : Nat} {zs : List Int} {B : Nat} {w w1 : World} {v : Value} {n : Nat} (h : DrT P a len cap zs B w v n w1) {l : List Typ} (hl : l.length = n) (hr : ∀ t ∈ l, P t) (t : Typ) (ht : P t) {v' : Value} {W3 : World}
    (ho : W3.ownsRow w.heap.size 35 3 v' (n + 1) (l.flatMap typCells ++ typCells t)) (hb : Below w.heap.size w1 W3) : DrT P a len cap zs B w v' (n + 1) W3 := by
  obtain ⟨s, hc⟩ := h.cur
  have hown : ownTyp W3 w.heap.size v' (l ++ [t]) := ownTyp_next t ho (by omega) rfl
  have hlen : (l ++ [t]).length = n + 1 := by simp [hl]
  obtain ⟨a2, g2, c2, sp, he, hne, hA, hbg, _⟩ := ownTyp_form hown
  have e2 := hne (by omega)
  subst e2
  refine ⟨⟨g2, c2, l ++ [t], by rw [he, hlen], hlen, fun u hu => ?_, by have := hown; unfold ownTyp at this; rw [hlen] at this; exact this⟩, ⟨s, curAt_below hc hb h.lt⟩, h.only.trans_low hb, h.lt⟩
  rcases List.mem_append.1 hu with h1 | h1
  · exact hr u h1
  · obtain rfl := List.mem_singleton.1 h1
    exact ht

def setF (j : Nat) (x : Int) (t : Typ) : Typ := if j = 0 then ⟨x, t.a, t.b⟩ else if j = 1 then ⟨t.kind, x, t.b⟩ else ⟨t.kind, t.a, x⟩

theorem typ_flatS (j : Nat) (hj : j < 3) (x : Int) : ∀ (l : List Typ) (k : Nat), k < l.length → (l.flatMap typCells).set (k * 3 + j) (.int .i64 x) = (l.set k (setF j x (l.getD k noTyp))).flatMap typCells
  | [], k, h => by simp at h
  | y :: l, 0, h => by
    rcases (by omega : j = 0 ∨ j = 1 ∨ j = 2) with rfl | rfl | rfl <;> simp [typCells, setF]
  | y :: l, k + 1, h => by
    have ih := typ_flatS j hj x l k (by simpa using h)
    have e : (k + 1) * 3 + j = (k * 3 + j) + 3 := by omega
    have e2 : (y :: l).getD (k + 1) noTyp = l.getD k noTyp := by simp
    rw [e2, List.set_cons_succ, List.flatMap_cons, List.flatMap_cons, ← ih, e, List.set_append_right _ _ (by simp [typCells])]
    simp [typCells]

theorem DrT.weak {P : Typ → Prop} {a : Option Addr} {len cap : Nat} {zs : List Int} {B : Nat} {w w1 : World} {v : Value} {n : Nat} (h : DrT P a len cap zs B w v n w1) : DrT AnyB a len cap zs B w v n w1 := by
  obtain ⟨g, c, l, hv, hl, hr, ho⟩ := h.tab
  exact ⟨⟨g, c, l, hv, hl, fun _ _ => trivial, ho⟩, h.cur, h.only, h.lt⟩

theorem DrT.store {P : Typ → Prop} {a : Option Addr} {len cap : Nat} {zs : List Int} {B : Nat} {w w1 : World} {g kc n : Nat} (h : DrT P a len cap zs B w (.slice (some ⟨g, 0, none⟩) n kc) n w1) (k j : Nat) (hk : k < n) (hj : j < 3) (x : Int) :
    DrT AnyB a len cap zs B w (.slice (some ⟨g, 0, none⟩) n kc) n (w1.setCell ⟨g, k * 3 + j, none⟩ (.int .i64 x)) := by
  obtain ⟨s, hc⟩ := h.cur
  obtain ⟨h1, h2⟩ := h.own_lt (by omega)
  have hb := below_set w1 g (k * 3 + j) (.int .i64 x) h2
  refine ⟨?_, ⟨s, curAt_below hc hb h.lt⟩, h.only.trans_low hb, h.lt⟩
  obtain ⟨g', cap', l, hv, hl, hr, ho⟩ := h.tab
  have ho2 := ho.stored (k * 3 + j) (.int .i64 x)
  rw [typ_flatS j hj x l k (by omega)] at ho2
  exact ⟨g, kc, _, rfl, by rw [List.length_set]; exact hl, fun _ _ => trivial, ho2.1⟩

theorem DrT.fz {P : Typ → Prop} {a : Option Addr} {len cap : Nat} {zs : List Int} {B : Nat} {w w1 : World} {g kc n : Nat} (h : DrT P a len cap zs B w (.slice (some ⟨g, 0, none⟩) n kc) n w1) (j : Nat) : w1.frozen? ⟨g, j, none⟩ = false := by
  obtain ⟨g', cap', l, hv, hl, hr, ho⟩ := h.tab
  exact ho.frozenAt j

theorem DrT.cell {P : Typ → Prop} {a : Option Addr} {len cap : Nat} {zs : List Int} {B : Nat} {w w1 : World} {g kc n : Nat} (h : DrT P a len cap zs B w (.slice (some ⟨g, 0, none⟩) n kc) n w1) (k j : Nat) (hk : k < n) (hj : j < 3) : ∃ y : Int, w1.cell? ⟨g, k * 3 + j, none⟩ = some (.int .i64 y) := by
  obtain ⟨g', cap', l, hv, hl, hr, ho⟩ := h.tab
  rw [ho.cellAt (k * 3 + j) (by omega), typ_flat_at l k j (by omega) hj]
  rcases (by omega : j = 0 ∨ j = 1 ∨ j = 2) with rfl | rfl | rfl <;> exact ⟨_, rfl⟩

theorem DrT.cell2 {a : Option Addr} {len cap : Nat} {zs : List Int} {B : Nat} {w w1 : World} {g kc n : Nat} (h : DrT SmB a len cap zs B w (.slice (some ⟨g, 0, none⟩) n kc) n w1) (k : Nat) (hk : k < n) : ∃ y : Int, w1.cell? ⟨g, k * 3 + 2, none⟩ = some (.int .i64 y) ∧ -1000 ≤ y ∧ y ≤ 1000 := by
  obtain ⟨g', cap', l, hv, hl, hr, ho⟩ := h.tab
  rw [ho.cellAt (k * 3 + 2) (by omega), typ_flat_at l k 2 (by omega) (by omega)]
  have hm : l.getD k noTyp ∈ l := by
    rw [List.getD, List.getElem?_eq_getElem (by omega)]
    exact List.getElem_mem _
  have := hr _ hm
  exact ⟨_, rfl, this.1, this.2⟩

set_option maxHeartbeats 16000000 in
set_option maxRecDepth 20000 in
theorem spec_tab {a : Option Addr} {len cap : Nat} {zs : List Int} {B : Nat} {w : World} {s : Nat × Int} (h : CurAt a len cap zs B w s) (hB : B < w.heap.size) :
    Calls Tryd.prog 14 #[.pointer (some ⟨B, 0, none⟩)] w fun e w' => ∃ v n, e = .returned v ∧ 3 ≤ n ∧ n ≤ 14 ∧ DrT AnyB a len cap zs B w v n w' := by
  obtain ⟨w1, hw1⟩ : ∃ w1, w.alloc (.cells #[.int .i64 1, .int .i64 0, .int .i64 0, .int .i64 0, .int .i64 (-1), .int .i64 0, .int .i64 0, .int .i64 (-1), .int .i64 0] 35) = w1 := ⟨_, rfl⟩
  have HW1 : Hid (w.alloc (.cells #[.int .i64 1, .int .i64 0, .int .i64 0, .int .i64 0, .int .i64 (-1), .int .i64 0, .int .i64 0, .int .i64 (-1), .int .i64 0] 35) = w1) := hw1
  have hb1 : Below w.heap.size w w1 := by rw [← hw1]; exact (Below.refl _ w).alloc (Nat.le_refl _) _
  have H1 : Hid (DrT SmB a len cap zs B w (.slice (some ⟨w.heap.size, 0, none⟩) 3 3) 3 w1) := by
    refine ⟨⟨w.heap.size, 3, [⟨1, 0, 0⟩, ⟨0, -1, 0⟩, ⟨0, -1, 0⟩], rfl, rfl, by simp [SmB], ?_⟩, ⟨s, curAt_below h hb1 h.size⟩, Only.of_below hb1, hB⟩
    rw [← hw1]
    exact World.ownsRow_lit w _ 3 (Nat.le_refl _) (by unfold maxLen; omega) rfl
  clear hw1 hb1 h
  go_enter Tryd.func14, Tryd.ntmps14
  go_wp2_with fail
  rw [HW1.out]
  refine (H1.out.draw 12 (by omega) (by omega)).mono ?_
  rintro e w2 ⟨c0, rfl, hc0, h2, _⟩
  have H2 : Hid (DrT SmB a len cap zs B w (.slice (some ⟨w.heap.size, 0, none⟩) 3 3) 3 w2) := h2
  clear h2
  go_wp2
  go_loopw [3, 4] (fun tv nv wr => ∃ g kc n c : Nat, tv = .slice (some ⟨g, 0, none⟩) n kc ∧ nv = .int .i64 c ∧ n + c ≤ 14 ∧ 3 ≤ n ∧ Hid (DrT SmB a len cap zs B w (.slice (some ⟨g, 0, none⟩) n kc) n wr)) (fun _ nv _ => (intOf nv).toNat)
  case atStart => exact ⟨w.heap.size, 3, 3, c0, rfl, rfl, by omega, by omega, H2⟩
  case round =>
    obtain ⟨g, kc, n, c, rfl, rfl, hnc, hn3, HD⟩ := hrel
    by_cases hc : 0 < c
    · have hc' : (0 : Int) < c := by omega
      go_wp2_with fail
      refine (HD.out.draw 4 (by omega) (by omega)).mono ?_
      rintro e w3 ⟨K1, rfl, hk1, h3, o3⟩
      have H3 : Hid (DrT SmB a len cap zs B w (.slice (some ⟨g, 0, none⟩) n kc) n w3) := h3
      clear h3 o3
      go_wp2_with fail
      all_goals
        refine (H3.out.draw _ (by omega) (by omega)).mono ?_
        rintro e w4 ⟨K2, rfl, hk2, h4, o4⟩
        obtain ⟨w5, hw5⟩ : ∃ w5, w4.alloc (.cells #[.int .i64 (2 + K1), .int .i64 ((n : Int) - 1 - K2), .int .i64 0] 35) = w5 := ⟨_, rfl⟩
        have HW5 : Hid (w4.alloc (.cells #[.int .i64 (2 + K1), .int .i64 ((n : Int) - 1 - K2), .int .i64 0] 35) = w5) := hw5
        obtain ⟨X, hX⟩ : ∃ X, w4.heap.size = X := ⟨_, rfl⟩
        have HX : Hid (w4.heap.size = X) := hX
        have b5 : Below w4.heap.size w4 w5 := by rw [← hw5]; exact (Below.refl _ w4).alloc (Nat.le_refl _) _
        have D5 : Hid (DrT SmB a len cap zs B w (.slice (some ⟨g, 0, none⟩) n kc) n w5) := h4.below b5
        have X5 : Hid (XB w5 X ⟨2 + K1, (n : Int) - 1 - K2, 0⟩) := by rw [← hw5, ← hX]; exact XB.new w4 _ _ _
        have hgX := h4.own_lt (by omega)
        have hXB := h4.lt
        have hXw := h4.size
        clear h4 o4 b5 hw5
        by_cases hk3 : (2 : Int) + K1 ≤ 3
        · go_wp2_with fail
          try rw [HW5.out]
          try rw [HX.out]
          refine (D5.out.draw (n : Int) (by omega) (by omega)).mono ?_
          rintro e w6 ⟨K3, rfl, hk33, h6, o6⟩
          have x6 := X5.out.only o6 (by omega)
          have X6 : Hid (XB w6 X ⟨2 + K1, (n : Int) - 1 - K2, 0⟩) := x6
          have D6 : Hid (DrT SmB a len cap zs B w (.slice (some ⟨g, 0, none⟩) n kc) n w6) := h6
          have f2 := x6.fz 2
          have c2 := x6.c2
          clear h6 o6 x6
          go_wp2_with fail
          obtain ⟨w7, hw7⟩ : ∃ w7, w6.setCell ⟨X, 2, none⟩ (.int .i64 ((n : Int) - 1 - K3)) = w7 := ⟨_, rfl⟩
          have D7 : Hid (DrT SmB a len cap zs B w (.slice (some ⟨g, 0, none⟩) n kc) n w7) := by rw [← hw7]; exact D6.out.setX (by omega) (by omega) 2 _
          have X7 : Hid (XB w7 X ⟨2 + K1, (n : Int) - 1 - K2, (n : Int) - 1 - K3⟩) := by rw [← hw7]; exact X6.out.set2 _
          rw [hw7]
          clear hw7 D6 X6 f2 c2 D5 X5 HW5
          refine (D7.out.once 6 (by omega)).mono ?_
          rintro e w8 ⟨ob, rfl, h8, o8⟩
          have D8 : Hid (DrT SmB a len cap zs B w (.slice (some ⟨g, 0, none⟩) n kc) n w8) := h8
          have x8 := X7.out.only o8 (by omega)
          have X8 : Hid (XB w8 X ⟨2 + K1, (n : Int) - 1 - K2, (n : Int) - 1 - K3⟩) := x8
          have hs8 := x8.lt
          clear h8 o8 D7 X7
          obtain ⟨i0, hi, hz0, hz1, hz2⟩ := info_parts info_typ
          cases ob
          · obtain ⟨l, hll, hlb, hlo⟩ := D8.out.list
            subst hll
            have OL : Hid (ownTyp w8 w.heap.size (.slice (some ⟨g, 0, none⟩) l.length kc) l) := hlo
            have HLB : Hid (∀ t ∈ l, SmB t) := hlb
            have c0 := x8.c0
            have c1 := x8.c1
            have c2 := x8.c2
            clear x8 hlo hlb
            go_wp2_with (at_builtin; refine wpList_append_own _ rfl _ _ 24 rfl w.heap.size 35 i0 _ 3 24 Tryd.underlying24 hi hz0 hz1 hz2 rfl (by decide) _ _ _ rfl (OL.out.alloc _) ⟨w8.heap.size, 0, none⟩ 1 1 (typCells ⟨2 + K1, (l.length : Int) - 1 - K2, (l.length : Int) - 1 - K3⟩) rfl rfl ?a0 ?b0 ?c0 ?d0 ?e0 ?_)
            case a0 => exact typ_new rfl _ _ _ _
            case b0 => exact typ_one _
            case c0 => unfold maxLen; omega
            case d0 => omega
            case e0 => simp; omega
            intro v9 w9 hown9 hgrow9 _
            have D9 : Hid (DrT SmB a len cap zs B w v9 (l.length + 1) w9) := D8.out.grow rfl HLB.out ⟨2 + K1, (l.length : Int) - 1 - K2, (l.length : Int) - 1 - K3⟩ (by show -1000 ≤ (l.length : Int) - 1 - K3 ∧ (l.length : Int) - 1 - K3 ≤ 1000; omega) hown9 (((Below.refl _ w8).alloc (by omega) _).grown hgrow9 (by simp; omega) (fun q hq => (OL.out.lt q hq).1))
            clear hown9 hgrow9 OL D8 X8 hi hz0 hz1 hz2
            obtain ⟨g9, k9, rfl⟩ := D9.out.form
            go_wp2
            go_roundw
            case rel => exact ⟨g9, k9, l.length + 1, c - 1, rfl, by go_num, by omega, by omega, D9⟩
            case measure => simp [intOf]; omega
          · go_wp2_with fail
            refine (D8.out.draw ((n : Int) + 1) (by omega) (by omega)).mono ?_
            rintro e w10 ⟨K4, rfl, hk4, h10, o10⟩
            have x10 := X8.out.only o10 (by omega)
            have X10 : Hid (XB w10 X ⟨2 + K1, (n : Int) - 1 - K2, (n : Int) - 1 - K3⟩) := x10
            have f0 := x10.fz 0
            have f1 := x10.fz 1
            have f2 := x10.fz 2
            have c0 := x10.c0
            have c1 := x10.c1
            have c2 := x10.c2
            have d11 : DrT SmB a len cap zs B w (.slice (some ⟨g, 0, none⟩) n kc) n (((w10.setCell ⟨X, 0, none⟩ (.int .i64 0)).setCell ⟨X, 1, none⟩ (.int .i64 ((K4 : Int) - 1))).setCell ⟨X, 2, none⟩ (.int .i64 0)) := ((h10.setX (by omega) (by omega) 0 _).setX (by omega) (by omega) 1 _).setX (by omega) (by omega) 2 _
            obtain ⟨l, hll, hlb, hlo⟩ := d11.list
            have s11 := d11.only.size
            have D11 : Hid (DrT SmB a len cap zs B w (.slice (some ⟨g, 0, none⟩) n kc) n (((w10.setCell ⟨X, 0, none⟩ (.int .i64 0)).setCell ⟨X, 1, none⟩ (.int .i64 ((K4 : Int) - 1))).setCell ⟨X, 2, none⟩ (.int .i64 0))) := d11
            subst hll
            have OL : Hid (ownTyp (((w10.setCell ⟨X, 0, none⟩ (.int .i64 0)).setCell ⟨X, 1, none⟩ (.int .i64 ((K4 : Int) - 1))).setCell ⟨X, 2, none⟩ (.int .i64 0)) w.heap.size (.slice (some ⟨g, 0, none⟩) l.length kc) l) := hlo
            have HLB : Hid (∀ t ∈ l, SmB t) := hlb
            clear h10 o10 x8 x10 d11 hlo hlb
            go_wp2_with (at_builtin; refine wpList_append_own _ rfl _ _ 24 rfl w.heap.size 35 i0 _ 3 24 Tryd.underlying24 hi hz0 hz1 hz2 rfl (by decide) _ _ _ rfl (OL.out.alloc _) ⟨_, 0, none⟩ 1 1 (typCells ⟨0, (K4 : Int) - 1, 0⟩) rfl rfl ?a0 ?b0 ?c0 ?d0 ?e0 ?_)
            case a0 => exact typ_new (by simp) _ _ _ _
            case b0 => exact typ_one _
            case c0 => unfold maxLen; omega
            case d0 => omega
            case e0 => simp at *; omega
            intro v9 w9 hown9 hgrow9 _
            have D9 : Hid (DrT SmB a len cap zs B w v9 (l.length + 1) w9) := D11.out.grow rfl HLB.out ⟨0, (K4 : Int) - 1, 0⟩ (by show -1000 ≤ (0 : Int) ∧ (0 : Int) ≤ 1000; omega) hown9 (((Below.refl _ _).alloc s11 _).grown hgrow9 (by simp at *; omega) (fun q hq => (OL.out.lt q hq).1))
            clear hown9 hgrow9 OL D11 X8 X10 hi hz0 hz1 hz2
            obtain ⟨g9, k9, rfl⟩ := D9.out.form
            go_wp2
            go_roundw
            case rel => exact ⟨g9, k9, l.length + 1, c - 1, rfl, by go_num, by omega, by omega, D9⟩
            case measure => simp [intOf]; omega
        · go_wp2_with fail
          try rw [HW5.out]
          try rw [HX.out]
          refine (D5.out.once 6 (by omega)).mono ?_
          rintro e w8 ⟨ob, rfl, h8, o8⟩
          have D8 : Hid (DrT SmB a len cap zs B w (.slice (some ⟨g, 0, none⟩) n kc) n w8) := h8
          have x8 := X5.out.only o8 (by omega)
          have X8 : Hid (XB w8 X ⟨2 + K1, (n : Int) - 1 - K2, 0⟩) := x8
          have hs8 := x8.lt
          clear h8 o8 D5 X5
          obtain ⟨i0, hi, hz0, hz1, hz2⟩ := info_parts info_typ
          cases ob
          · obtain ⟨l, hll, hlb, hlo⟩ := D8.out.list
            subst hll
            have OL : Hid (ownTyp w8 w.heap.size (.slice (some ⟨g, 0, none⟩) l.length kc) l) := hlo
            have HLB : Hid (∀ t ∈ l, SmB t) := hlb
            have c0 := x8.c0
            have c1 := x8.c1
            have c2 := x8.c2
            clear x8 hlo hlb
            go_wp2_with (at_builtin; refine wpList_append_own _ rfl _ _ 24 rfl w.heap.size 35 i0 _ 3 24 Tryd.underlying24 hi hz0 hz1 hz2 rfl (by decide) _ _ _ rfl (OL.out.alloc _) ⟨w8.heap.size, 0, none⟩ 1 1 (typCells ⟨2 + K1, (l.length : Int) - 1 - K2, 0⟩) rfl rfl ?a0 ?b0 ?c0 ?d0 ?e0 ?_)
            case a0 => exact typ_new rfl _ _ _ _
            case b0 => exact typ_one _
            case c0 => unfold maxLen; omega
            case d0 => omega
            case e0 => simp; omega
            intro v9 w9 hown9 hgrow9 _
            have D9 : Hid (DrT SmB a len cap zs B w v9 (l.length + 1) w9) := D8.out.grow rfl HLB.out ⟨2 + K1, (l.length : Int) - 1 - K2, 0⟩ (by show -1000 ≤ (0 : Int) ∧ (0 : Int) ≤ 1000; omega) hown9 (((Below.refl _ w8).alloc (by omega) _).grown hgrow9 (by simp; omega) (fun q hq => (OL.out.lt q hq).1))
            clear hown9 hgrow9 OL D8 X8 hi hz0 hz1 hz2
            obtain ⟨g9, k9, rfl⟩ := D9.out.form
            go_wp2
            go_roundw
            case rel => exact ⟨g9, k9, l.length + 1, c - 1, rfl, by go_num, by omega, by omega, D9⟩
            case measure => simp [intOf]; omega
          · go_wp2_with fail
            refine (D8.out.draw ((n : Int) + 1) (by omega) (by omega)).mono ?_
            rintro e w10 ⟨K4, rfl, hk4, h10, o10⟩
            have x10 := X8.out.only o10 (by omega)
            have X10 : Hid (XB w10 X ⟨2 + K1, (n : Int) - 1 - K2, 0⟩) := x10
            have f0 := x10.fz 0
            have f1 := x10.fz 1
            have f2 := x10.fz 2
            have c0 := x10.c0
            have c1 := x10.c1
            have c2 := x10.c2
            have d11 : DrT SmB a len cap zs B w (.slice (some ⟨g, 0, none⟩) n kc) n (((w10.setCell ⟨X, 0, none⟩ (.int .i64 0)).setCell ⟨X, 1, none⟩ (.int .i64 ((K4 : Int) - 1))).setCell ⟨X, 2, none⟩ (.int .i64 0)) := ((h10.setX (by omega) (by omega) 0 _).setX (by omega) (by omega) 1 _).setX (by omega) (by omega) 2 _
            obtain ⟨l, hll, hlb, hlo⟩ := d11.list
            have s11 := d11.only.size
            have D11 : Hid (DrT SmB a len cap zs B w (.slice (some ⟨g, 0, none⟩) n kc) n (((w10.setCell ⟨X, 0, none⟩ (.int .i64 0)).setCell ⟨X, 1, none⟩ (.int .i64 ((K4 : Int) - 1))).setCell ⟨X, 2, none⟩ (.int .i64 0))) := d11
            subst hll
            have OL : Hid (ownTyp (((w10.setCell ⟨X, 0, none⟩ (.int .i64 0)).setCell ⟨X, 1, none⟩ (.int .i64 ((K4 : Int) - 1))).setCell ⟨X, 2, none⟩ (.int .i64 0)) w.heap.size (.slice (some ⟨g, 0, none⟩) l.length kc) l) := hlo
            have HLB : Hid (∀ t ∈ l, SmB t) := hlb
            clear h10 o10 x8 x10 d11 hlo hlb
            go_wp2_with (at_builtin; refine wpList_append_own _ rfl _ _ 24 rfl w.heap.size 35 i0 _ 3 24 Tryd.underlying24 hi hz0 hz1 hz2 rfl (by decide) _ _ _ rfl (OL.out.alloc _) ⟨_, 0, none⟩ 1 1 (typCells ⟨0, (K4 : Int) - 1, 0⟩) rfl rfl ?a0 ?b0 ?c0 ?d0 ?e0 ?_)
            case a0 => exact typ_new (by simp) _ _ _ _
            case b0 => exact typ_one _
            case c0 => unfold maxLen; omega
            case d0 => omega
            case e0 => simp at *; omega
            intro v9 w9 hown9 hgrow9 _
            have D9 : Hid (DrT SmB a len cap zs B w v9 (l.length + 1) w9) := D11.out.grow rfl HLB.out ⟨0, (K4 : Int) - 1, 0⟩ (by show -1000 ≤ (0 : Int) ∧ (0 : Int) ≤ 1000; omega) hown9 (((Below.refl _ _).alloc s11 _).grown hgrow9 (by simp at *; omega) (fun q hq => (OL.out.lt q hq).1))
            clear hown9 hgrow9 OL D11 X8 X10 hi hz0 hz1 hz2
            obtain ⟨g9, k9, rfl⟩ := D9.out.form
            go_wp2
            go_roundw
            case rel => exact ⟨g9, k9, l.length + 1, c - 1, rfl, by go_num, by omega, by omega, D9⟩
            case measure => simp [intOf]; omega
    · -- END LOOP
      have hc' : ¬ (0 : Int) < c := by omega
      go_wp2_with fail
      refine (HD.out.draw (n : Int) (by omega) (by omega)).mono ?_
      rintro e w3 ⟨K5, rfl, hk5, h3, -⟩
      have H3 : Hid (DrT SmB a len cap zs B w (.slice (some ⟨g, 0, none⟩) n kc) n w3) := h3
      clear h3 HD
      go_wp2_with fail
      refine (H3.out.draw 16 (by omega) (by omega)).mono ?_
      rintro e w4 ⟨K6, rfl, hk6, h4, -⟩
      have H4 : Hid (DrT SmB a len cap zs B w (.slice (some ⟨g, 0, none⟩) n kc) n w4) := h4
      clear h4 H3
      have hk5' : K5 < n := by omega
      have hk50 : (0 : Int) ≤ K5 := by omega
      by_cases h60 : K6 = 0
      · subst h60
        go_wp2_with fail
        refine (H4.out.draw ((n : Int) + 1) (by omega) (by omega)).mono ?_
        rintro e w5 ⟨K7, rfl, hk7, h5, -⟩
        have H5 : Hid (DrT SmB a len cap zs B w (.slice (some ⟨g, 0, none⟩) n kc) n w5) := h5
        have f1 : w5.frozen? ⟨g, K5 * 3 + 1, none⟩ = false := h5.fz _
        obtain ⟨y, hy⟩ := h5.cell K5 1 hk5' (by omega)
        clear h5 H4
        go_wp2
        go_ret
        exact ⟨_, n, rfl, hn3, by omega, H5.out.store K5 1 hk5' (by omega) _⟩
      · by_cases h61 : K6 = 1
        · subst h61
          go_wp2_with fail
          refine (H4.out.draw 8 (by omega) (by omega)).mono ?_
          rintro e w5 ⟨K7, rfl, hk7, h5, -⟩
          have H5 : Hid (DrT SmB a len cap zs B w (.slice (some ⟨g, 0, none⟩) n kc) n w5) := h5
          have f1 : w5.frozen? ⟨g, K5 * 3, none⟩ = false := h5.fz _
          obtain ⟨y, hy⟩ := h5.cell K5 0 hk5' (by omega)
          have hy0 : w5.cell? ⟨g, K5 * 3, none⟩ = some (.int .i64 y) := hy
          clear h5 H4 hy
          go_wp2
          go_ret
          exact ⟨_, n, rfl, hn3, by omega, H5.out.store K5 0 hk5' (by omega) _⟩
        · by_cases h62 : K6 = 2
          · subst h62
            have f1 : w4.frozen? ⟨g, K5 * 3 + 2, none⟩ = false := H4.out.fz _
            obtain ⟨y, hy, hb0, hb1⟩ := H4.out.cell2 K5 hk5'
            go_wp2
            go_ret
            exact ⟨_, n, rfl, hn3, by omega, H4.out.store K5 2 hk5' (by omega) _⟩
          · have e0 : ¬ (K6 : Int) = 0 := by omega
            have e1 : ¬ (K6 : Int) = 1 := by omega
            have e2 : ¬ (K6 : Int) = 2 := by omega
            go_wp2
            go_ret
            exact ⟨_, n, rfl, hn3, by omega, H4.out.weak⟩
end Go.Proofs.YtjjanmccijghgaaDoor
