/-
  A step of a statement whose order is open: an append to a slice of the call's own, with where the new one lies. What the reading of an expression ends with, the specification's. Conditions: written at each theorem.
-/
import Derived.Test.YtobijbhgpgnfkaaGreatDoorPn
import Derived.Test.YtobijbhgpgnfkaaGreatDoorPf
import Derived.Test.YtobijbhgpgnfkaaGreatDoorAp
namespace Go.Proofs.YtobijbhgpgnfkaaGreatDoor
open Go.ChangeShapes Go.WideShapes Go.ChangeAt Go.RowKit
set_option linter.unusedVariables false

theorem step_append_at {P : Program} {ops : Array Oper} {o : Oper} {a : Act} {w : World} {K : Act → World → Prop} {Q : Exit → Act → World → Prop} {E : Prop} (hg : o.guard = none) (s x : Operand) (t : TypeId)
    (ho : o.op = .call { callee := .builtin .append, args := #[s, x], argTypes := #[t, t] })
    (base : Nat) (e : TypeId) (i : TypeInfo) (z : Value) (size bytes : Nat) (ht : P.underlying t = some (.slice e)) (hi : P.info? e = some i) (hz : i.zero = some z)
    (hsize : i.size = size) (hby : i.bytes = bytes) (hzs : z.cells.size = size) (hsz : 0 < size)
    (v : Value) (n : Nat) (xs : List Value) (hs : a.eval s = v) (hown : w.ownsRow base e size v n xs)
    (ad : Addr) (m c : Nat) (news : List Value) (hx : a.eval x = .slice (some ad) m c) (hl : news.length = m * size) (hnews : ∀ j u, news[j]? = some u → w.cell? (ad.add j) = some u) (h1 : ∀ u ∈ news, u.oneCell' = true) (h0 : 0 < m)
    (h63 : n + m ≤ maxLen) (hbytes : (n + m) * bytes ≤ 140737488355328) (hbase : base ≤ w.heap.size)
    (h : ∀ v' w', w'.ownsRow base e size v' (n + m) (xs ++ news) → Grew w w' v v' → K (a.put o.dst v') w') :
    if Region.wanted o (yielded ops a.tmps) = true then Oper.wp P o a w K Q else E := by
  have hw : Region.wanted o (yielded ops a.tmps) = true := by simp [Region.wanted, hg]
  rw [if_pos hw]
  obtain ⟨v', w', hr, h2, h3, h4⟩ := run_append_own (P := P) w base t o.type e i z size bytes ht hi hz hsize hby hzs hsz v n xs hown ad m c news hl hnews h1 h63 hbytes hbase
  have h5 := append_block (P := P) w base t o.type e i z size bytes ht hi hz hsize hby hzs hsz v n xs hown ad m c news hl hnews h1 h0 h63 hbytes hr
  unfold Oper.wp execOp
  simp only [ho, resolve, invoke, builtin, Sem.run_bind, Sem.run_pure, Result.andThen_ok, List.map_toArray, List.map_cons, List.map_nil, hs, hx, hr]
  exact h v' w' h2 ⟨h3, h5⟩

/-- A step that leaves a slice of the call's own where it was. -/
theorem Grew.step {w w1 w' : World} {v v' : Value} (h : Grew w w1 v v') (hb : Below w.heap.size w1 w') (hv : ∀ k, v.ownBlock = some k → k < w.heap.size) : Grew w w' v v' := by
  obtain ⟨h1, h2⟩ := h
  exact ⟨⟨hb.os.trans h1.os, hb.tape.trans h1.tape, hb.output.trans h1.output, Nat.le_trans h1.size hb.size, fun k hk hne => (hb.block k hk).trans (h1.block k hk hne)⟩, h2⟩

theorem Grew.drew {w w' : World} {v v' : Value} (h : Grew w w' v v') : Grew w w'.drew v v' := ⟨⟨h.1.os, h.1.tape, h.1.output, h.1.size, h.1.block⟩, h.2⟩

/-- What the reading of an expression ends with. -/
def XOut (a : Option Addr) (n cap : Nat) (p E : Int) (B : Nat) (w : World) (v : Value) (r : Except Flt (Nat × List Nod)) (e : Ending) (w' : World) : Prop := match r with
  | .ok (j, m) => ∃ v', e = .returned (.tuple #[stV a n cap (j : Nat) 0 p E, v']) ∧ ownNod w' B v' m ∧ Grew w w' v v'
  | .error (c, q) => ∃ (i' : Int) (v' : Value) (m : List Nod), e = .returned (.tuple #[stV a n cap i' c q E, v']) ∧ ownNod w' B v' m ∧ Grew w w' v v'

/-- The result's place is written and read. -/
theorem st_put {w : World} {g : Nat} {x0 x1 x2 x3 x4 : Value} {t : TypeId} (h : w.heap[g]? = some (.cells #[x0, x1, x2, x3, x4] t (0, 0))) (a : Option Addr) (n cap : Nat) (i c p E : Int) :
    (loadVar 61 ⟨g, 0, none⟩).run Tryz.prog (((((w.setCell ⟨g, 0, none⟩ (.slice a n cap)).setCell ⟨g, 1, none⟩ (.int .i64 i)).setCell ⟨g, 2, none⟩ (.int .i64 c)).setCell ⟨g, 3, none⟩ (.int .i64 p)).setCell ⟨g, 4, none⟩ (.int .i64 E))
      = .ok (stV a n cap i c p E) (((((w.setCell ⟨g, 0, none⟩ (.slice a n cap)).setCell ⟨g, 1, none⟩ (.int .i64 i)).setCell ⟨g, 2, none⟩ (.int .i64 c)).setCell ⟨g, 3, none⟩ (.int .i64 p)).setCell ⟨g, 4, none⟩ (.int .i64 E)) := ld_st (put5 h _ _ _ _ _)

theorem below_put5 {w w' : World} {B g : Nat} (h : Below B w w') (hg : B ≤ g) (y0 y1 y2 y3 y4 : Value) :
    Below B w (((((w'.setCell ⟨g, 0, none⟩ y0).setCell ⟨g, 1, none⟩ y1).setCell ⟨g, 2, none⟩ y2).setCell ⟨g, 3, none⟩ y3).setCell ⟨g, 4, none⟩ y4) :=
  ((((h.setCell (p := ⟨g, 0, none⟩) hg y0).setCell (p := ⟨g, 1, none⟩) hg y1).setCell (p := ⟨g, 2, none⟩) hg y2).setCell (p := ⟨g, 3, none⟩) hg y3).setCell (p := ⟨g, 4, none⟩) hg y4

set_option maxHeartbeats 2000000 in
set_option maxRecDepth 20000 in
theorem spec_x_end (a : Option Addr) (n cap i : Nat) (p E : Int) (hi : n ≤ i) (v : Value) (B : Nat) (l : List Nod) (w : World) (hown : ownNod w B v l) :
    Calls Tryz.prog 26 #[stV a n cap i 0 p E, v] w fun e w' => XOut a n cap p E B w v (.error (2, E)) e w' := by
  have hi' : (n : Int) ≤ i := by omega
  have HO : Hid (ownNod w B v l) := hown
  clear hown
  go_enter Tryz.func26, Tryz.ntmps26
  go_wp2_with fail
  refine (spec_fail a n cap i p E 2 E _).mono ?_
  rintro e w1 ⟨rfl, b1⟩
  have r1 := (b1.block _ (by simp <;> omega)).trans (heap_alloc2_new w _ _)
  have R1 : Hid (_) := r1
  obtain ⟨c0, c1, c2, c3, c4, c5⟩ := st_row r1
  have B1 : Hid (Below w.heap.size w w1) := (((Below.refl _ w).alloc (Nat.le_refl _) _).alloc (by simp) _).trans (b1.mono (by simp <;> omega))
  clear r1 b1
  go_wp2
  refine bodyPost_ret (results_row_tmp rfl _ _ (w.heap.size + 1) _ v rfl (st_put R1.out a n cap i 2 E E) rfl) rfl ?_
  have hb := below_put5 B1.out (show w.heap.size ≤ w.heap.size + 1 by omega) (.slice a n cap) (.int .i64 i) (.int .i64 2) (.int .i64 E) (.int .i64 E)
  exact ⟨i, v, l, rfl, ownNod_kept HO.out hb (Nat.le_refl _), Grew.of_below hb⟩
end Go.Proofs.YtobijbhgpgnfkaaGreatDoor
