/-
  Nodes as they landed: a kid is laid out; what stands while a tree is laid out. Conditions: written at each theorem.
-/
import Derived.Test.YtlfgnppacjdjkaaDoorTf
import Derived.Test.YtlfgnppacjdjkaaDoorAp
namespace Go.Proofs.YtlfgnppacjdjkaaDoor
open Go.ChangeShapes Go.WideShapes Go.ChangeAt Go.RowKit
set_option linter.unusedVariables false

/-- What a call of lay ends with. -/
def LayEnd (B : Nat) (w : World) (v : Value) (G : List Nod) (e : Ending) (w' : World) : Prop := ∃ v', e = .returned v' ∧ ownNod w' B v' G ∧ Grew w w' v v'

/-- A call of this lay puts these nodes behind those that are there; which they are hangs on how many are there. -/
def LayC (f : FuncId) (x : Value) (S : Nat → List Nod) : Prop := ∀ (out : List Nod) (v : Value) (B : Nat) (w : World), ownNod w B v out → B ≤ w.heap.size → out.length + (S out.length).length ≤ 1000 →
  Calls Tryd.prog f #[x, v] w fun e w' => LayEnd B w v (out ++ S out.length) e w'

/-- A tree that is so laid out. -/
def LayV (v : Value) (S : Nat → List Nod) : Prop := ∃ (T : TypeId) (u : Value) (f : FuncId) (x : Value), v = .iface T u ∧
  (∀ w : World, (nilAhead 303 T u "loop.example/g01292/impl.lay").run Tryd.prog w = .ok (some false) w) ∧
  (∀ w : World, (method 303 T u "loop.example/g01292/impl.lay").run Tryd.prog w = .ok (f, x) w) ∧
  (f = 155 ∨ f = 157 ∨ f = 159 ∨ f = 160) ∧ LayC f x S

theorem LayV.same {v : Value} {S S' : Nat → List Nod} (h : LayV v S) (e : ∀ n, S n = S' n) : LayV v S' := by
  obtain rfl : S = S' := funext e
  exact h

/-- What a call of layKid ends with. -/
def KidEnd (B : Nat) (w : World) (v : Value) (G : List Nod) (e : Ending) (w' : World) : Prop := ∃ v', e = .returned (.tuple #[v', .int .i64 ((G.length : Int) - 1)]) ∧ ownNod w' B v' G ∧ Grew w w' v v'

theorem impl_layKid (x : Value) (S : Nat → List Nod) (hx : LayV x S) (out : List Nod) (v : Value) (B : Nat) (w : World) (hown : ownNod w B v out) (hB : B ≤ w.heap.size) (hlen : out.length + (S out.length).length ≤ 1000) :
    Calls Tryd.prog 158 #[v, x] w fun e w' => KidEnd B w v (out ++ S out.length) e w' := by
  obtain ⟨T, u, f, y, rfl, hn, hm, hf, hc⟩ := hx
  have HC : Hid (Calls Tryd.prog f #[y, v] w fun e w' => LayEnd B w v (out ++ S out.length) e w') := hc out v B w hown hB hlen
  have hGl : (out ++ S out.length).length ≤ 1000 := by rw [List.length_append]; exact hlen
  clear hc hown hB hlen
  generalize out ++ S out.length = G at *
  have hGi : (G.length : Int) ≤ 1000 := by omega
  rcases hf with rfl | rfl | rfl | rfl
  all_goals
    go_enter Tryd.func158, Tryd.ntmps158
    go_wp2_with fail
    refine HC.out.mono ?_
    rintro e w1 ⟨v', rfl, hown', hgr⟩
    have HO : Hid (ownNod w1 B v' G) := hown'
    have HR : Hid (Grew w w1 v v') := hgr
    obtain ⟨a, g, cap, sp, rfl, _⟩ := ownNod_form hown'
    clear hown' hgr
    go_wp2
    go_ret2
    exact ⟨_, rfl, HO.out, HR.out⟩

/-- What stands while a tree is laid out: P holds its cells, N the copy of its node. -/
structure LSt (w : World) (v : Value) (B P N : Nat) (row : Array Value) (tR : TypeId) (nod : Nod) (outs : List Nod) (vx : Value) (wx : World) : Prop where
  grew : Grew w wx v vx
  own : ownNod wx B vx outs
  row : wx.heap[P]? = some (.cells row tR (0, 0))
  nd : wx.heap[N]? = some (.cells (nodCells nod).toArray 49 (0, 0))
  far : ∀ k, vx.ownBlock = some k → k ≠ P ∧ k ≠ N
  pn : P ≠ N
  wp : w.heap.size ≤ P
  wn : w.heap.size ≤ N

theorem LSt.kid {w wx w' : World} {v vx v' : Value} {B P N : Nat} {row : Array Value} {tR : TypeId} {nod : Nod} {outs outs' : List Nod} (h : LSt w v B P N row tR nod outs vx wx) (hown : ownNod w' B v' outs') (hg : Grew wx w' vx v') :
    LSt w v B P N row tR nod outs' v' w' := by
  have hP : P < wx.heap.size := (Array.getElem?_eq_some_iff.1 h.row).1
  have hN : N < wx.heap.size := (Array.getElem?_eq_some_iff.1 h.nd).1
  refine ⟨h.grew.trans hg, hown, ?_, ?_, fun k hk => ?_, h.pn, h.wp, h.wn⟩
  · rw [hg.1.block P hP (fun e => (h.far P e.symm).1 rfl)]; exact h.row
  · rw [hg.1.block N hN (fun e => (h.far N e.symm).2 rfl)]; exact h.nd
  · rcases hg.2 k hk with h1 | h1
    · exact ⟨by omega, by omega⟩
    · exact h.far k h1

theorem LSt.set {w wx : World} {v vx : Value} {B P N : Nat} {row : Array Value} {tR : TypeId} {nod nod' : Nod} {outs : List Nod} (h : LSt w v B P N row tR nod outs vx wx) (i : Nat) (y : Value)
    (hn : ((nodCells nod).toArray).setIfInBounds i y = (nodCells nod').toArray) : LSt w v B P N row tR nod' outs vx (wx.setCell ⟨N, i, none⟩ y) := by
  have hN : N < wx.heap.size := (Array.getElem?_eq_some_iff.1 h.nd).1
  have hs := heap_setCell_same wx N i _ _ y h.nd
  rw [hn] at hs
  have hoth : ∀ k, k ≠ N → (wx.setCell ⟨N, i, none⟩ y).heap[k]? = wx.heap[k]? := fun k hk => heap_setCell_other wx ⟨N, i, none⟩ k y hk
  have hb : Below N wx (wx.setCell ⟨N, i, none⟩ y) := (Below.refl N wx).setCell (p := ⟨N, i, none⟩) (Nat.le_refl _) y
  have h1 := h.grew.1
  refine ⟨⟨⟨hb.os.trans h1.os, hb.tape.trans h1.tape, hb.output.trans h1.output, Nat.le_trans h1.size hb.size, fun k hk hv => ?_⟩, h.grew.2⟩, ownsRow_setCell_other h.own (fun e => (h.far N e).2 rfl) y, ?_, hs, h.far, h.pn, h.wp, h.wn⟩
  · rw [hoth k (by have := h.wn; omega)]
    exact h1.block k hk hv
  · rw [hoth P h.pn]; exact h.row

theorem row_cell {w : World} {g : Nat} {row : Array Value} {t : TypeId} {z : Nat × Nat} (h : w.heap[g]? = some (.cells row t z)) (j : Nat) {x : Value} (hx : row[j]? = some x) : w.cell? ⟨g, j, none⟩ = some x := by
  rw [cell_of_row _ _ _ _ _ _ h]
  exact hx

/-- The last step: the node is put behind. -/
theorem LSt.last {w wx w' : World} {v vx v' : Value} {B P N : Nat} {row : Array Value} {tR : TypeId} {nod : Nod} {outs : List Nod} {m : Nat} {xs : List Value} {o : Obj} (h : LSt w v B P N row tR nod outs vx wx)
    (hown : w'.ownsRow B 49 7 v' m xs) (hm : m = outs.length + 1) (hx : xs = outs.flatMap nodCells ++ nodCells nod) (hg : Grew (wx.alloc o) w' vx v') : LayEnd B w v (outs ++ [nod]) (.returned v') w' :=
  ⟨v', rfl, ownNod_next nod hown hm hx, h.grew.trans ((Grew.of_below ((Below.refl _ wx).alloc (Nat.le_refl _) o)).trans hg)⟩
end Go.Proofs.YtlfgnppacjdjkaaDoor
