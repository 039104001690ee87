/-
  Nodes as they landed: trees as values, where a tree begins. Conditions: written at each theorem.
-/
import Derived.Test.YtjjanmccijghgaaIb
import Derived.Deep.RegionWith
import Derived.Deep.CutRange
namespace Go.Proofs.Ytjjanmccijghgaa
open Go.ChangeShapes Go.WideShapes Go.ChangeAt Go.RowKit
set_option linter.unusedVariables false

/-- The type of a tree with so many kids. -/
def treeT (n : Nat) : TypeId := if n = 0 then 58 else if n = 1 then 60 else if n = 2 then 62 else 64

/-- What all trees have, as cells. -/
def spotL (t : Nod) (s : Int) : List Value := [.int .i64 t.kind, .int .i64 t.a, .int .i64 t.b, .int .i64 t.c, .int .i64 t.n, .string t.name, .string t.other, .int .i64 s]

/-- A tree as a value. -/
def treeV (t : Nod) (s : Int) (ks : List Value) : Value := .iface (treeT ks.length) (.agg (spotL t s ++ ks).toArray)

theorem begin_meth (t : Nod) (s : Int) (ks : List Value) (h : ks.length ≤ 3) (w : World) :
    (method 186 (treeT ks.length) (.agg (spotL t s ++ ks).toArray) "loop.example/g01292/impl.begin").run Try.prog w = .ok (57, .agg (spotL t s).toArray) w := by
  rcases ks with _ | ⟨a, _ | ⟨b, _ | ⟨c, _ | ⟨d, r⟩⟩⟩⟩
  · kernel_rfl
  · kernel_rfl
  · kernel_rfl
  · kernel_rfl
  · simp at h

theorem begin_ahead (t : Nod) (s : Int) (ks : List Value) (h : ks.length ≤ 3) (w : World) :
    (nilAhead 186 (treeT ks.length) (.agg (spotL t s ++ ks).toArray) "loop.example/g01292/impl.begin").run Try.prog w = .ok (some false) w := by
  rcases ks with _ | ⟨a, _ | ⟨b, _ | ⟨c, _ | ⟨d, r⟩⟩⟩⟩
  · kernel_rfl
  · kernel_rfl
  · kernel_rfl
  · kernel_rfl
  · simp at h

theorem impl_begin (t : Nod) (s : Int) (w : World) :
    Calls Try.prog 57 #[.agg (spotL t s).toArray] w fun e w' => e = .returned (.int .i64 s) ∧ w' = w.alloc (.cells (spotL t s).toArray 56) := by
  obtain ⟨k, a, b, c, n, x, o⟩ := t
  show Calls Try.prog 57 #[.agg #[.int .i64 k, .int .i64 a, .int .i64 b, .int .i64 c, .int .i64 n, .string x, .string o, .int .i64 s]] w fun e w' => e = .returned (.int .i64 s) ∧ w' = w.alloc (.cells #[.int .i64 k, .int .i64 a, .int .i64 b, .int .i64 c, .int .i64 n, .string x, .string o, .int .i64 s] 56)
  go_enter Try.func57, Try.ntmps57
  go_wp2
  go_ret
  exact ⟨rfl, rfl⟩

/-- A value whose part begins there. -/
def Begins (v : Value) (s : Int) : Prop := ∃ (T : TypeId) (u : Value) (t : Nod), v = .iface T u ∧
  (∀ w : World, (nilAhead 186 T u "loop.example/g01292/impl.begin").run Try.prog w = .ok (some false) w) ∧
  (∀ w : World, (method 186 T u "loop.example/g01292/impl.begin").run Try.prog w = .ok (57, .agg (spotL t s).toArray) w)

theorem treeV_begins (t : Nod) (s : Int) (ks : List Value) (h : ks.length ≤ 3) : Begins (treeV t s ks) s :=
  ⟨_, _, t, rfl, begin_ahead t s ks h, begin_meth t s ks h⟩

/-- A slice of trees lies there. -/
def TreeAt (w : World) (g : Nat) (vs : List Value) : Prop := ∀ i, i < vs.length → w.cell? ⟨g, i, none⟩ = some (vs.getD i .nilIface)

theorem TreeAt.below {w w' : World} {g B : Nat} {vs : List Value} (h : TreeAt w g vs) (hb : Below B w w') (hg : 0 < vs.length → g < B) : TreeAt w' g vs :=
  fun i hi => (World.cell?_of_block (hb.block g (hg (by omega)))).trans (h i hi)

theorem TreeAt.lt {w : World} {g : Nat} {vs : List Value} (h : TreeAt w g vs) (hl : 0 < vs.length) : g < w.heap.size := nod_lt (h 0 hl)

theorem bcell {W w1 : World} (hb : Below W.heap.size W w1) : (∀ b o, b < W.heap.size → w1.cell? ⟨b, o, none⟩ = W.cell? ⟨b, o, none⟩) ∧ (∀ b o, b < W.heap.size → w1.frozen? ⟨b, o, none⟩ = W.frozen? ⟨b, o, none⟩) :=
  ⟨fun b o h => hb.cell (p := ⟨b, o, none⟩) h, fun b o h => hb.frozen (p := ⟨b, o, none⟩) h⟩

end Go.Proofs.Ytjjanmccijghgaa
