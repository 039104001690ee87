/-
  Types, the specification's: a free variable is made one with another type, in a table of the call's own. Conditions: written at each theorem.
-/
import Derived.Test.YtjjanmccijghgaaDoorHr
import Derived.OneCell
namespace Go.Proofs.YtjjanmccijghgaaDoor
open Go.ChangeShapes Go.WideShapes Go.ChangeAt Go.RowKit
set_option linter.unusedVariables false

theorem gro_of_below {w w' : World} (h : Below w.heap.size w w') (row : Option Nat) : w.grownBy w' row := ⟨h.os, h.tape, h.output, h.size, fun k hk _ => h.block k hk⟩
theorem gro_trans {a b c : World} {row : Option Nat} (h : a.grownBy b row) (h' : b.grownBy c row) : a.grownBy c row :=
  ⟨h'.os.trans h.os, h'.tape.trans h.tape, h'.output.trans h.output, Nat.le_trans h.size h'.size, fun k hk hr => (h'.block k (Nat.lt_of_lt_of_le hk h.size) hr).trans (h.block k hk hr)⟩

/-- A table of the call's own lies in block g, and perhaps more behind it. -/
def TabAt (w : World) (g : Nat) (u : List Typ) : Prop := ∃ sp : List Value, w.heap[g]? = some (.cells (u.flatMap typCells ++ sp).toArray 35 (0, 0))

theorem TabAt.at {w : World} {g : Nat} {u : List Typ} (h : TabAt w g u) : TypAt w g u := by
  obtain ⟨sp, h⟩ := h
  exact typ_of_row h

theorem TabAt.lt {w : World} {g : Nat} {u : List Typ} (h : TabAt w g u) : g < w.heap.size := by
  obtain ⟨sp, h⟩ := h
  exact (Array.getElem?_eq_some_iff.1 h).1

theorem TabAt.frozen {w : World} {g : Nat} {u : List Typ} (h : TabAt w g u) (j : Nat) : w.frozen? ⟨g, j, none⟩ = false := by
  obtain ⟨sp, h⟩ := h
  exact frozen_of_row w g j _ _ h

theorem TabAt.below {w w' : World} {g : Nat} {u : List Typ} (h : TabAt w g u) (hb : Below w.heap.size w w') : TabAt w' g u := by
  have hl := h.lt
  obtain ⟨sp, h⟩ := h
  exact ⟨sp, (hb.block g hl).trans h⟩

theorem typ_flatA (x : Int) : ∀ (l : List Typ) (k : Nat), k < l.length → (l.flatMap typCells).set (k * 3 + 1) (.int .i64 x) = (l.set k ⟨(l.getD k noTyp).kind, x, (l.getD k noTyp).b⟩).flatMap typCells
  | [], k, h => by simp at h
  | y :: l, 0, h => by simp [typCells]
  | y :: l, k + 1, h => by
    have ih := typ_flatA x l k (by simpa using h)
    have e : (k + 1) * 3 + 1 = (k * 3 + 1) + 3 := by omega
    have e2 : (y :: l).getD (k + 1) noTyp = l.getD k noTyp := by simp
    rw [e2, List.set_cons_succ, List.flatMap_cons, List.flatMap_cons, ← ih, e, List.set_append_right _ _ (by simp [typCells])]
    simp [typCells]

theorem TabAt.link {w : World} {g : Nat} {u : List Typ} (h : TabAt w g u) (k b : Nat) (hk : k < u.length) (h0 : (u.getD k noTyp).kind = 0) (hb : (u.getD k noTyp).b = 0) : TabAt (w.setCell ⟨g, k * 3 + 1, none⟩ (.int .i64 b)) g (u.set k (linkT b)) := by
  obtain ⟨sp, h⟩ := h
  refine ⟨sp, ?_⟩
  have hl := typ_flat_length u
  have e : linkT b = ⟨(u.getD k noTyp).kind, b, (u.getD k noTyp).b⟩ := by rw [h0, hb]; rfl
  rw [heap_setCell_same _ _ _ _ _ _ h, List.setIfInBounds_toArray, List.set_append_left _ _ (by omega), typ_flatA _ _ _ hk, e]

theorem gro_set (w : World) (g j : Nat) (x : Value) : w.grownBy (w.setCell ⟨g, j, none⟩ x) (some g) := by
  have hb : Below 0 w (w.setCell ⟨g, j, none⟩ x) := (Below.refl _ _).setCell (Nat.zero_le _) x
  exact ⟨hb.os, hb.tape, hb.output, hb.size, fun k hk hr => heap_setCell_other w ⟨g, j, none⟩ k x (fun e => hr (by rw [e]))⟩

theorem Ok.same {u : List Typ} {r : Nat → Nat} {ρ : Nat → Tr} (h : Ok u r ρ) {τ : Nat → Tr} (hs : Sat u τ) {i j : Nat} (hi : i < u.length) (hj : j < u.length) (he : ρ i = ρ j) : τ i = τ j := by
  have h1 := (h.sat_iff τ).1 hs
  rw [h1 i hi, h1 j hj, he]

/-- What is known where two types were tried to be made one. -/
structure UniOk (u : List Typ) (a b : Nat) (v : Bool) (u' : List Typ) : Prop where
  len : u'.length = u.length
  yes : v = true → (∃ r' ρ', Ok u' r' ρ') ∧ (∀ τ, Sat u' τ ↔ Sat u τ ∧ τ a = τ b) ∧ (u' = u ∨ nfT u' < nfT u)
  no : v = false → ∀ τ, Sat u τ → τ a ≠ τ b

def UniEnd (g : Nat) (u : List Typ) (a b : Nat) (w : World) (e : Ending) (w' : World) : Prop :=
  ∃ (v : Bool) (u' : List Typ), e = .returned (.bool v) ∧ TabAt w' g u' ∧ w.grownBy w' (some g) ∧ UniOk u a b v u'

theorem uni_eq {u : List Typ} {r : Nat → Nat} {ρ : Nat → Tr} (h : Ok u r ρ) {a b : Nat} (ha : a < u.length) (hb : b < u.length) (he : ρ a = ρ b) : UniOk u a b true u :=
  ⟨rfl, fun _ => ⟨⟨r, ρ, h⟩, fun τ => ⟨fun hs => ⟨hs, h.same hs ha hb he⟩, fun hs => hs.1⟩, Or.inl rfl⟩, fun q => by cases q⟩

/-- The roots of both may be asked in their stead. -/
theorem UniOk.roots {u : List Typ} {r : Nat → Nat} {ρ : Nat → Tr} (h : Ok u r ρ) {a b i j : Nat} {v : Bool} {u' : List Typ} (ha : a < u.length) (hb : b < u.length) (hi : i < u.length) (hj : j < u.length) (ea : ρ i = ρ a) (eb : ρ j = ρ b) (hu : UniOk u i j v u') : UniOk u a b v u' := by
  refine ⟨hu.len, fun hv => ?_, fun hv τ hs he => ?_⟩
  · obtain ⟨h1, h2, h3⟩ := hu.yes hv
    refine ⟨h1, fun τ => ?_, h3⟩
    rw [h2 τ]
    constructor
    · rintro ⟨hs, he⟩
      exact ⟨hs, by rw [← h.same hs hi ha ea, ← h.same hs hj hb eb]; exact he⟩
    · rintro ⟨hs, he⟩
      exact ⟨hs, by rw [h.same hs hi ha ea, h.same hs hj hb eb]; exact he⟩
  · exact hu.no hv τ hs (by rw [h.same hs hi ha ea, h.same hs hj hb eb]; exact he)

theorem UniOk.turn {u : List Typ} {a b : Nat} {v : Bool} {u' : List Typ} (hu : UniOk u a b v u') : UniOk u b a v u' :=
  ⟨hu.len, fun hv => by
    obtain ⟨h1, h2, h3⟩ := hu.yes hv
    exact ⟨h1, fun τ => by rw [h2 τ]; exact ⟨fun h => ⟨h.1, h.2.symm⟩, fun h => ⟨h.1, h.2.symm⟩⟩, h3⟩, fun hv τ hs he => hu.no hv τ hs he.symm⟩

theorem uni_bind {u : List Typ} {r : Nat → Nat} {ρ : Nat → Tr} (h : Ok u r ρ) {i j : Nat} (hi : i < u.length) (hj : j < u.length) (h0 : (u.getD i noTyp).kind = 0) (hf : (u.getD i noTyp).a < 0) (ho : occT i (ρ j) = false) : UniOk u i j true (u.set i (linkT j)) := by
  obtain ⟨h1, h2⟩ := h.bind hi hj h0 hf ho
  refine ⟨by simp, fun _ => ⟨h1, h2, Or.inr ?_⟩, fun q => by cases q⟩
  have := nf_link (b := j) hi (by unfold freeT; rw [decide_eq_true h0, decide_eq_true hf]; rfl)
  omega

theorem uni_occ {u : List Typ} {r : Nat → Nat} {ρ : Nat → Tr} (h : Ok u r ρ) {i j : Nat} (hi : i < u.length) (hj : j < u.length) (hne : i ≠ j) (h0 : (u.getD i noTyp).kind = 0) (hf : (u.getD i noTyp).a < 0) (hup : (u.getD j noTyp).kind = 0 → (u.getD j noTyp).a < 0) (ho : occT i (ρ j) = true) : UniOk u i j false u := by
  refine ⟨rfl, fun q => (by cases q), fun _ τ hs he => ?_⟩
  have h1 := (h.sat_iff τ).1 hs
  have hn : ∀ q x, ρ j ≠ .tag q x := fun q x e => by
    by_cases hk : (u.getD j noTyp).kind = 0
    · rw [h.free j hj hk (hup hk)] at ho
      simp [varT, occT] at ho
      exact hne ho.symm
    · rw [h.con hj hk] at e
      exact rhs_no_tag _ _ _ _ e
  have h2 := occ_lt τ i (ρ j) ho hn
  rw [← h1 j hj, ← he] at h2
  omega

end Go.Proofs.YtjjanmccijghgaaDoor
