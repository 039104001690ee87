/-
  Val: a slice of them that is handed in, opened. Conditions: written at each theorem.
-/
import Derived.Test.YthmfkbnfdheopaaR1a
import Derived.Deep.Slices
namespace Go.Proofs.Ythmfkbnfdheopaa
open Go.ChangeShapes Go.WideShapes Go.ChangeAt Go.RowKit
set_option linter.unusedVariables false

theorem vl_cells : Try.prog.cellsOf 40 = 2 := by kernel_rfl
theorem vl_cells3 : Try.prog.cellsOf 3 = 1 := by kernel_rfl

theorem vl_plain {w : World} {a : Addr} {v : Value} (h : w.cell? a = some v) : a = ⟨a.block, a.off, none⟩ := by
  obtain ⟨b, o, s⟩ := a
  cases s with
  | none => rfl
  | some s =>
    simp only [World.cell?] at h
    split at h <;> simp at h

/-- One that is read out of its cells. -/
theorem vl_of_cells {H : Type} {enc : TypeId × Value → H} {w : World} {base : Nat} {spare : Nat → Bool} {held : Bool} {fuel : Nat} {cs : List Value} {y : DataW H × List MemPlace} (hl : cs.length = 2)
    (h : DataW.trod enc Try.prog w base spare held fuel 40 cs = some y) : ∃ t : Vl, cs = vlCells t := by
  obtain ⟨ys, k, _, _, _, hyl, hf⟩ := DataW.trod_struct Try.underlying40 h
  match ys, hyl, cs, hl with
  | [u0, u1], _, [v0, v1], _ =>
    have g0 := hf 0 _ rfl
    have g1 := hf 1 _ rfl
    simp [vl_cells3] at g0 g1
    obtain ⟨n0, e0, _, _⟩ := DataW.trod_int Try.underlying3 g0
    simp at e0
    subst e0
    obtain ⟨n1, e1, _, _⟩ := DataW.trod_int Try.underlying3 g1
    simp at e1
    subst e1
    exact ⟨⟨n0, n1⟩, rfl⟩

theorem open_vls {H : Type} {enc : TypeId × Value → H} {w : World} {base : Nat} {spare : Nat → Bool} {held : Bool} {fuel : Nat} {a : Option Addr} {len cap : Nat} {y : DataW H × List MemPlace}
    (h : DataW.trod enc Try.prog w base spare held fuel 25 [.slice a len cap] = some y) :
    ∃ (ts : List Vl) (b o : Nat), ts.length = len ∧ (0 < len → a = some ⟨b, o, none⟩) ∧ len ≤ maxLen ∧ AVls w b o ts := by
  rcases Deep.open_slice Try.underlying25 h with ⟨h0, _⟩ | ⟨ad, l, c, m, k, D, Pl, hcs, hb, hlc, hcm, hm, _, hx⟩
  · simp only [List.cons.injEq, Value.slice.injEq, and_true] at h0
    obtain ⟨rfl, rfl, rfl⟩ := h0
    exact ⟨[], 0, 0, rfl, fun h => absurd h (by omega), by omega, fun i hi => absurd hi (by simp)⟩
  · simp only [List.cons.injEq, Value.slice.injEq, and_true] at hcs
    obtain ⟨rfl, rfl, rfl⟩ := hcs
    have hlm : len ≤ m := by rw [hm]; split <;> omega
    have each : ∀ i, i < len → ∃ t : Vl, w.cell? (ad.add (i * 2)) = some (.int .i64 t.kind) ∧ w.cell? (ad.add (i * 2 + 1)) = some (.int .i64 t.n) := by
      intro i hi
      obtain ⟨cs', h1, h2⟩ := hx i (by omega)
      rw [vl_cells] at h1
      obtain ⟨_, hlen, hcell⟩ := World.cells?_some h1
      obtain ⟨t, rfl⟩ := vl_of_cells hlen h2
      have c0 := hcell 0 (by omega)
      have c1 := hcell 1 (by omega)
      rw [Deep.add_add] at c0 c1
      exact ⟨t, by simpa [vlCells] using c0, by simpa [vlCells] using c1⟩
    haveI : Inhabited Vl := ⟨noVl⟩
    obtain ⟨f, hf⟩ := Deep.choose_lt each
    have hg : ∀ i, i < len → ((List.range len).map f).getD i noVl = f i := fun i hi => by simp [List.getD, List.getElem?_range hi]
    have hpl : 0 < len → ad = ⟨ad.block, ad.off, none⟩ := fun h => by
      have := (hf 0 h).1
      rw [show ad.add (0 * 2) = ad by simp [Addr.add]] at this
      exact vl_plain this
    refine ⟨(List.range len).map f, ad.block, ad.off, by simp, fun h => by rw [← hpl h], by omega, fun i hi => ?_⟩
    · have hi' : i < len := by simpa using hi
      rw [hg i hi']
      have he := hpl (by omega)
      generalize ad.block = b at he
      generalize ad.off = o at he
      subst he
      have q := hf i hi'
      simp only [add_plain] at q
      exact ⟨q.1, q.2⟩
end Go.Proofs.Ythmfkbnfdheopaa
