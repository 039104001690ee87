/-
  EnvCell: a slice of them that is handed in, opened. Conditions: written at each theorem.
-/
import Derived.Test.YthmfkbnfdheopaaE1a
import Derived.Test.YthmfkbnfdheopaaR1o
namespace Go.Proofs.Ythmfkbnfdheopaa
open Go.ChangeShapes Go.WideShapes Go.ChangeAt Go.RowKit
set_option linter.unusedVariables false

theorem cel_cells : Try.prog.cellsOf 79 = 5 := by kernel_rfl
theorem cel_cells3 : Try.prog.cellsOf 3 = 1 := by kernel_rfl

theorem cel_plain {w : World} {a : Addr} {v : Value} (h : w.cell? a = some v) : a = ⟨a.block, a.off, none⟩ := by
  obtain ⟨b, o, s⟩ := a
  cases s with
  | none => rfl
  | some s =>
    simp only [World.cell?] at h
    split at h <;> simp at h

/-- One that is read out of its cells. -/
theorem cel_of_cells {H : Type} {enc : TypeId × Value → H} {w : World} {base : Nat} {spare : Nat → Bool} {held : Bool} {fuel : Nat} {cs : List Value} {y : DataW H × List MemPlace} (hl : cs.length = 5)
    (h : DataW.trod enc Try.prog w base spare held fuel 79 cs = some y) : ∃ t : Cel, cs = celCells t := by
  obtain ⟨ys, k, _, _, _, hyl, hf⟩ := DataW.trod_struct Try.underlying79 h
  match ys, hyl, cs, hl with
  | [u0, u1, u2, u3], _, [v0, v1, v2, v3, v4], _ =>
    have g0 := hf 0 _ rfl
    have g1 := hf 1 _ rfl
    have g2 := hf 2 _ rfl
    have g3 := hf 3 _ rfl
    simp [cel_cells3, vl_cells] at g0 g1 g2 g3
    obtain ⟨n0, e0, _, _⟩ := DataW.trod_int Try.underlying3 g0
    simp at e0
    subst e0
    obtain ⟨n1, e1, _, _⟩ := DataW.trod_int Try.underlying3 g1
    simp at e1
    subst e1
    obtain ⟨⟨n2, n3⟩, e2⟩ := vl_of_cells rfl g2
    simp [vlCells] at e2
    obtain ⟨rfl, rfl⟩ := e2
    obtain ⟨n4, e4, _, _⟩ := DataW.trod_int Try.underlying3 g3
    simp at e4
    subst e4
    exact ⟨⟨n0, n1, n2, n3, n4⟩, rfl⟩

theorem open_cels {H : Type} {enc : TypeId × Value → H} {w : World} {base : Nat} {spare : Nat → Bool} {held : Bool} {fuel : Nat} {a : Option Addr} {len cap : Nat} {y : DataW H × List MemPlace}
    (h : DataW.trod enc Try.prog w base spare held fuel 22 [.slice a len cap] = some y) :
    ∃ (ts : List Cel) (b o : Nat), ts.length = len ∧ (0 < len → a = some ⟨b, o, none⟩) ∧ len ≤ maxLen ∧ ACels w b o ts := by
  rcases Deep.open_slice Try.underlying22 h with ⟨h0, _⟩ | ⟨ad, l, c, m, k, D, Pl, hcs, hb, hlc, hcm, hm, _, hx⟩
  · simp only [List.cons.injEq, Value.slice.injEq, and_true] at h0
    obtain ⟨rfl, rfl, rfl⟩ := h0
    exact ⟨[], 0, 0, rfl, fun h => absurd h (by omega), by omega, fun i hi => absurd hi (by simp)⟩
  · simp only [List.cons.injEq, Value.slice.injEq, and_true] at hcs
    obtain ⟨rfl, rfl, rfl⟩ := hcs
    have hlm : len ≤ m := by rw [hm]; split <;> omega
    have each : ∀ i, i < len → ∃ t : Cel, w.cell? (ad.add (i * 5)) = some (.int .i64 t.node) ∧ w.cell? (ad.add (i * 5 + 1)) = some (.int .i64 t.role) ∧ w.cell? (ad.add (i * 5 + 2)) = some (.int .i64 t.vk) ∧ w.cell? (ad.add (i * 5 + 3)) = some (.int .i64 t.vn) ∧ w.cell? (ad.add (i * 5 + 4)) = some (.int .i64 t.next) := by
      intro i hi
      obtain ⟨cs', h1, h2⟩ := hx i (by omega)
      rw [cel_cells] at h1
      obtain ⟨_, hlen, hcell⟩ := World.cells?_some h1
      obtain ⟨t, rfl⟩ := cel_of_cells hlen h2
      have c0 := hcell 0 (by omega)
      have c1 := hcell 1 (by omega)
      have c2 := hcell 2 (by omega)
      have c3 := hcell 3 (by omega)
      have c4 := hcell 4 (by omega)
      rw [Deep.add_add] at c0 c1 c2 c3 c4
      exact ⟨t, by simpa [celCells] using c0, by simpa [celCells] using c1, by simpa [celCells] using c2, by simpa [celCells] using c3, by simpa [celCells] using c4⟩
    haveI : Inhabited Cel := ⟨noCel⟩
    obtain ⟨f, hf⟩ := Deep.choose_lt each
    have hg : ∀ i, i < len → ((List.range len).map f).getD i noCel = f i := fun i hi => by simp [List.getD, List.getElem?_range hi]
    have hpl : 0 < len → ad = ⟨ad.block, ad.off, none⟩ := fun h => by
      have := (hf 0 h).1
      rw [show ad.add (0 * 5) = ad by simp [Addr.add]] at this
      exact cel_plain this
    refine ⟨(List.range len).map f, ad.block, ad.off, by simp, fun h => by rw [← hpl h], by omega, fun i hi => ?_⟩
    · have hi' : i < len := by simpa using hi
      rw [hg i hi']
      have he := hpl (by omega)
      generalize ad.block = b at he
      generalize ad.off = o at he
      subst he
      have q := hf i hi'
      simp only [add_plain] at q
      exact ⟨q.1, q.2.1, q.2.2.1, q.2.2.2.1, q.2.2.2.2⟩
end Go.Proofs.Ythmfkbnfdheopaa
