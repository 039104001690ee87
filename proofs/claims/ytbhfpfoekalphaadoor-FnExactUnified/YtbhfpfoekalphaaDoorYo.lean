/-
  Type: a slice of them that is handed in, opened. Conditions: written at each theorem.
-/
import Derived.Test.YtbhfpfoekalphaaDoorYa
import Derived.Deep.Slices
namespace Go.Proofs.YtbhfpfoekalphaaDoor
open Go.ChangeShapes Go.WideShapes Go.ChangeAt Go.RowKit
set_option linter.unusedVariables false

theorem typ_cells : Tryd.prog.cellsOf 64 = 3 := by kernel_rfl
theorem typ_cells3 : Tryd.prog.cellsOf 3 = 1 := by kernel_rfl

theorem typ_plain {w : World} {a : Addr} {v : Value} (h : w.cell? a = some v) : a = ⟨a.block, a.off, none⟩ := by
  obtain ⟨b, o, s⟩ := a
  cases s with
  | none => rfl
  | some s =>
    simp only [World.cell?] at h
    split at h <;> simp at h

set_option maxRecDepth 20000 in
/-- One that is read out of its cells. -/
theorem typ_of_cells {H : Type} {enc : TypeId × Value → H} {w : World} {base : Nat} {spare : Nat → Bool} {held : Bool} {fuel : Nat} {cs : List Value} {y : DataW H × List MemPlace} (hl : cs.length = 3)
    (h : DataW.trod enc Tryd.prog w base spare held fuel 64 cs = some y) : ∃ t : Typ, cs = typCells t := by
  obtain ⟨ys, k, _, _, _, hyl, hf⟩ := DataW.trod_struct Tryd.underlying64 h
  match ys, hyl, cs, hl with
  | [u0, u1, u2], _, [v0, v1, v2], _ =>
    have g0 := hf 0 _ rfl
    have g1 := hf 1 _ rfl
    have g2 := hf 2 _ rfl
    simp [typ_cells3] at g0 g1 g2
    obtain ⟨n0, e0, _, _⟩ := DataW.trod_int Tryd.underlying3 g0
    obtain ⟨n1, e1, _, _⟩ := DataW.trod_int Tryd.underlying3 g1
    obtain ⟨n2, e2, _, _⟩ := DataW.trod_int Tryd.underlying3 g2
    simp at e0 e1 e2
    subst e0 e1 e2
    exact ⟨⟨n0, n1, n2⟩, rfl⟩

set_option maxRecDepth 20000 in
theorem open_typs {H : Type} {enc : TypeId × Value → H} {w : World} {base : Nat} {spare : Nat → Bool} {held : Bool} {fuel : Nat} {a : Option Addr} {len cap : Nat} {y : DataW H × List MemPlace}
    (h : DataW.trod enc Tryd.prog w base spare held fuel 36 [.slice a len cap] = some y) :
    ∃ (ts : List Typ) (b o : Nat), ts.length = len ∧ (0 < len → a = some ⟨b, o, none⟩) ∧ len ≤ maxLen ∧ ATyps w b o ts := by
  rcases Deep.open_slice Tryd.underlying36 h with ⟨h0, _⟩ | ⟨ad, l, c, m, k, D, Pl, hcs, hb, hlc, hcm, hm, _, hx⟩
  · simp only [List.cons.injEq, Value.slice.injEq, and_true] at h0
    obtain ⟨rfl, rfl, rfl⟩ := h0
    exact ⟨[], 0, 0, rfl, fun h => absurd h (by omega), by omega, fun i hi => absurd hi (by simp)⟩
  · simp only [List.cons.injEq, Value.slice.injEq, and_true] at hcs
    obtain ⟨rfl, rfl, rfl⟩ := hcs
    have hlm : len ≤ m := by rw [hm]; split <;> omega
    have each : ∀ i, i < len → ∃ t : Typ, w.cell? (ad.add (i * 3)) = some (.int .i64 t.kind) ∧ w.cell? (ad.add (i * 3 + 1)) = some (.int .i64 t.a) ∧ w.cell? (ad.add (i * 3 + 2)) = some (.int .i64 t.b) := by
      intro i hi
      obtain ⟨cs', h1, h2⟩ := hx i (by omega)
      rw [typ_cells] at h1
      obtain ⟨_, hlen, hcell⟩ := World.cells?_some h1
      obtain ⟨t, rfl⟩ := typ_of_cells hlen h2
      have c0 := hcell 0 (by omega)
      have c1 := hcell 1 (by omega)
      have c2 := hcell 2 (by omega)
      rw [Deep.add_add] at c0 c1 c2
      exact ⟨t, by simpa [typCells] using c0, by simpa [typCells] using c1, by simpa [typCells] using c2⟩
    haveI : Inhabited Typ := ⟨noTyp⟩
    obtain ⟨f, hf⟩ := Deep.choose_lt each
    have hg : ∀ i, i < len → ((List.range len).map f).getD i noTyp = f i := fun i hi => by simp [List.getD, List.getElem?_range hi]
    have hpl : 0 < len → ad = ⟨ad.block, ad.off, none⟩ := fun h => by
      have := (hf 0 h).1
      rw [show ad.add (0 * 3) = ad by simp [Addr.add]] at this
      exact typ_plain this
    refine ⟨(List.range len).map f, ad.block, ad.off, by simp, fun h => by rw [← hpl h], by omega, fun i hi => ?_⟩
    · have hi' : i < len := by simpa using hi
      rw [hg i hi']
      have he := hpl (by omega)
      generalize ad.block = b at he
      generalize ad.off = o at he
      subst he
      have q := hf i hi'
      simp only [add_plain] at q
      exact ⟨q.1, q.2.1, q.2.2⟩
end Go.Proofs.YtbhfpfoekalphaaDoor
