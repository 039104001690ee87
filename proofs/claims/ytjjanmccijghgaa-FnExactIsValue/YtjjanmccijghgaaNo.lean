/-
  Node: a slice of them that is handed in, opened. Conditions: written at each theorem.
-/
import Derived.Test.YtjjanmccijghgaaNa
import Derived.Deep.Slices
namespace Go.Proofs.Ytjjanmccijghgaa
open Go.ChangeShapes Go.WideShapes Go.ChangeAt Go.RowKit
set_option linter.unusedVariables false

theorem nod_cells : Try.prog.cellsOf 31 = 7 := by kernel_rfl
theorem nod_cells3 : Try.prog.cellsOf 3 = 1 := by kernel_rfl
theorem nod_cells9 : Try.prog.cellsOf 9 = 1 := by kernel_rfl

theorem nod_plain {w : World} {a : Addr} {v : Value} (h : w.cell? a = some v) : a = ⟨a.block, a.off, none⟩ := by
  obtain ⟨b, o, s⟩ := a
  cases s with
  | none => rfl
  | some s =>
    simp only [World.cell?] at h
    split at h <;> simp at h

set_option maxRecDepth 20000 in
/-- One that is read out of its cells. -/
theorem nod_of_cells {H : Type} {enc : TypeId × Value → H} {w : World} {base : Nat} {spare : Nat → Bool} {held : Bool} {fuel : Nat} {cs : List Value} {y : DataW H × List MemPlace} (hl : cs.length = 7)
    (h : DataW.trod enc Try.prog w base spare held fuel 31 cs = some y) : ∃ t : Nod, t.name.size ≤ maxLen ∧ t.other.size ≤ maxLen ∧ cs = nodCells t := by
  obtain ⟨ys, k, _, _, _, hyl, hf⟩ := DataW.trod_struct Try.underlying31 h
  match ys, hyl, cs, hl with
  | [u0, u1, u2, u3, u4, u5, u6], _, [v0, v1, v2, v3, v4, v5, v6], _ =>
    have g0 := hf 0 _ rfl
    have g1 := hf 1 _ rfl
    have g2 := hf 2 _ rfl
    have g3 := hf 3 _ rfl
    have g4 := hf 4 _ rfl
    have g5 := hf 5 _ rfl
    have g6 := hf 6 _ rfl
    simp [nod_cells3, nod_cells9] at g0 g1 g2 g3 g4 g5 g6
    obtain ⟨n0, e0, _, _⟩ := DataW.trod_int Try.underlying3 g0
    obtain ⟨n1, e1, _, _⟩ := DataW.trod_int Try.underlying3 g1
    obtain ⟨n2, e2, _, _⟩ := DataW.trod_int Try.underlying3 g2
    obtain ⟨n3, e3, _, _⟩ := DataW.trod_int Try.underlying3 g3
    obtain ⟨n4, e4, _, _⟩ := DataW.trod_int Try.underlying3 g4
    obtain ⟨n5, e5, _, hs5⟩ := DataW.trod_string Try.underlying9 g5
    obtain ⟨n6, e6, _, hs6⟩ := DataW.trod_string Try.underlying9 g6
    simp at e0 e1 e2 e3 e4 e5 e6
    subst e0 e1 e2 e3 e4 e5 e6
    exact ⟨⟨n0, n1, n2, n3, n4, n5, n6⟩, hs5, hs6, rfl⟩

set_option maxRecDepth 20000 in
theorem open_nods {H : Type} {enc : TypeId × Value → H} {w : World} {base : Nat} {spare : Nat → Bool} {held : Bool} {fuel : Nat} {a : Option Addr} {len cap : Nat} {y : DataW H × List MemPlace}
    (h : DataW.trod enc Try.prog w base spare held fuel 22 [.slice a len cap] = some y) :
    ∃ (ts : List Nod) (b o : Nat), ts.length = len ∧ (0 < len → a = some ⟨b, o, none⟩) ∧ len ≤ maxLen ∧ (∀ i, i < len → (ts.getD i noNod).name.size ≤ maxLen ∧ (ts.getD i noNod).other.size ≤ maxLen) ∧ ANods w b o ts := by
  rcases Deep.open_slice Try.underlying22 h with ⟨h0, _⟩ | ⟨ad, l, c, m, k, D, Pl, hcs, hb, hlc, hcm, hm, _, hx⟩
  · simp only [List.cons.injEq, Value.slice.injEq, and_true] at h0
    obtain ⟨rfl, rfl, rfl⟩ := h0
    exact ⟨[], 0, 0, rfl, fun h => absurd h (by omega), by omega, fun i hi => absurd hi (by omega), fun i hi => absurd hi (by simp)⟩
  · simp only [List.cons.injEq, Value.slice.injEq, and_true] at hcs
    obtain ⟨rfl, rfl, rfl⟩ := hcs
    have hlm : len ≤ m := by rw [hm]; split <;> omega
    have each : ∀ i, i < len → ∃ t : Nod, (t.name.size ≤ maxLen ∧ t.other.size ≤ maxLen) ∧ w.cell? (ad.add (i * 7)) = some (.int .i64 t.kind) ∧ w.cell? (ad.add (i * 7 + 1)) = some (.int .i64 t.a) ∧ w.cell? (ad.add (i * 7 + 2)) = some (.int .i64 t.b) ∧ w.cell? (ad.add (i * 7 + 3)) = some (.int .i64 t.c) ∧ w.cell? (ad.add (i * 7 + 4)) = some (.int .i64 t.n) ∧ w.cell? (ad.add (i * 7 + 5)) = some (.string t.name) ∧ w.cell? (ad.add (i * 7 + 6)) = some (.string t.other) := by
      intro i hi
      obtain ⟨cs', h1, h2⟩ := hx i (by omega)
      rw [nod_cells] at h1
      obtain ⟨_, hlen, hcell⟩ := World.cells?_some h1
      obtain ⟨t, z5, z6, rfl⟩ := nod_of_cells hlen h2
      have c0 := hcell 0 (by omega)
      have c1 := hcell 1 (by omega)
      have c2 := hcell 2 (by omega)
      have c3 := hcell 3 (by omega)
      have c4 := hcell 4 (by omega)
      have c5 := hcell 5 (by omega)
      have c6 := hcell 6 (by omega)
      rw [Deep.add_add] at c0 c1 c2 c3 c4 c5 c6
      exact ⟨t, ⟨z5, z6⟩, by simpa [nodCells] using c0, by simpa [nodCells] using c1, by simpa [nodCells] using c2, by simpa [nodCells] using c3, by simpa [nodCells] using c4, by simpa [nodCells] using c5, by simpa [nodCells] using c6⟩
    haveI : Inhabited Nod := ⟨noNod⟩
    obtain ⟨f, hf⟩ := Deep.choose_lt each
    have hg : ∀ i, i < len → ((List.range len).map f).getD i noNod = f i := fun i hi => by simp [List.getD, List.getElem?_range hi]
    have hpl : 0 < len → ad = ⟨ad.block, ad.off, none⟩ := fun h => by
      have := (hf 0 h).2.1
      rw [show ad.add (0 * 7) = ad by simp [Addr.add]] at this
      exact nod_plain this
    refine ⟨(List.range len).map f, ad.block, ad.off, by simp, fun h => by rw [← hpl h], by omega, fun i hi => ?_, fun i hi => ?_⟩
    · rw [hg i hi]
      exact (hf i hi).1
    · have hi' : i < len := by simpa using hi
      rw [hg i hi']
      have he := hpl (by omega)
      generalize ad.block = b at he
      generalize ad.off = o at he
      subst he
      have q := hf i hi'
      simp only [add_plain] at q
      exact ⟨q.2.1, q.2.2.1, q.2.2.2.1, q.2.2.2.2.1, q.2.2.2.2.2.1, q.2.2.2.2.2.2.1, q.2.2.2.2.2.2.2⟩
end Go.Proofs.Ytjjanmccijghgaa
