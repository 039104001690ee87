/-
  Types, the specification's Unified. Conditions: written at each theorem.
-/
import Derived.Test.YtjjanmccijghgaaDoorIu
import Derived.Test.YtjjanmccijghgaaDoorHm
namespace Go.Proofs.YtjjanmccijghgaaDoor
open Go.ChangeShapes Go.WideShapes Go.ChangeAt Go.RowKit
set_option linter.unusedVariables false

theorem typ_cells_at {w : World} {g : Nat} {ts : List Typ} (h : TypAt w g ts) (j : Nat) (u : Value) (hu : (ts.flatMap typCells)[j]? = some u) : w.cell? ((⟨g, 0, none⟩ : Addr).add j) = some u := by
  have hj : j < ts.length * 3 := by
    have := (List.getElem?_eq_some_iff.1 hu).1
    rwa [typ_flat_length] at this
  have e : j / 3 * 3 + j % 3 = j := by omega
  have h1 := typ_flat_at ts (j / 3) (j % 3) (by omega) (by omega)
  rw [e, hu] at h1
  rw [add_plain]
  have t := h (j / 3) (by omega)
  have hm : j % 3 = 0 ∨ j % 3 = 1 ∨ j % 3 = 2 := by omega
  rw [h1]
  rcases hm with hm | hm | hm
  · rw [hm]; exact (congrArg (fun x => w.cell? ⟨g, x, none⟩) (show 0 + j = j / 3 * 3 by omega)).trans t.c0
  · rw [hm]; exact (congrArg (fun x => w.cell? ⟨g, x, none⟩) (show 0 + j = j / 3 * 3 + 1 by omega)).trans t.c1
  · rw [hm]; exact (congrArg (fun x => w.cell? ⟨g, x, none⟩) (show 0 + j = j / 3 * 3 + 2 by omega)).trans t.c2

theorem tab_of_own {w : World} {B : Nat} {v : Value} {n : Nat} {xs : List Value} {ts : List Typ} (h : w.ownsRow B 35 3 v n xs) (hn : n = ts.length) (hx : xs = ts.flatMap typCells) (h0 : 0 < ts.length) : ∃ g cap, v = .slice (some ⟨g, 0, none⟩) ts.length cap ∧ TabAt w g ts ∧ B ≤ g := by
  subst hn hx
  rcases h.2 with ⟨rfl, hz⟩ | ⟨g, cap, cur, rfl, hb, hg, hn, hm, hs, ht⟩
  · omega
  · refine ⟨g, cap, rfl, ⟨cur.toList.drop (ts.length * 3), ?_⟩, hb⟩
    rw [hg]
    congr 2
    apply Array.toList_inj.1
    rw [← ht]
    simp

/-- The answer, where the table behind it is known. -/
theorem ans_no {ts u : List Typ} {a b : Nat} (h : UniOk ts a b false u) : UniAns ts a b [] false :=
  Or.inr ⟨rfl, rfl, fun τ hs he => absurd he (h.no rfl τ hs)⟩

theorem ans_yes {ts u : List Typ} {a b : Nat} {r : Nat → Nat} {ρ : Nat → Tr} (h : UniOk ts a b true u) (ho : Ok u r ρ) (hz : sizeT (ρ a) ≤ 60) : UniAns ts a b (shoT 0 (ρ a) []).1 true :=
  Or.inl ⟨rfl, u, r, ρ, ho, h.len, (h.yes rfl).2.1, hz, rfl⟩

theorem ans_great {ts u : List Typ} {a b : Nat} {r : Nat → Nat} {ρ : Nat → Tr} (h : UniOk ts a b true u) (ho : Ok u r ρ) (ha : a < ts.length) (hz : 60 < sizeT (ρ a)) : UniAns ts a b [] false :=
  Or.inr ⟨rfl, rfl, fun τ hs he => by
    have h1 := ((h.yes rfl).2.1 τ).2 ⟨hs, he⟩
    have h2 := (ho.sat_iff τ).1 h1 a (by rw [h.len]; exact ha)
    have h3 := size_sub τ (ρ a)
    rw [← h2] at h3
    omega⟩

theorem info_typ' : (Tryd.prog.info? 35).map (fun i => (i.zero, i.size, i.bytes)) = some (some (.agg #[.int .i64 0, .int .i64 0, .int .i64 0]), 3, 24) := by kernel_rfl

def UniRet (ts : List Typ) (a b : Int) (w : World) (e : Ending) (w' : World) : Prop :=
  ∃ (s : List UInt8) (v : Bool), e = .returned (.tuple #[.string ⟨s.toArray⟩, .bool v]) ∧ UniE ts a b s v ∧ Below w.heap.size w w'

end Go.Proofs.YtjjanmccijghgaaDoor
