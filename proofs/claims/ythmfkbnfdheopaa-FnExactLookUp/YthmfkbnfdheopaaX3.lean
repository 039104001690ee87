/-
  A heap of values that is handed in, opened. Conditions: written at each theorem.
-/
import Derived.Test.YthmfkbnfdheopaaX1
import Derived.Test.YthmfkbnfdheopaaE1o
import Derived.Test.YthmfkbnfdheopaaC1o
import Derived.Test.YthmfkbnfdheopaaT1o
namespace Go.Proofs.Ythmfkbnfdheopaa
open Go.ChangeShapes Go.WideShapes Go.ChangeAt Go.RowKit
set_option linter.unusedVariables false

theorem sl_of {H : Type} {enc : TypeId × Value → H} {w : World} {base : Nat} {spare : Nat → Bool} {held : Bool} {fuel : Nat} {t e : TypeId} {v : Value} {y : DataW H × List MemPlace} (ht : Try.prog.underlying t = some (.slice e))
    (h : DataW.trod enc Try.prog w base spare held fuel t [v] = some y) : ∃ a n c, v = .slice a n c := by
  rcases Deep.open_slice ht h with ⟨h0, _⟩ | ⟨ad, l, c, m, k, D, Pl, hcs, _⟩
  · simp only [List.cons.injEq, and_true] at h0
    exact ⟨none, 0, 0, h0⟩
  · simp only [List.cons.injEq, and_true] at hcs
    exact ⟨_, _, _, hcs⟩

theorem hp_c0 : Try.prog.cellsOf 22 = 1 := by kernel_rfl
theorem hp_c1 : Try.prog.cellsOf 23 = 1 := by kernel_rfl
theorem hp_c2 : Try.prog.cellsOf 24 = 1 := by kernel_rfl
theorem hp_c3 : Try.prog.cellsOf 25 = 1 := by kernel_rfl
theorem hp_cells : Try.prog.cellsOf 27 = 4 := by kernel_rfl

set_option maxRecDepth 20000 in
theorem hp_of_cells {H : Type} {enc : TypeId × Value → H} {w : World} {base : Nat} {spare : Nat → Bool} {held : Bool} {fuel : Nat} {cs : List Value} {y : DataW H × List MemPlace} (hl : cs.length = 4)
    (hh : DataW.trod enc Try.prog w base spare held fuel 27 cs = some y) :
    ∃ (a0 a1 a2 a3 : Option Addr) (c0 c1 c2 c3 g0 g1 g2 g3 o0 o1 o2 o3 : Nat) (h : Hq), cs = [.slice a0 h.envs.length c0, .slice a1 h.clos.length c1, .slice a2 h.twos.length c2, .slice a3 h.refs.length c3] ∧ h.envs.length ≤ maxLen ∧ h.clos.length ≤ maxLen ∧ h.twos.length ≤ maxLen ∧ h.refs.length ≤ maxLen ∧ AHp w a0 a1 a2 a3 g0 g1 g2 g3 o0 o1 o2 o3 h := by
  obtain ⟨ys, k, _, _, _, hyl, hf⟩ := DataW.trod_struct Try.underlying27 hh
  match ys, hyl, cs, hl with
  | [u0, u1, u2, u3], _, [v0, v1, v2, v3], _ =>
    have q0 := hf 0 _ rfl
    have q1 := hf 1 _ rfl
    have q2 := hf 2 _ rfl
    have q3 := hf 3 _ rfl
    simp [hp_c0, hp_c1, hp_c2, hp_c3] at q0 q1 q2 q3
    obtain ⟨a0, n0, c0, rfl⟩ := sl_of Try.underlying22 q0
    obtain ⟨t0, g0, o0, rfl, e0, m0, r0⟩ := open_cels q0
    obtain ⟨a1, n1, c1, rfl⟩ := sl_of Try.underlying23 q1
    obtain ⟨t1, g1, o1, rfl, e1, m1, r1⟩ := open_clqs q1
    obtain ⟨a2, n2, c2, rfl⟩ := sl_of Try.underlying24 q2
    obtain ⟨t2, g2, o2, rfl, e2, m2, r2⟩ := open_tws q2
    obtain ⟨a3, n3, c3, rfl⟩ := sl_of Try.underlying25 q3
    obtain ⟨t3, g3, o3, rfl, e3, m3, r3⟩ := open_vls q3
    exact ⟨a0, a1, a2, a3, c0, c1, c2, c3, g0, g1, g2, g3, o0, o1, o2, o3, ⟨t0, t1, t2, t3⟩, rfl, m0, m1, m2, m3, ⟨e0, r0, e1, r1, e2, r2, e3, r3⟩⟩
end Go.Proofs.Ythmfkbnfdheopaa
