/-
  The draws of tables of types and of numbers of entries. Conditions: written at each theorem.
-/
import Derived.Test.YtjjanmccijghgaaDoorHq
namespace Go.Proofs.YtjjanmccijghgaaDoor
open Go.ChangeShapes Go.WideShapes Go.ChangeAt Go.RowKit
set_option linter.unusedVariables false

set_option maxRecDepth 20000 in
theorem pick_at {a : Option Addr} {len cap : Nat} {zs : List Int} {B : Nat} {w w1 : World} {g kc n : Nat} (h : DrT AnyB a len cap zs B w (.slice (some ⟨g, 0, none⟩) n kc) n w1) (hn : 3 ≤ n) (hn2 : n ≤ 14) :
    Calls Tryd.prog 15 #[.pointer (some ⟨B, 0, none⟩), .slice (some ⟨g, 0, none⟩) n kc] w1 fun e w' => ∃ K : Int, e = .returned (.int .i64 K) ∧ -1 ≤ K ∧ K ≤ n ∧ DrT AnyB a len cap zs B w (.slice (some ⟨g, 0, none⟩) n kc) n w' := by
  have HD : Hid (DrT AnyB a len cap zs B w (.slice (some ⟨g, 0, none⟩) n kc) n w1) := h
  clear h
  go_enter Tryd.func15, Tryd.ntmps15
  go_wp2_with fail
  refine (HD.out.once 2 (by omega)).mono ?_
  rintro e w2 ⟨b, rfl, h2, -⟩
  have H2 : Hid (DrT AnyB a len cap zs B w (.slice (some ⟨g, 0, none⟩) n kc) n w2) := h2
  clear h2 HD
  cases b
  · go_wp2_with fail
    refine (H2.out.draw ((n : Int) + 2) (by omega) (by omega)).mono ?_
    rintro e w3 ⟨K, rfl, hK, h3, -⟩
    have H3 : Hid (DrT AnyB a len cap zs B w (.slice (some ⟨g, 0, none⟩) n kc) n w3) := h3
    clear h3 H2
    go_wp2
    go_ret
    exact ⟨_, rfl, by omega, by omega, H3.out⟩
  · go_wp2_with fail
    refine (H2.out.draw 2 (by omega) (by omega)).mono ?_
    rintro e w3 ⟨K, rfl, hK, h3, -⟩
    have H3 : Hid (DrT AnyB a len cap zs B w (.slice (some ⟨g, 0, none⟩) n kc) n w3) := h3
    clear h3 H2
    go_wp2
    go_ret
    exact ⟨_, rfl, by omega, by omega, H3.out⟩

/-- What the draws end with: a table of three entries to fourteen. -/
def TabEnd (w : World) (v : Value) (w' : World) (n : Nat) : Prop :=
  ∃ (g c : Nat) (ts : List Typ), v = .slice (some ⟨g, 0, none⟩) n c ∧ ts.length = n ∧ TypAt w' g ts ∧ 3 ≤ n ∧ n ≤ 14 ∧ w.heap.size ≤ g ∧ Below w.heap.size w w'

theorem DrT.ends {a : Option Addr} {len cap : Nat} {zs : List Int} {w0 w w1 : World} {g kc n : Nat} (h : DrT AnyB a len cap zs w0.heap.size w (.slice (some ⟨g, 0, none⟩) n kc) n w1) (hn : 3 ≤ n) (hn2 : n ≤ 14) (hb : Below w0.heap.size w0 w) : TabEnd w0 (.slice (some ⟨g, 0, none⟩) n kc) w1 n := by
  obtain ⟨g', cap', l, hv, hl, hr, ho⟩ := h.tab
  subst hl
  injection hv with hv1 _ hv3
  injection hv1 with hv1
  injection hv1 with hv1
  subst hv1 hv3
  have hs := hb.size
  have hN := h.only
  obtain ⟨a2, g2, c2, sp, he, hne, hA, hbg, _⟩ := ownTyp_form (ts := l) ho
  injection he with he1 _ _
  have := hne (by omega)
  rw [this] at he1
  injection he1 with he1
  injection he1 with he1
  subst he1
  exact ⟨g, kc, l, rfl, rfl, hA, hn, hn2, by omega, ⟨hN.os.trans hb.os, hN.tape.trans hb.tape, hN.output.trans hb.output, Nat.le_trans hs hN.size, fun k hk => (hN.block k (by omega) (by omega)).trans (hb.block k hk)⟩⟩

set_option maxRecDepth 20000 in
theorem draw_sizeOf (a : Option Addr) (len cap : Nat) (zs : List Int) (w : World) (hrow : IsRow w a len cap zs) (hl : len ≤ 1048576) :
    Calls Tryd.prog 12 #[.slice a len cap] w fun e w' => ∃ (v : Value) (n : Nat) (i : Int), e = .returned (.tuple #[v, .int .i64 i]) ∧ -1 ≤ i ∧ i ≤ n ∧ TabEnd w v w' n := by
  have HN : Hid (Calls Tryd.prog 13 #[.slice a len cap] w fun e w' => e = .returned (.pointer (some ⟨w.heap.size, 0, none⟩)) ∧ CurAt a len cap zs w.heap.size w' (newS zs len) ∧ Below w.heap.size w w') := new_at a len cap zs w hrow hl
  clear hrow
  go_enter Tryd.func12, Tryd.ntmps12
  go_wp2_with fail
  refine Calls.mono HN.out ?_
  rintro e w1 ⟨rfl, c1, b1⟩
  have C1 : Hid (CurAt a len cap zs w.heap.size w1 (newS zs len)) := c1
  have B1 : Hid (Below w.heap.size w w1) := b1
  have L1 : Hid (w.heap.size < w1.heap.size) := c1.size
  clear c1 b1 HN
  go_wp2_with fail
  refine (spec_tab C1.out L1.out).mono ?_
  rintro e w2 ⟨v, n, rfl, hn3, hn14, hd⟩
  obtain ⟨g, kc, rfl⟩ := hd.form
  have HD : Hid (DrT AnyB a len cap zs w.heap.size w1 (.slice (some ⟨g, 0, none⟩) n kc) n w2) := hd
  clear hd
  go_wp2_with fail
  refine (pick_at HD.out hn3 hn14).mono ?_
  rintro e w3 ⟨K, rfl, hk0, hk1, h3⟩
  have H3 : Hid (DrT AnyB a len cap zs w.heap.size w1 (.slice (some ⟨g, 0, none⟩) n kc) n w3) := h3
  clear h3
  go_wp2
  go_ret2
  exact ⟨_, n, K, rfl, hk0, hk1, H3.out.ends hn3 hn14 B1.out⟩

set_option maxRecDepth 20000 in
theorem draw_unified (a : Option Addr) (len cap : Nat) (zs : List Int) (w : World) (hrow : IsRow w a len cap zs) (hl : len ≤ 1048576) :
    Calls Tryd.prog 6 #[.slice a len cap] w fun e w' => ∃ (v : Value) (n : Nat) (i j : Int), e = .returned (.tuple #[v, .int .i64 i, .int .i64 j]) ∧ -1 ≤ i ∧ i ≤ n ∧ -1 ≤ j ∧ j ≤ n ∧ TabEnd w v w' n := by
  have HN : Hid (Calls Tryd.prog 13 #[.slice a len cap] w fun e w' => e = .returned (.pointer (some ⟨w.heap.size, 0, none⟩)) ∧ CurAt a len cap zs w.heap.size w' (newS zs len) ∧ Below w.heap.size w w') := new_at a len cap zs w hrow hl
  clear hrow
  go_enter Tryd.func6, Tryd.ntmps6
  go_wp2_with fail
  refine Calls.mono HN.out ?_
  rintro e w1 ⟨rfl, c1, b1⟩
  have C1 : Hid (CurAt a len cap zs w.heap.size w1 (newS zs len)) := c1
  have B1 : Hid (Below w.heap.size w w1) := b1
  have L1 : Hid (w.heap.size < w1.heap.size) := c1.size
  clear c1 b1 HN
  go_wp2_with fail
  refine (spec_tab C1.out L1.out).mono ?_
  rintro e w2 ⟨v, n, rfl, hn3, hn14, hd⟩
  obtain ⟨g, kc, rfl⟩ := hd.form
  have HD : Hid (DrT AnyB a len cap zs w.heap.size w1 (.slice (some ⟨g, 0, none⟩) n kc) n w2) := hd
  clear hd
  go_wp2_with fail
  refine (pick_at HD.out hn3 hn14).mono ?_
  rintro e w3 ⟨K, rfl, hk0, hk1, h3⟩
  have H3 : Hid (DrT AnyB a len cap zs w.heap.size w1 (.slice (some ⟨g, 0, none⟩) n kc) n w3) := h3
  clear h3
  go_wp2_with fail
  refine (pick_at H3.out hn3 hn14).mono ?_
  rintro e w4 ⟨J, rfl, hj0, hj1, h4⟩
  have H4 : Hid (DrT AnyB a len cap zs w.heap.size w1 (.slice (some ⟨g, 0, none⟩) n kc) n w4) := h4
  clear h4
  go_wp2
  go_ret3
  exact ⟨_, n, K, J, rfl, hk0, hk1, hj0, hj1, H4.out.ends hn3 hn14 B1.out⟩
end Go.Proofs.YtjjanmccijghgaaDoor
