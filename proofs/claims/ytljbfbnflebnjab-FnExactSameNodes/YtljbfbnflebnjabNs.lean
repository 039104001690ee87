/-
  SameNodes, the specification's. Conditions: written at each theorem.
-/
import Derived.Test.YtljbfbnflebnjabNk
import Derived.Test.YtljbfbnflebnjabSt
import Derived.Deep.QuietTactic
import Derived.BigQuiet
import Derived.Laws.StructEq
namespace Go.Proofs.Ytljbfbnflebnjab
open Go.ChangeShapes Go.WideShapes Go.ChangeAt Go.RowKit
set_option linter.unusedVariables false

/-- Are two nodes the same, field by field? -/
def nodSame (x y : Nod) : Bool := x.kind == y.kind && x.a == y.a && x.b == y.b && x.c == y.c && x.n == y.n && x.name.toList == y.name.toList && x.other.toList == y.other.toList

theorem nod_bytes_ext {a b : ByteArray} (h : a.toList = b.toList) : a = b := by
  rw [ByteArray.toList_eq, ByteArray.toList_eq] at h
  cases a; cases b
  simp only at h
  congr 1
  exact Array.toList_inj.1 h

theorem nodSame_iff (x y : Nod) : nodSame x y = true ↔ x = y := by
  constructor
  · intro h
    simp only [nodSame, Bool.and_eq_true, beq_iff_eq] at h
    obtain ⟨⟨⟨⟨⟨⟨h0, h1⟩, h2⟩, h3⟩, h4⟩, h5⟩, h6⟩ := h
    have h5 := nod_bytes_ext h5
    have h6 := nod_bytes_ext h6
    cases x; cases y
    simp_all
  · rintro rfl
    simp [nodSame]

theorem nod_neq (x y : Nod) (w : World) : (binOp .neq 31 (.agg (nodCells x).toArray) (.agg (nodCells y).toArray)).run Try.prog w = .ok (.bool (!nodSame x y)) w := by
  have hu : Try.prog.underlying 31 = some (.struct (Try.prog.fieldsOf 31)) := by kernel_rfl
  rw [run_neq_struct, run_equalIn_agg _ _ _ _ _ hu (by kernel_rfl)]
  obtain ⟨x0, x1, x2, x3, x4, x5, x6⟩ := x
  obtain ⟨y0, y1, y2, y3, y4, y5, y6⟩ := y
  simp only [Program.fieldsOf, Try.underlying31, nodCells, nodSame]
  simp [go_sem, Op.eqFields, Try.underlying3, Try.underlying9]
  repeat' split
  all_goals simp [*]

theorem nod_eql (x y : Nod) (w : World) : (binOp .eql 31 (.agg (nodCells x).toArray) (.agg (nodCells y).toArray)).run Try.prog w = .ok (.bool (nodSame x y)) w := by
  have hu : Try.prog.underlying 31 = some (.struct (Try.prog.fieldsOf 31)) := by kernel_rfl
  rw [run_eql_struct, run_equalIn_agg _ _ _ _ _ hu (by kernel_rfl)]
  obtain ⟨x0, x1, x2, x3, x4, x5, x6⟩ := x
  obtain ⟨y0, y1, y2, y3, y4, y5, y6⟩ := y
  simp only [Program.fieldsOf, Try.underlying31, nodCells, nodSame]
  simp [go_sem, Op.eqFields, Try.underlying3, Try.underlying9]
  repeat' split
  all_goals simp [*]

/-- Are two lists of nodes the same? -/
def sameNod (ts us : List Nod) : Bool := ts.length == us.length && (List.range ts.length).all fun i => nodSame (ts.getD i noNod) (us.getD i noNod)

theorem sameNod_yes {ts us : List Nod} (hl : ts.length = us.length) (h : ∀ j, j < ts.length → nodSame (ts.getD j noNod) (us.getD j noNod) = true) : sameNod ts us = true := by
  simp only [sameNod, hl, beq_self_eq_true, Bool.true_and, List.all_eq_true, List.mem_range]
  intro j hj
  exact h j (by omega)

theorem sameNod_no {ts us : List Nod} {j : Nat} (hj : j < ts.length) (h : nodSame (ts.getD j noNod) (us.getD j noNod) = false) : sameNod ts us = false := by
  cases hs : sameNod ts us with
  | false => rfl
  | true =>
    simp only [sameNod, Bool.and_eq_true, List.all_eq_true, List.mem_range] at hs
    rw [hs.2 j hj] at h
    cases h

theorem sameNod_len {ts us : List Nod} (h : ¬ ts.length = us.length) : sameNod ts us = false := by
  simp [sameNod, h]

set_option maxHeartbeats 2000000 in
set_option maxRecDepth 20000 in
theorem spec_same (a b : Option Addr) (g h ca cb : Nat) (ts us : List Nod) (hl : ts.length ≤ 1048576) (hl2 : us.length ≤ 1048576) (ha : 0 < ts.length → a = some ⟨g, 0, none⟩) (hb : 0 < us.length → b = some ⟨h, 0, none⟩) (w : World) (hA : NodAt w g ts) (hB : NodAt w h us) :
    Calls Try.prog 5 #[.slice a ts.length ca, .slice b us.length cb] w fun e w' => e = .returned (.bool (sameNod ts us)) ∧ Below w.heap.size w w' := by
  have HA : Hid (NodAt w g ts) := hA
  have HB : Hid (NodAt w h us) := hB
  clear hA hB
  by_cases hlen : ts.length = us.length
  · have HL : Hid (ts.length = us.length) := hlen
    rw [← hlen]
    clear hlen
    go_enter Try.func5, Try.ntmps5
    go_wp2
    go_loopw [5] (fun i wr => ∃ k : Nat, k ≤ ts.length ∧ i = .int .i64 k ∧ Hid (∀ j, j < k → nodSame (ts.getD j noNod) (us.getD j noNod) = true) ∧ Below w.heap.size w wr) (fun i _ => ts.length - (intOf i).toNat)
    case atStart => exact ⟨0, by omega, rfl, (fun j hj => absurd hj (by omega)), Below.refl _ _⟩
    case round =>
      obtain ⟨k, hk, rfl, HJ, hbl⟩ := hrel
      by_cases hin : k < ts.length
      · have e1 : (k : Int) < ts.length := by omega
        obtain rfl := ha (by omega)
        obtain rfl := hb (by have := HL.out; omega)
        have t := (HA.out.below hbl (fun h => HA.out.lt h)) k hin
        have u := (HB.out.below hbl (fun h => HB.out.lt h)) k (by have := HL.out; omega)
        have HN : Hid (∀ v : Bool, nodSame (ts.getD k noNod) (us.getD k noNod) = v → (v = true → ∀ j, j < k + 1 → nodSame (ts.getD j noNod) (us.getD j noNod) = true) ∧ (v = false → sameNod ts us = false)) := by
          intro v hv
          refine ⟨fun h j hj => ?_, fun h => sameNod_no hin (by rw [hv]; exact h)⟩
          rcases Nat.lt_or_ge j k with hl | hg
          · exact HJ.out j hl
          · obtain rfl : j = k := by omega
            rw [hv]; exact h
        have hq := nod_neq (ts.getD k noNod) (us.getD k noNod)
        obtain ⟨v, hv⟩ : ∃ v, nodSame (ts.getD k noNod) (us.getD k noNod) = v := ⟨_, rfl⟩
        have HN' := HN.out v hv
        rw [hv] at hq
        clear HN hv
        generalize ts.getD k noNod = x at t hq
        generalize us.getD k noNod = y at u hq
        obtain ⟨x0, x1, x2, x3, x4, x5, x6⟩ := x
        obtain ⟨y0, y1, y2, y3, y4, y5, y6⟩ := y
        have HN2 : Hid ((v = true → ∀ j, j < k + 1 → nodSame (ts.getD j noNod) (us.getD j noNod) = true) ∧ (v = false → sameNod ts us = false)) := HN'
        clear HN'
        have q0 : wr.cell? ⟨g, k * 7, none⟩ = some (.int .i64 x0) := t.c0
        have r0 : wr.cell? ⟨h, k * 7, none⟩ = some (.int .i64 y0) := u.c0
        have q1 : wr.cell? ⟨g, k * 7 + 1, none⟩ = some (.int .i64 x1) := t.c1
        have r1 : wr.cell? ⟨h, k * 7 + 1, none⟩ = some (.int .i64 y1) := u.c1
        have q2 : wr.cell? ⟨g, k * 7 + 2, none⟩ = some (.int .i64 x2) := t.c2
        have r2 : wr.cell? ⟨h, k * 7 + 2, none⟩ = some (.int .i64 y2) := u.c2
        have q3 : wr.cell? ⟨g, k * 7 + 3, none⟩ = some (.int .i64 x3) := t.c3
        have r3 : wr.cell? ⟨h, k * 7 + 3, none⟩ = some (.int .i64 y3) := u.c3
        have q4 : wr.cell? ⟨g, k * 7 + 4, none⟩ = some (.int .i64 x4) := t.c4
        have r4 : wr.cell? ⟨h, k * 7 + 4, none⟩ = some (.int .i64 y4) := u.c4
        have q5 : wr.cell? ⟨g, k * 7 + 5, none⟩ = some (.string x5) := t.c5
        have r5 : wr.cell? ⟨h, k * 7 + 5, none⟩ = some (.string y5) := u.c5
        have q6 : wr.cell? ⟨g, k * 7 + 6, none⟩ = some (.string x6) := t.c6
        have r6 : wr.cell? ⟨h, k * 7 + 6, none⟩ = some (.string y6) := u.c6
        have hq' : ∀ w : World, (binOp .neq 31 (.agg #[.int .i64 x0, .int .i64 x1, .int .i64 x2, .int .i64 x3, .int .i64 x4, .string x5, .string x6]) (.agg #[.int .i64 y0, .int .i64 y1, .int .i64 y2, .int .i64 y3, .int .i64 y4, .string y5, .string y6])).run Try.prog w = .ok (.bool (!v)) w := hq
        clear t u hq
        cases v
        · have HF : Hid (sameNod ts us = false) := HN2.out.2 rfl
          clear HN2
          go_wp2
          go_quiet (fail)
          go_wp2
          go_ret
          exact ⟨by rw [HF.out]; rfl, below_drew_n hbl _⟩
        · have HT : Hid (∀ j, j < k + 1 → nodSame (ts.getD j noNod) (us.getD j noNod) = true) := HN2.out.1 rfl
          clear HN2
          go_wp2
          go_quiet (fail)
          go_wp2
          go_roundw
          case rel => exact ⟨k + 1, by omega, by go_num, HT.out, below_drew_n hbl _⟩
          case measure => simp [intOf]; omega
      · go_wp2
        go_ret
        exact ⟨by rw [sameNod_yes HL.out (fun j hj => HJ.out j (by omega))]; rfl, hbl⟩
  · have HN : Hid (sameNod ts us = false) := sameNod_len hlen
    have hlen' : ¬ (ts.length : Int) = us.length := by omega
    go_enter Try.func5, Try.ntmps5
    go_wp2
    go_ret
    exact ⟨by rw [HN.out]; rfl, Below.refl _ _⟩
end Go.Proofs.Ytljbfbnflebnjab
