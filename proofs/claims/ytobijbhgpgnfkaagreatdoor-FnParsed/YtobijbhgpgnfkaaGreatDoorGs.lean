/-
  Nodes whose kids' numbers are so much further on, the specification's. Conditions: written at each theorem.
-/
import Derived.Test.YtobijbhgpgnfkaaGreatDoorNf
import Derived.Deep.CutRange
import Derived.Deep.LoopGhost
namespace Go.Proofs.YtobijbhgpgnfkaaGreatDoor
open Go.ChangeShapes Go.WideShapes Go.ChangeAt Go.RowKit
set_option linter.unusedVariables false

/-- The i-th one's cells lie in block b, from place o on. -/
structure ANod (w : World) (b o i : Nat) (t : Nod) : Prop where
  c0 : w.cell? ⟨b, o + i * 7, none⟩ = some (.int .i64 t.kind)
  c1 : w.cell? ⟨b, o + i * 7 + 1, none⟩ = some (.int .i64 t.a)
  c2 : w.cell? ⟨b, o + i * 7 + 2, none⟩ = some (.int .i64 t.b)
  c3 : w.cell? ⟨b, o + i * 7 + 3, none⟩ = some (.int .i64 t.c)
  c4 : w.cell? ⟨b, o + i * 7 + 4, none⟩ = some (.int .i64 t.n)
  c5 : w.cell? ⟨b, o + i * 7 + 5, none⟩ = some (.string t.name)
  c6 : w.cell? ⟨b, o + i * 7 + 6, none⟩ = some (.string t.other)

theorem ANod.below {w w' : World} {b o i B : Nat} {t : Nod} (h : ANod w b o i t) (hb : Below B w w') (hg : b < B) : ANod w' b o i t :=
  ⟨(World.cell?_of_block (hb.block b hg)).trans h.c0, (World.cell?_of_block (hb.block b hg)).trans h.c1, (World.cell?_of_block (hb.block b hg)).trans h.c2, (World.cell?_of_block (hb.block b hg)).trans h.c3, (World.cell?_of_block (hb.block b hg)).trans h.c4, (World.cell?_of_block (hb.block b hg)).trans h.c5, (World.cell?_of_block (hb.block b hg)).trans h.c6⟩

def ANods (w : World) (b o : Nat) (ts : List Nod) : Prop := ∀ i, i < ts.length → ANod w b o i (ts.getD i noNod)

theorem ANods.below {w w' : World} {b o B : Nat} {ts : List Nod} (h : ANods w b o ts) (hb : Below B w w') (hg : 0 < ts.length → b < B) : ANods w' b o ts := fun i hi => (h i hi).below hb (hg (by omega))

theorem ANods.lt {w : World} {b o : Nat} {ts : List Nod} (h : ANods w b o ts) (hl : 0 < ts.length) : b < w.heap.size := nod_lt (h 0 hl).c0

/-- A node whose kids' numbers are so much further on. -/
def shiftN (by0 : Int) (t : Nod) : Nod :=
  ⟨t.kind, if 0 < arN t.kind then wrap64 (t.a + by0) else t.a, if 1 < arN t.kind then wrap64 (t.b + by0) else t.b, if 2 < arN t.kind then wrap64 (t.c + by0) else t.c, t.n, t.name, t.other⟩

set_option maxHeartbeats 4000000 in
set_option maxRecDepth 20000 in
theorem spec_shift (a : Option Addr) (b o cap : Nat) (ts : List Nod) (by0 : Int) (hne : 0 < ts.length → a = some ⟨b, o, none⟩) (hl : ts.length ≤ 1048576) (w : World) (hA : ANods w b o ts) :
    Calls Tryz.prog 112 #[.slice a ts.length cap, .int .i64 by0] w fun e w' => ∃ v, e = .returned v ∧ ownNod w' w.heap.size v (ts.map (shiftN by0)) ∧ Below w.heap.size w w' := by
  have HA : Hid (ANods w b o ts) := hA
  clear hA
  go_enter Tryz.func112, Tryz.ntmps112
  go_wp2
  go_loopw [5, 6] (fun out i wr => ∃ k : Nat, k ≤ ts.length ∧ i = .int .i64 k ∧ Hid (ownNod wr w.heap.size out ((ts.take k).map (shiftN by0))) ∧ Below w.heap.size w wr) (fun _ i _ => ts.length - (intOf i).toNat)
  case atStart => exact ⟨0, by omega, rfl, ownNod_empty (Nat.le_refl _), (Below.refl _ w).alloc (Nat.le_refl _) _⟩
  case round =>
    obtain ⟨k, hk, rfl, HO, hbel⟩ := hrel
    have hsz := hbel.size
    by_cases hin : k < ts.length
    · have e1 : (k : Int) < ts.length := by omega
      obtain rfl := hne (by omega)
      have t := (HA.out.below hbel (fun h => HA.out.lt h)) k hin
      have HN : Hid ((ts.take (k + 1)).map (shiftN by0) = (ts.take k).map (shiftN by0) ++ [shiftN by0 (ts.getD k noNod)]) := by
        show (ts.take (k + 1)).map (shiftN by0) = _
        rw [List.take_succ_eq_append_getElem hin, List.map_append]
        simp [List.getD, List.getElem?_eq_getElem hin]
      have hlk : ((ts.take k).map (shiftN by0)).length = k := by simp; omega
      have HLK : Hid (((ts.take k).map (shiftN by0)).length = k) := hlk
      clear hlk
      obtain ⟨⟨x0, x1, x2, x3, x4, x5, x6⟩, hx⟩ : ∃ y, ts.getD k noNod = y := ⟨_, rfl⟩
      rw [hx] at t HN
      have HX : Hid (shiftN by0 ⟨x0, x1, x2, x3, x4, x5, x6⟩ = ⟨x0, if 0 < arN x0 then wrap64 (x1 + by0) else x1, if 1 < arN x0 then wrap64 (x2 + by0) else x2, if 2 < arN x0 then wrap64 (x3 + by0) else x3, x4, x5, x6⟩) := rfl
      generalize (ts.take k).map (shiftN by0) = L at *
      have q0 : wr.cell? ⟨b, o + k * 7, none⟩ = some (.int .i64 x0) := t.c0
      have q1 : wr.cell? ⟨b, o + k * 7 + 1, none⟩ = some (.int .i64 x1) := t.c1
      have q2 : wr.cell? ⟨b, o + k * 7 + 2, none⟩ = some (.int .i64 x2) := t.c2
      have q3 : wr.cell? ⟨b, o + k * 7 + 3, none⟩ = some (.int .i64 x3) := t.c3
      have q4 : wr.cell? ⟨b, o + k * 7 + 4, none⟩ = some (.int .i64 x4) := t.c4
      have q5 : wr.cell? ⟨b, o + k * 7 + 5, none⟩ = some (.string x5) := t.c5
      have q6 : wr.cell? ⟨b, o + k * 7 + 6, none⟩ = some (.string x6) := t.c6
      clear t hx
      go_wp2_with fail
      refine (spec_arity x0 _).mono ?_
      rintro e w2 ⟨rfl, rfl⟩
      have har := arN_le x0
      generalize arN x0 = ar at *
      obtain ⟨i0, hi, hz0, hz1, hz2⟩ := info_parts info_nod
      clear q0 q1 q2 q3 q4 q5 q6
      rcases (by omega : ar = 0 ∨ ar = 1 ∨ ar = 2 ∨ ar = 3) with rfl | rfl | rfl | rfl
      · have HY : Hid (shiftN by0 ⟨x0, x1, x2, x3, x4, x5, x6⟩ = ⟨x0, x1, x2, x3, x4, x5, x6⟩) := by
          show shiftN by0 ⟨x0, x1, x2, x3, x4, x5, x6⟩ = _
          rw [HX.out]
          simp
        clear HX
        go_wp2_with (at_builtin; refine wpList_append_own _ rfl _ _ 24 rfl w.heap.size 58 i0 _ 7 72 Tryz.underlying24 hi hz0 hz1 hz2 rfl (by decide) _ _ _ rfl ((HO.out.alloc _).alloc _) ⟨wr.heap.size + 1, 0, none⟩ 1 1 (nodCells ⟨x0, x1, x2, x3, x4, x5, x6⟩) rfl rfl ?a0 ?b0 ?c0 ?d0 ?e0 ?_)
        case a0 => exact nod_new (by simp) _ _ _ _ _ _ _ _
        case b0 => exact nod_one _
        case c0 => have := HLK.out; unfold maxLen; omega
        case d0 => have := HLK.out; omega
        case e0 => simp; omega
        intro v' W3 hown' hgrow _
        have HM : Hid (ownNod W3 w.heap.size v' ((ts.take (k + 1)).map (shiftN by0))) := by
          show ownNod W3 w.heap.size v' ((ts.take (k + 1)).map (shiftN by0))
          rw [HN.out, HY.out]
          exact ownNod_next ⟨x0, x1, x2, x3, x4, x5, x6⟩ hown' rfl rfl
        have hB3 : Below w.heap.size w W3 := ((hbel.alloc (by omega) _).alloc (by simp; omega) _).grown hgrow (by simp; omega) (fun q hq => (HO.out.lt q hq).1)
        clear hown' hgrow HO HN hbel hi hz0 hz1 hz2
        go_wp2
        go_roundw
        case rel => exact ⟨k + 1, by omega, by go_num, HM, hB3⟩
        case measure => simp [intOf]; omega
      · have HY : Hid (shiftN by0 ⟨x0, x1, x2, x3, x4, x5, x6⟩ = ⟨x0, (wrap64 (x1 + by0)), x2, x3, x4, x5, x6⟩) := by
          show shiftN by0 ⟨x0, x1, x2, x3, x4, x5, x6⟩ = _
          rw [HX.out]
          simp
        clear HX
        go_wp2_with (at_builtin; refine wpList_append_own _ rfl _ _ 24 rfl w.heap.size 58 i0 _ 7 72 Tryz.underlying24 hi hz0 hz1 hz2 rfl (by decide) _ _ _ rfl ((HO.out.alloc _).alloc _) ⟨wr.heap.size + 1, 0, none⟩ 1 1 (nodCells ⟨x0, (wrap64 (x1 + by0)), x2, x3, x4, x5, x6⟩) rfl rfl ?a1 ?b1 ?c1 ?d1 ?e1 ?_)
        case a1 => exact nod_new (by simp) _ _ _ _ _ _ _ _
        case b1 => exact nod_one _
        case c1 => have := HLK.out; unfold maxLen; omega
        case d1 => have := HLK.out; omega
        case e1 => simp; omega
        intro v' W3 hown' hgrow _
        have HM : Hid (ownNod W3 w.heap.size v' ((ts.take (k + 1)).map (shiftN by0))) := by
          show ownNod W3 w.heap.size v' ((ts.take (k + 1)).map (shiftN by0))
          rw [HN.out, HY.out]
          exact ownNod_next ⟨x0, (wrap64 (x1 + by0)), x2, x3, x4, x5, x6⟩ hown' rfl rfl
        have hB3 : Below w.heap.size w W3 := ((hbel.alloc (by omega) _).alloc (by simp; omega) _).grown hgrow (by simp; omega) (fun q hq => (HO.out.lt q hq).1)
        clear hown' hgrow HO HN hbel hi hz0 hz1 hz2
        go_wp2
        go_roundw
        case rel => exact ⟨k + 1, by omega, by go_num, HM, hB3⟩
        case measure => simp [intOf]; omega
      · have HY : Hid (shiftN by0 ⟨x0, x1, x2, x3, x4, x5, x6⟩ = ⟨x0, (wrap64 (x1 + by0)), (wrap64 (x2 + by0)), x3, x4, x5, x6⟩) := by
          show shiftN by0 ⟨x0, x1, x2, x3, x4, x5, x6⟩ = _
          rw [HX.out]
          simp
        clear HX
        go_wp2_with (at_builtin; refine wpList_append_own _ rfl _ _ 24 rfl w.heap.size 58 i0 _ 7 72 Tryz.underlying24 hi hz0 hz1 hz2 rfl (by decide) _ _ _ rfl ((HO.out.alloc _).alloc _) ⟨wr.heap.size + 1, 0, none⟩ 1 1 (nodCells ⟨x0, (wrap64 (x1 + by0)), (wrap64 (x2 + by0)), x3, x4, x5, x6⟩) rfl rfl ?a2 ?b2 ?c2 ?d2 ?e2 ?_)
        case a2 => exact nod_new (by simp) _ _ _ _ _ _ _ _
        case b2 => exact nod_one _
        case c2 => have := HLK.out; unfold maxLen; omega
        case d2 => have := HLK.out; omega
        case e2 => simp; omega
        intro v' W3 hown' hgrow _
        have HM : Hid (ownNod W3 w.heap.size v' ((ts.take (k + 1)).map (shiftN by0))) := by
          show ownNod W3 w.heap.size v' ((ts.take (k + 1)).map (shiftN by0))
          rw [HN.out, HY.out]
          exact ownNod_next ⟨x0, (wrap64 (x1 + by0)), (wrap64 (x2 + by0)), x3, x4, x5, x6⟩ hown' rfl rfl
        have hB3 : Below w.heap.size w W3 := ((hbel.alloc (by omega) _).alloc (by simp; omega) _).grown hgrow (by simp; omega) (fun q hq => (HO.out.lt q hq).1)
        clear hown' hgrow HO HN hbel hi hz0 hz1 hz2
        go_wp2
        go_roundw
        case rel => exact ⟨k + 1, by omega, by go_num, HM, hB3⟩
        case measure => simp [intOf]; omega
      · have HY : Hid (shiftN by0 ⟨x0, x1, x2, x3, x4, x5, x6⟩ = ⟨x0, (wrap64 (x1 + by0)), (wrap64 (x2 + by0)), (wrap64 (x3 + by0)), x4, x5, x6⟩) := by
          show shiftN by0 ⟨x0, x1, x2, x3, x4, x5, x6⟩ = _
          rw [HX.out]
          simp
        clear HX
        go_wp2_with (at_builtin; refine wpList_append_own _ rfl _ _ 24 rfl w.heap.size 58 i0 _ 7 72 Tryz.underlying24 hi hz0 hz1 hz2 rfl (by decide) _ _ _ rfl ((HO.out.alloc _).alloc _) ⟨wr.heap.size + 1, 0, none⟩ 1 1 (nodCells ⟨x0, (wrap64 (x1 + by0)), (wrap64 (x2 + by0)), (wrap64 (x3 + by0)), x4, x5, x6⟩) rfl rfl ?a3 ?b3 ?c3 ?d3 ?e3 ?_)
        case a3 => exact nod_new (by simp) _ _ _ _ _ _ _ _
        case b3 => exact nod_one _
        case c3 => have := HLK.out; unfold maxLen; omega
        case d3 => have := HLK.out; omega
        case e3 => simp; omega
        intro v' W3 hown' hgrow _
        have HM : Hid (ownNod W3 w.heap.size v' ((ts.take (k + 1)).map (shiftN by0))) := by
          show ownNod W3 w.heap.size v' ((ts.take (k + 1)).map (shiftN by0))
          rw [HN.out, HY.out]
          exact ownNod_next ⟨x0, (wrap64 (x1 + by0)), (wrap64 (x2 + by0)), (wrap64 (x3 + by0)), x4, x5, x6⟩ hown' rfl rfl
        have hB3 : Below w.heap.size w W3 := ((hbel.alloc (by omega) _).alloc (by simp; omega) _).grown hgrow (by simp; omega) (fun q hq => (HO.out.lt q hq).1)
        clear hown' hgrow HO HN hbel hi hz0 hz1 hz2
        go_wp2
        go_roundw
        case rel => exact ⟨k + 1, by omega, by go_num, HM, hB3⟩
        case measure => simp [intOf]; omega
    · obtain rfl : k = ts.length := by omega
      rw [List.take_length] at HO
      go_wp2
      go_ret
      exact ⟨_, rfl, HO.out, hbel⟩
end Go.Proofs.YtobijbhgpgnfkaaGreatDoor
