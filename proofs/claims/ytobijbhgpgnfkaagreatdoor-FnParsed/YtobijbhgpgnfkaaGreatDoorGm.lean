/-
  The draws of programs: parts are put behind each other, and a node over them. Conditions: written at each theorem.
-/
import Derived.Test.YtobijbhgpgnfkaaGreatDoorGs
import Derived.Test.YtobijbhgpgnfkaaGreatDoorAp
import Derived.Test.YtobijbhgpgnfkaaGreatDoorCn
namespace Go.Proofs.YtobijbhgpgnfkaaGreatDoor
open Go.ChangeShapes Go.WideShapes Go.ChangeAt Go.RowKit
set_option linter.unusedVariables false

/-- Names that are short. -/
abbrev Fit9 (s : ByteArray) : Prop := s.size ≤ 9 ∧ s.size ≠ 5
def Trim1 (t : Nod) : Prop := Fit9 t.name ∧ Fit9 t.other
def Trim (l : List Nod) : Prop := ∀ t ∈ l, Trim1 t

theorem good_shift {l : List Nod} (h : Trim l) (x : Int) : Trim (l.map (shiftN x)) := by
  intro t ht
  obtain ⟨u, hu, rfl⟩ := List.mem_map.1 ht
  exact h u hu

theorem good_app {l m : List Nod} (h : Trim l) (k : Trim m) : Trim (l ++ m) := by
  intro t ht
  rcases List.mem_append.1 ht with h1 | h1
  · exact h t h1
  · exact k t h1

theorem good_one {t : Nod} (h : Trim1 t) : Trim [t] := by
  intro u hu
  simp at hu
  subst hu
  exact h

/-- How many nodes the first k parts have. -/
def partsLen (ps : List (Value × List Nod)) (k : Nat) : Nat := ((ps.take k).map (·.2.length)).sum

theorem partsLen_next {ps : List (Value × List Nod)} {k : Nat} (hk : k < ps.length) : partsLen ps (k + 1) = partsLen ps k + (ps.getD k (.slice none 0 0, [])).2.length := by
  unfold partsLen
  rw [List.take_succ_eq_append_getElem hk, List.map_append, List.sum_append]
  simp [List.getD, List.getElem?_eq_getElem hk]

theorem partsLen_mono {ps : List (Value × List Nod)} {k : Nat} (hk : k ≤ ps.length) : partsLen ps k ≤ partsLen ps ps.length := by
  obtain ⟨d, hd⟩ : ∃ d, ps.length = k + d := ⟨ps.length - k, by omega⟩
  rw [hd]
  clear hd hk
  induction d with
  | zero => exact Nat.le_refl _
  | succ d ih =>
    refine Nat.le_trans ih ?_
    by_cases h : k + d < ps.length
    · rw [show k + (d + 1) = (k + d) + 1 by omega, partsLen_next h]
      omega
    · unfold partsLen
      rw [List.take_of_length_le (by omega), List.take_of_length_le (by omega)]
      exact Nat.le_refl _

theorem anods_of {w : World} {g : Nat} {ts : List Nod} (h : NodAt w g ts) : ANods w g 0 ts := fun i hi => by
  have t := h i hi
  have e : 0 + i * 7 = i * 7 := by omega
  exact ⟨by rw [e]; exact t.c0, by rw [e]; exact t.c1, by rw [e]; exact t.c2, by rw [e]; exact t.c3, by rw [e]; exact t.c4, by rw [e]; exact t.c5, by rw [e]; exact t.c6⟩

theorem flat_one (ts : List Nod) : ∀ u ∈ ts.flatMap nodCells, u.oneCell' = true := by
  intro u hu
  obtain ⟨t, _, ht⟩ := List.mem_flatMap.1 hu
  exact nod_one t u ht

/-- What stands ahead of a round: so many parts are put behind each other. -/
def MX (w : World) (ps : List (Value × List Nod)) (k : Nat) (W : World) (out : Value) : Prop :=
  ∃ (nd : Nod) (L : List Nod), W.heap[w.heap.size]? = some (.cells (nodCells nd).toArray 58 (0, 0)) ∧ ownNod W (w.heap.size + 1) out L ∧ L.length = partsLen ps k ∧ Trim L ∧ Trim1 nd ∧ Below w.heap.size w W

set_option maxHeartbeats 4000000 in
set_option maxRecDepth 20000 in
theorem make_at (n : Nod) (hn : Trim1 n) (P : Nat) (ps : List (Value × List Nod)) (base : Nat) (w : World) (hP : w.heap[P]? = some (.cells (ps.map (·.1)).toArray 24 (0, 0)))
    (hps : ∀ i, i < ps.length → ownNod w base (ps.getD i (.slice none 0 0, [])).1 (ps.getD i (.slice none 0 0, [])).2 ∧ 0 < (ps.getD i (.slice none 0 0, [])).2.length ∧ Trim (ps.getD i (.slice none 0 0, [])).2) (hl : partsLen ps ps.length ≤ 100000) (hk : ps.length ≤ 100) :
    Calls Tryz.prog 95 #[nodAgg n, .slice (some ⟨P, 0, none⟩) ps.length ps.length] w fun e w' => ∃ (v : Value) (l : List Nod), e = .returned v ∧ ownNod w' w.heap.size v l ∧ l.length = partsLen ps ps.length + 1 ∧ Trim l ∧ Below w.heap.size w w' := by
  obtain ⟨x0, x1, x2, x3, x4, x5, x6⟩ := n
  have HP : Hid (w.heap[P]? = some (.cells (ps.map (·.1)).toArray 24 (0, 0))) := hP
  have HPS : Hid (∀ i, i < ps.length → ownNod w base (ps.getD i (.slice none 0 0, [])).1 (ps.getD i (.slice none 0 0, [])).2 ∧ 0 < (ps.getD i (.slice none 0 0, [])).2.length ∧ Trim (ps.getD i (.slice none 0 0, [])).2) := hps
  have HL : Hid (partsLen ps ps.length ≤ 100000) := hl
  have hPw : P < w.heap.size := (Array.getElem?_eq_some_iff.1 hP).1
  have HX0 : Hid (MX w ps 0 ((w.alloc (.cells #[.int .i64 x0, .int .i64 x1, .int .i64 x2, .int .i64 x3, .int .i64 x4, .string x5, .string x6] 58)).alloc (.cells #[] 58)) (.slice (some ⟨w.heap.size + 1, 0, none⟩) 0 0)) := by
    refine ⟨⟨x0, x1, x2, x3, x4, x5, x6⟩, [], heap_alloc2_old w _ _, ?_, rfl, by intro t ht; simp at ht, hn, ((Below.refl _ w).alloc (Nat.le_refl _) _).alloc (by simp) _⟩
    have := ownNod_empty (w := w.alloc (.cells #[.int .i64 x0, .int .i64 x1, .int .i64 x2, .int .i64 x3, .int .i64 x4, .string x5, .string x6] 58)) (B := w.heap.size + 1) (by simp)
    simp at this
    exact this
  clear hP hps hl hn
  unfold nodAgg
  go_enter Tryz.func95, Tryz.ntmps95
  go_wp2
  go_loopg [5, 6] ps.length (fun gk out k wr => ∃ kk : Nat, kk ≤ ps.length ∧ gk = ps.length - kk ∧ k = .int .i64 kk ∧ Hid (MX w ps kk wr out))
  case atStart => exact ⟨0, by omega, by omega, rfl, HX0⟩
  case round =>
    clear HX0
    obtain ⟨kk, hkk, hgk, rfl, hmx⟩ := hrel
    have HGK : Hid (_) := hgk
    clear hgk
    obtain ⟨nd, L, hnd, hoL, hLl, hgL, hgn, hbel⟩ := hmx.out
    clear hmx
    have hLn : L.length ≤ 100000 := by have := partsLen_mono hkk; have := HL.out; omega
    have HND : Hid (wr.heap[w.heap.size]? = some (.cells (nodCells nd).toArray 58 (0, 0))) := hnd
    have HOL : Hid (ownNod wr (w.heap.size + 1) u5 L) := hoL
    have HG : Hid (L.length = partsLen ps kk ∧ Trim L ∧ Trim1 nd) := ⟨hLl, hgL, hgn⟩
    have HB : Hid (Below w.heap.size w wr) := hbel
    obtain ⟨a5, g5, c5, sp5, rfl, ha5, _⟩ := ownNod_form hoL
    have zN : w.heap.size < wr.heap.size := (Array.getElem?_eq_some_iff.1 hnd).1
    by_cases hin : kk < ps.length
    · have hin' : (kk : Int) < ps.length := by omega
      obtain ⟨hok, hpos, hgd⟩ := HPS.out kk hin
      have hcell : wr.cell? ⟨P, kk, none⟩ = some (ps.getD kk (.slice none 0 0, [])).1 := by
        rw [hbel.cell (p := ⟨P, kk, none⟩) hPw, cell_of_row _ _ _ _ _ _ HP.out]
        simp [List.getD, List.getElem?_eq_getElem hin]
      have hnext := partsLen_next hin
      have hmono := partsLen_mono (ps := ps) (k := kk + 1) (by omega)
      generalize ps.getD kk (.slice none 0 0, []) = q at *
      obtain ⟨vk, lk⟩ := q
      simp only at hok hpos hgd hcell hnext
      obtain ⟨ak, gk', ck, spk, rfl, hak, hNk, _, hlt, _⟩ := ownNod_form hok
      obtain rfl := hak hpos
      have HSH : Hid (Calls Tryz.prog 112 #[.slice (some ⟨gk', 0, none⟩) lk.length ck, .int .i64 (L.length : Nat)] wr fun e w' => ∃ v, e = .returned v ∧ ownNod w' wr.heap.size v (lk.map (shiftN (L.length : Nat))) ∧ Below wr.heap.size wr w') :=
        spec_shift (some ⟨gk', 0, none⟩) gk' 0 ck lk (L.length : Nat) (fun _ => rfl) (by have := HL.out; omega) wr ((anods_of hNk).below hbel (fun h => hlt h))
      have HN : Hid (partsLen ps (kk + 1) = partsLen ps kk + lk.length ∧ 0 < lk.length ∧ Trim lk ∧ partsLen ps (kk + 1) ≤ partsLen ps ps.length) := ⟨hnext, hpos, hgd, hmono⟩
      have hlk : lk.length ≤ 100000 := by have := HL.out; omega
      clear hok hpos hgd hnext hmono hNk hlt hnd hoL hLl hgL hgn hbel ha5
      go_wp2_with fail
      refine HSH.out.mono ?_
      rintro e w2 ⟨v2, rfl, ho2, hb2⟩
      have z2 := hb2.size
      obtain ⟨a6, g6, c6, sp6, rfl, ha6, hN6, hge6, hlt6, hr6⟩ := ownNod_form ho2
      have hml : (lk.map (shiftN (L.length : Nat))).length = lk.length := by simp
      rw [hml] at ha6 hlt6 hr6 ⊢
      obtain rfl := ha6 HN.out.2.1
      have HC6 : Hid (∀ j u, ((lk.map (shiftN (L.length : Nat))).flatMap nodCells)[j]? = some u → w2.cell? ((⟨g6, 0, none⟩ : Addr).add j) = some u) := ho2.cells rfl
      obtain ⟨i0, hii, hz0, hz1, hz2⟩ := info_parts info_nod
      have HOL2 : Hid (ownNod w2 (w.heap.size + 1) (.slice a5 L.length c5) L) := ownNod_kept HOL.out hb2 (Nat.le_refl _)
      have HND2 : Hid (w2.heap[w.heap.size]? = some (.cells (nodCells nd).toArray 58 (0, 0))) := (hb2.block _ zN).trans HND.out
      have HB2 : Hid (Below w.heap.size w w2) := HB.out.trans (hb2.mono (by omega))
      clear ho2 hb2 hN6 hlt6 hr6 HSH HOL HND HB hge6 ha6
      go_wp2_with (at_builtin; refine wpList_append_at _ rfl _ _ 24 rfl (w.heap.size + 1) 58 i0 _ 7 72 Tryz.underlying24 hii hz0 hz1 hz2 rfl (by decide) _ _ _ rfl HOL2.out ⟨g6, 0, none⟩ lk.length c6 ((lk.map (shiftN (L.length : Nat))).flatMap nodCells) rfl ?a0 HC6.out (flat_one _) ?a1 ?a2 ?a3 ?a4 ?_)
      case a0 => rw [nod_flat_length]; simp
      case a1 => exact HN.out.2.1
      case a2 => unfold maxLen; omega
      case a3 => omega
      case a4 => omega
      intro v3 w3 ho3 hg3
      have HO3 : Hid (ownNod w3 (w.heap.size + 1) v3 (L ++ lk.map (shiftN (L.length : Nat)))) := by
        show w3.ownsRow (w.heap.size + 1) 58 7 v3 (L ++ lk.map (shiftN (L.length : Nat))).length ((L ++ lk.map (shiftN (L.length : Nat))).flatMap nodCells)
        rw [List.length_append, List.length_map, List.flatMap_append]
        exact ho3
      have HND3 : Hid (w3.heap[w.heap.size]? = some (.cells (nodCells nd).toArray 58 (0, 0))) := (hg3.1.block _ (by omega) (fun e => by have := (HOL2.out.lt _ e.symm).1; omega)).trans HND2.out
      have HB3 : Hid (Below w.heap.size w w3) := HB2.out.trans (hg3.below (by omega) (fun k hk => by have := (HOL2.out.lt k hk).1; omega))
      obtain ⟨a7, g7, c7, sp7, hv7, _⟩ := ownNod_form HO3.out
      rw [List.length_append, List.length_map] at hv7
      subst hv7
      obtain ⟨y0, y1, y2, y3, y4, y5, y6⟩ := nd
      have hn3 : w3.heap[w.heap.size]? = some (.cells #[.int .i64 y0, .int .i64 y1, .int .i64 y2, .int .i64 y3, .int .i64 y4, .string y5, .string y6] 58 (0, 0)) := HND3.out
      have n1 : w3.cell? ⟨w.heap.size, 1, none⟩ = some (.int .i64 y1) := by rw [cell_of_row _ _ _ _ _ _ hn3]; rfl
      have n2 : w3.cell? ⟨w.heap.size, 2, none⟩ = some (.int .i64 y2) := by rw [cell_of_row _ _ _ _ _ _ hn3]; rfl
      have n3 : w3.cell? ⟨w.heap.size, 3, none⟩ = some (.int .i64 y3) := by rw [cell_of_row _ _ _ _ _ _ hn3]; rfl
      have nz : ∀ j, w3.frozen? ⟨w.heap.size, j, none⟩ = false := fun j => frozen_of_row w3 _ j _ _ hn3
      have hLi : (L.length : Int) ≤ 100000 := by omega
      have hki : (lk.length : Int) ≤ 100000 := by omega
      clear ho3 hg3 hn3 HOL2 HND2 HB2 HC6
      rcases (by omega : kk = 0 ∨ kk = 1 ∨ 2 ≤ kk) with rfl | rfl | h2
      · have HMX : Hid (MX w ps (0 + 1) (w3.setCell ⟨w.heap.size, 1, none⟩ (.int .i64 ((L.length : Int) + (lk.length : Int) - 1))) (.slice a7 (L.length + lk.length) c7)) := by
          refine ⟨{ (⟨y0, y1, y2, y3, y4, y5, y6⟩ : Nod) with a := (L.length : Int) + (lk.length : Int) - 1 }, L ++ lk.map (shiftN (L.length : Nat)), heap_setCell_same w3 _ 1 _ _ _ HND3.out, ownsRow_setCell_other HO3.out (fun e => by have := (HO3.out.lt _ e).1; simp at this; omega) _, ?_, good_app HG.out.2.1 (good_shift HN.out.2.2.1 _), HG.out.2.2, HB3.out.setCell (p := ⟨w.heap.size, 1, none⟩) (Nat.le_refl _) _⟩
          rw [List.length_append, List.length_map, HG.out.1]
          exact HN.out.1.symm
        go_wp2
        go_roundg (ps.length - (0 + 1))
        case rel => exact ⟨0 + 1, by omega, rfl, by go_num, HMX⟩
        case measure => have := HGK.out; omega
      · have HMX : Hid (MX w ps (1 + 1) (w3.setCell ⟨w.heap.size, 2, none⟩ (.int .i64 ((L.length : Int) + (lk.length : Int) - 1))) (.slice a7 (L.length + lk.length) c7)) := by
          refine ⟨{ (⟨y0, y1, y2, y3, y4, y5, y6⟩ : Nod) with b := (L.length : Int) + (lk.length : Int) - 1 }, L ++ lk.map (shiftN (L.length : Nat)), heap_setCell_same w3 _ 2 _ _ _ HND3.out, ownsRow_setCell_other HO3.out (fun e => by have := (HO3.out.lt _ e).1; simp at this; omega) _, ?_, good_app HG.out.2.1 (good_shift HN.out.2.2.1 _), HG.out.2.2, HB3.out.setCell (p := ⟨w.heap.size, 2, none⟩) (Nat.le_refl _) _⟩
          rw [List.length_append, List.length_map, HG.out.1]
          exact HN.out.1.symm
        go_wp2
        go_roundg (ps.length - (1 + 1))
        case rel => exact ⟨1 + 1, by omega, rfl, by go_num, HMX⟩
        case measure => have := HGK.out; omega
      · have h2a : ¬ (kk : Int) = 0 := by omega
        have h2b : ¬ (kk : Int) = 1 := by omega
        have HMX : Hid (MX w ps (kk + 1) (w3.setCell ⟨w.heap.size, 3, none⟩ (.int .i64 ((L.length : Int) + (lk.length : Int) - 1))) (.slice a7 (L.length + lk.length) c7)) := by
          refine ⟨{ (⟨y0, y1, y2, y3, y4, y5, y6⟩ : Nod) with c := (L.length : Int) + (lk.length : Int) - 1 }, L ++ lk.map (shiftN (L.length : Nat)), heap_setCell_same w3 _ 3 _ _ _ HND3.out, ownsRow_setCell_other HO3.out (fun e => by have := (HO3.out.lt _ e).1; simp at this; omega) _, ?_, good_app HG.out.2.1 (good_shift HN.out.2.2.1 _), HG.out.2.2, HB3.out.setCell (p := ⟨w.heap.size, 3, none⟩) (Nat.le_refl _) _⟩
          rw [List.length_append, List.length_map, HG.out.1]
          exact HN.out.1.symm
        go_wp2
        go_roundg (ps.length - (kk + 1))
        case rel => exact ⟨kk + 1, by omega, rfl, by go_num, HMX⟩
        case measure => have := HGK.out; omega
    · obtain rfl : kk = ps.length := by omega
      obtain ⟨y0, y1, y2, y3, y4, y5, y6⟩ := nd
      have hn3 : wr.heap[w.heap.size]? = some (.cells #[.int .i64 y0, .int .i64 y1, .int .i64 y2, .int .i64 y3, .int .i64 y4, .string y5, .string y6] 58 (0, 0)) := HND.out
      have n0 : wr.cell? ⟨w.heap.size, 0, none⟩ = some (.int .i64 y0) := by rw [cell_of_row _ _ _ _ _ _ hn3]; rfl
      have n1 : wr.cell? ⟨w.heap.size, 1, none⟩ = some (.int .i64 y1) := by rw [cell_of_row _ _ _ _ _ _ hn3]; rfl
      have n2 : wr.cell? ⟨w.heap.size, 2, none⟩ = some (.int .i64 y2) := by rw [cell_of_row _ _ _ _ _ _ hn3]; rfl
      have n3 : wr.cell? ⟨w.heap.size, 3, none⟩ = some (.int .i64 y3) := by rw [cell_of_row _ _ _ _ _ _ hn3]; rfl
      have n4 : wr.cell? ⟨w.heap.size, 4, none⟩ = some (.int .i64 y4) := by rw [cell_of_row _ _ _ _ _ _ hn3]; rfl
      have n5 : wr.cell? ⟨w.heap.size, 5, none⟩ = some (.string y5) := by rw [cell_of_row _ _ _ _ _ _ hn3]; rfl
      have n6 : wr.cell? ⟨w.heap.size, 6, none⟩ = some (.string y6) := by rw [cell_of_row _ _ _ _ _ _ hn3]; rfl
      obtain ⟨i0, hii, hz0, hz1, hz2⟩ := info_parts info_nod
      clear hnd hoL hLl hgL hgn hbel ha5 hn3
      go_wp2_with (at_builtin; refine wpList_append_at _ rfl _ _ 24 rfl (w.heap.size + 1) 58 i0 _ 7 72 Tryz.underlying24 hii hz0 hz1 hz2 rfl (by decide) _ _ _ rfl (HOL.out.alloc _) ⟨wr.heap.size, 0, none⟩ 1 1 (nodCells ⟨y0, y1, y2, y3, y4, y5, y6⟩) rfl rfl ?b0 (nod_one _) ?b1 ?b2 ?b3 ?b4 ?_)
      case b0 => exact nod_new rfl _ _ _ _ _ _ _ _
      case b1 => omega
      case b2 => unfold maxLen; omega
      case b3 => omega
      case b4 => simp; omega
      intro v3 w3 ho3 hg3
      have HO3 : Hid (ownNod w3 (w.heap.size + 1) v3 (L ++ [⟨y0, y1, y2, y3, y4, y5, y6⟩])) := ownNod_next _ ho3 rfl rfl
      have HB3 : Hid (Below w.heap.size w w3) := (HB.out.alloc (by omega) _).trans (hg3.below (by simp; omega) (fun k hk => by have := (HOL.out.lt k hk).1; omega))
      clear ho3 hg3
      go_wp2
      go_ret
      exact ⟨_, _, rfl, ownNod_base HO3.out (by omega), by have := HG.out.1; simp; omega, good_app HG.out.2.1 (good_one HG.out.2.2), HB3.out⟩

/-- What a draw of nodes ends with: some nodes of the call's own, and the cursor further on. -/
def DrawEnd (a : Option Addr) (len cap : Nat) (zs : List Int) (B : Nat) (w : World) (most : Nat) (e : Ending) (w' : World) : Prop :=
  ∃ (v : Value) (l : List Nod) (s' : Nat × Int), e = .returned v ∧ ownNod w' w.heap.size v l ∧ 0 < l.length ∧ l.length ≤ most ∧ Trim l ∧ CurAt a len cap zs B w' s' ∧ Only B w w'

theorem int_at (n : Int) (w : World) : Calls Tryz.prog 97 #[.int .i64 n] w fun e w' => e = .returned (.slice (some ⟨w.heap.size, 0, none⟩) 1 1) ∧ w' = w.alloc (.cells #[.int .i64 2, .int .i64 0, .int .i64 0, .int .i64 0, .int .i64 n, .string ⟨#[]⟩, .string ⟨#[]⟩] 58) := by
  go_enter Tryz.func97, Tryz.ntmps97
  go_wp2
  go_ret
  exact ⟨rfl, rfl⟩

theorem var_at (s : ByteArray) (w : World) : Calls Tryz.prog 113 #[.string s] w fun e w' => e = .returned (.slice (some ⟨w.heap.size, 0, none⟩) 1 1) ∧ w' = w.alloc (.cells #[.int .i64 1, .int .i64 0, .int .i64 0, .int .i64 0, .int .i64 0, .string s, .string ⟨#[]⟩] 58) := by
  go_enter Tryz.func113, Tryz.ntmps113
  go_wp2
  go_ret
  exact ⟨rfl, rfl⟩

theorem own_single {w : World} {B : Nat} (t : Nod) (hB : B ≤ w.heap.size) : ownNod (w.alloc (.cells (nodCells t).toArray 58)) B (.slice (some ⟨w.heap.size, 0, none⟩) 1 1) [t] := by
  have h := World.ownsRow_lit (base := B) (e := 58) (size := 7) w (nodCells t).toArray 1 hB (by decide) rfl
  have e : ([t] : List Nod).flatMap nodCells = nodCells t := by simp
  show (w.alloc (.cells (nodCells t).toArray 58)).ownsRow B 58 7 _ 1 (([t] : List Nod).flatMap nodCells)
  rw [e]
  exact h

theorem ownNod_only {w w' : World} {B base : Nat} {v : Value} {l : List Nod} (h : ownNod w base v l) (ho : Only B w w') (hB : B < base) : ownNod w' base v l := by
  refine ⟨h.1, ?_⟩
  rcases h.2 with h0 | ⟨g, cap, cur, hv, hbg, hg, rest⟩
  · exact .inl h0
  · refine .inr ⟨g, cap, cur, hv, hbg, ?_, rest⟩
    rw [ho.block g (Array.getElem?_eq_some_iff.1 hg).1 (by omega)]
    exact hg

/-- A number out of a list. -/
theorem pick_int {a : Option Addr} {len cap : Nat} {zs : List Int} {B : Nat} {w : World} {s : Nat × Int} (h : CurAt a len cap zs B w s) (ls : List Int) (Lb n : Nat) (hnl : ls.length = n) (hn : 0 < n) (hn2 : n ≤ 100) (hL : Lb < w.heap.size) (hLB : Lb ≠ B)
    (hcell : ∀ j, j < n → w.cell? ⟨Lb, j, none⟩ = some (.int .i64 (ls.getD j 0))) :
    Calls Tryz.prog 33 #[.pointer (some ⟨B, 0, none⟩), .slice (some ⟨Lb, 0, none⟩) n n] w fun e w' =>
      ∃ (x : Int) (s' : Nat × Int), x ∈ ls ∧ e = .returned (.int .i64 x) ∧ CurAt a len cap zs B w' s' ∧ Only B w w' := by
  have H : Hid (CurAt a len cap zs B w s) := h
  have HL : Hid (∀ j, j < n → w.cell? ⟨Lb, j, none⟩ = some (.int .i64 (ls.getD j 0))) := hcell
  have HN : Hid (ls.length = n) := hnl
  have hr := belowV_range (zs := zs) (len := len) (n : Int) s (by omega)
  clear h hcell hnl
  go_enter Tryz.func33, Tryz.ntmps33
  go_wp2_with fail
  refine (below_at H.out (n : Int) (by omega)).mono ?_
  rintro e w1 ⟨rfl, c1, b1⟩
  obtain ⟨k, hk⟩ := Int.eq_ofNat_of_zero_le hr.1
  have hkl : k < n := by omega
  have C1 : Hid (CurAt a len cap zs B w1 (belowV zs len n s).2) := c1
  have hc : w1.cell? ⟨Lb, k, none⟩ = some (.int .i64 (ls.getD k 0)) := (b1.cell (p := ⟨Lb, k, none⟩) hL hLB).trans (HL.out k hkl)
  have HM : Hid (ls.getD k 0 ∈ ls) := by
    show ls.getD k 0 ∈ ls
    have hkk : k < ls.length := by rw [HN.out]; exact hkl
    rw [List.getD, List.getElem?_eq_getElem hkk]
    exact List.getElem_mem hkk
  generalize ls.getD k 0 = x at *
  clear c1 H HL hr
  rw [hk]
  clear hk
  go_wp2
  go_ret
  exact ⟨x, _, HM.out, rfl, C1.out, b1⟩
end Go.Proofs.YtobijbhgpgnfkaaGreatDoor
