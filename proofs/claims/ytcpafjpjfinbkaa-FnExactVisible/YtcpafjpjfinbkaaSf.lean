/-
  Scopes: the free names, and whether there are none: the specification's and as they landed. Conditions: written at each theorem.
-/
import Derived.Test.YtcpafjpjfinbkaaSr
import Derived.Test.YtcpafjpjfinbkaaSy
namespace Go.Proofs.Ytcpafjpjfinbkaa
open Go.ChangeShapes Go.WideShapes Go.ChangeAt Go.RowKit Go.Sort
set_option linter.unusedVariables false

/-- The names of the NVars without a binder among the first k nodes. -/
def freeF (ts : List Nod) : Nat → List (List UInt8)
  | 0 => []
  | k + 1 => freeF ts k ++ (if (ts.getD k noNod).kind = 1 ∧ (binN ts k).node < 0 then [(ts.getD k noNod).name.data.toList] else [])

/-- What FreeNames answers. -/
def freeB (ts : List Nod) : List (List UInt8) := if nodesB ts = true then insL [] (freeF ts ts.length) else []

theorem freeF_length (ts : List Nod) : ∀ k, (freeF ts k).length ≤ k
  | 0 => Nat.le_refl _
  | k + 1 => by
    rw [freeF, List.length_append]
    have := freeF_length ts k
    split <;> simp <;> omega

theorem ins_next (xs : List (List UInt8)) (s : List UInt8) : insL [] (xs ++ [s]) = insU (insL [] xs) s := by
  unfold insL
  rw [List.foldl_append]
  rfl

theorem name_small {ts : List Nod} (h : nodesB ts = true) (k : Nat) (hk : k < ts.length) : (ts.getD k noNod).name.size ≤ 8 ∧ (ts.getD k noNod).other.size ≤ 8 := by
  obtain ⟨_, _, ⟨st, hR⟩, _⟩ := right_par h
  exact fields_small (decide_eq_true (hR.2 k hk).1)

theorem freeF_small {ts : List Nod} (h : nodesB ts = true) : ∀ k, k ≤ ts.length → ∀ x ∈ freeF ts k, x.length ≤ 1000000
  | 0, _, x, hx => by simp [freeF] at hx
  | k + 1, hk, x, hx => by
    rw [freeF] at hx
    rcases List.mem_append.1 hx with hx | hx
    · exact freeF_small h k (by omega) x hx
    · split at hx
      · rw [List.mem_singleton] at hx
        subst hx
        have := (name_small h k (by omega)).1
        rw [Array.length_toList]
        have e : (ts.getD k noNod).name.size = (ts.getD k noNod).name.data.size := rfl
        omega
      · simp at hx

theorem freeB_length (ts : List Nod) : (freeB ts).length ≤ 150 := by
  unfold freeB
  split
  · rename_i h
    obtain ⟨h1, h2, _⟩ := nodesB_starts h
    have := insL_length (freeF ts ts.length) []
    have := freeF_length ts ts.length
    simp at *
    omega
  · simp

theorem freeB_small (ts : List Nod) : ∀ x ∈ freeB ts, x.length ≤ 1000000 := fun x hx => by
  unfold freeB at hx
  split at hx
  · rename_i h
    rcases (insL_mem x _ _).1 hx with h1 | h1
    · exact freeF_small h _ (Nat.le_refl _) x h1
    · simp at h1
  · simp at hx

theorem bnd_field (y0 y1 : Int) (w : World) : (Instr.field 30 (.agg #[.int .i64 y0, .int .i64 y1]) 0).run Try.prog w = .ok (.int .i64 y0) w := by
  simp [Instr.field, run_underlying Try.underlying30, asAgg, go_sem]

set_option maxHeartbeats 4000000 in
set_option maxRecDepth 20000 in
theorem spec_free (a : Option Addr) (g cap : Nat) (ts : List Nod) (hne : 0 < ts.length → a = some ⟨g, 0, none⟩) (hl : ts.length ≤ 1048576)
    (hst : ∀ i, i < ts.length → (ts.getD i noNod).name.size ≤ maxLen ∧ (ts.getD i noNod).other.size ≤ maxLen) (w : World) (hA : NodAt w g ts) :
    Calls Try.prog 17 #[.slice a ts.length cap] w fun e w' => ∃ v, e = .returned v ∧ ownS w' w.heap.size v (freeB ts) ∧ Below w.heap.size w w' := by
  have HA : Hid (NodAt w g ts) := hA
  have HT : Hid (∀ i, i < ts.length → (ts.getD i noNod).name.size ≤ maxLen ∧ (ts.getD i noNod).other.size ≤ maxLen) := hst
  clear hA hst
  go_enter Try.func17, Try.ntmps17
  go_wp2
  go_loopw [3, 4] (fun out iv wr => ∃ k : Nat, k ≤ ts.length ∧ iv = .int .i64 k ∧ (0 < k → nodesB ts = true) ∧ Hid (ownS wr w.heap.size out (insL [] (freeF ts k))) ∧ Below w.heap.size w wr) (fun _ iv _ => ts.length - (intOf iv).toNat)
  case atStart => exact ⟨0, by omega, rfl, fun h => absurd h (by omega), ownS_empty (Nat.le_refl _), (Below.refl _ w).alloc (Nat.le_refl _) _⟩
  case round =>
    obtain ⟨k, hk, rfl, hkb, HO, hb⟩ := hrel
    have HKB : Hid (0 < k → nodesB ts = true) := hkb
    clear hkb
    have hs := hb.size
    by_cases hin : k < ts.length
    · have e1 : (k : Int) < ts.length := by omega
      obtain rfl := hne (by omega)
      go_wp2_with fail
      refine (spec_nodes _ g cap ts (fun _ => rfl) hl HT.out wr (HA.out.below hb (fun h => HA.out.lt h))).mono ?_
      rintro e w1 ⟨rfl, b1⟩
      have hb1 : Below w.heap.size w w1 := hb.trans (b1.mono hs)
      have HO1 : Hid (ownS w1 w.heap.size u3 (insL [] (freeF ts k))) := ownS_kept HO.out b1 (Nat.le_refl _)
      have hs1 := hb1.size
      clear HO hb b1
      cases hok : nodesB ts
      · have hk0 : k = 0 := by
          rcases Nat.eq_zero_or_pos k with h | h
          · exact h
          · have := HKB.out h; rw [hok] at this; cases this
        have HV : Hid (freeB ts = insL [] (freeF ts k)) := by show freeB ts = _; rw [freeB, if_neg (by rw [hok]; exact Bool.false_ne_true), hk0]; rfl
        clear hok hk0 HKB
        go_wp2
        go_ret
        exact ⟨_, rfl, by rw [HV.out]; exact HO1.out, hb1⟩
      · have HOK : Hid (nodesB ts = true) := hok
        clear hok HKB
        obtain ⟨hl1, hl2, _⟩ := nodesB_starts HOK.out
        have t := (HA.out.below hb1 (fun h => HA.out.lt h)) k hin
        have hfl := insL_length (freeF ts k) []
        have hfl2 := freeF_length ts k
        have HUP : Hid (Up (insL [] (freeF ts k))) := insL_up _ _ (by simp [Up])
        have HFN : Hid (freeF ts (k + 1) = freeF ts k ++ (if (ts.getD k noNod).kind = 1 ∧ (binN ts k).node < 0 then [(ts.getD k noNod).name.data.toList] else [])) := rfl
        have HBB : Hid (bindB ts k = binN ts k) := by
          show bindB ts k = _
          rw [bindB, if_pos ⟨HOK.out, by omega, e1⟩]
          rfl
        obtain ⟨⟨x0, x1, x2, x3, x4, x5, x6⟩, hx⟩ : ∃ y, ts.getD k noNod = y := ⟨_, rfl⟩
        have HXN : Hid (ts.getD k noNod = ⟨x0, x1, x2, x3, x4, x5, x6⟩) := hx
        rw [hx] at t HFN
        have HL1 : Hid ((insL [] (freeF ts k)).length ≤ 1000) := by show _ ≤ _; simp at hfl; omega
        have c0 : w1.cell? ⟨g, k * 7, none⟩ = some (.int .i64 x0) := t.c0
        clear t hx hfl hfl2
        by_cases hk1 : x0 = 1
        · subst hk1
          go_wp2_with fail
          refine (spec_binder _ g cap ts k (fun _ => rfl) hl HT.out w1 (HA.out.below hb1 (fun h => HA.out.lt h))).mono ?_
          rintro e w2 ⟨rfl, b2⟩
          rw [HBB.out]
          have hb2 : Below w.heap.size w w2 := hb1.trans (b2.mono hs1)
          have hs2 := hb2.size
          have HO2 : Hid (ownS w2 w.heap.size u3 (insL [] (freeF ts k))) := ownS_kept HO1.out b2 (Nat.le_refl _)
          have t2 := (HA.out.below hb2 (fun h => HA.out.lt h)) k hin
          rw [HXN.out] at t2
          have c5 : w2.cell? ⟨g, k * 7 + 5, none⟩ = some (.string x5) := t2.c5
          have HIN : Hid (∀ s, insL [] (freeF ts k ++ [s]) = insU (insL [] (freeF ts k)) s) := fun s => ins_next _ s
          clear t2 HO1 b2 hb1 HBB c0 HXN
          generalize binN ts k = y at *
          obtain ⟨y0, y1⟩ := y
          have hfd := bnd_field y0 y1
          by_cases hy : y0 < 0
          · have HNX : Hid (insL [] (freeF ts (k + 1)) = insU (insL [] (freeF ts k)) x5.data.toList) := by
              show _ = _
              rw [HFN.out, if_pos (by first | exact ⟨rfl, hy⟩ | exact ⟨trivial, hy⟩)]
              exact HIN.out _
            generalize insL [] (freeF ts k) = F at *
            clear HFN HIN
            go_wp2_with fail
            refine (spec_sort w.heap.size u3 F x5 HUP.out HL1.out w2 hs2 HO2.out).mono ?_
            rintro e w3 ⟨v3, rfl, ho3, b3⟩
            have HO3 : Hid (ownS w3 w.heap.size v3 (insL [] (freeF ts (k + 1)))) := by show ownS w3 w.heap.size v3 _; rw [HNX.out]; exact ho3
            have hb3 : Below w.heap.size w w3 := hb2.trans (b3.mono hs2)
            clear ho3 b3 hb2 HO2 c5
            go_wp2
            go_roundw
            case rel => exact ⟨k + 1, by omega, by go_num, fun _ => HOK.out, HO3, hb3⟩
            case measure => simp [intOf]; omega
          · have HNX : Hid (ownS w2 w.heap.size u3 (insL [] (freeF ts (k + 1)))) := by
              show ownS w2 w.heap.size u3 _
              rw [HFN.out, if_neg (fun h => hy h.2), List.append_nil]
              exact HO2.out
            clear HFN HIN HO2
            go_wp2
            go_roundw
            case rel => exact ⟨k + 1, by omega, by go_num, fun _ => HOK.out, HNX, hb2⟩
            case measure => simp [intOf]; omega
        · have n1 : (x0 == 1) = false := by simpa using hk1
          have HNX : Hid (ownS w1 w.heap.size u3 (insL [] (freeF ts (k + 1)))) := by
            show ownS w1 w.heap.size u3 _
            rw [HFN.out, if_neg (fun h => hk1 h.1), List.append_nil]
            exact HO1.out
          clear HFN HO1 HBB hk1
          go_wp2
          go_roundw
          case rel => exact ⟨k + 1, by omega, by go_num, fun _ => HOK.out, HNX, hb1⟩
          case measure => simp [intOf]; omega
    · obtain rfl : k = ts.length := by omega
      have HV : Hid (freeB ts = insL [] (freeF ts ts.length)) := by
        show freeB ts = _
        unfold freeB
        split
        · rfl
        · rename_i hno
          have h0 : ts.length = 0 := by
            rcases Nat.eq_zero_or_pos ts.length with h | h
            · exact h
            · exact absurd (HKB.out h) hno
          rw [h0]; rfl
      clear HKB
      go_wp2
      go_ret
      exact ⟨_, rfl, by rw [HV.out]; exact HO.out, hb⟩

set_option maxHeartbeats 4000000 in
set_option maxRecDepth 20000 in
theorem impl_free (a : Option Addr) (g cap : Nat) (ts : List Nod) (hne : 0 < ts.length → a = some ⟨g, 0, none⟩) (hl : ts.length ≤ 1048576)
    (hst : ∀ i, i < ts.length → (ts.getD i noNod).name.size ≤ maxLen ∧ (ts.getD i noNod).other.size ≤ maxLen) (w : World) (hA : NodAt w g ts) :
    Calls Try.prog 18 #[.slice a ts.length cap] w fun e w' => ∃ v, e = .returned v ∧ ownS w' w.heap.size v (freeB ts) ∧ Below w.heap.size w w' := by
  have HA : Hid (NodAt w g ts) := hA
  have HT : Hid (∀ i, i < ts.length → (ts.getD i noNod).name.size ≤ maxLen ∧ (ts.getD i noNod).other.size ≤ maxLen) := hst
  have HV : Hid (freeB ts = risL (freeF ts (binL ts).length)) := by
    show freeB ts = _
    unfold freeB binL
    by_cases hok : nodesB ts = true
    · rw [if_pos hok, if_pos hok, binF_length, ris_ins _ _ (fun x => Iff.rfl)]
    · rw [if_neg hok, if_neg hok]
      show [] = risL []
      simp [risL, Lib.compact, Lib.compactUpTo]
  have HBN : Hid (∀ k, k < (binL ts).length → k < ts.length ∧ (binL ts).getD k noBnd = binN ts k) := fun k hk => by
    by_cases hok : nodesB ts = true
    · rw [binL, if_pos hok, binF_length] at hk
      rw [binL, if_pos hok, binF_at ts _ k hk]
      exact ⟨hk, rfl⟩
    · rw [binL, if_neg hok] at hk
      simp at hk
  have HSM : Hid (∀ x ∈ freeF ts (binL ts).length, x.length ≤ 1000000) := fun x hx => by
    by_cases hok : nodesB ts = true
    · rw [binL, if_pos hok, binF_length] at hx
      exact freeF_small hok _ (Nat.le_refl _) x hx
    · rw [binL, if_neg hok] at hx
      simp [freeF] at hx
  have hbl := binL_length ts
  obtain ⟨i0, hi, hz0, hz1, hz2⟩ := info_parts info_str
  clear hA hst
  go_enter Try.func18, Try.ntmps18
  go_wp2_with fail
  refine (impl_binders a g cap ts hne hl HT.out w HA.out).mono ?_
  rintro e w1 ⟨⟨H, rfl, hH, hr1⟩, b1⟩
  have HR1 : Hid (w1.heap[H]? = some (.cells ((binL ts).flatMap bndCells).toArray 30 (0, 0))) := hr1
  have s1 := b1.size
  have hHl : H < w1.heap.size := (Array.getElem?_eq_some_iff.1 hr1).1
  generalize binL ts = bl at *
  clear hr1
  go_wp2
  go_loopw [3, 9] (fun out iv wr => ∃ k : Nat, k ≤ bl.length ∧ iv = .int .i64 k ∧ Hid (ownS wr w1.heap.size out (freeF ts k)) ∧ Below w1.heap.size w1 wr) (fun _ iv _ => bl.length - (intOf iv).toNat)
  case atStart => exact ⟨0, by omega, rfl, ownS_nil, Below.refl _ _⟩
  case round =>
    obtain ⟨k, hk, rfl, HO, hb⟩ := hrel
    have hs := hb.size
    by_cases hin : k < bl.length
    · have hin' : (k : Int) < bl.length := by omega
      obtain ⟨hkt, hbk⟩ := HBN.out k hin
      have hkt' : (k : Int) < ts.length := by omega
      obtain rfl := hne (by omega)
      have t := bnd_of_room ((hb.block H hHl).trans HR1.out) k hin
      rw [hbk] at t
      have hfl := freeF_length ts k
      have HFN : Hid (freeF ts (k + 1) = freeF ts k ++ (if (ts.getD k noNod).kind = 1 ∧ (binN ts k).node < 0 then [(ts.getD k noNod).name.data.toList] else [])) := rfl
      generalize binN ts k = y at t HFN
      obtain ⟨y0, y1⟩ := y
      have c0 : wr.cell? ⟨H, k * 2, none⟩ = some (.int .i64 y0) := t.c0
      have c1 : wr.cell? ⟨H, k * 2 + 1, none⟩ = some (.int .i64 y1) := t.c1
      have ba : Below w1.heap.size w1 (wr.alloc (.cells #[.int .i64 y0, .int .i64 y1] 30)) := hb.alloc hs _
      have n := (HA.out.below (b1.trans (ba.mono s1)) (fun h => HA.out.lt h)) k hkt
      obtain ⟨⟨x0, x1, x2, x3, x4, x5, x6⟩, hx⟩ : ∃ y, ts.getD k noNod = y := ⟨_, rfl⟩
      rw [hx] at n HFN
      have q0 : (wr.alloc (.cells #[.int .i64 y0, .int .i64 y1] 30)).cell? ⟨g, k * 7, none⟩ = some (.int .i64 x0) := n.c0
      have q5 : (wr.alloc (.cells #[.int .i64 y0, .int .i64 y1] 30)).cell? ⟨g, k * 7 + 5, none⟩ = some (.string x5) := n.c5
      have HO2 : Hid (ownS (wr.alloc (.cells #[.int .i64 y0, .int .i64 y1] 30)) w1.heap.size u3 (freeF ts k)) := HO.out.alloc _
      have HBA : Hid (_) := ba
      clear t n hx hbk HO ba
      by_cases hk1 : x0 = 1
      · subst hk1
        by_cases hy : y0 < 0
        · have HNX : Hid (freeF ts (k + 1) = freeF ts k ++ [x5.data.toList]) := by show _ = _; rw [HFN.out, if_pos (by first | exact ⟨rfl, hy⟩ | exact ⟨trivial, hy⟩)]
          generalize freeF ts k = F at *
          clear HFN
          go_wp2_with (at_builtin; refine wpList_append_own _ rfl _ _ 33 rfl w1.heap.size 9 i0 (.string ⟨#[]⟩) 1 16 Try.underlying33 hi hz0 hz1 hz2 rfl (by decide) _ _ _ rfl (HO2.out.alloc _) ⟨wr.heap.size + 1, 0, none⟩ 1 1 [.string x5] rfl rfl ?a1 ?a2 ?a3 ?a4 ?a5 ?_)
          try (case a1 => intro j u hj; cases j with | zero => (simp at hj; subst hj; simp [Addr.add]) | succ j => simp at hj)
          case a2 => first | rfl | (intro u hu; simp at hu; subst hu; rfl)
          case a3 => unfold maxLen; omega
          case a4 => omega
          case a5 => first | omega | (simp; omega)
          intro v' W3 hown' hgrow _
          have HM : Hid (ownS W3 w1.heap.size v' (freeF ts (k + 1))) := by
            show ownS W3 w1.heap.size v' _
            rw [HNX.out]
            refine ownS_next x5.data.toList hown' rfl ?_
            show _ = _ ++ [Value.string ⟨x5.data.toList.toArray⟩]
            rw [bytes_list]
          have HB3 : Hid (Below w1.heap.size w1 W3) := (HBA.out.alloc (by simp; omega) _).grown hgrow (by simp; omega) (fun q hq => (HO2.out.lt q hq).1)
          clear hown' hgrow HO2 HBA
          go_wp2
          go_roundw
          case rel => exact ⟨k + 1, by omega, by go_num, HM, HB3.out⟩
          case measure => simp [intOf]; omega
        · have HM : Hid (ownS (wr.alloc (.cells #[.int .i64 y0, .int .i64 y1] 30)) w1.heap.size u3 (freeF ts (k + 1))) := by
            show ownS _ w1.heap.size u3 _
            rw [HFN.out, if_neg (fun h => hy h.2), List.append_nil]
            exact HO2.out
          clear HFN HO2
          go_wp2
          go_roundw
          case rel => exact ⟨k + 1, by omega, by go_num, HM, HBA.out⟩
          case measure => simp [intOf]; omega
      · have n1 : (x0 == 1) = false := by simpa using hk1
        have HM : Hid (ownS (wr.alloc (.cells #[.int .i64 y0, .int .i64 y1] 30)) w1.heap.size u3 (freeF ts (k + 1))) := by
          show ownS _ w1.heap.size u3 _
          rw [HFN.out, if_neg (fun h => hk1 h.1), List.append_nil]
          exact HO2.out
        clear HFN HO2 hk1
        go_wp2
        go_roundw
        case rel => exact ⟨k + 1, by omega, by go_num, HM, HBA.out⟩
        case measure => simp [intOf]; omega
    · obtain rfl : k = bl.length := by omega
      have hfl := freeF_length ts bl.length
      go_wp2_with fail
      refine (impl_rising w1.heap.size u3 (freeF ts bl.length) (by omega) HSM.out wr HO.out).mono ?_
      rintro e w2 ⟨v2, rfl, ho2, b2⟩
      have HE : Hid (ownS w2 w.heap.size v2 (freeB ts)) := by
        show ownS w2 w.heap.size v2 _
        rw [HV.out]
        exact ownS_base ho2 (by omega)
      have HB2 : Hid (Below w.heap.size w w2) := b1.trans ((hb.mono s1).trans (b2.mono (by omega)))
      clear ho2 b2 HO
      go_wp2
      go_ret
      exact ⟨_, rfl, HE.out, HB2.out⟩

/-- Is it right, and are there none? -/
def closedB (ts : List Nod) : Bool := nodesB ts && decide ((freeB ts).length = 0)

theorem ownS_len {w : World} {B : Nat} {v : Value} {l : List (List UInt8)} (h : ownS w B v l) : ∃ a cap, v = .slice a l.length cap := by
  obtain ⟨a, g, cap, rfl, _⟩ := ownS_form h
  exact ⟨a, cap, rfl⟩

theorem spec_closed (a : Option Addr) (g cap : Nat) (ts : List Nod) (hne : 0 < ts.length → a = some ⟨g, 0, none⟩) (hl : ts.length ≤ 1048576)
    (hst : ∀ i, i < ts.length → (ts.getD i noNod).name.size ≤ maxLen ∧ (ts.getD i noNod).other.size ≤ maxLen) (w : World) (hA : NodAt w g ts) :
    Calls Try.prog 23 #[.slice a ts.length cap] w fun e w' => e = .returned (.bool (closedB ts)) ∧ Below w.heap.size w w' := by
  have HA : Hid (NodAt w g ts) := hA
  have HT : Hid (∀ i, i < ts.length → (ts.getD i noNod).name.size ≤ maxLen ∧ (ts.getD i noNod).other.size ≤ maxLen) := hst
  have HV : Hid (closedB ts = (nodesB ts && decide ((freeB ts).length = 0))) := rfl
  clear hA hst
  go_enter Try.func23, Try.ntmps23
  go_wp2_with fail
  refine (spec_nodes a g cap ts hne hl HT.out w HA.out).mono ?_
  rintro e w1 ⟨rfl, b1⟩
  cases hok : nodesB ts
  · have HW : Hid (closedB ts = false) := by show closedB ts = false; rw [HV.out, hok]; rfl
    clear HV hok
    go_wp2
    go_ret
    exact ⟨by rw [HW.out] <;> rfl, b1⟩
  · have HW : Hid (closedB ts = decide ((freeB ts).length = 0)) := by show closedB ts = _; rw [HV.out, hok]; rfl
    clear HV hok
    go_wp2_with fail
    refine (spec_free a g cap ts hne hl HT.out w1 (HA.out.below b1 (fun h => HA.out.lt h))).mono ?_
    rintro e w2 ⟨v2, rfl, ho2, b2⟩
    obtain ⟨a2, c2, rfl⟩ := ownS_len ho2
    have HB2 : Hid (Below w.heap.size w w2) := b1.trans (b2.mono b1.size)
    generalize (freeB ts).length = n at *
    clear ho2 b2
    by_cases hn : n = 0
    · subst hn
      go_wp2
      go_ret
      exact ⟨by rw [HW.out] <;> rfl, HB2.out⟩
    · have HN : Hid (decide (n = 0) = false) := decide_eq_false hn
      have hn' : ((n : Int) == 0) = false := by rw [beq_eq_false_iff_ne]; omega
      go_wp2
      go_ret
      exact ⟨by rw [HW.out, HN.out] <;> rfl, HB2.out⟩

theorem impl_closed (a : Option Addr) (g cap : Nat) (ts : List Nod) (hne : 0 < ts.length → a = some ⟨g, 0, none⟩) (hl : ts.length ≤ 1048576)
    (hst : ∀ i, i < ts.length → (ts.getD i noNod).name.size ≤ maxLen ∧ (ts.getD i noNod).other.size ≤ maxLen) (w : World) (hA : NodAt w g ts) :
    Calls Try.prog 24 #[.slice a ts.length cap] w fun e w' => e = .returned (.bool (closedB ts)) ∧ Below w.heap.size w w' := by
  have HA : Hid (NodAt w g ts) := hA
  have HT : Hid (∀ i, i < ts.length → (ts.getD i noNod).name.size ≤ maxLen ∧ (ts.getD i noNod).other.size ≤ maxLen) := hst
  have HV : Hid (closedB ts = (nodesB ts && decide ((freeB ts).length = 0))) := rfl
  clear hA hst
  go_enter Try.func24, Try.ntmps24
  go_wp2_with fail
  refine (impl_nodes a g cap ts hne hl HT.out w HA.out).mono ?_
  rintro e w1 ⟨rfl, b1⟩
  cases hok : nodesB ts
  · have HW : Hid (closedB ts = false) := by show closedB ts = false; rw [HV.out, hok]; rfl
    clear HV hok
    go_wp2
    go_ret
    exact ⟨by rw [HW.out] <;> rfl, b1⟩
  · have HW : Hid (closedB ts = decide ((freeB ts).length = 0)) := by show closedB ts = _; rw [HV.out, hok]; rfl
    clear HV hok
    go_wp2_with fail
    refine (impl_free a g cap ts hne hl HT.out w1 (HA.out.below b1 (fun h => HA.out.lt h))).mono ?_
    rintro e w2 ⟨v2, rfl, ho2, b2⟩
    obtain ⟨a2, c2, rfl⟩ := ownS_len ho2
    have HB2 : Hid (Below w.heap.size w w2) := b1.trans (b2.mono b1.size)
    generalize (freeB ts).length = n at *
    clear ho2 b2
    by_cases hn : n = 0
    · subst hn
      go_wp2
      go_ret
      exact ⟨by rw [HW.out] <;> rfl, HB2.out⟩
    · have HN : Hid (decide (n = 0) = false) := decide_eq_false hn
      have hn' : ((n : Int) == 0) = false := by rw [beq_eq_false_iff_ne]; omega
      go_wp2
      go_ret
      exact ⟨by rw [HW.out, HN.out] <;> rfl, HB2.out⟩
end Go.Proofs.Ytcpafjpjfinbkaa
