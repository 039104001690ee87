/-
  Several texts in one, in their order: each is told at its own place by its theorems. Conditions: written at each theorem.
-/
import Derived.Test.YtlooccddflpmnaaGreatDoorJ1
import Derived.Test.YtlooccddflpmnaaGreatDoorShelf
import Derived.Lib.LaidTab
import Derived.Lib.AppendIntMem
import Derived.WalkSmall
import Derived.Test.YtlooccddflpmnaaGreatDoorSt
import Derived.Deep.RegionWith
import Derived.Deep.CutRange
import Derived.Deep.LoopGhost
import Derived.Test.YtlooccddflpmnaaGreatDoorAp
import Derived.Test.YtlooccddflpmnaaGreatDoorGs
import Derived.Test.YtlooccddflpmnaaGreatDoorNk
import Derived.Test.YtlooccddflpmnaaGreatDoorCards
import Derived.Test.YtlooccddflpmnaaGreatDoorTie
import Derived.Deep.DeepHandedRow
import Derived.Stop.LaidErr
import Derived.LaidLaws
import Derived.Deep.QuietTactic
import Derived.BigQuiet
import Derived.Laws.StructEq
namespace Go.Proofs.YtlooccddflpmnaaGreatDoor
set_option linter.unusedVariables false

section
open Go.ChangeShapes Go.WideShapes Go.ChangeAt Go.RowKit

abbrev powName : String := "internal/strconv.uint64pow10"
abbrev PowIs (w : World) : Prop := Lib.TabIs Tryz.prog w powName .u64 Lib.pow10Tab
theorem gPow : Tryz.prog.globalNamed powName = some 2 := by kernel_rfl

theorem var_lt {w : World} {n : String} {g : Nat} {cs : Array Value} (hg : Tryz.prog.globalNamed n = some g) (hv : w.var? Tryz.prog n = some cs) : g < w.heap.size := by
  rcases Nat.lt_or_ge g w.heap.size with h | h
  · exact h
  · simp [World.var?, hg, Array.getElem?_eq_none h] at hv

theorem var_kept {w w' : World} {n : String} {g : Nat} {cs : Array Value} (hg : Tryz.prog.globalNamed n = some g) (hv : w.var? Tryz.prog n = some cs) (hb : Below w.heap.size w w') : w'.var? Tryz.prog n = some cs :=
  var?_below hb hg (var_lt hg hv) hv

theorem impl_dec (n : Int) (h0 : -9223372036854775808 ≤ n) (h1 : n ≤ 9223372036854775807) (w : World) (hp : PowIs w) :
    Calls Tryz.prog 51 #[.int .i64 n] w fun e w' => e = .returned (.string ⟨(Lib.itoa n).toArray⟩) ∧ Below w.heap.size w w' := by
  have hp' : Hid (PowIs w) := hp
  clear hp
  go_enter Tryz.func51, Tryz.ntmps51
  go_wp2_with fail
  refine (Tryz.strconv_Itoa n h0 h1 w hp'.out).mono ?_
  rintro e w1 ⟨rfl, k, os, rfl⟩
  have hb := Lib.below_grow w.heap.size w (Nat.le_refl _) k os
  generalize Sort.grow (w.drewN k) os = w2 at *
  go_wp2
  go_ret
  exact ⟨rfl, hb⟩
end

section
open Go.ChangeShapes Go.WideShapes Go.ChangeAt Go.RowKit

/-- How many kids of a form stand ahead of its names. -/
def aheadN (k : Int) : Nat := if k = 19 then 1 else if k = 14 then 2 else 0

theorem impl_fore (k : Int) (w : World) : Calls Tryz.prog 87 #[.int .i64 k] w fun e w' => e = .returned (.int .i64 (aheadN k : Nat)) ∧ w' = w := by
  by_cases h19 : k = 19
  · subst h19
    go_enter Tryz.func87, Tryz.ntmps87
    go_wp2
    go_ret
    exact ⟨rfl, rfl⟩
  by_cases h14 : k = 14
  · subst h14
    go_enter Tryz.func87, Tryz.ntmps87
    go_wp2
    go_ret
    exact ⟨rfl, rfl⟩
  have hv : Hid (aheadN k = 0) := by
    show aheadN k = 0
    unfold aheadN
    rw [if_neg h19, if_neg h14]
  have g19 : (k == 19) = false := by simpa using h19
  have g14 : (k == 14) = false := by simpa using h14
  clear h19 h14
  go_enter Tryz.func87, Tryz.ntmps87
  go_wp2
  go_ret
  exact ⟨by rw [hv.out]; rfl, rfl⟩

/-- What kids write, a blank ahead of each. -/
def kidsT (rec : Nat → List UInt8) : List Int → List UInt8
  | [] => []
  | k :: ks => [32] ++ rec k.toNat ++ kidsT rec ks

def namesT : List ByteArray → List UInt8
  | [] => []
  | s :: ss => [32] ++ s.data.toList ++ namesT ss

/-- A form's names stand behind some kids and ahead of the others. -/
theorem argT_parts {rec : Nat → List UInt8} {k n : Int} (h : IsForm k n) (s o : ByteArray) (a b c : Int) :
    argT rec (goesOn k) [s, o] [a, b, c] = kidsT rec (([a, b, c].take (arN k)).take (aheadN k)) ++ namesT ([s, o].take (nmN k)) ++ kidsT rec (([a, b, c].take (arN k)).drop (aheadN k)) := by
  obtain ⟨h1, h2, h3, h4⟩ := h
  have : k = 3 ∨ k = 4 ∨ k = 5 ∨ k = 6 ∨ k = 7 ∨ k = 8 ∨ k = 9 ∨ k = 10 ∨ k = 11 ∨ k = 13 ∨ k = 14 ∨ k = 15 ∨ k = 16 ∨ k = 17 ∨ k = 18 ∨ k = 19 := by omega
  clear h1 h2 h3 h4
  rcases this with rfl | rfl | rfl | rfl | rfl | rfl | rfl | rfl | rfl | rfl | rfl | rfl | rfl | rfl | rfl | rfl <;> simp [argT, goesOn, arN, aheadN, nmN, kidsT, namesT]

theorem pow_fr {B b : Nat} {w w' : World} (h : PowIs w) (hf : Fr B b w w') (hB : 2 < B) : PowIs w' := var?_below hf.bel gPow hB h

set_option maxHeartbeats 1000000 in
set_option maxRecDepth 20000 in
theorem pr_names (k a0 b0 c0 n : Int) (s o : ByteArray) (B b : Nat) (bs : List UInt8) (nv : Value) (w : World) (hBw : B ≤ w.heap.size) (hP : PrS B b bs true nv w) (hs : s.size ≤ 8) (ho : o.size ≤ 8) (hlen : bs.length + 100 ≤ 1000000) :
    Calls Tryz.prog 90 #[.pointer (some ⟨b, 0, none⟩), .agg #[.int .i64 k, .int .i64 a0, .int .i64 b0, .int .i64 c0, .int .i64 n, .string s, .string o]] w fun e w' => e = .returned (.tuple #[]) ∧ PrS B b (bs ++ namesT ([s, o].take (nmN k))) true nv w' ∧ Fr B b w w' := by
  have HP : Hid (PrS B b bs true nv w) := hP
  have hbl := hP.lt
  have hnm : nmN k ≤ 2 := by
    unfold nmN
    repeat' split
    all_goals omega
  clear hP
  obtain ⟨wa, hwa⟩ : ∃ wa, (w.alloc (.cells #[.int .i64 k, .int .i64 a0, .int .i64 b0, .int .i64 c0, .int .i64 n, .string s, .string o] 44)).alloc (.cells #[.string s, .string o] 155) = wa := ⟨_, rfl⟩
  have HWA : Hid (_) := hwa
  have sa : wa.heap.size = w.heap.size + 2 := by rw [← hwa]; simp
  have BA : Below w.heap.size w wa := by rw [← hwa]; exact ((Below.refl _ w).alloc (Nat.le_refl _) _).alloc (by simp) _
  have RA : Hid (wa.heap[w.heap.size + 1]? = some (.cells #[.string s, .string o] 155 (0, 0))) := by
    rw [← hwa]
    have := (MapKept.heap_alloc (w.alloc (.cells #[.int .i64 k, .int .i64 a0, .int .i64 b0, .int .i64 c0, .int .i64 n, .string s, .string o] 44)) (.cells #[.string s, .string o] 155)).1
    have e1 : (w.alloc (.cells #[.int .i64 k, .int .i64 a0, .int .i64 b0, .int .i64 c0, .int .i64 n, .string s, .string o] 44)).heap.size = w.heap.size + 1 := by simp
    rw [e1] at this
    exact this
  have PA : Hid (PrS B b bs true nv wa) := HP.out.below BA
  have FA : Hid (Fr B b w wa) := Fr.of_below hBw BA
  clear hwa BA
  go_enter Tryz.func90, Tryz.ntmps90
  go_wp2_with fail
  rw [HWA.out]
  refine (impl_names k _).mono ?_
  rintro e w1 ⟨rfl, rfl⟩
  have hnm1 : (nmN k : Int) ≤ 2 := by omega
  have hnm0 : (0 : Int) ≤ (nmN k : Int) := by omega
  have HNS : Hid (∀ m, m < 2 → ([s, o].getD m ByteArray.empty).size ≤ 8) := fun m hm => by
    have : m = 0 ∨ m = 1 := by omega
    rcases this with rfl | rfl
    · exact hs
    · exact ho
  obtain ⟨m, hm⟩ : ∃ m, nmN k = m := ⟨_, rfl⟩
  have HM : Hid (nmN k = m) := hm
  rw [hm] at hnm hnm0 hnm1 ⊢
  clear hm
  go_wp2
  go_loopw [17] (fun i wr => ∃ q : Nat, q ≤ m ∧ i = .int .i64 q ∧ Hid (PrS B b (bs ++ namesT ([s, o].take q)) true nv wr) ∧ Hid (Fr B b w wr) ∧ Hid (wr.heap[w.heap.size + 1]? = some (.cells #[.string s, .string o] 155 (0, 0)))) (fun i _ => m - (intOf i).toNat)
  case atStart => exact ⟨0, by omega, rfl, by simpa [namesT] using PA, FA, RA⟩
  case round =>
    obtain ⟨q, hq, rfl, hP, hF, hR⟩ := hrel
    by_cases hin : q < m
    · have hin' : (q : Int) < m := by omega
      have hlr : w.heap.size + 1 < wr.heap.size := (Array.getElem?_eq_some_iff.1 hR.out).1
      have hql : (namesT ([s, o].take q)).length ≤ 18 := by
        have : q = 0 ∨ q = 1 := by omega
        rcases this with rfl | rfl
        · simp [namesT]
        · have := small_len hs
          simp only [List.take_succ_cons, List.take_zero, namesT, List.length_append, List.length_cons, List.length_nil]
          omega
      have c0 : wr.cell? ⟨w.heap.size + 1, q, none⟩ = some (.string ([s, o].getD q ByteArray.empty)) := by
        rw [cell_of_row _ _ _ _ _ _ hR.out]
        have : q = 0 ∨ q = 1 := by omega
        rcases this with rfl | rfl <;> rfl
      have HNX : Hid (namesT ([s, o].take (q + 1)) = namesT ([s, o].take q) ++ ([32] ++ ([s, o].getD q ByteArray.empty).data.toList)) := by
        show namesT ([s, o].take (q + 1)) = _
        have : q = 0 ∨ q = 1 := by omega
        rcases this with rfl | rfl <;> simp [namesT]
      have hsz := HNS.out q (by omega)
      generalize [s, o].getD q ByteArray.empty = nm at *
      go_wp2_with fail
      refine (wr_word B b _ true nv nm wr hP.out (by simp only [List.length_append]; omega) (by omega)).mono ?_
      rintro e w2 ⟨rfl, h2, f2⟩
      have P2 : Hid (PrS B b (bs ++ namesT ([s, o].take (q + 1))) true nv w2) := by
        show PrS B b (bs ++ namesT ([s, o].take (q + 1))) true nv w2
        rw [HNX.out]
        simpa [due] using h2
      have R2 : Hid (_) := f2.row hR.out (by omega) (by decide)
      have F2 : Hid (Fr B b w w2) := hF.out.trans f2
      clear h2 f2 c0
      go_wp2
      go_roundw
      case rel => exact ⟨q + 1, by omega, by go_num, P2, F2, R2⟩
      case measure => simp [intOf]; omega
    · obtain rfl : q = m := by omega
      go_wp2
      go_end0
      exact ⟨rfl, by rw [HM.out]; exact hP.out, hF.out⟩

/-- What is asked of node i: its text goes behind what is written, a blank ahead of it where one is due. -/
def NodeAt (ts : List Nod) (g cap f i : Nat) : Prop := ∀ (B b : Nat) (bs : List UInt8) (ap : Bool) (w : World), PowIs w → NodAt w g ts → g < B → 2 < B → B ≤ w.heap.size → PrS B b bs ap (.slice (some ⟨g, 0, none⟩) ts.length cap) w → bs.length + (due ap).length + (textN ts f i).length + 100 ≤ 1000000 →
  Calls Tryz.prog 26 #[.pointer (some ⟨b, 0, none⟩), .int .i64 i] w fun e w' => e = .returned (.tuple #[]) ∧ PrS B b (bs ++ due ap ++ textN ts f i) true (.slice (some ⟨g, 0, none⟩) ts.length cap) w' ∧ Fr B b w w'

set_option maxHeartbeats 1000000 in
set_option maxRecDepth 20000 in
theorem pr_kids {ts : List Nod} {g cap f : Nat} (o gk kc : Nat) (ks : List Int) (hI : ∀ j, j < ks.length → ∃ q : Nat, ks.getD j 0 = q ∧ NodeAt ts g cap f q) (B b : Nat) (bs : List UInt8) (w : World) (hp : PowIs w) (hA : NodAt w g ts) (hg : g < B) (hgp : 2 < B) (hBw : B ≤ w.heap.size)
    (hP : PrS B b bs true (.slice (some ⟨g, 0, none⟩) ts.length cap) w) (cs : Array Value) (hK : w.heap[gk]? = some (.cells cs 90 (0, 0))) (hgk : gk ≠ b) (hcs : ∀ j, j < ks.length → cs[o + j]? = some (.int .i64 (ks.getD j 0))) (hk3 : ks.length ≤ 3) (hlen : bs.length + (kidsT (textN ts f) ks).length + 100 ≤ 1000000) :
    Calls Tryz.prog 89 #[.pointer (some ⟨b, 0, none⟩), .slice (some ⟨gk, o, none⟩) ks.length kc] w fun e w' => e = .returned (.tuple #[]) ∧ PrS B b (bs ++ kidsT (textN ts f) ks) true (.slice (some ⟨g, 0, none⟩) ts.length cap) w' ∧ Fr B b w w' := by
  have HP : Hid (PrS B b bs true (.slice (some ⟨g, 0, none⟩) ts.length cap) w) := hP
  have HI : Hid (∀ j, j < ks.length → ∃ q : Nat, ks.getD j 0 = q ∧ NodeAt ts g cap f q) := hI
  have HW : Hid (PowIs w) := hp
  have HA : Hid (NodAt w g ts) := hA
  have HK : Hid (w.heap[gk]? = some (.cells cs 90 (0, 0))) := hK
  have HC : Hid (∀ j, j < ks.length → cs[o + j]? = some (.int .i64 (ks.getD j 0))) := hcs
  clear hP hI hp hA hK hcs
  go_enter Tryz.func89, Tryz.ntmps89
  go_wp2
  go_loopw [8] (fun i wr => ∃ q : Nat, q ≤ ks.length ∧ i = .int .i64 q ∧ Hid (PrS B b (bs ++ kidsT (textN ts f) (ks.take q)) true (.slice (some ⟨g, 0, none⟩) ts.length cap) wr) ∧ Hid (Fr B b w wr)) (fun i _ => ks.length - (intOf i).toNat)
  case atStart => exact ⟨0, by omega, rfl, by simpa [kidsT] using HP, Fr.refl _ _ _⟩
  case round =>
    obtain ⟨q, hq, rfl, hP, hF⟩ := hrel
    by_cases hin : q < ks.length
    · have hin' : (q : Int) < ks.length := by omega
      have c0 : wr.cell? ⟨gk, o + q, none⟩ = some (.int .i64 (ks.getD q 0)) := by
        have := hF.out.row HK.out hgk (by decide)
        rw [cell_of_row _ _ _ _ _ _ this]
        exact HC.out q hin
      obtain ⟨Q, hQ, hN⟩ := HI.out q hin
      rw [hQ] at c0
      have hsplit : ks.take (q + 1) = ks.take q ++ [ks.getD q 0] := by
        rw [List.take_succ_eq_append_getElem hin]
        simp [List.getD, List.getElem?_eq_getElem hin]
      have happ : ∀ (l r : List Int), kidsT (textN ts f) (l ++ r) = kidsT (textN ts f) l ++ kidsT (textN ts f) r := by
        intro l
        induction l with
        | nil => intro r; rfl
        | cons x l ih => intro r; simp [kidsT, ih]
      have HX : Hid (kidsT (textN ts f) (ks.take (q + 1)) = kidsT (textN ts f) (ks.take q) ++ ([32] ++ textN ts f Q)) := by
        show kidsT (textN ts f) (ks.take (q + 1)) = _
        rw [hsplit, happ, hQ]
        simp [kidsT]
      have hle : bs.length + (kidsT (textN ts f) (ks.take q)).length + 1 + (textN ts f Q).length + 100 ≤ 1000000 := by
        have h1 : kidsT (textN ts f) ks = kidsT (textN ts f) (ks.take (q + 1)) ++ kidsT (textN ts f) (ks.drop (q + 1)) := by rw [← happ, List.take_append_drop]
        rw [HX.out] at h1
        rw [h1] at hlen
        simp only [List.length_append, List.length_cons, List.length_nil] at hlen
        omega
      have hdl : (due true).length = 1 := rfl
      have hb := hF.out.bel
      have hCall := hN B b (bs ++ kidsT (textN ts f) (ks.take q)) true wr (pow_fr HW.out hF.out hgp) (HA.out.below hb (fun _ => hg)) hg hgp (by have := hb.size; omega) hP.out (by simp only [List.length_append, hdl]; omega)
      have HCall : Hid (Calls Tryz.prog 26 #[.pointer (some ⟨b, 0, none⟩), .int .i64 Q] wr _) := hCall
      clear hCall hN hQ hsplit happ hle hb hdl
      go_wp2_with fail
      refine Calls.mono HCall.out ?_
      rintro e w2 ⟨rfl, h2, f2⟩
      have P2 : Hid (PrS B b (bs ++ kidsT (textN ts f) (ks.take (q + 1))) true (.slice (some ⟨g, 0, none⟩) ts.length cap) w2) := by
        show PrS B b (bs ++ kidsT (textN ts f) (ks.take (q + 1))) true _ w2
        rw [HX.out]
        simpa [due] using h2
      have F2 : Hid (Fr B b w w2) := hF.out.trans f2
      clear h2 f2 c0 HCall
      go_wp2
      go_roundw
      case rel => exact ⟨q + 1, by omega, by go_num, P2, F2⟩
      case measure => simp [intOf]; omega
    · obtain rfl : q = ks.length := by omega
      rw [List.take_length] at hP
      go_wp2
      go_end0
      exact ⟨rfl, hP.out, hF.out⟩

theorem wd_name : (Tryz.f50.name == "runtime.NumGoroutine") = false := by kernel_rfl
theorem wd_body : Tryz.f50.body.isNone = false := by kernel_rfl
theorem ko_name : (Tryz.f52.name == "runtime.NumGoroutine") = false := by kernel_rfl
theorem ko_body : Tryz.f52.body.isNone = false := by kernel_rfl
theorem dc_name : (Tryz.f51.name == "runtime.NumGoroutine") = false := by kernel_rfl
theorem dc_body : Tryz.f51.body.isNone = false := by kernel_rfl

theorem due_len (ap : Bool) : (due ap).length ≤ 1 := by cases ap <;> simp [due]

theorem Fr.drew {B b : Nat} {u w : World} (h : Fr B b u w) : Fr B b u w.drew := ⟨h.bel.drew, h.oth.drew⟩

theorem form_len {rec : Nat → List UInt8} {k n : Int} (h : IsForm k n) (s o : ByteArray) (a b c : Int) : (formT rec ⟨k, a, b, c, n, s, o⟩).length = 2 + (keyN k n).data.toList.length + (kidsT rec (([a, b, c].take (arN k)).take (aheadN k))).length + (namesT ([s, o].take (nmN k))).length + (kidsT rec (([a, b, c].take (arN k)).drop (aheadN k))).length := by
  unfold formT
  simp only
  rw [argT_parts h]
  simp only [List.length_append, List.length_cons, List.length_nil]
  omega

theorem ahead_le {k n : Int} (h : IsForm k n) : aheadN k ≤ arN k := by
  obtain ⟨h1, h2, h3, h4⟩ := h
  have : k = 3 ∨ k = 4 ∨ k = 5 ∨ k = 6 ∨ k = 7 ∨ k = 8 ∨ k = 9 ∨ k = 10 ∨ k = 11 ∨ k = 13 ∨ k = 14 ∨ k = 15 ∨ k = 16 ∨ k = 17 ∨ k = 18 ∨ k = 19 := by omega
  clear h1 h2 h3 h4
  rcases this with rfl | rfl | rfl | rfl | rfl | rfl | rfl | rfl | rfl | rfl | rfl | rfl | rfl | rfl | rfl | rfl <;> decide

set_option maxHeartbeats 4000000 in
set_option maxRecDepth 20000 in
theorem pr_form {ts : List Nod} {g cap f : Nat} (k a0 b0 c0 n : Int) (s o : ByteArray) (hF : IsForm k n) (hI : ∀ j, j < arN k → ∃ q : Nat, [a0, b0, c0].getD j 0 = q ∧ NodeAt ts g cap f q) (hs : s.size ≤ 8) (ho : o.size ≤ 8)
    (B b : Nat) (bs : List UInt8) (ap : Bool) (w : World) (hp : PowIs w) (hA : NodAt w g ts) (hg : g < B) (hgp : 2 < B) (hBw : B ≤ w.heap.size) (hP : PrS B b bs ap (.slice (some ⟨g, 0, none⟩) ts.length cap) w) (hlen : bs.length + (due ap).length + (formT (textN ts f) ⟨k, a0, b0, c0, n, s, o⟩).length + 100 ≤ 1000000) :
    Calls Tryz.prog 53 #[.pointer (some ⟨b, 0, none⟩), .agg #[.int .i64 k, .int .i64 a0, .int .i64 b0, .int .i64 c0, .int .i64 n, .string s, .string o]] w fun e w' =>
      e = .returned (.tuple #[]) ∧ PrS B b (bs ++ due ap ++ formT (textN ts f) ⟨k, a0, b0, c0, n, s, o⟩) true (.slice (some ⟨g, 0, none⟩) ts.length cap) w' ∧ Fr B b w w' := by
  have hbl := hP.lt
  have hfl := form_len (rec := textN ts f) hF s o a0 b0 c0
  have HFT : Hid (formT (textN ts f) ⟨k, a0, b0, c0, n, s, o⟩ = [40] ++ (keyN k n).data.toList ++ (kidsT (textN ts f) (([a0, b0, c0].take (arN k)).take (aheadN k)) ++ namesT ([s, o].take (nmN k)) ++ kidsT (textN ts f) (([a0, b0, c0].take (arN k)).drop (aheadN k))) ++ [41]) := by
    show formT (textN ts f) ⟨k, a0, b0, c0, n, s, o⟩ = _
    unfold formT
    simp only
    rw [argT_parts hF]
  rw [hfl] at hlen
  have hal := ahead_le hF
  have har := arN_le k
  have hkl := keyN_len k n
  have HP : Hid (PrS B b bs ap (.slice (some ⟨g, 0, none⟩) ts.length cap) w) := hP
  have HI : Hid (∀ j, j < arN k → ∃ q : Nat, [a0, b0, c0].getD j 0 = q ∧ NodeAt ts g cap f q) := hI
  have HW : Hid (PowIs w) := hp
  have HA : Hid (NodAt w g ts) := hA
  have HF : Hid (IsForm k n) := hF
  have CK : Hid (∀ w : World, Calls Tryz.prog 52 #[.agg #[.int .i64 k, .int .i64 a0, .int .i64 b0, .int .i64 c0, .int .i64 n, .string s, .string o]] w fun e w' => e = .returned (.string (keyN k n)) ∧ Below w.heap.size w w') := fun w => impl_keyOf k a0 b0 c0 n s o w
  clear hP hI hp hA hF hfl
  generalize keyN k n = KY at *
  obtain ⟨wa, hwa⟩ : ∃ wa, w.alloc (.cells #[.int .i64 k, .int .i64 a0, .int .i64 b0, .int .i64 c0, .int .i64 n, .string s, .string o] 44) = wa := ⟨_, rfl⟩
  have HWA : Hid (w.alloc (.cells #[.int .i64 k, .int .i64 a0, .int .i64 b0, .int .i64 c0, .int .i64 n, .string s, .string o] 44) = wa) := hwa
  have sa : wa.heap.size = w.heap.size + 1 := by rw [← hwa]; simp
  have BA : Below w.heap.size w wa := by rw [← hwa]; exact (Below.refl _ w).alloc (Nat.le_refl _) _
  have RA : Hid (wa.heap[w.heap.size]? = some (.cells #[.int .i64 k, .int .i64 a0, .int .i64 b0, .int .i64 c0, .int .i64 n, .string s, .string o] 44 (0, 0))) := by rw [← hwa]; exact (MapKept.heap_alloc w _).1
  have PA : Hid (PrS B b bs ap (.slice (some ⟨g, 0, none⟩) ts.length cap) wa) := HP.out.below BA
  have FA : Hid (Fr B b w wa) := Fr.of_below hBw BA
  clear hwa BA HP
  go_enter Tryz.func53, Tryz.ntmps53
  go_wp2_with fail
  rw [HWA.out]
  refine (impl_kids k a0 b0 c0 n s o wa).mono ?_
  rintro e w1 ⟨rfl, hk1, b1⟩
  obtain ⟨GK, hGK⟩ : ∃ GK, wa.heap.size + 3 = GK := ⟨_, rfl⟩
  rw [hGK] at hk1 ⊢
  have hgk : GK < w1.heap.size := (Array.getElem?_eq_some_iff.1 hk1).1
  have hgb : GK ≠ b := by omega
  have r1 := (b1.block _ (by omega)).trans RA.out
  have R1 : Hid (w1.heap[w.heap.size]? = some (.cells #[.int .i64 k, .int .i64 a0, .int .i64 b0, .int .i64 c0, .int .i64 n, .string s, .string o] 44 (0, 0))) := r1
  have K1 : Hid (w1.heap[GK]? = some (.cells #[.int .i64 a0, .int .i64 b0, .int .i64 c0] 90 (0, 0))) := hk1
  have P1 : Hid (PrS B b bs ap (.slice (some ⟨g, 0, none⟩) ts.length cap) w1) := PA.out.below b1
  have F1 : Hid (Fr B b w w1) := FA.out.trans (Fr.of_below (by omega) b1)
  have s1 := b1.size
  clear b1 hk1 RA PA FA HWA
  obtain ⟨q0, q1, q2, q3, q4, q5, q6⟩ := cells7_of r1
  clear r1 hGK
  go_wp2_with fail
  refine (impl_fore k w1).mono ?_
  rintro e w1 ⟨rfl, rfl⟩
  go_wp2_with fail
  refine (wr_open B b bs ap _ w1 P1.out (by omega) (by omega)).mono ?_
  rintro e w2 ⟨rfl, h2, f2⟩
  have s2 := f2.bel.size
  have r2 := f2.row R1.out (by omega) (by decide)
  have R2 : Hid (w2.heap[w.heap.size]? = some (.cells #[.int .i64 k, .int .i64 a0, .int .i64 b0, .int .i64 c0, .int .i64 n, .string s, .string o] 44 (0, 0))) := r2
  have K2 : Hid (w2.heap[GK]? = some (.cells #[.int .i64 a0, .int .i64 b0, .int .i64 c0] 90 (0, 0))) := f2.row K1.out hgb (by decide)
  have P2 : Hid (PrS B b (bs ++ due ap ++ [40]) false (.slice (some ⟨g, 0, none⟩) ts.length cap) w2) := h2
  have F2 : Hid (Fr B b w w2) := F1.out.trans f2
  clear q0 q1 q2 q3 q4 q5 q6 h2 f2 R1 K1 P1 F1
  obtain ⟨q0, q1, q2, q3, q4, q5, q6⟩ := cells7_of r2
  clear r2
  have hkb : KY.size ≤ 5 := by rw [Array.length_toList] at hkl; exact hkl
  go_wp2
  go_region_law (first
    | (refine step_call rfl 52 #[.tmp 18] #[44] rfl #[.agg #[.int .i64 k, .int .i64 a0, .int .i64 b0, .int .i64 c0, .int .i64 n, .string s, .string o]] (by simp [Act.eval]) Tryz.func52 ko_name ko_body _ (CK.out _) ?_; rintro e w3 ⟨rfl, b3⟩; have b3' : Below w2.heap.size w2 w3 := (Below.refl _ w2).drew.trans b3; have s3 := b3'.size; have P3 : Hid (PrS B b (bs ++ due ap ++ [40]) false (.slice (some ⟨g, 0, none⟩) ts.length cap) w3) := P2.out.below b3'; have F3 : Hid (Fr B b w w3) := F2.out.trans (Fr.of_below (by omega) b3'); have R3 : Hid (w3.heap[w.heap.size]? = some (.cells #[.int .i64 k, .int .i64 a0, .int .i64 b0, .int .i64 c0, .int .i64 n, .string s, .string o] 44 (0, 0))) := (b3'.block _ (by omega)).trans R2.out; have K3 : Hid (w3.heap[GK]? = some (.cells #[.int .i64 a0, .int .i64 b0, .int .i64 c0] 90 (0, 0))) := (b3'.block _ (by omega)).trans K2.out; clear b3 b3'; refine ⟨_, rfl, ?_⟩)
    | (refine step_call rfl 50 #[.tmp 17, .tmp 19] #[52, 9] rfl #[.pointer (some ⟨b, 0, none⟩), .string KY] (by simp [Act.eval]) Tryz.func50 wd_name wd_body _ (wr_word B b _ false _ KY w3 P3.out (by simp only [List.length_append, List.length_cons, List.length_nil]; have : (due ap).length ≤ 1 := due_len ap; omega) (by omega)) ?_; rintro e w4 ⟨rfl, h4, f4⟩; have P4 : Hid (PrS B b (bs ++ due ap ++ [40] ++ due false ++ KY.data.toList) true (.slice (some ⟨g, 0, none⟩) ts.length cap) w4) := h4; have F4 : Hid (Fr B b w w4) := F3.out.trans f4; have R4 : Hid (w4.heap[w.heap.size]? = some (.cells #[.int .i64 k, .int .i64 a0, .int .i64 b0, .int .i64 c0, .int .i64 n, .string s, .string o] 44 (0, 0))) := f4.row R3.out (by omega) (by decide); have K4 : Hid (w4.heap[GK]? = some (.cells #[.int .i64 a0, .int .i64 b0, .int .i64 c0] 90 (0, 0))) := f4.row K3.out hgb (by decide); have s4 := f4.bel.size; clear h4 f4; refine ⟨_, rfl, ?_⟩))
  clear q0 q1 q2 q3 q4 q5 q6 P2 P3 R2 R3 K2 K3 F2 F3
  have e1 : (([a0, b0, c0].take (arN k)).take (aheadN k)).length = aheadN k := by simp; omega
  have e2 : (([a0, b0, c0].take (arN k)).drop (aheadN k)).length = arN k - aheadN k := by simp; omega
  have ha2 : aheadN k ≤ 2 := by
    unfold aheadN
    by_cases h19 : k = 19
    · rw [if_pos h19]; omega
    rw [if_neg h19]
    by_cases h14 : k = 14
    · rw [if_pos h14]; omega
    rw [if_neg h14]; omega
  have g1 : ∀ j, j < arN k → ([a0, b0, c0].take (arN k)).getD j 0 = [a0, b0, c0].getD j 0 := fun j hj => by
    simp only [List.getD]
    rw [List.getElem?_take_of_lt hj]
  have g2 : ∀ j, j < aheadN k → (([a0, b0, c0].take (arN k)).take (aheadN k)).getD j 0 = [a0, b0, c0].getD j 0 := fun j hj => by
    rw [← g1 j (by omega)]
    simp only [List.getD]
    rw [List.getElem?_take_of_lt hj]
  have g3 : ∀ j, aheadN k + j < arN k → (([a0, b0, c0].take (arN k)).drop (aheadN k)).getD j 0 = [a0, b0, c0].getD (aheadN k + j) 0 := fun j hj => by
    rw [← g1 (aheadN k + j) (by omega)]
    simp only [List.getD]
    rw [List.getElem?_drop]
  have c3 : ∀ j, j < 3 → (#[.int .i64 a0, .int .i64 b0, .int .i64 c0] : Array Value)[j]? = some (.int .i64 ([a0, b0, c0].getD j 0)) := fun j hj => by
    have : j = 0 ∨ j = 1 ∨ j = 2 := by omega
    rcases this with rfl | rfl | rfl <;> rfl
  have L0 : (bs ++ due ap ++ [40] ++ due false ++ KY.data.toList).length ≤ bs.length + (due ap).length + 1 + KY.data.toList.length := by
    have h0 : (due false).length = 0 := rfl
    simp only [List.length_append, List.length_cons, List.length_nil, h0]
    omega
  have hc1 := pr_kids (ts := ts) (g := g) (cap := cap) (f := f) 0 GK 3 (([a0, b0, c0].take (arN k)).take (aheadN k)) (fun j hj => by rw [e1] at hj; rw [g2 j hj]; exact HI.out j (by omega)) B b (bs ++ due ap ++ [40] ++ due false ++ KY.data.toList) w4 (pow_fr HW.out F4.out hgp) (HA.out.below F4.out.bel (fun _ => hg)) hg hgp (by omega) P4.out _ K4.out hgb (fun j hj => by rw [e1] at hj; rw [g2 j hj, Nat.zero_add]; exact c3 j (by omega)) (by omega) (by omega)
  rw [e1] at hc1
  have C1 : Hid (Calls Tryz.prog 89 #[.pointer (some ⟨b, 0, none⟩), .slice (some ⟨GK, 0, none⟩) (aheadN k) 3] w4 _) := hc1
  have i1 : (0 : Int) ≤ (aheadN k : Int) := by omega
  have i2 : (aheadN k : Int) ≤ 3 := by omega
  have i3 : (aheadN k : Int) ≤ (arN k : Int) := by omega
  clear hc1
  go_wp2_with fail
  refine Calls.mono C1.out ?_
  rintro e w5 ⟨rfl, h5, f5⟩
  have s5 := f5.bel.size
  have r5 := f5.row R4.out (by omega) (by decide)
  have R5 : Hid (w5.heap[w.heap.size]? = some (.cells #[.int .i64 k, .int .i64 a0, .int .i64 b0, .int .i64 c0, .int .i64 n, .string s, .string o] 44 (0, 0))) := r5
  have K5 : Hid (w5.heap[GK]? = some (.cells #[.int .i64 a0, .int .i64 b0, .int .i64 c0] 90 (0, 0))) := f5.row K4.out hgb (by decide)
  have P5 : Hid (PrS B b (bs ++ due ap ++ [40] ++ due false ++ KY.data.toList ++ kidsT (textN ts f) (([a0, b0, c0].take (arN k)).take (aheadN k))) true (.slice (some ⟨g, 0, none⟩) ts.length cap) w5) := h5
  have F5 : Hid (Fr B b w w5) := F4.out.trans f5
  clear h5 f5 C1 R4 K4 P4 F4
  obtain ⟨q0, q1, q2, q3, q4, q5, q6⟩ := cells7_of r5
  clear r5
  go_wp2_with fail
  refine (pr_names k a0 b0 c0 n s o B b _ (.slice (some ⟨g, 0, none⟩) ts.length cap) w5 (by omega) P5.out hs ho (by simp only [List.length_append] at L0 ⊢; omega)).mono ?_
  rintro e w6 ⟨rfl, h6, f6⟩
  have s6 := f6.bel.size
  have P6 : Hid (PrS B b (bs ++ due ap ++ [40] ++ due false ++ KY.data.toList ++ kidsT (textN ts f) (([a0, b0, c0].take (arN k)).take (aheadN k)) ++ namesT ([s, o].take (nmN k))) true (.slice (some ⟨g, 0, none⟩) ts.length cap) w6) := h6
  have F6 : Hid (Fr B b w w6) := F5.out.trans f6
  have hc2 := pr_kids (ts := ts) (g := g) (cap := cap) (f := f) (aheadN k) GK (3 - aheadN k) (([a0, b0, c0].take (arN k)).drop (aheadN k)) (fun j hj => by rw [e2] at hj; rw [g3 j (by omega)]; exact HI.out _ (by omega)) B b _ w6 (pow_fr HW.out F6.out hgp) (HA.out.below F6.out.bel (fun _ => hg)) hg hgp (by omega) P6.out _ (f6.row K5.out hgb (by decide)) hgb (fun j hj => by rw [e2] at hj; rw [g3 j (by omega)]; exact c3 _ (by omega)) (by omega) (by simp only [List.length_append] at L0 ⊢; omega)
  rw [e2] at hc2
  have C2 : Hid (Calls Tryz.prog 89 #[.pointer (some ⟨b, 0, none⟩), .slice (some ⟨GK, aheadN k, none⟩) (arN k - aheadN k) (3 - aheadN k)] w6 _) := hc2
  clear hc2 h6 f6 q0 q1 q2 q3 q4 q5 q6 R5 K5 P5 F5
  go_wp2_with fail
  refine Calls.mono C2.out ?_
  rintro e w7 ⟨rfl, h7, f7⟩
  have s7 := f7.bel.size
  have F7 : Hid (Fr B b w w7) := F6.out.trans f7
  have P7 : Hid (PrS B b (bs ++ due ap ++ [40] ++ due false ++ KY.data.toList ++ kidsT (textN ts f) (([a0, b0, c0].take (arN k)).take (aheadN k)) ++ namesT ([s, o].take (nmN k)) ++ kidsT (textN ts f) (([a0, b0, c0].take (arN k)).drop (aheadN k))) true (.slice (some ⟨g, 0, none⟩) ts.length cap) w7) := h7
  clear h7 f7 C2 F6 P6
  go_wp2_with fail
  refine (wr_shut B b _ true (.slice (some ⟨g, 0, none⟩) ts.length cap) w7 P7.out (by simp only [List.length_append] at L0 ⊢; omega) (by omega)).mono ?_
  rintro e w8 ⟨rfl, h8, f8⟩
  have F8 : Hid (Fr B b w w8) := F7.out.trans f8
  have P8 : Hid (PrS B b (bs ++ due ap ++ formT (textN ts f) ⟨k, a0, b0, c0, n, s, o⟩) true (.slice (some ⟨g, 0, none⟩) ts.length cap) w8) := by
    show PrS B b (bs ++ due ap ++ formT (textN ts f) ⟨k, a0, b0, c0, n, s, o⟩) true (.slice (some ⟨g, 0, none⟩) ts.length cap) w8
    rw [HFT.out]
    simpa [due] using h8
  clear h8 f8 F7 P7
  go_wp2
  go_end0
  exact ⟨rfl, P8.out, F8.out⟩

set_option maxHeartbeats 4000000 in
set_option maxRecDepth 20000 in
theorem pr_leaf {ts : List Nod} {g cap f i : Nat} (hi : i < ts.length) (hl : ts.length ≤ 1000) (hsm : (ts.getD i noNod).name.size ≤ 8) (h : (ts.getD i noNod).kind = 1 ∨ ((ts.getD i noNod).kind = 2 ∧ 0 ≤ (ts.getD i noNod).n ∧ (ts.getD i noNod).n ≤ 65535) ∨ (ts.getD i noNod).kind = 12) : NodeAt ts g cap (f + 1) i := by
  intro B b bs ap w hp hA hg hgp hBw hP hlen
  have t := hA i hi
  have hbl := hP.lt
  have HX : Hid (textN ts (f + 1) i = nodeT (textN ts f) (ts.getD i noNod)) := rfl
  obtain ⟨⟨x0, x1, x2, x3, x4, x5, x6⟩, hx⟩ : ∃ y, ts.getD i noNod = y := ⟨_, rfl⟩
  rw [hx] at t h HX hsm
  simp only at h hsm
  have q0 : w.cell? ⟨g, i * 7, none⟩ = some (.int .i64 x0) := t.c0
  have q1 : w.cell? ⟨g, i * 7 + 1, none⟩ = some (.int .i64 x1) := t.c1
  have q2 : w.cell? ⟨g, i * 7 + 2, none⟩ = some (.int .i64 x2) := t.c2
  have q3 : w.cell? ⟨g, i * 7 + 3, none⟩ = some (.int .i64 x3) := t.c3
  have q4 : w.cell? ⟨g, i * 7 + 4, none⟩ = some (.int .i64 x4) := t.c4
  have q5 : w.cell? ⟨g, i * 7 + 5, none⟩ = some (.string x5) := t.c5
  have q6 : w.cell? ⟨g, i * 7 + 6, none⟩ = some (.string x6) := t.c6
  have hi' : (i : Int) < ts.length := by omega
  obtain ⟨-, qn, -⟩ := hP.cells
  have HP : Hid (PrS B b bs ap (.slice (some ⟨g, 0, none⟩) ts.length cap) w) := hP
  have HW : Hid (PowIs w) := hp
  have hL : bs.length + 100 ≤ 1000000 := by omega
  clear t hx hA hP hp hlen
  obtain ⟨wa, hwa⟩ : ∃ wa, w.alloc (.cells #[.int .i64 x0, .int .i64 x1, .int .i64 x2, .int .i64 x3, .int .i64 x4, .string x5, .string x6] 44) = wa := ⟨_, rfl⟩
  have HWA : Hid (w.alloc (.cells #[.int .i64 x0, .int .i64 x1, .int .i64 x2, .int .i64 x3, .int .i64 x4, .string x5, .string x6] 44) = wa) := hwa
  have sa : wa.heap.size = w.heap.size + 1 := by rw [← hwa]; simp
  have BA : Below w.heap.size w wa := by rw [← hwa]; exact (Below.refl _ w).alloc (Nat.le_refl _) _
  have RA : Hid (wa.heap[w.heap.size]? = some (.cells #[.int .i64 x0, .int .i64 x1, .int .i64 x2, .int .i64 x3, .int .i64 x4, .string x5, .string x6] 44 (0, 0))) := by rw [← hwa]; exact (MapKept.heap_alloc w _).1
  have PA : Hid (PrS B b bs ap (.slice (some ⟨g, 0, none⟩) ts.length cap) wa) := HP.out.below BA
  have FA : Hid (Fr B b w wa) := Fr.of_below hBw BA
  have WA : Hid (PowIs wa) := var?_below BA gPow (by omega) HW.out
  clear hwa BA HP HW
  rcases h with rfl | ⟨rfl, h0, h1⟩ | rfl
  · go_enter Tryz.func26, Tryz.ntmps26
    go_wp2
    rw [HWA.out]
    obtain ⟨p0, p1, p2, p3, p4, p5, p6⟩ := cells7_of RA.out
    go_region_law (refine step_call rfl 50 #[.tmp 21, .tmp 23] #[52, 9] rfl #[.pointer (some ⟨b, 0, none⟩), .string x5] (by simp [Act.eval]) Tryz.func50 wd_name wd_body _ (wr_word B b bs ap (.slice (some ⟨g, 0, none⟩) ts.length cap) x5 wa.drew PA.out.drew (by omega) (by show B ≤ wa.heap.size; omega)) ?_; rintro e w4 ⟨rfl, h4, f4⟩; have P4 : Hid (PrS B b (bs ++ due ap ++ x5.data.toList) true (.slice (some ⟨g, 0, none⟩) ts.length cap) w4) := h4; have F4 : Hid (Fr B b w w4) := FA.out.drew.trans f4; clear h4 f4; refine ⟨_, rfl, ?_⟩)
    all_goals
      go_wp2
      go_end0
      exact ⟨rfl, by rw [HX.out]; exact P4.out, F4.out⟩
  · go_enter Tryz.func26, Tryz.ntmps26
    go_wp2
    rw [HWA.out]
    obtain ⟨p0, p1, p2, p3, p4, p5, p6⟩ := cells7_of RA.out
    have hil := itoa_len h0 h1
    obtain ⟨IT, hIT⟩ : ∃ IT : ByteArray, ⟨(Lib.itoa x4).toArray⟩ = IT := ⟨_, rfl⟩
    have hits : IT.size ≤ 5 := by rw [← hIT]; simpa [ByteArray.size] using hil
    have CD : Hid (∀ w : World, PowIs w → Calls Tryz.prog 51 #[.int .i64 x4] w fun e w' => e = .returned (.string IT) ∧ Below w.heap.size w w') := fun w hw => by rw [← hIT]; exact impl_dec x4 (by omega) (by omega) w hw
    have HIT : Hid (IT.data.toList = Lib.itoa x4) := by show IT.data.toList = _; rw [← hIT]
    clear hIT hil
    go_region_law (first
      | (refine step_call rfl 51 #[.tmp 31] #[3] rfl #[.int .i64 x4] (by simp [Act.eval]) Tryz.func51 dc_name dc_body _ (CD.out wa.drew WA.out) ?_; rintro e w3 ⟨rfl, b3⟩; have b3' : Below wa.heap.size wa w3 := (Below.refl _ wa).drew.trans b3; have s3 := b3'.size; have P3 : Hid (PrS B b bs ap (.slice (some ⟨g, 0, none⟩) ts.length cap) w3) := PA.out.below b3'; have F3 : Hid (Fr B b w w3) := FA.out.trans (Fr.of_below (by omega) b3'); clear b3 b3'; refine ⟨_, rfl, ?_⟩)
      | (refine step_call rfl 50 #[.tmp 29, .tmp 32] #[52, 9] rfl #[.pointer (some ⟨b, 0, none⟩), .string IT] (by simp [Act.eval]) Tryz.func50 wd_name wd_body _ (wr_word B b bs ap (.slice (some ⟨g, 0, none⟩) ts.length cap) IT w3 P3.out (by omega) (by omega)) ?_; rintro e w4 ⟨rfl, h4, f4⟩; have P4 : Hid (PrS B b (bs ++ due ap ++ IT.data.toList) true (.slice (some ⟨g, 0, none⟩) ts.length cap) w4) := h4; have F4 : Hid (Fr B b w w4) := F3.out.trans f4; clear h4 f4; refine ⟨_, rfl, ?_⟩))
    all_goals
      go_wp2
      go_end0
      exact ⟨rfl, by rw [HX.out, show nodeT (textN ts f) ⟨2, x1, x2, x3, x4, x5, x6⟩ = Lib.itoa x4 from rfl, ← HIT.out]; exact P4.out, F4.out⟩
  · go_enter Tryz.func26, Tryz.ntmps26
    go_wp2
    rw [HWA.out]
    obtain ⟨p0, p1, p2, p3, p4, p5, p6⟩ := cells7_of RA.out
    have CK : Hid (∀ w : World, Calls Tryz.prog 52 #[.agg #[.int .i64 12, .int .i64 x1, .int .i64 x2, .int .i64 x3, .int .i64 x4, .string x5, .string x6]] w fun e w' => e = .returned (.string ⟨#[110, 105, 108]⟩) ∧ Below w.heap.size w w') := fun w => impl_keyOf 12 x1 x2 x3 x4 x5 x6 w
    go_region_law (first
      | (refine step_call rfl 52 #[.tmp 39] #[44] rfl #[.agg #[.int .i64 12, .int .i64 x1, .int .i64 x2, .int .i64 x3, .int .i64 x4, .string x5, .string x6]] (by simp [Act.eval]) Tryz.func52 ko_name ko_body _ (CK.out wa.drew) ?_; rintro e w3 ⟨rfl, b3⟩; have b3' : Below wa.heap.size wa w3 := (Below.refl _ wa).drew.trans b3; have s3 := b3'.size; have P3 : Hid (PrS B b bs ap (.slice (some ⟨g, 0, none⟩) ts.length cap) w3) := PA.out.below b3'; have F3 : Hid (Fr B b w w3) := FA.out.trans (Fr.of_below (by omega) b3'); clear b3 b3'; refine ⟨_, rfl, ?_⟩)
      | (refine step_call rfl 50 #[.tmp 38, .tmp 40] #[52, 9] rfl #[.pointer (some ⟨b, 0, none⟩), .string ⟨#[110, 105, 108]⟩] (by simp [Act.eval]) Tryz.func50 wd_name wd_body _ (wr_word B b bs ap (.slice (some ⟨g, 0, none⟩) ts.length cap) ⟨#[110, 105, 108]⟩ w3 P3.out (by show bs.length + 3 + 1 ≤ _; omega) (by omega)) ?_; rintro e w4 ⟨rfl, h4, f4⟩; have P4 : Hid (PrS B b (bs ++ due ap ++ [110, 105, 108]) true (.slice (some ⟨g, 0, none⟩) ts.length cap) w4) := h4; have F4 : Hid (Fr B b w w4) := F3.out.trans f4; clear h4 f4; refine ⟨_, rfl, ?_⟩))
    all_goals
      go_wp2
      go_end0
      exact ⟨rfl, by rw [HX.out]; exact P4.out, F4.out⟩

set_option maxHeartbeats 1000000 in
set_option maxRecDepth 20000 in
theorem pr_inner {ts : List Nod} {g cap f i : Nat} (hi : i < ts.length) (hl : ts.length ≤ 1000) (hs : (ts.getD i noNod).name.size ≤ 8) (ho : (ts.getD i noNod).other.size ≤ 8) (h : IsForm (ts.getD i noNod).kind (ts.getD i noNod).n)
    (IH : ∀ j, j < arN (ts.getD i noNod).kind → ∃ q : Nat, [(ts.getD i noNod).a, (ts.getD i noNod).b, (ts.getD i noNod).c].getD j 0 = q ∧ NodeAt ts g cap f q) : NodeAt ts g cap (f + 1) i := by
  intro B b bs ap w hp hA hg hgp hBw hP hlen
  have t := hA i hi
  have hbl := hP.lt
  have hX : textN ts (f + 1) i = formT (textN ts f) (ts.getD i noNod) := by
    show nodeT (textN ts f) (ts.getD i noNod) = _
    unfold nodeT
    rw [if_neg (by have := h.1; omega), if_neg (by have := h.1; omega), if_neg h.2.2.1]
  obtain ⟨⟨x0, x1, x2, x3, x4, x5, x6⟩, hx⟩ : ∃ y, ts.getD i noNod = y := ⟨_, rfl⟩
  rw [hX] at hlen
  rw [hx] at t h hX hs ho IH hlen
  simp only at h hs ho IH
  have HX : Hid (textN ts (f + 1) i = formT (textN ts f) ⟨x0, x1, x2, x3, x4, x5, x6⟩) := hX
  have q0 : w.cell? ⟨g, i * 7, none⟩ = some (.int .i64 x0) := t.c0
  have q1 : w.cell? ⟨g, i * 7 + 1, none⟩ = some (.int .i64 x1) := t.c1
  have q2 : w.cell? ⟨g, i * 7 + 2, none⟩ = some (.int .i64 x2) := t.c2
  have q3 : w.cell? ⟨g, i * 7 + 3, none⟩ = some (.int .i64 x3) := t.c3
  have q4 : w.cell? ⟨g, i * 7 + 4, none⟩ = some (.int .i64 x4) := t.c4
  have q5 : w.cell? ⟨g, i * 7 + 5, none⟩ = some (.string x5) := t.c5
  have q6 : w.cell? ⟨g, i * 7 + 6, none⟩ = some (.string x6) := t.c6
  have hi' : (i : Int) < ts.length := by omega
  obtain ⟨-, qn, -⟩ := hP.cells
  have g1 : (x0 == 1) = false := by simp; have := h.1; omega
  have g2 : (x0 == 2) = false := by simp; have := h.1; omega
  have g12 : (x0 == 12) = false := by simp; exact h.2.2.1
  obtain ⟨wa, hwa⟩ : ∃ wa, w.alloc (.cells #[.int .i64 x0, .int .i64 x1, .int .i64 x2, .int .i64 x3, .int .i64 x4, .string x5, .string x6] 44) = wa := ⟨_, rfl⟩
  have HWA : Hid (w.alloc (.cells #[.int .i64 x0, .int .i64 x1, .int .i64 x2, .int .i64 x3, .int .i64 x4, .string x5, .string x6] 44) = wa) := hwa
  have sa : wa.heap.size = w.heap.size + 1 := by rw [← hwa]; simp
  have BA : Below w.heap.size w wa := by rw [← hwa]; exact (Below.refl _ w).alloc (Nat.le_refl _) _
  have FA : Hid (Fr B b w wa) := Fr.of_below hBw BA
  have HC : Hid (Calls Tryz.prog 53 #[.pointer (some ⟨b, 0, none⟩), .agg #[.int .i64 x0, .int .i64 x1, .int .i64 x2, .int .i64 x3, .int .i64 x4, .string x5, .string x6]] wa _) := pr_form (ts := ts) (g := g) (cap := cap) (f := f) x0 x1 x2 x3 x4 x5 x6 h IH hs ho B b bs ap wa (var?_below BA gPow (by omega) hp) (hA.below BA (fun _ => by omega)) hg hgp (by omega) (hP.below BA) hlen
  clear hwa BA hP hp hA t hx hX IH h hlen
  go_enter Tryz.func26, Tryz.ntmps26
  go_wp2_with fail
  rw [HWA.out]
  refine Calls.mono HC.out ?_
  rintro e w2 ⟨rfl, h2, f2⟩
  have P2 : Hid (PrS B b (bs ++ due ap ++ formT (textN ts f) ⟨x0, x1, x2, x3, x4, x5, x6⟩) true (.slice (some ⟨g, 0, none⟩) ts.length cap) w2) := h2
  have F2 : Hid (Fr B b w w2) := FA.out.trans f2
  clear h2 f2 HC FA
  go_wp2
  go_end0
  exact ⟨rfl, by rw [HX.out]; exact P2.out, F2.out⟩

/-- The text of every node of a right program is written. -/
theorem pr_node {ts : List Nod} {st : List Nat} (hR : Right ts st) (g cap : Nat) : ∀ (f i : Nat), i < f → i < ts.length → NodeAt ts g cap f i
  | 0, i, h, _ => absurd h (by omega)
  | f + 1, i, h, hi => by
    obtain ⟨hF, _⟩ := hR.2 i hi
    have hl := hR.1
    have hsm := fields_small (decide_eq_true hF)
    by_cases h1 : (ts.getD i noNod).kind = 1
    · exact pr_leaf hi hl hsm.1 (Or.inl h1)
    by_cases h2 : (ts.getD i noNod).kind = 2
    · have hn := hF.2.2.2.1 h2
      exact pr_leaf hi hl hsm.1 (Or.inr (Or.inl ⟨h2, hn.1, hn.2⟩))
    by_cases h12 : (ts.getD i noNod).kind = 12
    · exact pr_leaf hi hl hsm.1 (Or.inr (Or.inr h12))
    refine pr_inner hi hl hsm.1 hsm.2 (fields_form hF h1 h2 h12) (fun j hj => ?_)
    obtain ⟨q, hq, hlt, _⟩ := kid_ahead hR hi hj
    exact ⟨q, hq, pr_node hR g cap f q (by omega) (by omega)⟩
end

section
open Go.ChangeShapes Go.WideShapes Go.ChangeAt Go.RowKit

/-- The type of a tree with so many kids. -/
def treeT (n : Nat) : TypeId := if n = 0 then 143 else if n = 1 then 145 else if n = 2 then 147 else 149

/-- What all trees have, as cells. -/
def spotL (t : Nod) (s : Int) : List Value := [.int .i64 t.kind, .int .i64 t.a, .int .i64 t.b, .int .i64 t.c, .int .i64 t.n, .string t.name, .string t.other, .int .i64 s]

/-- A tree as a value. -/
def treeV (t : Nod) (s : Int) (ks : List Value) : Value := .iface (treeT ks.length) (.agg (spotL t s ++ ks).toArray)

theorem begin_meth (t : Nod) (s : Int) (ks : List Value) (h : ks.length ≤ 3) (w : World) :
    (method 311 (treeT ks.length) (.agg (spotL t s ++ ks).toArray) "loop.example/g01292/impl.begin").run Tryz.prog w = .ok (170, .agg (spotL t s).toArray) w := by
  rcases ks with _ | ⟨a, _ | ⟨b, _ | ⟨c, _ | ⟨d, r⟩⟩⟩⟩
  · kernel_rfl
  · kernel_rfl
  · kernel_rfl
  · kernel_rfl
  · simp at h

theorem begin_ahead (t : Nod) (s : Int) (ks : List Value) (h : ks.length ≤ 3) (w : World) :
    (nilAhead 311 (treeT ks.length) (.agg (spotL t s ++ ks).toArray) "loop.example/g01292/impl.begin").run Tryz.prog w = .ok (some false) w := by
  rcases ks with _ | ⟨a, _ | ⟨b, _ | ⟨c, _ | ⟨d, r⟩⟩⟩⟩
  · kernel_rfl
  · kernel_rfl
  · kernel_rfl
  · kernel_rfl
  · simp at h

theorem impl_begin (t : Nod) (s : Int) (w : World) :
    Calls Tryz.prog 170 #[.agg (spotL t s).toArray] w fun e w' => e = .returned (.int .i64 s) ∧ w' = w.alloc (.cells (spotL t s).toArray 141) := by
  obtain ⟨k, a, b, c, n, x, o⟩ := t
  show Calls Tryz.prog 170 #[.agg #[.int .i64 k, .int .i64 a, .int .i64 b, .int .i64 c, .int .i64 n, .string x, .string o, .int .i64 s]] w fun e w' => e = .returned (.int .i64 s) ∧ w' = w.alloc (.cells #[.int .i64 k, .int .i64 a, .int .i64 b, .int .i64 c, .int .i64 n, .string x, .string o, .int .i64 s] 141)
  go_enter Tryz.func170, Tryz.ntmps170
  go_wp2
  go_ret
  exact ⟨rfl, rfl⟩

/-- A value whose part begins there. -/
def Begins (v : Value) (s : Int) : Prop := ∃ (T : TypeId) (u : Value) (t : Nod), v = .iface T u ∧
  (∀ w : World, (nilAhead 311 T u "loop.example/g01292/impl.begin").run Tryz.prog w = .ok (some false) w) ∧
  (∀ w : World, (method 311 T u "loop.example/g01292/impl.begin").run Tryz.prog w = .ok (170, .agg (spotL t s).toArray) w)

theorem treeV_begins (t : Nod) (s : Int) (ks : List Value) (h : ks.length ≤ 3) : Begins (treeV t s ks) s :=
  ⟨_, _, t, rfl, begin_ahead t s ks h, begin_meth t s ks h⟩

/-- A slice of trees lies there. -/
def TreeAt (w : World) (g : Nat) (vs : List Value) : Prop := ∀ i, i < vs.length → w.cell? ⟨g, i, none⟩ = some (vs.getD i .nilIface)

theorem TreeAt.below {w w' : World} {g B : Nat} {vs : List Value} (h : TreeAt w g vs) (hb : Below B w w') (hg : 0 < vs.length → g < B) : TreeAt w' g vs :=
  fun i hi => (World.cell?_of_block (hb.block g (hg (by omega)))).trans (h i hi)

theorem TreeAt.lt {w : World} {g : Nat} {vs : List Value} (h : TreeAt w g vs) (hl : 0 < vs.length) : g < w.heap.size := nod_lt (h 0 hl)

theorem bcell {W w1 : World} (hb : Below W.heap.size W w1) : (∀ b o, b < W.heap.size → w1.cell? ⟨b, o, none⟩ = W.cell? ⟨b, o, none⟩) ∧ (∀ b o, b < W.heap.size → w1.frozen? ⟨b, o, none⟩ = W.frozen? ⟨b, o, none⟩) :=
  ⟨fun b o h => hb.cell (p := ⟨b, o, none⟩) h, fun b o h => hb.frozen (p := ⟨b, o, none⟩) h⟩
end

section
open Go.ChangeShapes Go.WideShapes Go.ChangeAt Go.RowKit

/-- All memory but one block is as it was. -/
def But (g : Nat) (w w' : World) : Prop := w.heap.size ≤ w'.heap.size ∧ ∀ h, h < w.heap.size → h ≠ g → w'.heap[h]? = w.heap[h]?

theorem But.refl (g : Nat) (w : World) : But g w w := ⟨Nat.le_refl _, fun _ _ _ => rfl⟩

theorem But.setCell {g : Nat} {w w' : World} (h : But g w w') (o : Nat) (v : Value) : But g w (w'.setCell ⟨g, o, none⟩ v) :=
  ⟨by have := h.1; simpa using this, fun k hk hn => (heap_setCell_other w' ⟨g, o, none⟩ k v hn).trans (h.2 k hk hn)⟩

theorem But.call {g : Nat} {w w' w2 : World} (h : But g w w') (b : Below w'.heap.size w' w2) : But g w w2 :=
  ⟨Nat.le_trans h.1 b.size, fun k hk hn => (b.block k (Nat.lt_of_lt_of_le hk h.1)).trans (h.2 k hk hn)⟩
end

section
open Go.ChangeShapes Go.WideShapes Go.ChangeAt Go.RowKit

/-- The trees of the first nodes, and where their parts begin. -/
structure TreesB (st : List Int) (vs : List Value) (i : Nat) : Prop where
  ls : st.length = i
  lv : vs.length = i
  b : ∀ j, j < i → Begins (vs.getD j .nilIface) (st.getD j 0)
  r : ∀ j, j < i → 0 ≤ st.getD j 0 ∧ st.getD j 0 ≤ j

/-- The trees of kids. -/
def kidV (vs : List Value) (ks : List Int) : List Value := ks.map fun c => vs.getD c.toNat .nilIface

/-- What a call of kidsAhead ends with. -/
def KEnd (st : List Int) (vs : List Value) (ks : List Int) (i B : Nat) (e : Ending) (w : World) : Prop :=
  (∃ (r : Int) (K : Nat), down st ks.reverse i = some r ∧ e = .returned (.tuple #[.slice (some ⟨K, 0, none⟩) ks.length ks.length, .bool true]) ∧ B ≤ K ∧ TreeAt w K (kidV vs ks) ∧
    (∀ j, j < ks.length → 0 ≤ ks.getD j 0 ∧ ks.getD j 0 < i) ∧ (0 < ks.length → r = st.getD (ks.getD 0 0).toNat 0) ∧ (ks.length = 0 → r = i)) ∨
  (down st ks.reverse i = none ∧ e = .returned (.tuple #[.slice none 0 0, .bool false]))

/-- The state of its loop. -/
def KAt (w W2 : World) (st : List Int) (vs : List Value) (ks : List Int) (i K : Nat) (gg : Nat) (due k : Value) (wx : World) : Prop :=
  ∃ (m : Nat) (P : Int) (C : List Value), m ≤ ks.length ∧ gg = m + 1 ∧ k = .int .i64 ((m : Int) - 1) ∧ due = .int .i64 (P - 1) ∧ 0 ≤ P ∧ P ≤ i ∧ down st (ks.take m).reverse P = down st ks.reverse i ∧
    wx.heap[K]? = some (.cells C.toArray 83 (0, 0)) ∧ C.length = ks.length ∧
    (∀ j, m ≤ j → j < ks.length → C.getD j .nilIface = vs.getD (ks.getD j 0).toNat .nilIface ∧ 0 ≤ ks.getD j 0 ∧ ks.getD j 0 < i) ∧
    (m < ks.length → P = st.getD (ks.getD m 0).toNat 0) ∧ (m = ks.length → P = i) ∧ But K W2 wx ∧ Below w.heap.size w wx

theorem info_tree : (Tryz.prog.info? 83).map (fun i => (i.zero, i.size, i.bytes)) = some (some .nilIface, 1, 16) := by kernel_rfl

theorem tree_of_row {w : World} {g : Nat} {C : List Value} {t : TypeId} {z : Nat × Nat} (h : w.heap[g]? = some (.cells C.toArray t z)) : TreeAt w g C := by
  intro i hi
  rw [cell_of_row _ _ _ _ _ _ h]
  simp [List.getD, hi]

theorem getD_set_same {C : List Value} {q : Nat} {v : Value} (h : q < C.length) : (C.set q v).getD q .nilIface = v := by simp [List.getD, h]
theorem getD_set_other {C : List Value} {q j : Nat} {v : Value} (h : j ≠ q) : (C.set q v).getD j .nilIface = C.getD j .nilIface := by
  simp only [List.getD]
  rw [List.getElem?_set_ne (fun e => h e.symm)]

set_option maxHeartbeats 4000000 in
set_option maxRecDepth 20000 in
theorem impl_ahead (a : Option Addr) (g cap i : Nat) (st : List Int) (vs : List Value) (t : Nod) (hT : TreesB st vs i) (hi : i ≤ 150) (hne : 0 < i → a = some ⟨g, 0, none⟩) (w : World) (hA : TreeAt w g vs) :
    Calls Tryz.prog 78 #[.slice a i cap, .agg (nodCells t).toArray] w fun e w' => KEnd st vs (kidL t) i w.heap.size e w' ∧ Below w.heap.size w w' := by
  have HT : Hid (TreesB st vs i) := hT
  have HA : Hid (TreeAt w g vs) := hA
  have HG : Hid (0 < i → g < w.heap.size) := fun h => hA.lt (by rw [hT.lv]; exact h)
  clear hT hA
  obtain ⟨x0, x1, x2, x3, x4, x5, x6⟩ := t
  obtain ⟨ks, hks⟩ : ∃ ks, kidL ⟨x0, x1, x2, x3, x4, x5, x6⟩ = ks := ⟨_, rfl⟩
  have HKS : Hid (kidL ⟨x0, x1, x2, x3, x4, x5, x6⟩ = ks) := hks
  have hkl : ks.length = arN x0 := by rw [← hks]; exact kidL_length _
  show Calls Tryz.prog 78 #[.slice a i cap, .agg #[.int .i64 x0, .int .i64 x1, .int .i64 x2, .int .i64 x3, .int .i64 x4, .string x5, .string x6]] w fun e w' => KEnd st vs (kidL ⟨x0, x1, x2, x3, x4, x5, x6⟩) i w.heap.size e w' ∧ Below w.heap.size w w'
  rw [hks]
  clear hks
  have har := arN_le x0
  have HB0 : Hid (Below w.heap.size w (w.alloc (.cells #[.int .i64 x0, .int .i64 x1, .int .i64 x2, .int .i64 x3, .int .i64 x4, .string x5, .string x6] 44))) := (Below.refl _ w).alloc (Nat.le_refl _) _
  obtain ⟨i0, hi0, hz0, hz1, hz2⟩ := info_parts info_tree
  obtain ⟨M, hM⟩ : ∃ M : List Value, M.toArray = madeCells (Value.nilIface).cells (((ks.length : Nat) : Int).toNat * i0.size) := ⟨(madeCells (Value.nilIface).cells (((ks.length : Nat) : Int).toNat * i0.size)).toList, by simp⟩
  have HML : Hid (M.length = ks.length) := by
    show M.length = ks.length
    have h := congrArg Array.size hM
    rw [size_madeCells, hz1] at h
    simpa using h
  have hmk : ∀ W : World, (Instr.makeSlice 79 (.int .i64 (ks.length : Int)) (.int .i64 (ks.length : Int))).run Tryz.prog W = .ok (.slice (some ⟨W.heap.size, 0, none⟩) ks.length ks.length) (W.alloc (.cells M.toArray 83)) := fun W => by
    have h := run_make (P := Tryz.prog) W 79 83 i0 .nilIface Tryz.underlying79 hi0 hz0 .i64 .i64 (ks.length : Int) (ks.length : Int) (by omega) (by omega) (by rw [hz2]; omega) (by omega)
    rw [← hM] at h
    simpa using h
  clear hM hi0 hz0 hz1 hz2
  have HKL : Hid (ks.length = arN x0) := hkl
  rw [← hkl] at har
  clear hkl
  have har3 : (ks.length : Int) ≤ 3 := by omega
  go_enter Tryz.func78, Tryz.ntmps78
  go_wp2_with fail
  refine (impl_kids x0 x1 x2 x3 x4 x5 x6 _).mono ?_
  rintro e w1 ⟨rfl, hk1, hb1⟩
  have hs1 := hb1.size
  simp only [World.size_alloc] at hk1 hs1
  have HB1 : Hid (Below w.heap.size w w1) := HB0.out.trans (hb1.mono (by simp))
  have HL1 : Hid (w.heap.size + 1 + 3 < w1.heap.size) := (Array.getElem?_eq_some_iff.1 hk1).1
  have HKC : Hid (∀ j, j < ks.length → w1.cell? ⟨w.heap.size + 1 + 3, j, none⟩ = some (.int .i64 (ks.getD j 0))) := fun j hj => by
    have h := kid_cell (t := ⟨x0, x1, x2, x3, x4, x5, x6⟩) hk1 j (by rw [HKS.out]; exact hj)
    rw [HKS.out] at h
    exact h
  rw [← HKL.out]
  clear hb1 hk1 HB0
  go_wp2
  obtain ⟨W2, hW2⟩ : ∃ W2, w1.alloc (.cells M.toArray 83) = W2 := ⟨_, rfl⟩
  have HB2 : Hid (Below w.heap.size w W2) := by rw [← hW2]; exact HB1.out.alloc (by omega) _
  have HR2 : Hid (W2.heap[w1.heap.size]? = some (.cells M.toArray 83 (0, 0))) := by rw [← hW2]; exact (MapKept.heap_alloc w1 _).1
  have HS2 : Hid (W2.heap.size = w1.heap.size + 1) := by
    show W2.heap.size = w1.heap.size + 1
    rw [← hW2]; simp
  have HKC2 : Hid (∀ j, j < ks.length → W2.cell? ⟨w.heap.size + 1 + 3, j, none⟩ = some (.int .i64 (ks.getD j 0))) := fun j hj => by
    rw [← hW2, ← HKC.out j hj]
    exact ((Below.refl w1.heap.size w1).alloc (Nat.le_refl _) _).cell (p := ⟨w.heap.size + 1 + 3, j, none⟩) HL1.out
  rw [hW2]
  clear hW2 HKC HB1 hmk
  go_loopg [8, 9] (ks.length + 1) (fun gg due k wx => KAt w W2 st vs ks i w1.heap.size gg due k wx)
  case atStart => exact ⟨ks.length, i, M, Nat.le_refl _, rfl, rfl, rfl, by omega, by omega, by rw [List.take_length], HR2.out, HML.out, fun j h1 h2 => by omega, fun h => by omega, fun _ => rfl, But.refl _ _, HB2.out⟩
  case round =>
    obtain ⟨m, P, C, hm, rfl, rfl, rfl, hP0, hP1, hd, hC, hCl, hCv, hPm, hPi, hbut, hbel⟩ := hrel
    have HD : Hid (down st (ks.take m).reverse P = down st ks.reverse i) := hd
    have HC : Hid (wr.heap[w1.heap.size]? = some (.cells C.toArray 83 (0, 0))) := hC
    have HCV : Hid (∀ j, m ≤ j → j < ks.length → C.getD j .nilIface = vs.getD (ks.getD j 0).toNat .nilIface ∧ 0 ≤ ks.getD j 0 ∧ ks.getD j 0 < i) := hCv
    have HPM : Hid (m < ks.length → P = st.getD (ks.getD m 0).toNat 0) := hPm
    have HPI : Hid (m = ks.length → P = i) := hPi
    have HCL : Hid (C.length = ks.length) := hCl
    have HU : Hid (But w1.heap.size W2 wr) := hbut
    clear hd hC hCv hPm hPi hCl hbut
    by_cases hm0 : m = 0
    · subst hm0
      have HE : Hid (KEnd st vs ks i w.heap.size (.returned (.tuple #[.slice (some ⟨w1.heap.size, 0, none⟩) ks.length ks.length, .bool true])) wr) := by
        refine Or.inl ⟨P, w1.heap.size, ?_, rfl, by omega, ?_, fun j hj => (HCV.out j (by omega) hj).2, fun h => HPM.out h, fun h => HPI.out h.symm⟩
        · rw [← HD.out]; rfl
        · have hrow := tree_of_row HC.out
          intro j hj
          have hj' : j < ks.length := by simpa [kidV] using hj
          rw [hrow j (by rw [HCL.out]; exact hj'), (HCV.out j (by omega) hj').1]
          simp [kidV, List.getD, hj']
      clear HD HC HCV HPM HPI HCL HU
      go_wp2
      go_ret2
      exact ⟨HE.out, hbel⟩
    · obtain ⟨q, rfl⟩ : ∃ q, m = q + 1 := ⟨m - 1, by omega⟩
      have hq0 : (q : Int) < ks.length := by omega
      have eq1 : ((q + 1 : Nat) : Int) - 1 = q := by omega
      rw [eq1]
      have hc : wr.cell? ⟨w.heap.size + 1 + 3, q, none⟩ = some (.int .i64 (ks.getD q 0)) := by
        rw [← HKC2.out q (by omega)]
        exact World.cell?_of_block (HU.out.2 (w.heap.size + 1 + 3) (by have := HS2.out; have := HL1.out; omega) (by have := HL1.out; omega))
      have HDD : Hid (down st ((ks.take (q + 1)).reverse) P = if ks.getD q 0 = P - 1 ∧ 0 ≤ ks.getD q 0 then down st (ks.take q).reverse (st.getD (ks.getD q 0).toNat 0) else none) := by
        show down st ((ks.take (q + 1)).reverse) P = _
        have hql : q < ks.length := by omega
        rw [List.take_succ_eq_append_getElem hql, List.reverse_append]
        simp [List.getD, List.getElem?_eq_getElem hql, down]
      have HCQ : Hid (ks.getD q 0 = ks.getD q 0) := rfl
      obtain ⟨c, hcc⟩ : ∃ c, ks.getD q 0 = c := ⟨_, rfl⟩
      have HCC : Hid (ks.getD q 0 = c) := hcc
      rw [hcc] at hc HDD
      clear hcc HCQ
      by_cases hcp : c = P - 1 ∧ 0 ≤ c
      · obtain ⟨hc1, hc0⟩ := hcp
        obtain ⟨cn, rfl⟩ := Int.eq_ofNat_of_zero_le hc0
        obtain rfl : P = (cn : Int) + 1 := by omega
        have hcn : cn < i := by omega
        have hcn' : (cn : Int) < i := by omega
        obtain rfl := hne (by omega)
        have hlt := HG.out (by omega)
        obtain ⟨T, u, t0, hv, hn, hmt⟩ := HT.out.b cn hcn
        have hcell : wr.cell? ⟨g, cn, none⟩ = some (.iface T u) := by
          rw [← hv]
          exact (HA.out.below hbel (fun _ => hlt)) cn (by rw [HT.out.lv]; exact hcn)
        have HV : Hid (vs.getD cn .nilIface = .iface T u) := hv
        have hrg := HT.out.r cn hcn
        have HDN : Hid (down st (ks.take q).reverse (st.getD cn 0) = down st ks.reverse i) := by
          show down st (ks.take q).reverse (st.getD cn 0) = _
          rw [← HD.out, HDD.out, if_pos ⟨hc1, hc0⟩]
          rfl
        have e5 : (cn : Int) + 1 - 1 = cn := by omega
        rw [e5]
        have f0 : wr.frozen? ⟨w1.heap.size, q, none⟩ = false := frozen_of_row wr _ _ _ _ HC.out
        have k0 : wr.cell? ⟨w1.heap.size, q, none⟩ = some (C.getD q .nilIface) := tree_of_row HC.out q (by rw [HCL.out]; omega)
        have HST : Hid (st.getD cn 0 = st.getD cn 0) := rfl
        obtain ⟨R, hR⟩ : ∃ R, (spotL t0 (st.getD cn 0)).toArray = R := ⟨_, rfl⟩
        have hI := impl_begin t0 (st.getD cn 0)
        rw [hR] at hmt hI
        obtain ⟨P2, hP2⟩ : ∃ P2, st.getD cn 0 = P2 := ⟨_, rfl⟩
        have HP2 : Hid (st.getD cn 0 = P2) := hP2
        rw [hP2] at hI hrg HDN
        have HI : Hid (∀ w : World, Calls Tryz.prog 170 #[.agg R] w fun e w' => e = .returned (.int .i64 P2) ∧ w' = w.alloc (.cells R 141)) := hI
        obtain ⟨z, hz⟩ : ∃ z, C.getD q .nilIface = z := ⟨_, rfl⟩
        rw [hz] at k0
        clear hR hI HST hP2 hz hv HDD HD hc1 e5 eq1
        have hne1 : ¬ g = w1.heap.size := by have := HL1.out; omega
        have hne2 : ¬ w1.heap.size = g := by have := HL1.out; omega
        have HW : Hid (KAt w W2 st vs ks i w1.heap.size (q + 1) (.int .i64 (P2 - 1)) (.int .i64 ((q : Int) - 1)) ((wr.setCell ⟨w1.heap.size, q, none⟩ (.iface T u)).alloc (.cells R 141))) := by
          have hb1 : Below w.heap.size w (wr.setCell ⟨w1.heap.size, q, none⟩ (.iface T u)) := hbel.setCell (p := ⟨w1.heap.size, q, none⟩) (by show w.heap.size ≤ w1.heap.size; omega) _
          have hrow := heap_setCell_same wr w1.heap.size q _ _ (.iface T u) HC.out
          rw [List.setIfInBounds_toArray] at hrow
          have hlk : w1.heap.size < (wr.setCell ⟨w1.heap.size, q, none⟩ (.iface T u)).heap.size := (Array.getElem?_eq_some_iff.1 hrow).1
          have hal := (Below.refl (wr.setCell ⟨w1.heap.size, q, none⟩ (.iface T u)).heap.size (wr.setCell ⟨w1.heap.size, q, none⟩ (.iface T u))).alloc (Nat.le_refl _) (.cells R 141)
          refine ⟨q, P2, C.set q (.iface T u), by omega, rfl, rfl, rfl, by omega, by omega, HDN.out, ?_, by rw [List.length_set]; exact HCL.out, ?_, ?_, fun h => by omega, (HU.out.setCell q _).call hal, hb1.alloc (by have := hb1.size; omega) _⟩
          · rw [hal.block _ hlk]; exact hrow
          · intro j hj hjl
            by_cases hjq : j = q
            · subst hjq
              rw [getD_set_same (by rw [HCL.out]; exact hjl), HCC.out]
              exact ⟨HV.out.symm, by omega, by omega⟩
            · rw [getD_set_other hjq]
              exact HCV.out j (by omega) hjl
          · intro _
            rw [HCC.out, ← HP2.out]
            rfl
        have hg1 : -9223372036854775808 ≤ P2 - 1 := by omega
        have hg2 : P2 ≤ 150 := by omega
        clear HC HCV HPM HPI HCL HU HDN HV HP2 HCC
        go_wp2_with fail
        refine (HI.out _).mono ?_
        rintro e w3 ⟨rfl, rfl⟩
        go_wp2
        go_roundg (q + 1)
        case rel => exact HW.out
        case measure => omega
      · have HZ : Hid (KEnd st vs ks i w.heap.size (.returned (.tuple #[.slice none 0 0, .bool false])) wr) := by
          refine Or.inr ⟨?_, rfl⟩
          rw [← HD.out, HDD.out, if_neg hcp]
        clear HD HDD HCC HC HCV HPM HPI HCL HU
        by_cases hP : P = 0
        · subst hP
          have d0 : decide ((0 : Int) - 1 < 0) = true := by decide
          clear hcp eq1
          go_wp2
          go_ret2
          exact ⟨HZ.out, hbel⟩
        · have hP' : ¬ P - 1 < 0 := by omega
          have nq : (c != P - 1) = true := by
            rw [bne_iff_ne]
            intro h
            exact hcp ⟨h, by omega⟩
          clear hcp eq1
          go_wp2
          go_ret2
          exact ⟨HZ.out, hbel⟩
end

section
open Go.ChangeShapes Go.WideShapes Go.ChangeAt Go.RowKit

theorem len_two {α : Type} {l : List α} (h : l.length = 2) : ∃ a b, l = [a, b] := by
  rcases l with _ | ⟨a, _ | ⟨b, _ | ⟨c, r⟩⟩⟩
  · simp at h
  · simp at h
  · exact ⟨a, b, rfl⟩
  · simp at h

theorem len_three {α : Type} {l : List α} (h : l.length = 3) : ∃ a b c, l = [a, b, c] := by
  rcases l with _ | ⟨a, _ | ⟨b, _ | ⟨c, _ | ⟨d, r⟩⟩⟩⟩
  · simp at h
  · simp at h
  · simp at h
  · exact ⟨a, b, c, rfl⟩
  · simp at h

theorem grow_leaf (t : Nod) (at0 : Int) (a : Option Addr) (cap : Nat) (w : World) :
    Calls Tryz.prog 79 #[.agg (nodCells t).toArray, .int .i64 at0, .slice a 0 cap] w fun e w' => e = .returned (treeV t at0 []) ∧ Below w.heap.size w w' := by
  obtain ⟨k, x1, b, c, n, x, o⟩ := t
  show Calls Tryz.prog 79 #[.agg #[.int .i64 k, .int .i64 x1, .int .i64 b, .int .i64 c, .int .i64 n, .string x, .string o], .int .i64 at0, .slice a 0 cap] w fun e w' => e = .returned (.iface 143 (.agg #[.int .i64 k, .int .i64 x1, .int .i64 b, .int .i64 c, .int .i64 n, .string x, .string o, .int .i64 at0])) ∧ Below w.heap.size w w'
  go_enter Tryz.func79, Tryz.ntmps79
  go_wp2
  go_ret
  exact ⟨rfl, (Below.refl _ w).alloc (Nat.le_refl _) _⟩

theorem spot_cells {w : World} {p : Nat} {k a b c n s : Int} {x o : ByteArray} {t : TypeId} {z : Nat × Nat} (h : w.heap[p]? = some (.cells #[.int .i64 k, .int .i64 a, .int .i64 b, .int .i64 c, .int .i64 n, .string x, .string o, .int .i64 s] t z)) :
    w.cell? ⟨p, 0, none⟩ = some (.int .i64 k) ∧ w.cell? ⟨p, 1, none⟩ = some (.int .i64 a) ∧ w.cell? ⟨p, 2, none⟩ = some (.int .i64 b) ∧ w.cell? ⟨p, 3, none⟩ = some (.int .i64 c) ∧ w.cell? ⟨p, 4, none⟩ = some (.int .i64 n) ∧ w.cell? ⟨p, 5, none⟩ = some (.string x) ∧ w.cell? ⟨p, 6, none⟩ = some (.string o) ∧ w.cell? ⟨p, 7, none⟩ = some (.int .i64 s) := by
  refine ⟨?_, ?_, ?_, ?_, ?_, ?_, ?_, ?_⟩ <;> (rw [cell_of_row _ _ _ _ _ _ h]; rfl)

/-- What lies there behind the statement that reads where the first kid begins. -/
def SpotIn (w wx : World) (p : Value) (k a b c n s : Int) (x o : ByteArray) : Prop :=
  ∃ q : Nat, p = .pointer (some ⟨q, 0, none⟩) ∧ wx.heap[q]? = some (.cells #[.int .i64 k, .int .i64 a, .int .i64 b, .int .i64 c, .int .i64 n, .string x, .string o, .int .i64 s] 141 (0, 0)) ∧ Below w.heap.size w wx

theorem spot_a (w : World) (A : Obj) (R : Array Value) (k a b c n s : Int) (x o : ByteArray) :
    SpotIn w (((w.alloc A).alloc (.cells R 141)).alloc (.cells #[.int .i64 k, .int .i64 a, .int .i64 b, .int .i64 c, .int .i64 n, .string x, .string o, .int .i64 s] 141)).drew
      (.pointer (some ⟨w.heap.size + 1 + 1, 0, none⟩)) k a b c n s x o := by
  refine ⟨w.heap.size + 1 + 1, rfl, ?_, ((((Below.refl _ w).alloc (Nat.le_refl _) _).alloc (by simp) _).alloc (by simp; omega) _).drew⟩
  have h := (MapKept.heap_alloc ((w.alloc A).alloc (.cells R 141)) (.cells #[.int .i64 k, .int .i64 a, .int .i64 b, .int .i64 c, .int .i64 n, .string x, .string o, .int .i64 s] 141)).1
  have e : ((w.alloc A).alloc (.cells R 141)).heap.size = w.heap.size + 1 + 1 := by simp
  rw [e] at h
  exact h

theorem spot_b (w : World) (A : Obj) (R : Array Value) (k a b c n s : Int) (x o : ByteArray) :
    SpotIn w (((w.alloc A).alloc (.cells #[.int .i64 k, .int .i64 a, .int .i64 b, .int .i64 c, .int .i64 n, .string x, .string o, .int .i64 s] 141)).alloc (.cells R 141)).drew
      (.pointer (some ⟨w.heap.size + 1, 0, none⟩)) k a b c n s x o := by
  refine ⟨w.heap.size + 1, rfl, ?_, ((((Below.refl _ w).alloc (Nat.le_refl _) _).alloc (by simp) _).alloc (by simp; omega) _).drew⟩
  have h := (MapKept.heap_alloc (w.alloc A) (.cells #[.int .i64 k, .int .i64 a, .int .i64 b, .int .i64 c, .int .i64 n, .string x, .string o, .int .i64 s] 141)).1
  have h2 := ((Below.refl _ ((w.alloc A).alloc (.cells #[.int .i64 k, .int .i64 a, .int .i64 b, .int .i64 c, .int .i64 n, .string x, .string o, .int .i64 s] 141))).alloc (Nat.le_refl _) (.cells R 141)).drew.block (w.heap.size + 1) (by simp)
  rw [h2]
  simpa using h

set_option maxHeartbeats 4000000 in
set_option maxRecDepth 20000 in
theorem grow_kids (t : Nod) (at0 s : Int) (g cap : Nat) (ks : List Value) (h1 : 1 ≤ ks.length) (h3 : ks.length ≤ 3) (hv : Begins (ks.getD 0 .nilIface) s) (hif : ∀ v ∈ ks, ∃ T u, v = .iface T u) (w : World) (hk : TreeAt w g ks) :
    Calls Tryz.prog 79 #[.agg (nodCells t).toArray, .int .i64 at0, .slice (some ⟨g, 0, none⟩) ks.length cap] w fun e w' => e = .returned (treeV t s ks) ∧ Below w.heap.size w w' := by
  have hg := hk.lt (by omega)
  have h0 := hk 0 (by omega)
  have HF : Hid (∀ v ∈ ks, ∃ T u, v = .iface T u) := hif
  have HV : Hid (treeV t s ks = .iface (treeT ks.length) (.agg (spotL t s ++ ks).toArray)) := rfl
  have HK : Hid (TreeAt w g ks) := hk
  obtain ⟨T, u, t0, he, hn, hm⟩ := hv
  rw [he] at h0
  obtain ⟨k, x1, b, c, n, x, o⟩ := t
  show Calls Tryz.prog 79 #[.agg #[.int .i64 k, .int .i64 x1, .int .i64 b, .int .i64 c, .int .i64 n, .string x, .string o], .int .i64 at0, .slice (some ⟨g, 0, none⟩) ks.length cap] w fun e w' => e = .returned (treeV ⟨k, x1, b, c, n, x, o⟩ s ks) ∧ Below w.heap.size w w'
  obtain ⟨R, hR⟩ : ∃ R, (spotL t0 s).toArray = R := ⟨_, rfl⟩
  have hI := impl_begin t0 s
  rw [hR] at hm hI
  have HI : Hid (∀ w : World, Calls Tryz.prog 170 #[.agg R] w fun e w' => e = .returned (.int .i64 s) ∧ w' = w.alloc (.cells R 141)) := hI
  clear hR hI he hk hif
  obtain ⟨m, hmm⟩ : ∃ m, ks.length = m := ⟨_, rfl⟩
  have HM : Hid (ks.length = m) := hmm
  rw [hmm] at h1 h3 ⊢
  clear hmm
  have e1 : (1 : Int) ≤ m := by omega
  have e3 : (m : Int) ≤ 3 := by omega
  go_enter Tryz.func79, Tryz.ntmps79
  go_upto_region 3 with fail
  go_cut [7] from 10 (fun p wx => SpotIn w wx p k x1 b c n s x o)
  case first =>
    go_region_with (go_at_call 170; refine (HI.out _).mono ?_; rintro e w1 ⟨rfl, rfl⟩)
    all_goals
      go_wp2_with fail
      go_meet
    all_goals first | exact spot_a _ _ _ _ _ _ _ _ _ _ _ | exact spot_b _ _ _ _ _ _ _ _ _ _ _
  case rest =>
    obtain ⟨q, rfl, hq, hb⟩ := hcut
    obtain ⟨q0, q1, q2, q3, q4, q5, q6, q7⟩ := spot_cells hq
    have HT : Hid (TreeAt wc g ks) := HK.out.below hb (fun _ => hg)
    clear HK h0 hn hm HI hq
    rcases (by omega : m = 1 ∨ m = 2 ∨ m = 3) with rfl | rfl | rfl
    · obtain ⟨v0, rfl⟩ := List.length_eq_one_iff.1 HM.out
      obtain ⟨T0, u0, rfl⟩ := HF.out v0 (by simp)
      have c0 : wc.cell? ⟨g, 0, none⟩ = some (.iface T0 u0) := HT.out 0 (by simp)
      clear HT HF
      go_wp2
      go_quiet (fail)
      go_wp2
      go_ret
      exact ⟨by rw [HV.out]; rfl, below_drew_n hb _⟩
    · obtain ⟨v0, v1, rfl⟩ := len_two HM.out
      obtain ⟨T0, u0, rfl⟩ := HF.out v0 (by simp)
      obtain ⟨T1, u1, rfl⟩ := HF.out v1 (by simp)
      have c0 : wc.cell? ⟨g, 0, none⟩ = some (.iface T0 u0) := HT.out 0 (by simp)
      have c1 : wc.cell? ⟨g, 1, none⟩ = some (.iface T1 u1) := HT.out 1 (by simp)
      clear HT HF
      go_wp2
      go_quiet (fail)
      go_wp2
      go_ret
      exact ⟨by rw [HV.out]; rfl, below_drew_n hb _⟩
    · obtain ⟨v0, v1, v2, rfl⟩ := len_three HM.out
      obtain ⟨T0, u0, rfl⟩ := HF.out v0 (by simp)
      obtain ⟨T1, u1, rfl⟩ := HF.out v1 (by simp)
      obtain ⟨T2, u2, rfl⟩ := HF.out v2 (by simp)
      have c0 : wc.cell? ⟨g, 0, none⟩ = some (.iface T0 u0) := HT.out 0 (by simp)
      have c1 : wc.cell? ⟨g, 1, none⟩ = some (.iface T1 u1) := HT.out 1 (by simp)
      have c2 : wc.cell? ⟨g, 2, none⟩ = some (.iface T2 u2) := HT.out 2 (by simp)
      clear HT HF
      go_wp2
      go_quiet (fail)
      go_wp2
      go_ret
      exact ⟨by rw [HV.out]; rfl, below_drew_n hb _⟩
end

section
open Go.ChangeShapes Go.WideShapes Go.ChangeAt Go.RowKit

/-- The trees of the first nodes, each over its kids. -/
structure TreesG (ts : List Nod) (st : List Int) (vs : List Value) (i : Nat) : Prop where
  ls : st.length = i
  lv : vs.length = i
  v : ∀ j, j < i → vs.getD j .nilIface = treeV (ts.getD j noNod) (st.getD j 0) (kidV vs (kidL (ts.getD j noNod)))
  k : ∀ j, j < i → ∀ c, c < (kidL (ts.getD j noNod)).length → 0 ≤ (kidL (ts.getD j noNod)).getD c 0 ∧ (kidL (ts.getD j noNod)).getD c 0 < j
  r : ∀ j, j < i → 0 ≤ st.getD j 0 ∧ st.getD j 0 ≤ j

theorem kidV_length (vs : List Value) (ks : List Int) : (kidV vs ks).length = ks.length := by simp [kidV]

theorem TreesG.b {ts : List Nod} {st : List Int} {vs : List Value} {i : Nat} (h : TreesG ts st vs i) : TreesB st vs i :=
  ⟨h.ls, h.lv, fun j hj => by rw [h.v j hj]; exact treeV_begins _ _ _ (by rw [kidV_length, kidL_length]; exact arN_le _), h.r⟩

theorem kidV_getD (vs : List Value) (ks : List Int) (j : Nat) (h : j < ks.length) : (kidV vs ks).getD j .nilIface = vs.getD (ks.getD j 0).toNat .nilIface := by
  simp [kidV, List.getD, h]

theorem kidV_app (vs : List Value) (v : Value) (ks : List Int) (h : ∀ c, c < ks.length → 0 ≤ ks.getD c 0 ∧ ks.getD c 0 < vs.length) : kidV (vs ++ [v]) ks = kidV vs ks := by
  unfold kidV
  apply List.map_congr_left
  intro c hc
  obtain ⟨m, hm, rfl⟩ := List.getElem_of_mem hc
  have hr := h m hm
  have e : ks.getD m 0 = ks[m] := by simp [List.getD, hm]
  rw [e] at hr
  simp only [List.getD]
  rw [List.getElem?_append_left (by omega)]

theorem getD_app_left {α : Type} (l : List α) (x d : α) (j : Nat) (h : j < l.length) : (l ++ [x]).getD j d = l.getD j d := by
  simp only [List.getD]
  rw [List.getElem?_append_left h]

theorem getD_app_lastT {α : Type} (l : List α) (x d : α) (j : Nat) (h : j = l.length) : (l ++ [x]).getD j d = x := by
  subst h
  simp [List.getD]

theorem TreesG.next {ts : List Nod} {st : List Int} {vs : List Value} {i : Nat} (h : TreesG ts st vs i) (r : Int)
    (hk : ∀ c, c < (kidL (ts.getD i noNod)).length → 0 ≤ (kidL (ts.getD i noNod)).getD c 0 ∧ (kidL (ts.getD i noNod)).getD c 0 < i) (hr : 0 ≤ r ∧ r ≤ i) :
    TreesG ts (st ++ [r]) (vs ++ [treeV (ts.getD i noNod) r (kidV vs (kidL (ts.getD i noNod)))]) (i + 1) := by
  have hls := h.ls
  have hlv := h.lv
  refine ⟨by simp [hls], by simp [hlv], fun j hj => ?_, fun j hj => ?_, fun j hj => ?_⟩
  · by_cases hji : j < i
    · rw [getD_app_left _ _ _ _ (by omega), getD_app_left _ _ _ _ (by omega), h.v j hji, kidV_app]
      intro c hc
      have := h.k j hji c hc
      omega
    · obtain rfl : j = i := by omega
      rw [getD_app_lastT _ _ _ _ hlv.symm, getD_app_lastT _ _ _ _ hls.symm, kidV_app]
      intro c hc
      have := hk c hc
      omega
  · by_cases hji : j < i
    · exact h.k j hji
    · obtain rfl : j = i := by omega
      exact hk
  · by_cases hji : j < i
    · rw [getD_app_left _ _ _ _ (by omega)]; exact h.r j hji
    · obtain rfl : j = i := by omega
      rw [getD_app_lastT _ _ _ _ hls.symm]; exact hr

/-- A slice of trees of the call's own. -/
abbrev ownT (w : World) (base : Nat) (v : Value) (vs : List Value) : Prop := w.ownsRow base 83 1 v vs.length vs

theorem ownT_kept {w w' : World} {B N : Nat} {v : Value} {vs : List Value} (h : ownT w B v vs) (hb : Below N w w') (hN : w.heap.size ≤ N) : ownT w' B v vs := by
  refine ⟨h.1, ?_⟩
  rcases h.2 with h0 | ⟨g, cap, cur, hv, hbg, hg, rest⟩
  · exact .inl h0
  · refine .inr ⟨g, cap, cur, hv, hbg, ?_, rest⟩
    have hlt : g < w.heap.size := (Array.getElem?_eq_some_iff.1 hg).1
    rw [hb.block g (by omega)]
    exact hg

theorem ownT_form {w : World} {B : Nat} {v : Value} {vs : List Value} (h : ownT w B v vs) :
    ∃ (a : Option Addr) (g cap : Nat), v = .slice a vs.length cap ∧ (0 < vs.length → a = some ⟨g, 0, none⟩) ∧ TreeAt w g vs ∧ B ≤ g ∧ (0 < vs.length → g < w.heap.size) := by
  rcases h.2 with ⟨rfl, h0⟩ | ⟨g, cap, cur, rfl, hb, hg, hn, hm, hs, ht⟩
  · rw [h0]
    have e : vs = [] := List.length_eq_zero_iff.1 h0
    subst e
    exact ⟨none, B, 0, rfl, fun h => absurd h (by omega), fun i hi => absurd hi (by simp), Nat.le_refl _, fun h => absurd h (by omega)⟩
  · refine ⟨some ⟨g, 0, none⟩, g, cap, rfl, fun _ => rfl, fun i hi => ?_, hb, fun _ => (Array.getElem?_eq_some_iff.1 hg).1⟩
    rw [cell_of_row _ _ _ _ _ _ hg]
    have e : cur[i]? = vs[i]? := by
      rw [← ht, List.getElem?_take_of_lt (by omega)]
      simp
    rw [e]
    simp [List.getD, hi]

theorem ownT_next {w : World} {B : Nat} {v : Value} {vs : List Value} {m : Nat} {xs : List Value} (x : Value) (h : w.ownsRow B 83 1 v m xs) (hn : m = vs.length + 1) (hx : xs = vs ++ [x]) : ownT w B v (vs ++ [x]) := by
  subst hn hx
  show w.ownsRow B 83 1 v (vs ++ [x]).length (vs ++ [x])
  rw [List.length_append]
  simpa using h

/-- A tree is grown over the kids that were found ahead of its node. -/
theorem impl_grow (t : Nod) (i : Nat) (r : Int) (K : Nat) (st : List Int) (vs : List Value) (hT : TreesB st vs i) (w : World) (hA : TreeAt w K (kidV vs (kidL t)))
    (hk : ∀ j, j < (kidL t).length → 0 ≤ (kidL t).getD j 0 ∧ (kidL t).getD j 0 < i) (h1 : 0 < (kidL t).length → r = st.getD ((kidL t).getD 0 0).toNat 0) (h0 : (kidL t).length = 0 → r = i) :
    Calls Tryz.prog 79 #[.agg (nodCells t).toArray, .int .i64 i, .slice (some ⟨K, 0, none⟩) (kidL t).length (kidL t).length] w fun e w' => e = .returned (treeV t r (kidV vs (kidL t))) ∧ Below w.heap.size w w' := by
  by_cases hz : (kidL t).length = 0
  · obtain rfl := h0 hz
    have e : kidL t = [] := List.length_eq_zero_iff.1 hz
    rw [e]
    exact grow_leaf t i _ 0 w
  · have hlt : 0 < (kidL t).length := by omega
    have hl := kidL_length t
    have ha := arN_le t.kind
    have g := grow_kids t i r K (kidL t).length (kidV vs (kidL t)) (by rw [kidV_length]; omega) (by rw [kidV_length]; omega) ?_ ?_ w hA
    · rw [kidV_length] at g
      exact g
    · have hh := hk 0 hlt
      rw [kidV_getD _ _ 0 hlt, h1 hlt]
      exact hT.b _ (by omega)
    · intro v hv
      simp only [kidV, List.mem_map] at hv
      obtain ⟨c, hc, rfl⟩ := hv
      obtain ⟨m, hm, rfl⟩ := List.getElem_of_mem hc
      have hh := hk m hm
      have e : (kidL t).getD m 0 = (kidL t)[m] := by simp [List.getD, hm]
      rw [e] at hh
      obtain ⟨T, u, t0, hv, _⟩ := hT.b (kidL t)[m].toNat (by omega)
      exact ⟨T, u, hv⟩

/-- What a call of treesOf ends with. -/
def TrEnd (ts : List Nod) (B : Nat) (e : Ending) (w : World) : Prop :=
  (∃ st vs v, 1 ≤ ts.length ∧ ts.length ≤ 150 ∧ startsF ts ts.length = some st ∧ TreesG ts st vs ts.length ∧ ownT w B v vs ∧ e = .returned (.tuple #[v, .bool (nodesB ts)])) ∨
  (nodesB ts = false ∧ e = .returned (.tuple #[.slice none 0 0, .bool false]))

/-- The state of its loop. -/
def TrAt (ts : List Nod) (w : World) (gg : Nat) (out pl : Value) (wr : World) : Prop :=
  ∃ (i : Nat) (st : List Int) (vs : List Value), pl = .int .i64 i ∧ i + gg = ts.length ∧ startsF ts i = some st ∧ TreesG ts st vs i ∧ ownT wr w.heap.size out vs ∧ Below w.heap.size w wr
end

section
open Go.ChangeShapes Go.WideShapes Go.ChangeAt Go.RowKit

set_option maxHeartbeats 4000000 in
set_option maxRecDepth 20000 in
theorem impl_trees (a : Option Addr) (g cap : Nat) (ts : List Nod) (hne : 0 < ts.length → a = some ⟨g, 0, none⟩) (hl : ts.length ≤ 1048576)
    (hst : ∀ i, i < ts.length → (ts.getD i noNod).name.size ≤ maxLen ∧ (ts.getD i noNod).other.size ≤ maxLen) (w : World) (hA : NodAt w g ts) :
    Calls Tryz.prog 39 #[.slice a ts.length cap] w fun e w' => TrEnd ts w.heap.size e w' ∧ Below w.heap.size w w' := by
  have HA : Hid (NodAt w g ts) := hA
  have HT : Hid (∀ i, i < ts.length → (ts.getD i noNod).name.size ≤ maxLen ∧ (ts.getD i noNod).other.size ≤ maxLen) := hst
  have HN : Hid (nodesB ts = (decide (1 ≤ ts.length ∧ ts.length ≤ 150) && (match startsF ts ts.length with | some st => st.getD (ts.length - 1) 0 == 0 | none => false))) := rfl
  clear hA hst
  by_cases hk : 1 ≤ ts.length ∧ ts.length ≤ 150
  · have HV : Hid (nodesB ts = (match startsF ts ts.length with | some st => st.getD (ts.length - 1) 0 == 0 | none => false)) := by
      show nodesB ts = _
      rw [HN.out, decide_eq_true hk, Bool.true_and]
    obtain ⟨hk1, hk2⟩ := hk
    have e1 : ¬ (ts.length : Int) < 1 := by omega
    have e2 : ¬ (150 : Int) < ts.length := by omega
    obtain ⟨i0, hi0, hz0, hz1, hz2⟩ := info_parts info_tree
    obtain ⟨M, hM⟩ : ∃ M, M = madeCells (Value.nilIface).cells (((ts.length : Nat) : Int).toNat * i0.size) := ⟨_, rfl⟩
    have HMS : Hid (M.size = ts.length * 1) := by
      show M.size = ts.length * 1
      rw [hM, size_madeCells, hz1]
      simp
    have hmk : ∀ W : World, (Instr.makeSlice 79 (.int .i64 0) (.int .i64 (ts.length : Int))).run Tryz.prog W = .ok (.slice (some ⟨W.heap.size, 0, none⟩) 0 ts.length) (W.alloc (.cells M 83)) := fun W => by
      have h := run_make (P := Tryz.prog) W 79 83 i0 .nilIface Tryz.underlying79 hi0 hz0 .i64 .i64 0 (ts.length : Int) (by omega) (by omega) (by rw [hz2]; omega) (by omega)
      rw [← hM] at h
      simpa using h
    have HI0 : Hid (Tryz.prog.info? 83 = some i0 ∧ i0.zero = some .nilIface ∧ i0.size = 1 ∧ i0.bytes = 16) := ⟨hi0, hz0, hz1, hz2⟩
    clear hM hi0 hz0 hz1 hz2 HN
    have HO0 : Hid (ownT (w.alloc (.cells M 83)) w.heap.size (.slice (some ⟨w.heap.size, 0, none⟩) 0 ts.length) []) :=
      World.ownsRow_made w M ts.length (Nat.le_refl _) (by unfold maxLen; omega) HMS.out
    go_enter Tryz.func39, Tryz.ntmps39
    go_wp2
    go_loopg [4, 22] ts.length (fun gg out i wr => TrAt ts w gg out i wr)
    case atStart => exact ⟨0, [], [], rfl, by omega, rfl, ⟨rfl, rfl, fun j hj => by omega, fun j hj => by omega, fun j hj => by omega⟩, HO0.out, (Below.refl _ w).alloc (Nat.le_refl _) _⟩
    case round =>
      obtain ⟨i, st, vs, rfl, hig, hS, hG, hown, hbel⟩ := hrel
      have HS : Hid (startsF ts i = some st) := hS
      have HG : Hid (TreesG ts st vs i) := hG
      have HO : Hid (ownT wr w.heap.size u4 vs) := hown
      have hlv := hG.lv
      have hsz := hbel.size
      clear hS hown hG HO0 hmk
      by_cases hin : i < ts.length
      · have e1 : (i : Int) < ts.length := by omega
        obtain rfl := hne (by omega)
        have hlt : g < w.heap.size := HA.out.lt (by omega)
        have t := (HA.out.below hbel (fun _ => hlt)) i hin
        have hsm := HT.out i hin
        have HN : Hid (startsF ts (i + 1) = (startsF ts i).bind fun st => (stepS (ts.getD i noNod) i st).map fun a => st ++ [a]) := rfl
        obtain ⟨⟨x0, x1, x2, x3, x4, x5, x6⟩, hx⟩ : ∃ y, ts.getD i noNod = y := ⟨_, rfl⟩
        have HX : Hid (ts.getD i noNod = ⟨x0, x1, x2, x3, x4, x5, x6⟩) := hx
        rw [hx] at t hsm HN
        simp only at hsm
        have HSM : Hid (x5.size ≤ maxLen ∧ x6.size ≤ maxLen) := hsm
        have q0 : wr.cell? ⟨g, i * 7, none⟩ = some (.int .i64 x0) := t.c0
        have q1 : wr.cell? ⟨g, i * 7 + 1, none⟩ = some (.int .i64 x1) := t.c1
        have q2 : wr.cell? ⟨g, i * 7 + 2, none⟩ = some (.int .i64 x2) := t.c2
        have q3 : wr.cell? ⟨g, i * 7 + 3, none⟩ = some (.int .i64 x3) := t.c3
        have q4 : wr.cell? ⟨g, i * 7 + 4, none⟩ = some (.int .i64 x4) := t.c4
        have q5 : wr.cell? ⟨g, i * 7 + 5, none⟩ = some (.string x5) := t.c5
        have q6 : wr.cell? ⟨g, i * 7 + 6, none⟩ = some (.string x6) := t.c6
        obtain ⟨wa, hwa⟩ : ∃ wa, wr.alloc (.cells #[.int .i64 x0, .int .i64 x1, .int .i64 x2, .int .i64 x3, .int .i64 x4, .string x5, .string x6] 44) = wa := ⟨_, rfl⟩
        have HWA : Hid (wr.alloc (.cells #[.int .i64 x0, .int .i64 x1, .int .i64 x2, .int .i64 x3, .int .i64 x4, .string x5, .string x6] 44) = wa) := hwa
        have Ra : Hid (wa.heap[wr.heap.size]? = some (.cells #[.int .i64 x0, .int .i64 x1, .int .i64 x2, .int .i64 x3, .int .i64 x4, .string x5, .string x6] 44 (0, 0))) := by rw [← hwa]; exact (MapKept.heap_alloc wr _).1
        have Sa : Hid (wa.heap.size = wr.heap.size + 1) := by
          show wa.heap.size = wr.heap.size + 1
          rw [← hwa]; simp
        have Ba : Hid (Below w.heap.size w wa) := by rw [← hwa]; exact hbel.alloc (by omega) _
        have Oa : Hid (ownT wa w.heap.size u4 vs) := by rw [← hwa]; exact HO.out.alloc _
        clear t hx hsm hwa
        go_wp2_with fail
        rw [HWA.out]
        refine (impl_fields x0 x1 x2 x3 x4 x5 x6 HSM.out.1 HSM.out.2 wa).mono ?_
        rintro e w1 ⟨rfl, hb1⟩
        have hs1 := hb1.size
        rw [Sa.out] at hs1
        have R1 := (hb1.block wr.heap.size (by rw [Sa.out]; omega)).trans Ra.out
        have HR1 : Hid (w1.heap[wr.heap.size]? = some (.cells #[.int .i64 x0, .int .i64 x1, .int .i64 x2, .int .i64 x3, .int .i64 x4, .string x5, .string x6] 44 (0, 0))) := R1
        have O1 : Hid (ownT w1 w.heap.size u4 vs) := ownT_kept Oa.out hb1 (Nat.le_refl _)
        have B1 : Hid (Below w.heap.size w w1) := Ba.out.trans (hb1.mono (by rw [Sa.out]; omega))
        clear q0 q1 q2 q3 q4 q5 q6 hb1 Ra HWA Ba Oa HO hbel
        have HNO : Hid (∀ W : World, startsF ts (i + 1) = none → TrEnd ts w.heap.size (.returned (.tuple #[.slice none 0 0, .bool false])) W) := by
          intro W h
          refine Or.inr ⟨?_, rfl⟩
          rw [HV.out, startsF_none ts (i + 1) ts.length (by omega) h]
        by_cases hf : fieldsB ⟨x0, x1, x2, x3, x4, x5, x6⟩ = true
        · have HE : Hid (startsF ts (i + 1) = (down st (kidL ⟨x0, x1, x2, x3, x4, x5, x6⟩).reverse i).map fun a => st ++ [a]) := by
            show startsF ts (i + 1) = _
            rw [HN.out, HS.out]
            simp only [Option.bind_some, stepS, if_pos hf]
          rw [hf]
          clear hf HN
          obtain ⟨p0, p1, p2, p3, p4, p5, p6⟩ := cells7_of R1
          clear R1
          obtain ⟨a4, g4, c4, rfl, ha4, hT4, hB4, hl4⟩ := ownT_form O1.out
          have T4 : Hid (TreeAt w1 g4 vs) := hT4
          have L4 : Hid (0 < vs.length → g4 < w1.heap.size) := hl4
          have A4 : Hid (0 < vs.length → a4 = some ⟨g4, 0, none⟩) := ha4
          clear hT4 hl4 ha4
          rw [hlv] at *
          go_wp2_with fail
          refine (impl_ahead a4 g4 c4 i st vs ⟨x0, x1, x2, x3, x4, x5, x6⟩ HG.out.b (by omega) A4.out w1 T4.out).mono ?_
          rintro e w2 ⟨hend, hb2⟩
          have hs2 := hb2.size
          have B2 : Hid (Below w.heap.size w w2) := B1.out.trans (hb2.mono (by omega))
          have R2 := (hb2.block wr.heap.size (by omega)).trans HR1.out
          have O2 : Hid (ownT w2 w.heap.size (.slice a4 i c4) vs) := ownT_kept O1.out hb2 (Nat.le_refl _)
          clear p0 p1 p2 p3 p4 p5 p6 HR1 O1 B1 T4 L4 hb2
          rcases hend with ⟨r, K, hr, rfl, hBK, hTK, hkk, hr1, hr0⟩ | ⟨hno, rfl⟩
          · have HQ : Hid (startsF ts (i + 1) = some (st ++ [r])) := by
              show startsF ts (i + 1) = _
              rw [HE.out, hr]
              rfl
            have hrr := down_range HG.out.ls HG.out.r _ _ r (by omega) (by omega) hr
            have HRR : Hid (0 ≤ r ∧ r ≤ i) := hrr
            have HKK : Hid (∀ j, j < (kidL ⟨x0, x1, x2, x3, x4, x5, x6⟩).length → 0 ≤ (kidL ⟨x0, x1, x2, x3, x4, x5, x6⟩).getD j 0 ∧ (kidL ⟨x0, x1, x2, x3, x4, x5, x6⟩).getD j 0 < i) := hkk
            have hgr := impl_grow ⟨x0, x1, x2, x3, x4, x5, x6⟩ i r K st vs HG.out.b w2 hTK hkk hr1 hr0
            have HGN : Hid (TreesG ts (st ++ [r]) (vs ++ [treeV ⟨x0, x1, x2, x3, x4, x5, x6⟩ r (kidV vs (kidL ⟨x0, x1, x2, x3, x4, x5, x6⟩))]) (i + 1)) := by
              have h := HG.out.next r (by rw [HX.out]; exact hkk) hrr
              rw [HX.out] at h
              exact h
            obtain ⟨p0, p1, p2, p3, p4, p5, p6⟩ := cells7_of R2
            obtain ⟨T, u, hTU⟩ : ∃ T u, treeV ⟨x0, x1, x2, x3, x4, x5, x6⟩ r (kidV vs (kidL ⟨x0, x1, x2, x3, x4, x5, x6⟩)) = .iface T u := ⟨_, _, rfl⟩
            rw [hTU] at hgr HGN
            have HGR : Hid (Calls Tryz.prog 79 #[.agg (nodCells ⟨x0, x1, x2, x3, x4, x5, x6⟩).toArray, .int .i64 i, .slice (some ⟨K, 0, none⟩) (kidL ⟨x0, x1, x2, x3, x4, x5, x6⟩).length (kidL ⟨x0, x1, x2, x3, x4, x5, x6⟩).length] w2 fun e w' => e = .returned (.iface T u) ∧ Below w2.heap.size w2 w') := hgr
            clear R2 hr hTK hkk hr1 hr0 HE HNO hTU hgr hrr
            generalize (kidL ⟨x0, x1, x2, x3, x4, x5, x6⟩).length = kl at *
            go_wp2_with fail
            refine HGR.out.mono ?_
            rintro e w3 ⟨rfl, hb3⟩
            have hs3 := hb3.size
            have B3 : Hid (Below w.heap.size w w3) := B2.out.trans (hb3.mono (by omega))
            have O3 : Hid (ownT w3 w.heap.size (.slice a4 i c4) vs) := ownT_kept O2.out hb3 (Nat.le_refl _)
            have HLV : Hid (vs.length = i) := HG.out.lv
            obtain ⟨hi0, hz0, hz1, hz2⟩ := HI0.out
            clear p0 p1 p2 p3 p4 p5 p6 O2 B2 hb3 HGR HKK HRR
            go_wp2_with (at_builtin; refine wpList_append_own _ rfl _ _ 79 rfl w.heap.size 83 i0 _ 1 16 Tryz.underlying79 hi0 hz0 hz1 hz2 rfl (by decide) _ _ _ rfl (O3.out.alloc _) ⟨w3.heap.size, 0, none⟩ 1 1 [.iface T u] rfl rfl ?a1 ?a2 ?a3 ?a4 ?a5 ?_)
            case a1 =>
              intro j u hj
              match j, hj with
              | 0, hj => simp at hj; subst hj; simp [Addr.add]
            case a2 => intro u hu; simp at hu; subst hu; rfl
            case a3 => have := HLV.out; unfold maxLen; omega
            case a4 => have := HLV.out; omega
            case a5 => simp; omega
            intro v' W4 hown' hgrow _
            have HM : Hid (TrAt ts w (ts.length - (i + 1)) v' (.int .i64 ((i + 1 : Nat) : Int)) W4) :=
              ⟨i + 1, st ++ [r], vs ++ [.iface T u], rfl, by omega, HQ.out, HGN.out, ownT_next (.iface T u) hown' rfl rfl, (B3.out.alloc (by omega) _).grown hgrow (by simp; omega) (fun q hq => (O3.out.lt q hq).1)⟩
            clear hown' hgrow HQ O3 B3 hi0 hz0 hz1 hz2 HGN
            go_wp2
            go_roundg (ts.length - (i + 1))
            case rel => exact HM.out
            case measure => omega
          · have HZ : Hid (TrEnd ts w.heap.size (.returned (.tuple #[.slice none 0 0, .bool false])) w2) := HNO.out w2 (by rw [HE.out, hno]; rfl)
            clear HE HNO hno O2 R2
            go_wp2
            go_ret2
            exact ⟨HZ.out, B2.out⟩
        · have hf' : fieldsB ⟨x0, x1, x2, x3, x4, x5, x6⟩ = false := by simpa using hf
          have HZ : Hid (TrEnd ts w.heap.size (.returned (.tuple #[.slice none 0 0, .bool false])) w1) := HNO.out w1 (by
            rw [HN.out, HS.out]
            simp only [Option.bind_some, stepS, if_neg hf]
            rfl)
          rw [hf']
          clear hf hf' HN HNO R1 HR1 O1
          go_wp2
          go_ret2
          exact ⟨HZ.out, B1.out⟩
      · have e1 : (ts.length : Int) ≤ i := by omega
        obtain rfl : i = ts.length := by omega
        obtain ⟨a4, g4, c4, rfl, ha4, hT4, hB4, hl4⟩ := ownT_form HO.out
        obtain rfl := ha4 (by omega)
        have hlast : ts.length - 1 < ts.length := by omega
        obtain ⟨T, u, t0, hv, hn, hmt⟩ := HG.out.b.b (ts.length - 1) hlast
        have hcell : wr.cell? ⟨g4, ts.length - 1, none⟩ = some (.iface T u) := by
          rw [← hv]
          exact hT4 (ts.length - 1) (by omega)
        obtain ⟨R, hR⟩ : ∃ R, (spotL t0 (st.getD (ts.length - 1) 0)).toArray = R := ⟨_, rfl⟩
        have hI := impl_begin t0 (st.getD (ts.length - 1) 0)
        rw [hR] at hmt hI
        have HZ : Hid (∀ W : World, ownT W w.heap.size (.slice (some ⟨g4, 0, none⟩) vs.length c4) vs → TrEnd ts w.heap.size (.returned (.tuple #[.slice (some ⟨g4, 0, none⟩) vs.length c4, .bool (st.getD (ts.length - 1) 0 == 0)])) W) := by
          intro W hW
          refine Or.inl ⟨st, vs, _, hk1, hk2, HS.out, HG.out, hW, ?_⟩
          rw [HV.out, HS.out]
        have HO1 : Hid (ownT (wr.alloc (.cells R 141)) w.heap.size (.slice (some ⟨g4, 0, none⟩) vs.length c4) vs) := HO.out.alloc _
        generalize st.getD (ts.length - 1) 0 = P2 at *
        have HI : Hid (∀ w : World, Calls Tryz.prog 170 #[.agg R] w fun e w' => e = .returned (.int .i64 P2) ∧ w' = w.alloc (.cells R 141)) := hI
        have HLV : Hid (vs.length = ts.length) := hlv
        rw [hlv] at *
        have e2 : (0 : Int) ≤ (ts.length : Int) - 1 := by omega
        have e3 : (ts.length : Int) - 1 < ts.length := by omega
        clear hR hI hv hT4 hl4 ha4 HO hlv
        go_wp2_with fail
        refine (HI.out _).mono ?_
        rintro e w3 ⟨rfl, rfl⟩
        go_wp2
        go_ret2
        exact ⟨HZ.out _ HO1.out, hbel.alloc (by omega) _⟩
  · have HZ : Hid (TrEnd ts w.heap.size (.returned (.tuple #[.slice none 0 0, .bool false])) w) := by
      refine Or.inr ⟨?_, rfl⟩
      rw [HN.out, decide_eq_false hk, Bool.false_and]
    clear HN
    by_cases h1 : ts.length < 1
    · have e1 : (ts.length : Int) < 1 := by omega
      clear hk
      go_enter Tryz.func39, Tryz.ntmps39
      go_wp2
      go_ret2
      exact ⟨HZ.out, Below.refl _ _⟩
    · have e1 : ¬ (ts.length : Int) < 1 := by omega
      have e2 : (150 : Int) < ts.length := by omega
      clear hk
      go_enter Tryz.func39, Tryz.ntmps39
      go_wp2
      go_ret2
      exact ⟨HZ.out, Below.refl _ _⟩
end

section
open Go.ChangeShapes Go.WideShapes Go.ChangeAt Go.RowKit

theorem impl_nodes (a : Option Addr) (g cap : Nat) (ts : List Nod) (hne : 0 < ts.length → a = some ⟨g, 0, none⟩) (hl : ts.length ≤ 1048576)
    (hst : ∀ i, i < ts.length → (ts.getD i noNod).name.size ≤ maxLen ∧ (ts.getD i noNod).other.size ≤ maxLen) (w : World) (hA : NodAt w g ts) :
    Calls Tryz.prog 17 #[.slice a ts.length cap] w fun e w' => e = .returned (.bool (nodesB ts)) ∧ Below w.heap.size w w' := by
  have HI : Hid (Calls Tryz.prog 39 #[.slice a ts.length cap] w fun e w' => TrEnd ts w.heap.size e w' ∧ Below w.heap.size w w') := impl_trees a g cap ts hne hl hst w hA
  clear hA hst
  go_enter Tryz.func17, Tryz.ntmps17
  go_wp2_with fail
  refine HI.out.mono ?_
  rintro e w1 ⟨hend, hb1⟩
  rcases hend with ⟨st, vs, v, h1, h2, hS, hG, hown, rfl⟩ | ⟨hno, rfl⟩
  · clear hS hG hown
    go_wp2
    go_ret
    exact ⟨rfl, hb1⟩
  · have HN : Hid (nodesB ts = false) := hno
    clear hno
    go_wp2
    go_ret
    exact ⟨by rw [HN.out]; rfl, hb1⟩

/-- What a call of treeAt ends with. -/
def TaEnd (ts : List Nod) (i : Int) (e : Ending) : Prop :=
  (∃ (st : List Int) (vs : List Value) (m : Nat), i = m ∧ m < ts.length ∧ ts.length ≤ 150 ∧ nodesB ts = true ∧ startsF ts ts.length = some st ∧ TreesG ts st vs ts.length ∧ e = .returned (.tuple #[vs.getD m .nilIface, .bool true])) ∨
  (startB ts i = -1 ∧ e = .returned (.tuple #[.nilIface, .bool false]))

theorem startB_no {ts : List Nod} {i : Int} (h : nodesB ts = false ∨ i < 0 ∨ (ts.length : Int) ≤ i) : startB ts i = -1 := by
  unfold startB
  rw [if_neg]
  rintro ⟨h1, h2, h3⟩
  rcases h with h | h | h
  · rw [h1] at h; cases h
  · omega
  · omega

theorem startB_yes {ts : List Nod} {m : Nat} {st : List Int} (hn : nodesB ts = true) (hm : m < ts.length) (hS : startsF ts ts.length = some st) : startB ts m = st.getD m 0 := by
  unfold startB
  rw [if_pos ⟨hn, by omega, by omega⟩, hS]
  rfl

set_option maxHeartbeats 1000000 in
theorem impl_treeAt (a : Option Addr) (g cap : Nat) (ts : List Nod) (i : Int) (hi1 : -9223372036854775808 ≤ i) (hi2 : i ≤ 9223372036854775807) (hne : 0 < ts.length → a = some ⟨g, 0, none⟩) (hl : ts.length ≤ 1048576)
    (hst : ∀ i, i < ts.length → (ts.getD i noNod).name.size ≤ maxLen ∧ (ts.getD i noNod).other.size ≤ maxLen) (w : World) (hA : NodAt w g ts) :
    Calls Tryz.prog 40 #[.slice a ts.length cap, .int .i64 i] w fun e w' => TaEnd ts i e ∧ Below w.heap.size w w' := by
  have HI : Hid (Calls Tryz.prog 39 #[.slice a ts.length cap] w fun e w' => TrEnd ts w.heap.size e w' ∧ Below w.heap.size w w') := impl_trees a g cap ts hne hl hst w hA
  clear hA hst
  go_enter Tryz.func40, Tryz.ntmps40
  go_wp2_with fail
  refine HI.out.mono ?_
  rintro e w1 ⟨hend, hb1⟩
  clear HI
  rcases hend with ⟨st, vs, v, h1, h2, hS, hG, hown, rfl⟩ | ⟨hno, rfl⟩
  · have HS : Hid (startsF ts ts.length = some st) := hS
    have HG : Hid (TreesG ts st vs ts.length) := hG
    obtain ⟨a4, g4, c4, rfl, ha4, hT4, hB4, hl4⟩ := ownT_form hown
    rw [hG.lv] at *
    obtain rfl := ha4 (by omega)
    have HT : Hid (TreeAt w1 g4 vs) := hT4
    have HLV : Hid (vs.length = ts.length) := hG.lv
    clear hS hG hown hT4 hl4 ha4
    cases hn : nodesB ts with
    | true =>
      have HN : Hid (nodesB ts = true) := hn
      clear hn
      by_cases hneg : i < 0
      · have HZ : Hid (TaEnd ts i (.returned (.tuple #[.nilIface, .bool false]))) := Or.inr ⟨startB_no (Or.inr (Or.inl hneg)), rfl⟩
        have d1 : decide (i < 0) = true := decide_eq_true hneg
        go_wp2
        go_ret2
        exact ⟨HZ.out, hb1⟩
      · by_cases hbig : (ts.length : Int) ≤ i
        · have HZ : Hid (TaEnd ts i (.returned (.tuple #[.nilIface, .bool false]))) := Or.inr ⟨startB_no (Or.inr (Or.inr hbig)), rfl⟩
          go_wp2
          go_ret2
          exact ⟨HZ.out, hb1⟩
        · obtain ⟨m, rfl⟩ := Int.eq_ofNat_of_zero_le (show 0 ≤ i by omega)
          have hm : m < ts.length := by omega
          have hm' : (m : Int) < ts.length := by omega
          have hc := HT.out m (by rw [HLV.out]; exact hm)
          have HZ : Hid (TaEnd ts m (.returned (.tuple #[vs.getD m .nilIface, .bool true]))) := Or.inl ⟨st, vs, m, rfl, hm, h2, HN.out, HS.out, HG.out, rfl⟩
          obtain ⟨T, u, _, hv, _⟩ := HG.out.b.b m hm
          rw [hv] at hc HZ
          clear hv HT HS HG
          go_wp2
          go_ret2
          exact ⟨HZ.out, hb1⟩
    | false =>
      have HZ : Hid (TaEnd ts i (.returned (.tuple #[.nilIface, .bool false]))) := Or.inr ⟨startB_no (Or.inl hn), rfl⟩
      clear hn HS HG HT
      go_wp2
      go_ret2
      exact ⟨HZ.out, hb1⟩
  · have HZ : Hid (TaEnd ts i (.returned (.tuple #[.nilIface, .bool false]))) := Or.inr ⟨startB_no (Or.inl hno), rfl⟩
    clear hno
    go_wp2
    go_ret2
    exact ⟨HZ.out, hb1⟩
end

section
open Go.ChangeShapes Go.WideShapes Go.ChangeAt Go.RowKit

theorem textN_pos {ts : List Nod} {st : List Nat} (hR : Right ts st) : ∀ (f i : Nat), i < f → i < ts.length → textN ts f i ≠ []
  | 0, i, h, _ => absurd h (by omega)
  | f + 1, i, h, hi => by
    obtain ⟨hF, _⟩ := hR.2 i hi
    show nodeT (textN ts f) (ts.getD i noNod) ≠ []
    unfold nodeT
    by_cases h1 : (ts.getD i noNod).kind = 1
    · rw [if_pos h1]
      have hn := hF.2.2.1.2.1 (by rw [h1]; decide)
      have hw := of_decide_eq_true (Bool.and_eq_true_iff.1 hn).1
      intro e
      have : (ts.getD i noNod).name.data.toList.length = (ts.getD i noNod).name.size := by rw [Array.length_toList]; rfl
      rw [e, List.length_nil] at this
      omega
    by_cases h2 : (ts.getD i noNod).kind = 2
    · rw [if_neg h1, if_pos h2]
      have hn := hF.2.2.2.1 h2
      obtain ⟨u, hu⟩ : ∃ u : Nat, (ts.getD i noNod).n = u := ⟨(ts.getD i noNod).n.toNat, by omega⟩
      rw [hu, itoa_pos]
      intro e
      have := dd_pos u
      rw [e] at this
      simp at this
    by_cases h12 : (ts.getD i noNod).kind = 12
    · rw [if_neg h1, if_neg h2, if_pos h12]
      simp
    rw [if_neg h1, if_neg h2, if_neg h12]
    simp [formT]

theorem pr_start (w : World) (nv : Value) : PrS w.heap.size w.heap.size [] false nv (w.alloc (.cells #[.pointer none, .slice none 0 0, .bool false, nv] 54)) :=
  Or.inl ⟨Nat.le_refl _, _, (MapKept.heap_alloc w _).1, World.ownsRowF_nil _ _ _ _⟩

set_option maxRecDepth 20000 in
theorem impl_print (a : Option Addr) (g cap : Nat) (ts : List Nod) (hne : 0 < ts.length → a = some ⟨g, 0, none⟩) (hl : ts.length ≤ 1048576)
    (hst : ∀ i, i < ts.length → (ts.getD i noNod).name.size ≤ maxLen ∧ (ts.getD i noNod).other.size ≤ maxLen) (w : World) (hp : PowIs w) (hA : NodAt w g ts) :
    Calls Tryz.prog 7 #[.slice a ts.length cap] w fun e w' => e = .returned (.string (printB ts)) ∧ Below w.heap.size w w' := by
  have HA : Hid (NodAt w g ts) := hA
  have HW : Hid (PowIs w) := hp
  have HC : Hid (Calls Tryz.prog 17 #[.slice a ts.length cap] w fun e w' => e = .returned (.bool (nodesB ts)) ∧ Below w.heap.size w w') := impl_nodes a g cap ts hne hl hst w hA
  have hgp : 2 < w.heap.size := var_lt gPow hp
  clear hA hst hp
  cases hn : nodesB ts
  · have HN : Hid (printB ts = ⟨#[]⟩) := by
      show printB ts = _
      unfold printB
      rw [hn]
      rfl
    rw [hn] at HC
    clear hn
    go_enter Tryz.func7, Tryz.ntmps7
    go_wp2_with fail
    refine Calls.mono HC.out ?_
    rintro e w1 ⟨rfl, b1⟩
    go_wp2
    go_ret
    exact ⟨by rw [HN.out]; rfl, b1⟩
  · obtain ⟨l1, l2, st, hR⟩ := nodesB_right hn
    have HN : Hid (printB ts = ⟨(textN ts ts.length (ts.length - 1)).toArray⟩) := by
      show printB ts = _
      unfold printB
      rw [hn]
      rfl
    obtain rfl := hne (by omega)
    have HS : Hid (NodeAt ts g cap ts.length (ts.length - 1)) := pr_node hR g cap ts.length (ts.length - 1) (by omega) (by omega)
    have hlen := textN_len hR ts.length (ts.length - 1) (by omega) (by omega)
    have HP0 : Hid (textN ts ts.length (ts.length - 1) ≠ []) := textN_pos hR ts.length (ts.length - 1) (by omega) (by omega)
    rw [hn] at HC
    have hcast : ((ts.length - 1 : Nat) : Int) = (ts.length : Int) - 1 := by omega
    have hgl := HA.out.lt (by omega)
    clear hn hR
    go_enter Tryz.func7, Tryz.ntmps7
    go_wp2_with fail
    refine Calls.mono HC.out ?_
    rintro e w1 ⟨rfl, b1⟩
    have s1 := b1.size
    obtain ⟨wa, hwa⟩ : ∃ wa, w1.alloc (.cells #[.pointer none, .slice none 0 0, .bool false, .slice (some ⟨g, 0, none⟩) ts.length cap] 54) = wa := ⟨_, rfl⟩
    have HWA : Hid (w1.alloc (.cells #[.pointer none, .slice none 0 0, .bool false, .slice (some ⟨g, 0, none⟩) ts.length cap] 54) = wa) := hwa
    have hPS : PrS w1.heap.size w1.heap.size [] false (.slice (some ⟨g, 0, none⟩) ts.length cap) wa := by rw [← hwa]; exact pr_start w1 _
    have hBA : Below w1.heap.size w1 wa := by rw [← hwa]; exact (Below.refl _ w1).alloc (Nat.le_refl _) _
    have sa : wa.heap.size = w1.heap.size + 1 := by rw [← hwa]; simp
    have BA : Hid (Below w1.heap.size w1 wa) := hBA
    have bA : Below w.heap.size w wa := b1.trans (hBA.mono s1)
    have hS := HS.out w1.heap.size w1.heap.size [] false wa (var?_below bA gPow hgp HW.out) (HA.out.below bA (fun _ => hgl)) (by omega) (by omega) (by omega) hPS (by show 0 + 0 + _ + 100 ≤ _; omega)
    rw [hcast] at hS
    have HS2 : Hid (Calls Tryz.prog 26 #[.pointer (some ⟨w1.heap.size, 0, none⟩), .int .i64 ((ts.length : Int) - 1)] wa _) := hS
    have B1 : Hid (Below w.heap.size w w1) := b1
    clear hS hcast hPS hwa b1 hBA bA HC
    go_wp2_with fail
    rw [HWA.out]
    refine Calls.mono HS2.out ?_
    rintro e w2 ⟨rfl, h2, f2⟩
    have h3 : PrS w1.heap.size w1.heap.size (textN ts ts.length (ts.length - 1)) true (.slice (some ⟨g, 0, none⟩) ts.length cap) w2 := h2
    have HT : Hid (Calls Tryz.prog 27 #[.pointer (some ⟨w1.heap.size, 0, none⟩)] w2 _) := wr_string w1.heap.size w1.heap.size _ true _ w2 h3 HP0.out
    have F2 : Hid (Below w1.heap.size w1 w2) := BA.out.trans f2.bel
    clear h2 f2 h3 HS2
    go_wp2_with fail
    refine Calls.mono HT.out ?_
    rintro e w3 ⟨rfl, b3⟩
    have B3 : Hid (Below w.heap.size w w3) := B1.out.trans ((F2.out.trans b3).mono s1)
    clear b3 HT
    go_wp2
    go_ret
    exact ⟨by rw [HN.out]; rfl, B3.out⟩
end

section
open Go.ChangeShapes Go.WideShapes Go.ChangeAt Go.RowKit

theorem impl_clone (s : ByteArray) (hs : s.size ≤ 281474976710656) (w : World) : Calls Tryz.prog 72 #[.string s] w fun e w' => e = .returned (.string s) ∧ Below w.heap.size w w' := by
  have HI : Hid (Calls Tryz.prog 106 #[.string s] w fun e w' => e = .returned (.string s) ∧ Below w.heap.size w w') := Tryz.stringslite_Clone s w hs
  go_enter Tryz.func72, Tryz.ntmps72
  go_wp2_with fail
  refine HI.out.mono ?_
  rintro e w1 ⟨rfl, hb1⟩
  go_wp2
  go_ret
  exact ⟨rfl, hb1⟩

theorem node_stored {W : World} {g : Nat} {z0 z1 z2 z3 z4 z5 z6 : Value} {t : TypeId} (h : W.heap[g]? = some (.cells #[z0, z1, z2, z3, z4, z5, z6] t (0, 0))) (v0 v1 v2 v3 v4 v5 v6 : Value) :
    (((((((W.setCell ⟨g, 0, none⟩ v0).setCell ⟨g, 1, none⟩ v1).setCell ⟨g, 2, none⟩ v2).setCell ⟨g, 3, none⟩ v3).setCell ⟨g, 4, none⟩ v4).setCell ⟨g, 5, none⟩ v5).setCell ⟨g, 6, none⟩ v6).heap[g]? = some (.cells #[v0, v1, v2, v3, v4, v5, v6] t (0, 0)) := by
  have h0 : (W.setCell ⟨g, 0, none⟩ v0).heap[g]? = some (.cells #[v0, z1, z2, z3, z4, z5, z6] t (0, 0)) := heap_setCell_same W g 0 _ _ v0 h
  have h1 : ((W.setCell ⟨g, 0, none⟩ v0).setCell ⟨g, 1, none⟩ v1).heap[g]? = some (.cells #[v0, v1, z2, z3, z4, z5, z6] t (0, 0)) := heap_setCell_same (W.setCell ⟨g, 0, none⟩ v0) g 1 _ _ v1 h0
  have h2 : (((W.setCell ⟨g, 0, none⟩ v0).setCell ⟨g, 1, none⟩ v1).setCell ⟨g, 2, none⟩ v2).heap[g]? = some (.cells #[v0, v1, v2, z3, z4, z5, z6] t (0, 0)) := heap_setCell_same ((W.setCell ⟨g, 0, none⟩ v0).setCell ⟨g, 1, none⟩ v1) g 2 _ _ v2 h1
  have h3 : ((((W.setCell ⟨g, 0, none⟩ v0).setCell ⟨g, 1, none⟩ v1).setCell ⟨g, 2, none⟩ v2).setCell ⟨g, 3, none⟩ v3).heap[g]? = some (.cells #[v0, v1, v2, v3, z4, z5, z6] t (0, 0)) := heap_setCell_same (((W.setCell ⟨g, 0, none⟩ v0).setCell ⟨g, 1, none⟩ v1).setCell ⟨g, 2, none⟩ v2) g 3 _ _ v3 h2
  have h4 : (((((W.setCell ⟨g, 0, none⟩ v0).setCell ⟨g, 1, none⟩ v1).setCell ⟨g, 2, none⟩ v2).setCell ⟨g, 3, none⟩ v3).setCell ⟨g, 4, none⟩ v4).heap[g]? = some (.cells #[v0, v1, v2, v3, v4, z5, z6] t (0, 0)) := heap_setCell_same ((((W.setCell ⟨g, 0, none⟩ v0).setCell ⟨g, 1, none⟩ v1).setCell ⟨g, 2, none⟩ v2).setCell ⟨g, 3, none⟩ v3) g 4 _ _ v4 h3
  have h5 : ((((((W.setCell ⟨g, 0, none⟩ v0).setCell ⟨g, 1, none⟩ v1).setCell ⟨g, 2, none⟩ v2).setCell ⟨g, 3, none⟩ v3).setCell ⟨g, 4, none⟩ v4).setCell ⟨g, 5, none⟩ v5).heap[g]? = some (.cells #[v0, v1, v2, v3, v4, v5, z6] t (0, 0)) := heap_setCell_same (((((W.setCell ⟨g, 0, none⟩ v0).setCell ⟨g, 1, none⟩ v1).setCell ⟨g, 2, none⟩ v2).setCell ⟨g, 3, none⟩ v3).setCell ⟨g, 4, none⟩ v4) g 5 _ _ v5 h4
  have h6 : (((((((W.setCell ⟨g, 0, none⟩ v0).setCell ⟨g, 1, none⟩ v1).setCell ⟨g, 2, none⟩ v2).setCell ⟨g, 3, none⟩ v3).setCell ⟨g, 4, none⟩ v4).setCell ⟨g, 5, none⟩ v5).setCell ⟨g, 6, none⟩ v6).heap[g]? = some (.cells #[v0, v1, v2, v3, v4, v5, v6] t (0, 0)) := heap_setCell_same ((((((W.setCell ⟨g, 0, none⟩ v0).setCell ⟨g, 1, none⟩ v1).setCell ⟨g, 2, none⟩ v2).setCell ⟨g, 3, none⟩ v3).setCell ⟨g, 4, none⟩ v4).setCell ⟨g, 5, none⟩ v5) g 6 _ _ v6 h5
  exact h6

theorem node_below {B : Nat} {w W : World} {g : Nat} (h : Below B w W) (hg : B ≤ g) (v0 v1 v2 v3 v4 v5 v6 : Value) :
    Below B w (((((((W.setCell ⟨g, 0, none⟩ v0).setCell ⟨g, 1, none⟩ v1).setCell ⟨g, 2, none⟩ v2).setCell ⟨g, 3, none⟩ v3).setCell ⟨g, 4, none⟩ v4).setCell ⟨g, 5, none⟩ v5).setCell ⟨g, 6, none⟩ v6) :=
  ((((((h.setCell (p := ⟨g, 0, none⟩) hg v0).setCell (p := ⟨g, 1, none⟩) hg v1).setCell (p := ⟨g, 2, none⟩) hg v2).setCell (p := ⟨g, 3, none⟩) hg v3).setCell (p := ⟨g, 4, none⟩) hg v4).setCell (p := ⟨g, 5, none⟩) hg v5).setCell (p := ⟨g, 6, none⟩) hg v6

set_option maxHeartbeats 1000000 in
theorem impl_copy (t : Nod) (hs : t.name.size ≤ 281474976710656) (ho : t.other.size ≤ 281474976710656) (w : World) :
    Calls Tryz.prog 172 #[.agg (nodCells t).toArray] w fun e w' => e = .returned (.agg (nodCells t).toArray) ∧ Below w.heap.size w w' := by
  obtain ⟨x0, x1, x2, x3, x4, x5, x6⟩ := t
  have HS : Hid (x5.size ≤ 281474976710656 ∧ x6.size ≤ 281474976710656) := ⟨hs, ho⟩
  clear hs ho
  show Calls Tryz.prog 172 #[.agg #[.int .i64 x0, .int .i64 x1, .int .i64 x2, .int .i64 x3, .int .i64 x4, .string x5, .string x6]] w fun e w' => e = .returned (.agg #[.int .i64 x0, .int .i64 x1, .int .i64 x2, .int .i64 x3, .int .i64 x4, .string x5, .string x6]) ∧ Below w.heap.size w w'
  obtain ⟨W0, hW0⟩ : ∃ W0, (w.alloc (.cells #[.int .i64 x0, .int .i64 x1, .int .i64 x2, .int .i64 x3, .int .i64 x4, .string x5, .string x6] 44)).alloc (.cells #[.int .i64 0, .int .i64 0, .int .i64 0, .int .i64 0, .int .i64 0, .string ⟨#[]⟩, .string ⟨#[]⟩] 44) = W0 := ⟨_, rfl⟩
  have HW0 : Hid ((w.alloc (.cells #[.int .i64 x0, .int .i64 x1, .int .i64 x2, .int .i64 x3, .int .i64 x4, .string x5, .string x6] 44)).alloc (.cells #[.int .i64 0, .int .i64 0, .int .i64 0, .int .i64 0, .int .i64 0, .string ⟨#[]⟩, .string ⟨#[]⟩] 44) = W0) := hW0
  have RA0 : Hid (W0.heap[w.heap.size]? = some (.cells #[.int .i64 x0, .int .i64 x1, .int .i64 x2, .int .i64 x3, .int .i64 x4, .string x5, .string x6] 44 (0, 0))) := by
    rw [← hW0]
    exact ((Below.refl (w.heap.size + 1) (w.alloc (.cells #[.int .i64 x0, .int .i64 x1, .int .i64 x2, .int .i64 x3, .int .i64 x4, .string x5, .string x6] 44))).alloc (by simp) _).block w.heap.size (by omega) |>.trans (MapKept.heap_alloc w _).1
  have RB0 : Hid (W0.heap[w.heap.size + 1]? = some (.cells #[.int .i64 0, .int .i64 0, .int .i64 0, .int .i64 0, .int .i64 0, .string ⟨#[]⟩, .string ⟨#[]⟩] 44 (0, 0))) := by
    have h := (MapKept.heap_alloc (w.alloc (.cells #[.int .i64 x0, .int .i64 x1, .int .i64 x2, .int .i64 x3, .int .i64 x4, .string x5, .string x6] 44)) (.cells #[.int .i64 0, .int .i64 0, .int .i64 0, .int .i64 0, .int .i64 0, .string ⟨#[]⟩, .string ⟨#[]⟩] 44)).1
    rw [hW0] at h
    have e : (w.alloc (.cells #[.int .i64 x0, .int .i64 x1, .int .i64 x2, .int .i64 x3, .int .i64 x4, .string x5, .string x6] 44)).heap.size = w.heap.size + 1 := by simp
    rw [e] at h
    exact h
  have S0 : Hid (W0.heap.size = w.heap.size + 2) := by
    show W0.heap.size = w.heap.size + 2
    rw [← hW0]; simp
  have B0 : Hid (Below w.heap.size w W0) := by rw [← hW0]; exact ((Below.refl _ w).alloc (Nat.le_refl _) _).alloc (by simp) _
  clear hW0
  go_enter Tryz.func172, Tryz.ntmps172
  go_wp2_with fail
  rw [HW0.out]
  refine (impl_clone x5 HS.out.1 W0).mono ?_
  rintro e w1 ⟨rfl, hb1⟩
  have s1 := hb1.size
  rw [S0.out] at s1
  have ra1 := (hb1.block w.heap.size (by rw [S0.out]; omega)).trans RA0.out
  have RA1 : Hid (w1.heap[w.heap.size]? = some (.cells #[.int .i64 x0, .int .i64 x1, .int .i64 x2, .int .i64 x3, .int .i64 x4, .string x5, .string x6] 44 (0, 0))) := ra1
  have RB1 : Hid (w1.heap[w.heap.size + 1]? = some (.cells #[.int .i64 0, .int .i64 0, .int .i64 0, .int .i64 0, .int .i64 0, .string ⟨#[]⟩, .string ⟨#[]⟩] 44 (0, 0))) := (hb1.block (w.heap.size + 1) (by rw [S0.out]; omega)).trans RB0.out
  have B1 : Hid (Below w.heap.size w w1) := B0.out.trans (hb1.mono (by rw [S0.out]; omega))
  obtain ⟨q0, q1, q2, q3, q4, q5, q6⟩ := cells7_of ra1
  have f1 : ∀ o, w1.frozen? ⟨w.heap.size, o, none⟩ = false := fun o => frozen_of_row w1 _ _ _ _ RA1.out
  clear hb1 ra1 HW0 RA0 RB0 B0
  have RA2 : Hid ((w1.setCell ⟨w.heap.size, 5, none⟩ (.string x5)).heap[w.heap.size]? = some (.cells #[.int .i64 x0, .int .i64 x1, .int .i64 x2, .int .i64 x3, .int .i64 x4, .string x5, .string x6] 44 (0, 0))) := heap_setCell_same w1 w.heap.size 5 _ _ (.string x5) RA1.out
  have RB2 : Hid ((w1.setCell ⟨w.heap.size, 5, none⟩ (.string x5)).heap[w.heap.size + 1]? = some (.cells #[.int .i64 0, .int .i64 0, .int .i64 0, .int .i64 0, .int .i64 0, .string ⟨#[]⟩, .string ⟨#[]⟩] 44 (0, 0))) := (heap_setCell_other w1 _ _ _ (by simp)).trans RB1.out
  have B2 : Hid (Below w.heap.size w (w1.setCell ⟨w.heap.size, 5, none⟩ (.string x5))) := B1.out.setCell (p := ⟨w.heap.size, 5, none⟩) (Nat.le_refl _) _
  clear RA1 RB1 B1
  go_wp2_with fail
  refine (impl_clone x6 HS.out.2 _).mono ?_
  rintro e w2 ⟨rfl, hb2⟩
  have l2 : w.heap.size + 1 < (w1.setCell ⟨w.heap.size, 5, none⟩ (.string x5)).heap.size := (Array.getElem?_eq_some_iff.1 RB2.out).1
  have ra3 := (hb2.block w.heap.size (by omega)).trans RA2.out
  have rb3 := (hb2.block (w.heap.size + 1) l2).trans RB2.out
  have B3 : Hid (Below w.heap.size w w2) := B2.out.trans (hb2.mono (by omega))
  have RA3 : Hid (w2.heap[w.heap.size]? = some (.cells #[.int .i64 x0, .int .i64 x1, .int .i64 x2, .int .i64 x3, .int .i64 x4, .string x5, .string x6] 44 (0, 0))) := ra3
  have RB3 : Hid (w2.heap[w.heap.size + 1]? = some (.cells #[.int .i64 0, .int .i64 0, .int .i64 0, .int .i64 0, .int .i64 0, .string ⟨#[]⟩, .string ⟨#[]⟩] 44 (0, 0))) := rb3
  have l3 : w.heap.size + 1 < w2.heap.size := (Array.getElem?_eq_some_iff.1 rb3).1
  clear q0 q1 q2 q3 q4 q5 q6 f1 hb2 RA2 RB2 B2 l2 s1
  obtain ⟨q0, q1, q2, q3, q4, q5, q6⟩ := cells7_of ra3
  obtain ⟨r0, r1, r2, r3, r4, r5, r6⟩ := cells7_of rb3
  have f1 : ∀ o, w2.frozen? ⟨w.heap.size, o, none⟩ = false := fun o => frozen_of_row w2 _ _ _ _ RA3.out
  have f2 : ∀ o, w2.frozen? ⟨w.heap.size + 1, o, none⟩ = false := fun o => frozen_of_row w2 _ _ _ _ RB3.out
  clear ra3 rb3
  have RZ : Hid ((w2.setCell ⟨w.heap.size, 6, none⟩ (.string x6)).heap[w.heap.size + 1]? = some (.cells #[.int .i64 0, .int .i64 0, .int .i64 0, .int .i64 0, .int .i64 0, .string ⟨#[]⟩, .string ⟨#[]⟩] 44 (0, 0))) := (heap_setCell_other w2 _ _ _ (by simp)).trans RB3.out
  have BZ : Hid (Below w.heap.size w (w2.setCell ⟨w.heap.size, 6, none⟩ (.string x6))) := B3.out.setCell (p := ⟨w.heap.size, 6, none⟩) (Nat.le_refl _) _
  clear RA3 RB3 B3
  go_wp2
  refine bodyPost_ret (results_cell_row rfl _ _ (w.heap.size + 1) 44 #[.int .i64 x0, .int .i64 x1, .int .i64 x2, .int .i64 x3, .int .i64 x4, .string x5, .string x6] (0, 0) _ rfl (node_stored RZ.out _ _ _ _ _ _ _) Tryz.underlying44 rfl (by kernel_rfl)) rfl ?_
  exact ⟨rfl, node_below BZ.out (by omega) _ _ _ _ _ _ _⟩
end

section
open Go.ChangeShapes Go.WideShapes Go.ChangeAt Go.RowKit

/-- What a call of lay ends with. -/
def LayEnd (B : Nat) (w : World) (v : Value) (G : List Nod) (e : Ending) (w' : World) : Prop := ∃ v', e = .returned v' ∧ ownNod w' B v' G ∧ Grew w w' v v'

/-- A call of this lay puts these nodes behind those that are there; which they are hangs on how many are there. -/
def LayC (f : FuncId) (x : Value) (S : Nat → List Nod) : Prop := ∀ (out : List Nod) (v : Value) (B : Nat) (w : World), ownNod w B v out → B ≤ w.heap.size → out.length + (S out.length).length ≤ 1000 →
  Calls Tryz.prog f #[x, v] w fun e w' => LayEnd B w v (out ++ S out.length) e w'

/-- A tree that is so laid out. -/
def LayV (v : Value) (S : Nat → List Nod) : Prop := ∃ (T : TypeId) (u : Value) (f : FuncId) (x : Value), v = .iface T u ∧
  (∀ w : World, (nilAhead 311 T u "loop.example/g01292/impl.lay").run Tryz.prog w = .ok (some false) w) ∧
  (∀ w : World, (method 311 T u "loop.example/g01292/impl.lay").run Tryz.prog w = .ok (f, x) w) ∧
  (f = 171 ∨ f = 173 ∨ f = 175 ∨ f = 176) ∧ LayC f x S

theorem LayV.same {v : Value} {S S' : Nat → List Nod} (h : LayV v S) (e : ∀ n, S n = S' n) : LayV v S' := by
  obtain rfl : S = S' := funext e
  exact h

/-- What a call of layKid ends with. -/
def KidEnd (B : Nat) (w : World) (v : Value) (G : List Nod) (e : Ending) (w' : World) : Prop := ∃ v', e = .returned (.tuple #[v', .int .i64 ((G.length : Int) - 1)]) ∧ ownNod w' B v' G ∧ Grew w w' v v'

theorem impl_layKid (x : Value) (S : Nat → List Nod) (hx : LayV x S) (out : List Nod) (v : Value) (B : Nat) (w : World) (hown : ownNod w B v out) (hB : B ≤ w.heap.size) (hlen : out.length + (S out.length).length ≤ 1000) :
    Calls Tryz.prog 174 #[v, x] w fun e w' => KidEnd B w v (out ++ S out.length) e w' := by
  obtain ⟨T, u, f, y, rfl, hn, hm, hf, hc⟩ := hx
  have HC : Hid (Calls Tryz.prog f #[y, v] w fun e w' => LayEnd B w v (out ++ S out.length) e w') := hc out v B w hown hB hlen
  have hGl : (out ++ S out.length).length ≤ 1000 := by rw [List.length_append]; exact hlen
  clear hc hown hB hlen
  generalize out ++ S out.length = G at *
  have hGi : (G.length : Int) ≤ 1000 := by omega
  rcases hf with rfl | rfl | rfl | rfl
  all_goals
    go_enter Tryz.func174, Tryz.ntmps174
    go_wp2_with fail
    refine HC.out.mono ?_
    rintro e w1 ⟨v', rfl, hown', hgr⟩
    have HO : Hid (ownNod w1 B v' G) := hown'
    have HR : Hid (Grew w w1 v v') := hgr
    obtain ⟨a, g, cap, sp, rfl, _⟩ := ownNod_form hown'
    clear hown' hgr
    go_wp2
    go_ret2
    exact ⟨_, rfl, HO.out, HR.out⟩

/-- What stands while a tree is laid out: P holds its cells, N the copy of its node. -/
structure LSt (w : World) (v : Value) (B P N : Nat) (row : Array Value) (tR : TypeId) (nod : Nod) (outs : List Nod) (vx : Value) (wx : World) : Prop where
  grew : Grew w wx v vx
  own : ownNod wx B vx outs
  row : wx.heap[P]? = some (.cells row tR (0, 0))
  nd : wx.heap[N]? = some (.cells (nodCells nod).toArray 44 (0, 0))
  far : ∀ k, vx.ownBlock = some k → k ≠ P ∧ k ≠ N
  pn : P ≠ N
  wp : w.heap.size ≤ P
  wn : w.heap.size ≤ N

theorem LSt.kid {w wx w' : World} {v vx v' : Value} {B P N : Nat} {row : Array Value} {tR : TypeId} {nod : Nod} {outs outs' : List Nod} (h : LSt w v B P N row tR nod outs vx wx) (hown : ownNod w' B v' outs') (hg : Grew wx w' vx v') :
    LSt w v B P N row tR nod outs' v' w' := by
  have hP : P < wx.heap.size := (Array.getElem?_eq_some_iff.1 h.row).1
  have hN : N < wx.heap.size := (Array.getElem?_eq_some_iff.1 h.nd).1
  refine ⟨h.grew.trans hg, hown, ?_, ?_, fun k hk => ?_, h.pn, h.wp, h.wn⟩
  · rw [hg.1.block P hP (fun e => (h.far P e.symm).1 rfl)]; exact h.row
  · rw [hg.1.block N hN (fun e => (h.far N e.symm).2 rfl)]; exact h.nd
  · rcases hg.2 k hk with h1 | h1
    · exact ⟨by omega, by omega⟩
    · exact h.far k h1

theorem LSt.set {w wx : World} {v vx : Value} {B P N : Nat} {row : Array Value} {tR : TypeId} {nod nod' : Nod} {outs : List Nod} (h : LSt w v B P N row tR nod outs vx wx) (i : Nat) (y : Value)
    (hn : ((nodCells nod).toArray).setIfInBounds i y = (nodCells nod').toArray) : LSt w v B P N row tR nod' outs vx (wx.setCell ⟨N, i, none⟩ y) := by
  have hN : N < wx.heap.size := (Array.getElem?_eq_some_iff.1 h.nd).1
  have hs := heap_setCell_same wx N i _ _ y h.nd
  rw [hn] at hs
  have hoth : ∀ k, k ≠ N → (wx.setCell ⟨N, i, none⟩ y).heap[k]? = wx.heap[k]? := fun k hk => heap_setCell_other wx ⟨N, i, none⟩ k y hk
  have hb : Below N wx (wx.setCell ⟨N, i, none⟩ y) := (Below.refl N wx).setCell (p := ⟨N, i, none⟩) (Nat.le_refl _) y
  have h1 := h.grew.1
  refine ⟨⟨⟨hb.os.trans h1.os, hb.tape.trans h1.tape, hb.output.trans h1.output, Nat.le_trans h1.size hb.size, fun k hk hv => ?_⟩, h.grew.2⟩, ownsRow_setCell_other h.own (fun e => (h.far N e).2 rfl) y, ?_, hs, h.far, h.pn, h.wp, h.wn⟩
  · rw [hoth k (by have := h.wn; omega)]
    exact h1.block k hk hv
  · rw [hoth P h.pn]; exact h.row

theorem row_cell {w : World} {g : Nat} {row : Array Value} {t : TypeId} {z : Nat × Nat} (h : w.heap[g]? = some (.cells row t z)) (j : Nat) {x : Value} (hx : row[j]? = some x) : w.cell? ⟨g, j, none⟩ = some x := by
  rw [cell_of_row _ _ _ _ _ _ h]
  exact hx

/-- The last step: the node is put behind. -/
theorem LSt.last {w wx w' : World} {v vx v' : Value} {B P N : Nat} {row : Array Value} {tR : TypeId} {nod : Nod} {outs : List Nod} {m : Nat} {xs : List Value} {o : Obj} (h : LSt w v B P N row tR nod outs vx wx)
    (hown : w'.ownsRow B 44 7 v' m xs) (hm : m = outs.length + 1) (hx : xs = outs.flatMap nodCells ++ nodCells nod) (hg : Grew (wx.alloc o) w' vx v') : LayEnd B w v (outs ++ [nod]) (.returned v') w' :=
  ⟨v', rfl, ownNod_next nod hown hm hx, h.grew.trans ((Grew.of_below ((Below.refl _ wx).alloc (Nat.le_refl _) o)).trans hg)⟩
end

section
open Go.ChangeShapes Go.WideShapes Go.ChangeAt Go.RowKit

/-- The nodes of a tree of 0 kids, behind so many nodes. -/
def seg0 (t : Nod) (n : Nat) : List Nod := [⟨t.kind, t.a, t.b, t.c, t.n, t.name, t.other⟩]

set_option maxHeartbeats 4000000 in
set_option maxRecDepth 20000 in
theorem lay_leaf (t : Nod) (s : Int) (hs : t.name.size ≤ 281474976710656) (ho : t.other.size ≤ 281474976710656) :
    LayC 171 (.agg (spotL t s ++ []).toArray) (seg0 t) := by
  intro out v B w hown hB hlen
  have HB : Hid (B ≤ w.heap.size) := hB
  have HCP : Hid (∀ w : World, Calls Tryz.prog 172 #[.agg (nodCells t).toArray] w fun e w' => e = .returned (.agg (nodCells t).toArray) ∧ Below w.heap.size w w') := impl_copy t hs ho
  obtain ⟨x0, x1, x2, x3, x4, x5, x6⟩ := t
  have HO0 : Hid (ownNod w B v out) := hown
  have HVB : Hid (∀ k, v.ownBlock = some k → k < w.heap.size) := fun k hk => (hown.lt k hk).2
  obtain ⟨G, hG⟩ : ∃ G, out ++ seg0 ⟨x0, x1, x2, x3, x4, x5, x6⟩ out.length = G := ⟨_, rfl⟩
  have HG : Hid (G = out ++ [⟨x0, x1, x2, x3, x4, x5, x6⟩]) := by
    show G = _
    rw [← hG]
    rfl
  have HLN : Hid (G.length ≤ 1000) := by
    show G.length ≤ 1000
    rw [← hG, List.length_append]; exact hlen
  have HLo : Hid (out.length + 1 ≤ 1000) := by
    have h := HLN.out
    rw [HG.out, List.length_append] at h
    show out.length + 1 ≤ 1000
    exact h
  clear hown hlen hB hs ho
  show Calls Tryz.prog 171 #[.agg #[.int .i64 x0, .int .i64 x1, .int .i64 x2, .int .i64 x3, .int .i64 x4, .string x5, .string x6, .int .i64 s], v] w fun e w' => LayEnd B w v (out ++ seg0 ⟨x0, x1, x2, x3, x4, x5, x6⟩ out.length) e w'
  rw [hG]
  clear hG
  have HCN : Hid (∀ w : World, Calls Tryz.prog 172 #[.agg #[.int .i64 x0, .int .i64 x1, .int .i64 x2, .int .i64 x3, .int .i64 x4, .string x5, .string x6]] w fun e w' => e = .returned (.agg #[.int .i64 x0, .int .i64 x1, .int .i64 x2, .int .i64 x3, .int .i64 x4, .string x5, .string x6]) ∧ Below w.heap.size w w') := HCP.out
  clear HCP
  obtain ⟨W0, hW0⟩ : ∃ W0, w.alloc (.cells #[.int .i64 x0, .int .i64 x1, .int .i64 x2, .int .i64 x3, .int .i64 x4, .string x5, .string x6, .int .i64 s] 143) = W0 := ⟨_, rfl⟩
  have HW0 : Hid (w.alloc (.cells #[.int .i64 x0, .int .i64 x1, .int .i64 x2, .int .i64 x3, .int .i64 x4, .string x5, .string x6, .int .i64 s] 143) = W0) := hW0
  have R0 : Hid (W0.heap[w.heap.size]? = some (.cells #[.int .i64 x0, .int .i64 x1, .int .i64 x2, .int .i64 x3, .int .i64 x4, .string x5, .string x6, .int .i64 s] 143 (0, 0))) := by rw [← hW0]; exact (MapKept.heap_alloc w _).1
  have SZ0 : Hid (W0.heap.size = w.heap.size + 1) := by
    show W0.heap.size = w.heap.size + 1
    rw [← hW0]; simp
  have B0 : Hid (Below w.heap.size w W0) := by rw [← hW0]; exact (Below.refl _ w).alloc (Nat.le_refl _) _
  clear hW0
  go_enter Tryz.func171, Tryz.ntmps171
  go_wp2_with fail
  rw [HW0.out]
  refine (HCN.out W0).mono ?_
  rintro e w1 ⟨rfl, hb1⟩
  have hs1 := hb1.size
  rw [SZ0.out] at hs1
  have R1 : Hid (w1.heap[w.heap.size]? = some (.cells #[.int .i64 x0, .int .i64 x1, .int .i64 x2, .int .i64 x3, .int .i64 x4, .string x5, .string x6, .int .i64 s] 143 (0, 0))) := (hb1.block w.heap.size (by rw [SZ0.out]; omega)).trans R0.out
  have B1 : Hid (Below w.heap.size w w1) := B0.out.trans (hb1.mono (by rw [SZ0.out]; omega))
  clear hb1 HW0 R0 B0 HCN SZ0
  have O1 : Hid (ownNod w1 B v out) := ownNod_kept HO0.out B1.out (Nat.le_refl _)
  have GR : Hid (Grew w w1 v v) := Grew.of_below B1.out
  obtain ⟨i0, hi, hz0, hz1, hz2⟩ := info_parts info_nod
  clear HO0 B1 R1
  go_wp2_with (at_builtin; refine wpList_append_at _ rfl _ _ 24 rfl B 44 i0 _ 7 72 Tryz.underlying24 hi hz0 hz1 hz2 rfl (by decide) _ _ _ rfl (O1.out.alloc _) ⟨w1.heap.size, 0, none⟩ 1 1 (nodCells ⟨x0, x1, x2, x3, x4, x5, x6⟩) rfl rfl ?a0 ?b0 ?z0 ?c0 ?d0 ?e0 ?_)
  case a0 => exact nod_new rfl _ _ _ _ _ _ _ _
  case b0 => exact nod_one _
  case z0 => omega
  case c0 => have := HLo.out; unfold maxLen; omega
  case d0 => have := HLo.out; omega
  case e0 => have := HB.out; simp; omega
  intro v' W3 hown' hgrow
  have HE : Hid (LayEnd B w v G (.returned v') W3) := by
    show LayEnd B w v G (.returned v') W3
    rw [HG.out]
    exact ⟨v', rfl, ownNod_next ⟨x0, x1, x2, x3, x4, x5, x6⟩ hown' rfl rfl, GR.out.trans ((Grew.of_below ((Below.refl _ w1).alloc (Nat.le_refl _) _)).trans hgrow)⟩
  clear hown' hgrow
  go_wp2
  go_ret
  exact HE.out

/-- The nodes of a tree of 1 kids, behind so many nodes. -/
def seg1 (t : Nod) (S0 : Nat → List Nod) (n : Nat) : List Nod := S0 n ++ [⟨t.kind, (((n + (S0 n).length) : Nat) : Int) - 1, t.b, t.c, t.n, t.name, t.other⟩]

theorem seg1_at (t : Nod) (S0 : Nat → List Nod) (out : List Nod) : out ++ seg1 t S0 out.length = (out ++ S0 out.length) ++ [⟨t.kind, (((out ++ S0 out.length).length : Int) - 1), t.b, t.c, t.n, t.name, t.other⟩] := by
  simp only [seg1, List.length_append, List.append_assoc]

set_option maxHeartbeats 4000000 in
set_option maxRecDepth 20000 in
theorem lay_one (t : Nod) (s : Int) (hs : t.name.size ≤ 281474976710656) (ho : t.other.size ≤ 281474976710656) {T0 : TypeId} {u0 : Value} {S0 : Nat → List Nod} (h0 : LayV (.iface T0 u0) S0) :
    LayC 173 (.agg (spotL t s ++ [Value.iface T0 u0]).toArray) (seg1 t S0) := by
  intro out v B w hown hB hlen
  have HB : Hid (B ≤ w.heap.size) := hB
  have HCP : Hid (∀ w : World, Calls Tryz.prog 172 #[.agg (nodCells t).toArray] w fun e w' => e = .returned (.agg (nodCells t).toArray) ∧ Below w.heap.size w w') := impl_copy t hs ho
  have HL0 : Hid (LayV (.iface T0 u0) S0) := h0
  obtain ⟨x0, x1, x2, x3, x4, x5, x6⟩ := t
  have HO0 : Hid (ownNod w B v out) := hown
  have HVB : Hid (∀ k, v.ownBlock = some k → k < w.heap.size) := fun k hk => (hown.lt k hk).2
  obtain ⟨G, hG⟩ : ∃ G, out ++ seg1 ⟨x0, x1, x2, x3, x4, x5, x6⟩ S0 out.length = G := ⟨_, rfl⟩
  have HG : Hid (G = (out ++ S0 out.length) ++ [⟨x0, (((out ++ S0 out.length).length : Int) - 1), x2, x3, x4, x5, x6⟩]) := by
    show G = _
    rw [← hG]
    exact seg1_at ⟨x0, x1, x2, x3, x4, x5, x6⟩ S0 out
  have HLN : Hid (G.length ≤ 1000) := by
    show G.length ≤ 1000
    rw [← hG, List.length_append]; exact hlen
  have HL0n : Hid (out.length + (S0 out.length).length ≤ 1000) := by
    have h := HLN.out
    rw [HG.out] at h
    simp only [List.length_append, List.length_cons, List.length_nil] at h
    show out.length + (S0 out.length).length ≤ 1000
    skip
    omega
  have HLo : Hid ((out ++ S0 out.length).length + 1 ≤ 1000) := by
    have h := HLN.out
    rw [HG.out, List.length_append] at h
    show (out ++ S0 out.length).length + 1 ≤ 1000
    exact h
  clear hown hlen hB hs ho h0
  show Calls Tryz.prog 173 #[.agg #[.int .i64 x0, .int .i64 x1, .int .i64 x2, .int .i64 x3, .int .i64 x4, .string x5, .string x6, .int .i64 s, Value.iface T0 u0], v] w fun e w' => LayEnd B w v (out ++ seg1 ⟨x0, x1, x2, x3, x4, x5, x6⟩ S0 out.length) e w'
  rw [hG]
  clear hG
  have HCN : Hid (∀ w : World, Calls Tryz.prog 172 #[.agg #[.int .i64 x0, .int .i64 x1, .int .i64 x2, .int .i64 x3, .int .i64 x4, .string x5, .string x6]] w fun e w' => e = .returned (.agg #[.int .i64 x0, .int .i64 x1, .int .i64 x2, .int .i64 x3, .int .i64 x4, .string x5, .string x6]) ∧ Below w.heap.size w w') := HCP.out
  clear HCP
  obtain ⟨W0, hW0⟩ : ∃ W0, w.alloc (.cells #[.int .i64 x0, .int .i64 x1, .int .i64 x2, .int .i64 x3, .int .i64 x4, .string x5, .string x6, .int .i64 s, Value.iface T0 u0] 145) = W0 := ⟨_, rfl⟩
  have HW0 : Hid (w.alloc (.cells #[.int .i64 x0, .int .i64 x1, .int .i64 x2, .int .i64 x3, .int .i64 x4, .string x5, .string x6, .int .i64 s, Value.iface T0 u0] 145) = W0) := hW0
  have R0 : Hid (W0.heap[w.heap.size]? = some (.cells #[.int .i64 x0, .int .i64 x1, .int .i64 x2, .int .i64 x3, .int .i64 x4, .string x5, .string x6, .int .i64 s, Value.iface T0 u0] 145 (0, 0))) := by rw [← hW0]; exact (MapKept.heap_alloc w _).1
  have SZ0 : Hid (W0.heap.size = w.heap.size + 1) := by
    show W0.heap.size = w.heap.size + 1
    rw [← hW0]; simp
  have B0 : Hid (Below w.heap.size w W0) := by rw [← hW0]; exact (Below.refl _ w).alloc (Nat.le_refl _) _
  clear hW0
  go_enter Tryz.func173, Tryz.ntmps173
  go_wp2_with fail
  rw [HW0.out]
  refine (HCN.out W0).mono ?_
  rintro e w1 ⟨rfl, hb1⟩
  have hs1 := hb1.size
  rw [SZ0.out] at hs1
  have R1 : Hid (w1.heap[w.heap.size]? = some (.cells #[.int .i64 x0, .int .i64 x1, .int .i64 x2, .int .i64 x3, .int .i64 x4, .string x5, .string x6, .int .i64 s, Value.iface T0 u0] 145 (0, 0))) := (hb1.block w.heap.size (by rw [SZ0.out]; omega)).trans R0.out
  have B1 : Hid (Below w.heap.size w w1) := B0.out.trans (hb1.mono (by rw [SZ0.out]; omega))
  clear hb1 HW0 R0 B0 HCN SZ0
  have L0 : Hid (LSt w v B w.heap.size w1.heap.size #[.int .i64 x0, .int .i64 x1, .int .i64 x2, .int .i64 x3, .int .i64 x4, .string x5, .string x6, .int .i64 s, Value.iface T0 u0] 145 ⟨x0, x1, x2, x3, x4, x5, x6⟩ out v (w1.alloc (.cells #[.int .i64 x0, .int .i64 x1, .int .i64 x2, .int .i64 x3, .int .i64 x4, .string x5, .string x6] 44))) := by
    have hb := B1.out.alloc (show w.heap.size ≤ w1.heap.size by omega) (.cells #[.int .i64 x0, .int .i64 x1, .int .i64 x2, .int .i64 x3, .int .i64 x4, .string x5, .string x6] 44)
    refine ⟨Grew.of_below hb, ownNod_kept HO0.out hb (Nat.le_refl _), ?_, (MapKept.heap_alloc w1 _).1, fun k hk => ?_, by omega, Nat.le_refl _, by omega⟩
    · exact (((Below.refl w1.heap.size w1).alloc (Nat.le_refl _) _).block w.heap.size (by omega)).trans R1.out
    · have := HVB.out k hk; exact ⟨by omega, by omega⟩
  have p8 : w1.cell? ⟨w.heap.size, 8, none⟩ = some (Value.iface T0 u0) := row_cell R1.out 8 rfl
  have hsz1 : w.heap.size < w1.heap.size := by omega
  clear R1 B1 HO0
  go_wp2_with fail
  refine (impl_layKid (Value.iface T0 u0) S0 HL0.out out v B _ L0.out.own (by have := HB.out; have := L0.out.grew.1.size; omega) HL0n.out).mono ?_
  rintro e w2 ⟨y0, rfl, hown0, hgr0⟩
  have L1a' := L0.out.kid hown0 hgr0
  have HN0 : Hid (∃ n0 : Int, ((out ++ S0 out.length).length : Int) - 1 = n0) := ⟨_, rfl⟩
  obtain ⟨n0, hn0⟩ := HN0.out
  have HE0 : Hid (((out ++ S0 out.length).length : Int) - 1 = n0) := hn0
  rw [hn0]
  have L1a : Hid (LSt w v B w.heap.size w1.heap.size #[.int .i64 x0, .int .i64 x1, .int .i64 x2, .int .i64 x3, .int .i64 x4, .string x5, .string x6, .int .i64 s, Value.iface T0 u0] 145 ⟨x0, x1, x2, x3, x4, x5, x6⟩ (out ++ S0 out.length) y0 w2) := L1a'
  have L1 : Hid (LSt w v B w.heap.size w1.heap.size #[.int .i64 x0, .int .i64 x1, .int .i64 x2, .int .i64 x3, .int .i64 x4, .string x5, .string x6, .int .i64 s, Value.iface T0 u0] 145 ⟨x0, n0, x2, x3, x4, x5, x6⟩ (out ++ S0 out.length) y0 (w2.setCell ⟨w1.heap.size, 1, none⟩ (.int .i64 n0))) := L1a'.set 1 (.int .i64 n0) rfl
  clear hown0 hgr0 hn0 HN0 L1a' L0 p8
  obtain ⟨q10, q11, q12, q13, q14, q15, q16⟩ := cells7_of L1a.out.nd
  have f1 : ∀ o, w2.frozen? ⟨w1.heap.size, o, none⟩ = false := fun o => frozen_of_row w2 _ _ _ _ L1a.out.nd
  obtain ⟨i0, hi, hz0, hz1, hz2⟩ := info_parts info_nod
  have hszk : (w2.setCell ⟨w1.heap.size, 1, none⟩ (.int .i64 n0)).heap.size = w2.heap.size := by simp
  go_wp2_with (at_builtin; refine wpList_append_at _ rfl _ _ 24 rfl B 44 i0 _ 7 72 Tryz.underlying24 hi hz0 hz1 hz2 rfl (by decide) _ _ _ rfl (L1.out.own.alloc _) ⟨w2.heap.size, 0, none⟩ 1 1 (nodCells ⟨x0, n0, x2, x3, x4, x5, x6⟩) rfl rfl ?a0 ?b0 ?z0 ?c0 ?d0 ?e0 ?_)
  case a0 => exact nod_new (by simp) _ _ _ _ _ _ _ _
  case b0 => exact nod_one _
  case z0 => omega
  case c0 => have := HLo.out; unfold maxLen; omega
  case d0 => have := HLo.out; omega
  case e0 => have := HB.out; have := L1.out.grew.1.size; simp at this ⊢; omega
  intro v' W3 hown' hgrow
  have HE : Hid (LayEnd B w v G (.returned v') W3) := by
    show LayEnd B w v G (.returned v') W3
    rw [HG.out, HE0.out]
    exact L1.out.last hown' (by first | rfl | (simp only [List.length_append]; done) | simp only [List.length_append, Nat.add_assoc]) (by first | rfl | (simp only [List.flatMap_append, List.append_assoc]; done) | simp only [List.flatMap_append, List.append_assoc, List.length_append]) hgrow
  clear hown' hgrow L1 L1a
  go_wp2
  go_ret
  exact HE.out

/-- The nodes of a tree of 2 kids, behind so many nodes. -/
def seg2 (t : Nod) (S0 : Nat → List Nod) (S1 : Nat → List Nod) (n : Nat) : List Nod := S0 n ++ (S1 (n + (S0 n).length) ++ [⟨t.kind, (((n + (S0 n).length) : Nat) : Int) - 1, (((n + (S0 n).length + (S1 (n + (S0 n).length)).length) : Nat) : Int) - 1, t.c, t.n, t.name, t.other⟩])

theorem seg2_at (t : Nod) (S0 : Nat → List Nod) (S1 : Nat → List Nod) (out : List Nod) : out ++ seg2 t S0 S1 out.length = ((out ++ S0 out.length) ++ S1 (out ++ S0 out.length).length) ++ [⟨t.kind, (((out ++ S0 out.length).length : Int) - 1), ((((out ++ S0 out.length) ++ S1 (out ++ S0 out.length).length).length : Int) - 1), t.c, t.n, t.name, t.other⟩] := by
  simp only [seg2, List.length_append, List.append_assoc, Nat.add_assoc]

set_option maxHeartbeats 4000000 in
set_option maxRecDepth 20000 in
theorem lay_two (t : Nod) (s : Int) (hs : t.name.size ≤ 281474976710656) (ho : t.other.size ≤ 281474976710656) {T0 T1 : TypeId} {u0 u1 : Value} {S0 S1 : Nat → List Nod} (h0 : LayV (.iface T0 u0) S0) (h1 : LayV (.iface T1 u1) S1) :
    LayC 175 (.agg (spotL t s ++ [Value.iface T0 u0, Value.iface T1 u1]).toArray) (seg2 t S0 S1) := by
  intro out v B w hown hB hlen
  have HB : Hid (B ≤ w.heap.size) := hB
  have HCP : Hid (∀ w : World, Calls Tryz.prog 172 #[.agg (nodCells t).toArray] w fun e w' => e = .returned (.agg (nodCells t).toArray) ∧ Below w.heap.size w w') := impl_copy t hs ho
  have HL0 : Hid (LayV (.iface T0 u0) S0) := h0
  have HL1 : Hid (LayV (.iface T1 u1) S1) := h1
  obtain ⟨x0, x1, x2, x3, x4, x5, x6⟩ := t
  have HO0 : Hid (ownNod w B v out) := hown
  have HVB : Hid (∀ k, v.ownBlock = some k → k < w.heap.size) := fun k hk => (hown.lt k hk).2
  obtain ⟨G, hG⟩ : ∃ G, out ++ seg2 ⟨x0, x1, x2, x3, x4, x5, x6⟩ S0 S1 out.length = G := ⟨_, rfl⟩
  have HG : Hid (G = ((out ++ S0 out.length) ++ S1 (out ++ S0 out.length).length) ++ [⟨x0, (((out ++ S0 out.length).length : Int) - 1), ((((out ++ S0 out.length) ++ S1 (out ++ S0 out.length).length).length : Int) - 1), x3, x4, x5, x6⟩]) := by
    show G = _
    rw [← hG]
    exact seg2_at ⟨x0, x1, x2, x3, x4, x5, x6⟩ S0 S1 out
  have HLN : Hid (G.length ≤ 1000) := by
    show G.length ≤ 1000
    rw [← hG, List.length_append]; exact hlen
  have HL0n : Hid (out.length + (S0 out.length).length ≤ 1000) := by
    have h := HLN.out
    rw [HG.out] at h
    simp only [List.length_append, List.length_cons, List.length_nil] at h
    show out.length + (S0 out.length).length ≤ 1000
    skip
    omega
  have HL1n : Hid ((out ++ S0 out.length).length + (S1 (out ++ S0 out.length).length).length ≤ 1000) := by
    have h := HLN.out
    rw [HG.out] at h
    simp only [List.length_append, List.length_cons, List.length_nil] at h
    show (out ++ S0 out.length).length + (S1 (out ++ S0 out.length).length).length ≤ 1000
    simp only [List.length_append]
    omega
  have HLo : Hid (((out ++ S0 out.length) ++ S1 (out ++ S0 out.length).length).length + 1 ≤ 1000) := by
    have h := HLN.out
    rw [HG.out, List.length_append] at h
    show ((out ++ S0 out.length) ++ S1 (out ++ S0 out.length).length).length + 1 ≤ 1000
    exact h
  clear hown hlen hB hs ho h0 h1
  show Calls Tryz.prog 175 #[.agg #[.int .i64 x0, .int .i64 x1, .int .i64 x2, .int .i64 x3, .int .i64 x4, .string x5, .string x6, .int .i64 s, Value.iface T0 u0, Value.iface T1 u1], v] w fun e w' => LayEnd B w v (out ++ seg2 ⟨x0, x1, x2, x3, x4, x5, x6⟩ S0 S1 out.length) e w'
  rw [hG]
  clear hG
  have HCN : Hid (∀ w : World, Calls Tryz.prog 172 #[.agg #[.int .i64 x0, .int .i64 x1, .int .i64 x2, .int .i64 x3, .int .i64 x4, .string x5, .string x6]] w fun e w' => e = .returned (.agg #[.int .i64 x0, .int .i64 x1, .int .i64 x2, .int .i64 x3, .int .i64 x4, .string x5, .string x6]) ∧ Below w.heap.size w w') := HCP.out
  clear HCP
  obtain ⟨W0, hW0⟩ : ∃ W0, w.alloc (.cells #[.int .i64 x0, .int .i64 x1, .int .i64 x2, .int .i64 x3, .int .i64 x4, .string x5, .string x6, .int .i64 s, Value.iface T0 u0, Value.iface T1 u1] 147) = W0 := ⟨_, rfl⟩
  have HW0 : Hid (w.alloc (.cells #[.int .i64 x0, .int .i64 x1, .int .i64 x2, .int .i64 x3, .int .i64 x4, .string x5, .string x6, .int .i64 s, Value.iface T0 u0, Value.iface T1 u1] 147) = W0) := hW0
  have R0 : Hid (W0.heap[w.heap.size]? = some (.cells #[.int .i64 x0, .int .i64 x1, .int .i64 x2, .int .i64 x3, .int .i64 x4, .string x5, .string x6, .int .i64 s, Value.iface T0 u0, Value.iface T1 u1] 147 (0, 0))) := by rw [← hW0]; exact (MapKept.heap_alloc w _).1
  have SZ0 : Hid (W0.heap.size = w.heap.size + 1) := by
    show W0.heap.size = w.heap.size + 1
    rw [← hW0]; simp
  have B0 : Hid (Below w.heap.size w W0) := by rw [← hW0]; exact (Below.refl _ w).alloc (Nat.le_refl _) _
  clear hW0
  go_enter Tryz.func175, Tryz.ntmps175
  go_wp2_with fail
  rw [HW0.out]
  refine (HCN.out W0).mono ?_
  rintro e w1 ⟨rfl, hb1⟩
  have hs1 := hb1.size
  rw [SZ0.out] at hs1
  have R1 : Hid (w1.heap[w.heap.size]? = some (.cells #[.int .i64 x0, .int .i64 x1, .int .i64 x2, .int .i64 x3, .int .i64 x4, .string x5, .string x6, .int .i64 s, Value.iface T0 u0, Value.iface T1 u1] 147 (0, 0))) := (hb1.block w.heap.size (by rw [SZ0.out]; omega)).trans R0.out
  have B1 : Hid (Below w.heap.size w w1) := B0.out.trans (hb1.mono (by rw [SZ0.out]; omega))
  clear hb1 HW0 R0 B0 HCN SZ0
  have L0 : Hid (LSt w v B w.heap.size w1.heap.size #[.int .i64 x0, .int .i64 x1, .int .i64 x2, .int .i64 x3, .int .i64 x4, .string x5, .string x6, .int .i64 s, Value.iface T0 u0, Value.iface T1 u1] 147 ⟨x0, x1, x2, x3, x4, x5, x6⟩ out v (w1.alloc (.cells #[.int .i64 x0, .int .i64 x1, .int .i64 x2, .int .i64 x3, .int .i64 x4, .string x5, .string x6] 44))) := by
    have hb := B1.out.alloc (show w.heap.size ≤ w1.heap.size by omega) (.cells #[.int .i64 x0, .int .i64 x1, .int .i64 x2, .int .i64 x3, .int .i64 x4, .string x5, .string x6] 44)
    refine ⟨Grew.of_below hb, ownNod_kept HO0.out hb (Nat.le_refl _), ?_, (MapKept.heap_alloc w1 _).1, fun k hk => ?_, by omega, Nat.le_refl _, by omega⟩
    · exact (((Below.refl w1.heap.size w1).alloc (Nat.le_refl _) _).block w.heap.size (by omega)).trans R1.out
    · have := HVB.out k hk; exact ⟨by omega, by omega⟩
  have p8 : w1.cell? ⟨w.heap.size, 8, none⟩ = some (Value.iface T0 u0) := row_cell R1.out 8 rfl
  have hsz1 : w.heap.size < w1.heap.size := by omega
  clear R1 B1 HO0
  go_wp2_with fail
  refine (impl_layKid (Value.iface T0 u0) S0 HL0.out out v B _ L0.out.own (by have := HB.out; have := L0.out.grew.1.size; omega) HL0n.out).mono ?_
  rintro e w2 ⟨y0, rfl, hown0, hgr0⟩
  have L1a' := L0.out.kid hown0 hgr0
  have HN0 : Hid (∃ n0 : Int, ((out ++ S0 out.length).length : Int) - 1 = n0) := ⟨_, rfl⟩
  obtain ⟨n0, hn0⟩ := HN0.out
  have HE0 : Hid (((out ++ S0 out.length).length : Int) - 1 = n0) := hn0
  rw [hn0]
  have L1a : Hid (LSt w v B w.heap.size w1.heap.size #[.int .i64 x0, .int .i64 x1, .int .i64 x2, .int .i64 x3, .int .i64 x4, .string x5, .string x6, .int .i64 s, Value.iface T0 u0, Value.iface T1 u1] 147 ⟨x0, x1, x2, x3, x4, x5, x6⟩ (out ++ S0 out.length) y0 w2) := L1a'
  have L1 : Hid (LSt w v B w.heap.size w1.heap.size #[.int .i64 x0, .int .i64 x1, .int .i64 x2, .int .i64 x3, .int .i64 x4, .string x5, .string x6, .int .i64 s, Value.iface T0 u0, Value.iface T1 u1] 147 ⟨x0, n0, x2, x3, x4, x5, x6⟩ (out ++ S0 out.length) y0 (w2.setCell ⟨w1.heap.size, 1, none⟩ (.int .i64 n0))) := L1a'.set 1 (.int .i64 n0) rfl
  clear hown0 hgr0 hn0 HN0 L1a' L0 p8
  obtain ⟨q10, q11, q12, q13, q14, q15, q16⟩ := cells7_of L1a.out.nd
  have f1 : ∀ o, w2.frozen? ⟨w1.heap.size, o, none⟩ = false := fun o => frozen_of_row w2 _ _ _ _ L1a.out.nd
  have p9 : w2.cell? ⟨w.heap.size, 9, none⟩ = some (Value.iface T1 u1) := row_cell L1a.out.row 9 rfl
  go_wp2_with fail
  refine (impl_layKid (Value.iface T1 u1) S1 HL1.out (out ++ S0 out.length) y0 B _ L1.out.own (by have := HB.out; have := L1.out.grew.1.size; omega) HL1n.out).mono ?_
  rintro e w3 ⟨y1, rfl, hown1, hgr1⟩
  have L2a' := L1.out.kid hown1 hgr1
  have HN1 : Hid (∃ n1 : Int, (((out ++ S0 out.length) ++ S1 (out ++ S0 out.length).length).length : Int) - 1 = n1) := ⟨_, rfl⟩
  obtain ⟨n1, hn1⟩ := HN1.out
  have HE1 : Hid ((((out ++ S0 out.length) ++ S1 (out ++ S0 out.length).length).length : Int) - 1 = n1) := hn1
  rw [hn1]
  have L2a : Hid (LSt w v B w.heap.size w1.heap.size #[.int .i64 x0, .int .i64 x1, .int .i64 x2, .int .i64 x3, .int .i64 x4, .string x5, .string x6, .int .i64 s, Value.iface T0 u0, Value.iface T1 u1] 147 ⟨x0, n0, x2, x3, x4, x5, x6⟩ ((out ++ S0 out.length) ++ S1 (out ++ S0 out.length).length) y1 w3) := L2a'
  have L2 : Hid (LSt w v B w.heap.size w1.heap.size #[.int .i64 x0, .int .i64 x1, .int .i64 x2, .int .i64 x3, .int .i64 x4, .string x5, .string x6, .int .i64 s, Value.iface T0 u0, Value.iface T1 u1] 147 ⟨x0, n0, n1, x3, x4, x5, x6⟩ ((out ++ S0 out.length) ++ S1 (out ++ S0 out.length).length) y1 (w3.setCell ⟨w1.heap.size, 2, none⟩ (.int .i64 n1))) := L2a'.set 2 (.int .i64 n1) rfl
  clear hown1 hgr1 hn1 HN1 L2a' L1 p9 q10 q11 q12 q13 q14 q15 q16 f1 L1a
  obtain ⟨q20, q21, q22, q23, q24, q25, q26⟩ := cells7_of L2a.out.nd
  have f2 : ∀ o, w3.frozen? ⟨w1.heap.size, o, none⟩ = false := fun o => frozen_of_row w3 _ _ _ _ L2a.out.nd
  obtain ⟨i0, hi, hz0, hz1, hz2⟩ := info_parts info_nod
  have hszk : (w3.setCell ⟨w1.heap.size, 2, none⟩ (.int .i64 n1)).heap.size = w3.heap.size := by simp
  go_wp2_with (at_builtin; refine wpList_append_at _ rfl _ _ 24 rfl B 44 i0 _ 7 72 Tryz.underlying24 hi hz0 hz1 hz2 rfl (by decide) _ _ _ rfl (L2.out.own.alloc _) ⟨w3.heap.size, 0, none⟩ 1 1 (nodCells ⟨x0, n0, n1, x3, x4, x5, x6⟩) rfl rfl ?a0 ?b0 ?z0 ?c0 ?d0 ?e0 ?_)
  case a0 => exact nod_new (by simp) _ _ _ _ _ _ _ _
  case b0 => exact nod_one _
  case z0 => omega
  case c0 => have := HLo.out; unfold maxLen; omega
  case d0 => have := HLo.out; omega
  case e0 => have := HB.out; have := L2.out.grew.1.size; simp at this ⊢; omega
  intro v' W3 hown' hgrow
  have HE : Hid (LayEnd B w v G (.returned v') W3) := by
    show LayEnd B w v G (.returned v') W3
    rw [HG.out, HE0.out, HE1.out]
    exact L2.out.last hown' (by first | rfl | (simp only [List.length_append]; done) | simp only [List.length_append, Nat.add_assoc]) (by first | rfl | (simp only [List.flatMap_append, List.append_assoc]; done) | simp only [List.flatMap_append, List.append_assoc, List.length_append]) hgrow
  clear hown' hgrow L2 L2a
  go_wp2
  go_ret
  exact HE.out

/-- The nodes of a tree of 3 kids, behind so many nodes. -/
def seg3 (t : Nod) (S0 : Nat → List Nod) (S1 : Nat → List Nod) (S2 : Nat → List Nod) (n : Nat) : List Nod := S0 n ++ (S1 (n + (S0 n).length) ++ (S2 (n + (S0 n).length + (S1 (n + (S0 n).length)).length) ++ [⟨t.kind, (((n + (S0 n).length) : Nat) : Int) - 1, (((n + (S0 n).length + (S1 (n + (S0 n).length)).length) : Nat) : Int) - 1, (((n + (S0 n).length + (S1 (n + (S0 n).length)).length + (S2 (n + (S0 n).length + (S1 (n + (S0 n).length)).length)).length) : Nat) : Int) - 1, t.n, t.name, t.other⟩]))

theorem seg3_at (t : Nod) (S0 : Nat → List Nod) (S1 : Nat → List Nod) (S2 : Nat → List Nod) (out : List Nod) : out ++ seg3 t S0 S1 S2 out.length = (((out ++ S0 out.length) ++ S1 (out ++ S0 out.length).length) ++ S2 ((out ++ S0 out.length) ++ S1 (out ++ S0 out.length).length).length) ++ [⟨t.kind, (((out ++ S0 out.length).length : Int) - 1), ((((out ++ S0 out.length) ++ S1 (out ++ S0 out.length).length).length : Int) - 1), (((((out ++ S0 out.length) ++ S1 (out ++ S0 out.length).length) ++ S2 ((out ++ S0 out.length) ++ S1 (out ++ S0 out.length).length).length).length : Int) - 1), t.n, t.name, t.other⟩] := by
  simp only [seg3, List.length_append, List.append_assoc, Nat.add_assoc]

set_option maxHeartbeats 4000000 in
set_option maxRecDepth 20000 in
theorem lay_three (t : Nod) (s : Int) (hs : t.name.size ≤ 281474976710656) (ho : t.other.size ≤ 281474976710656) {T0 T1 T2 : TypeId} {u0 u1 u2 : Value} {S0 S1 S2 : Nat → List Nod} (h0 : LayV (.iface T0 u0) S0) (h1 : LayV (.iface T1 u1) S1) (h2 : LayV (.iface T2 u2) S2) :
    LayC 176 (.agg (spotL t s ++ [Value.iface T0 u0, Value.iface T1 u1, Value.iface T2 u2]).toArray) (seg3 t S0 S1 S2) := by
  intro out v B w hown hB hlen
  have HB : Hid (B ≤ w.heap.size) := hB
  have HCP : Hid (∀ w : World, Calls Tryz.prog 172 #[.agg (nodCells t).toArray] w fun e w' => e = .returned (.agg (nodCells t).toArray) ∧ Below w.heap.size w w') := impl_copy t hs ho
  have HL0 : Hid (LayV (.iface T0 u0) S0) := h0
  have HL1 : Hid (LayV (.iface T1 u1) S1) := h1
  have HL2 : Hid (LayV (.iface T2 u2) S2) := h2
  obtain ⟨x0, x1, x2, x3, x4, x5, x6⟩ := t
  have HO0 : Hid (ownNod w B v out) := hown
  have HVB : Hid (∀ k, v.ownBlock = some k → k < w.heap.size) := fun k hk => (hown.lt k hk).2
  obtain ⟨G, hG⟩ : ∃ G, out ++ seg3 ⟨x0, x1, x2, x3, x4, x5, x6⟩ S0 S1 S2 out.length = G := ⟨_, rfl⟩
  have HG : Hid (G = (((out ++ S0 out.length) ++ S1 (out ++ S0 out.length).length) ++ S2 ((out ++ S0 out.length) ++ S1 (out ++ S0 out.length).length).length) ++ [⟨x0, (((out ++ S0 out.length).length : Int) - 1), ((((out ++ S0 out.length) ++ S1 (out ++ S0 out.length).length).length : Int) - 1), (((((out ++ S0 out.length) ++ S1 (out ++ S0 out.length).length) ++ S2 ((out ++ S0 out.length) ++ S1 (out ++ S0 out.length).length).length).length : Int) - 1), x4, x5, x6⟩]) := by
    show G = _
    rw [← hG]
    exact seg3_at ⟨x0, x1, x2, x3, x4, x5, x6⟩ S0 S1 S2 out
  have HLN : Hid (G.length ≤ 1000) := by
    show G.length ≤ 1000
    rw [← hG, List.length_append]; exact hlen
  have HL0n : Hid (out.length + (S0 out.length).length ≤ 1000) := by
    have h := HLN.out
    rw [HG.out] at h
    simp only [List.length_append, List.length_cons, List.length_nil] at h
    show out.length + (S0 out.length).length ≤ 1000
    skip
    omega
  have HL1n : Hid ((out ++ S0 out.length).length + (S1 (out ++ S0 out.length).length).length ≤ 1000) := by
    have h := HLN.out
    rw [HG.out] at h
    simp only [List.length_append, List.length_cons, List.length_nil] at h
    show (out ++ S0 out.length).length + (S1 (out ++ S0 out.length).length).length ≤ 1000
    simp only [List.length_append]
    omega
  have HL2n : Hid (((out ++ S0 out.length) ++ S1 (out ++ S0 out.length).length).length + (S2 ((out ++ S0 out.length) ++ S1 (out ++ S0 out.length).length).length).length ≤ 1000) := by
    have h := HLN.out
    rw [HG.out] at h
    simp only [List.length_append, List.length_cons, List.length_nil] at h
    show ((out ++ S0 out.length) ++ S1 (out ++ S0 out.length).length).length + (S2 ((out ++ S0 out.length) ++ S1 (out ++ S0 out.length).length).length).length ≤ 1000
    simp only [List.length_append]
    omega
  have HLo : Hid ((((out ++ S0 out.length) ++ S1 (out ++ S0 out.length).length) ++ S2 ((out ++ S0 out.length) ++ S1 (out ++ S0 out.length).length).length).length + 1 ≤ 1000) := by
    have h := HLN.out
    rw [HG.out, List.length_append] at h
    show (((out ++ S0 out.length) ++ S1 (out ++ S0 out.length).length) ++ S2 ((out ++ S0 out.length) ++ S1 (out ++ S0 out.length).length).length).length + 1 ≤ 1000
    exact h
  clear hown hlen hB hs ho h0 h1 h2
  show Calls Tryz.prog 176 #[.agg #[.int .i64 x0, .int .i64 x1, .int .i64 x2, .int .i64 x3, .int .i64 x4, .string x5, .string x6, .int .i64 s, Value.iface T0 u0, Value.iface T1 u1, Value.iface T2 u2], v] w fun e w' => LayEnd B w v (out ++ seg3 ⟨x0, x1, x2, x3, x4, x5, x6⟩ S0 S1 S2 out.length) e w'
  rw [hG]
  clear hG
  have HCN : Hid (∀ w : World, Calls Tryz.prog 172 #[.agg #[.int .i64 x0, .int .i64 x1, .int .i64 x2, .int .i64 x3, .int .i64 x4, .string x5, .string x6]] w fun e w' => e = .returned (.agg #[.int .i64 x0, .int .i64 x1, .int .i64 x2, .int .i64 x3, .int .i64 x4, .string x5, .string x6]) ∧ Below w.heap.size w w') := HCP.out
  clear HCP
  obtain ⟨W0, hW0⟩ : ∃ W0, w.alloc (.cells #[.int .i64 x0, .int .i64 x1, .int .i64 x2, .int .i64 x3, .int .i64 x4, .string x5, .string x6, .int .i64 s, Value.iface T0 u0, Value.iface T1 u1, Value.iface T2 u2] 149) = W0 := ⟨_, rfl⟩
  have HW0 : Hid (w.alloc (.cells #[.int .i64 x0, .int .i64 x1, .int .i64 x2, .int .i64 x3, .int .i64 x4, .string x5, .string x6, .int .i64 s, Value.iface T0 u0, Value.iface T1 u1, Value.iface T2 u2] 149) = W0) := hW0
  have R0 : Hid (W0.heap[w.heap.size]? = some (.cells #[.int .i64 x0, .int .i64 x1, .int .i64 x2, .int .i64 x3, .int .i64 x4, .string x5, .string x6, .int .i64 s, Value.iface T0 u0, Value.iface T1 u1, Value.iface T2 u2] 149 (0, 0))) := by rw [← hW0]; exact (MapKept.heap_alloc w _).1
  have SZ0 : Hid (W0.heap.size = w.heap.size + 1) := by
    show W0.heap.size = w.heap.size + 1
    rw [← hW0]; simp
  have B0 : Hid (Below w.heap.size w W0) := by rw [← hW0]; exact (Below.refl _ w).alloc (Nat.le_refl _) _
  clear hW0
  go_enter Tryz.func176, Tryz.ntmps176
  go_wp2_with fail
  rw [HW0.out]
  refine (HCN.out W0).mono ?_
  rintro e w1 ⟨rfl, hb1⟩
  have hs1 := hb1.size
  rw [SZ0.out] at hs1
  have R1 : Hid (w1.heap[w.heap.size]? = some (.cells #[.int .i64 x0, .int .i64 x1, .int .i64 x2, .int .i64 x3, .int .i64 x4, .string x5, .string x6, .int .i64 s, Value.iface T0 u0, Value.iface T1 u1, Value.iface T2 u2] 149 (0, 0))) := (hb1.block w.heap.size (by rw [SZ0.out]; omega)).trans R0.out
  have B1 : Hid (Below w.heap.size w w1) := B0.out.trans (hb1.mono (by rw [SZ0.out]; omega))
  clear hb1 HW0 R0 B0 HCN SZ0
  have L0 : Hid (LSt w v B w.heap.size w1.heap.size #[.int .i64 x0, .int .i64 x1, .int .i64 x2, .int .i64 x3, .int .i64 x4, .string x5, .string x6, .int .i64 s, Value.iface T0 u0, Value.iface T1 u1, Value.iface T2 u2] 149 ⟨x0, x1, x2, x3, x4, x5, x6⟩ out v (w1.alloc (.cells #[.int .i64 x0, .int .i64 x1, .int .i64 x2, .int .i64 x3, .int .i64 x4, .string x5, .string x6] 44))) := by
    have hb := B1.out.alloc (show w.heap.size ≤ w1.heap.size by omega) (.cells #[.int .i64 x0, .int .i64 x1, .int .i64 x2, .int .i64 x3, .int .i64 x4, .string x5, .string x6] 44)
    refine ⟨Grew.of_below hb, ownNod_kept HO0.out hb (Nat.le_refl _), ?_, (MapKept.heap_alloc w1 _).1, fun k hk => ?_, by omega, Nat.le_refl _, by omega⟩
    · exact (((Below.refl w1.heap.size w1).alloc (Nat.le_refl _) _).block w.heap.size (by omega)).trans R1.out
    · have := HVB.out k hk; exact ⟨by omega, by omega⟩
  have p8 : w1.cell? ⟨w.heap.size, 8, none⟩ = some (Value.iface T0 u0) := row_cell R1.out 8 rfl
  have hsz1 : w.heap.size < w1.heap.size := by omega
  clear R1 B1 HO0
  go_wp2_with fail
  refine (impl_layKid (Value.iface T0 u0) S0 HL0.out out v B _ L0.out.own (by have := HB.out; have := L0.out.grew.1.size; omega) HL0n.out).mono ?_
  rintro e w2 ⟨y0, rfl, hown0, hgr0⟩
  have L1a' := L0.out.kid hown0 hgr0
  have HN0 : Hid (∃ n0 : Int, ((out ++ S0 out.length).length : Int) - 1 = n0) := ⟨_, rfl⟩
  obtain ⟨n0, hn0⟩ := HN0.out
  have HE0 : Hid (((out ++ S0 out.length).length : Int) - 1 = n0) := hn0
  rw [hn0]
  have L1a : Hid (LSt w v B w.heap.size w1.heap.size #[.int .i64 x0, .int .i64 x1, .int .i64 x2, .int .i64 x3, .int .i64 x4, .string x5, .string x6, .int .i64 s, Value.iface T0 u0, Value.iface T1 u1, Value.iface T2 u2] 149 ⟨x0, x1, x2, x3, x4, x5, x6⟩ (out ++ S0 out.length) y0 w2) := L1a'
  have L1 : Hid (LSt w v B w.heap.size w1.heap.size #[.int .i64 x0, .int .i64 x1, .int .i64 x2, .int .i64 x3, .int .i64 x4, .string x5, .string x6, .int .i64 s, Value.iface T0 u0, Value.iface T1 u1, Value.iface T2 u2] 149 ⟨x0, n0, x2, x3, x4, x5, x6⟩ (out ++ S0 out.length) y0 (w2.setCell ⟨w1.heap.size, 1, none⟩ (.int .i64 n0))) := L1a'.set 1 (.int .i64 n0) rfl
  clear hown0 hgr0 hn0 HN0 L1a' L0 p8
  obtain ⟨q10, q11, q12, q13, q14, q15, q16⟩ := cells7_of L1a.out.nd
  have f1 : ∀ o, w2.frozen? ⟨w1.heap.size, o, none⟩ = false := fun o => frozen_of_row w2 _ _ _ _ L1a.out.nd
  have p9 : w2.cell? ⟨w.heap.size, 9, none⟩ = some (Value.iface T1 u1) := row_cell L1a.out.row 9 rfl
  go_wp2_with fail
  refine (impl_layKid (Value.iface T1 u1) S1 HL1.out (out ++ S0 out.length) y0 B _ L1.out.own (by have := HB.out; have := L1.out.grew.1.size; omega) HL1n.out).mono ?_
  rintro e w3 ⟨y1, rfl, hown1, hgr1⟩
  have L2a' := L1.out.kid hown1 hgr1
  have HN1 : Hid (∃ n1 : Int, (((out ++ S0 out.length) ++ S1 (out ++ S0 out.length).length).length : Int) - 1 = n1) := ⟨_, rfl⟩
  obtain ⟨n1, hn1⟩ := HN1.out
  have HE1 : Hid ((((out ++ S0 out.length) ++ S1 (out ++ S0 out.length).length).length : Int) - 1 = n1) := hn1
  rw [hn1]
  have L2a : Hid (LSt w v B w.heap.size w1.heap.size #[.int .i64 x0, .int .i64 x1, .int .i64 x2, .int .i64 x3, .int .i64 x4, .string x5, .string x6, .int .i64 s, Value.iface T0 u0, Value.iface T1 u1, Value.iface T2 u2] 149 ⟨x0, n0, x2, x3, x4, x5, x6⟩ ((out ++ S0 out.length) ++ S1 (out ++ S0 out.length).length) y1 w3) := L2a'
  have L2 : Hid (LSt w v B w.heap.size w1.heap.size #[.int .i64 x0, .int .i64 x1, .int .i64 x2, .int .i64 x3, .int .i64 x4, .string x5, .string x6, .int .i64 s, Value.iface T0 u0, Value.iface T1 u1, Value.iface T2 u2] 149 ⟨x0, n0, n1, x3, x4, x5, x6⟩ ((out ++ S0 out.length) ++ S1 (out ++ S0 out.length).length) y1 (w3.setCell ⟨w1.heap.size, 2, none⟩ (.int .i64 n1))) := L2a'.set 2 (.int .i64 n1) rfl
  clear hown1 hgr1 hn1 HN1 L2a' L1 p9 q10 q11 q12 q13 q14 q15 q16 f1 L1a
  obtain ⟨q20, q21, q22, q23, q24, q25, q26⟩ := cells7_of L2a.out.nd
  have f2 : ∀ o, w3.frozen? ⟨w1.heap.size, o, none⟩ = false := fun o => frozen_of_row w3 _ _ _ _ L2a.out.nd
  have p10 : w3.cell? ⟨w.heap.size, 10, none⟩ = some (Value.iface T2 u2) := row_cell L2a.out.row 10 rfl
  go_wp2_with fail
  refine (impl_layKid (Value.iface T2 u2) S2 HL2.out ((out ++ S0 out.length) ++ S1 (out ++ S0 out.length).length) y1 B _ L2.out.own (by have := HB.out; have := L2.out.grew.1.size; omega) HL2n.out).mono ?_
  rintro e w4 ⟨y2, rfl, hown2, hgr2⟩
  have L3a' := L2.out.kid hown2 hgr2
  have HN2 : Hid (∃ n2 : Int, ((((out ++ S0 out.length) ++ S1 (out ++ S0 out.length).length) ++ S2 ((out ++ S0 out.length) ++ S1 (out ++ S0 out.length).length).length).length : Int) - 1 = n2) := ⟨_, rfl⟩
  obtain ⟨n2, hn2⟩ := HN2.out
  have HE2 : Hid (((((out ++ S0 out.length) ++ S1 (out ++ S0 out.length).length) ++ S2 ((out ++ S0 out.length) ++ S1 (out ++ S0 out.length).length).length).length : Int) - 1 = n2) := hn2
  rw [hn2]
  have L3a : Hid (LSt w v B w.heap.size w1.heap.size #[.int .i64 x0, .int .i64 x1, .int .i64 x2, .int .i64 x3, .int .i64 x4, .string x5, .string x6, .int .i64 s, Value.iface T0 u0, Value.iface T1 u1, Value.iface T2 u2] 149 ⟨x0, n0, n1, x3, x4, x5, x6⟩ (((out ++ S0 out.length) ++ S1 (out ++ S0 out.length).length) ++ S2 ((out ++ S0 out.length) ++ S1 (out ++ S0 out.length).length).length) y2 w4) := L3a'
  have L3 : Hid (LSt w v B w.heap.size w1.heap.size #[.int .i64 x0, .int .i64 x1, .int .i64 x2, .int .i64 x3, .int .i64 x4, .string x5, .string x6, .int .i64 s, Value.iface T0 u0, Value.iface T1 u1, Value.iface T2 u2] 149 ⟨x0, n0, n1, n2, x4, x5, x6⟩ (((out ++ S0 out.length) ++ S1 (out ++ S0 out.length).length) ++ S2 ((out ++ S0 out.length) ++ S1 (out ++ S0 out.length).length).length) y2 (w4.setCell ⟨w1.heap.size, 3, none⟩ (.int .i64 n2))) := L3a'.set 3 (.int .i64 n2) rfl
  clear hown2 hgr2 hn2 HN2 L3a' L2 p10 q20 q21 q22 q23 q24 q25 q26 f2 L2a
  obtain ⟨q30, q31, q32, q33, q34, q35, q36⟩ := cells7_of L3a.out.nd
  have f3 : ∀ o, w4.frozen? ⟨w1.heap.size, o, none⟩ = false := fun o => frozen_of_row w4 _ _ _ _ L3a.out.nd
  obtain ⟨i0, hi, hz0, hz1, hz2⟩ := info_parts info_nod
  have hszk : (w4.setCell ⟨w1.heap.size, 3, none⟩ (.int .i64 n2)).heap.size = w4.heap.size := by simp
  go_wp2_with (at_builtin; refine wpList_append_at _ rfl _ _ 24 rfl B 44 i0 _ 7 72 Tryz.underlying24 hi hz0 hz1 hz2 rfl (by decide) _ _ _ rfl (L3.out.own.alloc _) ⟨w4.heap.size, 0, none⟩ 1 1 (nodCells ⟨x0, n0, n1, n2, x4, x5, x6⟩) rfl rfl ?a0 ?b0 ?z0 ?c0 ?d0 ?e0 ?_)
  case a0 => exact nod_new (by simp) _ _ _ _ _ _ _ _
  case b0 => exact nod_one _
  case z0 => omega
  case c0 => have := HLo.out; unfold maxLen; omega
  case d0 => have := HLo.out; omega
  case e0 => have := HB.out; have := L3.out.grew.1.size; simp at this ⊢; omega
  intro v' W3 hown' hgrow
  have HE : Hid (LayEnd B w v G (.returned v') W3) := by
    show LayEnd B w v G (.returned v') W3
    rw [HG.out, HE0.out, HE1.out, HE2.out]
    exact L3.out.last hown' (by first | rfl | (simp only [List.length_append]; done) | simp only [List.length_append, Nat.add_assoc]) (by first | rfl | (simp only [List.flatMap_append, List.append_assoc]; done) | simp only [List.flatMap_append, List.append_assoc, List.length_append]) hgrow
  clear hown' hgrow L3 L3a
  go_wp2
  go_ret
  exact HE.out
end

section
open Go.ChangeShapes Go.WideShapes Go.ChangeAt Go.RowKit

/-- How many bytes one has; how many the first k have. -/
def nodSz (t : Nod) : Nat := t.name.size + t.other.size
def nodLens (ts : List Nod) : Nat → Nat
  | 0 => 0
  | k + 1 => nodLens ts k + nodSz (ts.getD k noNod)

/-- The first k, and behind them as many empty ones as are wanting. -/
def nodMix (ts : List Nod) (k : Nat) : List Nod := ts.take k ++ List.replicate (ts.length - k) noNod

theorem nodMix_length (ts : List Nod) (k : Nat) (h : k ≤ ts.length) : (nodMix ts k).length = ts.length := by simp [nodMix]; omega

theorem nodMix_all (ts : List Nod) : nodMix ts ts.length = ts := by simp [nodMix]

theorem nodMix_set (ts : List Nod) (k : Nat) (h : k < ts.length) : (nodMix ts k).set k (ts.getD k noNod) = nodMix ts (k + 1) := by
  apply List.ext_getElem?
  intro i
  have e : ts.getD k noNod = ts[k] := by simp [List.getD, List.getElem?_eq_getElem h]
  rw [List.getElem?_set, nodMix_length ts k (by omega), e]
  by_cases hik : k = i
  · subst hik
    rw [if_pos rfl, if_pos h, nodMix, List.getElem?_append_left (by simp; omega), List.getElem?_take_of_lt (by omega), List.getElem?_eq_getElem h]
  · rw [if_neg hik, nodMix, nodMix, List.getElem?_append, List.getElem?_append]
    by_cases hi : i < k
    · rw [if_pos (by simp; omega), if_pos (by simp; omega), List.getElem?_take_of_lt hi, List.getElem?_take_of_lt (by omega)]
    · rw [if_neg (by simp; omega), if_neg (by simp; omega)]
      simp only [List.length_take, List.getElem?_replicate]
      by_cases hi2 : i < ts.length
      · rw [if_pos (by omega), if_pos (by omega)]
      · rw [if_neg (by omega), if_neg (by omega)]

theorem nod_set (w : World) (g k : Nat) (l : List Nod) (e : TypeId) (t : Nod) (hg : w.heap[g]? = some (.cells (l.flatMap nodCells).toArray e (0, 0))) (hk : k < l.length) :
    (((((((w.setCell ⟨g, k * 7, none⟩ (.int .i64 t.kind)).setCell ⟨g, k * 7 + 1, none⟩ (.int .i64 t.a)).setCell ⟨g, k * 7 + 2, none⟩ (.int .i64 t.b)).setCell ⟨g, k * 7 + 3, none⟩ (.int .i64 t.c)).setCell ⟨g, k * 7 + 4, none⟩ (.int .i64 t.n)).setCell ⟨g, k * 7 + 5, none⟩ (.string t.name)).setCell ⟨g, k * 7 + 6, none⟩ (.string t.other)).heap[g]? =
      some (.cells ((l.set k t).flatMap nodCells).toArray e (0, 0)) := by
  rw [heap_setCell_same _ _ _ _ _ _ (heap_setCell_same _ _ _ _ _ _ (heap_setCell_same _ _ _ _ _ _ (heap_setCell_same _ _ _ _ _ _ (heap_setCell_same _ _ _ _ _ _ (heap_setCell_same _ _ _ _ _ _ (heap_setCell_same _ _ _ _ _ _ hg))))))]
  rw [List.setIfInBounds_toArray, List.setIfInBounds_toArray, List.setIfInBounds_toArray, List.setIfInBounds_toArray, List.setIfInBounds_toArray, List.setIfInBounds_toArray, List.setIfInBounds_toArray, nod_flat_set t l k hk]

theorem nod_made (m : Nat) : madeCells (Value.agg #[.int .i64 0, .int .i64 0, .int .i64 0, .int .i64 0, .int .i64 0, .string ⟨#[]⟩, .string ⟨#[]⟩]).cells (m * 7) = ((List.replicate m noNod).flatMap nodCells).toArray := by
  apply Array.ext
  · have e : ((List.replicate m noNod).flatMap nodCells).toArray.size = m * 7 := by rw [List.size_toArray, nod_flat_length, List.length_replicate]
    rw [e]; simp [madeCells]
  · intro i h1 h2
    have hi : i < m * 7 := by simpa [madeCells] using h1
    have e := nod_flat_at (List.replicate m noNod) (i / 7) (i % 7) (by simp; omega) (by omega)
    rw [show i / 7 * 7 + i % 7 = i by omega] at e
    have e2 : (List.replicate m noNod).getD (i / 7) noNod = noNod := by simp only [List.getD, List.getElem?_replicate]; split <;> rfl
    rw [e2] at e
    have h3 : i < ((List.replicate m noNod).flatMap nodCells).length := by rw [nod_flat_length]; simpa using hi
    rw [List.getElem?_eq_getElem h3] at e
    have e3 : ((List.replicate m noNod).flatMap nodCells).toArray[i] = ((List.replicate m noNod).flatMap nodCells)[i] := by simp
    rw [e3]
    have hm : i % 7 = 0 ∨ i % 7 = 1 ∨ i % 7 = 2 ∨ i % 7 = 3 ∨ i % 7 = 4 ∨ i % 7 = 5 ∨ i % 7 = 6 := by omega
    rcases hm with hm | hm | hm | hm | hm | hm | hm <;> simp [madeCells, Value.cells, hm, nodCells, noNod] at e ⊢ <;> exact e.symm
end

section
open Go.ChangeShapes Go.WideShapes Go.ChangeAt Go.RowKit

/-- The nodes from where the part of node i begins to i, with their kids' numbers less that; none where there is no such part. -/
def partB (ts : List Nod) (i : Int) : List Nod := if startB ts i < 0 then [] else ((ts.take (i.toNat + 1)).drop (startB ts i).toNat).map (shiftN (-startB ts i))

theorem startB_range {ts : List Nod} {i : Int} (h : ¬ startB ts i < 0) : 0 ≤ i ∧ i ≤ (ts.length : Int) - 1 ∧ ts.length ≤ 150 ∧ 0 ≤ startB ts i ∧ startB ts i ≤ i := by
  unfold startB at h ⊢
  split at h
  · rename_i hc
    obtain ⟨hn, h0, h1⟩ := hc
    obtain ⟨hl1, hl2, st, hS⟩ := nodesB_starts hn
    rw [if_pos ⟨hn, h0, h1⟩]
    rw [hS] at h ⊢
    simp only at h ⊢
    have := (startsF_range ts _ st hS).2 i.toNat (by omega)
    omega
  · simp at h

theorem anods_part {w : World} {g : Nat} {ts : List Nod} (h : NodAt w g ts) (s e : Nat) (he : e ≤ ts.length) : ANods w g (s * 7) ((ts.take e).drop s) := by
  intro q hq
  have hq' : s + q < e := by simp at hq; omega
  have t := h (s + q) (by omega)
  have e1 : ((ts.take e).drop s).getD q noNod = ts.getD (s + q) noNod := by
    simp only [List.getD]
    rw [List.getElem?_drop, List.getElem?_take_of_lt hq']
  rw [e1]
  have e2 : s * 7 + q * 7 = (s + q) * 7 := by omega
  refine ⟨?_, ?_, ?_, ?_, ?_, ?_, ?_⟩
  · rw [e2]; exact t.c0
  · rw [e2]; exact t.c1
  · rw [e2]; exact t.c2
  · rw [e2]; exact t.c3
  · rw [e2]; exact t.c4
  · rw [e2]; exact t.c5
  · rw [e2]; exact t.c6
end

section
open Go.ChangeShapes Go.WideShapes Go.ChangeAt Go.RowKit

/-- The nodes of the part of node j, behind so many nodes. -/
def partAt (ts : List Nod) (st : List Int) (j n : Nat) : List Nod := ((ts.take (j + 1)).drop (st.getD j 0).toNat).map (shiftN ((n : Int) - st.getD j 0))

theorem partAt_length (ts : List Nod) (st : List Int) (j n : Nat) (hj : j < ts.length) (h : 0 ≤ st.getD j 0 ∧ st.getD j 0 ≤ j) : (partAt ts st j n).length = j + 1 - (st.getD j 0).toNat := by
  unfold partAt
  rw [List.length_map, cut_length _ _ _ (by omega) (by omega)]
end

section
open Go.ChangeShapes Go.WideShapes Go.ChangeAt Go.RowKit

theorem LayV.near {v : Value} {S S' : Nat → List Nod} (h : LayV v S) (e : ∀ n, n ≤ 1000 → S n = S' n) : LayV v S' := by
  obtain ⟨T, u, f, x, rfl, hn, hm, hf, hc⟩ := h
  refine ⟨T, u, f, x, rfl, hn, hm, hf, ?_⟩
  intro out v B w hown hB hlen
  have he := e out.length (by omega)
  rw [← he] at hlen ⊢
  exact hc out v B w hown hB hlen

theorem layV_0 (t : Nod) (s : Int) (hs : t.name.size ≤ 281474976710656) (ho : t.other.size ≤ 281474976710656) : LayV (treeV t s []) (seg0 t) := by
  have hm : ∀ w : World, (method 311 143 (.agg (spotL t s ++ []).toArray) "loop.example/g01292/impl.lay").run Tryz.prog w = .ok (171, .agg (spotL t s ++ []).toArray) w := fun w => by kernel_rfl
  have hn : ∀ w : World, (nilAhead 311 143 (.agg (spotL t s ++ []).toArray) "loop.example/g01292/impl.lay").run Tryz.prog w = .ok (some false) w := fun w => by kernel_rfl
  have e : treeV t s [] = .iface 143 (.agg (spotL t s ++ []).toArray) := by
    unfold treeV
    congr 1
  rw [e]
  exact ⟨_, _, _, _, rfl, hn, hm, Or.inl rfl, lay_leaf t s hs ho⟩

theorem layV_1 (t : Nod) (s : Int) (hs : t.name.size ≤ 281474976710656) (ho : t.other.size ≤ 281474976710656) {v0 : Value} {S0 : Nat → List Nod} (h0 : LayV v0 S0) : LayV (treeV t s [v0]) (seg1 t S0) := by
  obtain ⟨T0, u0, f0, y0, rfl, r0⟩ := h0
  exact ⟨145, .agg (spotL t s ++ [Value.iface T0 u0]).toArray, 173, .agg (spotL t s ++ [Value.iface T0 u0]).toArray, rfl, fun w => by kernel_rfl, fun w => by kernel_rfl, Or.inr (Or.inl rfl),
    lay_one t s hs ho ⟨T0, u0, f0, y0, rfl, r0⟩⟩

theorem layV_2 (t : Nod) (s : Int) (hs : t.name.size ≤ 281474976710656) (ho : t.other.size ≤ 281474976710656) {v0 v1 : Value} {S0 S1 : Nat → List Nod} (h0 : LayV v0 S0) (h1 : LayV v1 S1) : LayV (treeV t s [v0, v1]) (seg2 t S0 S1) := by
  obtain ⟨T0, u0, f0, y0, rfl, r0⟩ := h0
  obtain ⟨T1, u1, f1, y1, rfl, r1⟩ := h1
  exact ⟨147, .agg (spotL t s ++ [Value.iface T0 u0, Value.iface T1 u1]).toArray, 175, .agg (spotL t s ++ [Value.iface T0 u0, Value.iface T1 u1]).toArray, rfl, fun w => by kernel_rfl, fun w => by kernel_rfl, Or.inr (Or.inr (Or.inl rfl)),
    lay_two t s hs ho ⟨T0, u0, f0, y0, rfl, r0⟩ ⟨T1, u1, f1, y1, rfl, r1⟩⟩

theorem layV_3 (t : Nod) (s : Int) (hs : t.name.size ≤ 281474976710656) (ho : t.other.size ≤ 281474976710656) {v0 v1 v2 : Value} {S0 S1 S2 : Nat → List Nod} (h0 : LayV v0 S0) (h1 : LayV v1 S1) (h2 : LayV v2 S2) : LayV (treeV t s [v0, v1, v2]) (seg3 t S0 S1 S2) := by
  obtain ⟨T0, u0, f0, y0, rfl, r0⟩ := h0
  obtain ⟨T1, u1, f1, y1, rfl, r1⟩ := h1
  obtain ⟨T2, u2, f2, y2, rfl, r2⟩ := h2
  exact ⟨149, .agg (spotL t s ++ [Value.iface T0 u0, Value.iface T1 u1, Value.iface T2 u2]).toArray, 176, .agg (spotL t s ++ [Value.iface T0 u0, Value.iface T1 u1, Value.iface T2 u2]).toArray, rfl, fun w => by kernel_rfl, fun w => by kernel_rfl, Or.inr (Or.inr (Or.inr rfl)),
    lay_three t s hs ho ⟨T0, u0, f0, y0, rfl, r0⟩ ⟨T1, u1, f1, y1, rfl, r1⟩ ⟨T2, u2, f2, y2, rfl, r2⟩⟩

theorem wrap64_in {x : Int} (h1 : -9223372036854775808 ≤ x) (h2 : x ≤ 9223372036854775807) : wrap64 x = x := by
  unfold wrap64
  omega

theorem layV_all {ts : List Nod} {st : List Int} {vs : List Value} (hl : ts.length ≤ 150) (hS : startsF ts ts.length = some st) (hG : TreesG ts st vs ts.length) :
    ∀ (b j : Nat), j < b → j < ts.length → LayV (vs.getD j .nilIface) (partAt ts st j)
  | 0, j, hb, hj => by omega
  | b + 1, j, hb, hj => by
    obtain ⟨hf, hd⟩ := starts_at ts ts.length st hS j hj
    obtain ⟨hn, ho⟩ := fields_small hf
    have hn' : (ts.getD j noNod).name.size ≤ 281474976710656 := by omega
    have ho' : (ts.getD j noNod).other.size ≤ 281474976710656 := by omega
    have hrj := hG.r j hj
    rw [hG.v j hj]
    have har := arN_le (ts.getD j noNod).kind
    have hu : ∀ n, partAt ts st j n = ((ts.take (j + 1)).drop (st.getD j 0).toNat).map (shiftN ((n : Int) - st.getD j 0)) := fun n => rfl
    have hone := cut_one ts j hj
    obtain ⟨s, hs⟩ : ∃ s, st.getD j 0 = s := ⟨_, rfl⟩
    rw [hs] at hd hrj hu ⊢
    obtain ⟨t, ht⟩ : ∃ t, ts.getD j noNod = t := ⟨_, rfl⟩
    rw [ht] at hf hd hn' ho' har hone ⊢
    rcases (by omega : arN t.kind = 0 ∨ arN t.kind = 1 ∨ arN t.kind = 2 ∨ arN t.kind = 3) with ha | ha | ha | ha
    · rw [kidL_0 ha] at hd ⊢
      obtain rfl := down_nil hd
      refine (layV_0 t _ hn' ho').near (fun n hnn => ?_)
      rw [hu n, show ((j : Int)).toNat = j by omega, hone]
      simp [seg0, shiftN, ha]
    · rw [kidL_1 ha] at hd ⊢
      obtain ⟨e1, e2, e3⟩ := down_one hd
      obtain ⟨ja, hja⟩ := Int.eq_ofNat_of_zero_le e2
      have e4 := down_nil e3
      rw [hja, show ((ja : Int)).toNat = ja by omega] at e4
      have hrA := hG.r ja (by omega)
      have iA := layV_all hl hS hG b ja (by omega) (by omega)
      have lA := fun n => partAt_length ts st ja n (by omega) hrA
      have uA : ∀ n, partAt ts st ja n = ((ts.take (ja + 1)).drop (st.getD ja 0).toNat).map (shiftN ((n : Int) - st.getD ja 0)) := fun n => rfl
      have ek : kidV vs [t.a] = [vs.getD ja .nilIface] := by
        simp only [kidV, List.map_cons, List.map_nil, hja]
        rfl
      rw [ek]
      refine (layV_1 t s hn' ho' iA).near (fun n hnn => ?_)
      have c1 := cut_split ts s.toNat (ja + 1) (j + 1) (by omega) (by omega) (by omega)
      have ej : ja + 1 = j := by omega
      rw [hu n, c1, List.map_append]
      unfold seg1
      rw [lA n, uA n, e4]
      congr 1
      rw [ej, hone]
      simp only [List.map_cons, List.map_nil, shiftN, ha]
      rw [if_pos (by omega), if_neg (by omega), if_neg (by omega), wrap64_in (by omega) (by omega)]
      have ea : ((n + (j - s.toNat) : Nat) : Int) - 1 = t.a + ((n : Int) - s) := by omega
      rw [ea]
    · rw [kidL_2 ha] at hd ⊢
      rw [show [t.a, t.b].reverse = [t.b, t.a] from rfl] at hd
      obtain ⟨e1b, e2b, e3b⟩ := down_one hd
      obtain ⟨jb, hjb⟩ := Int.eq_ofNat_of_zero_le e2b
      rw [hjb, show ((jb : Int)).toNat = jb by omega] at e3b
      have hrb := hG.r jb (by omega)
      obtain ⟨e1a, e2a, e3a⟩ := down_one e3b
      obtain ⟨ja, hja⟩ := Int.eq_ofNat_of_zero_le e2a
      rw [hja, show ((ja : Int)).toNat = ja by omega] at e3a
      have hra := hG.r ja (by omega)
      have e4 := down_nil e3a
      have ia := layV_all hl hS hG b ja (by omega) (by omega)
      have la := fun n => partAt_length ts st ja n (by omega) hra
      have ua : ∀ n, partAt ts st ja n = ((ts.take (ja + 1)).drop (st.getD ja 0).toNat).map (shiftN ((n : Int) - st.getD ja 0)) := fun n => rfl
      have ib := layV_all hl hS hG b jb (by omega) (by omega)
      have lb := fun n => partAt_length ts st jb n (by omega) hrb
      have ub : ∀ n, partAt ts st jb n = ((ts.take (jb + 1)).drop (st.getD jb 0).toNat).map (shiftN ((n : Int) - st.getD jb 0)) := fun n => rfl
      have ek : kidV vs [t.a, t.b] = [vs.getD ja .nilIface, vs.getD jb .nilIface] := by
        simp only [kidV, List.map_cons, List.map_nil, hja, hjb]
        rfl
      rw [ek]
      refine (layV_2 t s hn' ho' ia ib).near (fun n hnn => ?_)
      rw [hu n]
      rw [cut_split ts s.toNat (ja + 1) (j + 1) (by omega) (by omega) (by omega), List.map_append]
      rw [cut_split ts (ja + 1) (jb + 1) (j + 1) (by omega) (by omega) (by omega), List.map_append]
      unfold seg2
      rw [la, lb]
      have pb : st.getD jb 0 = ((ja + 1 : Nat) : Int) := by omega
      rw [ua n, e4]
      rw [ub, pb]
      rw [show (((n + (ja + 1 - s.toNat) : Nat) : Int) - ((ja + 1 : Nat) : Int)) = (n : Int) - s by omega, show (((ja + 1 : Nat) : Int)).toNat = ja + 1 by omega]
      rw [show jb + 1 = j by omega, hone]
      simp only [List.map_cons, List.map_nil, shiftN, ha]
      rw [if_pos (by omega), if_pos (by omega), if_neg (by omega)]
      rw [wrap64_in (x := t.a + ((n : Int) - s)) (by omega) (by omega)]
      rw [wrap64_in (x := t.b + ((n : Int) - s)) (by omega) (by omega)]
      have fa : (((n + (ja + 1 - s.toNat) : Nat) : Int) - 1) = t.a + ((n : Int) - s) := by omega
      have fb : (((n + (ja + 1 - s.toNat) + (j - (ja + 1)) : Nat) : Int) - 1) = t.b + ((n : Int) - s) := by omega
      rw [fa, fb]
    · rw [kidL_3 ha] at hd ⊢
      rw [show [t.a, t.b, t.c].reverse = [t.c, t.b, t.a] from rfl] at hd
      obtain ⟨e1c, e2c, e3c⟩ := down_one hd
      obtain ⟨jc, hjc⟩ := Int.eq_ofNat_of_zero_le e2c
      rw [hjc, show ((jc : Int)).toNat = jc by omega] at e3c
      have hrc := hG.r jc (by omega)
      obtain ⟨e1b, e2b, e3b⟩ := down_one e3c
      obtain ⟨jb, hjb⟩ := Int.eq_ofNat_of_zero_le e2b
      rw [hjb, show ((jb : Int)).toNat = jb by omega] at e3b
      have hrb := hG.r jb (by omega)
      obtain ⟨e1a, e2a, e3a⟩ := down_one e3b
      obtain ⟨ja, hja⟩ := Int.eq_ofNat_of_zero_le e2a
      rw [hja, show ((ja : Int)).toNat = ja by omega] at e3a
      have hra := hG.r ja (by omega)
      have e4 := down_nil e3a
      have ia := layV_all hl hS hG b ja (by omega) (by omega)
      have la := fun n => partAt_length ts st ja n (by omega) hra
      have ua : ∀ n, partAt ts st ja n = ((ts.take (ja + 1)).drop (st.getD ja 0).toNat).map (shiftN ((n : Int) - st.getD ja 0)) := fun n => rfl
      have ib := layV_all hl hS hG b jb (by omega) (by omega)
      have lb := fun n => partAt_length ts st jb n (by omega) hrb
      have ub : ∀ n, partAt ts st jb n = ((ts.take (jb + 1)).drop (st.getD jb 0).toNat).map (shiftN ((n : Int) - st.getD jb 0)) := fun n => rfl
      have ic := layV_all hl hS hG b jc (by omega) (by omega)
      have lc := fun n => partAt_length ts st jc n (by omega) hrc
      have uc : ∀ n, partAt ts st jc n = ((ts.take (jc + 1)).drop (st.getD jc 0).toNat).map (shiftN ((n : Int) - st.getD jc 0)) := fun n => rfl
      have ek : kidV vs [t.a, t.b, t.c] = [vs.getD ja .nilIface, vs.getD jb .nilIface, vs.getD jc .nilIface] := by
        simp only [kidV, List.map_cons, List.map_nil, hja, hjb, hjc]
        rfl
      rw [ek]
      refine (layV_3 t s hn' ho' ia ib ic).near (fun n hnn => ?_)
      rw [hu n]
      rw [cut_split ts s.toNat (ja + 1) (j + 1) (by omega) (by omega) (by omega), List.map_append]
      rw [cut_split ts (ja + 1) (jb + 1) (j + 1) (by omega) (by omega) (by omega), List.map_append]
      rw [cut_split ts (jb + 1) (jc + 1) (j + 1) (by omega) (by omega) (by omega), List.map_append]
      unfold seg3
      rw [la, lb, lc]
      have pb : st.getD jb 0 = ((ja + 1 : Nat) : Int) := by omega
      have pc : st.getD jc 0 = ((jb + 1 : Nat) : Int) := by omega
      rw [ua n, e4]
      rw [ub, pb]
      rw [show (((n + (ja + 1 - s.toNat) : Nat) : Int) - ((ja + 1 : Nat) : Int)) = (n : Int) - s by omega, show (((ja + 1 : Nat) : Int)).toNat = ja + 1 by omega]
      rw [uc, pc]
      rw [show (((n + (ja + 1 - s.toNat) + (jb + 1 - (ja + 1)) : Nat) : Int) - ((jb + 1 : Nat) : Int)) = (n : Int) - s by omega, show (((jb + 1 : Nat) : Int)).toNat = jb + 1 by omega]
      rw [show jc + 1 = j by omega, hone]
      simp only [List.map_cons, List.map_nil, shiftN, ha]
      rw [if_pos (by omega), if_pos (by omega), if_pos (by omega)]
      rw [wrap64_in (x := t.a + ((n : Int) - s)) (by omega) (by omega)]
      rw [wrap64_in (x := t.b + ((n : Int) - s)) (by omega) (by omega)]
      rw [wrap64_in (x := t.c + ((n : Int) - s)) (by omega) (by omega)]
      have fa : (((n + (ja + 1 - s.toNat) : Nat) : Int) - 1) = t.a + ((n : Int) - s) := by omega
      have fb : (((n + (ja + 1 - s.toNat) + (jb + 1 - (ja + 1)) : Nat) : Int) - 1) = t.b + ((n : Int) - s) := by omega
      have fc : (((n + (ja + 1 - s.toNat) + (jb + 1 - (ja + 1)) + (j - (jb + 1)) : Nat) : Int) - 1) = t.c + ((n : Int) - s) := by omega
      rw [fa, fb, fc]
end

section
open Go.ChangeShapes Go.WideShapes Go.ChangeAt Go.RowKit

theorem partB_at {ts : List Nod} {m : Nat} {st : List Int} (hn : nodesB ts = true) (hm : m < ts.length) (hS : startsF ts ts.length = some st) : partB ts m = partAt ts st m 0 := by
  have hr := (startsF_range ts _ st hS).2 m hm
  unfold partB partAt
  rw [startB_yes hn hm hS, if_neg (by omega)]
  rw [show ((m : Int)).toNat = m by omega, show ((0 : Nat) : Int) - st.getD m 0 = -st.getD m 0 by omega]

set_option maxHeartbeats 1000000 in
theorem impl_part (a : Option Addr) (g cap : Nat) (ts : List Nod) (i : Int) (hi1 : -9223372036854775808 ≤ i) (hi2 : i ≤ 9223372036854775807) (hne : 0 < ts.length → a = some ⟨g, 0, none⟩) (hl : ts.length ≤ 1048576)
    (hst : ∀ i, i < ts.length → (ts.getD i noNod).name.size ≤ maxLen ∧ (ts.getD i noNod).other.size ≤ maxLen) (w : World) (hA : NodAt w g ts) :
    Calls Tryz.prog 18 #[.slice a ts.length cap, .int .i64 i] w fun e w' => ∃ v, e = .returned v ∧ ownNod w' w.heap.size v (partB ts i) ∧ Below w.heap.size w w' := by
  have HI : Hid (Calls Tryz.prog 40 #[.slice a ts.length cap, .int .i64 i] w fun e w' => TaEnd ts i e ∧ Below w.heap.size w w') := impl_treeAt a g cap ts i hi1 hi2 hne hl hst w hA
  clear hA hst
  obtain ⟨G, hG⟩ : ∃ G, partB ts i = G := ⟨_, rfl⟩
  have HG : Hid (partB ts i = G) := hG
  rw [hG]
  clear hG
  go_enter Tryz.func18, Tryz.ntmps18
  go_wp2_with fail
  refine HI.out.mono ?_
  rintro e w1 ⟨hend, hb1⟩
  clear HI
  have hs1 := hb1.size
  rcases hend with ⟨st, vs, m, rfl, hm, hl2, hn, hS, hT, rfl⟩ | ⟨hno, rfl⟩
  · have HE : Hid (G = partAt ts st m 0) := by
      show G = _
      rw [← HG.out]
      exact partB_at hn hm hS
    have hr := hT.r m hm
    have hlp := partAt_length ts st m 0 hm hr
    obtain ⟨T, u, f, y, hv, hna, hmt, hf, hc⟩ := layV_all hl2 hS hT (m + 1) m (by omega) hm
    have HC : Hid (Calls Tryz.prog f #[y, .slice none 0 0] w1 fun e w' => LayEnd w.heap.size w1 (.slice none 0 0) G e w') := by
      have h := hc [] (.slice none 0 0) w.heap.size w1 (World.ownsRow_nil w1 w.heap.size _ _) hs1 (by rw [List.length_nil, hlp]; omega)
      rw [List.nil_append, List.length_nil, ← HE.out] at h
      exact h
    rw [hv]
    clear hc hv hn hS hT hr hlp
    rcases hf with rfl | rfl | rfl | rfl
    all_goals
      go_wp2_with fail
      refine HC.out.mono ?_
      rintro e w2 ⟨v', rfl, hown, hgr⟩
      have HO : Hid (ownNod w2 w.heap.size v' G) := hown
      have HB : Hid (Below w.heap.size w w2) := hb1.trans (hgr.below hs1 (fun k hk => by simp [Value.ownBlock] at hk))
      clear hown hgr
      go_wp2
      go_ret
      exact ⟨_, rfl, HO.out, HB.out⟩
  · have HE : Hid (G = []) := by
      show G = []
      rw [← HG.out]
      unfold partB
      rw [hno, if_pos (by omega)]
    clear hno
    go_wp2
    go_ret
    exact ⟨_, rfl, by rw [HE.out]; exact World.ownsRow_nil w1 w.heap.size _ _, hb1⟩
end

section
open Go.ChangeShapes Go.WideShapes Go.ChangeAt Go.RowKit

/-- Parts lie within each other or apart. -/
theorem nest {ts : List Nod} {st : List Nat} (hR : Right ts st) : ∀ (b j : Nat), j < b → j < ts.length → ∀ q, st.getD j 0 ≤ q → q ≤ j → st.getD j 0 ≤ st.getD q 0
  | 0, j, hb, _, _, _, _ => by omega
  | b + 1, j, hb, hj, q, h1, h2 => by
    obtain ⟨hF, hs, k0, k1, k2, k3⟩ := hR.2 j hj
    by_cases hq : q = j
    · subst hq; omega
    have h3le := arN_le (ts.getD j noNod).kind
    have : arN (ts.getD j noNod).kind = 0 ∨ arN (ts.getD j noNod).kind = 1 ∨ arN (ts.getD j noNod).kind = 2 ∨ arN (ts.getD j noNod).kind = 3 := by omega
    rcases this with e | e | e | e
    · have := k0 e
      omega
    · obtain ⟨a, ea, ha, hsa⟩ := k1 e
      have := nest hR b a (by omega) (by omega) q (by omega) (by omega)
      omega
    · obtain ⟨a, c, ea, ec, hc, hac, hsa⟩ := k2 e
      have hsc' := (hR.2 c (by omega)).2.1
      have hsa' := (hR.2 a (by omega)).2.1
      by_cases hqc : st.getD c 0 ≤ q
      · have := nest hR b c (by omega) (by omega) q hqc (by omega)
        omega
      · have := nest hR b a (by omega) (by omega) q (by omega) (by omega)
        omega
    · obtain ⟨a, c, d, ea, ec, ed, hd, hcd, hac, hsa⟩ := k3 e
      have hsd' := (hR.2 d (by omega)).2.1
      have hsc' := (hR.2 c (by omega)).2.1
      have hsa' := (hR.2 a (by omega)).2.1
      by_cases hqd : st.getD d 0 ≤ q
      · have := nest hR b d (by omega) (by omega) q hqd (by omega)
        omega
      · by_cases hqc : st.getD c 0 ≤ q
        · have := nest hR b c (by omega) (by omega) q hqc (by omega)
          omega
        · have := nest hR b a (by omega) (by omega) q (by omega) (by omega)
          omega

theorem down_le {st : List Int} (hr : ∀ j : Nat, j < st.length → 0 ≤ st.getD j 0 ∧ st.getD j 0 ≤ j) : ∀ (cs : List Int) (p r : Int), p ≤ st.length → down st cs p = some r → r ≤ p
  | [], p, r, _, h => by have := down_nil h; omega
  | c :: cs, p, r, hp, h => by
    obtain ⟨h1, h2, h3⟩ := down_one h
    have hc := hr c.toNat (by omega)
    have := down_le hr cs _ r (by omega) h3
    omega

/-- Shifted, the kids lie as they did. -/
theorem down_shift {st st' : List Int} {s k : Nat} (hr : ∀ j : Nat, j < st.length → 0 ≤ st.getD j 0 ∧ st.getD j 0 ≤ j) (hk : s + k ≤ st.length) (hs' : ∀ q, q < k → st'.getD q 0 = st.getD (s + q) 0 - s) :
    ∀ (cs : List Int) (p r : Int), p ≤ s + k → (s : Int) ≤ r → down st cs p = some r → down st' (cs.map (· - (s : Int))) (p - s) = some (r - s)
  | [], p, r, _, _, h => by
    have := down_nil h
    rw [List.map_nil]
    unfold down
    rw [this]
  | c :: cs, p, r, hp, hsr, h => by
    obtain ⟨h1, h2, h3⟩ := down_one h
    have hc := hr c.toNat (by omega)
    have hle := down_le hr cs _ r (by omega) h3
    have ih := down_shift hr hk hs' cs _ r (by omega) hsr h3
    rw [List.map_cons]
    unfold down
    rw [if_pos ⟨by omega, by omega⟩]
    have e : (c - (s : Int)).toNat = c.toNat - s := by omega
    have e2 := hs' (c.toNat - s) (by omega)
    have e3 : s + (c.toNat - s) = c.toNat := by omega
    rw [e3] at e2
    rw [e, e2]
    exact ih

/-- What a node is when its kids' numbers are so much less. -/
theorem shift_fields {t : Nod} {d : Int} (h : FieldsOk t) : FieldsOk (shiftN d t) := by
  obtain ⟨h1, ⟨k1, k2, k3⟩, h3, h4⟩ := h
  refine ⟨h1, ⟨fun e => ?_, fun e => ?_, fun e => ?_⟩, h3, h4⟩
  · have e' : arN t.kind < 1 := e
    show (if 0 < arN t.kind then wrap64 (t.a + d) else t.a) = 0
    rw [if_neg (by omega)]
    exact k1 e'
  · have e' : arN t.kind < 2 := e
    show (if 1 < arN t.kind then wrap64 (t.b + d) else t.b) = 0
    rw [if_neg (by omega)]
    exact k2 e'
  · have e' : arN t.kind < 3 := e
    show (if 2 < arN t.kind then wrap64 (t.c + d) else t.c) = 0
    rw [if_neg (by omega)]
    exact k3 e'

theorem wrap_small {x : Int} (h1 : -1000000 ≤ x) (h2 : x ≤ 1000000) : wrap64 x = x := by
  unfold wrap64
  omega

theorem shift_kid {t : Nod} {s : Nat} (hs : s ≤ 1000) {j : Nat} (hj : j < arN t.kind) {q : Nat} (hq : [t.a, t.b, t.c].getD j 0 = q) (hq2 : q ≤ 1000) : [(shiftN (0 - (s : Int)) t).a, (shiftN (0 - (s : Int)) t).b, (shiftN (0 - (s : Int)) t).c].getD j 0 = (q : Int) - s := by
  have h3 := arN_le t.kind
  have : j = 0 ∨ j = 1 ∨ j = 2 := by omega
  rcases this with rfl | rfl | rfl
  · have hq' : t.a = q := hq
    show (if 0 < arN t.kind then wrap64 (t.a + (0 - (s : Int))) else t.a) = _
    rw [if_pos hj, hq', wrap_small (by omega) (by omega)]
    omega
  · have hq' : t.b = q := hq
    show (if 1 < arN t.kind then wrap64 (t.b + (0 - (s : Int))) else t.b) = _
    rw [if_pos hj, hq', wrap_small (by omega) (by omega)]
    omega
  · have hq' : t.c = q := hq
    show (if 2 < arN t.kind then wrap64 (t.c + (0 - (s : Int))) else t.c) = _
    rw [if_pos hj, hq', wrap_small (by omega) (by omega)]
    omega

theorem shift_kidL {t : Nod} {s : Nat} (hs : s ≤ 1000) (h : ∀ j, j < arN t.kind → ∃ q : Nat, [t.a, t.b, t.c].getD j 0 = q ∧ q ≤ 1000) : kidL (shiftN (0 - (s : Int)) t) = (kidL t).map (· - (s : Int)) := by
  have h3 := arN_le t.kind
  have hk : arN (shiftN (0 - (s : Int)) t).kind = arN t.kind := rfl
  have : arN t.kind = 0 ∨ arN t.kind = 1 ∨ arN t.kind = 2 ∨ arN t.kind = 3 := by omega
  rcases this with e | e | e | e
  · rw [kidL_0 e, kidL_0 (hk.trans e)]; rfl
  · obtain ⟨q0, a0, b0⟩ := h 0 (by omega)
    have e0 : (shiftN (0 - (s : Int)) t).a = (q0 : Int) - s := shift_kid hs (j := 0) (by omega) a0 b0
    have a0' : t.a = q0 := a0
    rw [kidL_1 e, kidL_1 (hk.trans e), e0, a0']; rfl
  · obtain ⟨q0, a0, b0⟩ := h 0 (by omega)
    obtain ⟨q1, a1, b1⟩ := h 1 (by omega)
    have e0 : (shiftN (0 - (s : Int)) t).a = (q0 : Int) - s := shift_kid hs (j := 0) (by omega) a0 b0
    have e1 : (shiftN (0 - (s : Int)) t).b = (q1 : Int) - s := shift_kid hs (j := 1) (by omega) a1 b1
    have a0' : t.a = q0 := a0
    have a1' : t.b = q1 := a1
    rw [kidL_2 e, kidL_2 (hk.trans e), e0, e1, a0', a1']; rfl
  · obtain ⟨q0, a0, b0⟩ := h 0 (by omega)
    obtain ⟨q1, a1, b1⟩ := h 1 (by omega)
    obtain ⟨q2, a2, b2⟩ := h 2 (by omega)
    have e0 : (shiftN (0 - (s : Int)) t).a = (q0 : Int) - s := shift_kid hs (j := 0) (by omega) a0 b0
    have e1 : (shiftN (0 - (s : Int)) t).b = (q1 : Int) - s := shift_kid hs (j := 1) (by omega) a1 b1
    have e2 : (shiftN (0 - (s : Int)) t).c = (q2 : Int) - s := shift_kid hs (j := 2) (by omega) a2 b2
    have a0' : t.a = q0 := a0
    have a1' : t.b = q1 := a1
    have a2' : t.c = q2 := a2
    rw [kidL_3 e, kidL_3 (hk.trans e), e0, e1, e2, a0', a1', a2']; rfl

theorem range_getD {k q : Nat} (f : Nat → Int) (h : q < k) : ((List.range k).map f).getD q 0 = f q := by simp [List.getD, List.getElem?_range h]

theorem cut_getD {ts : List Nod} {s e q : Nat} (f : Nod → Nod) (h : s + q < e) (he : e ≤ ts.length) : (((ts.take e).drop s).map f).getD q noNod = f (ts.getD (s + q) noNod) := by
  simp only [List.getD, List.getElem?_map]
  rw [List.getElem?_drop, List.getElem?_take_of_lt h, List.getElem?_eq_getElem (by omega)]
  rfl

/-- Where a node of the part stands among all. -/
theorem part_node {ts : List Nod} {st : List Int} {j q : Nat} (hj : j < ts.length) (hr : 0 ≤ st.getD j 0 ∧ st.getD j 0 ≤ j) (hq : q < j + 1 - (st.getD j 0).toNat) :
    (partAt ts st j 0).getD q noNod = shiftN (0 - ((st.getD j 0).toNat : Int)) (ts.getD ((st.getD j 0).toNat + q) noNod) := by
  have e0 : ((0 : Nat) : Int) - st.getD j 0 = 0 - ((st.getD j 0).toNat : Int) := by omega
  unfold partAt
  rw [e0]
  generalize (st.getD j 0).toNat = s at *
  exact cut_getD _ (by omega) (by omega)

theorem part_starts {ts : List Nod} {st : List Int} (hl : ts.length ≤ 1000) (h : startsF ts ts.length = some st) {j : Nat} (hj : j < ts.length) :
    ∀ k, k ≤ j + 1 - (st.getD j 0).toNat → startsF (partAt ts st j 0) k = some ((List.range k).map fun q => st.getD ((st.getD j 0).toNat + q) 0 - ((st.getD j 0).toNat : Int))
  | 0, _ => rfl
  | k + 1, hk => by
    have hR := right_of hl h
    obtain ⟨hlen, hr⟩ := startsF_range ts ts.length st h
    have hrj := hr j hj
    have ih := part_starts hl h hj k (by omega)
    obtain ⟨s, hs⟩ : ∃ s, (st.getD j 0).toNat = s := ⟨_, rfl⟩
    have hnode := part_node (q := k) hj hrj (by omega)
    rw [hs] at hnode ih hk ⊢
    have hi : s + k < ts.length := by omega
    obtain ⟨hf, hd⟩ := starts_at ts ts.length st h (s + k) hi
    have hF : FieldsOk (ts.getD (s + k) noNod) := of_decide_eq_true hf
    have hkid : ∀ m, m < arN (ts.getD (s + k) noNod).kind → ∃ q : Nat, [(ts.getD (s + k) noNod).a, (ts.getD (s + k) noNod).b, (ts.getD (s + k) noNod).c].getD m 0 = q ∧ q ≤ 1000 := fun m hm => by
      obtain ⟨q, h1, h2, _⟩ := kid_ahead hR hi hm
      exact ⟨q, h1, by omega⟩
    have hnest := nest hR (j + 1) j (by omega) hj (s + k) (by rw [getD_nat]; omega) (by omega)
    rw [getD_nat, getD_nat, hs] at hnest
    have hrk := hr (s + k) hi
    simp only [startsF]
    rw [ih, Option.bind_some, hnode]
    unfold stepS
    rw [if_pos (show fieldsB _ = true from decide_eq_true (shift_fields hF)), shift_kidL (by omega) hkid, ← List.map_reverse]
    have := down_shift (st := st) (st' := (List.range k).map fun q => st.getD (s + q) 0 - (s : Int)) (s := s) (k := k) (fun q hq => hr q (by omega)) (by omega) (fun q hq => range_getD _ hq) _ _ _ (by omega) (by omega) hd
    have e : ((s + k : Nat) : Int) - (s : Int) = (k : Int) := by omega
    rw [e] at this
    rw [this, List.range_succ, List.map_append]
    rfl

theorem part_right {ts : List Nod} {st : List Int} (hn : nodesB ts = true) (h : startsF ts ts.length = some st) {j : Nat} (hj : j < ts.length) : nodesB (partAt ts st j 0) = true := by
  obtain ⟨l1, l2, _⟩ := nodesB_starts hn
  obtain ⟨hlen, hr⟩ := startsF_range ts ts.length st h
  have hrj := hr j hj
  have hpl := partAt_length ts st j 0 hj hrj
  have hs := part_starts (by omega) h hj (partAt ts st j 0).length (by omega)
  unfold nodesB
  rw [hs, Bool.and_eq_true]
  refine ⟨decide_eq_true (by omega), ?_⟩
  simp only
  rw [range_getD _ (by omega), hpl]
  have e : (st.getD j 0).toNat + (j + 1 - (st.getD j 0).toNat - 1) = j := by omega
  rw [e, beq_iff_eq]
  omega

theorem argT_shift {r r' : Nat → List UInt8} : ∀ (cs : List UInt8) (ns : List ByteArray) (ks ks' : List Int), (∀ j, j < (cs.filter (· ≠ 110)).length → r (ks.getD j 0).toNat = r' (ks'.getD j 0).toNat) → argT r cs ns ks = argT r' cs ns ks'
  | [], ns, ks, ks', h => rfl
  | c :: cs, ns, ks, ks', h => by
    unfold argT
    by_cases hc : c = 110
    · rw [if_pos hc, if_pos hc, argT_shift cs ns.tail ks ks' (fun j hj => h j (by simpa [hc] using hj))]
    · have hl : ((c :: cs).filter (· ≠ 110)).length = (cs.filter (· ≠ 110)).length + 1 := by simp [hc]
      rw [if_neg hc, if_neg hc]
      have h0 := h 0 (by omega)
      rw [← headD_getD, ← headD_getD] at h0
      have h1 := argT_shift (r := r) (r' := r') cs ns ks.tail ks'.tail (fun j hj => by
        have := h (j + 1) (by omega)
        rw [getD_tail, getD_tail]
        exact this)
      rw [h0, h1]

/-- The part's text is the node's. -/
theorem part_text {ts : List Nod} {st : List Int} (hl : ts.length ≤ 1000) (h : startsF ts ts.length = some st) {j : Nat} (hj : j < ts.length) :
    ∀ (f q : Nat), q < f → q < j + 1 - (st.getD j 0).toNat → ∀ f', (st.getD j 0).toNat + q < f' → textN (partAt ts st j 0) f q = textN ts f' ((st.getD j 0).toNat + q)
  | 0, q, hq, _, _, _ => by omega
  | f + 1, q, hq, hqj, 0, hf' => by omega
  | f + 1, q, hq, hqj, f' + 1, hf' => by
    have hR := right_of hl h
    obtain ⟨hlen, hr⟩ := startsF_range ts ts.length st h
    have hrj := hr j hj
    have hnode := part_node hj hrj hqj
    have ih := part_text hl h hj f
    obtain ⟨s, hs⟩ : ∃ s, (st.getD j 0).toNat = s := ⟨_, rfl⟩
    rw [hs] at hnode hqj hf' ih ⊢
    have hi : s + q < ts.length := by omega
    have hF := (hR.2 (s + q) hi).1
    have hnest := nest hR (j + 1) j (by omega) hj (s + q) (by rw [getD_nat]; omega) (by omega)
    rw [getD_nat, getD_nat, hs] at hnest
    show nodeT (textN (partAt ts st j 0) f) ((partAt ts st j 0).getD q noNod) = nodeT (textN ts f') (ts.getD (s + q) noNod)
    rw [hnode]
    have hkid := fun {m : Nat} (hm : m < arN (ts.getD (s + q) noNod).kind) => kid_ahead hR hi hm
    generalize ts.getD (s + q) noNod = t at *
    unfold nodeT
    show (if t.kind = 1 then t.name.data.toList else if t.kind = 2 then Lib.itoa t.n else if t.kind = 12 then [110, 105, 108] else formT _ _) = _
    by_cases h1 : t.kind = 1
    · rw [if_pos h1, if_pos h1]
    by_cases h2 : t.kind = 2
    · rw [if_neg h1, if_neg h1, if_pos h2, if_pos h2]
    by_cases h12 : t.kind = 12
    · rw [if_neg h1, if_neg h1, if_neg h2, if_neg h2, if_pos h12, if_pos h12]
    rw [if_neg h1, if_neg h1, if_neg h2, if_neg h2, if_neg h12, if_neg h12]
    have ha := asked_ar (fields_form hF h1 h2 h12)
    unfold asked at ha
    unfold formT
    have := argT_shift (r := textN (partAt ts st j 0) f) (r' := textN ts f') (goesOn t.kind) [t.name, t.other] [(shiftN (0 - (s : Int)) t).a, (shiftN (0 - (s : Int)) t).b, (shiftN (0 - (s : Int)) t).c] [t.a, t.b, t.c] (fun m hm => by
      obtain ⟨Q, k1, k2, k3⟩ := hkid (by omega : m < arN t.kind)
      have hQ := (hR.2 Q (by omega)).2.1
      rw [getD_nat, getD_nat] at k3
      rw [getD_nat] at hQ
      rw [shift_kid (by omega) (by omega) k1 (by omega), k1]
      have e1 : ((Q : Int) - (s : Int)).toNat = Q - s := by omega
      have e2 := ih (Q - s) (by omega) (by omega) f' (by omega)
      rw [show s + (Q - s) = Q by omega] at e2
      rw [e1, Int.toNat_natCast]
      exact e2)
    show [40] ++ (keyN t.kind t.n).data.toList ++ argT (textN (partAt ts st j 0) f) (goesOn t.kind) [t.name, t.other] _ ++ [41] = _
    rw [this]

/-- The text of a node's part, of right nodes; none of others. -/
def printPartB (ts : List Nod) (i : Int) : ByteArray := if nodesB ts = true ∧ 0 ≤ i ∧ i ≤ (ts.length : Int) - 1 then ⟨(textN ts ts.length i.toNat).toArray⟩ else ⟨#[]⟩

theorem print_part (ts : List Nod) (i : Int) : printB (partB ts i) = printPartB ts i := by
  unfold printPartB
  by_cases hc : nodesB ts = true ∧ 0 ≤ i ∧ i ≤ (ts.length : Int) - 1
  · rw [if_pos hc]
    obtain ⟨hn, h0, h1⟩ := hc
    obtain ⟨l1, l2, st, hs⟩ := nodesB_starts hn
    obtain ⟨m, rfl⟩ : ∃ m : Nat, i = m := ⟨i.toNat, by omega⟩
    have hm : m < ts.length := by omega
    have hr := (startsF_range ts _ st hs).2 m hm
    rw [partB_at hn hm hs]
    unfold printB
    rw [if_pos (part_right hn hs hm)]
    have hpl := partAt_length ts st m 0 hm hr
    have := part_text (by omega) hs hm (partAt ts st m 0).length ((partAt ts st m 0).length - 1) (by omega) (by omega) ts.length (by omega)
    rw [this]
    have e : (st.getD m 0).toNat + ((partAt ts st m 0).length - 1) = m := by omega
    rw [e, Int.toNat_natCast]
  · rw [if_neg hc]
    have hb : startB ts i = -1 := by
      unfold startB
      rw [if_neg hc]
    unfold partB
    rw [hb, if_pos (by omega)]
    rfl
end

section
open Go.ChangeShapes Go.WideShapes Go.ChangeAt Go.RowKit

theorem own : ownKnob Tryz.prog.godebug = none := by kernel_rfl

def put8 (l : List Int) : Obj → Obj
  | .cells _ t frozen => .cells (l.map (Value.int .u8)).toArray t frozen
  | o => o
def put64 (l : List Int) : Obj → Obj
  | .cells _ t frozen => .cells (l.map (Value.int .u64)).toArray t frozen
  | o => o

def tab32 : List Int := [0, 1, 28, 2, 29, 14, 24, 3, 30, 22, 20, 15, 25, 17, 4, 8, 31, 27, 13, 23, 21, 19, 16, 7, 26, 12, 18, 6, 11, 5, 10, 9]
def tab64 : List Int := [0, 1, 56, 2, 57, 49, 28, 3, 61, 58, 42, 50, 38, 29, 17, 4, 62, 47, 59, 36, 45, 43, 51, 22, 53, 39, 33, 30, 24, 18, 12, 5, 63, 55, 48, 27, 60, 41, 37, 16, 46, 35, 44, 21, 52, 32, 23, 11, 54, 26, 40, 15, 34, 20, 31, 10, 25, 14, 19, 9, 13, 8, 7, 6]

def laidOf (P : Program) (os : Os) : World :=
  { World.holding P os ⟨#[], #[], []⟩ with heap := (((World.holding P os ⟨#[], #[], []⟩).heap.modify 2 (put64 Lib.pow10Tab)).modify 3 (put8 tab32)).modify 4 (put8 tab64) }

theorem gPowType : (Tryz.prog.globals[2]?).map (·.type) = some 184 := by kernel_rfl
theorem cellsP : Tryz.prog.cellsOf 184 = 20 := by kernel_rfl
theorem cellsU : Tryz.prog.cellsOf 172 = 1 := by kernel_rfl

theorem laidOut : laidOutB Tryz.prog = true := by kernel_rfl
end

section
open Go.ChangeShapes Go.WideShapes Go.ChangeAt Go.RowKit

theorem part_small {ts : List Nod} (h : nodesB ts = true) : ∀ i, i < ts.length → (ts.getD i noNod).name.size ≤ maxLen ∧ (ts.getD i noNod).other.size ≤ maxLen := by
  intro i hi
  obtain ⟨_, _, st, hR⟩ := nodesB_right h
  have := fields_small (decide_eq_true (hR.2 i hi).1)
  unfold maxLen
  omega

theorem partB_small (ts : List Nod) (i : Int) : (partB ts i).length ≤ 1048576 ∧ ∀ j, j < (partB ts i).length → ((partB ts i).getD j noNod).name.size ≤ maxLen ∧ ((partB ts i).getD j noNod).other.size ≤ maxLen := by
  by_cases hc : nodesB ts = true ∧ 0 ≤ i ∧ i ≤ (ts.length : Int) - 1
  · obtain ⟨hn, h0, h1⟩ := hc
    obtain ⟨l1, l2, st, hs⟩ := nodesB_starts hn
    obtain ⟨m, rfl⟩ : ∃ m : Nat, i = m := ⟨i.toNat, by omega⟩
    have hm : m < ts.length := by omega
    have hr := (startsF_range ts _ st hs).2 m hm
    have hpl := partAt_length ts st m 0 hm hr
    rw [partB_at hn hm hs]
    exact ⟨by omega, part_small (part_right hn hs hm)⟩
  · have hb : startB ts i = -1 := by
      unfold startB
      rw [if_neg hc]
    have : partB ts i = [] := by
      unfold partB
      rw [hb, if_pos (by omega)]
    rw [this]
    exact ⟨by simp, fun j hj => by simp at hj⟩

set_option maxRecDepth 20000 in
theorem impl_printPart (a : Option Addr) (g cap : Nat) (ts : List Nod) (i : Int) (hi1 : -9223372036854775808 ≤ i) (hi2 : i ≤ 9223372036854775807) (hne : 0 < ts.length → a = some ⟨g, 0, none⟩) (hl : ts.length ≤ 1048576)
    (hst : ∀ i, i < ts.length → (ts.getD i noNod).name.size ≤ maxLen ∧ (ts.getD i noNod).other.size ≤ maxLen) (w : World) (hp : PowIs w) (hA : NodAt w g ts) :
    Calls Tryz.prog 20 #[.slice a ts.length cap, .int .i64 i] w fun e w' => e = .returned (.string (printPartB ts i)) ∧ Below w.heap.size w w' := by
  have HC : Hid (Calls Tryz.prog 18 #[.slice a ts.length cap, .int .i64 i] w fun e w' => ∃ v, e = .returned v ∧ ownNod w' w.heap.size v (partB ts i) ∧ Below w.heap.size w w') := impl_part a g cap ts i hi1 hi2 hne hl hst w hA
  have HW : Hid (PowIs w) := hp
  have hgp : 2 < w.heap.size := var_lt gPow hp
  have HP : Hid (printB (partB ts i) = printPartB ts i) := print_part ts i
  have HS : Hid ((partB ts i).length ≤ 1048576 ∧ ∀ j, j < (partB ts i).length → ((partB ts i).getD j noNod).name.size ≤ maxLen ∧ ((partB ts i).getD j noNod).other.size ≤ maxLen) := partB_small ts i
  clear hA hst hp hi1 hi2
  obtain ⟨ps, hps⟩ : ∃ ps, partB ts i = ps := ⟨_, rfl⟩
  rw [hps] at HC HP HS
  clear hps
  go_enter Tryz.func20, Tryz.ntmps20
  go_wp2_with fail
  refine Calls.mono HC.out ?_
  rintro e w1 ⟨v, rfl, ho, b1⟩
  obtain ⟨a1, g1, c1, sp1, rfl, ha1, hT1, hB1, hl1, hr1⟩ := ownNod_form ho
  have HT : Hid (Calls Tryz.prog 7 #[.slice a1 ps.length c1] w1 fun e w' => e = .returned (.string (printB ps)) ∧ Below w1.heap.size w1 w') := impl_print a1 g1 c1 ps ha1 HS.out.1 HS.out.2 w1 (var?_below b1 gPow hgp HW.out) hT1
  have s1 := b1.size
  have B1 : Hid (Below w.heap.size w w1) := b1
  clear ho ha1 hT1 hB1 hl1 hr1 b1
  go_wp2_with fail
  refine Calls.mono HT.out ?_
  rintro e w2 ⟨rfl, b2⟩
  have B2 : Hid (Below w.heap.size w w2) := B1.out.trans (b2.mono s1)
  clear b2 HT
  go_wp2
  go_ret
  exact ⟨by rw [← HP.out]; rfl, B2.out⟩
end

section
open Go.ChangeShapes Go.WideShapes Go.ChangeAt Go.RowKit

theorem impl_start (a : Option Addr) (g cap : Nat) (ts : List Nod) (i : Int) (hi1 : -9223372036854775808 ≤ i) (hi2 : i ≤ 9223372036854775807) (hne : 0 < ts.length → a = some ⟨g, 0, none⟩) (hl : ts.length ≤ 1048576)
    (hst : ∀ i, i < ts.length → (ts.getD i noNod).name.size ≤ maxLen ∧ (ts.getD i noNod).other.size ≤ maxLen) (w : World) (hA : NodAt w g ts) :
    Calls Tryz.prog 19 #[.slice a ts.length cap, .int .i64 i] w fun e w' => e = .returned (.int .i64 (startB ts i)) ∧ Below w.heap.size w w' := by
  have HI : Hid (Calls Tryz.prog 40 #[.slice a ts.length cap, .int .i64 i] w fun e w' => TaEnd ts i e ∧ Below w.heap.size w w') := impl_treeAt a g cap ts i hi1 hi2 hne hl hst w hA
  clear hA hst
  go_enter Tryz.func19, Tryz.ntmps19
  go_wp2_with fail
  refine HI.out.mono ?_
  rintro e w1 ⟨hend, hb1⟩
  clear HI
  have hs1 := hb1.size
  rcases hend with ⟨st, vs, m, rfl, hm, hl2, hn, hS, hG, rfl⟩ | ⟨hno, rfl⟩
  · have HV : Hid (startB ts m = st.getD m 0) := startB_yes hn hm hS
    obtain ⟨T, u, t0, hv, hna, hmt⟩ := hG.b.b m hm
    obtain ⟨R, hR⟩ : ∃ R, (spotL t0 (st.getD m 0)).toArray = R := ⟨_, rfl⟩
    have hI := impl_begin t0 (st.getD m 0)
    rw [hR] at hmt hI
    rw [hv]
    generalize st.getD m 0 = P2 at *
    have HI : Hid (∀ w : World, Calls Tryz.prog 170 #[.agg R] w fun e w' => e = .returned (.int .i64 P2) ∧ w' = w.alloc (.cells R 141)) := hI
    clear hn hS hG hv hR hI
    go_wp2_with fail
    refine (HI.out _).mono ?_
    rintro e w3 ⟨rfl, rfl⟩
    go_wp2
    go_ret
    exact ⟨by rw [HV.out]; rfl, hb1.alloc (by omega) _⟩
  · have HV : Hid (startB ts i = -1) := hno
    clear hno
    go_wp2
    go_ret
    exact ⟨by rw [HV.out]; rfl, hb1⟩
end

section
open Go.ChangeShapes Go.WideShapes Go.ChangeAt Go.RowKit

/-- Is a number among these? -/
def hasI (st : List Int) (x : Int) : Bool := st.contains x

/-- The first of the last k nodes that has m among its kids. -/
def parU (ts : List Nod) (m : Int) : Nat → Int
  | 0 => -1
  | k + 1 => if hasI (kidL (ts.getD (ts.length - (k + 1)) noNod)) m = true then ((ts.length - (k + 1) : Nat) : Int) else parU ts m k

def parP (ts : List Nod) (m : Int) : Int := parU ts m ts.length

def parB (ts : List Nod) (m : Int) : Int := if nodesB ts = true then parP ts m else -1

theorem parU_at {ts : List Nod} {m : Int} {j : Nat} (h : j < ts.length) : parU ts m (ts.length - j) = if hasI (kidL (ts.getD j noNod)) m = true then (j : Int) else parU ts m (ts.length - (j + 1)) := by
  have e : ts.length - j = (ts.length - (j + 1)) + 1 := by omega
  rw [e, parU]
  have e2 : ts.length - (ts.length - (j + 1) + 1) = j := by omega
  rw [e2]

theorem parU_range (ts : List Nod) (m : Int) : ∀ k, k ≤ ts.length → parU ts m k = -1 ∨ ∃ p : Nat, parU ts m k = p ∧ ts.length - k ≤ p ∧ p < ts.length ∧ hasI (kidL (ts.getD p noNod)) m = true
  | 0, _ => Or.inl rfl
  | k + 1, h => by
    rw [parU]
    split
    · rename_i hc
      exact Or.inr ⟨_, rfl, by omega, by omega, hc⟩
    · rcases parU_range ts m k (by omega) with h1 | ⟨p, h1, h2, h3, h4⟩
      · exact Or.inl h1
      · exact Or.inr ⟨p, h1, by omega, h3, h4⟩

theorem parU_some (ts : List Nod) (m : Int) (p : Nat) (hp : p < ts.length) (hc : hasI (kidL (ts.getD p noNod)) m = true) : ∀ k, k ≤ ts.length → ts.length - k ≤ p → 0 ≤ parU ts m k
  | 0, _, h => by omega
  | k + 1, hk, h => by
    rw [parU]
    split
    · omega
    · rename_i hn
      by_cases e : ts.length - (k + 1) = p
      · rw [e] at hn
        exact absurd hc hn
      · exact parU_some ts m p hp hc k (by omega) (by omega)

/-- Kids stand ahead of their node. -/
theorem kids_low {ts : List Nod} {st : List Nat} (h : Right ts st) {j : Nat} (hj : j < ts.length) {m : Int} (hm : hasI (kidL (ts.getD j noNod)) m = true) : ∃ c : Nat, m = c ∧ c < j ∧ st.getD j 0 ≤ c := by
  obtain ⟨hF, h0, k0, k1, k2, k3⟩ := h.2 j hj
  have hs : ∀ c, c < j → st.getD c 0 ≤ c := fun c hc => (h.2 c (by omega)).2.1
  rcases (by have := arN_le (ts.getD j noNod).kind; omega : arN (ts.getD j noNod).kind = 0 ∨ arN (ts.getD j noNod).kind = 1 ∨ arN (ts.getD j noNod).kind = 2 ∨ arN (ts.getD j noNod).kind = 3) with e | e | e | e
  · rw [kidL_0 e] at hm
    simp [hasI] at hm
  · obtain ⟨a, ha, h1, h2⟩ := k1 e
    rw [kidL_1 e, ha] at hm
    simp [hasI] at hm
    have := hs a (by omega)
    exact ⟨a, hm, by omega, by omega⟩
  · obtain ⟨a, b, ha, hb, h1, h2, h3⟩ := k2 e
    rw [kidL_2 e, ha, hb] at hm
    simp [hasI] at hm
    have q1 := hs b (by omega)
    have q2 := hs a (by omega)
    rcases hm with rfl | rfl
    · exact ⟨a, rfl, by omega, by omega⟩
    · exact ⟨b, rfl, by omega, by omega⟩
  · obtain ⟨a, b, c, ha, hb, hc, h1, h2, h3, h4⟩ := k3 e
    rw [kidL_3 e, ha, hb, hc] at hm
    simp [hasI] at hm
    have q1 := hs c (by omega)
    have q2 := hs b (by omega)
    have q3 := hs a (by omega)
    rcases hm with rfl | rfl | rfl
    · exact ⟨a, rfl, by omega, by omega⟩
    · exact ⟨b, rfl, by omega, by omega⟩
    · exact ⟨c, rfl, by omega, by omega⟩

/-- Each node of a part but its last one has a parent in it. -/
theorem kid_has {ts : List Nod} {st : List Nat} (h : Right ts st) : ∀ (n j : Nat), j < n → j < ts.length → ∀ i : Nat, st.getD j 0 ≤ i → i < j → ∃ p, p ≤ j ∧ i < p ∧ hasI (kidL (ts.getD p noNod)) (i : Int) = true
  | 0, j, hn, _, _, _, _ => by omega
  | n + 1, j, hn, hj, i, h1, h2 => by
    obtain ⟨hF, h0, k0, k1, k2, k3⟩ := h.2 j hj
    have hs : ∀ c, c < j → st.getD c 0 ≤ c := fun c hc => (h.2 c (by omega)).2.1
    have deep : ∀ c : Nat, c < j → hasI (kidL (ts.getD j noNod)) (c : Int) = true → st.getD c 0 ≤ i → i ≤ c → ∃ p, p ≤ j ∧ i < p ∧ hasI (kidL (ts.getD p noNod)) (i : Int) = true := fun c hc hk q1 q2 => by
      by_cases e : i = c
      · exact ⟨j, by omega, by omega, by rw [e]; exact hk⟩
      · obtain ⟨p, p1, p2, p3⟩ := kid_has h n c (by omega) (by omega) i q1 (by omega)
        exact ⟨p, by omega, p2, p3⟩
    rcases (by have := arN_le (ts.getD j noNod).kind; omega : arN (ts.getD j noNod).kind = 0 ∨ arN (ts.getD j noNod).kind = 1 ∨ arN (ts.getD j noNod).kind = 2 ∨ arN (ts.getD j noNod).kind = 3) with e | e | e | e
    · have := k0 e
      omega
    · obtain ⟨a, ha, g1, g2⟩ := k1 e
      exact deep a (by omega) (by rw [kidL_1 e, ha]; simp [hasI]) (by omega) (by omega)
    · obtain ⟨a, b, ha, hb, g1, g2, g3⟩ := k2 e
      have q1 := hs b (by omega)
      by_cases hb' : st.getD b 0 ≤ i
      · exact deep b (by omega) (by rw [kidL_2 e, ha, hb]; simp [hasI]) hb' (by omega)
      · exact deep a (by omega) (by rw [kidL_2 e, ha, hb]; simp [hasI]) (by omega) (by omega)
    · obtain ⟨a, b, c, ha, hb, hc, g1, g2, g3, g4⟩ := k3 e
      have q1 := hs c (by omega)
      have q2 := hs b (by omega)
      by_cases hc' : st.getD c 0 ≤ i
      · exact deep c (by omega) (by rw [kidL_3 e, ha, hb, hc]; simp [hasI]) hc' (by omega)
      · by_cases hb' : st.getD b 0 ≤ i
        · exact deep b (by omega) (by rw [kidL_3 e, ha, hb, hc]; simp [hasI]) hb' (by omega)
        · exact deep a (by omega) (by rw [kidL_3 e, ha, hb, hc]; simp [hasI]) (by omega) (by omega)

/-- A right program: kids ahead, and parents behind. -/
theorem right_par {ts : List Nod} (h : nodesB ts = true) : ts.length ≤ 150 ∧ 1 ≤ ts.length ∧ (∃ st, Right ts st) ∧ (∀ (m : Int), parP ts m = -1 ∨ ∃ p c : Nat, parP ts m = p ∧ p < ts.length ∧ m = c ∧ c < p ∧ hasI (kidL (ts.getD p noNod)) m = true) ∧
    (∀ i : Nat, i + 1 < ts.length → ∃ p, i < p ∧ p < ts.length ∧ hasI (kidL (ts.getD p noNod)) (i : Int) = true) := by
  obtain ⟨h1, h2, st, hS⟩ := nodesB_starts h
  have hR := right_of (by omega) hS
  refine ⟨h2, h1, ⟨_, hR⟩, fun m => ?_, fun i hi => ?_⟩
  · rcases parU_range ts m ts.length (Nat.le_refl _) with e | ⟨p, e, _, hp, hc⟩
    · exact Or.inl e
    · obtain ⟨c, rfl, hc1, _⟩ := kids_low hR hp hc
      exact Or.inr ⟨p, c, e, hp, rfl, hc1, hc⟩
  · have h0 : st.getD (ts.length - 1) 0 = 0 := by
      have := (Bool.and_eq_true_iff.1 h).2
      rw [hS] at this
      simpa using this
    obtain ⟨p, p1, p2, p3⟩ := kid_has hR (ts.length) (ts.length - 1) (by omega) (by omega) i (by rw [getD_nat, h0]; simp) (by omega)
    exact ⟨p, p2, by omega, p3⟩
end

section
open Go.ChangeShapes Go.WideShapes Go.ChangeAt Go.RowKit

def markL (k : Nat) : List UInt8 := 109 :: Lib.decDigits k
def markS (k : Nat) : ByteArray := ⟨(markL k).toArray⟩

theorem mark_join (L : List UInt8) : ByteArray.mk #[109] ++ ByteArray.mk L.toArray = ByteArray.mk (109 :: L).toArray := by
  rw [show (#[109] : Array UInt8) = [109].toArray from rfl, ByteArray.mk_append_mk]
  simp
end

section
open Go.ChangeShapes Go.WideShapes Go.ChangeAt Go.RowKit

/-- Numbers that lie in a block. -/
def IntAt (w : World) (g : Nat) (st : List Int) : Prop := ∀ i, i < st.length → w.cell? ⟨g, i, none⟩ = some (.int .i64 (st.getD i 0))

theorem int_lt {w : World} {g o : Nat} {v : Value} (h : w.cell? ⟨g, o, none⟩ = some v) : g < w.heap.size := nod_lt h

theorem IntAt.lt {w : World} {g : Nat} {st : List Int} (h : IntAt w g st) (hl : 0 < st.length) : g < w.heap.size := int_lt (h 0 hl)

theorem IntAt.below {w w' : World} {g B : Nat} {st : List Int} (h : IntAt w g st) (hb : Below B w w') (hg : 0 < st.length → g < B) : IntAt w' g st :=
  fun i hi => (World.cell?_of_block (hb.block g (hg (by omega)))).trans (h i hi)

/-- The row of a block that opens with these numbers. -/
def intRow (st : List Int) (sp : List Value) : Array Value := (st.map (Value.int .i64) ++ sp).toArray

theorem int_of_row {w : World} {g : Nat} {st : List Int} {sp : List Value} {t : TypeId} {z : Nat × Nat} (h : 0 < st.length → w.heap[g]? = some (.cells (intRow st sp) t z)) : IntAt w g st := by
  intro i hi
  have h' := h (by omega)
  rw [cell_of_row _ _ _ _ _ _ h']
  simp [intRow, List.getD, List.getElem?_append, hi]

theorem ownI_open {w : World} {B : Nat} {v : Value} {st : List Int} (h : ownI w B v st) :
    ∃ (a : Option Addr) (g cap : Nat) (sp : List Value), v = .slice a st.length cap ∧ (0 < st.length → a = some ⟨g, 0, none⟩) ∧ B ≤ g ∧ (0 < st.length → w.heap[g]? = some (.cells (intRow st sp) 3 (0, 0))) := by
  rcases h.2 with ⟨rfl, hz⟩ | ⟨g, cap, cur, rfl, hb, hg, hn, hm, hs, ht⟩
  · exact ⟨none, B, 0, [], by rw [hz], fun h => absurd h (by omega), Nat.le_refl _, fun h => absurd h (by omega)⟩
  · have hc : cur = intRow st (cur.toList.drop (st.length * 1)) := by
      apply Array.toList_inj.1
      unfold intRow
      rw [← ht]
      simp
    exact ⟨some ⟨g, 0, none⟩, g, cap, cur.toList.drop (st.length * 1), rfl, fun _ => rfl, hb, fun _ => by rw [← hc]; exact hg⟩

/-- A slice opens with these numbers, in a block that lies from B on, of whatever type. -/
def holdI (w : World) (B : Nat) (v : Value) (st : List Int) : Prop :=
  ∃ (ty : TypeId) (a : Option Addr) (g cap : Nat) (sp : List Value), v = .slice a st.length cap ∧ (0 < st.length → a = some ⟨g, 0, none⟩) ∧ B ≤ g ∧ (0 < st.length → w.heap[g]? = some (.cells (intRow st sp) ty (0, 0)))

theorem ownI_hold {w : World} {B : Nat} {v : Value} {st : List Int} (h : ownI w B v st) : holdI w B v st := ⟨3, ownI_open h⟩

/-- The marks that are written. -/
def intMkd (st : List Int) : Nat → List Int
  | 0 => st
  | k + 1 => (intMkd st k).set k (1 + k : Nat)

theorem intMkd_length (st : List Int) : ∀ k, (intMkd st k).length = st.length
  | 0 => rfl
  | k + 1 => by rw [intMkd, List.length_set, intMkd_length st k]

theorem intMkd_at (st : List Int) : ∀ (k i : Nat), i < k → i < st.length → (intMkd st k).getD i 0 = (1 + i : Nat)
  | 0, i, h, _ => by omega
  | k + 1, i, h, hl => by
    rw [intMkd]
    by_cases hik : i = k
    · subst hik
      simp [List.getD, intMkd_length, hl]
    · have ih := intMkd_at st k i (by omega) hl
      have hki : ¬ k = i := fun e => hik e.symm
      simp only [List.getD, List.getElem?_set, hki, if_false] at ih ⊢
      exact ih

theorem intRow_set (st : List Int) (sp : List Value) (k : Nat) (x : Int) (h : k < st.length) : (intRow st sp).setIfInBounds k (.int .i64 x) = intRow (st.set k x) sp := by
  unfold intRow
  rw [List.setIfInBounds_toArray, List.set_append_left _ _ (by simpa using h), List.map_set]
end

section
open Go.ChangeShapes Go.WideShapes Go.ChangeAt Go.RowKit

theorem has_step (st : List Int) (x : Int) (k : Nat) (hk : k < st.length) : hasI (st.drop k) x = (x == st.getD k 0 || hasI (st.drop (k + 1)) x) := by
  unfold hasI
  rw [List.drop_eq_getElem_cons hk, List.contains_cons]
  simp [List.getD, hk]

theorem kids_at {w : World} {g : Nat} {t : TypeId} {a b c k : Int} (h : w.heap[g]? = some (.cells #[.int .i64 a, .int .i64 b, .int .i64 c] t (0, 0))) : IntAt w g ([a, b, c].take (arN k)) := by
  intro i hi
  have har := arN_le k
  rw [cell_of_row _ _ _ _ _ _ h]
  have hi' : i < arN k := by simp at hi; omega
  rcases (by omega : i = 0 ∨ i = 1 ∨ i = 2) with rfl | rfl | rfl <;> simp [List.getD, hi']

theorem kidL_take (t : Nod) : kidL t = [t.a, t.b, t.c].take (arN t.kind) := by
  unfold kidL
  rfl
end

section
open Go.ChangeShapes Go.WideShapes Go.ChangeAt Go.RowKit

set_option maxRecDepth 20000 in
theorem lib_index (a : Option Addr) (g cap : Nat) (st : List Int) (x : Int) (hl : st.length ≤ 1048576) (ha : 0 < st.length → a = some ⟨g, 0, none⟩) (w : World) (hA : IntAt w g st) :
    Calls Tryz.prog 80 #[.slice a st.length cap, .int .i64 x] w fun e w' => (∃ r : Int, e = .returned (.int .i64 r) ∧ (hasI st x = decide (r ≥ 0))) ∧ Below w.heap.size w w' := by
  have HA : Hid (IntAt w g st) := hA
  clear hA
  go_enter Tryz.func80, Tryz.ntmps80
  go_wp2
  go_loopw [8] (fun i wr => ∃ k : Nat, k ≤ st.length ∧ i = .int .i64 k ∧ Hid (hasI st x = hasI (st.drop k) x) ∧ Below w.heap.size w wr) (fun i _ => st.length - (intOf i).toNat)
  case atStart => exact ⟨0, by omega, rfl, rfl, Below.refl _ _⟩
  case round =>
    obtain ⟨k, hk, rfl, HC, hbl⟩ := hrel
    by_cases hin : k < st.length
    · have e1 : (k : Int) < st.length := by omega
      obtain rfl := ha (by omega)
      have t := (HA.out.below hbl (fun h => HA.out.lt h)) k hin
      have hst := has_step st x k hin
      generalize st.getD k 0 = y at t hst
      by_cases hy : y = x
      · subst hy
        have HV : Hid (hasI st y = true) := by show hasI st y = true; rw [HC.out, hst]; simp
        clear hst HC
        go_wp2
        go_ret
        exact ⟨⟨_, rfl, by rw [HV.out]; exact (decide_eq_true (by omega)).symm⟩, hbl⟩
      · have hy' : ¬ x = y := fun e => hy e.symm
        have HV : Hid (hasI st x = hasI (st.drop (k + 1)) x) := by
          show hasI st x = _
          rw [HC.out, hst, beq_eq_false_iff_ne.2 hy', Bool.false_or]
        clear hst HC
        go_wp2
        go_roundw
        case rel => exact ⟨k + 1, by omega, by go_num, HV.out, hbl⟩
        case measure => simp [intOf]; omega
    · have HV : Hid (hasI st x = false) := by
        show hasI st x = false
        rw [HC.out, List.drop_eq_nil_of_le (by omega)]; rfl
      clear HC
      go_wp2
      go_ret
      exact ⟨⟨_, rfl, by rw [HV.out]; rfl⟩, hbl⟩

theorem lib_contains (a : Option Addr) (g cap : Nat) (st : List Int) (x : Int) (hl : st.length ≤ 1048576) (ha : 0 < st.length → a = some ⟨g, 0, none⟩) (w : World) (hA : IntAt w g st) :
    Calls Tryz.prog 43 #[.slice a st.length cap, .int .i64 x] w fun e w' => e = .returned (.bool (hasI st x)) ∧ Below w.heap.size w w' := by
  have HA : Hid (IntAt w g st) := hA
  clear hA
  go_enter Tryz.func43, Tryz.ntmps43
  go_wp2_with fail
  refine (lib_index a g cap st x hl ha w HA.out).mono ?_
  rintro e w1 ⟨⟨r, rfl, hr⟩, b1⟩
  have HR : Hid (hasI st x = decide (r ≥ 0)) := hr
  clear hr
  go_wp2
  go_ret
  exact ⟨by rw [HR.out] <;> rfl, b1⟩

theorem kd_name : (Tryz.f23.name == "runtime.NumGoroutine") = false := by kernel_rfl
theorem kd_body : Tryz.f23.body.isNone = false := by kernel_rfl
theorem ct_name : (Tryz.f43.name == "runtime.NumGoroutine") = false := by kernel_rfl
theorem ct_body : Tryz.f43.body.isNone = false := by kernel_rfl

theorem cells7r {w : World} {g : Nat} {k a b c n : Int} {s o : ByteArray} {t : TypeId} {z : Nat × Nat} (h : w.heap[g]? = some (.cells #[.int .i64 k, .int .i64 a, .int .i64 b, .int .i64 c, .int .i64 n, .string s, .string o] t z)) :
    w.cell? ⟨g, 0, none⟩ = some (.int .i64 k) ∧ w.cell? ⟨g, 1, none⟩ = some (.int .i64 a) ∧ w.cell? ⟨g, 2, none⟩ = some (.int .i64 b) ∧ w.cell? ⟨g, 3, none⟩ = some (.int .i64 c) ∧ w.cell? ⟨g, 4, none⟩ = some (.int .i64 n) ∧ w.cell? ⟨g, 5, none⟩ = some (.string s) ∧ w.cell? ⟨g, 6, none⟩ = some (.string o) := by
  refine ⟨?_, ?_, ?_, ?_, ?_, ?_, ?_⟩ <;> (rw [cell_of_row _ _ _ _ _ _ h]; rfl)

set_option maxHeartbeats 1000000 in
set_option maxRecDepth 20000 in
theorem impl_isKid (k a b c n : Int) (s o : ByteArray) (i : Int) (ib : Nat) (w : World) (hc : w.cell? ⟨ib, 0, none⟩ = some (.int .i64 i)) :
    Calls Tryz.prog 42 #[.agg #[.int .i64 k, .int .i64 a, .int .i64 b, .int .i64 c, .int .i64 n, .string s, .string o], .pointer (some ⟨ib, 0, none⟩)] w fun e w' =>
      e = .returned (.bool (hasI ([a, b, c].take (arN k)) i)) ∧ Below w.heap.size w w' := by
  have hib : ib < w.heap.size := nod_lt hc
  obtain ⟨wa, hwa⟩ : ∃ wa, w.alloc (.cells #[.int .i64 k, .int .i64 a, .int .i64 b, .int .i64 c, .int .i64 n, .string s, .string o] 44) = wa := ⟨_, rfl⟩
  have HWA : Hid (w.alloc (.cells #[.int .i64 k, .int .i64 a, .int .i64 b, .int .i64 c, .int .i64 n, .string s, .string o] 44) = wa) := hwa
  have rf : wa.heap[w.heap.size]? = some (.cells #[.int .i64 k, .int .i64 a, .int .i64 b, .int .i64 c, .int .i64 n, .string s, .string o] 44 (0, 0)) := by rw [← hwa]; exact (MapKept.heap_alloc w _).1
  have BA : Hid (Below w.heap.size w wa) := by rw [← hwa]; exact (Below.refl _ w).alloc (Nat.le_refl _) _
  have ca : wa.cell? ⟨ib, 0, none⟩ = some (.int .i64 i) := (World.cell?_of_block (BA.out.block ib hib)).trans hc
  have sa : wa.heap.size = w.heap.size + 1 := by rw [← hwa]; simp
  have hlen : ([a, b, c].take (arN k)).length = arN k := by have := arN_le k; simp; omega
  have har := arN_le k
  have HI : Hid (∀ (w : World), Calls Tryz.prog 23 #[.agg #[.int .i64 k, .int .i64 a, .int .i64 b, .int .i64 c, .int .i64 n, .string s, .string o]] w fun e w' =>
      ∃ G, e = .returned (.slice (some ⟨G, 0, none⟩) ([a, b, c].take (arN k)).length 3) ∧ IntAt w' G ([a, b, c].take (arN k)) ∧ Below w.heap.size w w') := fun w => by
    refine (impl_kids k a b c n s o w).mono ?_
    rintro e w1 ⟨rfl, hg, hb⟩
    exact ⟨_, by rw [hlen], kids_at hg, hb⟩
  have hL : ([a, b, c].take (arN k)).length ≤ 3 := by omega
  generalize hst : [a, b, c].take (arN k) = st at *
  clear hst hlen har hwa
  obtain ⟨q0, q1, q2, q3, q4, q5, q6⟩ := cells7r rf
  clear rf hc
  go_enter Tryz.func42, Tryz.ntmps42
  go_wp2
  rw [HWA.out]
  go_region_law (first
    | (refine step_call rfl 23 #[.tmp 4] #[44] rfl #[.agg #[.int .i64 k, .int .i64 a, .int .i64 b, .int .i64 c, .int .i64 n, .string s, .string o]] (by simp [Act.eval]) Tryz.func23 kd_name kd_body _ (HI.out _) ?_; rintro e w3 ⟨G, rfl, k3, b3⟩; have b3' : Below wa.heap.size wa w3 := (Below.refl _ wa).drew.trans b3; have c3 : w3.cell? ⟨ib, 0, none⟩ = some (.int .i64 i) := (World.cell?_of_block (b3'.block ib (by omega))).trans ca; have K3 : Hid (IntAt w3 G st) := k3; have B3 : Hid (Below w.heap.size w w3) := BA.out.trans (b3'.mono (by omega)); have s3 := b3'.size; clear b3 b3' k3; refine ⟨_, rfl, ?_⟩)
    | (refine step_call rfl 43 #[.tmp 5, .tmp 6] #[41, 3] rfl #[.slice (some ⟨G, 0, none⟩) st.length 3, .int .i64 i] (by simp [Act.eval]) Tryz.func43 ct_name ct_body _ (lib_contains _ G 3 st i (by omega) (fun _ => rfl) w3 K3.out) ?_; rintro e w4 ⟨rfl, b4⟩; have B4 : Hid (Below w.heap.size w w4) := B3.out.trans (b4.mono (by omega)); clear b4; refine ⟨_, rfl, ?_⟩))
  all_goals
    go_wp2
    go_ret
    exact ⟨rfl, B4.out⟩

set_option maxHeartbeats 1000000 in
set_option maxRecDepth 20000 in
theorem lib_indexFunc (a : Option Addr) (g cap : Nat) (ts : List Nod) (i : Int) (ib : Nat) (hne : 0 < ts.length → a = some ⟨g, 0, none⟩) (hl : ts.length ≤ 1048576) (w : World) (hA : NodAt w g ts) (hc : w.cell? ⟨ib, 0, none⟩ = some (.int .i64 i)) :
    Calls Tryz.prog 41 #[.slice a ts.length cap, .func (.func 42) #[] #[.pointer (some ⟨ib, 0, none⟩)]] w fun e w' =>
      e = .returned (.int .i64 (parP ts i)) ∧ Below w.heap.size w w' := by
  have HA : Hid (NodAt w g ts) := hA
  have HC : Hid (w.cell? ⟨ib, 0, none⟩ = some (.int .i64 i)) := hc
  have hib : ib < w.heap.size := nod_lt hc
  clear hA hc
  go_enter Tryz.func41, Tryz.ntmps41
  go_wp2
  go_loopw [8] (fun i' wr => ∃ k : Nat, k ≤ ts.length ∧ i' = .int .i64 k ∧ Hid (parP ts i = parU ts i (ts.length - k)) ∧ Below w.heap.size w wr) (fun i' _ => ts.length - (intOf i').toNat)
  case atStart => exact ⟨0, by omega, rfl, rfl, Below.refl _ _⟩
  case round =>
    obtain ⟨k, hk, rfl, HP0, hbl⟩ := hrel
    by_cases hin : k < ts.length
    · have e1 : (k : Int) < ts.length := by omega
      obtain rfl := hne (by omega)
      have t := (HA.out.below hbl (fun h => HA.out.lt h)) k hin
      have hp := @parU_at ts i k hin
      rw [← HP0.out, kidL_take] at hp
      have HP : Hid (_) := hp
      clear hp HP0
      generalize ts.getD k noNod = x at t HP
      obtain ⟨x0, x1, x2, x3, x4, x5, x6⟩ := x
      have q0 : wr.cell? ⟨g, k * 7, none⟩ = some (.int .i64 x0) := t.c0
      have q1 : wr.cell? ⟨g, k * 7 + 1, none⟩ = some (.int .i64 x1) := t.c1
      have q2 : wr.cell? ⟨g, k * 7 + 2, none⟩ = some (.int .i64 x2) := t.c2
      have q3 : wr.cell? ⟨g, k * 7 + 3, none⟩ = some (.int .i64 x3) := t.c3
      have q4 : wr.cell? ⟨g, k * 7 + 4, none⟩ = some (.int .i64 x4) := t.c4
      have q5 : wr.cell? ⟨g, k * 7 + 5, none⟩ = some (.string x5) := t.c5
      have q6 : wr.cell? ⟨g, k * 7 + 6, none⟩ = some (.string x6) := t.c6
      clear t
      go_wp2_with fail
      refine (impl_isKid x0 x1 x2 x3 x4 x5 x6 i ib wr ((World.cell?_of_block (hbl.block ib hib)).trans HC.out)).mono ?_
      rintro e w3 ⟨rfl, hb3⟩
      have s3 := hbl.size
      have HB3 : Hid (Below w.heap.size w w3) := hbl.trans (hb3.mono (by omega))
      clear hb3 q0 q1 q2 q3 q4 q5 q6
      change Hid (parP ts i = if hasI ([x1, x2, x3].take (arN x0)) i = true then (k : Int) else parU ts i (ts.length - (k + 1))) at HP
      generalize hasI ([x1, x2, x3].take (arN x0)) i = hv at *
      cases hc : hv
      · have HV : Hid (parP ts i = parU ts i (ts.length - (k + 1))) := by
          show parP ts i = _
          rw [HP.out]
          exact if_neg (by rw [hc]; exact Bool.false_ne_true)
        clear HP hc
        go_wp2
        go_roundw
        case rel => exact ⟨k + 1, by omega, by go_num, HV.out, HB3.out⟩
        case measure => simp [intOf]; omega
      · have HV : Hid (parP ts i = k) := by
          show parP ts i = _
          rw [HP.out]
          exact if_pos hc
        clear HP hc
        go_wp2
        go_ret
        exact ⟨by rw [HV.out] <;> rfl, HB3.out⟩
    · have HV : Hid (parP ts i = -1) := by
        show parP ts i = -1
        rw [HP0.out, show ts.length - k = 0 by omega]; rfl
      clear HP0
      go_wp2
      go_ret
      exact ⟨by rw [HV.out] <;> rfl, hbl⟩

set_option maxRecDepth 20000 in
theorem impl_parent (a : Option Addr) (g cap : Nat) (ts : List Nod) (i : Int) (hne : 0 < ts.length → a = some ⟨g, 0, none⟩) (hl : ts.length ≤ 1048576)
    (hst : ∀ i, i < ts.length → (ts.getD i noNod).name.size ≤ maxLen ∧ (ts.getD i noNod).other.size ≤ maxLen) (w : World) (hA : NodAt w g ts) :
    Calls Tryz.prog 21 #[.slice a ts.length cap, .int .i64 i] w fun e w' => e = .returned (.int .i64 (parB ts i)) ∧ Below w.heap.size w w' := by
  have HA : Hid (NodAt w g ts) := hA
  have HT : Hid (∀ i, i < ts.length → (ts.getD i noNod).name.size ≤ maxLen ∧ (ts.getD i noNod).other.size ≤ maxLen) := hst
  obtain ⟨wa, hwa⟩ : ∃ wa, w.alloc (.cells #[.int .i64 i] 3) = wa := ⟨_, rfl⟩
  have HWA : Hid (w.alloc (.cells #[.int .i64 i] 3) = wa) := hwa
  have rf : wa.heap[w.heap.size]? = some (.cells #[.int .i64 i] 3 (0, 0)) := by rw [← hwa]; exact (MapKept.heap_alloc w _).1
  have BA : Hid (Below w.heap.size w wa) := by rw [← hwa]; exact (Below.refl _ w).alloc (Nat.le_refl _) _
  have CA : Hid (wa.cell? ⟨w.heap.size, 0, none⟩ = some (.int .i64 i)) := by show wa.cell? _ = _; rw [cell_of_row _ _ _ _ _ _ rf]; rfl
  have sa : wa.heap.size = w.heap.size + 1 := by rw [← hwa]; simp
  have AA : Hid (NodAt wa g ts) := hA.below BA.out (fun h => hA.lt h)
  clear hA hst hwa rf
  go_enter Tryz.func21, Tryz.ntmps21
  go_wp2_with fail
  rw [HWA.out]
  refine (impl_nodes a g cap ts hne hl HT.out wa AA.out).mono ?_
  rintro e w1 ⟨rfl, b1⟩
  have B1 : Hid (Below w.heap.size w w1) := BA.out.trans (b1.mono (by omega))
  have C1 : Hid (w1.cell? ⟨w.heap.size, 0, none⟩ = some (.int .i64 i)) := (World.cell?_of_block (b1.block w.heap.size (by omega))).trans CA.out
  have A1 : Hid (NodAt w1 g ts) := HA.out.below B1.out (fun h => HA.out.lt h)
  have s1 := b1.size
  clear b1
  cases hok : nodesB ts
  · have HV : Hid (parB ts i = -1) := by show parB ts i = -1; rw [parB, if_neg (by rw [hok]; exact Bool.false_ne_true)]
    clear hok
    go_wp2
    go_ret
    exact ⟨by rw [HV.out] <;> rfl, B1.out⟩
  · have HV : Hid (parB ts i = parP ts i) := by show parB ts i = _; rw [parB, if_pos hok]
    clear hok
    go_wp2_with fail
    refine (lib_indexFunc a g cap ts i w.heap.size hne hl w1 A1.out C1.out).mono ?_
    rintro e w2 ⟨rfl, b2⟩
    go_wp2
    go_ret
    exact ⟨by rw [HV.out] <;> rfl, B1.out.trans (b2.mono (by omega))⟩
end

section
open Go.ChangeShapes Go.WideShapes Go.ChangeAt Go.RowKit

/-- Are two nodes the same, field by field? -/
def nodSame (x y : Nod) : Bool := x.kind == y.kind && x.a == y.a && x.b == y.b && x.c == y.c && x.n == y.n && x.name.toList == y.name.toList && x.other.toList == y.other.toList

theorem nod_bytes_ext {a b : ByteArray} (h : a.toList = b.toList) : a = b := by
  rw [ByteArray.toList_eq, ByteArray.toList_eq] at h
  cases a; cases b
  simp only at h
  congr 1
  exact Array.toList_inj.1 h

theorem nodSame_iff (x y : Nod) : nodSame x y = true ↔ x = y := by
  constructor
  · intro h
    simp only [nodSame, Bool.and_eq_true, beq_iff_eq] at h
    obtain ⟨⟨⟨⟨⟨⟨h0, h1⟩, h2⟩, h3⟩, h4⟩, h5⟩, h6⟩ := h
    have h5 := nod_bytes_ext h5
    have h6 := nod_bytes_ext h6
    cases x; cases y
    simp_all
  · rintro rfl
    simp [nodSame]

theorem nod_neq (x y : Nod) (w : World) : (binOp .neq 44 (.agg (nodCells x).toArray) (.agg (nodCells y).toArray)).run Tryz.prog w = .ok (.bool (!nodSame x y)) w := by
  have hu : Tryz.prog.underlying 44 = some (.struct (Tryz.prog.fieldsOf 44)) := by kernel_rfl
  rw [run_neq_struct, run_equalIn_agg _ _ _ _ _ hu (by kernel_rfl)]
  obtain ⟨x0, x1, x2, x3, x4, x5, x6⟩ := x
  obtain ⟨y0, y1, y2, y3, y4, y5, y6⟩ := y
  simp only [Program.fieldsOf, Tryz.underlying44, nodCells, nodSame]
  simp [go_sem, Op.eqFields, Tryz.underlying3, Tryz.underlying9]
  repeat' split
  all_goals simp [*]

theorem nod_eql (x y : Nod) (w : World) : (binOp .eql 44 (.agg (nodCells x).toArray) (.agg (nodCells y).toArray)).run Tryz.prog w = .ok (.bool (nodSame x y)) w := by
  have hu : Tryz.prog.underlying 44 = some (.struct (Tryz.prog.fieldsOf 44)) := by kernel_rfl
  rw [run_eql_struct, run_equalIn_agg _ _ _ _ _ hu (by kernel_rfl)]
  obtain ⟨x0, x1, x2, x3, x4, x5, x6⟩ := x
  obtain ⟨y0, y1, y2, y3, y4, y5, y6⟩ := y
  simp only [Program.fieldsOf, Tryz.underlying44, nodCells, nodSame]
  simp [go_sem, Op.eqFields, Tryz.underlying3, Tryz.underlying9]
  repeat' split
  all_goals simp [*]

/-- Are two lists of nodes the same? -/
def sameNod (ts us : List Nod) : Bool := ts.length == us.length && (List.range ts.length).all fun i => nodSame (ts.getD i noNod) (us.getD i noNod)

theorem sameNod_yes {ts us : List Nod} (hl : ts.length = us.length) (h : ∀ j, j < ts.length → nodSame (ts.getD j noNod) (us.getD j noNod) = true) : sameNod ts us = true := by
  simp only [sameNod, hl, beq_self_eq_true, Bool.true_and, List.all_eq_true, List.mem_range]
  intro j hj
  exact h j (by omega)

theorem sameNod_no {ts us : List Nod} {j : Nat} (hj : j < ts.length) (h : nodSame (ts.getD j noNod) (us.getD j noNod) = false) : sameNod ts us = false := by
  cases hs : sameNod ts us with
  | false => rfl
  | true =>
    simp only [sameNod, Bool.and_eq_true, List.all_eq_true, List.mem_range] at hs
    rw [hs.2 j hj] at h
    cases h

theorem sameNod_len {ts us : List Nod} (h : ¬ ts.length = us.length) : sameNod ts us = false := by
  simp [sameNod, h]
end

section
open Go.ChangeShapes Go.WideShapes Go.ChangeAt Go.RowKit

set_option maxHeartbeats 2000000 in
set_option maxRecDepth 20000 in
theorem equal_same (a b : Option Addr) (g h ca cb : Nat) (ts us : List Nod) (hl : ts.length ≤ 1048576) (hl2 : us.length ≤ 1048576) (ha : 0 < ts.length → a = some ⟨g, 0, none⟩) (hb : 0 < us.length → b = some ⟨h, 0, none⟩) (w : World) (hA : NodAt w g ts) (hB : NodAt w h us) :
    Calls Tryz.prog 31 #[.slice a ts.length ca, .slice b us.length cb] w fun e w' => e = .returned (.bool (sameNod ts us)) ∧ Below w.heap.size w w' := by
  have HA : Hid (NodAt w g ts) := hA
  have HB : Hid (NodAt w h us) := hB
  clear hA hB
  by_cases hlen : ts.length = us.length
  · have HL : Hid (ts.length = us.length) := hlen
    rw [← hlen]
    clear hlen
    go_enter Tryz.func31, Tryz.ntmps31
    go_wp2
    go_loopw [13] (fun i wr => ∃ k : Nat, k ≤ ts.length ∧ i = .int .i64 k ∧ Hid (∀ j, j < k → nodSame (ts.getD j noNod) (us.getD j noNod) = true) ∧ Below w.heap.size w wr) (fun i _ => ts.length - (intOf i).toNat)
    case atStart => exact ⟨0, by omega, rfl, (fun j hj => absurd hj (by omega)), Below.refl _ _⟩
    case round =>
      obtain ⟨k, hk, rfl, HJ, hbl⟩ := hrel
      by_cases hin : k < ts.length
      · have e1 : (k : Int) < ts.length := by omega
        obtain rfl := ha (by omega)
        obtain rfl := hb (by have := HL.out; omega)
        have t := (HA.out.below hbl (fun h => HA.out.lt h)) k hin
        have u := (HB.out.below hbl (fun h => HB.out.lt h)) k (by have := HL.out; omega)
        have HN : Hid (∀ v : Bool, nodSame (ts.getD k noNod) (us.getD k noNod) = v → (v = true → ∀ j, j < k + 1 → nodSame (ts.getD j noNod) (us.getD j noNod) = true) ∧ (v = false → sameNod ts us = false)) := by
          intro v hv
          refine ⟨fun h j hj => ?_, fun h => sameNod_no hin (by rw [hv]; exact h)⟩
          rcases Nat.lt_or_ge j k with hl | hg
          · exact HJ.out j hl
          · obtain rfl : j = k := by omega
            rw [hv]; exact h
        have hq := nod_neq (ts.getD k noNod) (us.getD k noNod)
        obtain ⟨v, hv⟩ : ∃ v, nodSame (ts.getD k noNod) (us.getD k noNod) = v := ⟨_, rfl⟩
        have HN' := HN.out v hv
        rw [hv] at hq
        clear HN hv
        generalize ts.getD k noNod = x at t hq
        generalize us.getD k noNod = y at u hq
        obtain ⟨x0, x1, x2, x3, x4, x5, x6⟩ := x
        obtain ⟨y0, y1, y2, y3, y4, y5, y6⟩ := y
        have HN2 : Hid ((v = true → ∀ j, j < k + 1 → nodSame (ts.getD j noNod) (us.getD j noNod) = true) ∧ (v = false → sameNod ts us = false)) := HN'
        clear HN'
        have q0 : wr.cell? ⟨g, k * 7, none⟩ = some (.int .i64 x0) := t.c0
        have r0 : wr.cell? ⟨h, k * 7, none⟩ = some (.int .i64 y0) := u.c0
        have q1 : wr.cell? ⟨g, k * 7 + 1, none⟩ = some (.int .i64 x1) := t.c1
        have r1 : wr.cell? ⟨h, k * 7 + 1, none⟩ = some (.int .i64 y1) := u.c1
        have q2 : wr.cell? ⟨g, k * 7 + 2, none⟩ = some (.int .i64 x2) := t.c2
        have r2 : wr.cell? ⟨h, k * 7 + 2, none⟩ = some (.int .i64 y2) := u.c2
        have q3 : wr.cell? ⟨g, k * 7 + 3, none⟩ = some (.int .i64 x3) := t.c3
        have r3 : wr.cell? ⟨h, k * 7 + 3, none⟩ = some (.int .i64 y3) := u.c3
        have q4 : wr.cell? ⟨g, k * 7 + 4, none⟩ = some (.int .i64 x4) := t.c4
        have r4 : wr.cell? ⟨h, k * 7 + 4, none⟩ = some (.int .i64 y4) := u.c4
        have q5 : wr.cell? ⟨g, k * 7 + 5, none⟩ = some (.string x5) := t.c5
        have r5 : wr.cell? ⟨h, k * 7 + 5, none⟩ = some (.string y5) := u.c5
        have q6 : wr.cell? ⟨g, k * 7 + 6, none⟩ = some (.string x6) := t.c6
        have r6 : wr.cell? ⟨h, k * 7 + 6, none⟩ = some (.string y6) := u.c6
        have hq' : ∀ w : World, (binOp .neq 44 (.agg #[.int .i64 x0, .int .i64 x1, .int .i64 x2, .int .i64 x3, .int .i64 x4, .string x5, .string x6]) (.agg #[.int .i64 y0, .int .i64 y1, .int .i64 y2, .int .i64 y3, .int .i64 y4, .string y5, .string y6])).run Tryz.prog w = .ok (.bool (!v)) w := hq
        clear t u hq
        cases v
        · have HF : Hid (sameNod ts us = false) := HN2.out.2 rfl
          clear HN2
          go_wp2
          go_quiet (fail)
          go_wp2
          go_ret
          exact ⟨by rw [HF.out]; rfl, below_drew_n hbl _⟩
        · have HT : Hid (∀ j, j < k + 1 → nodSame (ts.getD j noNod) (us.getD j noNod) = true) := HN2.out.1 rfl
          clear HN2
          go_wp2
          go_quiet (fail)
          go_wp2
          go_roundw
          case rel => exact ⟨k + 1, by omega, by go_num, HT.out, below_drew_n hbl _⟩
          case measure => simp [intOf]; omega
      · go_wp2
        go_ret
        exact ⟨by rw [sameNod_yes HL.out (fun j hj => HJ.out j (by omega))]; rfl, hbl⟩
  · have HN : Hid (sameNod ts us = false) := sameNod_len hlen
    have hlen' : ¬ (ts.length : Int) = us.length := by omega
    go_enter Tryz.func31, Tryz.ntmps31
    go_wp2
    go_ret
    exact ⟨by rw [HN.out]; rfl, Below.refl _ _⟩

theorem impl_same (a b : Option Addr) (g h ca cb : Nat) (ts us : List Nod) (hl : ts.length ≤ 1048576) (hl2 : us.length ≤ 1048576) (ha : 0 < ts.length → a = some ⟨g, 0, none⟩) (hb : 0 < us.length → b = some ⟨h, 0, none⟩) (w : World) (hA : NodAt w g ts) (hB : NodAt w h us) :
    Calls Tryz.prog 10 #[.slice a ts.length ca, .slice b us.length cb] w fun e w' => e = .returned (.bool (sameNod ts us)) ∧ Below w.heap.size w w' := by
  have HI : Hid (Calls Tryz.prog 31 #[.slice a ts.length ca, .slice b us.length cb] w fun e w' => e = .returned (.bool (sameNod ts us)) ∧ Below w.heap.size w w') := equal_same a b g h ca cb ts us hl hl2 ha hb w hA hB
  clear hA hB
  go_enter Tryz.func10, Tryz.ntmps10
  go_wp2_with fail
  refine HI.out.mono ?_
  rintro e w1 ⟨rfl, hb1⟩
  go_wp2
  go_ret
  exact ⟨rfl, hb1⟩
end
end Go.Proofs.YtlooccddflpmnaaGreatDoor
