/-
  The printer as it landed: words, names, kids and forms of right nodes. Conditions: written at each theorem.
-/
import Derived.Test.YtlfgnppacjdjkaaDoorWr
import Derived.Test.YtlfgnppacjdjkaaDoorXt
import Derived.Test.YtlfgnppacjdjkaaDoorKi
import Derived.Test.YtlfgnppacjdjkaaDoorIb
import Derived.Test.YtlfgnppacjdjkaaDoorDi
import Derived.Test.YtlfgnppacjdjkaaDoorSt
namespace Go.Proofs.YtlfgnppacjdjkaaDoor
open Go.ChangeShapes Go.WideShapes Go.ChangeAt Go.RowKit
set_option linter.unusedVariables false

/-- How many kids of a form stand ahead of its names. -/
def aheadN (k : Int) : Nat := if k = 19 then 1 else if k = 14 then 2 else 0

theorem impl_fore (k : Int) (w : World) : Calls Tryd.prog 72 #[.int .i64 k] w fun e w' => e = .returned (.int .i64 (aheadN k : Nat)) ∧ w' = w := by
  by_cases h19 : k = 19
  · subst h19
    go_enter Tryd.func72, Tryd.ntmps72
    go_wp2
    go_ret
    exact ⟨rfl, rfl⟩
  by_cases h14 : k = 14
  · subst h14
    go_enter Tryd.func72, Tryd.ntmps72
    go_wp2
    go_ret
    exact ⟨rfl, rfl⟩
  have hv : Hid (aheadN k = 0) := by
    show aheadN k = 0
    unfold aheadN
    rw [if_neg h19, if_neg h14]
  have g19 : (k == 19) = false := by simpa using h19
  have g14 : (k == 14) = false := by simpa using h14
  clear h19 h14
  go_enter Tryd.func72, Tryd.ntmps72
  go_wp2
  go_ret
  exact ⟨by rw [hv.out]; rfl, rfl⟩

/-- What kids write, a blank ahead of each. -/
def kidsT (rec : Nat → List UInt8) : List Int → List UInt8
  | [] => []
  | k :: ks => [32] ++ rec k.toNat ++ kidsT rec ks

def namesT : List ByteArray → List UInt8
  | [] => []
  | s :: ss => [32] ++ s.data.toList ++ namesT ss

/-- A form's names stand behind some kids and ahead of the others. -/
theorem argT_parts {rec : Nat → List UInt8} {k n : Int} (h : IsForm k n) (s o : ByteArray) (a b c : Int) :
    argT rec (goesOn k) [s, o] [a, b, c] = kidsT rec (([a, b, c].take (arN k)).take (aheadN k)) ++ namesT ([s, o].take (nmN k)) ++ kidsT rec (([a, b, c].take (arN k)).drop (aheadN k)) := by
  obtain ⟨h1, h2, h3, h4⟩ := h
  have : k = 3 ∨ k = 4 ∨ k = 5 ∨ k = 6 ∨ k = 7 ∨ k = 8 ∨ k = 9 ∨ k = 10 ∨ k = 11 ∨ k = 13 ∨ k = 14 ∨ k = 15 ∨ k = 16 ∨ k = 17 ∨ k = 18 ∨ k = 19 := by omega
  clear h1 h2 h3 h4
  rcases this with rfl | rfl | rfl | rfl | rfl | rfl | rfl | rfl | rfl | rfl | rfl | rfl | rfl | rfl | rfl | rfl <;> simp [argT, goesOn, arN, aheadN, nmN, kidsT, namesT]

theorem pow_fr {B b : Nat} {w w' : World} (h : PowIs w) (hf : Fr B b w w') (hB : 0 < B) : PowIs w' := var?_below hf.bel gPow hB h

set_option maxHeartbeats 1000000 in
set_option maxRecDepth 20000 in
theorem pr_names (k a0 b0 c0 n : Int) (s o : ByteArray) (B b : Nat) (bs : List UInt8) (nv : Value) (w : World) (hBw : B ≤ w.heap.size) (hP : PrS B b bs true nv w) (hs : s.size ≤ 8) (ho : o.size ≤ 8) (hlen : bs.length + 100 ≤ 1000000) :
    Calls Tryd.prog 75 #[.pointer (some ⟨b, 0, none⟩), .agg #[.int .i64 k, .int .i64 a0, .int .i64 b0, .int .i64 c0, .int .i64 n, .string s, .string o]] w fun e w' => e = .returned (.tuple #[]) ∧ PrS B b (bs ++ namesT ([s, o].take (nmN k))) true nv w' ∧ Fr B b w w' := by
  have HP : Hid (PrS B b bs true nv w) := hP
  have hbl := hP.lt
  have hnm : nmN k ≤ 2 := by
    unfold nmN
    repeat' split
    all_goals omega
  clear hP
  obtain ⟨wa, hwa⟩ : ∃ wa, (w.alloc (.cells #[.int .i64 k, .int .i64 a0, .int .i64 b0, .int .i64 c0, .int .i64 n, .string s, .string o] 49)).alloc (.cells #[.string s, .string o] 147) = wa := ⟨_, rfl⟩
  have HWA : Hid (_) := hwa
  have sa : wa.heap.size = w.heap.size + 2 := by rw [← hwa]; simp
  have BA : Below w.heap.size w wa := by rw [← hwa]; exact ((Below.refl _ w).alloc (Nat.le_refl _) _).alloc (by simp) _
  have RA : Hid (wa.heap[w.heap.size + 1]? = some (.cells #[.string s, .string o] 147 (0, 0))) := by
    rw [← hwa]
    have := (MapKept.heap_alloc (w.alloc (.cells #[.int .i64 k, .int .i64 a0, .int .i64 b0, .int .i64 c0, .int .i64 n, .string s, .string o] 49)) (.cells #[.string s, .string o] 147)).1
    have e1 : (w.alloc (.cells #[.int .i64 k, .int .i64 a0, .int .i64 b0, .int .i64 c0, .int .i64 n, .string s, .string o] 49)).heap.size = w.heap.size + 1 := by simp
    rw [e1] at this
    exact this
  have PA : Hid (PrS B b bs true nv wa) := HP.out.below BA
  have FA : Hid (Fr B b w wa) := Fr.of_below hBw BA
  clear hwa BA
  go_enter Tryd.func75, Tryd.ntmps75
  go_wp2_with fail
  rw [HWA.out]
  refine (impl_names k _).mono ?_
  rintro e w1 ⟨rfl, rfl⟩
  have hnm1 : (nmN k : Int) ≤ 2 := by omega
  have hnm0 : (0 : Int) ≤ (nmN k : Int) := by omega
  have HNS : Hid (∀ m, m < 2 → ([s, o].getD m ByteArray.empty).size ≤ 8) := fun m hm => by
    have : m = 0 ∨ m = 1 := by omega
    rcases this with rfl | rfl
    · exact hs
    · exact ho
  obtain ⟨m, hm⟩ : ∃ m, nmN k = m := ⟨_, rfl⟩
  have HM : Hid (nmN k = m) := hm
  rw [hm] at hnm hnm0 hnm1 ⊢
  clear hm
  go_wp2
  go_loopw [17] (fun i wr => ∃ q : Nat, q ≤ m ∧ i = .int .i64 q ∧ Hid (PrS B b (bs ++ namesT ([s, o].take q)) true nv wr) ∧ Hid (Fr B b w wr) ∧ Hid (wr.heap[w.heap.size + 1]? = some (.cells #[.string s, .string o] 147 (0, 0)))) (fun i _ => m - (intOf i).toNat)
  case atStart => exact ⟨0, by omega, rfl, by simpa [namesT] using PA, FA, RA⟩
  case round =>
    obtain ⟨q, hq, rfl, hP, hF, hR⟩ := hrel
    by_cases hin : q < m
    · have hin' : (q : Int) < m := by omega
      have hlr : w.heap.size + 1 < wr.heap.size := (Array.getElem?_eq_some_iff.1 hR.out).1
      have hql : (namesT ([s, o].take q)).length ≤ 18 := by
        have : q = 0 ∨ q = 1 := by omega
        rcases this with rfl | rfl
        · simp [namesT]
        · have := small_len hs
          simp only [List.take_succ_cons, List.take_zero, namesT, List.length_append, List.length_cons, List.length_nil]
          omega
      have c0 : wr.cell? ⟨w.heap.size + 1, q, none⟩ = some (.string ([s, o].getD q ByteArray.empty)) := by
        rw [cell_of_row _ _ _ _ _ _ hR.out]
        have : q = 0 ∨ q = 1 := by omega
        rcases this with rfl | rfl <;> rfl
      have HNX : Hid (namesT ([s, o].take (q + 1)) = namesT ([s, o].take q) ++ ([32] ++ ([s, o].getD q ByteArray.empty).data.toList)) := by
        show namesT ([s, o].take (q + 1)) = _
        have : q = 0 ∨ q = 1 := by omega
        rcases this with rfl | rfl <;> simp [namesT]
      have hsz := HNS.out q (by omega)
      generalize [s, o].getD q ByteArray.empty = nm at *
      go_wp2_with fail
      refine (wr_word B b _ true nv nm wr hP.out (by simp only [List.length_append]; omega) (by omega)).mono ?_
      rintro e w2 ⟨rfl, h2, f2⟩
      have P2 : Hid (PrS B b (bs ++ namesT ([s, o].take (q + 1))) true nv w2) := by
        show PrS B b (bs ++ namesT ([s, o].take (q + 1))) true nv w2
        rw [HNX.out]
        simpa [due] using h2
      have R2 : Hid (_) := f2.row hR.out (by omega) (by decide)
      have F2 : Hid (Fr B b w w2) := hF.out.trans f2
      clear h2 f2 c0
      go_wp2
      go_roundw
      case rel => exact ⟨q + 1, by omega, by go_num, P2, F2, R2⟩
      case measure => simp [intOf]; omega
    · obtain rfl : q = m := by omega
      go_wp2
      go_end0
      exact ⟨rfl, by rw [HM.out]; exact hP.out, hF.out⟩

/-- What is asked of node i: its text goes behind what is written, a blank ahead of it where one is due. -/
def NodeAt (ts : List Nod) (g cap f i : Nat) : Prop := ∀ (B b : Nat) (bs : List UInt8) (ap : Bool) (w : World), PowIs w → NodAt w g ts → g < B → 0 < B → B ≤ w.heap.size → PrS B b bs ap (.slice (some ⟨g, 0, none⟩) ts.length cap) w → bs.length + (due ap).length + (textN ts f i).length + 100 ≤ 1000000 →
  Calls Tryd.prog 26 #[.pointer (some ⟨b, 0, none⟩), .int .i64 i] w fun e w' => e = .returned (.tuple #[]) ∧ PrS B b (bs ++ due ap ++ textN ts f i) true (.slice (some ⟨g, 0, none⟩) ts.length cap) w' ∧ Fr B b w w'

set_option maxHeartbeats 1000000 in
set_option maxRecDepth 20000 in
theorem pr_kids {ts : List Nod} {g cap f : Nat} (o gk kc : Nat) (ks : List Int) (hI : ∀ j, j < ks.length → ∃ q : Nat, ks.getD j 0 = q ∧ NodeAt ts g cap f q) (B b : Nat) (bs : List UInt8) (w : World) (hp : PowIs w) (hA : NodAt w g ts) (hg : g < B) (hgp : 0 < B) (hBw : B ≤ w.heap.size)
    (hP : PrS B b bs true (.slice (some ⟨g, 0, none⟩) ts.length cap) w) (cs : Array Value) (hK : w.heap[gk]? = some (.cells cs 132 (0, 0))) (hgk : gk ≠ b) (hcs : ∀ j, j < ks.length → cs[o + j]? = some (.int .i64 (ks.getD j 0))) (hk3 : ks.length ≤ 3) (hlen : bs.length + (kidsT (textN ts f) ks).length + 100 ≤ 1000000) :
    Calls Tryd.prog 74 #[.pointer (some ⟨b, 0, none⟩), .slice (some ⟨gk, o, none⟩) ks.length kc] w fun e w' => e = .returned (.tuple #[]) ∧ PrS B b (bs ++ kidsT (textN ts f) ks) true (.slice (some ⟨g, 0, none⟩) ts.length cap) w' ∧ Fr B b w w' := by
  have HP : Hid (PrS B b bs true (.slice (some ⟨g, 0, none⟩) ts.length cap) w) := hP
  have HI : Hid (∀ j, j < ks.length → ∃ q : Nat, ks.getD j 0 = q ∧ NodeAt ts g cap f q) := hI
  have HW : Hid (PowIs w) := hp
  have HA : Hid (NodAt w g ts) := hA
  have HK : Hid (w.heap[gk]? = some (.cells cs 132 (0, 0))) := hK
  have HC : Hid (∀ j, j < ks.length → cs[o + j]? = some (.int .i64 (ks.getD j 0))) := hcs
  clear hP hI hp hA hK hcs
  go_enter Tryd.func74, Tryd.ntmps74
  go_wp2
  go_loopw [8] (fun i wr => ∃ q : Nat, q ≤ ks.length ∧ i = .int .i64 q ∧ Hid (PrS B b (bs ++ kidsT (textN ts f) (ks.take q)) true (.slice (some ⟨g, 0, none⟩) ts.length cap) wr) ∧ Hid (Fr B b w wr)) (fun i _ => ks.length - (intOf i).toNat)
  case atStart => exact ⟨0, by omega, rfl, by simpa [kidsT] using HP, Fr.refl _ _ _⟩
  case round =>
    obtain ⟨q, hq, rfl, hP, hF⟩ := hrel
    by_cases hin : q < ks.length
    · have hin' : (q : Int) < ks.length := by omega
      have c0 : wr.cell? ⟨gk, o + q, none⟩ = some (.int .i64 (ks.getD q 0)) := by
        have := hF.out.row HK.out hgk (by decide)
        rw [cell_of_row _ _ _ _ _ _ this]
        exact HC.out q hin
      obtain ⟨Q, hQ, hN⟩ := HI.out q hin
      rw [hQ] at c0
      have hsplit : ks.take (q + 1) = ks.take q ++ [ks.getD q 0] := by
        rw [List.take_succ_eq_append_getElem hin]
        simp [List.getD, List.getElem?_eq_getElem hin]
      have happ : ∀ (l r : List Int), kidsT (textN ts f) (l ++ r) = kidsT (textN ts f) l ++ kidsT (textN ts f) r := by
        intro l
        induction l with
        | nil => intro r; rfl
        | cons x l ih => intro r; simp [kidsT, ih]
      have HX : Hid (kidsT (textN ts f) (ks.take (q + 1)) = kidsT (textN ts f) (ks.take q) ++ ([32] ++ textN ts f Q)) := by
        show kidsT (textN ts f) (ks.take (q + 1)) = _
        rw [hsplit, happ, hQ]
        simp [kidsT]
      have hle : bs.length + (kidsT (textN ts f) (ks.take q)).length + 1 + (textN ts f Q).length + 100 ≤ 1000000 := by
        have h1 : kidsT (textN ts f) ks = kidsT (textN ts f) (ks.take (q + 1)) ++ kidsT (textN ts f) (ks.drop (q + 1)) := by rw [← happ, List.take_append_drop]
        rw [HX.out] at h1
        rw [h1] at hlen
        simp only [List.length_append, List.length_cons, List.length_nil] at hlen
        omega
      have hdl : (due true).length = 1 := rfl
      have hb := hF.out.bel
      have hCall := hN B b (bs ++ kidsT (textN ts f) (ks.take q)) true wr (pow_fr HW.out hF.out hgp) (HA.out.below hb (fun _ => hg)) hg hgp (by have := hb.size; omega) hP.out (by simp only [List.length_append, hdl]; omega)
      have HCall : Hid (Calls Tryd.prog 26 #[.pointer (some ⟨b, 0, none⟩), .int .i64 Q] wr _) := hCall
      clear hCall hN hQ hsplit happ hle hb hdl
      go_wp2_with fail
      refine Calls.mono HCall.out ?_
      rintro e w2 ⟨rfl, h2, f2⟩
      have P2 : Hid (PrS B b (bs ++ kidsT (textN ts f) (ks.take (q + 1))) true (.slice (some ⟨g, 0, none⟩) ts.length cap) w2) := by
        show PrS B b (bs ++ kidsT (textN ts f) (ks.take (q + 1))) true _ w2
        rw [HX.out]
        simpa [due] using h2
      have F2 : Hid (Fr B b w w2) := hF.out.trans f2
      clear h2 f2 c0 HCall
      go_wp2
      go_roundw
      case rel => exact ⟨q + 1, by omega, by go_num, P2, F2⟩
      case measure => simp [intOf]; omega
    · obtain rfl : q = ks.length := by omega
      rw [List.take_length] at hP
      go_wp2
      go_end0
      exact ⟨rfl, hP.out, hF.out⟩

theorem wd_name : (Tryd.f45.name == "runtime.NumGoroutine") = false := by kernel_rfl
theorem wd_body : Tryd.f45.body.isNone = false := by kernel_rfl
theorem ko_name : (Tryd.f47.name == "runtime.NumGoroutine") = false := by kernel_rfl
theorem ko_body : Tryd.f47.body.isNone = false := by kernel_rfl
theorem dc_name : (Tryd.f46.name == "runtime.NumGoroutine") = false := by kernel_rfl
theorem dc_body : Tryd.f46.body.isNone = false := by kernel_rfl

theorem due_len (ap : Bool) : (due ap).length ≤ 1 := by cases ap <;> simp [due]

theorem Fr.drew {B b : Nat} {u w : World} (h : Fr B b u w) : Fr B b u w.drew := ⟨h.bel.drew, h.oth.drew⟩

theorem form_len {rec : Nat → List UInt8} {k n : Int} (h : IsForm k n) (s o : ByteArray) (a b c : Int) : (formT rec ⟨k, a, b, c, n, s, o⟩).length = 2 + (keyN k n).data.toList.length + (kidsT rec (([a, b, c].take (arN k)).take (aheadN k))).length + (namesT ([s, o].take (nmN k))).length + (kidsT rec (([a, b, c].take (arN k)).drop (aheadN k))).length := by
  unfold formT
  simp only
  rw [argT_parts h]
  simp only [List.length_append, List.length_cons, List.length_nil]
  omega

theorem ahead_le {k n : Int} (h : IsForm k n) : aheadN k ≤ arN k := by
  obtain ⟨h1, h2, h3, h4⟩ := h
  have : k = 3 ∨ k = 4 ∨ k = 5 ∨ k = 6 ∨ k = 7 ∨ k = 8 ∨ k = 9 ∨ k = 10 ∨ k = 11 ∨ k = 13 ∨ k = 14 ∨ k = 15 ∨ k = 16 ∨ k = 17 ∨ k = 18 ∨ k = 19 := by omega
  clear h1 h2 h3 h4
  rcases this with rfl | rfl | rfl | rfl | rfl | rfl | rfl | rfl | rfl | rfl | rfl | rfl | rfl | rfl | rfl | rfl <;> decide

set_option maxHeartbeats 4000000 in
set_option maxRecDepth 20000 in
theorem pr_form {ts : List Nod} {g cap f : Nat} (k a0 b0 c0 n : Int) (s o : ByteArray) (hF : IsForm k n) (hI : ∀ j, j < arN k → ∃ q : Nat, [a0, b0, c0].getD j 0 = q ∧ NodeAt ts g cap f q) (hs : s.size ≤ 8) (ho : o.size ≤ 8)
    (B b : Nat) (bs : List UInt8) (ap : Bool) (w : World) (hp : PowIs w) (hA : NodAt w g ts) (hg : g < B) (hgp : 0 < B) (hBw : B ≤ w.heap.size) (hP : PrS B b bs ap (.slice (some ⟨g, 0, none⟩) ts.length cap) w) (hlen : bs.length + (due ap).length + (formT (textN ts f) ⟨k, a0, b0, c0, n, s, o⟩).length + 100 ≤ 1000000) :
    Calls Tryd.prog 48 #[.pointer (some ⟨b, 0, none⟩), .agg #[.int .i64 k, .int .i64 a0, .int .i64 b0, .int .i64 c0, .int .i64 n, .string s, .string o]] w fun e w' =>
      e = .returned (.tuple #[]) ∧ PrS B b (bs ++ due ap ++ formT (textN ts f) ⟨k, a0, b0, c0, n, s, o⟩) true (.slice (some ⟨g, 0, none⟩) ts.length cap) w' ∧ Fr B b w w' := by
  have hbl := hP.lt
  have hfl := form_len (rec := textN ts f) hF s o a0 b0 c0
  have HFT : Hid (formT (textN ts f) ⟨k, a0, b0, c0, n, s, o⟩ = [40] ++ (keyN k n).data.toList ++ (kidsT (textN ts f) (([a0, b0, c0].take (arN k)).take (aheadN k)) ++ namesT ([s, o].take (nmN k)) ++ kidsT (textN ts f) (([a0, b0, c0].take (arN k)).drop (aheadN k))) ++ [41]) := by
    show formT (textN ts f) ⟨k, a0, b0, c0, n, s, o⟩ = _
    unfold formT
    simp only
    rw [argT_parts hF]
  rw [hfl] at hlen
  have hal := ahead_le hF
  have har := arN_le k
  have hkl := keyN_len k n
  have HP : Hid (PrS B b bs ap (.slice (some ⟨g, 0, none⟩) ts.length cap) w) := hP
  have HI : Hid (∀ j, j < arN k → ∃ q : Nat, [a0, b0, c0].getD j 0 = q ∧ NodeAt ts g cap f q) := hI
  have HW : Hid (PowIs w) := hp
  have HA : Hid (NodAt w g ts) := hA
  have HF : Hid (IsForm k n) := hF
  have CK : Hid (∀ w : World, Calls Tryd.prog 47 #[.agg #[.int .i64 k, .int .i64 a0, .int .i64 b0, .int .i64 c0, .int .i64 n, .string s, .string o]] w fun e w' => e = .returned (.string (keyN k n)) ∧ Below w.heap.size w w') := fun w => impl_keyOf k a0 b0 c0 n s o w
  clear hP hI hp hA hF hfl
  generalize keyN k n = KY at *
  obtain ⟨wa, hwa⟩ : ∃ wa, w.alloc (.cells #[.int .i64 k, .int .i64 a0, .int .i64 b0, .int .i64 c0, .int .i64 n, .string s, .string o] 49) = wa := ⟨_, rfl⟩
  have HWA : Hid (w.alloc (.cells #[.int .i64 k, .int .i64 a0, .int .i64 b0, .int .i64 c0, .int .i64 n, .string s, .string o] 49) = wa) := hwa
  have sa : wa.heap.size = w.heap.size + 1 := by rw [← hwa]; simp
  have BA : Below w.heap.size w wa := by rw [← hwa]; exact (Below.refl _ w).alloc (Nat.le_refl _) _
  have RA : Hid (wa.heap[w.heap.size]? = some (.cells #[.int .i64 k, .int .i64 a0, .int .i64 b0, .int .i64 c0, .int .i64 n, .string s, .string o] 49 (0, 0))) := by rw [← hwa]; exact (MapKept.heap_alloc w _).1
  have PA : Hid (PrS B b bs ap (.slice (some ⟨g, 0, none⟩) ts.length cap) wa) := HP.out.below BA
  have FA : Hid (Fr B b w wa) := Fr.of_below hBw BA
  clear hwa BA HP
  go_enter Tryd.func48, Tryd.ntmps48
  go_wp2_with fail
  rw [HWA.out]
  refine (impl_kids k a0 b0 c0 n s o wa).mono ?_
  rintro e w1 ⟨rfl, hk1, b1⟩
  obtain ⟨GK, hGK⟩ : ∃ GK, wa.heap.size + 3 = GK := ⟨_, rfl⟩
  rw [hGK] at hk1 ⊢
  have hgk : GK < w1.heap.size := (Array.getElem?_eq_some_iff.1 hk1).1
  have hgb : GK ≠ b := by omega
  have r1 := (b1.block _ (by omega)).trans RA.out
  have R1 : Hid (w1.heap[w.heap.size]? = some (.cells #[.int .i64 k, .int .i64 a0, .int .i64 b0, .int .i64 c0, .int .i64 n, .string s, .string o] 49 (0, 0))) := r1
  have K1 : Hid (w1.heap[GK]? = some (.cells #[.int .i64 a0, .int .i64 b0, .int .i64 c0] 132 (0, 0))) := hk1
  have P1 : Hid (PrS B b bs ap (.slice (some ⟨g, 0, none⟩) ts.length cap) w1) := PA.out.below b1
  have F1 : Hid (Fr B b w w1) := FA.out.trans (Fr.of_below (by omega) b1)
  have s1 := b1.size
  clear b1 hk1 RA PA FA HWA
  obtain ⟨q0, q1, q2, q3, q4, q5, q6⟩ := cells7_of r1
  clear r1 hGK
  go_wp2_with fail
  refine (impl_fore k w1).mono ?_
  rintro e w1 ⟨rfl, rfl⟩
  go_wp2_with fail
  refine (wr_open B b bs ap _ w1 P1.out (by omega) (by omega)).mono ?_
  rintro e w2 ⟨rfl, h2, f2⟩
  have s2 := f2.bel.size
  have r2 := f2.row R1.out (by omega) (by decide)
  have R2 : Hid (w2.heap[w.heap.size]? = some (.cells #[.int .i64 k, .int .i64 a0, .int .i64 b0, .int .i64 c0, .int .i64 n, .string s, .string o] 49 (0, 0))) := r2
  have K2 : Hid (w2.heap[GK]? = some (.cells #[.int .i64 a0, .int .i64 b0, .int .i64 c0] 132 (0, 0))) := f2.row K1.out hgb (by decide)
  have P2 : Hid (PrS B b (bs ++ due ap ++ [40]) false (.slice (some ⟨g, 0, none⟩) ts.length cap) w2) := h2
  have F2 : Hid (Fr B b w w2) := F1.out.trans f2
  clear q0 q1 q2 q3 q4 q5 q6 h2 f2 R1 K1 P1 F1
  obtain ⟨q0, q1, q2, q3, q4, q5, q6⟩ := cells7_of r2
  clear r2
  have hkb : KY.size ≤ 5 := by rw [Array.length_toList] at hkl; exact hkl
  go_wp2
  go_region_law (first
    | (refine step_call rfl 47 #[.tmp 18] #[49] rfl #[.agg #[.int .i64 k, .int .i64 a0, .int .i64 b0, .int .i64 c0, .int .i64 n, .string s, .string o]] (by simp [Act.eval]) Tryd.func47 ko_name ko_body _ (CK.out _) ?_; rintro e w3 ⟨rfl, b3⟩; have b3' : Below w2.heap.size w2 w3 := (Below.refl _ w2).drew.trans b3; have s3 := b3'.size; have P3 : Hid (PrS B b (bs ++ due ap ++ [40]) false (.slice (some ⟨g, 0, none⟩) ts.length cap) w3) := P2.out.below b3'; have F3 : Hid (Fr B b w w3) := F2.out.trans (Fr.of_below (by omega) b3'); have R3 : Hid (w3.heap[w.heap.size]? = some (.cells #[.int .i64 k, .int .i64 a0, .int .i64 b0, .int .i64 c0, .int .i64 n, .string s, .string o] 49 (0, 0))) := (b3'.block _ (by omega)).trans R2.out; have K3 : Hid (w3.heap[GK]? = some (.cells #[.int .i64 a0, .int .i64 b0, .int .i64 c0] 132 (0, 0))) := (b3'.block _ (by omega)).trans K2.out; clear b3 b3'; refine ⟨_, rfl, ?_⟩)
    | (refine step_call rfl 45 #[.tmp 17, .tmp 19] #[55, 9] rfl #[.pointer (some ⟨b, 0, none⟩), .string KY] (by simp [Act.eval]) Tryd.func45 wd_name wd_body _ (wr_word B b _ false _ KY w3 P3.out (by simp only [List.length_append, List.length_cons, List.length_nil]; have : (due ap).length ≤ 1 := due_len ap; omega) (by omega)) ?_; rintro e w4 ⟨rfl, h4, f4⟩; have P4 : Hid (PrS B b (bs ++ due ap ++ [40] ++ due false ++ KY.data.toList) true (.slice (some ⟨g, 0, none⟩) ts.length cap) w4) := h4; have F4 : Hid (Fr B b w w4) := F3.out.trans f4; have R4 : Hid (w4.heap[w.heap.size]? = some (.cells #[.int .i64 k, .int .i64 a0, .int .i64 b0, .int .i64 c0, .int .i64 n, .string s, .string o] 49 (0, 0))) := f4.row R3.out (by omega) (by decide); have K4 : Hid (w4.heap[GK]? = some (.cells #[.int .i64 a0, .int .i64 b0, .int .i64 c0] 132 (0, 0))) := f4.row K3.out hgb (by decide); have s4 := f4.bel.size; clear h4 f4; refine ⟨_, rfl, ?_⟩))
  clear q0 q1 q2 q3 q4 q5 q6 P2 P3 R2 R3 K2 K3 F2 F3
  have e1 : (([a0, b0, c0].take (arN k)).take (aheadN k)).length = aheadN k := by simp; omega
  have e2 : (([a0, b0, c0].take (arN k)).drop (aheadN k)).length = arN k - aheadN k := by simp; omega
  have ha2 : aheadN k ≤ 2 := by
    unfold aheadN
    by_cases h19 : k = 19
    · rw [if_pos h19]; omega
    rw [if_neg h19]
    by_cases h14 : k = 14
    · rw [if_pos h14]; omega
    rw [if_neg h14]; omega
  have g1 : ∀ j, j < arN k → ([a0, b0, c0].take (arN k)).getD j 0 = [a0, b0, c0].getD j 0 := fun j hj => by
    simp only [List.getD]
    rw [List.getElem?_take_of_lt hj]
  have g2 : ∀ j, j < aheadN k → (([a0, b0, c0].take (arN k)).take (aheadN k)).getD j 0 = [a0, b0, c0].getD j 0 := fun j hj => by
    rw [← g1 j (by omega)]
    simp only [List.getD]
    rw [List.getElem?_take_of_lt hj]
  have g3 : ∀ j, aheadN k + j < arN k → (([a0, b0, c0].take (arN k)).drop (aheadN k)).getD j 0 = [a0, b0, c0].getD (aheadN k + j) 0 := fun j hj => by
    rw [← g1 (aheadN k + j) (by omega)]
    simp only [List.getD]
    rw [List.getElem?_drop]
  have c3 : ∀ j, j < 3 → (#[.int .i64 a0, .int .i64 b0, .int .i64 c0] : Array Value)[j]? = some (.int .i64 ([a0, b0, c0].getD j 0)) := fun j hj => by
    have : j = 0 ∨ j = 1 ∨ j = 2 := by omega
    rcases this with rfl | rfl | rfl <;> rfl
  have L0 : (bs ++ due ap ++ [40] ++ due false ++ KY.data.toList).length ≤ bs.length + (due ap).length + 1 + KY.data.toList.length := by
    have h0 : (due false).length = 0 := rfl
    simp only [List.length_append, List.length_cons, List.length_nil, h0]
    omega
  have hc1 := pr_kids (ts := ts) (g := g) (cap := cap) (f := f) 0 GK 3 (([a0, b0, c0].take (arN k)).take (aheadN k)) (fun j hj => by rw [e1] at hj; rw [g2 j hj]; exact HI.out j (by omega)) B b (bs ++ due ap ++ [40] ++ due false ++ KY.data.toList) w4 (pow_fr HW.out F4.out hgp) (HA.out.below F4.out.bel (fun _ => hg)) hg hgp (by omega) P4.out _ K4.out hgb (fun j hj => by rw [e1] at hj; rw [g2 j hj, Nat.zero_add]; exact c3 j (by omega)) (by omega) (by omega)
  rw [e1] at hc1
  have C1 : Hid (Calls Tryd.prog 74 #[.pointer (some ⟨b, 0, none⟩), .slice (some ⟨GK, 0, none⟩) (aheadN k) 3] w4 _) := hc1
  have i1 : (0 : Int) ≤ (aheadN k : Int) := by omega
  have i2 : (aheadN k : Int) ≤ 3 := by omega
  have i3 : (aheadN k : Int) ≤ (arN k : Int) := by omega
  clear hc1
  go_wp2_with fail
  refine Calls.mono C1.out ?_
  rintro e w5 ⟨rfl, h5, f5⟩
  have s5 := f5.bel.size
  have r5 := f5.row R4.out (by omega) (by decide)
  have R5 : Hid (w5.heap[w.heap.size]? = some (.cells #[.int .i64 k, .int .i64 a0, .int .i64 b0, .int .i64 c0, .int .i64 n, .string s, .string o] 49 (0, 0))) := r5
  have K5 : Hid (w5.heap[GK]? = some (.cells #[.int .i64 a0, .int .i64 b0, .int .i64 c0] 132 (0, 0))) := f5.row K4.out hgb (by decide)
  have P5 : Hid (PrS B b (bs ++ due ap ++ [40] ++ due false ++ KY.data.toList ++ kidsT (textN ts f) (([a0, b0, c0].take (arN k)).take (aheadN k))) true (.slice (some ⟨g, 0, none⟩) ts.length cap) w5) := h5
  have F5 : Hid (Fr B b w w5) := F4.out.trans f5
  clear h5 f5 C1 R4 K4 P4 F4
  obtain ⟨q0, q1, q2, q3, q4, q5, q6⟩ := cells7_of r5
  clear r5
  go_wp2_with fail
  refine (pr_names k a0 b0 c0 n s o B b _ (.slice (some ⟨g, 0, none⟩) ts.length cap) w5 (by omega) P5.out hs ho (by simp only [List.length_append] at L0 ⊢; omega)).mono ?_
  rintro e w6 ⟨rfl, h6, f6⟩
  have s6 := f6.bel.size
  have P6 : Hid (PrS B b (bs ++ due ap ++ [40] ++ due false ++ KY.data.toList ++ kidsT (textN ts f) (([a0, b0, c0].take (arN k)).take (aheadN k)) ++ namesT ([s, o].take (nmN k))) true (.slice (some ⟨g, 0, none⟩) ts.length cap) w6) := h6
  have F6 : Hid (Fr B b w w6) := F5.out.trans f6
  have hc2 := pr_kids (ts := ts) (g := g) (cap := cap) (f := f) (aheadN k) GK (3 - aheadN k) (([a0, b0, c0].take (arN k)).drop (aheadN k)) (fun j hj => by rw [e2] at hj; rw [g3 j (by omega)]; exact HI.out _ (by omega)) B b _ w6 (pow_fr HW.out F6.out hgp) (HA.out.below F6.out.bel (fun _ => hg)) hg hgp (by omega) P6.out _ (f6.row K5.out hgb (by decide)) hgb (fun j hj => by rw [e2] at hj; rw [g3 j (by omega)]; exact c3 _ (by omega)) (by omega) (by simp only [List.length_append] at L0 ⊢; omega)
  rw [e2] at hc2
  have C2 : Hid (Calls Tryd.prog 74 #[.pointer (some ⟨b, 0, none⟩), .slice (some ⟨GK, aheadN k, none⟩) (arN k - aheadN k) (3 - aheadN k)] w6 _) := hc2
  clear hc2 h6 f6 q0 q1 q2 q3 q4 q5 q6 R5 K5 P5 F5
  go_wp2_with fail
  refine Calls.mono C2.out ?_
  rintro e w7 ⟨rfl, h7, f7⟩
  have s7 := f7.bel.size
  have F7 : Hid (Fr B b w w7) := F6.out.trans f7
  have P7 : Hid (PrS B b (bs ++ due ap ++ [40] ++ due false ++ KY.data.toList ++ kidsT (textN ts f) (([a0, b0, c0].take (arN k)).take (aheadN k)) ++ namesT ([s, o].take (nmN k)) ++ kidsT (textN ts f) (([a0, b0, c0].take (arN k)).drop (aheadN k))) true (.slice (some ⟨g, 0, none⟩) ts.length cap) w7) := h7
  clear h7 f7 C2 F6 P6
  go_wp2_with fail
  refine (wr_shut B b _ true (.slice (some ⟨g, 0, none⟩) ts.length cap) w7 P7.out (by simp only [List.length_append] at L0 ⊢; omega) (by omega)).mono ?_
  rintro e w8 ⟨rfl, h8, f8⟩
  have F8 : Hid (Fr B b w w8) := F7.out.trans f8
  have P8 : Hid (PrS B b (bs ++ due ap ++ formT (textN ts f) ⟨k, a0, b0, c0, n, s, o⟩) true (.slice (some ⟨g, 0, none⟩) ts.length cap) w8) := by
    show PrS B b (bs ++ due ap ++ formT (textN ts f) ⟨k, a0, b0, c0, n, s, o⟩) true (.slice (some ⟨g, 0, none⟩) ts.length cap) w8
    rw [HFT.out]
    simpa [due] using h8
  clear h8 f8 F7 P7
  go_wp2
  go_end0
  exact ⟨rfl, P8.out, F8.out⟩

set_option maxHeartbeats 4000000 in
set_option maxRecDepth 20000 in
theorem pr_leaf {ts : List Nod} {g cap f i : Nat} (hi : i < ts.length) (hl : ts.length ≤ 1000) (hsm : (ts.getD i noNod).name.size ≤ 8) (h : (ts.getD i noNod).kind = 1 ∨ ((ts.getD i noNod).kind = 2 ∧ 0 ≤ (ts.getD i noNod).n ∧ (ts.getD i noNod).n ≤ 65535) ∨ (ts.getD i noNod).kind = 12) : NodeAt ts g cap (f + 1) i := by
  intro B b bs ap w hp hA hg hgp hBw hP hlen
  have t := hA i hi
  have hbl := hP.lt
  have HX : Hid (textN ts (f + 1) i = nodeT (textN ts f) (ts.getD i noNod)) := rfl
  obtain ⟨⟨x0, x1, x2, x3, x4, x5, x6⟩, hx⟩ : ∃ y, ts.getD i noNod = y := ⟨_, rfl⟩
  rw [hx] at t h HX hsm
  simp only at h hsm
  have q0 : w.cell? ⟨g, i * 7, none⟩ = some (.int .i64 x0) := t.c0
  have q1 : w.cell? ⟨g, i * 7 + 1, none⟩ = some (.int .i64 x1) := t.c1
  have q2 : w.cell? ⟨g, i * 7 + 2, none⟩ = some (.int .i64 x2) := t.c2
  have q3 : w.cell? ⟨g, i * 7 + 3, none⟩ = some (.int .i64 x3) := t.c3
  have q4 : w.cell? ⟨g, i * 7 + 4, none⟩ = some (.int .i64 x4) := t.c4
  have q5 : w.cell? ⟨g, i * 7 + 5, none⟩ = some (.string x5) := t.c5
  have q6 : w.cell? ⟨g, i * 7 + 6, none⟩ = some (.string x6) := t.c6
  have hi' : (i : Int) < ts.length := by omega
  obtain ⟨-, qn, -⟩ := hP.cells
  have HP : Hid (PrS B b bs ap (.slice (some ⟨g, 0, none⟩) ts.length cap) w) := hP
  have HW : Hid (PowIs w) := hp
  have hL : bs.length + 100 ≤ 1000000 := by omega
  clear t hx hA hP hp hlen
  obtain ⟨wa, hwa⟩ : ∃ wa, w.alloc (.cells #[.int .i64 x0, .int .i64 x1, .int .i64 x2, .int .i64 x3, .int .i64 x4, .string x5, .string x6] 49) = wa := ⟨_, rfl⟩
  have HWA : Hid (w.alloc (.cells #[.int .i64 x0, .int .i64 x1, .int .i64 x2, .int .i64 x3, .int .i64 x4, .string x5, .string x6] 49) = wa) := hwa
  have sa : wa.heap.size = w.heap.size + 1 := by rw [← hwa]; simp
  have BA : Below w.heap.size w wa := by rw [← hwa]; exact (Below.refl _ w).alloc (Nat.le_refl _) _
  have RA : Hid (wa.heap[w.heap.size]? = some (.cells #[.int .i64 x0, .int .i64 x1, .int .i64 x2, .int .i64 x3, .int .i64 x4, .string x5, .string x6] 49 (0, 0))) := by rw [← hwa]; exact (MapKept.heap_alloc w _).1
  have PA : Hid (PrS B b bs ap (.slice (some ⟨g, 0, none⟩) ts.length cap) wa) := HP.out.below BA
  have FA : Hid (Fr B b w wa) := Fr.of_below hBw BA
  have WA : Hid (PowIs wa) := var?_below BA gPow (by omega) HW.out
  clear hwa BA HP HW
  rcases h with rfl | ⟨rfl, h0, h1⟩ | rfl
  · go_enter Tryd.func26, Tryd.ntmps26
    go_wp2
    rw [HWA.out]
    obtain ⟨p0, p1, p2, p3, p4, p5, p6⟩ := cells7_of RA.out
    go_region_law (refine step_call rfl 45 #[.tmp 21, .tmp 23] #[55, 9] rfl #[.pointer (some ⟨b, 0, none⟩), .string x5] (by simp [Act.eval]) Tryd.func45 wd_name wd_body _ (wr_word B b bs ap (.slice (some ⟨g, 0, none⟩) ts.length cap) x5 wa.drew PA.out.drew (by omega) (by show B ≤ wa.heap.size; omega)) ?_; rintro e w4 ⟨rfl, h4, f4⟩; have P4 : Hid (PrS B b (bs ++ due ap ++ x5.data.toList) true (.slice (some ⟨g, 0, none⟩) ts.length cap) w4) := h4; have F4 : Hid (Fr B b w w4) := FA.out.drew.trans f4; clear h4 f4; refine ⟨_, rfl, ?_⟩)
    all_goals
      go_wp2
      go_end0
      exact ⟨rfl, by rw [HX.out]; exact P4.out, F4.out⟩
  · go_enter Tryd.func26, Tryd.ntmps26
    go_wp2
    rw [HWA.out]
    obtain ⟨p0, p1, p2, p3, p4, p5, p6⟩ := cells7_of RA.out
    have hil := itoa_len h0 h1
    obtain ⟨IT, hIT⟩ : ∃ IT : ByteArray, ⟨(Lib.itoa x4).toArray⟩ = IT := ⟨_, rfl⟩
    have hits : IT.size ≤ 5 := by rw [← hIT]; simpa [ByteArray.size] using hil
    have CD : Hid (∀ w : World, PowIs w → Calls Tryd.prog 46 #[.int .i64 x4] w fun e w' => e = .returned (.string IT) ∧ Below w.heap.size w w') := fun w hw => by rw [← hIT]; exact impl_dec x4 (by omega) (by omega) w hw
    have HIT : Hid (IT.data.toList = Lib.itoa x4) := by show IT.data.toList = _; rw [← hIT]
    clear hIT hil
    go_region_law (first
      | (refine step_call rfl 46 #[.tmp 31] #[3] rfl #[.int .i64 x4] (by simp [Act.eval]) Tryd.func46 dc_name dc_body _ (CD.out wa.drew WA.out) ?_; rintro e w3 ⟨rfl, b3⟩; have b3' : Below wa.heap.size wa w3 := (Below.refl _ wa).drew.trans b3; have s3 := b3'.size; have P3 : Hid (PrS B b bs ap (.slice (some ⟨g, 0, none⟩) ts.length cap) w3) := PA.out.below b3'; have F3 : Hid (Fr B b w w3) := FA.out.trans (Fr.of_below (by omega) b3'); clear b3 b3'; refine ⟨_, rfl, ?_⟩)
      | (refine step_call rfl 45 #[.tmp 29, .tmp 32] #[55, 9] rfl #[.pointer (some ⟨b, 0, none⟩), .string IT] (by simp [Act.eval]) Tryd.func45 wd_name wd_body _ (wr_word B b bs ap (.slice (some ⟨g, 0, none⟩) ts.length cap) IT w3 P3.out (by omega) (by omega)) ?_; rintro e w4 ⟨rfl, h4, f4⟩; have P4 : Hid (PrS B b (bs ++ due ap ++ IT.data.toList) true (.slice (some ⟨g, 0, none⟩) ts.length cap) w4) := h4; have F4 : Hid (Fr B b w w4) := F3.out.trans f4; clear h4 f4; refine ⟨_, rfl, ?_⟩))
    all_goals
      go_wp2
      go_end0
      exact ⟨rfl, by rw [HX.out, show nodeT (textN ts f) ⟨2, x1, x2, x3, x4, x5, x6⟩ = Lib.itoa x4 from rfl, ← HIT.out]; exact P4.out, F4.out⟩
  · go_enter Tryd.func26, Tryd.ntmps26
    go_wp2
    rw [HWA.out]
    obtain ⟨p0, p1, p2, p3, p4, p5, p6⟩ := cells7_of RA.out
    have CK : Hid (∀ w : World, Calls Tryd.prog 47 #[.agg #[.int .i64 12, .int .i64 x1, .int .i64 x2, .int .i64 x3, .int .i64 x4, .string x5, .string x6]] w fun e w' => e = .returned (.string ⟨#[110, 105, 108]⟩) ∧ Below w.heap.size w w') := fun w => impl_keyOf 12 x1 x2 x3 x4 x5 x6 w
    go_region_law (first
      | (refine step_call rfl 47 #[.tmp 39] #[49] rfl #[.agg #[.int .i64 12, .int .i64 x1, .int .i64 x2, .int .i64 x3, .int .i64 x4, .string x5, .string x6]] (by simp [Act.eval]) Tryd.func47 ko_name ko_body _ (CK.out wa.drew) ?_; rintro e w3 ⟨rfl, b3⟩; have b3' : Below wa.heap.size wa w3 := (Below.refl _ wa).drew.trans b3; have s3 := b3'.size; have P3 : Hid (PrS B b bs ap (.slice (some ⟨g, 0, none⟩) ts.length cap) w3) := PA.out.below b3'; have F3 : Hid (Fr B b w w3) := FA.out.trans (Fr.of_below (by omega) b3'); clear b3 b3'; refine ⟨_, rfl, ?_⟩)
      | (refine step_call rfl 45 #[.tmp 38, .tmp 40] #[55, 9] rfl #[.pointer (some ⟨b, 0, none⟩), .string ⟨#[110, 105, 108]⟩] (by simp [Act.eval]) Tryd.func45 wd_name wd_body _ (wr_word B b bs ap (.slice (some ⟨g, 0, none⟩) ts.length cap) ⟨#[110, 105, 108]⟩ w3 P3.out (by show bs.length + 3 + 1 ≤ _; omega) (by omega)) ?_; rintro e w4 ⟨rfl, h4, f4⟩; have P4 : Hid (PrS B b (bs ++ due ap ++ [110, 105, 108]) true (.slice (some ⟨g, 0, none⟩) ts.length cap) w4) := h4; have F4 : Hid (Fr B b w w4) := F3.out.trans f4; clear h4 f4; refine ⟨_, rfl, ?_⟩))
    all_goals
      go_wp2
      go_end0
      exact ⟨rfl, by rw [HX.out]; exact P4.out, F4.out⟩

set_option maxHeartbeats 1000000 in
set_option maxRecDepth 20000 in
theorem pr_inner {ts : List Nod} {g cap f i : Nat} (hi : i < ts.length) (hl : ts.length ≤ 1000) (hs : (ts.getD i noNod).name.size ≤ 8) (ho : (ts.getD i noNod).other.size ≤ 8) (h : IsForm (ts.getD i noNod).kind (ts.getD i noNod).n)
    (IH : ∀ j, j < arN (ts.getD i noNod).kind → ∃ q : Nat, [(ts.getD i noNod).a, (ts.getD i noNod).b, (ts.getD i noNod).c].getD j 0 = q ∧ NodeAt ts g cap f q) : NodeAt ts g cap (f + 1) i := by
  intro B b bs ap w hp hA hg hgp hBw hP hlen
  have t := hA i hi
  have hbl := hP.lt
  have hX : textN ts (f + 1) i = formT (textN ts f) (ts.getD i noNod) := by
    show nodeT (textN ts f) (ts.getD i noNod) = _
    unfold nodeT
    rw [if_neg (by have := h.1; omega), if_neg (by have := h.1; omega), if_neg h.2.2.1]
  obtain ⟨⟨x0, x1, x2, x3, x4, x5, x6⟩, hx⟩ : ∃ y, ts.getD i noNod = y := ⟨_, rfl⟩
  rw [hX] at hlen
  rw [hx] at t h hX hs ho IH hlen
  simp only at h hs ho IH
  have HX : Hid (textN ts (f + 1) i = formT (textN ts f) ⟨x0, x1, x2, x3, x4, x5, x6⟩) := hX
  have q0 : w.cell? ⟨g, i * 7, none⟩ = some (.int .i64 x0) := t.c0
  have q1 : w.cell? ⟨g, i * 7 + 1, none⟩ = some (.int .i64 x1) := t.c1
  have q2 : w.cell? ⟨g, i * 7 + 2, none⟩ = some (.int .i64 x2) := t.c2
  have q3 : w.cell? ⟨g, i * 7 + 3, none⟩ = some (.int .i64 x3) := t.c3
  have q4 : w.cell? ⟨g, i * 7 + 4, none⟩ = some (.int .i64 x4) := t.c4
  have q5 : w.cell? ⟨g, i * 7 + 5, none⟩ = some (.string x5) := t.c5
  have q6 : w.cell? ⟨g, i * 7 + 6, none⟩ = some (.string x6) := t.c6
  have hi' : (i : Int) < ts.length := by omega
  obtain ⟨-, qn, -⟩ := hP.cells
  have g1 : (x0 == 1) = false := by simp; have := h.1; omega
  have g2 : (x0 == 2) = false := by simp; have := h.1; omega
  have g12 : (x0 == 12) = false := by simp; exact h.2.2.1
  obtain ⟨wa, hwa⟩ : ∃ wa, w.alloc (.cells #[.int .i64 x0, .int .i64 x1, .int .i64 x2, .int .i64 x3, .int .i64 x4, .string x5, .string x6] 49) = wa := ⟨_, rfl⟩
  have HWA : Hid (w.alloc (.cells #[.int .i64 x0, .int .i64 x1, .int .i64 x2, .int .i64 x3, .int .i64 x4, .string x5, .string x6] 49) = wa) := hwa
  have sa : wa.heap.size = w.heap.size + 1 := by rw [← hwa]; simp
  have BA : Below w.heap.size w wa := by rw [← hwa]; exact (Below.refl _ w).alloc (Nat.le_refl _) _
  have FA : Hid (Fr B b w wa) := Fr.of_below hBw BA
  have HC : Hid (Calls Tryd.prog 48 #[.pointer (some ⟨b, 0, none⟩), .agg #[.int .i64 x0, .int .i64 x1, .int .i64 x2, .int .i64 x3, .int .i64 x4, .string x5, .string x6]] wa _) := pr_form (ts := ts) (g := g) (cap := cap) (f := f) x0 x1 x2 x3 x4 x5 x6 h IH hs ho B b bs ap wa (var?_below BA gPow (by omega) hp) (hA.below BA (fun _ => by omega)) hg hgp (by omega) (hP.below BA) hlen
  clear hwa BA hP hp hA t hx hX IH h hlen
  go_enter Tryd.func26, Tryd.ntmps26
  go_wp2_with fail
  rw [HWA.out]
  refine Calls.mono HC.out ?_
  rintro e w2 ⟨rfl, h2, f2⟩
  have P2 : Hid (PrS B b (bs ++ due ap ++ formT (textN ts f) ⟨x0, x1, x2, x3, x4, x5, x6⟩) true (.slice (some ⟨g, 0, none⟩) ts.length cap) w2) := h2
  have F2 : Hid (Fr B b w w2) := FA.out.trans f2
  clear h2 f2 HC FA
  go_wp2
  go_end0
  exact ⟨rfl, by rw [HX.out]; exact P2.out, F2.out⟩

/-- The text of every node of a right program is written. -/
theorem pr_node {ts : List Nod} {st : List Nat} (hR : Right ts st) (g cap : Nat) : ∀ (f i : Nat), i < f → i < ts.length → NodeAt ts g cap f i
  | 0, i, h, _ => absurd h (by omega)
  | f + 1, i, h, hi => by
    obtain ⟨hF, _⟩ := hR.2 i hi
    have hl := hR.1
    have hsm := fields_small (decide_eq_true hF)
    by_cases h1 : (ts.getD i noNod).kind = 1
    · exact pr_leaf hi hl hsm.1 (Or.inl h1)
    by_cases h2 : (ts.getD i noNod).kind = 2
    · have hn := hF.2.2.2.1 h2
      exact pr_leaf hi hl hsm.1 (Or.inr (Or.inl ⟨h2, hn.1, hn.2⟩))
    by_cases h12 : (ts.getD i noNod).kind = 12
    · exact pr_leaf hi hl hsm.1 (Or.inr (Or.inr h12))
    refine pr_inner hi hl hsm.1 hsm.2 (fields_form hF h1 h2 h12) (fun j hj => ?_)
    obtain ⟨q, hq, hlt, _⟩ := kid_ahead hR hi hj
    exact ⟨q, hq, pr_node hR g cap f q (by omega) (by omega)⟩
end Go.Proofs.YtlfgnppacjdjkaaDoor
