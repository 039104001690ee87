/-
  Rows of numbers: held against each other; marks that are written into them and read again. Conditions: written at each theorem.
-/
import Derived.Test.YtcpafjpjfinbkaaNi
import Derived.Test.YtcpafjpjfinbkaaMt
import Derived.Test.YtcpafjpjfinbkaaSt
import Derived.Deep.QuietTactic
import Derived.BigQuiet
namespace Go.Proofs.Ytcpafjpjfinbkaa
open Go.ChangeShapes Go.WideShapes Go.ChangeAt Go.RowKit
set_option linter.unusedVariables false

/-- Numbers that lie in a block. -/
def IntAt (w : World) (g : Nat) (st : List Int) : Prop := ∀ i, i < st.length → w.cell? ⟨g, i, none⟩ = some (.int .i64 (st.getD i 0))

theorem int_lt {w : World} {g o : Nat} {v : Value} (h : w.cell? ⟨g, o, none⟩ = some v) : g < w.heap.size := nod_lt h

theorem IntAt.lt {w : World} {g : Nat} {st : List Int} (h : IntAt w g st) (hl : 0 < st.length) : g < w.heap.size := int_lt (h 0 hl)

theorem IntAt.below {w w' : World} {g B : Nat} {st : List Int} (h : IntAt w g st) (hb : Below B w w') (hg : 0 < st.length → g < B) : IntAt w' g st :=
  fun i hi => (World.cell?_of_block (hb.block g (hg (by omega)))).trans (h i hi)

/-- The row of a block that opens with these numbers. -/
def intRow (st : List Int) (sp : List Value) : Array Value := (st.map (Value.int .i64) ++ sp).toArray

theorem int_of_row {w : World} {g : Nat} {st : List Int} {sp : List Value} {t : TypeId} {z : Nat × Nat} (h : 0 < st.length → w.heap[g]? = some (.cells (intRow st sp) t z)) : IntAt w g st := by
  intro i hi
  have h' := h (by omega)
  rw [cell_of_row _ _ _ _ _ _ h']
  simp [intRow, List.getD, List.getElem?_append, hi]

theorem ownI_open {w : World} {B : Nat} {v : Value} {st : List Int} (h : ownI w B v st) :
    ∃ (a : Option Addr) (g cap : Nat) (sp : List Value), v = .slice a st.length cap ∧ (0 < st.length → a = some ⟨g, 0, none⟩) ∧ B ≤ g ∧ (0 < st.length → w.heap[g]? = some (.cells (intRow st sp) 3 (0, 0))) := by
  rcases h.2 with ⟨rfl, hz⟩ | ⟨g, cap, cur, rfl, hb, hg, hn, hm, hs, ht⟩
  · exact ⟨none, B, 0, [], by rw [hz], fun h => absurd h (by omega), Nat.le_refl _, fun h => absurd h (by omega)⟩
  · have hc : cur = intRow st (cur.toList.drop (st.length * 1)) := by
      apply Array.toList_inj.1
      unfold intRow
      rw [← ht]
      simp
    exact ⟨some ⟨g, 0, none⟩, g, cap, cur.toList.drop (st.length * 1), rfl, fun _ => rfl, hb, fun _ => by rw [← hc]; exact hg⟩

/-- A slice opens with these numbers, in a block that lies from B on, of whatever type. -/
def holdI (w : World) (B : Nat) (v : Value) (st : List Int) : Prop :=
  ∃ (ty : TypeId) (a : Option Addr) (g cap : Nat) (sp : List Value), v = .slice a st.length cap ∧ (0 < st.length → a = some ⟨g, 0, none⟩) ∧ B ≤ g ∧ (0 < st.length → w.heap[g]? = some (.cells (intRow st sp) ty (0, 0)))

theorem ownI_hold {w : World} {B : Nat} {v : Value} {st : List Int} (h : ownI w B v st) : holdI w B v st := ⟨3, ownI_open h⟩

set_option maxRecDepth 20000 in
theorem int_eq_row (a b : Option Addr) (g h ca cb : Nat) (st : List Int) (hl : st.length ≤ 1048576) (ha : 0 < st.length → a = some ⟨g, 0, none⟩) (hb : 0 < st.length → b = some ⟨h, 0, none⟩) (w : World) (hA : IntAt w g st) (hB : IntAt w h st) :
    Calls Try.prog 28 #[.slice a st.length ca, .slice b st.length cb] w fun e w' => e = .returned (.bool true) ∧ Below w.heap.size w w' := by
  have HA : Hid (IntAt w g st) := hA
  have HB : Hid (IntAt w h st) := hB
  clear hA hB
  go_enter Try.func28, Try.ntmps28
  go_wp2
  go_loopw [5] (fun i wr => ∃ k : Nat, k ≤ st.length ∧ i = .int .i64 k ∧ Below w.heap.size w wr) (fun i _ => st.length - (intOf i).toNat)
  case atStart => exact ⟨0, by omega, rfl, Below.refl _ _⟩
  case round =>
    obtain ⟨k, hk, rfl, hbl⟩ := hrel
    by_cases hin : k < st.length
    · have e1 : (k : Int) < st.length := by omega
      obtain rfl := ha (by omega)
      obtain rfl := hb (by omega)
      have t := (HA.out.below hbl (fun h => HA.out.lt h)) k hin
      have u := (HB.out.below hbl (fun h => HB.out.lt h)) k hin
      generalize st.getD k 0 = x at t u
      go_wp2
      go_quiet (fail)
      go_wp2
      go_roundw
      case rel => exact ⟨k + 1, by omega, by go_num, below_drew_n hbl _⟩
      case measure => simp [intOf]; omega
    · go_wp2
      go_ret
      exact ⟨rfl, hbl⟩

/-- The marks that are written. -/
def intMkd (st : List Int) : Nat → List Int
  | 0 => st
  | k + 1 => (intMkd st k).set k (1 + k : Nat)

theorem intMkd_length (st : List Int) : ∀ k, (intMkd st k).length = st.length
  | 0 => rfl
  | k + 1 => by rw [intMkd, List.length_set, intMkd_length st k]

theorem intMkd_at (st : List Int) : ∀ (k i : Nat), i < k → i < st.length → (intMkd st k).getD i 0 = (1 + i : Nat)
  | 0, i, h, _ => by omega
  | k + 1, i, h, hl => by
    rw [intMkd]
    by_cases hik : i = k
    · subst hik
      simp [List.getD, intMkd_length, hl]
    · have ih := intMkd_at st k i (by omega) hl
      have hki : ¬ k = i := fun e => hik e.symm
      simp only [List.getD, List.getElem?_set, hki, if_false] at ih ⊢
      exact ih

theorem intRow_set (st : List Int) (sp : List Value) (k : Nat) (x : Int) (h : k < st.length) : (intRow st sp).setIfInBounds k (.int .i64 x) = intRow (st.set k x) sp := by
  unfold intRow
  rw [List.setIfInBounds_toArray, List.set_append_left _ _ (by simpa using h), List.map_set]

set_option maxRecDepth 20000 in
theorem int_mark_row {ty : TypeId} (a : Option Addr) (g cap B : Nat) (st : List Int) (sp : List Value) (hl : st.length ≤ 1048576) (ha : 0 < st.length → a = some ⟨g, 0, none⟩) (w : World)
    (hg : 0 < st.length → w.heap[g]? = some (.cells (intRow st sp) ty (0, 0))) (hB : B ≤ g) (hBw : B ≤ w.heap.size) :
    Calls Try.prog 29 #[.slice a st.length cap, .int .i64 1] w fun e w' =>
      e = .returned (.int .i64 ((1 + st.length : Nat) : Int)) ∧ (0 < st.length → w'.heap[g]? = some (.cells (intRow (intMkd st st.length) sp) ty (0, 0))) ∧ Below B w w' ∧ But g w w' := by
  have HG : Hid (0 < st.length → w.heap[g]? = some (.cells (intRow st sp) ty (0, 0))) := hg
  clear hg
  go_enter Try.func29, Try.ntmps29
  go_wp2
  go_loopw [1, 5] (fun c i wr => ∃ k : Nat, k ≤ st.length ∧ i = .int .i64 k ∧ c = .int .i64 ((1 + k : Nat) : Int) ∧ Hid (0 < st.length → wr.heap[g]? = some (.cells (intRow (intMkd st k) sp) ty (0, 0))) ∧ Below B w wr ∧ Hid (But g w wr)) (fun _ i _ => st.length - (intOf i).toNat)
  case atStart => exact ⟨0, by omega, rfl, rfl, HG.out, Below.refl _ _, But.refl _ _⟩
  case round =>
    obtain ⟨k, hk, rfl, rfl, HR, hb, T0⟩ := hrel
    by_cases hin : k < st.length
    · have e1 : (k : Int) < st.length := by omega
      obtain rfl := ha (by omega)
      have hr0 := HR.out (by omega)
      have hkm : k < (intMkd st k).length := by rw [intMkd_length]; exact hin
      have t0 := int_of_row (fun _ => hr0) k hkm
      have f0 : wr.frozen? ⟨g, k, none⟩ = false := frozen_of_row wr _ _ _ _ hr0
      have HS : Hid (wr.heap[g]? = some (.cells (intRow (intMkd st k) sp) ty (0, 0))) := hr0
      have HQ : Hid ((intRow (intMkd st k) sp).setIfInBounds k (.int .i64 ((1 + k : Nat) : Int)) = intRow (intMkd st (k + 1)) sp) := intRow_set _ _ _ _ hkm
      generalize (intMkd st k).getD k 0 = x at t0
      clear hr0 hkm HR
      go_wp2
      go_roundw
      case rel =>
        refine ⟨k + 1, by omega, by go_num, by go_num, fun _ => ?_, hb.setCell (p := ⟨g, k, none⟩) hB _, T0.out.setCell k _⟩
        have h := heap_setCell_same wr g k _ _ (.int .i64 ((1 + k : Nat) : Int)) HS.out
        rw [HQ.out] at h
        exact h
      case measure => simp [intOf]; omega
    · obtain rfl : k = st.length := by omega
      go_wp2
      go_ret
      exact ⟨rfl, HR.out, hb, T0.out⟩

set_option maxRecDepth 20000 in
theorem int_held_row (a : Option Addr) (g cap m : Nat) (ms : List Int) (hmm : ms.length = m) (hl : m ≤ 1048576) (ha : 0 < m → a = some ⟨g, 0, none⟩) (w : World)
    (hT : IntAt w g ms) (hm : ∀ i, i < ms.length → ms.getD i 0 = (1 + i : Nat)) :
    Calls Try.prog 30 #[.slice a m cap, .int .i64 1] w fun e w' => e = .returned (.int .i64 ((1 + m : Nat) : Int)) ∧ Below w.heap.size w w' := by
  subst hmm
  have HM : Hid (∀ i, i < ms.length → ms.getD i 0 = (1 + i : Nat)) := hm
  have HT : Hid (IntAt w g ms) := hT
  clear hm hT
  go_enter Try.func30, Try.ntmps30
  go_wp2
  go_loopw [1, 5] (fun c i wr => ∃ k : Nat, k ≤ ms.length ∧ i = .int .i64 k ∧ c = .int .i64 ((1 + k : Nat) : Int) ∧ Below w.heap.size w wr) (fun _ i _ => ms.length - (intOf i).toNat)
  case atStart => exact ⟨0, by omega, rfl, rfl, Below.refl _ _⟩
  case round =>
    obtain ⟨k, hk, rfl, rfl, hb⟩ := hrel
    by_cases hin : k < ms.length
    · have e1 : (k : Int) < ms.length := by omega
      obtain rfl := ha (by omega)
      have t := (HT.out.below hb (fun h => HT.out.lt h)) k hin
      rw [HM.out k hin] at t
      have t' : wr.cell? ⟨g, k, none⟩ = some (.int .i64 (1 + (k : Int))) := by rw [t]; congr 2
      clear t
      go_wp2
      go_roundw
      case rel => exact ⟨k + 1, by omega, by go_num, by go_num, hb⟩
      case measure => simp [intOf]; omega
    · obtain rfl : k = ms.length := by omega
      go_wp2
      go_ret
      exact ⟨rfl, hb⟩
end Go.Proofs.Ytcpafjpjfinbkaa
