/-
  Rows of texts: held against each other; marks that are written into them and read again. Conditions: written at each theorem.
-/
import Derived.Test.YtcpafjpjfinbkaaSs
import Derived.Test.YtcpafjpjfinbkaaMt
import Derived.Test.YtcpafjpjfinbkaaIn
import Derived.Lib.QuietBelow
namespace Go.Proofs.Ytcpafjpjfinbkaa
open Go.ChangeShapes Go.WideShapes Go.ChangeAt Go.RowKit Go.Sort
set_option linter.unusedVariables false

/-- Texts that lie in a block. -/
def StrAt (w : World) (g : Nat) (bs : List ByteArray) : Prop := ∀ i, i < bs.length → w.cell? ⟨g, i, none⟩ = some (.string (bs.getD i ByteArray.empty))

theorem StrAt.lt {w : World} {g : Nat} {bs : List ByteArray} (h : StrAt w g bs) (hl : 0 < bs.length) : g < w.heap.size := nod_lt (h 0 hl)

theorem StrAt.below {w w' : World} {g B : Nat} {bs : List ByteArray} (h : StrAt w g bs) (hb : Below B w w') (hg : 0 < bs.length → g < B) : StrAt w' g bs :=
  fun i hi => (World.cell?_of_block (hb.block g (hg (by omega)))).trans (h i hi)

def strRow (bs : List ByteArray) (sp : List Value) : Array Value := (bs.map Value.string ++ sp).toArray

theorem str_of_row {w : World} {g : Nat} {bs : List ByteArray} {sp : List Value} {t : TypeId} {z : Nat × Nat} (h : 0 < bs.length → w.heap[g]? = some (.cells (strRow bs sp) t z)) : StrAt w g bs := by
  intro i hi
  have h' := h (by omega)
  rw [cell_of_row _ _ _ _ _ _ h']
  simp [strRow, List.getD, List.getElem?_append, hi]

/-- The texts as they lie. -/
def strsB (l : List (List UInt8)) : List ByteArray := l.map fun x => ⟨x.toArray⟩

theorem strsB_length (l : List (List UInt8)) : (strsB l).length = l.length := by simp [strsB]

theorem ownS_open {w : World} {B : Nat} {v : Value} {l : List (List UInt8)} (h : ownS w B v l) :
    ∃ (a : Option Addr) (g cap : Nat) (sp : List Value), v = .slice a (strsB l).length cap ∧ (0 < (strsB l).length → a = some ⟨g, 0, none⟩) ∧ B ≤ g ∧ (0 < (strsB l).length → w.heap[g]? = some (.cells (strRow (strsB l) sp) 9 (0, 0))) := by
  rw [strsB_length]
  rcases h.2 with ⟨rfl, hz⟩ | ⟨g, cap, cur, rfl, hb, hg, hn, hm, hs, ht⟩
  · exact ⟨none, B, 0, [], by rw [hz], fun h => absurd h (by omega), Nat.le_refl _, fun h => absurd h (by omega)⟩
  · have hc : cur = strRow (strsB l) (cur.toList.drop (l.length * 1)) := by
      apply Array.toList_inj.1
      unfold strRow strsB
      rw [List.map_map]
      have e : (Value.string ∘ fun x : List UInt8 => (⟨x.toArray⟩ : ByteArray)) = encStr := rfl
      rw [e, ← ht]
      simp
    exact ⟨some ⟨g, 0, none⟩, g, cap, cur.toList.drop (l.length * 1), rfl, fun _ => rfl, hb, fun _ => by rw [← hc]; exact hg⟩

set_option maxRecDepth 20000 in
theorem str_eq_row (a b : Option Addr) (g h ca cb : Nat) (bs : List ByteArray) (hl : bs.length ≤ 1048576) (ha : 0 < bs.length → a = some ⟨g, 0, none⟩) (hb : 0 < bs.length → b = some ⟨h, 0, none⟩) (w : World) (hA : StrAt w g bs) (hB : StrAt w h bs) :
    Calls Try.prog 19 #[.slice a bs.length ca, .slice b bs.length cb] w fun e w' => e = .returned (.bool true) ∧ Below w.heap.size w w' := by
  have HA : Hid (StrAt w g bs) := hA
  have HB : Hid (StrAt w h bs) := hB
  clear hA hB
  go_enter Try.func19, Try.ntmps19
  go_wp2
  go_loopw [5] (fun i wr => ∃ k : Nat, k ≤ bs.length ∧ i = .int .i64 k ∧ Below w.heap.size w wr) (fun i _ => bs.length - (intOf i).toNat)
  case atStart => exact ⟨0, by omega, rfl, Below.refl _ _⟩
  case round =>
    obtain ⟨k, hk, rfl, hbl⟩ := hrel
    by_cases hin : k < bs.length
    · have e1 : (k : Int) < bs.length := by omega
      obtain rfl := ha (by omega)
      obtain rfl := hb (by omega)
      have t := (HA.out.below hbl (fun h => HA.out.lt h)) k hin
      have u := (HB.out.below hbl (fun h => HB.out.lt h)) k hin
      generalize bs.getD k ByteArray.empty = x at t u
      go_wp2
      go_quiet (fail)
      go_wp2
      go_roundw
      case rel => exact ⟨k + 1, by omega, by go_num, below_drew_n hbl _⟩
      case measure => simp [intOf]; omega
    · go_wp2
      go_ret
      exact ⟨rfl, hbl⟩

/-- The marks that are written. -/
def strMkd (bs : List ByteArray) : Nat → List ByteArray
  | 0 => bs
  | k + 1 => (strMkd bs k).set k (markS (1 + k))

theorem strMkd_length (bs : List ByteArray) : ∀ k, (strMkd bs k).length = bs.length
  | 0 => rfl
  | k + 1 => by rw [strMkd, List.length_set, strMkd_length bs k]

theorem strMkd_at (bs : List ByteArray) : ∀ (k i : Nat), i < k → i < bs.length → (strMkd bs k).getD i ByteArray.empty = markS (1 + i)
  | 0, i, h, _ => by omega
  | k + 1, i, h, hl => by
    rw [strMkd]
    by_cases hik : i = k
    · subst hik
      simp [List.getD, strMkd_length, hl]
    · have ih := strMkd_at bs k i (by omega) hl
      have hki : ¬ k = i := fun e => hik e.symm
      simp only [List.getD, List.getElem?_set, hki, if_false] at ih ⊢
      exact ih

theorem strRow_set (bs : List ByteArray) (sp : List Value) (k : Nat) (x : ByteArray) (h : k < bs.length) : (strRow bs sp).setIfInBounds k (.string x) = strRow (bs.set k x) sp := by
  unfold strRow
  rw [List.setIfInBounds_toArray, List.set_append_left _ _ (by simpa using h), List.map_set]

set_option maxRecDepth 20000 in
theorem str_mark_row {ty : TypeId} (a : Option Addr) (g cap B : Nat) (bs : List ByteArray) (sp : List Value) (hl : bs.length ≤ 1048576) (ha : 0 < bs.length → a = some ⟨g, 0, none⟩) (w : World)
    (hg : 0 < bs.length → w.heap[g]? = some (.cells (strRow bs sp) ty (0, 0))) (hB : B ≤ g) (hBw : B ≤ w.heap.size) :
    Calls Try.prog 21 #[.slice a bs.length cap, .int .i64 1] w fun e w' =>
      e = .returned (.int .i64 ((1 + bs.length : Nat) : Int)) ∧ (0 < bs.length → w'.heap[g]? = some (.cells (strRow (strMkd bs bs.length) sp) ty (0, 0))) ∧ Below B w w' := by
  have HG : Hid (0 < bs.length → w.heap[g]? = some (.cells (strRow bs sp) ty (0, 0))) := hg
  clear hg
  go_enter Try.func21, Try.ntmps21
  go_wp2
  go_loopw [1, 5] (fun c i wr => ∃ k : Nat, k ≤ bs.length ∧ i = .int .i64 k ∧ c = .int .i64 ((1 + k : Nat) : Int) ∧ Hid (0 < bs.length → wr.heap[g]? = some (.cells (strRow (strMkd bs k) sp) ty (0, 0))) ∧ Below B w wr) (fun _ i _ => bs.length - (intOf i).toNat)
  case atStart => exact ⟨0, by omega, rfl, rfl, HG.out, Below.refl _ _⟩
  case round =>
    obtain ⟨k, hk, rfl, rfl, HR, hb⟩ := hrel
    have hs := hb.size
    by_cases hin : k < bs.length
    · have e1 : (k : Int) < bs.length := by omega
      obtain rfl := ha (by omega)
      have ek : ((1 + k : Nat) : Int) = 1 + (k : Int) := by omega
      rw [ek]
      go_wp2_with fail
      refine (mark_at (1 + (k : Int)) (1 + k) (by omega) (by omega) (by omega) wr).mono ?_
      rintro e w2 ⟨rfl, b2⟩
      have hr0 := HR.out (by omega)
      have hr2 : w2.heap[g]? = some (.cells (strRow (strMkd bs k) sp) ty (0, 0)) := (b2.block g (Array.getElem?_eq_some_iff.1 hr0).1).trans hr0
      have hkm : k < (strMkd bs k).length := by rw [strMkd_length]; exact hin
      have t0 := str_of_row (fun _ => hr2) k hkm
      have f0 : w2.frozen? ⟨g, k, none⟩ = false := frozen_of_row w2 _ _ _ _ hr2
      have HS : Hid (w2.heap[g]? = some (.cells (strRow (strMkd bs k) sp) ty (0, 0))) := hr2
      have HQ : Hid ((strRow (strMkd bs k) sp).setIfInBounds k (.string (markS (1 + k))) = strRow (strMkd bs (k + 1)) sp) := strRow_set _ _ _ _ hkm
      have HB2 : Hid (Below B w w2) := hb.trans (b2.mono (by omega))
      generalize (strMkd bs k).getD k ByteArray.empty = x at t0
      generalize markS (1 + k) = ms at *
      clear hr0 hkm HR hr2 b2 hb ek
      go_wp2
      go_roundw
      case rel =>
        refine ⟨k + 1, by omega, by go_num, by go_num, fun _ => ?_, HB2.out.setCell (p := ⟨g, k, none⟩) hB _⟩
        have h := heap_setCell_same w2 g k _ _ (.string ms) HS.out
        rw [HQ.out] at h
        exact h
      case measure => simp [intOf]; omega
    · obtain rfl : k = bs.length := by omega
      go_wp2
      go_ret
      exact ⟨rfl, HR.out, hb⟩

set_option maxHeartbeats 1000000 in
set_option maxRecDepth 20000 in
theorem str_held_row (a : Option Addr) (g cap m : Nat) (ms : List ByteArray) (hmm : ms.length = m) (hl : m ≤ 1048576) (ha : 0 < m → a = some ⟨g, 0, none⟩) (w : World)
    (hT : StrAt w g ms) (hm : ∀ i, i < ms.length → ms.getD i ByteArray.empty = markS (1 + i)) :
    Calls Try.prog 22 #[.slice a m cap, .int .i64 1] w fun e w' => e = .returned (.int .i64 ((1 + m : Nat) : Int)) ∧ Below w.heap.size w w' := by
  subst hmm
  have HM : Hid (∀ i, i < ms.length → ms.getD i ByteArray.empty = markS (1 + i)) := hm
  have HT : Hid (StrAt w g ms) := hT
  clear hm hT
  go_enter Try.func22, Try.ntmps22
  go_wp2
  go_loopw [1, 5] (fun c i wr => ∃ k : Nat, k ≤ ms.length ∧ i = .int .i64 k ∧ c = .int .i64 (1 + (k : Int)) ∧ Below w.heap.size w wr) (fun _ i _ => ms.length - (intOf i).toNat)
  case atStart => exact ⟨0, by omega, rfl, rfl, Below.refl _ _⟩
  case round =>
    obtain ⟨k, hk, rfl, rfl, hb⟩ := hrel
    have hs := hb.size
    by_cases hin : k < ms.length
    · have e1 : (k : Int) < ms.length := by omega
      obtain rfl := ha (by omega)
      have t := (HT.out.below hb (fun h => HT.out.lt h)) k hin
      rw [HM.out k hin] at t
      have HCM : Hid (∀ w', Calls Try.prog 50 #[.int .i64 (1 + (k : Int))] w' fun e w'' => e = .returned (.string (markS (1 + k))) ∧ Below w'.heap.size w' w'') := fun w' => mark_at (1 + (k : Int)) (1 + k) (by omega) (by omega) (by omega) w'
      generalize markS (1 + k) = x at *
      have cD : ∀ d os, Calls Try.prog 50 #[.int .i64 (1 + (k : Int))] (grow (redrawn wr d) os) fun e w'' => e = .returned (.string x) ∧ ∃ q : Regrown, w'' = grow (redrawn wr q.d) q.os := fun d os => Calls.regrown_of (HCM.out _)
      have d0 := cell_regrown t
      clear HCM
      go_wp2
      refine wp_region_quiet_below (by kernel_rfl) (by kernel_rfl) ?_
      repeat (go_big_quiet_step (exact cD _ _))
      refine wpQuiet_nil ?_
      intro _ hw'
      obtain ⟨⟨dq, osq⟩, hw''⟩ := hw'
      subst hw''
      have HBQ : Hid (Below w.heap.size w (grow (redrawn wr dq) osq)) := hb.trans ((below_regrown wr dq osq).mono hs)
      clear cD d0 t
      go_wp2
      go_roundw
      case rel => exact ⟨k + 1, by omega, by go_num, by go_num, HBQ.out⟩
      case measure => simp [intOf]; omega
    · obtain rfl : k = ms.length := by omega
      go_wp2
      go_ret
      exact ⟨by rw [show ((1 + ms.length : Nat) : Int) = 1 + (ms.length : Int) by omega] <;> rfl, hb⟩
end Go.Proofs.Ytcpafjpjfinbkaa
