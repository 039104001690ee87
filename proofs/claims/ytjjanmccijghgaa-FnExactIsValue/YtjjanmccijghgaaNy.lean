/-
  Keys, the specification's. Conditions: written at each theorem.
-/
import Derived.Test.YtjjanmccijghgaaNk
import Derived.Test.YtjjanmccijghgaaWs
namespace Go.Proofs.Ytjjanmccijghgaa
open Go.ChangeShapes Go.WideShapes Go.ChangeAt Go.RowKit
set_option linter.unusedVariables false

def keysL : List ByteArray := [⟨#[102, 117, 110]⟩, ⟨#[97, 112, 112]⟩, ⟨#[108, 101, 116]⟩, ⟨#[114, 101, 99]⟩, ⟨#[105, 102]⟩, ⟨#[97, 100, 100]⟩, ⟨#[115, 117, 98]⟩, ⟨#[108, 101, 115, 115]⟩, ⟨#[115, 97, 109, 101]⟩, ⟨#[112, 97, 105, 114]⟩, ⟨#[102, 115, 116]⟩, ⟨#[115, 110, 100]⟩, ⟨#[110, 105, 108]⟩, ⟨#[99, 111, 110, 115]⟩, ⟨#[109, 97, 116, 99, 104]⟩, ⟨#[114, 101, 102]⟩, ⟨#[103, 101, 116]⟩, ⟨#[115, 101, 116]⟩, ⟨#[114, 97, 105, 115, 101]⟩, ⟨#[116, 114, 121]⟩]

/-- Is it a key? -/
def isKeyB (s : ByteArray) : Bool := decide (s.data.toList ∈ keysL.map (·.data.toList))

theorem data_ext {a b : ByteArray} (h : a.data.toList = b.data.toList) : a = b := by
  cases a; cases b
  simp only at h
  congr 1
  exact Array.toList_inj.1 h

theorem key_mem (s : ByteArray) : s.data.toList ∈ keysL.map (·.data.toList) ↔ ∃ j, j < 20 ∧ keysL.getD j ByteArray.empty = s := by
  constructor
  · intro h
    obtain ⟨u, hu, he'⟩ := List.mem_map.1 h
    obtain rfl := data_ext he'
    obtain ⟨j, hj, he⟩ := List.getElem_of_mem hu
    exact ⟨j, hj, by rw [List.getD, List.getElem?_eq_getElem hj]; exact he⟩
  · rintro ⟨j, hj, rfl⟩
    have hj' : j < keysL.length := hj
    rw [List.getD, List.getElem?_eq_getElem hj']
    exact List.mem_map_of_mem (List.getElem_mem hj')

theorem row_new (w : World) (ls : List ByteArray) (t : TypeId) (cs : Array Value) (hcs : cs = (ls.map Value.string).toArray) : ∀ j, j < ls.length → (w.alloc (.cells cs t)).cell? ⟨w.heap.size, j, none⟩ = some (.string (ls.getD j ByteArray.empty)) := by
  subst hcs
  intro j hj
  rw [cell_of_row _ _ _ _ _ _ (MapKept.heap_alloc w _).1]
  simp [List.getD, List.getElem?_eq_getElem hj]

theorem spec_keys (w : World) : Calls Try.prog 37 #[] w fun e w' =>
    e = .returned (.slice (some ⟨w.heap.size, 0, none⟩) 20 20) ∧ (∀ j, j < 20 → w'.cell? ⟨w.heap.size, j, none⟩ = some (.string (keysL.getD j ByteArray.empty))) ∧ Below w.heap.size w w' := by
  have hc := row_new w keysL 9 _ rfl
  have HC : Hid (∀ j, j < 20 → (w.alloc (.cells (keysL.map Value.string).toArray 9)).cell? ⟨w.heap.size, j, none⟩ = some (.string (keysL.getD j ByteArray.empty))) := hc
  clear hc
  go_enter Try.func37, Try.ntmps37
  go_wp2
  go_ret
  exact ⟨rfl, HC.out, (Below.refl _ w).alloc (Nat.le_refl _) _⟩

theorem spec_key (s : ByteArray) (w : World) : Calls Try.prog 34 #[.string s] w fun e w' => e = .returned (.bool (isKeyB s)) ∧ Below w.heap.size w w' := by
  go_enter Try.func34, Try.ntmps34
  go_wp2_with fail
  refine (spec_keys w).mono ?_
  rintro e w1 ⟨rfl, hc, hb⟩
  have HC : Hid (∀ j, j < 20 → w1.cell? ⟨w.heap.size, j, none⟩ = some (.string (keysL.getD j ByteArray.empty))) := hc
  clear hc
  go_wp2
  go_loop [4] (fun i => ∃ k : Nat, k ≤ 20 ∧ (∀ j, j < k → keysL.getD j ByteArray.empty ≠ s) ∧ i = .int .i64 k) (fun n => 20 - (intOf n).toNat)
  case atStart => exact ⟨0, by omega, by intro j h; omega, rfl⟩
  case round =>
    obtain ⟨k, hk, hall, rfl⟩ := hrel
    by_cases hin : k < 20
    · have hin' : (k : Int) < 20 := by omega
      have q := HC.out k hin
      by_cases he : keysL.getD k ByteArray.empty = s
      · have hv : Ending.returned (.bool true) = Ending.returned (.bool (isKeyB s)) := by rw [isKeyB, decide_eq_true ((key_mem s).2 ⟨k, hin, he⟩)]
        rw [he] at q
        clear he hall
        go_wp2
        go_ret
        exact ⟨hv, hb⟩
      · have HA : Hid (∀ j, j < k + 1 → keysL.getD j ByteArray.empty ≠ s) := fun j hj => by
          rcases Nat.lt_or_eq_of_le (Nat.le_of_lt_succ hj) with h | rfl
          · exact hall j h
          · exact he
        generalize keysL.getD k ByteArray.empty = T at *
        have hne : (T.toList == s.toList) = false := by
          rw [beq_eq_false_iff_ne]
          intro e
          rw [Lib.toList_data, Lib.toList_data] at e
          exact he (data_ext e)
        clear hall he
        go_wp2
        go_round
        case rel => exact ⟨k + 1, by omega, HA.out, by go_num⟩
        case measure => simp [intOf]; omega
    · obtain rfl : k = 20 := by omega
      have hv : Ending.returned (.bool false) = Ending.returned (.bool (isKeyB s)) := by rw [isKeyB, decide_eq_false (fun h => by obtain ⟨j, hj, h⟩ := (key_mem s).1 h; exact hall j hj h)]
      clear hall
      go_wp2
      go_ret
      exact ⟨hv, hb⟩
end Go.Proofs.Ytjjanmccijghgaa
