/-
  Var as it landed. Conditions: written at each theorem.
-/
import Derived.Test.YtpjaiehkhbkgiaiVr
import Derived.Laws.Bits128
namespace Go.Proofs.Ytpjaiehkhbkgiai
open Go.ChangeShapes Go.WideShapes Go.ChangeAt Go.RowKit
set_option linter.unusedVariables false

/-- A room of m places more than the bytes that were laid into it. -/
def rm (L : List Int) (m : Nat) : List Value := L.map (Value.int .u8) ++ List.replicate m (.int .u8 0)

theorem rm_length (L : List Int) (m : Nat) : (rm L m).length = L.length + m := by simp [rm]

theorem rm_step (L : List Int) (m : Nat) (x : Int) : splice (rm L (m + 1)) L.length [.int .u8 x] = rm (L ++ [x]) m := by
  simp [splice, rm, List.drop_append, List.replicate_succ]

theorem rm_conv (L : List Int) (m c : Nat) (wr : World) (g : Nat) (h : wr.heap[g]? = some (.cells (rm L m).toArray 5 (0, 0))) :
    (convert 30 9 (.slice (some ⟨g, 0, none⟩) L.length c)).run Try.prog wr = .ok (.string (strOfNums L)) wr := by
  refine run_convert_bytes_arg _ 30 5 Try.underlying30 Try.underlying5 g 0 L.length c _ rfl (fun i hi => ?_) 9 Try.underlying9
  rw [room_cell h, Nat.zero_add, rm, List.getElem?_append_left (by simpa using hi)]
  simp [List.getElem?_eq_getElem hi]

/-- One byte, laid behind those that the room holds. -/
theorem put_one (g n c B : Nat) (L : List Int) (m : Nat) (x : Int) (wr w0 : World) (hroom : wr.heap[g]? = some (.cells (rm L (m + 1)).toArray 5 (0, 0)))
    (hfit : L.length + 1 ≤ n) (hn : n ≤ L.length + (m + 1)) (hc : n ≤ c) (hmax : n ≤ maxLen) (hb : Below B w0 wr) (hBg : B ≤ g) :
    Calls Try.prog 13 #[.slice (some ⟨g, 0, none⟩) n c, .int .i64 (L.length : Nat), .slice (some ⟨wr.heap.size, 0, none⟩) 1 1] (wr.alloc (.cells #[.int .u8 x] 5)) fun e w' =>
      e = .returned (.int .i64 (L.length + 1 : Nat)) ∧ w'.heap[g]? = some (.cells (rm (L ++ [x]) m).toArray 5 (0, 0)) ∧ Below B w0 w' := by
  have hlt : g < wr.heap.size := (Array.getElem?_eq_some_iff.1 hroom).1
  have h := put_any g n c L.length 1 wr.heap.size B (rm L (m + 1)) [.int .u8 x] (wr.alloc (.cells #[.int .u8 x] 5)) w0 (room_alloc hroom _) rfl
    (fun j v hj => by
      obtain rfl : j = 0 := by
        rcases j with _ | j
        · rfl
        · simp at hj
      rw [World.cell?_alloc_at _ _ _ _ rfl]
      simpa using hj) (by omega) hfit (by rw [rm_length]; exact hn) hc hmax (by simp [Value.oneCell']) (hb.alloc (by omega) _) hBg
  rw [rm_step] at h
  exact h

theorem or128 (q : Nat) : bits .or .i64 ((q : Int) % 128) 128 = 128 + (q : Int) % 128 := by
  have h : bits .or .i64 (((128 : Nat) : Int)) (((q % 128 : Nat) : Int)) = ((128 + q % 128 : Nat) : Int) := or_join 7 128 (q % 128) (by decide) (by omega) (by omega)
  have c : bits .or .i64 ((q : Int) % 128) 128 = bits .or .i64 128 ((q : Int) % 128) := by simp only [bits, BitVec.or_comm]
  rw [c]
  simpa using h

set_option maxRecDepth 20000 in
theorem impl_var (n : Nat) (hn : n ≤ 562949953421311) (w : World) :
    Calls Try.prog 11 #[.int .i64 n] w fun e w' => e = .returned (.string (strOfNums (vr n))) ∧ Below w.heap.size w w' := by
  have hmk : ∀ w, (Instr.makeSlice 30 (.int .i64 7) (.int .i64 7)).run Try.prog w = .ok (.slice (some ⟨w.heap.size, 0, none⟩) 7 7) (w.alloc (.cells (rm [] 7).toArray 5)) := fun _ => by kernel_rfl
  go_enter Try.func11, Try.ntmps11
  go_wp2
  go_loopw [0, 4] (fun m a wr => ∃ (q : Nat) (L : List Int), m = .int .i64 q ∧ q ≤ n ∧ a = .int .i64 L.length ∧ L.length ≤ 7 ∧ Hid (wr.heap[w.heap.size]? = some (.cells (rm L (7 - L.length)).toArray 5 (0, 0))) ∧ Hid (L ++ vr q = vr n) ∧ Below w.heap.size w wr) (fun m _ _ => (intOf m).toNat)
  case atStart =>
    refine ⟨n, [], rfl, Nat.le_refl _, rfl, by simp, ?_, by simp [Hid], (Below.refl _ _).alloc (Nat.le_refl _) _⟩
    exact (MapKept.heap_alloc w _).1
  case round =>
    obtain ⟨q, L, rfl, hq, rfl, hL7, hroom, hvr, hbel⟩ := hrel
    clear hmk
    have hlen := vr_rest hvr.out hn
    have hpos := vr_pos q
    have hL : L.length + 1 ≤ 7 := by omega
    clear hlen hpos
    have hmm : 7 - L.length = (7 - (L.length + 1)) + 1 := by omega
    rw [hmm] at hroom
    clear hmm
    by_cases hs : (q : Int) < 128
    · have hfin : L ++ [(q : Int)] = vr n := by rw [← hvr.out, vr_small (by omega)]
      go_wp2_with fail
      refine (put_one w.heap.size 7 7 w.heap.size L (7 - (L.length + 1)) q wr w hroom.out (by omega) (by omega) (by omega) (by unfold maxLen; omega) hbel (Nat.le_refl _)).mono ?_
      rintro e w1 ⟨rfl, hr1, hb1⟩
      have hlen : L.length + 1 = (L ++ [(q : Int)]).length := by simp
      have hc := rm_conv (L ++ [(q : Int)]) (7 - (L.length + 1)) 7 w1 w.heap.size hr1
      rw [← hlen] at hc
      rw [hfin] at hc
      clear hr1 hroom hvr hfin hbel hlen
      go_wp2
      go_ret
      exact ⟨rfl, hb1⟩
    · have hand := i64_and127 (q : Int)
      have hor := or128 q
      have hfin : Hid ((L ++ [((128 + q % 128 : Nat) : Int)]) ++ vr (q / 128) = vr n) := vr_le (by omega) hvr.out
      go_wp2_with fail
      refine (put_one w.heap.size 7 7 w.heap.size L (7 - (L.length + 1)) (128 + (q : Int) % 128) wr w hroom.out (by omega) (by omega) (by omega) (by unfold maxLen; omega) hbel (Nat.le_refl _)).mono ?_
      rintro e w1 ⟨rfl, hr1, hb1⟩
      have hr2 : Hid (w1.heap[w.heap.size]? = some (.cells (rm (L ++ [((128 + q % 128 : Nat) : Int)]) (7 - (L ++ [((128 + q % 128 : Nat) : Int)]).length)).toArray 5 (0, 0))) := by
        show w1.heap[w.heap.size]? = _
        rw [hr1]
        simp
      clear hr1 hroom hvr hbel hand hor
      go_wp2
      go_roundw
      case rel => exact ⟨q / 128, L ++ [((128 + q % 128 : Nat) : Int)], by go_num, by omega, by simp, by simp; omega, hr2, hfin, hb1⟩
      case measure => simp [intOf]; omega

theorem impl_var_no (n : Int) (h : n < 0 ∨ 562949953421311 < n) (w : World) :
    Calls Try.prog 11 #[.int .i64 n] w fun e w' => e = .returned (.string ByteArray.empty) ∧ Below w.heap.size w w' := by
  by_cases h1 : n < 0
  · go_enter Try.func11, Try.ntmps11
    go_wp2
    go_ret
    exact ⟨rfl, Below.refl _ _⟩
  · have h2 : 562949953421311 < n := by omega
    go_enter Try.func11, Try.ntmps11
    go_wp2
    go_ret
    exact ⟨rfl, Below.refl _ _⟩

theorem spec_var_no (n : Int) (h : n < 0 ∨ 562949953421311 < n) (w : World) :
    Calls Try.prog 10 #[.int .i64 n] w fun e w' => e = .returned (.string ByteArray.empty) ∧ Below w.heap.size w w' := by
  go_enter Try.func10, Try.ntmps10
  go_wp2_with (go_at_call 12; refine (in_no n 0 562949953421311 h w).mono ?_; rintro e w' ⟨rfl, rfl⟩)
  go_ret
  exact ⟨rfl, Below.refl _ _⟩
end Go.Proofs.Ytpjaiehkhbkgiai
