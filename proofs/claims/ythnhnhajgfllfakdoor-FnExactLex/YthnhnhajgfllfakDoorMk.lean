/-
  Marks that are written into a row of tokens of the call's own, and are read there again. Conditions: written at each theorem.
-/
import Derived.Test.YthnhnhajgfllfakDoorTk
import Derived.Test.YthnhnhajgfllfakDoorSt
import Derived.Test.YthnhnhajgfllfakDoorDs
import Derived.Laws.OwnMore
namespace Go.Proofs.YthnhnhajgfllfakDoor
open Go.ChangeShapes Go.WideShapes Go.ChangeAt Go.RowKit
set_option linter.unusedVariables false

def markL (k : Nat) : List UInt8 := 109 :: Lib.decDigits k
def markS (k : Nat) : ByteArray := ⟨(markL k).toArray⟩

theorem mark_join (L : List UInt8) : ByteArray.mk #[109] ++ ByteArray.mk L.toArray = ByteArray.mk (109 :: L).toArray := by
  rw [show (#[109] : Array UInt8) = [109].toArray from rfl, ByteArray.mk_append_mk]
  simp

set_option maxRecDepth 20000 in
theorem mark_text (N : Nat) (h0 : 0 < N) (hN : N < 9223372036854775808) (w : World) :
    Calls Tryd.prog 16 #[.int .i64 N] w fun e w' => e = .returned (.string (markS N)) ∧ Below w.heap.size w w' := by
  go_enter Tryd.func16, Tryd.ntmps16
  go_wp2
  go_loopw [0, 3] (fun n out wr => ∃ (q : Nat) (L : List UInt8), n = .int .i64 q ∧ q ≤ N ∧ out = .string ⟨L.toArray⟩ ∧ Hid (Left N q L) ∧ Below w.heap.size w wr) (fun n _ _ => (intOf n).toNat)
  case atStart => exact ⟨N, [], rfl, Nat.le_refl _, rfl, left_start N h0, Below.refl _ _⟩
  case round =>
    obtain ⟨q, L, rfl, hq, rfl, hleft, hbel⟩ := hrel
    have hlen := left_length hleft.out (by omega)
    by_cases hq0 : q = 0
    · subst hq0
      have E : Hid (L = Lib.decDigits N) := hleft.out.1 rfl
      have hs2 : (ByteArray.mk L.toArray).size ≤ 19 := by simpa [ByteArray.size] using hlen
      have hs3 : (ByteArray.mk #[109]).size = 1 := rfl
      have HF : Hid (ByteArray.mk #[109] ++ ByteArray.mk L.toArray = markS N) := by
        show ByteArray.mk #[109] ++ ByteArray.mk L.toArray = markS N
        rw [mark_join, E.out]
        rfl
      clear hleft
      go_wp2
      go_ret
      exact ⟨by rw [← HF.out]; rfl, hbel⟩
    · have hpos : 0 < q := by omega
      have hpos' : (0 : Int) < q := by omega
      have hc := conv1 wr
      have hs1 : ∀ x, (strOfNums [x]).size = 1 := fun x => strOfNums_size [x]
      have hs2 : (ByteArray.mk L.toArray).size ≤ 19 := by simpa [ByteArray.size] using hlen
      have E : Hid (Left N (q / 10) (UInt8.ofNat (48 + q % 10) :: L)) := left_step hleft.out hpos
      clear hleft
      go_wp2
      go_roundw
      case rel => exact ⟨q / 10, UInt8.ofNat (48 + q % 10) :: L, by go_num, by omega, by rw [lay_digit], E, hbel.alloc hbel.size _⟩
      case measure => simp [intOf]; omega

theorem mark_at (x : Int) (N : Nat) (hx : x = N) (h0 : 0 < N) (hN : N < 9223372036854775808) (w : World) :
    Calls Tryd.prog 16 #[.int .i64 x] w fun e w' => e = .returned (.string (markS N)) ∧ Below w.heap.size w w' := by
  subst hx
  exact mark_text N h0 hN w

/-- The marks that are written into one token. -/
def mtok (c : Nat) : Tok := ⟨c, markS (c + 1), (c + 2 : Nat), (c + 3 : Nat)⟩

/-- The tokens, the first k of them marked. -/
def mkd (ts : List Tok) (c : Nat) : Nat → List Tok
  | 0 => ts
  | k + 1 => (mkd ts c k).set k (mtok (c + 4 * k))

theorem mkd_length (ts : List Tok) (c : Nat) : ∀ k, (mkd ts c k).length = ts.length
  | 0 => rfl
  | k + 1 => by rw [mkd, List.length_set, mkd_length ts c k]

theorem mkd_at (ts : List Tok) (c : Nat) : ∀ (k i : Nat), i < k → i < ts.length → (mkd ts c k).getD i noTok = mtok (c + 4 * i)
  | 0, i, h, _ => by omega
  | k + 1, i, h, hl => by
    rw [mkd]
    by_cases hik : i = k
    · subst hik
      simp [List.getD, mkd_length, hl]
    · have ih := mkd_at ts c k i (by omega) hl
      have hki : ¬ k = i := fun e => hik e.symm
      simp only [List.getD, List.getElem?_set, hki, if_false] at ih ⊢
      exact ih

theorem flat_set' (t : Tok) (l : List Tok) (sp : List Value) (k : Nat) (hk : k < l.length) :
    ((((l.flatMap tcells ++ sp).set (k * 4) (.int .i64 t.kind)).set (k * 4 + 1) (.string t.text)).set (k * 4 + 2) (.int .i64 t.n)).set (k * 4 + 3) (.int .i64 t.place) = (l.set k t).flatMap tcells ++ sp := by
  have hl := flat_length l
  rw [List.set_append_left _ _ (by omega), List.set_append_left _ _ (by rw [List.length_set]; omega), List.set_append_left _ _ (by rw [List.length_set, List.length_set]; omega),
    List.set_append_left _ _ (by rw [List.length_set, List.length_set, List.length_set]; omega), flat_set t l k hk]

theorem tok_of_row {w : World} {g : Nat} {e : TypeId} {l : List Tok} {sp : List Value} (h : w.heap[g]? = some (.cells (l.flatMap tcells ++ sp).toArray e (0, 0))) : TokAt w g l := by
  intro i hi
  have hl := flat_length l
  have c : ∀ j, j < 4 → w.cell? ⟨g, i * 4 + j, none⟩ = (tcells (l.getD i noTok))[j]? := fun j hj => by
    rw [cell_of_row w _ _ _ _ _ h, ← flat_at l i j hi hj, List.getElem?_toArray, List.getElem?_append_left (by omega)]
  exact ⟨c 0 (by omega), c 1 (by omega), c 2 (by omega), c 3 (by omega)⟩

set_option maxHeartbeats 2000000 in
set_option maxRecDepth 20000 in
theorem mark_row (a : Option Addr) (g cap B : Nat) (ts : List Tok) (sp : List Value) (hl : ts.length ≤ 4000) (ha : 0 < ts.length → a = some ⟨g, 0, none⟩) (w : World)
    (hg : 0 < ts.length → w.heap[g]? = some (.cells (ts.flatMap tcells ++ sp).toArray 29 (0, 0))) (hB : B ≤ g) (hBw : B ≤ w.heap.size) :
    Calls Tryd.prog 7 #[.slice a ts.length cap, .int .i64 1] w fun e w' =>
      e = .returned (.int .i64 ((1 + 4 * ts.length : Nat) : Int)) ∧ (0 < ts.length → w'.heap[g]? = some (.cells ((mkd ts 1 ts.length).flatMap tcells ++ sp).toArray 29 (0, 0))) ∧ Below B w w' := by
  have HG : Hid (0 < ts.length → w.heap[g]? = some (.cells (ts.flatMap tcells ++ sp).toArray 29 (0, 0))) := hg
  clear hg
  go_enter Tryd.func7, Tryd.ntmps7
  go_wp2
  go_loopw [1, 5] (fun c i wr => ∃ k : Nat, k ≤ ts.length ∧ i = .int .i64 k ∧ c = .int .i64 ((1 + 4 * k : Nat) : Int) ∧ Hid (0 < ts.length → wr.heap[g]? = some (.cells ((mkd ts 1 k).flatMap tcells ++ sp).toArray 29 (0, 0))) ∧ Below B w wr) (fun _ i _ => ts.length - (intOf i).toNat)
  case atStart => exact ⟨0, by omega, rfl, rfl, HG.out, Below.refl _ _⟩
  case round =>
    obtain ⟨k, hk, rfl, rfl, HR, hb⟩ := hrel
    by_cases hin : k < ts.length
    · have e1 : (k : Int) < ts.length := by omega
      obtain rfl := ha (by omega)
      have hr := HR.out (by omega)
      have hglt : g < wr.heap.size := (Array.getElem?_eq_some_iff.1 hr).1
      have hkm : k < (mkd ts 1 k).length := by rw [mkd_length]; exact hin
      have c0 := (tok_of_row hr k hkm).c0
      have f0 : wr.frozen? ⟨g, k * 4, none⟩ = false := frozen_of_row wr _ _ _ _ hr
      have hr1 := heap_setCell_same wr g (k * 4) _ _ (.int .i64 ((1 + 4 * k : Nat) : Int)) hr
      have HR1 : Hid ((wr.setCell ⟨g, k * 4, none⟩ (.int .i64 ((1 + 4 * k : Nat) : Int))).heap[g]? = _) := hr1
      have t1 := tok_of_row hr k hkm
      generalize (mkd ts 1 k).getD k noTok = y at *
      obtain ⟨y0, y1, y2, y3⟩ := y
      simp only at c0
      have e4 : ((1 + 4 * k : Nat) : Int) = 1 + 4 * (k : Int) := by omega
      rw [e4] at HR1
      have hsz1 : (wr.setCell ⟨g, k * 4, none⟩ (.int .i64 (1 + 4 * (k : Int)))).heap.size = wr.heap.size := by simp
      have hb1 : Below B w (wr.setCell ⟨g, k * 4, none⟩ (.int .i64 (1 + 4 * (k : Int)))) := hb.setCell (p := ⟨g, k * 4, none⟩) hB _
      have d1 : (wr.setCell ⟨g, k * 4, none⟩ (.int .i64 (1 + 4 * (k : Int)))).cell? ⟨g, k * 4 + 1, none⟩ = some (.string y1) := (World.cell?_setCell_other _ _ _ _ (by simp)).trans t1.c1
      have d2 : (wr.setCell ⟨g, k * 4, none⟩ (.int .i64 (1 + 4 * (k : Int)))).cell? ⟨g, k * 4 + 2, none⟩ = some (.int .i64 y2) := (World.cell?_setCell_other _ _ _ _ (by simp)).trans t1.c2
      have d3 : (wr.setCell ⟨g, k * 4, none⟩ (.int .i64 (1 + 4 * (k : Int)))).cell? ⟨g, k * 4 + 3, none⟩ = some (.int .i64 y3) := (World.cell?_setCell_other _ _ _ _ (by simp)).trans t1.c3
      clear t1 hr hr1 HR hb
      go_wp2_with fail
      refine (mark_at _ (1 + 4 * k + 1) (by omega) (by omega) (by omega) _).mono ?_
      rintro e w2 ⟨rfl, hb2⟩
      rw [hsz1] at hb2
      have hr2 : w2.heap[g]? = _ := (hb2.block g hglt).trans HR1.out
      have q1 := (World.cell?_of_block (hb2.block g hglt)).trans d1
      have q2 := (World.cell?_of_block (hb2.block g hglt)).trans d2
      have q3 := (World.cell?_of_block (hb2.block g hglt)).trans d3
      have f1 : w2.frozen? ⟨g, k * 4 + 1, none⟩ = false := frozen_of_row w2 _ _ _ _ hr2
      have f2 : w2.frozen? ⟨g, k * 4 + 2, none⟩ = false := frozen_of_row w2 _ _ _ _ hr2
      have f3 : w2.frozen? ⟨g, k * 4 + 3, none⟩ = false := frozen_of_row w2 _ _ _ _ hr2
      have HR2 : Hid (w2.heap[g]? = some (.cells ((((mkd ts 1 k).flatMap tcells ++ sp).toArray).setIfInBounds (k * 4) (.int .i64 (1 + 4 * (k : Int)))) 29 (0, 0))) := hr2
      have hb3 : Below B w w2 := hb1.trans (hb2.mono (by have := hb1.size; rw [hsz1] at this; omega))
      clear hr2 HR1 hb1 hb2 d1 d2 d3 c0 f0
      go_wp2
      go_roundw
      case rel =>
        refine ⟨k + 1, by omega, by go_num, by go_num, fun _ => ?_, ?_⟩
        · have h3 := heap_setCell_same _ g (k * 4 + 3) _ _ (.int .i64 ((1 + 4 * k + 3 : Nat) : Int)) (heap_setCell_same _ g (k * 4 + 2) _ _ (.int .i64 ((1 + 4 * k + 2 : Nat) : Int)) (heap_setCell_same w2 g (k * 4 + 1) _ _ (.string (markS (1 + 4 * k + 1))) HR2.out))
          rw [List.setIfInBounds_toArray, List.setIfInBounds_toArray, List.setIfInBounds_toArray, List.setIfInBounds_toArray, ← e4] at h3
          have h4 := flat_set' (mtok (1 + 4 * k)) (mkd ts 1 k) sp k (by rw [mkd_length]; exact hin)
          simp only [mtok] at h4
          rw [h4] at h3
          have h5 : (((w2.setCell ⟨g, k * 4 + 1, none⟩ (.string (markS (1 + 4 * k + 1)))).setCell ⟨g, k * 4 + 2, none⟩ (.int .i64 ((1 + 4 * k + 2 : Nat) : Int))).setCell ⟨g, k * 4 + 3, none⟩ (.int .i64 ((1 + 4 * k + 3 : Nat) : Int))).heap[g]? =
              some (.cells ((mkd ts 1 (k + 1)).flatMap tcells ++ sp).toArray 29 (0, 0)) := h3
          rw [show ((1 + 4 * k + 2 : Nat) : Int) = 1 + 4 * (k : Int) + 1 + 1 by omega, show ((1 + 4 * k + 3 : Nat) : Int) = 1 + 4 * (k : Int) + 1 + 1 + 1 by omega] at h5
          exact h5
        · exact ((hb3.setCell (p := ⟨g, k * 4 + 1, none⟩) hB _).setCell (p := ⟨g, k * 4 + 2, none⟩) hB _).setCell (p := ⟨g, k * 4 + 3, none⟩) hB _
      case measure => simp [intOf]; omega
    · obtain rfl : k = ts.length := by omega
      go_wp2
      go_ret
      exact ⟨rfl, HR.out, hb⟩

theorem mt_name : (Tryd.f16.name == "runtime.NumGoroutine") = false := by kernel_rfl
theorem mt_body : Tryd.f16.body.isNone = false := by kernel_rfl

set_option maxHeartbeats 2000000 in
set_option maxRecDepth 20000 in
theorem held_row (a : Option Addr) (g cap : Nat) (ms : List Tok) (hl : ms.length ≤ 4000) (ha : 0 < ms.length → a = some ⟨g, 0, none⟩) (w : World)
    (hT : TokAt w g ms) (hm : ∀ i, i < ms.length → ms.getD i noTok = mtok (1 + 4 * i)) :
    Calls Tryd.prog 8 #[.slice a ms.length cap, .int .i64 1] w fun e w' => e = .returned (.int .i64 ((1 + 4 * ms.length : Nat) : Int)) ∧ Below w.heap.size w w' := by
  have HM : Hid (∀ i, i < ms.length → ms.getD i noTok = mtok (1 + 4 * i)) := hm
  have HT : Hid (TokAt w g ms) := hT
  clear hm hT
  go_enter Tryd.func8, Tryd.ntmps8
  go_wp2
  go_loopw [1, 5] (fun c i wr => ∃ k : Nat, k ≤ ms.length ∧ i = .int .i64 k ∧ c = .int .i64 ((1 + 4 * k : Nat) : Int) ∧ Below w.heap.size w wr) (fun _ i _ => ms.length - (intOf i).toNat)
  case atStart => exact ⟨0, by omega, rfl, rfl, Below.refl _ _⟩
  case round =>
    obtain ⟨k, hk, rfl, rfl, hb⟩ := hrel
    by_cases hin : k < ms.length
    · have e1 : (k : Int) < ms.length := by omega
      obtain rfl := ha (by omega)
      have hglt : g < w.heap.size := cell_lt' (HT.out k hin).c0
      have t := (HT.out.below hb hglt) k hin
      rw [HM.out k hin] at t
      have e4 : ((1 + 4 * k : Nat) : Int) = 1 + 4 * (k : Int) := by omega
      have q0 : wr.cell? ⟨g, k * 4, none⟩ = some (.int .i64 (1 + 4 * (k : Int))) := by rw [← e4]; exact t.c0
      have q1 : wr.cell? ⟨g, k * 4 + 1, none⟩ = some (.string (markS (1 + 4 * k + 1))) := t.c1
      have q2 : wr.cell? ⟨g, k * 4 + 2, none⟩ = some (.int .i64 (1 + 4 * (k : Int) + 1 + 1)) := by rw [t.c2]; congr 2
      have q3 : wr.cell? ⟨g, k * 4 + 3, none⟩ = some (.int .i64 (1 + 4 * (k : Int) + 1 + 1 + 1)) := by rw [t.c3]; congr 2
      have hsize := hb.size
      clear t e4
      go_wp2
      go_region_law (refine step_call rfl 16 #[.tmp 26] #[3] rfl #[.int .i64 (1 + 4 * (k : Int) + 1)] (by simp [Act.eval, Act.put]) Tryd.func16 mt_name mt_body _ (mark_at _ (1 + 4 * k + 1) (by omega) (by omega) (by omega) _) ?_; rintro e w3 ⟨rfl, b3⟩; have b4 : Below wr.heap.size wr w3 := (Below.refl _ wr).drew.trans b3; have r1 := (World.cell?_of_block (b4.block g (by omega))).trans q1; refine ⟨_, rfl, ?_⟩)
      all_goals
        have r2 := (World.cell?_of_block (b4.block g (by omega))).trans q2
        have r3 := (World.cell?_of_block (b4.block g (by omega))).trans q3
        have b5 : Below w.heap.size w w3 := hb.trans (b4.mono hsize)
        clear b4 b3 q0 q1 q2 q3
        go_wp2
        go_roundw
        case rel => exact ⟨k + 1, by omega, by go_num, by go_num, b5⟩
        case measure => simp [intOf]; omega
    · obtain rfl : k = ms.length := by omega
      go_wp2
      go_ret
      exact ⟨rfl, hb⟩
end Go.Proofs.YthnhnhajgfllfakDoor
