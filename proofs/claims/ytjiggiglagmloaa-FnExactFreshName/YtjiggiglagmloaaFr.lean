/-
  New names, plain, and FreshName: the specification's and as it landed. Conditions: written at each theorem.
-/
import Derived.Test.YtjiggiglagmloaaRows
import Derived.WalkKit
import Derived.ProofKit
import Derived.OpenShut
import Derived.ShutString
import Derived.WalkSpells
import Derived.Laws.OwnMore
import Derived.Below
import Derived.Deep.LoopGhost
import Derived.Sort.WalkB12
import Derived.Lib.SlicesMore
namespace Go.Proofs.Ytjiggiglagmloaa
open Go.ChangeShapes Go.WideShapes Go.ChangeAt Go.RowKit Go.Sort Go.Lib
set_option linter.unusedVariables false

def frC (d : Nat) : UInt8 := UInt8.ofNat (97 + d)

/-- The digits of a number below 17576, the highest first. -/
def frL (k : Nat) : List UInt8 := if k < 26 then [frC k] else if k < 676 then [frC (k / 26), frC (k % 26)] else [frC (k / 676), frC (k / 26 % 26), frC (k % 26)]

def frT (k : Int) : ByteArray := if 0 ≤ k ∧ k ≤ 9999 then ⟨(122 :: 113 :: frL k.toNat).toArray⟩ else ⟨#[]⟩

theorem frT_in {n : Nat} (h : n ≤ 9999) : frT n = ⟨(122 :: 113 :: frL n).toArray⟩ := by
  rw [frT, if_pos ⟨by omega, by omega⟩]
  rfl

theorem frL_step {n : Nat} (h : n < 17576) : frL n = (if n / 26 = 0 then [] else frL (n / 26)) ++ [frC (n % 26)] := by
  unfold frL
  by_cases h1 : n < 26
  · rw [if_pos h1, if_pos (show n / 26 = 0 by omega), show n % 26 = n by omega]
    rfl
  · by_cases h2 : n < 676
    · rw [if_neg h1, if_pos h2, if_neg (show ¬ n / 26 = 0 by omega), if_pos (show n / 26 < 26 by omega)]
      rfl
    · rw [if_neg h1, if_neg h2, if_neg (show ¬ n / 26 = 0 by omega), if_neg (show ¬ n / 26 < 26 by omega), if_pos (show n / 26 < 676 by omega), show n / 26 / 26 = n / 676 by omega]
      rfl

theorem frL_length (n : Nat) : 1 ≤ (frL n).length ∧ (frL n).length ≤ 3 := by
  unfold frL
  split
  · simp
  · split <;> simp

/-- q is still to be written ahead of L. -/
def FrLeft (N q : Nat) (L : List UInt8) : Prop := q < 17576 ∧ (if q = 0 then [] else frL q) ++ L = frL N

theorem frLeft_start {N : Nat} (h : N < 17576) : FrLeft N (N / 26) [frC (N % 26)] := ⟨by omega, (frL_step h).symm⟩

theorem frLeft_step {N q : Nat} {L : List UInt8} (h : FrLeft N q L) (hq : 0 < q) : FrLeft N (q / 26) (frC (q % 26) :: L) := by
  obtain ⟨h1, h2⟩ := h
  refine ⟨by omega, ?_⟩
  rw [if_neg (by omega), frL_step h1, List.append_assoc] at h2
  exact h2

theorem frLeft_length {N q : Nat} {L : List UInt8} (h : FrLeft N q L) : L.length ≤ 3 := by
  have := (frL_length N).2
  rw [← h.2, List.length_append] at this
  omega

theorem fr_lay (q : Nat) (L : List UInt8) : strOfNums [(97 : Int) + (q : Int) % 26] ++ ByteArray.mk L.toArray = ByteArray.mk (frC (q % 26) :: L).toArray := by
  show ByteArray.mk ([((97 : Int) + (q : Int) % 26)].map fun n => UInt8.ofNat n.toNat).toArray ++ ByteArray.mk L.toArray = _
  rw [ByteArray.mk_append_mk]
  have e : ((97 : Int) + (q : Int) % 26).toNat = 97 + q % 26 := by omega
  simp [e, frC]

theorem fr_one (q : Nat) : strOfNums [(97 : Int) + (q : Int) % 26] = ByteArray.mk [frC (q % 26)].toArray := by
  show ByteArray.mk ([((97 : Int) + (q : Int) % 26)].map fun n => UInt8.ofNat n.toNat).toArray = _
  have e : ((97 : Int) + (q : Int) % 26).toNat = 97 + q % 26 := by omega
  simp [e, frC]

theorem fr_zq (L : List UInt8) : (ByteArray.mk #[122, 113]) ++ (ByteArray.mk L.toArray) = ByteArray.mk (122 :: 113 :: L).toArray := by
  show (ByteArray.mk [122, 113].toArray) ++ (ByteArray.mk L.toArray) = _
  rw [ByteArray.mk_append_mk]
  rfl

theorem fr_conv (w : World) (x : Int) : (convert 25 9 (.slice (some ⟨w.heap.size, 0, none⟩) 1 1)).run Try.prog (w.alloc (.cells #[.int .u8 x] 5)) =
    .ok (.string (strOfNums [x])) (w.alloc (.cells #[.int .u8 x] 5)) :=
  run_convert_bytes_arg _ 25 5 Try.underlying25 Try.underlying5 w.heap.size 0 1 1 [x] rfl (fun i hi => by
    obtain rfl : i = 0 := by omega
    rw [World.cell?_alloc_at _ _ _ _ rfl]
    rfl) 9 Try.underlying9

theorem fr_in (n lo hi : Int) (w : World) : Calls Try.prog 6 #[.int .i64 n, .int .i64 lo, .int .i64 hi] w fun e w' => e = .returned (.bool (decide (lo ≤ n) && decide (n ≤ hi))) ∧ w' = w := by
  by_cases h1 : lo ≤ n
  · go_enter Try.func6, Try.ntmps6
    go_wp2
    go_ret
    exact ⟨by simp [h1], rfl⟩
  · go_enter Try.func6, Try.ntmps6
    go_wp2
    go_ret
    exact ⟨by rw [decide_eq_false (show ¬ lo ≤ n by omega)]; rfl, rfl⟩

set_option maxRecDepth 20000 in
theorem spec_fresh_in (N : Nat) (hN : N ≤ 9999) (w : World) :
    Calls Try.prog 4 #[.int .i64 N] w fun e w' => e = .returned (.string (frT N)) ∧ Below w.heap.size w w' := by
  rw [frT_in hN]
  have hc0 := fr_conv w
  go_enter Try.func4, Try.ntmps4
  go_wp2_with fail
  refine (fr_in N 0 9999 w).mono ?_
  rintro e w1 ⟨rfl, rfl⟩
  have d1 : (decide ((0 : Int) ≤ N) && decide ((N : Int) ≤ 9999)) = true := by simp; omega
  rw [d1]
  go_wp2
  go_loopw [0, 3] (fun n out wr => ∃ (q : Nat) (L : List UInt8), n = .int .i64 q ∧ q ≤ N ∧ out = .string ⟨L.toArray⟩ ∧ Hid (FrLeft N q L) ∧ Below w1.heap.size w1 wr) (fun n _ _ => (RowKit.intOf n).toNat)
  case atStart => exact ⟨N / 26, [frC (N % 26)], by go_num, by omega, by rw [fr_one], frLeft_start (by omega), (Below.refl _ _).alloc (Nat.le_refl _) _⟩
  case round =>
    obtain ⟨q, L, rfl, hq, rfl, hleft, hbel⟩ := hrel
    have hlen := frLeft_length hleft.out
    by_cases hq0 : q = 0
    · subst hq0
      have E : Hid (L = frL N) := by have := hleft.out.2; rw [if_pos rfl] at this; exact this
      have hs2 : (ByteArray.mk L.toArray).size ≤ 3 := by simpa [ByteArray.size] using hlen
      go_wp2
      rw [fr_zq, E.out]
      go_ret
      exact ⟨rfl, hbel⟩
    · have hpos : 0 < q := by omega
      have hpos' : (0 : Int) < q := by omega
      have hc := fr_conv wr
      have hs1 : ∀ x, (strOfNums [x]).size = 1 := fun x => strOfNums_size [x]
      have hs2 : (ByteArray.mk L.toArray).size ≤ 3 := by simpa [ByteArray.size] using hlen
      have E : Hid (FrLeft N (q / 26) (frC (q % 26) :: L)) := frLeft_step hleft.out hpos
      clear hleft
      go_wp2
      go_roundw
      case rel => exact ⟨q / 26, frC (q % 26) :: L, by go_num, by omega, by rw [fr_lay], E, hbel.alloc hbel.size _⟩
      case measure => simp [RowKit.intOf]; omega

theorem spec_fresh_out (n : Int) (hn : ¬ (0 ≤ n ∧ n ≤ 9999)) (w : World) :
    Calls Try.prog 4 #[.int .i64 n] w fun e w' => e = .returned (.string (frT n)) ∧ Below w.heap.size w w' := by
  rw [frT, if_neg hn]
  have d1 : Hid ((decide ((0 : Int) ≤ n) && decide (n ≤ 9999)) = false) := by
    show (decide ((0 : Int) ≤ n) && decide (n ≤ 9999)) = false
    rw [Bool.and_eq_false_iff, decide_eq_false_iff_not, decide_eq_false_iff_not]
    omega
  go_enter Try.func4, Try.ntmps4
  go_wp2_with fail
  refine (fr_in n 0 9999 w).mono ?_
  rintro e w1 ⟨rfl, rfl⟩
  rw [d1.out]
  go_wp2
  go_ret
  exact ⟨rfl, Below.refl _ _⟩

theorem spec_fresh (n : Int) (w : World) : Calls Try.prog 4 #[.int .i64 n] w fun e w' => e = .returned (.string (frT n)) ∧ Below w.heap.size w w' := by
  by_cases h : 0 ≤ n ∧ n ≤ 9999
  · obtain ⟨N, rfl⟩ := Int.eq_ofNat_of_zero_le h.1
    exact spec_fresh_in N (by omega) w
  · exact spec_fresh_out n h w

abbrev enc8 : Int → Value := Value.int .u8

set_option maxHeartbeats 1600000 in
set_option maxRecDepth 1000000 in
theorem lib_reverse (blk off cap : Nat) (d : Array Int) (w : World) (hH : Holds enc8 w blk off d) (hsz : d.size ≤ 1000000) :
    Calls Try.prog 7 #[.slice (some ⟨blk, off, none⟩) d.size cap] w fun e w' => e = .returned (.tuple #[]) ∧ ∃ n, w' = putRow enc8 (Sort.ahead w n) blk off d.reverse := by
  go_enter Try.func7, Try.ntmps7
  go_wp2
  go_loopg [2, 3] d.size (fun k s2 s3 wr => ∃ (i jn : Nat) (jz : Int) (dk : Array Int) (n : Nat), s2 = .int .i64 i ∧ s3 = .int .i64 jz ∧ ((i : Int) < jz → jz = jn ∧ jn < d.size) ∧ (¬ (i : Int) < jz → ¬ i < jn) ∧ jn - i ≤ k ∧
    dk.size = d.size ∧ wr = putRow enc8 (Sort.ahead w n) blk off dk ∧ reverseLoop i jn dk = reverseLoop 0 (d.size - 1) d)
  case atStart => exact ⟨0, d.size - 1, (d.size : Int) - 1, d, 0, rfl, rfl, fun h => ⟨by omega, by omega⟩, fun h => by omega, by omega, rfl, (putRow_self enc8 w blk off d hH).symm, rfl⟩
  case round =>
    obtain ⟨i, jn, jz, dk, n, rfl, rfl, h1, h2, hk, hds, hwr, heq⟩ := hrel
    by_cases hlt : (i : Int) < jz
    · obtain ⟨rfl, hjn⟩ := h1 hlt
      have hij : i < jn := by omega
      have hHk : Holds enc8 wr blk off dk := by rw [hwr]; exact holds_putRow enc8 _ blk off d dk (holds_ahead enc8 w n blk off d hH) hds
      obtain ⟨ci, fi⟩ := hHk i (by omega)
      obtain ⟨cj, fj⟩ := hHk jn (by omega)
      have A : Aside (wr = putRow enc8 (Sort.ahead w n) blk off dk) := hwr
      clear hwr hHk hH h1 h2
      go_wp2_with fail
      go_region
      go_wp2
      go_roundg (jn - 1 - (i + 1))
      case measure => omega
      case rel =>
        rw [reverseLoop, if_pos hij] at heq
        exact ⟨i + 1, jn - 1, (jn : Int) - 1, swp dk i jn, n + 1, by simp, rfl, fun h => ⟨by omega, by omega⟩, fun h => by omega, Nat.le_refl _, by rw [size_swp]; exact hds,
          swap_world enc8 (by omega) (by omega) A.out (by first | rfl | simp [enc8, getElem!_pos, show jn < dk.size by omega]) (by first | rfl | simp [enc8, getElem!_pos, show i < dk.size by omega]), heq⟩
    · have hnot := h2 hlt
      go_wp2
      go_end0
      refine ⟨rfl, n, ?_⟩
      rw [reverseLoop, if_neg hnot] at heq
      rw [← Lib.reverseLoop_reverse, ← heq]

theorem fr_byte : (Try.prog.info? 5).map (fun i => (i.zero, i.size, i.bytes)) = some (some (.int .u8 0), 1, 1) := by kernel_rfl

/-- Bytes that a slice of the call's own holds. -/
abbrev ownU (w : World) (base : Nat) (v : Value) (L : List Int) : Prop := w.ownsRow base 5 1 v L.length (L.map (Value.int .u8))

theorem fr_holds {w : World} {g : Nat} {cur : Array Value} {e : TypeId} {L : List Int} (hb : w.heap[g]? = some (.cells cur e (0, 0))) (ht : cur.toList.take L.length = L.map enc8) : Holds enc8 w g 0 L.toArray := by
  intro j hj
  have hj' : j < L.length := by simpa using hj
  refine ⟨?_, by simp [World.frozen?, hb]⟩
  have h1 : (cur.toList.take L.length)[j]? = (L.map enc8)[j]? := by rw [ht]
  rw [List.getElem?_take_of_lt hj'] at h1
  simp only [World.cell?, hb, Nat.zero_add]
  simp only [Option.isSome_none, Bool.false_eq_true, if_false]
  rw [← Array.getElem?_toList, h1]
  simp [hj']

theorem fr_grown {w : World} {g n : Nat} (d : Array Int) : w.grownBy (putRow enc8 (Sort.ahead w n) g 0 d) (some g) := by
  refine ⟨rfl, rfl, rfl, by simp [putRow, mapBlock, Sort.ahead], fun k hk hne => ?_⟩
  have : g ≠ k := fun e => hne (by rw [e])
  simp [putRow, mapBlock, Sort.ahead, Array.getElem?_modify, this]

/-- Digits so far, the least first; q is what the last of them was taken of. -/
def FrMore (N q : Nat) (D : List Int) : Prop := q < 17576 ∧ (∀ x ∈ D, 97 ≤ x ∧ x < 123) ∧ (if q / 26 = 0 then [] else frL (q / 26)) ++ (D.map (fun x => UInt8.ofNat x.toNat)).reverse = frL N

theorem frMore_start {N : Nat} (h : N < 17576) : FrMore N N [97 + (N : Int) % 26] := by
  refine ⟨h, fun x hx => by rw [List.mem_singleton] at hx; omega, ?_⟩
  rw [frL_step h]
  have e : ((97 : Int) + (N : Int) % 26).toNat = 97 + N % 26 := by omega
  simp [e, frC]

theorem frMore_step {N q : Nat} {D : List Int} (h : FrMore N q D) (hq : 26 ≤ q) : FrMore N (q / 26) (D ++ [97 + (q : Int) / 26 % 26]) := by
  obtain ⟨h1, h2, h3⟩ := h
  refine ⟨by omega, fun x hx => ?_, ?_⟩
  · rcases List.mem_append.1 hx with hx | hx
    · exact h2 x hx
    · rw [List.mem_singleton] at hx; omega
  · rw [if_neg (by omega), frL_step (show q / 26 < 17576 by omega), List.append_assoc] at h3
    rw [← h3]
    have e : ((97 : Int) + (q : Int) / 26 % 26).toNat = 97 + q / 26 % 26 := by omega
    rw [List.map_append, List.reverse_append, List.map_cons, e]
    rfl

theorem frMore_length {N q : Nat} {D : List Int} (h : FrMore N q D) : D.length ≤ 3 ∧ (26 ≤ q → D.length ≤ 2) := by
  have := (frL_length N).2
  rw [← h.2.2, List.length_append, List.length_reverse, List.length_map] at this
  refine ⟨by omega, fun hq => ?_⟩
  rw [if_neg (by omega)] at this
  have := (frL_length (q / 26)).1
  omega

theorem frMore_end {N q : Nat} {D : List Int} (h : FrMore N q D) (hq : q < 26) : strOfNums D.reverse = ByteArray.mk (frL N).toArray := by
  have := h.2.2
  rw [if_pos (by omega), List.nil_append] at this
  rw [← this, ← List.map_reverse]
  rfl

set_option maxHeartbeats 1600000 in
set_option maxRecDepth 100000 in
theorem impl_fresh_in (N : Nat) (hN : N ≤ 9999) (w : World) :
    Calls Try.prog 5 #[.int .i64 N] w fun e w' => e = .returned (.string (frT N)) ∧ Below w.heap.size w w' := by
  rw [frT_in hN]
  obtain ⟨i0, hi, hz0, hz1, hz2⟩ := info_parts fr_byte
  have hown0 : ownU (w.alloc (.cells #[.int .u8 (97 + (N : Int) % 26)] 5)) w.heap.size (.slice (some ⟨w.heap.size, 0, none⟩) 1 1) [97 + (N : Int) % 26] :=
    World.ownsRow_lit w #[.int .u8 (97 + (N : Int) % 26)] 1 (Nat.le_refl _) (by unfold maxLen; omega) rfl
  have HO : Hid (_) := hown0
  clear hown0
  go_enter Try.func5, Try.ntmps5
  go_wp2
  go_loopw [0, 3] (fun n out wr => ∃ (q : Nat) (D : List Int), n = .int .i64 q ∧ q ≤ N ∧ ownU wr w.heap.size out D ∧ Hid (FrMore N q D) ∧ Below w.heap.size w wr) (fun n _ _ => (RowKit.intOf n).toNat)
  case atStart => exact ⟨N, [97 + (N : Int) % 26], rfl, Nat.le_refl _, HO.out, frMore_start (by omega), (Below.refl _ _).alloc (Nat.le_refl _) _⟩
  case round =>
    obtain ⟨q, D, rfl, hq, hown, hmore, hbel⟩ := hrel
    obtain ⟨hD1, hD2⟩ := frMore_length hmore.out
    by_cases hq0 : 26 ≤ (q : Int)
    · have hD := hD2 (by omega)
      have E : Hid (FrMore N (q / 26) (D ++ [97 + (q : Int) / 26 % 26])) := frMore_step hmore.out (by omega)
      clear hD2 hD1 hmore
      go_wp2_with (at_builtin; refine wpList_append_own _ rfl _ _ 25 rfl w.heap.size 5 i0 (.int .u8 0) 1 1 Try.underlying25 hi hz0 hz1 hz2 rfl (by decide) _ _ _ rfl (hown.alloc _) ⟨wr.heap.size, 0, none⟩ 1 1 [.int .u8 (97 + (q : Int) / 26 % 26)] rfl rfl ?c1 ?c2 ?c3 ?c4 ?c5 ?_)
      case c1 => exact cell_one_new _ _ _
      case c2 => simp [Value.oneCell']
      case c3 => unfold maxLen; omega
      case c4 => omega
      case c5 => have := hbel.size; simp; omega
      intro v' w1 hown' hgrow _
      have hown2 : ownU w1 w.heap.size v' (D ++ [97 + (q : Int) / 26 % 26]) := by
        simpa [ownU] using hown'
      have hb1 : Below w.heap.size w w1 := (hbel.alloc hbel.size _).grown hgrow (by have := hbel.size; simp; omega) (fun k hk => (hown.lt k hk).1)
      clear hown' hgrow hown hbel
      go_wp2
      go_roundw
      case rel => exact ⟨q / 26, D ++ [97 + (q : Int) / 26 % 26], by go_num, by omega, hown2, E, hb1⟩
      case measure => simp [RowKit.intOf]; omega
    · have hfin : Hid (strOfNums D.reverse = ByteArray.mk (frL N).toArray) := frMore_end hmore.out (by omega)
      have hne : D.length ≠ 0 := by
        intro h0
        have h1 := hmore.out.2.2
        rw [List.length_eq_zero_iff.1 h0, if_pos (by omega)] at h1
        have := (frL_length N).1
        rw [← h1] at this
        simp at this
      clear hmore hD2
      rcases hown.2 with ⟨h, h0⟩ | ⟨g, cap, cur, rfl, hg1, hg2, hg3, hg4, hg5, hg6⟩
      · exact absurd h0 hne
      · have hH : Holds enc8 wr g 0 D.toArray := fr_holds hg2 (by simpa using hg6)
        have HC : Hid (Calls Try.prog 7 #[.slice (some ⟨g, 0, none⟩) D.length cap] wr fun e w' => e = .returned (.tuple #[]) ∧ ∃ n, w' = putRow enc8 (Sort.ahead wr n) g 0 D.toArray.reverse) := by
          have h := lib_reverse g 0 cap D.toArray wr hH (by simp; omega)
          rw [show D.toArray.size = D.length from by simp] at h
          exact h
        have HH : Hid (∀ n, Holds enc8 (putRow enc8 (Sort.ahead wr n) g 0 D.toArray.reverse) g 0 D.toArray.reverse) := fun n => holds_putRow enc8 _ g 0 D.toArray _ (holds_ahead enc8 wr n g 0 D.toArray hH) (by simp)
        have HBX : Hid (∀ n, Below w.heap.size w (putRow enc8 (Sort.ahead wr n) g 0 D.toArray.reverse)) := fun n => hbel.grown (fr_grown _) hbel.size (fun k hk => by cases hk; exact hg1)
        clear hH hown hg1 hg2 hg3 hg4 hg5 hg6 hbel
        go_wp2_with fail
        refine HC.out.mono ?_
        rintro e w2 ⟨rfl, n2, hw2⟩
        have HB2 : Hid (Below w.heap.size w w2) := by show Below w.heap.size w w2; rw [hw2]; exact HBX.out n2
        have hconv : (convert 25 9 (.slice (some ⟨g, 0, none⟩) D.length cap)).run Try.prog w2 = .ok (.string (strOfNums D.reverse)) w2 :=
          run_convert_bytes_arg w2 25 5 Try.underlying25 Try.underlying5 g 0 D.length cap D.reverse (by simp) (fun i hi => by
            have h := (HH.out n2 i (by simpa using hi)).1
            rw [hw2, h]
            have hi2 : i < D.toArray.reverse.size := by simpa using hi
            rw [getElem!_pos D.toArray.reverse i hi2]
            simp [List.getD, hi]) 9 Try.underlying9
        rw [hfin.out] at hconv
        clear hw2 HC HH HBX
        have hs2 : (ByteArray.mk (frL N).toArray).size ≤ 3 := by have := (frL_length N).2; simpa [ByteArray.size] using this
        have hs3 := (frL_length N).2
        go_wp2
        rw [fr_zq]
        go_ret
        exact ⟨rfl, HB2.out⟩

theorem impl_fresh_out (n : Int) (hn : ¬ (0 ≤ n ∧ n ≤ 9999)) (w : World) :
    Calls Try.prog 5 #[.int .i64 n] w fun e w' => e = .returned (.string (frT n)) ∧ Below w.heap.size w w' := by
  rw [frT, if_neg hn]
  by_cases h1 : n < 0
  · clear hn
    go_enter Try.func5, Try.ntmps5
    go_wp2
    go_ret
    exact ⟨rfl, Below.refl _ _⟩
  · have h2 : 9999 < n := by omega
    clear hn
    go_enter Try.func5, Try.ntmps5
    go_wp2
    go_ret
    exact ⟨rfl, Below.refl _ _⟩

theorem impl_fresh (n : Int) (w : World) : Calls Try.prog 5 #[.int .i64 n] w fun e w' => e = .returned (.string (frT n)) ∧ Below w.heap.size w w' := by
  by_cases h : 0 ≤ n ∧ n ≤ 9999
  · obtain ⟨N, rfl⟩ := Int.eq_ofNat_of_zero_le h.1
    exact impl_fresh_in N (by omega) w
  · exact impl_fresh_out n h w
end Go.Proofs.Ytjiggiglagmloaa
