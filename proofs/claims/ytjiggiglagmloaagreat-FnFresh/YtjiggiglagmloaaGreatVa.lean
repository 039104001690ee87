/-
  Several texts in one, in their order: each is told at its own place by its theorems. Conditions: written at each theorem.
-/
import Derived.Test.YtjiggiglagmloaaGreatRows
import Derived.WalkKit
import Derived.ProofKit
import Derived.OpenShut
import Derived.ShutString
import Derived.WalkSpells
import Derived.Laws.OwnMore
import Derived.Below
import Derived.Deep.LoopGhost
import Derived.Sort.WalkB12
import Derived.Lib.SlicesMore
import Derived.Lib.SlicesCompact
import Derived.Test.YtjiggiglagmloaaGreatNy
import Derived.Test.YtjiggiglagmloaaGreatNk
import Derived.Test.YtjiggiglagmloaaGreatSt
import Derived.Sort.OwnSorted
import Derived.Sort.Walk0
import Derived.Laws.Cover1
import Derived.Test.YtjiggiglagmloaaGreatShelf
import Derived.Test.YtjiggiglagmloaaGreatNf
import Derived.Deep.CutRange
import Derived.Deep.RegionHeld3
import Derived.Lib.ItoaNum
import Derived.Lib.ItoaMem
import Derived.Lib.ItoaLen
import Derived.Lib.AtoiAll
import Derived.Deep.QuietTactic
import Derived.BigQuiet
import Derived.Test.YtjiggiglagmloaaGreatWs
namespace Go.Proofs.YtjiggiglagmloaaGreat
set_option linter.unusedVariables false

section
open Go.ChangeShapes Go.WideShapes Go.ChangeAt Go.RowKit Go.Sort Go.Lib

def frC (d : Nat) : UInt8 := UInt8.ofNat (97 + d)

/-- The digits of a number below 17576, the highest first. -/
def frL (k : Nat) : List UInt8 := if k < 26 then [frC k] else if k < 676 then [frC (k / 26), frC (k % 26)] else [frC (k / 676), frC (k / 26 % 26), frC (k % 26)]

def frT (k : Int) : ByteArray := if 0 ≤ k ∧ k ≤ 9999 then ⟨(122 :: 113 :: frL k.toNat).toArray⟩ else ⟨#[]⟩

theorem frT_in {n : Nat} (h : n ≤ 9999) : frT n = ⟨(122 :: 113 :: frL n).toArray⟩ := by
  rw [frT, if_pos ⟨by omega, by omega⟩]
  rfl

theorem frL_step {n : Nat} (h : n < 17576) : frL n = (if n / 26 = 0 then [] else frL (n / 26)) ++ [frC (n % 26)] := by
  unfold frL
  by_cases h1 : n < 26
  · rw [if_pos h1, if_pos (show n / 26 = 0 by omega), show n % 26 = n by omega]
    rfl
  · by_cases h2 : n < 676
    · rw [if_neg h1, if_pos h2, if_neg (show ¬ n / 26 = 0 by omega), if_pos (show n / 26 < 26 by omega)]
      rfl
    · rw [if_neg h1, if_neg h2, if_neg (show ¬ n / 26 = 0 by omega), if_neg (show ¬ n / 26 < 26 by omega), if_pos (show n / 26 < 676 by omega), show n / 26 / 26 = n / 676 by omega]
      rfl

theorem frL_length (n : Nat) : 1 ≤ (frL n).length ∧ (frL n).length ≤ 3 := by
  unfold frL
  split
  · simp
  · split <;> simp

/-- q is still to be written ahead of L. -/
def FrLeft (N q : Nat) (L : List UInt8) : Prop := q < 17576 ∧ (if q = 0 then [] else frL q) ++ L = frL N

theorem frLeft_start {N : Nat} (h : N < 17576) : FrLeft N (N / 26) [frC (N % 26)] := ⟨by omega, (frL_step h).symm⟩

theorem frLeft_step {N q : Nat} {L : List UInt8} (h : FrLeft N q L) (hq : 0 < q) : FrLeft N (q / 26) (frC (q % 26) :: L) := by
  obtain ⟨h1, h2⟩ := h
  refine ⟨by omega, ?_⟩
  rw [if_neg (by omega), frL_step h1, List.append_assoc] at h2
  exact h2

theorem frLeft_length {N q : Nat} {L : List UInt8} (h : FrLeft N q L) : L.length ≤ 3 := by
  have := (frL_length N).2
  rw [← h.2, List.length_append] at this
  omega

theorem fr_lay (q : Nat) (L : List UInt8) : strOfNums [(97 : Int) + (q : Int) % 26] ++ ByteArray.mk L.toArray = ByteArray.mk (frC (q % 26) :: L).toArray := by
  show ByteArray.mk ([((97 : Int) + (q : Int) % 26)].map fun n => UInt8.ofNat n.toNat).toArray ++ ByteArray.mk L.toArray = _
  rw [ByteArray.mk_append_mk]
  have e : ((97 : Int) + (q : Int) % 26).toNat = 97 + q % 26 := by omega
  simp [e, frC]

theorem fr_one (q : Nat) : strOfNums [(97 : Int) + (q : Int) % 26] = ByteArray.mk [frC (q % 26)].toArray := by
  show ByteArray.mk ([((97 : Int) + (q : Int) % 26)].map fun n => UInt8.ofNat n.toNat).toArray = _
  have e : ((97 : Int) + (q : Int) % 26).toNat = 97 + q % 26 := by omega
  simp [e, frC]

theorem fr_zq (L : List UInt8) : (ByteArray.mk #[122, 113]) ++ (ByteArray.mk L.toArray) = ByteArray.mk (122 :: 113 :: L).toArray := by
  show (ByteArray.mk [122, 113].toArray) ++ (ByteArray.mk L.toArray) = _
  rw [ByteArray.mk_append_mk]
  rfl

theorem fr_conv (w : World) (x : Int) : (convert 22 9 (.slice (some ⟨w.heap.size, 0, none⟩) 1 1)).run Tryz.prog (w.alloc (.cells #[.int .u8 x] 5)) =
    .ok (.string (strOfNums [x])) (w.alloc (.cells #[.int .u8 x] 5)) :=
  run_convert_bytes_arg _ 22 5 Tryz.underlying22 Tryz.underlying5 w.heap.size 0 1 1 [x] rfl (fun i hi => by
    obtain rfl : i = 0 := by omega
    rw [World.cell?_alloc_at _ _ _ _ rfl]
    rfl) 9 Tryz.underlying9

theorem fr_in (n lo hi : Int) (w : World) : Calls Tryz.prog 31 #[.int .i64 n, .int .i64 lo, .int .i64 hi] w fun e w' => e = .returned (.bool (decide (lo ≤ n) && decide (n ≤ hi))) ∧ w' = w := by
  by_cases h1 : lo ≤ n
  · go_enter Tryz.func31, Tryz.ntmps31
    go_wp2
    go_ret
    exact ⟨by simp [h1], rfl⟩
  · go_enter Tryz.func31, Tryz.ntmps31
    go_wp2
    go_ret
    exact ⟨by rw [decide_eq_false (show ¬ lo ≤ n by omega)]; rfl, rfl⟩

set_option maxRecDepth 20000 in
theorem spec_fresh_in (N : Nat) (hN : N ≤ 9999) (w : World) :
    Calls Tryz.prog 50 #[.int .i64 N] w fun e w' => e = .returned (.string (frT N)) ∧ Below w.heap.size w w' := by
  rw [frT_in hN]
  have hc0 := fr_conv w
  go_enter Tryz.func50, Tryz.ntmps50
  go_wp2_with fail
  refine (fr_in N 0 9999 w).mono ?_
  rintro e w1 ⟨rfl, rfl⟩
  have d1 : (decide ((0 : Int) ≤ N) && decide ((N : Int) ≤ 9999)) = true := by simp; omega
  rw [d1]
  go_wp2
  go_loopw [0, 3] (fun n out wr => ∃ (q : Nat) (L : List UInt8), n = .int .i64 q ∧ q ≤ N ∧ out = .string ⟨L.toArray⟩ ∧ Hid (FrLeft N q L) ∧ Below w1.heap.size w1 wr) (fun n _ _ => (RowKit.intOf n).toNat)
  case atStart => exact ⟨N / 26, [frC (N % 26)], by go_num, by omega, by rw [fr_one], frLeft_start (by omega), (Below.refl _ _).alloc (Nat.le_refl _) _⟩
  case round =>
    obtain ⟨q, L, rfl, hq, rfl, hleft, hbel⟩ := hrel
    have hlen := frLeft_length hleft.out
    by_cases hq0 : q = 0
    · subst hq0
      have E : Hid (L = frL N) := by have := hleft.out.2; rw [if_pos rfl] at this; exact this
      have hs2 : (ByteArray.mk L.toArray).size ≤ 3 := by simpa [ByteArray.size] using hlen
      go_wp2
      rw [fr_zq, E.out]
      go_ret
      exact ⟨rfl, hbel⟩
    · have hpos : 0 < q := by omega
      have hpos' : (0 : Int) < q := by omega
      have hc := fr_conv wr
      have hs1 : ∀ x, (strOfNums [x]).size = 1 := fun x => strOfNums_size [x]
      have hs2 : (ByteArray.mk L.toArray).size ≤ 3 := by simpa [ByteArray.size] using hlen
      have E : Hid (FrLeft N (q / 26) (frC (q % 26) :: L)) := frLeft_step hleft.out hpos
      clear hleft
      go_wp2
      go_roundw
      case rel => exact ⟨q / 26, frC (q % 26) :: L, by go_num, by omega, by rw [fr_lay], E, hbel.alloc hbel.size _⟩
      case measure => simp [RowKit.intOf]; omega

theorem spec_fresh_out (n : Int) (hn : ¬ (0 ≤ n ∧ n ≤ 9999)) (w : World) :
    Calls Tryz.prog 50 #[.int .i64 n] w fun e w' => e = .returned (.string (frT n)) ∧ Below w.heap.size w w' := by
  rw [frT, if_neg hn]
  have d1 : Hid ((decide ((0 : Int) ≤ n) && decide (n ≤ 9999)) = false) := by
    show (decide ((0 : Int) ≤ n) && decide (n ≤ 9999)) = false
    rw [Bool.and_eq_false_iff, decide_eq_false_iff_not, decide_eq_false_iff_not]
    omega
  go_enter Tryz.func50, Tryz.ntmps50
  go_wp2_with fail
  refine (fr_in n 0 9999 w).mono ?_
  rintro e w1 ⟨rfl, rfl⟩
  rw [d1.out]
  go_wp2
  go_ret
  exact ⟨rfl, Below.refl _ _⟩

theorem spec_fresh (n : Int) (w : World) : Calls Tryz.prog 50 #[.int .i64 n] w fun e w' => e = .returned (.string (frT n)) ∧ Below w.heap.size w w' := by
  by_cases h : 0 ≤ n ∧ n ≤ 9999
  · obtain ⟨N, rfl⟩ := Int.eq_ofNat_of_zero_le h.1
    exact spec_fresh_in N (by omega) w
  · exact spec_fresh_out n h w

abbrev enc8 : Int → Value := Value.int .u8

set_option maxHeartbeats 1600000 in
set_option maxRecDepth 1000000 in
theorem lib_reverse (blk off cap : Nat) (d : Array Int) (w : World) (hH : Holds enc8 w blk off d) (hsz : d.size ≤ 1000000) :
    Calls Tryz.prog 46 #[.slice (some ⟨blk, off, none⟩) d.size cap] w fun e w' => e = .returned (.tuple #[]) ∧ ∃ n, w' = putRow enc8 (Sort.ahead w n) blk off d.reverse := by
  go_enter Tryz.func46, Tryz.ntmps46
  go_wp2
  go_loopg [2, 3] d.size (fun k s2 s3 wr => ∃ (i jn : Nat) (jz : Int) (dk : Array Int) (n : Nat), s2 = .int .i64 i ∧ s3 = .int .i64 jz ∧ ((i : Int) < jz → jz = jn ∧ jn < d.size) ∧ (¬ (i : Int) < jz → ¬ i < jn) ∧ jn - i ≤ k ∧
    dk.size = d.size ∧ wr = putRow enc8 (Sort.ahead w n) blk off dk ∧ reverseLoop i jn dk = reverseLoop 0 (d.size - 1) d)
  case atStart => exact ⟨0, d.size - 1, (d.size : Int) - 1, d, 0, rfl, rfl, fun h => ⟨by omega, by omega⟩, fun h => by omega, by omega, rfl, (putRow_self enc8 w blk off d hH).symm, rfl⟩
  case round =>
    obtain ⟨i, jn, jz, dk, n, rfl, rfl, h1, h2, hk, hds, hwr, heq⟩ := hrel
    by_cases hlt : (i : Int) < jz
    · obtain ⟨rfl, hjn⟩ := h1 hlt
      have hij : i < jn := by omega
      have hHk : Holds enc8 wr blk off dk := by rw [hwr]; exact holds_putRow enc8 _ blk off d dk (holds_ahead enc8 w n blk off d hH) hds
      obtain ⟨ci, fi⟩ := hHk i (by omega)
      obtain ⟨cj, fj⟩ := hHk jn (by omega)
      have A : Aside (wr = putRow enc8 (Sort.ahead w n) blk off dk) := hwr
      clear hwr hHk hH h1 h2
      go_wp2_with fail
      go_region
      go_wp2
      go_roundg (jn - 1 - (i + 1))
      case measure => omega
      case rel =>
        rw [reverseLoop, if_pos hij] at heq
        exact ⟨i + 1, jn - 1, (jn : Int) - 1, swp dk i jn, n + 1, by simp, rfl, fun h => ⟨by omega, by omega⟩, fun h => by omega, Nat.le_refl _, by rw [size_swp]; exact hds,
          swap_world enc8 (by omega) (by omega) A.out (by first | rfl | simp [enc8, getElem!_pos, show jn < dk.size by omega]) (by first | rfl | simp [enc8, getElem!_pos, show i < dk.size by omega]), heq⟩
    · have hnot := h2 hlt
      go_wp2
      go_end0
      refine ⟨rfl, n, ?_⟩
      rw [reverseLoop, if_neg hnot] at heq
      rw [← Lib.reverseLoop_reverse, ← heq]

theorem fr_byte : (Tryz.prog.info? 5).map (fun i => (i.zero, i.size, i.bytes)) = some (some (.int .u8 0), 1, 1) := by kernel_rfl

/-- Bytes that a slice of the call's own holds. -/
abbrev ownU (w : World) (base : Nat) (v : Value) (L : List Int) : Prop := w.ownsRow base 5 1 v L.length (L.map (Value.int .u8))

theorem fr_holds {w : World} {g : Nat} {cur : Array Value} {e : TypeId} {L : List Int} (hb : w.heap[g]? = some (.cells cur e (0, 0))) (ht : cur.toList.take L.length = L.map enc8) : Holds enc8 w g 0 L.toArray := by
  intro j hj
  have hj' : j < L.length := by simpa using hj
  refine ⟨?_, by simp [World.frozen?, hb]⟩
  have h1 : (cur.toList.take L.length)[j]? = (L.map enc8)[j]? := by rw [ht]
  rw [List.getElem?_take_of_lt hj'] at h1
  simp only [World.cell?, hb, Nat.zero_add]
  simp only [Option.isSome_none, Bool.false_eq_true, if_false]
  rw [← Array.getElem?_toList, h1]
  simp [hj']

theorem fr_grown {w : World} {g n : Nat} (d : Array Int) : w.grownBy (putRow enc8 (Sort.ahead w n) g 0 d) (some g) := by
  refine ⟨rfl, rfl, rfl, by simp [putRow, mapBlock, Sort.ahead], fun k hk hne => ?_⟩
  have : g ≠ k := fun e => hne (by rw [e])
  simp [putRow, mapBlock, Sort.ahead, Array.getElem?_modify, this]

/-- Digits so far, the least first; q is what the last of them was taken of. -/
def FrMore (N q : Nat) (D : List Int) : Prop := q < 17576 ∧ (∀ x ∈ D, 97 ≤ x ∧ x < 123) ∧ (if q / 26 = 0 then [] else frL (q / 26)) ++ (D.map (fun x => UInt8.ofNat x.toNat)).reverse = frL N

theorem frMore_start {N : Nat} (h : N < 17576) : FrMore N N [97 + (N : Int) % 26] := by
  refine ⟨h, fun x hx => by rw [List.mem_singleton] at hx; omega, ?_⟩
  rw [frL_step h]
  have e : ((97 : Int) + (N : Int) % 26).toNat = 97 + N % 26 := by omega
  simp [e, frC]

theorem frMore_step {N q : Nat} {D : List Int} (h : FrMore N q D) (hq : 26 ≤ q) : FrMore N (q / 26) (D ++ [97 + (q : Int) / 26 % 26]) := by
  obtain ⟨h1, h2, h3⟩ := h
  refine ⟨by omega, fun x hx => ?_, ?_⟩
  · rcases List.mem_append.1 hx with hx | hx
    · exact h2 x hx
    · rw [List.mem_singleton] at hx; omega
  · rw [if_neg (by omega), frL_step (show q / 26 < 17576 by omega), List.append_assoc] at h3
    rw [← h3]
    have e : ((97 : Int) + (q : Int) / 26 % 26).toNat = 97 + q / 26 % 26 := by omega
    rw [List.map_append, List.reverse_append, List.map_cons, e]
    rfl

theorem frMore_length {N q : Nat} {D : List Int} (h : FrMore N q D) : D.length ≤ 3 ∧ (26 ≤ q → D.length ≤ 2) := by
  have := (frL_length N).2
  rw [← h.2.2, List.length_append, List.length_reverse, List.length_map] at this
  refine ⟨by omega, fun hq => ?_⟩
  rw [if_neg (by omega)] at this
  have := (frL_length (q / 26)).1
  omega

theorem frMore_end {N q : Nat} {D : List Int} (h : FrMore N q D) (hq : q < 26) : strOfNums D.reverse = ByteArray.mk (frL N).toArray := by
  have := h.2.2
  rw [if_pos (by omega), List.nil_append] at this
  rw [← this, ← List.map_reverse]
  rfl

set_option maxHeartbeats 1600000 in
set_option maxRecDepth 100000 in
theorem impl_fresh_in (N : Nat) (hN : N ≤ 9999) (w : World) :
    Calls Tryz.prog 18 #[.int .i64 N] w fun e w' => e = .returned (.string (frT N)) ∧ Below w.heap.size w w' := by
  rw [frT_in hN]
  obtain ⟨i0, hi, hz0, hz1, hz2⟩ := info_parts fr_byte
  have hown0 : ownU (w.alloc (.cells #[.int .u8 (97 + (N : Int) % 26)] 5)) w.heap.size (.slice (some ⟨w.heap.size, 0, none⟩) 1 1) [97 + (N : Int) % 26] :=
    World.ownsRow_lit w #[.int .u8 (97 + (N : Int) % 26)] 1 (Nat.le_refl _) (by unfold maxLen; omega) rfl
  have HO : Hid (_) := hown0
  clear hown0
  go_enter Tryz.func18, Tryz.ntmps18
  go_wp2
  go_loopw [0, 3] (fun n out wr => ∃ (q : Nat) (D : List Int), n = .int .i64 q ∧ q ≤ N ∧ ownU wr w.heap.size out D ∧ Hid (FrMore N q D) ∧ Below w.heap.size w wr) (fun n _ _ => (RowKit.intOf n).toNat)
  case atStart => exact ⟨N, [97 + (N : Int) % 26], rfl, Nat.le_refl _, HO.out, frMore_start (by omega), (Below.refl _ _).alloc (Nat.le_refl _) _⟩
  case round =>
    obtain ⟨q, D, rfl, hq, hown, hmore, hbel⟩ := hrel
    obtain ⟨hD1, hD2⟩ := frMore_length hmore.out
    by_cases hq0 : 26 ≤ (q : Int)
    · have hD := hD2 (by omega)
      have E : Hid (FrMore N (q / 26) (D ++ [97 + (q : Int) / 26 % 26])) := frMore_step hmore.out (by omega)
      clear hD2 hD1 hmore
      go_wp2_with (at_builtin; refine wpList_append_own _ rfl _ _ 22 rfl w.heap.size 5 i0 (.int .u8 0) 1 1 Tryz.underlying22 hi hz0 hz1 hz2 rfl (by decide) _ _ _ rfl (hown.alloc _) ⟨wr.heap.size, 0, none⟩ 1 1 [.int .u8 (97 + (q : Int) / 26 % 26)] rfl rfl ?c1 ?c2 ?c3 ?c4 ?c5 ?_)
      case c1 => exact cell_one_new _ _ _
      case c2 => simp [Value.oneCell']
      case c3 => unfold maxLen; omega
      case c4 => omega
      case c5 => have := hbel.size; simp; omega
      intro v' w1 hown' hgrow _
      have hown2 : ownU w1 w.heap.size v' (D ++ [97 + (q : Int) / 26 % 26]) := by
        simpa [ownU] using hown'
      have hb1 : Below w.heap.size w w1 := (hbel.alloc hbel.size _).grown hgrow (by have := hbel.size; simp; omega) (fun k hk => (hown.lt k hk).1)
      clear hown' hgrow hown hbel
      go_wp2
      go_roundw
      case rel => exact ⟨q / 26, D ++ [97 + (q : Int) / 26 % 26], by go_num, by omega, hown2, E, hb1⟩
      case measure => simp [RowKit.intOf]; omega
    · have hfin : Hid (strOfNums D.reverse = ByteArray.mk (frL N).toArray) := frMore_end hmore.out (by omega)
      have hne : D.length ≠ 0 := by
        intro h0
        have h1 := hmore.out.2.2
        rw [List.length_eq_zero_iff.1 h0, if_pos (by omega)] at h1
        have := (frL_length N).1
        rw [← h1] at this
        simp at this
      clear hmore hD2
      rcases hown.2 with ⟨h, h0⟩ | ⟨g, cap, cur, rfl, hg1, hg2, hg3, hg4, hg5, hg6⟩
      · exact absurd h0 hne
      · have hH : Holds enc8 wr g 0 D.toArray := fr_holds hg2 (by simpa using hg6)
        have HC : Hid (Calls Tryz.prog 46 #[.slice (some ⟨g, 0, none⟩) D.length cap] wr fun e w' => e = .returned (.tuple #[]) ∧ ∃ n, w' = putRow enc8 (Sort.ahead wr n) g 0 D.toArray.reverse) := by
          have h := lib_reverse g 0 cap D.toArray wr hH (by simp; omega)
          rw [show D.toArray.size = D.length from by simp] at h
          exact h
        have HH : Hid (∀ n, Holds enc8 (putRow enc8 (Sort.ahead wr n) g 0 D.toArray.reverse) g 0 D.toArray.reverse) := fun n => holds_putRow enc8 _ g 0 D.toArray _ (holds_ahead enc8 wr n g 0 D.toArray hH) (by simp)
        have HBX : Hid (∀ n, Below w.heap.size w (putRow enc8 (Sort.ahead wr n) g 0 D.toArray.reverse)) := fun n => hbel.grown (fr_grown _) hbel.size (fun k hk => by cases hk; exact hg1)
        clear hH hown hg1 hg2 hg3 hg4 hg5 hg6 hbel
        go_wp2_with fail
        refine HC.out.mono ?_
        rintro e w2 ⟨rfl, n2, hw2⟩
        have HB2 : Hid (Below w.heap.size w w2) := by show Below w.heap.size w w2; rw [hw2]; exact HBX.out n2
        have hconv : (convert 22 9 (.slice (some ⟨g, 0, none⟩) D.length cap)).run Tryz.prog w2 = .ok (.string (strOfNums D.reverse)) w2 :=
          run_convert_bytes_arg w2 22 5 Tryz.underlying22 Tryz.underlying5 g 0 D.length cap D.reverse (by simp) (fun i hi => by
            have h := (HH.out n2 i (by simpa using hi)).1
            rw [hw2, h]
            have hi2 : i < D.toArray.reverse.size := by simpa using hi
            rw [getElem!_pos D.toArray.reverse i hi2]
            simp [List.getD, hi]) 9 Tryz.underlying9
        rw [hfin.out] at hconv
        clear hw2 HC HH HBX
        have hs2 : (ByteArray.mk (frL N).toArray).size ≤ 3 := by have := (frL_length N).2; simpa [ByteArray.size] using this
        have hs3 := (frL_length N).2
        go_wp2
        rw [fr_zq]
        go_ret
        exact ⟨rfl, HB2.out⟩

theorem impl_fresh_out (n : Int) (hn : ¬ (0 ≤ n ∧ n ≤ 9999)) (w : World) :
    Calls Tryz.prog 18 #[.int .i64 n] w fun e w' => e = .returned (.string (frT n)) ∧ Below w.heap.size w w' := by
  rw [frT, if_neg hn]
  by_cases h1 : n < 0
  · clear hn
    go_enter Tryz.func18, Tryz.ntmps18
    go_wp2
    go_ret
    exact ⟨rfl, Below.refl _ _⟩
  · have h2 : 9999 < n := by omega
    clear hn
    go_enter Tryz.func18, Tryz.ntmps18
    go_wp2
    go_ret
    exact ⟨rfl, Below.refl _ _⟩

theorem impl_fresh (n : Int) (w : World) : Calls Tryz.prog 18 #[.int .i64 n] w fun e w' => e = .returned (.string (frT n)) ∧ Below w.heap.size w w' := by
  by_cases h : 0 ≤ n ∧ n ≤ 9999
  · obtain ⟨N, rfl⟩ := Int.eq_ofNat_of_zero_le h.1
    exact impl_fresh_in N (by omega) w
  · exact impl_fresh_out n h w
end

section
open Go.Lib

/-- A text is put into its place, where it is not there yet. -/
def insU : List (List UInt8) → List UInt8 → List (List UInt8)
  | [], s => [s]
  | x :: l, s => if x = s then x :: l else if s < x then s :: x :: l else x :: insU l s

/-- Rising, each once. -/
def Up (l : List (List UInt8)) : Prop := l.Pairwise (· < ·)

theorem tx_irr (x : List UInt8) : ¬ x < x := List.lt_irrefl x
theorem tx_trans {x y z : List UInt8} (h : x < y) (h2 : y < z) : x < z := List.lt_trans h h2
theorem tx_tri {x y : List UInt8} (h : ¬ x = y) (h2 : ¬ y < x) : x < y := by
  by_cases h1 : x < y
  · exact h1
  · exact absurd (List.le_antisymm (List.not_lt.1 h2) (List.not_lt.1 h1)) h

theorem insU_mem (x : List UInt8) : ∀ (l : List (List UInt8)) (s : List UInt8), x ∈ insU l s ↔ x = s ∨ x ∈ l
  | [], s => by simp [insU]
  | y :: l, s => by
    rw [insU]
    by_cases h1 : y = s
    · rw [if_pos h1]
      subst h1
      simp
    · rw [if_neg h1]
      by_cases h2 : s < y
      · rw [if_pos h2]
        simp
      · rw [if_neg h2, List.mem_cons, insU_mem x l s, List.mem_cons]
        constructor
        · rintro (h | h | h)
          · exact Or.inr (Or.inl h)
          · exact Or.inl h
          · exact Or.inr (Or.inr h)
        · rintro (h | h | h)
          · exact Or.inr (Or.inl h)
          · exact Or.inl h
          · exact Or.inr (Or.inr h)

theorem insU_up : ∀ (l : List (List UInt8)) (s : List UInt8), Up l → Up (insU l s)
  | [], s, _ => by simp [insU, Up]
  | y :: l, s, h => by
    have h' : (∀ a ∈ l, y < a) ∧ Up l := List.pairwise_cons.1 h
    rw [insU]
    by_cases h1 : y = s
    · rw [if_pos h1]
      exact h
    · rw [if_neg h1]
      by_cases h2 : s < y
      · rw [if_pos h2]
        refine List.pairwise_cons.2 ⟨fun a ha => ?_, h⟩
        rcases List.mem_cons.1 ha with rfl | ha
        · exact h2
        · exact tx_trans h2 (h'.1 a ha)
      · rw [if_neg h2]
        refine List.pairwise_cons.2 ⟨fun a ha => ?_, insU_up l s h'.2⟩
        rcases (insU_mem a l s).1 ha with rfl | ha
        · exact tx_tri h1 h2
        · exact h'.1 a ha

/-- What rises is told by what is in it. -/
theorem up_ext : ∀ (a b : List (List UInt8)), Up a → Up b → (∀ x, x ∈ a ↔ x ∈ b) → a = b
  | [], [], _, _, _ => rfl
  | [], y :: b, _, _, h => absurd ((h y).2 List.mem_cons_self) (by simp)
  | x :: a, [], _, _, h => absurd ((h x).1 List.mem_cons_self) (by simp)
  | x :: a, y :: b, ha, hb, h => by
    have ha' : (∀ c ∈ a, x < c) ∧ Up a := List.pairwise_cons.1 ha
    have hb' : (∀ c ∈ b, y < c) ∧ Up b := List.pairwise_cons.1 hb
    have e : x = y := by
      rcases List.mem_cons.1 ((h x).1 List.mem_cons_self) with e | hx
      · exact e
      · rcases List.mem_cons.1 ((h y).2 List.mem_cons_self) with e | hy
        · exact e.symm
        · exact absurd (tx_trans (ha'.1 y hy) (hb'.1 x hx)) (tx_irr x)
    subst e
    congr 1
    refine up_ext a b ha'.2 hb'.2 fun c => ⟨fun hc => ?_, fun hc => ?_⟩
    · rcases List.mem_cons.1 ((h c).1 (List.mem_cons_of_mem _ hc)) with e | h2
      · subst e; exact absurd (ha'.1 c hc) (tx_irr c)
      · exact h2
    · rcases List.mem_cons.1 ((h c).2 (List.mem_cons_of_mem _ hc)) with e | h2
      · subst e; exact absurd (hb'.1 c hc) (tx_irr c)
      · exact h2

/-- All put in, one by one. -/
def insL (l : List (List UInt8)) (xs : List (List UInt8)) : List (List UInt8) := xs.foldl insU l

theorem insL_up : ∀ (xs l : List (List UInt8)), Up l → Up (insL l xs)
  | [], l, h => h
  | x :: xs, l, h => insL_up xs (insU l x) (insU_up l x h)

theorem insL_mem (y : List UInt8) : ∀ (xs l : List (List UInt8)), y ∈ insL l xs ↔ y ∈ xs ∨ y ∈ l
  | [], l => by simp [insL]
  | x :: xs, l => by
    rw [show insL l (x :: xs) = insL (insU l x) xs from rfl, insL_mem y xs, insU_mem, List.mem_cons]
    constructor
    · rintro (h | h | h)
      · exact Or.inl (Or.inr h)
      · exact Or.inl (Or.inl h)
      · exact Or.inr h
    · rintro ((h | h) | h)
      · exact Or.inr (Or.inl h)
      · exact Or.inl h
      · exact Or.inr (Or.inr h)

theorem get_bang (d : Array (List UInt8)) (j : Nat) (h : j < d.size) : d[j]! = d[j] := getElem!_pos d j h

/-- Of what does not fall: without those that stand twice it rises, and has the same in it. -/
theorem comp_up (d : Array (List UInt8)) (hd : ∀ i j, i < j → j < d.size → d[i]! ≤ d[j]!) : ∀ m, m ≤ d.size → Up (compactUpTo d m) ∧ (∀ x, x ∈ compactUpTo d m ↔ ∃ j, j < m ∧ d[j]! = x)
  | 0, _ => by simp [compactUpTo, Up]
  | m + 1, hm => by
    obtain ⟨h1, h2⟩ := comp_up d hd m (by omega)
    rw [compactUpTo_succ]
    by_cases hk : keeps d m = true
    · rw [if_pos hk]
      have hlt : ∀ x ∈ compactUpTo d m, x < d[m]! := fun x hx => by
        obtain ⟨j, hj, rfl⟩ := (h2 x).1 hx
        have hm0 : ¬ m = 0 := by omega
        have hne : ¬ d[m]! = d[m - 1]! := by
          have := of_decide_eq_true hk
          rcases this with h | h
          · exact absurd h hm0
          · exact h
        have hle : d[m - 1]! ≤ d[m]! := hd (m - 1) m (by omega) (by omega)
        have hlt1 : d[m - 1]! < d[m]! := tx_tri (fun e => hne e.symm) (fun h => absurd hle (by rw [← List.not_lt] at hle; exact fun _ => hle h))
        by_cases e : j = m - 1
        · rw [e]; exact hlt1
        · have hle2 : d[j]! ≤ d[m - 1]! := hd j (m - 1) (by omega) (by omega)
          by_cases h3 : d[j]! = d[m - 1]!
          · rw [h3]; exact hlt1
          · exact tx_trans (tx_tri h3 (fun h => (List.not_lt.2 hle2) h)) hlt1
      refine ⟨List.pairwise_append.2 ⟨h1, by simp, fun a ha b hb => ?_⟩, fun x => ?_⟩
      · rw [List.mem_singleton] at hb
        subst hb
        exact hlt a ha
      · rw [List.mem_append, List.mem_singleton, h2]
        constructor
        · rintro (⟨j, hj, e⟩ | e)
          · exact ⟨j, by omega, e⟩
          · exact ⟨m, by omega, e.symm⟩
        · rintro ⟨j, hj, e⟩
          by_cases ej : j = m
          · subst ej; exact Or.inr e.symm
          · exact Or.inl ⟨j, by omega, e⟩
    · rw [if_neg hk, List.append_nil]
      refine ⟨h1, fun x => ?_⟩
      rw [h2]
      have hk' : ¬ (m = 0 ∨ d[m]! ≠ d[m - 1]!) := fun h => hk (decide_eq_true h)
      have e0 : ¬ m = 0 := fun h => hk' (Or.inl h)
      have e1 : d[m]! = d[m - 1]! := by
        by_cases h : d[m]! = d[m - 1]!
        · exact h
        · exact absurd (Or.inr h) hk'
      constructor
      · rintro ⟨j, hj, e⟩
        exact ⟨j, by omega, e⟩
      · rintro ⟨j, hj, e⟩
        by_cases ej : j = m
        · subst ej; exact ⟨j - 1, by omega, by rw [← e1]; exact e⟩
        · exact ⟨j, by omega, e⟩

/-- Sorted and rid of what stands twice. -/
def risL (xs : List (List UInt8)) : List (List UInt8) := compact (xs.mergeSort fun x y => decide (x ≤ y))

theorem risL_up (xs : List (List UInt8)) : Up (risL xs) ∧ ∀ x, x ∈ risL xs ↔ x ∈ xs := by
  have hs := List.pairwise_mergeSort (le := fun (x y : List UInt8) => decide (x ≤ y)) (fun a b c h1 h2 => decide_eq_true (List.le_trans (of_decide_eq_true h1) (of_decide_eq_true h2)))
    (fun a b => by
      rcases List.le_total a b with h | h
      · rw [decide_eq_true h]; rfl
      · rw [decide_eq_true h, Bool.or_true]) xs
  obtain ⟨ys, hys⟩ : ∃ ys, xs.mergeSort (fun x y => decide (x ≤ y)) = ys := ⟨_, rfl⟩
  have hm : ∀ x, x ∈ ys ↔ x ∈ xs := fun x => by rw [← hys]; exact List.mem_mergeSort
  unfold risL
  rw [hys] at hs ⊢
  have hd : ∀ i j, i < j → j < ys.toArray.size → ys.toArray[i]! ≤ ys.toArray[j]! := fun i j hij hj => by
    have hj' : j < ys.length := by simpa using hj
    rw [get_bang _ _ hj, get_bang _ _ (by omega)]
    have := List.pairwise_iff_getElem.1 hs i j (by omega) hj' hij
    simpa using this
  obtain ⟨h1, h2⟩ := comp_up ys.toArray hd ys.length (by simp)
  refine ⟨h1, fun x => ?_⟩
  rw [show compact ys = compactUpTo ys.toArray ys.length from rfl, h2, ← hm]
  constructor
  · rintro ⟨j, hj, rfl⟩
    rw [get_bang _ _ (by simpa using hj)]
    simp
  · intro hx
    obtain ⟨j, hj, e⟩ := List.getElem_of_mem hx
    exact ⟨j, hj, by rw [get_bang _ _ (by simpa using hj)]; simpa using e⟩

theorem ris_ins (xs ys : List (List UInt8)) (h : ∀ x, x ∈ xs ↔ x ∈ ys) : risL xs = insL [] ys := by
  obtain ⟨h1, h2⟩ := risL_up xs
  refine up_ext _ _ h1 (insL_up ys [] (by simp [Up])) fun x => ?_
  rw [h2, insL_mem, h]
  simp

theorem insU_length : ∀ (l : List (List UInt8)) (s : List UInt8), (insU l s).length ≤ l.length + 1
  | [], s => by simp [insU]
  | x :: l, s => by
    rw [insU]
    split
    · simp
    · split
      · simp
      · have := insU_length l s
        simp only [List.length_cons]
        omega

theorem insL_length : ∀ (xs l : List (List UInt8)), (insL l xs).length ≤ l.length + xs.length
  | [], l => Nat.le_refl _
  | x :: xs, l => by
    have h1 := insL_length xs (insU l x)
    have h2 := insU_length l x
    rw [show insL l (x :: xs) = insL (insU l x) xs from rfl]
    simp only [List.length_cons]
    omega

/-- Into a rising list: where it comes to stand. -/
theorem insU_app : ∀ (p q : List (List UInt8)) (s : List UInt8), (∀ x ∈ p, x < s) → insU (p ++ q) s = p ++ insU q s
  | [], q, s, _ => rfl
  | x :: p, q, s, h => by
    have hx := h x List.mem_cons_self
    rw [List.cons_append, insU, if_neg (fun e => by subst e; exact tx_irr x hx), if_neg (fun h2 => tx_irr x (tx_trans hx h2)), insU_app p q s (fun y hy => h y (List.mem_cons_of_mem _ hy))]
    rfl
end

section
open Go.ChangeShapes Go.WideShapes Go.ChangeAt Go.RowKit Go.Sort

/-- A slice of texts of the call's own. -/
abbrev ownS (w : World) (base : Nat) (v : Value) (l : List (List UInt8)) : Prop := w.ownsRow base 9 1 v l.length (l.map encStr)

theorem ownS_kept {w w' : World} {B N : Nat} {v : Value} {l : List (List UInt8)} (h : ownS w B v l) (hb : Below N w w') (hN : w.heap.size ≤ N) : ownS w' B v l := by
  rcases h.2 with ⟨rfl, h0⟩ | ⟨g, cap, cur, rfl, hB, hg, hn, hm, hs, ht⟩
  · exact ⟨h.1, Or.inl ⟨rfl, h0⟩⟩
  · exact ⟨h.1, Or.inr ⟨g, cap, cur, rfl, hB, (hb.block g (by have := (Array.getElem?_eq_some_iff.1 hg).1; omega)).trans hg, hn, hm, hs, ht⟩⟩

theorem ownS_base {w : World} {B B' : Nat} {v : Value} {l : List (List UInt8)} (h : ownS w B v l) (hB : B' ≤ B) : ownS w B' v l := by
  rcases h.2 with ⟨rfl, h0⟩ | ⟨g, cap, cur, rfl, hb, hg, hn, hm, hs, ht⟩
  · exact ⟨h.1, Or.inl ⟨rfl, h0⟩⟩
  · exact ⟨h.1, Or.inr ⟨g, cap, cur, rfl, by omega, hg, hn, hm, hs, ht⟩⟩

theorem ownS_empty {w : World} {B : Nat} (hB : B ≤ w.heap.size) : ownS (w.alloc (.cells #[] 9)) B (.slice (some ⟨w.heap.size, 0, none⟩) 0 0) [] :=
  ⟨rfl, Or.inr ⟨w.heap.size, 0, #[], rfl, hB, (MapKept.heap_alloc w _).1, Nat.le_refl _, by unfold maxLen; omega, rfl, rfl⟩⟩

theorem ownS_nil {w : World} {B : Nat} : ownS w B (.slice none 0 0) [] := ⟨rfl, Or.inl ⟨rfl, rfl⟩⟩

theorem ownS_next {w : World} {B : Nat} {v : Value} {l : List (List UInt8)} {m : Nat} {xs : List Value} (s : List UInt8) (h : w.ownsRow B 9 1 v m xs) (hn : m = l.length + 1) (hx : xs = l.map encStr ++ [encStr s]) : ownS w B v (l ++ [s]) := by
  unfold ownS
  rw [hn, hx] at h
  rw [List.length_append, List.map_append]
  exact h

/-- Where the texts of a row of its own lie. -/
theorem ownS_form {w : World} {B : Nat} {v : Value} {l : List (List UInt8)} (h : ownS w B v l) :
    ∃ (a : Option Addr) (g cap : Nat), v = .slice a l.length cap ∧ (0 < l.length → a = some ⟨g, 0, none⟩ ∧ B ≤ g ∧ g < w.heap.size) ∧ (∀ j, j < l.length → w.cell? ⟨g, j, none⟩ = some (.string ⟨(l.getD j []).toArray⟩) ∧ w.frozen? ⟨g, j, none⟩ = false) := by
  rcases h.2 with ⟨rfl, h0⟩ | ⟨g, cap, cur, rfl, hb, hg, hn, hm, hs, ht⟩
  · rw [h0]
    exact ⟨none, 0, 0, rfl, fun h => absurd h (by omega), fun j hj => absurd hj (by omega)⟩
  · refine ⟨some ⟨g, 0, none⟩, g, cap, rfl, fun _ => ⟨rfl, hb, (Array.getElem?_eq_some_iff.1 hg).1⟩, fun j hj => ⟨?_, frozen_of_row w g j _ _ hg⟩⟩
    rw [cell_of_row _ _ _ _ _ _ hg, ← Array.getElem?_toList]
    rw [Nat.mul_one] at ht
    have h1 : (cur.toList.take l.length)[j]? = (l.map encStr)[j]? := by rw [ht]
    rw [List.getElem?_take_of_lt hj] at h1
    rw [h1]
    simp [List.getD, hj]

theorem info_str : (Tryz.prog.info? 9).map (fun i => (i.zero, i.size, i.bytes)) = some (some (.string ⟨#[]⟩), 1, 16) := by kernel_rfl

theorem bytes_list (s : ByteArray) : (⟨s.data.toList.toArray⟩ : ByteArray) = s := by
  cases s
  simp

theorem tx_ne {x : List UInt8} {s : ByteArray} (h : ¬ x = s.data.toList) : ((⟨x.toArray⟩ : ByteArray).toList == s.toList) = false := by
  rw [beq_eq_false_iff_ne]
  intro e
  rw [Lib.toList_data, Lib.toList_data] at e
  exact h (by simpa using e)

theorem str_new {w : World} {s : ByteArray} {t : TypeId} : ∀ (j : Nat) (u : Value), ([Value.string s] : List Value)[j]? = some u → (w.alloc (.cells #[.string s] t)).cell? ((⟨w.heap.size, 0, none⟩ : Addr).add j) = some u := by
  intro j u hj
  match j, hj with
  | 0, hj => simp at hj; subst hj; simp [Addr.add]

set_option maxHeartbeats 4000000 in
set_option maxRecDepth 20000 in
theorem spec_sort (B : Nat) (v : Value) (l : List (List UInt8)) (s : ByteArray) (hup : Up l) (hl : l.length ≤ 1000) (w : World) (hB : B ≤ w.heap.size) (ho : ownS w B v l) :
    Calls Tryz.prog 77 #[v, .string s] w fun e w' => ∃ v', e = .returned v' ∧ ownS w' B v' (insU l s.data.toList) ∧ Below w.heap.size w w' := by
  obtain ⟨a, g, cap, rfl, ha, hcell⟩ := ownS_form ho
  have HO : Hid (ownS w B (.slice a l.length cap) l) := ho
  have HC : Hid (∀ j, j < l.length → w.cell? ⟨g, j, none⟩ = some (.string ⟨(l.getD j []).toArray⟩) ∧ w.frozen? ⟨g, j, none⟩ = false) := hcell
  have HU : Hid (Up l) := hup
  obtain ⟨i0, hi, hz0, hz1, hz2⟩ := info_parts info_str
  clear ho hcell hup
  go_enter Tryz.func77, Tryz.ntmps77
  go_wp2
  go_loopw [5, 6, 7] (fun out dn iv wr => ∃ (k : Nat) (d : Bool) (j : Nat), k ≤ l.length ∧ iv = .int .i64 k ∧ dn = .bool d ∧ Hid (∀ x ∈ l.take j, x < s.data.toList) ∧ Hid ((d = false → j = k ∧ ownS wr w.heap.size out (l.take k)) ∧ (d = true → j < k ∧ s.data.toList < l.getD j [] ∧ ownS wr w.heap.size out (l.take j ++ [s.data.toList] ++ (l.drop j).take (k - j)))) ∧ Below w.heap.size w wr) (fun _ _ iv _ => l.length - (intOf iv).toNat)
  case atStart => exact ⟨0, false, 0, by omega, rfl, rfl, fun x hx => by simp at hx, ⟨fun _ => ⟨rfl, ownS_empty (Nat.le_refl _)⟩, fun h => by cases h⟩, (Below.refl _ w).alloc (Nat.le_refl _) _⟩
  case round =>
    obtain ⟨k, d, j, hk, rfl, rfl, HJ, HD, hb⟩ := hrel
    have hs := hb.size
    by_cases hin : k < l.length
    · have hin' : (k : Int) < l.length := by omega
      obtain ⟨rfl, hBg, hgl⟩ := ha (by omega)
      obtain ⟨ck, fk⟩ := HC.out k hin
      have ck' := (World.cell?_of_block (hb.block g hgl)).trans ck
      obtain ⟨x, hx⟩ : ∃ x, l.getD k [] = x := ⟨_, rfl⟩
      rw [hx] at ck'
      have HX : Hid (l.getD k [] = x) := hx
      clear ck fk hx
      have hdrop : l.drop k = x :: l.drop (k + 1) := by
        rw [List.drop_eq_getElem_cons hin]
        congr 1
        rw [← HX.out]
        simp [List.getD, hin]
      have HDR : Hid (l.drop k = x :: l.drop (k + 1)) := hdrop
      have htk : l.take (k + 1) = l.take k ++ [x] := by
        rw [List.take_succ_eq_append_getElem hin]
        congr 2
        rw [← HX.out]
        simp [List.getD, hin]
      have HTK : Hid (l.take (k + 1) = l.take k ++ [x]) := htk
      clear hdrop htk
      by_cases hxs : x = s.data.toList
      · have HR : Hid (insU l s.data.toList = l) := by
          show insU l s.data.toList = l
          cases d with
          | false =>
            obtain ⟨rfl, _⟩ := HD.out.1 rfl
            conv => lhs; rw [← List.take_append_drop j l]
            rw [insU_app _ _ _ HJ.out, HDR.out, insU, if_pos hxs, ← HDR.out, List.take_append_drop]
          | true =>
            obtain ⟨h1, h2, _⟩ := HD.out.2 rfl
            exfalso
            have hp := List.pairwise_iff_getElem.1 HU.out j k (by omega) hin h1
            have e1 : l.getD j [] = l[j] := by simp [List.getD, show j < l.length by omega]
            have e2 : x = l[k] := by rw [← HX.out]; simp [List.getD, hin]
            rw [e1] at h2
            rw [← e2, hxs] at hp
            exact tx_irr _ (tx_trans h2 hp)
        have hsub : (⟨x.toArray⟩ : ByteArray) = s := (congrArg (fun y : List UInt8 => (⟨y.toArray⟩ : ByteArray)) hxs).trans (bytes_list s)
        rw [hsub] at ck'
        clear hsub hxs
        go_wp2
        go_ret
        exact ⟨_, rfl, by rw [HR.out]; exact ownS_kept HO.out hb (Nat.le_refl _), hb⟩
      · have hne := tx_ne hxs
        have hxl : (⟨x.toArray⟩ : ByteArray).toList = x := by rw [Lib.toList_data]
        have hsl : s.toList = s.data.toList := Lib.toList_data s
        obtain ⟨X, hX⟩ : ∃ X : ByteArray, ⟨x.toArray⟩ = X := ⟨_, rfl⟩
        rw [hX] at ck' hne hxl
        have HXX : Hid (⟨x.toArray⟩ = X) := hX
        clear hX
        have HLN : Hid ((l.take k).length = k) := by show (l.take k).length = k; simp; omega
        cases d with
        | true =>
          obtain ⟨h1, h2, h3⟩ := HD.out.2 rfl
          have H3 : Hid (ownS wr w.heap.size u5 (l.take j ++ [s.data.toList] ++ (l.drop j).take (k - j))) := h3
          have HLL : Hid ((l.take j ++ [s.data.toList] ++ (l.drop j).take (k - j)).length = k + 1) := by show _ = _; simp; omega
          have HNX : Hid (l.take j ++ [s.data.toList] ++ (l.drop j).take (k + 1 - j) = (l.take j ++ [s.data.toList] ++ (l.drop j).take (k - j)) ++ [x]) := by
            show _ = _
            have e : k + 1 - j = (k - j) + 1 := by omega
            rw [e, List.take_succ_eq_append_getElem (by simp; omega), List.append_assoc, List.append_assoc, List.append_assoc]
            congr 4
            rw [List.getElem_drop, ← HX.out]
            simp [List.getD, hin, show j + (k - j) = k by omega]
          clear h3 HD hxl hsl
          generalize l.take j ++ [s.data.toList] ++ (l.drop j).take (k - j) = M at *
          go_wp2_with (at_builtin; refine wpList_append_own _ rfl _ _ 35 rfl w.heap.size 9 i0 (.string ⟨#[]⟩) 1 16 Tryz.underlying35 hi hz0 hz1 hz2 rfl (by decide) _ _ _ rfl (H3.out.alloc _) ⟨wr.heap.size, 0, none⟩ 1 1 [.string X] rfl rfl ?a1 ?a2 ?a3 ?a4 ?a5 ?_)
          try (case a1 => exact str_new)
          case a2 => first | rfl | (intro u hu; simp at hu; subst hu; rfl)
          case a3 => have := HLL.out; unfold maxLen; omega
          case a4 => have := HLL.out; omega
          case a5 => first | omega | (simp; omega)
          intro v' W3 hown' hgrow _
          have HM : Hid (ownS W3 w.heap.size v' (l.take j ++ [s.data.toList] ++ (l.drop j).take (k + 1 - j))) := by
            show ownS W3 w.heap.size v' _
            rw [HNX.out]
            exact ownS_next x hown' rfl (by show _ = _ ++ [Value.string ⟨x.toArray⟩]; rw [HXX.out])
          have HB3 : Hid (Below w.heap.size w W3) := (hb.alloc hs _).grown hgrow (by simp; omega) (fun q hq => (H3.out.lt q hq).1)
          have H2 : Hid (s.data.toList < l.getD j []) := h2
          clear hown' hgrow H3 hb h2
          go_wp2
          go_roundw
          case rel => exact ⟨k + 1, true, j, by omega, by go_num, rfl, HJ, ⟨(fun h => by cases h), fun _ => ⟨by omega, H2.out, HM.out⟩⟩, HB3.out⟩
          case measure => simp [intOf]; omega
        | false =>
          obtain ⟨rfl, h3⟩ := HD.out.1 rfl
          have H30 : Hid (ownS wr w.heap.size u5 (l.take j)) := h3
          clear h3 HD
          obtain ⟨T, hT⟩ : ∃ T, l.take j = T := ⟨_, rfl⟩
          rw [hT] at H30 HLN HTK
          have H3 : Hid (ownS wr w.heap.size u5 T) := H30
          have HTT : Hid (l.take j = T) := hT
          clear hT H30
          by_cases hlt : s.data.toList < x
          · have hbl : Op.bytesLess X.toList s.toList = false := by
              rw [bytesLess_eq, hxl, hsl]
              exact decide_eq_false (fun h => tx_irr _ (tx_trans h hlt))
            have HLT : Hid (s.data.toList < x) := hlt
            clear hxl hsl hlt
            go_wp2_with (at_builtin; refine wpList_append_own _ rfl _ _ 35 rfl w.heap.size 9 i0 (.string ⟨#[]⟩) 1 16 Tryz.underlying35 hi hz0 hz1 hz2 rfl (by decide) _ _ _ rfl (H3.out.alloc _) ⟨wr.heap.size, 0, none⟩ 1 1 [.string s] rfl rfl ?b1 ?b2 ?b3 ?b4 ?b5 ?_)
            try (case b1 => exact str_new)
            case b2 => first | rfl | (intro u hu; simp at hu; subst hu; rfl)
            case b3 => have := HLN.out; unfold maxLen; omega
            case b4 => have := HLN.out; omega
            case b5 => first | omega | (simp; omega)
            intro v' W3 hown' hgrow _
            have HM : Hid (ownS W3 w.heap.size v' (T ++ [s.data.toList])) := by
              refine ownS_next s.data.toList hown' rfl ?_
              show _ = _ ++ [Value.string ⟨s.data.toList.toArray⟩]
              rw [bytes_list]
            have HB3 : Hid (Below w.heap.size w W3) := (hb.alloc hs _).grown hgrow (by simp; omega) (fun q hq => (H3.out.lt q hq).1)
            have ck3 := (World.cell?_of_block (HB3.out.block g hgl)).trans (HC.out j hin).1
            rw [HX.out, HXX.out] at ck3
            have hs3 := HB3.out.size
            have HLM : Hid ((T ++ [s.data.toList]).length = j + 1) := by show _ = _; rw [List.length_append, HLN.out]; rfl
            clear hown' hgrow H3 hb ck' hbl
            generalize hMM : T ++ [s.data.toList] = M at *
            have HMQ : Hid (l.take j ++ [s.data.toList] = M) := by show _ = _; rw [HTT.out]; exact hMM
            clear hMM
            go_wp2_with (at_builtin; refine wpList_append_own _ rfl _ _ 35 rfl w.heap.size 9 i0 (.string ⟨#[]⟩) 1 16 Tryz.underlying35 hi hz0 hz1 hz2 rfl (by decide) _ _ _ rfl (HM.out.alloc _) ⟨W3.heap.size, 0, none⟩ 1 1 [.string X] rfl rfl ?c1 ?c2 ?c3 ?c4 ?c5 ?_)
            try (case c1 => exact str_new)
            case c2 => first | rfl | (intro u hu; simp at hu; subst hu; rfl)
            case c3 => have := HLM.out; unfold maxLen; omega
            case c4 => have := HLM.out; omega
            case c5 => first | omega | (simp; omega)
            intro v' W4 hown' hgrow _
            have HM4 : Hid (ownS W4 w.heap.size v' (l.take j ++ [s.data.toList] ++ (l.drop j).take (j + 1 - j))) := by
              show ownS W4 w.heap.size v' _
              rw [HMQ.out, show j + 1 - j = 1 by omega, HDR.out]
              exact ownS_next x hown' rfl (by show _ = _ ++ [Value.string ⟨x.toArray⟩]; rw [HXX.out])
            have HB4 : Hid (Below w.heap.size w W4) := (HB3.out.alloc hs3 _).grown hgrow (by simp; omega) (fun q hq => (HM.out.lt q hq).1)
            have HGT : Hid (s.data.toList < l.getD j []) := by show _ < _; rw [HX.out]; exact HLT.out
            clear hown' hgrow HM HB3 ck3
            go_wp2
            go_roundw
            case rel => exact ⟨j + 1, true, j, by omega, by go_num, rfl, HJ, ⟨(fun h => by cases h), fun _ => ⟨by omega, HGT.out, HM4.out⟩⟩, HB4.out⟩
            case measure => simp [intOf]; omega
          · have hbl : Op.bytesLess X.toList s.toList = true := by
              rw [bytesLess_eq, hxl, hsl]
              exact decide_eq_true (tx_tri hxs hlt)
            have HXL : Hid (x < s.data.toList) := tx_tri hxs hlt
            have HLM : Hid (T.length = j) := HLN
            clear hxl hsl hlt
            go_wp2_with (at_builtin; refine wpList_append_own _ rfl _ _ 35 rfl w.heap.size 9 i0 (.string ⟨#[]⟩) 1 16 Tryz.underlying35 hi hz0 hz1 hz2 rfl (by decide) _ _ _ rfl (H3.out.alloc _) ⟨wr.heap.size, 0, none⟩ 1 1 [.string X] rfl rfl ?d1 ?d2 ?d3 ?d4 ?d5 ?_)
            try (case d1 => exact str_new)
            case d2 => first | rfl | (intro u hu; simp at hu; subst hu; rfl)
            case d3 => have := HLM.out; unfold maxLen; omega
            case d4 => have := HLM.out; omega
            case d5 => first | omega | (simp; omega)
            intro v' W4 hown' hgrow _
            have HM4 : Hid (ownS W4 w.heap.size v' (l.take (j + 1))) := by
              show ownS W4 w.heap.size v' _
              rw [HTK.out]
              exact ownS_next x hown' rfl (by show _ = _ ++ [Value.string ⟨x.toArray⟩]; rw [HXX.out])
            have HB4 : Hid (Below w.heap.size w W4) := (hb.alloc hs _).grown hgrow (by simp; omega) (fun q hq => (H3.out.lt q hq).1)
            have HJ4 : Hid (∀ y ∈ l.take (j + 1), y < s.data.toList) := by
              intro y hy
              rw [HTK.out] at hy
              rcases List.mem_append.1 hy with h | h
              · exact HJ.out y (by rw [HTT.out]; exact h)
              · rw [List.mem_singleton] at h
                rw [h]
                exact HXL.out
            clear hown' hgrow H3 hb ck'
            go_wp2
            go_roundw
            case rel => exact ⟨j + 1, false, j + 1, by omega, by go_num, rfl, HJ4, ⟨fun _ => ⟨rfl, HM4.out⟩, (fun h => by cases h)⟩, HB4.out⟩
            case measure => simp [intOf]; omega
    · obtain rfl : k = l.length := by omega
      cases d with
      | true =>
        obtain ⟨h1, h2, h3⟩ := HD.out.2 rfl
        have HE : Hid (ownS wr B u5 (insU l s.data.toList)) := by
          show ownS wr B u5 _
          have e : insU l s.data.toList = l.take j ++ [s.data.toList] ++ (l.drop j).take (l.length - j) := by
            conv => lhs; rw [← List.take_append_drop j l]
            rw [insU_app _ _ _ HJ.out]
            have hd : l.drop j = l.getD j [] :: l.drop (j + 1) := by
              rw [List.drop_eq_getElem_cons h1]
              congr 1
              simp [List.getD, h1]
            rw [show (l.drop j).take (l.length - j) = l.drop j by rw [List.take_of_length_le]; simp, hd, insU, if_neg (fun e => by rw [e] at h2; exact tx_irr _ h2), if_pos h2]
            simp
          rw [e]
          exact ownS_base h3 hB
        clear HD h3 h2
        go_wp2
        go_ret
        exact ⟨_, rfl, HE.out, hb⟩
      | false =>
        obtain ⟨hj, h3⟩ := HD.out.1 rfl
        have H3 : Hid (ownS wr w.heap.size u5 l) := by
          show ownS wr w.heap.size u5 l
          have := h3
          rw [List.take_length] at this
          exact this
        have HE : Hid (insU l s.data.toList = l ++ [s.data.toList]) := by
          show insU l s.data.toList = _
          have h := insU_app l [] s.data.toList (fun x hx => HJ.out x (by rw [hj, List.take_length]; exact hx))
          rw [List.append_nil] at h
          exact h
        clear HD h3
        go_wp2_with (at_builtin; refine wpList_append_own _ rfl _ _ 35 rfl w.heap.size 9 i0 (.string ⟨#[]⟩) 1 16 Tryz.underlying35 hi hz0 hz1 hz2 rfl (by decide) _ _ _ rfl (H3.out.alloc _) ⟨wr.heap.size, 0, none⟩ 1 1 [.string s] rfl rfl ?e1 ?e2 ?e3 ?e4 ?e5 ?_)
        try (case e1 => exact str_new)
        case e2 => first | rfl | (intro u hu; simp at hu; subst hu; rfl)
        case e3 => unfold maxLen; omega
        case e4 => omega
        case e5 => first | omega | (simp; omega)
        intro v' W4 hown' hgrow _
        have HM4 : Hid (ownS W4 B v' (insU l s.data.toList)) := by
          show ownS W4 B v' _
          rw [HE.out]
          refine ownS_base (ownS_next s.data.toList hown' rfl ?_) hB
          show _ = _ ++ [Value.string ⟨s.data.toList.toArray⟩]
          rw [bytes_list]
        have HB4 : Hid (Below w.heap.size w W4) := (hb.alloc hs _).grown hgrow (by simp; omega) (fun q hq => (H3.out.lt q hq).1)
        clear hown' hgrow H3 hb
        go_wp2
        go_ret
        exact ⟨_, rfl, HM4.out, HB4.out⟩
end

section
open Go.ChangeShapes Go.WideShapes Go.ChangeAt Go.RowKit Go.Sort

theorem lib_clone (s : ByteArray) (hs : s.size ≤ 281474976710656) (w : World) : Calls Tryz.prog 75 #[.string s] w fun e w' => e = .returned (.string s) ∧ Below w.heap.size w w' := by
  go_enter Tryz.func75, Tryz.ntmps75
  go_wp2_with fail
  refine (Tryz.stringslite_Clone s w hs).mono ?_
  rintro e w1 ⟨rfl, b1⟩
  go_wp2
  go_ret
  exact ⟨rfl, b1⟩

/-- A row of its own whose first cells are set, as a block. -/
theorem sorted_block {w : World} {g n : Nat} {os : Array Obj} {cur : Array Value} {ts : List (List UInt8)} (hb : w.heap[g]? = some (.cells cur 9 (0, 0))) (h : ts.length ≤ cur.size) :
    ∃ cur' : Array Value, (grow (putRow encStr (Sort.ahead w n) g 0 ts.toArray) os).heap[g]? = some (.cells cur' 9 (0, 0)) ∧ cur'.size = cur.size ∧ cur'.toList.take ts.length = ts.map encStr :=
  ⟨_, heap_sorted _ hb, by simp [putCells], take_putCells cur ts h⟩

theorem cell_take {w : World} {g : Nat} {cur : Array Value} {l : List (List UInt8)} (hg : w.heap[g]? = some (.cells cur 9 (0, 0))) (ht : cur.toList.take l.length = l.map encStr) (j : Nat) (hj : j < l.length) :
    w.cell? ⟨g, j, none⟩ = some (.string ⟨(l.getD j []).toArray⟩) ∧ w.frozen? ⟨g, j, none⟩ = false ∧ cur[j]? = some (.string ⟨(l.getD j []).toArray⟩) := by
  have h1 : (cur.toList.take l.length)[j]? = (l.map encStr)[j]? := by rw [ht]
  rw [List.getElem?_take_of_lt hj, Array.getElem?_toList] at h1
  have h2 : cur[j]? = some (.string ⟨(l.getD j []).toArray⟩) := by rw [h1]; simp [List.getD, hj]
  exact ⟨by rw [cell_of_row _ _ _ _ _ _ hg]; exact h2, frozen_of_row w g j _ _ hg, h2⟩

theorem set_same {cur : Array Value} {j : Nat} {v : Value} (h : cur[j]? = some v) : cur.setIfInBounds j v = cur := by
  apply Array.ext_getElem?
  intro i
  rw [Array.getElem?_setIfInBounds]
  by_cases e : j = i
  · subst e
    obtain ⟨hj, hv⟩ := Array.getElem?_eq_some_iff.1 h
    rw [if_pos rfl, if_pos hj, h]
  · rw [if_neg e]

set_option maxHeartbeats 4000000 in
set_option maxRecDepth 20000 in
theorem impl_rising (B : Nat) (v : Value) (xs : List (List UInt8)) (hl : xs.length ≤ 1000) (hx : ∀ x ∈ xs, x.length ≤ 1000000) (w : World) (ho : ownS w B v xs) :
    Calls Tryz.prog 43 #[v] w fun e w' => ∃ v', e = .returned v' ∧ ownS w' w.heap.size v' (risL xs) ∧ Below w.heap.size w w' := by
  obtain ⟨a, g, cap, rfl, ha, hcell⟩ := ownS_form ho
  clear ho
  by_cases h0 : xs.length = 0
  · have hx0 : xs = [] := List.length_eq_zero_iff.1 h0
    subst hx0
    have HV : Hid (risL [] = []) := by show risL [] = []; simp [risL, Lib.compact, Lib.compactUpTo]
    have HC : Hid (∀ w, Calls Tryz.prog 72 #[.slice a 0 cap] w fun e w' => ∃ a' c', e = .returned (.slice a' 0 c') ∧ ownS w' w.heap.size (.slice a' 0 c') [] ∧ Below w.heap.size w w') := fun w => by
      cases a with
      | none =>
        refine (Tryz.slices_Clone_string_nil 0 cap w).mono ?_
        rintro e w' ⟨rfl, rfl⟩
        exact ⟨none, 0, rfl, ownS_nil, Below.refl _ _⟩
      | some ad =>
        refine (Tryz.slices_Clone_string_zero ad cap w).mono ?_
        rintro e w' ⟨v', rfl, hown, _, hb⟩
        rcases hown.2 with ⟨rfl, _⟩ | ⟨g', cap', cur, rfl, h1, h2, h3, h4, h5, h6⟩
        · exact ⟨none, 0, rfl, ownS_nil, hb⟩
        · exact ⟨_, _, rfl, hown, hb⟩
    have hlen : ([] : List (List UInt8)).length = 0 := rfl
    rw [hlen]
    clear hcell ha hx h0
    go_enter Tryz.func43, Tryz.ntmps43
    go_wp2_with fail
    refine (HC.out w).mono ?_
    rintro e w1 ⟨a1, c1, rfl, ho1, b1⟩
    have HO1 : Hid (ownS w1 w.heap.size (.slice a1 0 c1) []) := ho1
    clear ho1
    go_wp2_with fail
    refine (Tryz.slices_Sort_string_none a1 c1 w1).mono ?_
    rintro e w2 ⟨rfl, rfl⟩
    go_wp2_with fail
    refine (Tryz.slices_Compact_string_empty a1 c1 w2).mono ?_
    rintro e w3 ⟨rfl, rfl⟩
    go_wp2
    go_loopw [14] (fun iv wr => iv = .int .i64 0 ∧ wr = w3) (fun iv _ => 0)
    case atStart => exact ⟨rfl, rfl⟩
    case round =>
      obtain ⟨rfl, rfl⟩ := hrel
      go_wp2
      go_ret
      exact ⟨_, rfl, by rw [HV.out]; exact HO1.out, b1⟩
  · obtain ⟨rfl, hBg, hgl⟩ := ha (by omega)
    have HC : Hid (Calls Tryz.prog 72 #[.slice (some ⟨g, 0, none⟩) xs.length cap] w fun e w' => ∃ g' cap' cur, e = .returned (.slice (some ⟨g', 0, none⟩) xs.length cap') ∧ w.heap.size ≤ g' ∧ w'.heap[g']? = some (.cells cur 9 (0, 0)) ∧ xs.length ≤ cap' ∧ cap' ≤ maxLen ∧ cur.size = cap' ∧ cur.toList.take xs.length = xs.map encStr ∧ Below w.heap.size w w') := by
      refine (Tryz.slices_Clone_string g 0 xs.length cap (xs.map fun x => ⟨x.toArray⟩) w (by simp) (by omega) (fun j hj => ?_)).mono ?_
      · have hj' : j < xs.length := by simpa using hj
        rw [Nat.zero_add, (hcell j hj').1]
        simp [List.getD, hj']
      · rintro e w' ⟨v', rfl, hown, hnn, hb⟩
        have e1 : (((xs.map fun x => (⟨x.toArray⟩ : ByteArray)).take xs.length).map Value.string) = xs.map encStr := by
          rw [List.take_of_length_le (by simp), List.map_map]
          rfl
        rw [e1] at hown
        rcases hown.2 with ⟨h, _⟩ | ⟨g', cap', cur, rfl, h1, h2, h3, h4, h5, h6⟩
        · exact absurd h hnn
        · exact ⟨g', cap', cur, rfl, h1, h2, h3, h4, by omega, by rw [Nat.mul_one] at h6; exact h6, hb⟩
    obtain ⟨ys, hys⟩ : ∃ ys, xs.mergeSort (fun x y => decide (x ≤ y)) = ys := ⟨_, rfl⟩
    have hyl : ys.length = xs.length := by rw [← hys]; simp
    have hym : ∀ x ∈ ys, x.length ≤ 1000000 := fun x h => hx x (by rw [← hys] at h; exact List.mem_mergeSort.1 h)
    obtain ⟨zs, hzs⟩ : ∃ zs, Lib.compact ys = zs := ⟨_, rfl⟩
    have HR : Hid (risL xs = zs) := by show risL xs = zs; rw [risL, hys, hzs]
    have hcm : zs.length ≤ ys.length ∧ ∀ x ∈ zs, x.length ≤ 1000000 := by
      rw [← hzs]
      unfold Lib.compact Lib.compactUpTo
      constructor
      · rw [List.length_map]
        exact Nat.le_trans (List.length_filter_le _ _) (by simp)
      · intro x hx
        rw [List.mem_map] at hx
        obtain ⟨j, hj, rfl⟩ := hx
        have hj' : j < ys.length := by
          have := (List.mem_filter.1 hj).1
          simpa using this
        rw [getElem!_pos _ _ (by simpa using hj')]
        exact hym _ (by simp)
    have HZL : Hid (∀ x ∈ zs, x.length ≤ 1000000) := hcm.2
    have hzl := hcm.1
    have HYS : Hid (xs.mergeSort (fun x y => decide (x ≤ y)) = ys) := hys
    have HZS : Hid (Lib.compact ys = zs) := hzs
    clear hcell ha hx hys hzs hym hcm
    go_enter Tryz.func43, Tryz.ntmps43
    go_wp2_with fail
    refine HC.out.mono ?_
    rintro e w1 ⟨G, C, cur, rfl, hG, hb1, hc1, hc2, hcs, htk, bl1⟩
    have hHold : Holds encStr w1 G 0 xs.toArray := holds_of_block hb1 htk
    have hGl : G < w1.heap.size := (Array.getElem?_eq_some_iff.1 hb1).1
    have HSO : Hid (Calls Tryz.prog 73 #[.slice (some ⟨G, 0, none⟩) xs.length C] w1 fun e w' => e = .returned (.tuple #[]) ∧ ∃ n os, w' = grow (putRow encStr (Sort.ahead w1 n) G 0 (xs.mergeSort fun x y => decide (x ≤ y)).toArray) os) := Tryz.slices_Sort_string G 0 C xs w1 hHold hGl (by omega)
    have HB1 : Hid (w1.heap[G]? = some (.cells cur 9 (0, 0))) := hb1
    clear hHold hb1 htk HC
    go_wp2_with fail
    refine HSO.out.mono ?_
    rintro e w2 ⟨rfl, n2, os2, hw2⟩
    rw [HYS.out] at hw2
    obtain ⟨cur2, hb2, hcs2, htk2⟩ := sorted_block (n := n2) (os := os2) (ts := ys) HB1.out (by omega)
    have hgr2 : w1.grownBy w2 (some G) := by rw [hw2]; exact grownBy_sorted _
    rw [← hw2] at hb2
    have BL2 : Hid (Below w.heap.size w w2) := bl1.grown hgr2 bl1.size (fun q hq => by cases hq; exact hG)
    have HCO : Hid (Calls Tryz.prog 74 #[.slice (some ⟨G, 0, none⟩) xs.length C] w2 fun e w' => e = .returned (.slice (some ⟨G, 0, none⟩) zs.length C) ∧ ∃ q, w' = putRow encStr (Sort.ahead w2 q) G 0 (zs ++ List.replicate (ys.length - zs.length) []).toArray) := by
      have h := Tryz.slices_Compact_string G 0 C ys w2 (holds_of_block hb2 htk2) (by omega) (by omega)
      rw [HZS.out, hyl] at h
      rw [hyl]
      exact h
    have HB2 : Hid (w2.heap[G]? = some (.cells cur2 9 (0, 0))) := hb2
    clear hb2 htk2 hgr2 hw2 HSO HB1 bl1
    go_wp2_with fail
    refine HCO.out.mono ?_
    rintro e w3 ⟨rfl, q3, hw30⟩
    have hw3 : w3 = grow (putRow encStr (Sort.ahead w2 q3) G 0 (zs ++ List.replicate (ys.length - zs.length) []).toArray) #[] := by rw [grow_empty]; exact hw30
    obtain ⟨cur3, hb3, hcs3, htk3⟩ := sorted_block (n := q3) (os := #[]) (ts := zs ++ List.replicate (ys.length - zs.length) []) HB2.out (by simp; omega)
    have hgr3 : w2.grownBy w3 (some G) := by rw [hw3]; exact grownBy_sorted _
    rw [← hw3] at hb3
    have BL3 : Hid (Below w.heap.size w w3) := BL2.out.grown hgr3 BL2.out.size (fun q hq => by cases hq; exact hG)
    have htk4 : cur3.toList.take zs.length = zs.map encStr := by
      have h := congrArg (List.take zs.length) htk3
      rw [List.take_take, List.map_append, List.take_append_of_le_length (by simp), List.take_of_length_le (l := zs.map encStr) (by simp)] at h
      rw [← h]
      congr 1
      simp
    have HTK : Hid (cur3.toList.take zs.length = zs.map encStr) := htk4
    have HB3 : Hid (w3.heap[G]? = some (.cells cur3 9 (0, 0))) := hb3
    have hcap3 : cur3.size = C := by omega
    clear hb3 htk3 htk4 hgr3 hw3 hw30 HCO HB2 BL2
    go_wp2
    go_loopw [14] (fun iv wr => ∃ k : Nat, k ≤ zs.length ∧ iv = .int .i64 k ∧ Hid (wr.heap[G]? = some (.cells cur3 9 (0, 0))) ∧ Below w.heap.size w wr) (fun iv _ => zs.length - (intOf iv).toNat)
    case atStart => exact ⟨0, by omega, rfl, HB3, BL3.out⟩
    case round =>
      obtain ⟨k, hk, rfl, HBk, hb⟩ := hrel
      have hs := hb.size
      by_cases hin : k < zs.length
      · have hin' : (k : Int) < zs.length := by omega
        obtain ⟨ck, fk, uk⟩ := cell_take HBk.out HTK.out k hin
        have hsz : (⟨(zs.getD k []).toArray⟩ : ByteArray).size ≤ 281474976710656 := by
          have := HZL.out (zs.getD k []) (by simp [List.getD, hin])
          show (zs.getD k []).toArray.size ≤ _
          rw [List.size_toArray]
          omega
        generalize (⟨(zs.getD k []).toArray⟩ : ByteArray) = X at *
        have HUK : Hid (cur3[k]? = some (.string X)) := uk
        have HSZ : Hid (X.size ≤ 281474976710656) := hsz
        clear uk hsz
        go_wp2_with fail
        refine (lib_clone X HSZ.out wr).mono ?_
        rintro e w4 ⟨rfl, b4⟩
        have hGr : G < wr.heap.size := (Array.getElem?_eq_some_iff.1 HBk.out).1
        have r4 : w4.heap[G]? = some (.cells cur3 9 (0, 0)) := (b4.block G hGr).trans HBk.out
        obtain ⟨ck4, fk4, _⟩ := cell_take r4 HTK.out k hin
        have B4 : Hid (Below w.heap.size w (w4.setCell ⟨G, k, none⟩ (.string X))) := (hb.trans (b4.mono hs)).setCell (p := ⟨G, k, none⟩) hG _
        have R5 : Hid ((w4.setCell ⟨G, k, none⟩ (.string X)).heap[G]? = some (.cells cur3 9 (0, 0))) := by
          show _ = _
          rw [heap_setCell_same w4 G k cur3 9 (.string X) r4, set_same HUK.out]
        clear ck fk b4 r4 HBk hb
        go_wp2
        go_roundw
        case rel => exact ⟨k + 1, by omega, by go_num, R5, B4.out⟩
        case measure => simp [intOf]; omega
      · have HE : Hid (ownS wr w.heap.size (.slice (some ⟨G, 0, none⟩) zs.length C) (risL xs)) := by
          show ownS wr w.heap.size _ _
          rw [HR.out]
          exact ⟨by simp, Or.inr ⟨G, C, cur3, rfl, hG, HBk.out, by omega, hc2, by omega, by rw [Nat.mul_one]; exact HTK.out⟩⟩
        clear HBk
        go_wp2
        go_ret
        exact ⟨_, rfl, HE.out, hb⟩
end

section
open Go.ChangeShapes Go.WideShapes Go.ChangeAt Go.RowKit

/-- Kids that a kind has not are 0. -/
abbrev KidsNull (a : Nat) (x y z : Int) : Prop := (a < 1 → x = 0) ∧ (a < 2 → y = 0) ∧ (a < 3 → z = 0)

/-- Names are there where the kind has them, and nowhere else. -/
abbrev NamesFit (m : Nat) (s o : ByteArray) : Prop := (m = 0 → s.size = 0) ∧ (0 < m → isNameB s = true) ∧ (m ≤ 1 → o.size = 0) ∧ (1 < m → isNameB o = true)

/-- The number is one that the kind may have. -/
abbrev NumFits (k n : Int) : Prop := (k = 2 → 0 ≤ n ∧ n ≤ 65535) ∧ (k = 8 → 0 ≤ n ∧ n ≤ 3) ∧ (k ≠ 2 → k ≠ 8 → n = 0)

abbrev FieldsOk (t : Nod) : Prop := (1 ≤ t.kind ∧ t.kind ≤ 19) ∧ KidsNull (arN t.kind) t.a t.b t.c ∧ NamesFit (nmN t.kind) t.name t.other ∧ NumFits t.kind t.n

def fieldsB (t : Nod) : Bool := decide (FieldsOk t)

theorem empty_name (s : ByteArray) (h : s.size = 0) : isNameB s = false := by
  have : isWordB s = false := decide_eq_false (fun hw => by omega)
  rw [isNameB, this]
  rfl

theorem size_full (s : ByteArray) (h : ¬ s.size = 0) : s.toList.isEmpty = false := by
  rw [Lib.toList_data, List.isEmpty_eq_false_iff]
  intro e
  have : s.data.toList.length = 0 := by rw [e]; rfl
  rw [Array.length_toList] at this
  exact h this

theorem size_empty (s : ByteArray) (h : s.size = 0) : s.toList.isEmpty = true := by
  rw [Lib.toList_data, List.isEmpty_iff]
  have : s.data.toList.length = 0 := by rw [Array.length_toList]; exact h
  exact List.length_eq_zero_iff.1 this

theorem size_eq (s : ByteArray) (h : s.size = 0) : s = ⟨#[]⟩ := by
  apply data_ext
  have : s.data.toList.length = 0 := by rw [Array.length_toList]; exact h
  rw [List.length_eq_zero_iff.1 this]

set_option maxHeartbeats 8000000 in
set_option maxRecDepth 20000 in
theorem spec_fields (k a b c n : Int) (s o : ByteArray) (hs : s.size ≤ maxLen) (ho : o.size ≤ maxLen) (w : World) :
    Calls Tryz.prog 62 #[.agg #[.int .i64 k, .int .i64 a, .int .i64 b, .int .i64 c, .int .i64 n, .string s, .string o]] w fun e w' =>
      e = .returned (.bool (fieldsB ⟨k, a, b, c, n, s, o⟩)) ∧ Below w.heap.size w w' := by
  have HF : Hid (fieldsB ⟨k, a, b, c, n, s, o⟩ = decide ((1 ≤ k ∧ k ≤ 19) ∧ KidsNull (arN k) a b c ∧ NamesFit (nmN k) s o ∧ NumFits k n)) := rfl
  have hs' : Hid (s.size ≤ maxLen) := hs
  have ho' : Hid (o.size ≤ maxLen) := ho
  clear hs ho
  have hB0 : Below w.heap.size w (w.alloc (.cells #[.int .i64 k, .int .i64 a, .int .i64 b, .int .i64 c, .int .i64 n, .string s, .string o] 38)) := (Below.refl _ w).alloc (Nat.le_refl _) _
  go_enter Tryz.func62, Tryz.ntmps62
  go_wp2_with fail
  refine (word_in _ _ _ _).mono ?_
  rintro e w1 ⟨rfl, rfl⟩
  by_cases hk : 1 ≤ k ∧ k ≤ 19
  · obtain ⟨hk1, hk2⟩ := hk
    have d1 : (decide (1 ≤ k) && decide (k ≤ 19)) = true := by rw [decide_eq_true hk1, decide_eq_true hk2]; rfl
    rw [d1]
    have HK : Hid (1 ≤ k ∧ k ≤ 19) := ⟨hk1, hk2⟩
    clear d1 hk1 hk2
    go_wp2_with fail
    refine (spec_arity k _).mono ?_
    rintro e w2 ⟨rfl, rfl⟩
    have har := arN_le k
    generalize arN k = ar at *
    go_upto_region 4 with fail
    go_cut [36] from 12 to 36 (fun v wx => v = .bool (decide (¬ KidsNull ar a b c)) ∧ wx = w.alloc (.cells #[.int .i64 k, .int .i64 a, .int .i64 b, .int .i64 c, .int .i64 n, .string s, .string o] 38))
    case first =>
      rcases (by omega : ar = 0 ∨ ar = 1 ∨ ar = 2 ∨ ar = 3) with rfl | rfl | rfl | rfl
      · by_cases za : a = 0
        · have na : (a != 0) = false := by simpa using za
          have Za : Hid (a = 0) := za
          clear za
          by_cases zb : b = 0
          · have nb : (b != 0) = false := by simpa using zb
            have Zb : Hid (b = 0) := zb
            clear zb
            by_cases zc : c = 0
            · have nc : (c != 0) = false := by simpa using zc
              have Zc : Hid (c = 0) := zc
              clear zc
              go_wp2
              go_meet
              exact ⟨by rw [decide_eq_false]; exact fun h => h ⟨fun _ => Za.out, fun _ => Zb.out, fun _ => Zc.out⟩, rfl⟩
            · have nc : (c != 0) = true := by simpa using zc
              go_wp2
              go_meet
              exact ⟨by rw [decide_eq_true]; exact fun h => zc (h.2.2 (by omega)), rfl⟩
          · have nb : (b != 0) = true := by simpa using zb
            go_wp2
            go_meet
            exact ⟨by rw [decide_eq_true]; exact fun h => zb (h.2.1 (by omega)), rfl⟩
        · have na : (a != 0) = true := by simpa using za
          go_wp2
          go_meet
          exact ⟨by rw [decide_eq_true]; exact fun h => za (h.1 (by omega)), rfl⟩
      · by_cases zb : b = 0
        · have nb : (b != 0) = false := by simpa using zb
          have Zb : Hid (b = 0) := zb
          clear zb
          by_cases zc : c = 0
          · have nc : (c != 0) = false := by simpa using zc
            have Zc : Hid (c = 0) := zc
            clear zc
            go_wp2
            go_meet
            exact ⟨by rw [decide_eq_false]; exact fun h => h ⟨fun h => by omega, fun _ => Zb.out, fun _ => Zc.out⟩, rfl⟩
          · have nc : (c != 0) = true := by simpa using zc
            go_wp2
            go_meet
            exact ⟨by rw [decide_eq_true]; exact fun h => zc (h.2.2 (by omega)), rfl⟩
        · have nb : (b != 0) = true := by simpa using zb
          go_wp2
          go_meet
          exact ⟨by rw [decide_eq_true]; exact fun h => zb (h.2.1 (by omega)), rfl⟩
      · by_cases zc : c = 0
        · have nc : (c != 0) = false := by simpa using zc
          have Zc : Hid (c = 0) := zc
          clear zc
          go_wp2
          go_meet
          exact ⟨by rw [decide_eq_false]; exact fun h => h ⟨fun h => by omega, fun h => by omega, fun _ => Zc.out⟩, rfl⟩
        · have nc : (c != 0) = true := by simpa using zc
          go_wp2
          go_meet
          exact ⟨by rw [decide_eq_true]; exact fun h => zc (h.2.2 (by omega)), rfl⟩
      · go_wp2
        go_meet
        exact ⟨by rw [decide_eq_false]; exact fun h => h ⟨fun h => by omega, fun h => by omega, fun h => by omega⟩, rfl⟩
    case rest =>
      obtain ⟨rfl, rfl⟩ := hcut
      by_cases hkn : KidsNull ar a b c
      · have d2 : decide (¬ KidsNull ar a b c) = false := decide_eq_false (fun h => h hkn)
        have HN : Hid (KidsNull ar a b c) := hkn
        clear hkn
        rw [d2]
        clear d2
        go_wp2_with fail
        refine (spec_names k _).mono ?_
        rintro e w3 ⟨rfl, rfl⟩
        have hnm := nmN_le k
        generalize nmN k = m at *
        go_upto_region 7 with fail
        go_cut [71] from 40 to 71 (fun v wx => v = .bool (decide (¬ NamesFit m s o)) ∧ Below w.heap.size w wx ∧ Below (w.heap.size + 1) (w.alloc (.cells #[.int .i64 k, .int .i64 a, .int .i64 b, .int .i64 c, .int .i64 n, .string s, .string o] 38)) wx)
        case first =>
          go_wp2_with fail
          refine (spec_name s hs'.out _).mono ?_
          rintro e w4 ⟨rfl, hb4⟩
          have hb4' : Below (w.heap.size + 1) (w.alloc (.cells #[.int .i64 k, .int .i64 a, .int .i64 b, .int .i64 c, .int .i64 n, .string s, .string o] 38)) w4 := by simpa using hb4
          have q5 : w4.cell? ⟨w.heap.size, 5, none⟩ = some (.string s) := (World.cell?_of_block (hb4'.block w.heap.size (by omega))).trans (by simp)
          have q6 : w4.cell? ⟨w.heap.size, 6, none⟩ = some (.string o) := (World.cell?_of_block (hb4'.block w.heap.size (by omega))).trans (by simp)
          have B4 : Hid (Below w.heap.size w w4) := hB0.trans (hb4'.mono (by omega))
          have B4' : Hid (Below (w.heap.size + 1) (w.alloc (.cells #[.int .i64 k, .int .i64 a, .int .i64 b, .int .i64 c, .int .i64 n, .string s, .string o] 38)) w4) := hb4'
          have s4 := hb4'.size
          simp only [World.size_alloc] at s4
          clear hb4 hb4'
          rcases (by omega : m = 0 ∨ m = 1 ∨ m = 2) with rfl | rfl | rfl
          · cases hp : isNameB s with
            | true =>
              have HP : Hid (isNameB s = true) := hp
              clear hp
              go_wp2
              go_meet
              exact ⟨(by rw [decide_eq_true]; exact fun h => by have e := empty_name s (h.1 rfl); rw [HP.out] at e; cases e), B4.out, B4'.out⟩
            | false =>
              clear hp
              by_cases zs : s.size = 0
              · have es := size_empty s zs
                have ZS : Hid (s.size = 0) := zs
                clear zs
                go_wp2_with fail
                refine (spec_name o ho'.out _).mono ?_
                rintro e w5 ⟨rfl, hb5⟩
                have p6 := (World.cell?_of_block (hb5.block w.heap.size (by omega))).trans q6
                have B5 : Hid (Below w.heap.size w w5) := B4.out.trans (hb5.mono (by omega))
                have B5' : Hid (Below (w.heap.size + 1) (w.alloc (.cells #[.int .i64 k, .int .i64 a, .int .i64 b, .int .i64 c, .int .i64 n, .string s, .string o] 38)) w5) := B4'.out.trans (hb5.mono (by omega))
                clear hb5 q5 q6
                cases hq : isNameB o with
                | true =>
                  have HQ : Hid (isNameB o = true) := hq
                  clear hq
                  go_wp2
                  go_meet
                  exact ⟨(by rw [decide_eq_true]; exact fun h => by have e := empty_name o (h.2.2.1 (by omega)); rw [HQ.out] at e; cases e), B5.out, B5'.out⟩
                | false =>
                  clear hq
                  by_cases zo : o.size = 0
                  · have eo := size_empty o zo
                    have ZO : Hid (o.size = 0) := zo
                    clear zo
                    go_wp2
                    go_meet
                    exact ⟨(by rw [decide_eq_false]; exact fun h => h ⟨fun _ => ZS.out, fun h => by omega, fun _ => ZO.out, fun h => by omega⟩), B5.out, B5'.out⟩
                  · have eo := size_full o zo
                    have ZO : Hid (¬ o.size = 0) := zo
                    clear zo
                    go_wp2
                    go_meet
                    exact ⟨(by rw [decide_eq_true]; exact fun h => ZO.out (h.2.2.1 (by omega))), B5.out, B5'.out⟩
              · have es := size_full s zs
                have ZS : Hid (¬ s.size = 0) := zs
                clear zs
                go_wp2
                go_meet
                exact ⟨(by rw [decide_eq_true]; exact fun h => ZS.out (h.1 rfl)), B4.out, B4'.out⟩
          · cases hp : isNameB s with
            | false =>
              have HP : Hid (isNameB s = false) := hp
              clear hp
              go_wp2
              go_meet
              exact ⟨(by rw [decide_eq_true]; exact fun h => by have e := h.2.1 (by omega); rw [HP.out] at e; cases e), B4.out, B4'.out⟩
            | true =>
              have HP : Hid (isNameB s = true) := hp
              clear hp
              go_wp2_with fail
              refine (spec_name o ho'.out _).mono ?_
              rintro e w5 ⟨rfl, hb5⟩
              have p6 := (World.cell?_of_block (hb5.block w.heap.size (by omega))).trans q6
              have B5 : Hid (Below w.heap.size w w5) := B4.out.trans (hb5.mono (by omega))
              have B5' : Hid (Below (w.heap.size + 1) (w.alloc (.cells #[.int .i64 k, .int .i64 a, .int .i64 b, .int .i64 c, .int .i64 n, .string s, .string o] 38)) w5) := B4'.out.trans (hb5.mono (by omega))
              clear hb5 q5 q6
              cases hq : isNameB o with
              | true =>
                have HQ : Hid (isNameB o = true) := hq
                clear hq
                go_wp2
                go_meet
                exact ⟨(by rw [decide_eq_true]; exact fun h => by have e := empty_name o (h.2.2.1 (by omega)); rw [HQ.out] at e; cases e), B5.out, B5'.out⟩
              | false =>
                clear hq
                by_cases zo : o.size = 0
                · have eo := size_empty o zo
                  have ZO : Hid (o.size = 0) := zo
                  clear zo
                  go_wp2
                  go_meet
                  exact ⟨(by rw [decide_eq_false]; exact fun h => h ⟨fun h => by omega, fun _ => HP.out, fun _ => ZO.out, fun h => by omega⟩), B5.out, B5'.out⟩
                · have eo := size_full o zo
                  have ZO : Hid (¬ o.size = 0) := zo
                  clear zo
                  go_wp2
                  go_meet
                  exact ⟨(by rw [decide_eq_true]; exact fun h => ZO.out (h.2.2.1 (by omega))), B5.out, B5'.out⟩
          · cases hp : isNameB s with
            | false =>
              have HP : Hid (isNameB s = false) := hp
              clear hp
              go_wp2
              go_meet
              exact ⟨(by rw [decide_eq_true]; exact fun h => by have e := h.2.1 (by omega); rw [HP.out] at e; cases e), B4.out, B4'.out⟩
            | true =>
              have HP : Hid (isNameB s = true) := hp
              clear hp
              go_wp2_with fail
              refine (spec_name o ho'.out _).mono ?_
              rintro e w5 ⟨rfl, hb5⟩
              have p6 := (World.cell?_of_block (hb5.block w.heap.size (by omega))).trans q6
              have B5 : Hid (Below w.heap.size w w5) := B4.out.trans (hb5.mono (by omega))
              have B5' : Hid (Below (w.heap.size + 1) (w.alloc (.cells #[.int .i64 k, .int .i64 a, .int .i64 b, .int .i64 c, .int .i64 n, .string s, .string o] 38)) w5) := B4'.out.trans (hb5.mono (by omega))
              clear hb5 q5 q6
              cases hq : isNameB o with
              | false =>
                have HQ : Hid (isNameB o = false) := hq
                clear hq
                go_wp2
                go_meet
                exact ⟨(by rw [decide_eq_true]; exact fun h => by have e := h.2.2.2 (by omega); rw [HQ.out] at e; cases e), B5.out, B5'.out⟩
              | true =>
                have HQ : Hid (isNameB o = true) := hq
                clear hq
                go_wp2
                go_meet
                exact ⟨(by rw [decide_eq_false]; exact fun h => h ⟨fun h => by omega, fun _ => HP.out, fun h => by omega, fun _ => HQ.out⟩), B5.out, B5'.out⟩
        case rest =>
          obtain ⟨rfl, hb6, hb6'⟩ := hcut
          have q0 : wc.cell? ⟨w.heap.size, 0, none⟩ = some (.int .i64 k) := (World.cell?_of_block (hb6'.block w.heap.size (by omega))).trans (by simp)
          have q4 : wc.cell? ⟨w.heap.size, 4, none⟩ = some (.int .i64 n) := (World.cell?_of_block (hb6'.block w.heap.size (by omega))).trans (by simp)
          have B6 : Hid (Below w.heap.size w wc) := hb6
          clear hb6 hb6'
          by_cases hnf : NamesFit m s o
          · have d3 : decide (¬ NamesFit m s o) = false := decide_eq_false (fun h => h hnf)
            have HM : Hid (NamesFit m s o) := hnf
            clear hnf
            rw [d3]
            clear d3
            have HV : Hid (fieldsB ⟨k, a, b, c, n, s, o⟩ = decide (NumFits k n)) := by
              show fieldsB ⟨k, a, b, c, n, s, o⟩ = decide (NumFits k n)
              rw [HF.out, decide_eq_decide]
              exact ⟨fun h => h.2.2.2, fun h => ⟨HK.out, HN.out, HM.out, h⟩⟩
            clear HF HK HN HM
            by_cases h2 : k = 2
            · subst h2
              have e2 : decide (NumFits 2 n) = (decide (0 ≤ n) && decide (n ≤ 65535)) := by
                rw [← Bool.decide_and, decide_eq_decide]
                exact ⟨fun h => h.1 rfl, fun h => ⟨fun _ => h, fun h => by omega, fun h => absurd rfl h⟩⟩
              rw [e2] at HV
              clear e2
              go_wp2_with fail
              refine (word_in _ _ _ _).mono ?_
              rintro e w7 ⟨rfl, rfl⟩
              go_wp2
              go_ret
              exact ⟨by rw [HV.out]; rfl, B6.out⟩
            · by_cases h8 : k = 8
              · subst h8
                have e8 : decide (NumFits 8 n) = (decide (0 ≤ n) && decide (n ≤ 3)) := by
                  rw [← Bool.decide_and, decide_eq_decide]
                  exact ⟨fun h => h.2.1 rfl, fun h => ⟨fun h => by omega, fun _ => h, fun _ h => absurd rfl h⟩⟩
                rw [e8] at HV
                clear e8
                go_wp2_with fail
                refine (word_in _ _ _ _).mono ?_
                rintro e w7 ⟨rfl, rfl⟩
                go_wp2
                go_ret
                exact ⟨by rw [HV.out]; rfl, B6.out⟩
              · have n2 : (k == 2) = false := by simpa using h2
                have n8 : (k == 8) = false := by simpa using h8
                have e0 : decide (NumFits k n) = (n == 0) := by
                  by_cases hn : n = 0
                  · rw [decide_eq_true (⟨fun h => absurd h h2, fun h => absurd h h8, fun _ _ => hn⟩)]
                    simp [hn]
                  · rw [decide_eq_false (fun h => hn (h.2.2 h2 h8))]
                    simp [hn]
                rw [e0] at HV
                clear e0 h2 h8
                go_wp2
                go_ret
                exact ⟨by rw [HV.out]; rfl, B6.out⟩
          · have d3 : decide (¬ NamesFit m s o) = true := decide_eq_true hnf
            rw [d3]
            have hv : Hid (fieldsB ⟨k, a, b, c, n, s, o⟩ = false) := by
              show fieldsB ⟨k, a, b, c, n, s, o⟩ = false
              rw [HF.out]
              exact decide_eq_false (fun h => hnf h.2.2.1)
            clear HF hnf d3
            go_wp2
            go_ret
            exact ⟨by rw [hv.out]; rfl, B6.out⟩
      · have d2 : decide (¬ KidsNull ar a b c) = true := decide_eq_true hkn
        rw [d2]
        have hv : Hid (fieldsB ⟨k, a, b, c, n, s, o⟩ = false) := by
          show fieldsB ⟨k, a, b, c, n, s, o⟩ = false
          rw [HF.out]
          exact decide_eq_false (fun h => hkn h.2.1)
        clear HF hkn d2
        go_wp2
        go_ret
        exact ⟨by rw [hv.out]; rfl, hB0⟩
  · have d1 : (decide (1 ≤ k) && decide (k ≤ 19)) = false := by rw [← Bool.decide_and]; exact decide_eq_false hk
    rw [d1]
    have hv : Hid (fieldsB ⟨k, a, b, c, n, s, o⟩ = false) := by
      show fieldsB ⟨k, a, b, c, n, s, o⟩ = false
      rw [HF.out]
      exact decide_eq_false (fun h => hk h.1)
    clear HF hk d1
    go_wp2
    go_ret
    exact ⟨by rw [hv.out]; rfl, hB0⟩
end

section
open Go.ChangeShapes Go.WideShapes Go.ChangeAt Go.RowKit

def kidL (t : Nod) : List Int := [t.a, t.b, t.c].take (arN t.kind)

/-- From the last kid to the first: each stands just ahead of where the next one's part begins. -/
def down (st : List Int) : List Int → Int → Option Int
  | [], at0 => some at0
  | c :: cs, at0 => if c = at0 - 1 ∧ 0 ≤ c then down st cs (st.getD c.toNat 0) else none

/-- Where the part of node i begins, if the nodes ahead of it begin there. -/
def stepS (t : Nod) (i : Nat) (st : List Int) : Option Int := if fieldsB t = true then down st (kidL t).reverse i else none

/-- Where the parts of the first k nodes begin; none where they do not lie as they should. -/
def startsF (ts : List Nod) : Nat → Option (List Int)
  | 0 => some []
  | k + 1 => (startsF ts k).bind fun st => (stepS (ts.getD k noNod) k st).map fun a => st ++ [a]

theorem down_range {st : List Int} {i : Nat} (hl : st.length = i) (hst : ∀ j, j < i → 0 ≤ st.getD j 0 ∧ st.getD j 0 ≤ j) : ∀ (cs : List Int) (p r : Int), 0 ≤ p → p ≤ i → down st cs p = some r → 0 ≤ r ∧ r ≤ i
  | [], p, r, h0, h1, h => by simp only [down, Option.some.injEq] at h; omega
  | c :: cs, p, r, h0, h1, h => by
    simp only [down] at h
    split at h
    · rename_i hc
      have hj := hst c.toNat (by omega)
      exact down_range hl hst cs _ r hj.1 (by omega) h
    · cases h

theorem startsF_range (ts : List Nod) : ∀ (k : Nat) (st : List Int), startsF ts k = some st → st.length = k ∧ ∀ j, j < k → 0 ≤ st.getD j 0 ∧ st.getD j 0 ≤ j
  | 0, st, h => by
    simp only [startsF, Option.some.injEq] at h
    subst h
    exact ⟨rfl, fun j hj => by omega⟩
  | k + 1, st, h => by
    simp only [startsF] at h
    obtain ⟨s0, h0, h1⟩ := Option.bind_eq_some_iff.1 h
    obtain ⟨a, ha, rfl⟩ := Option.map_eq_some_iff.1 h1
    obtain ⟨hl, hr⟩ := startsF_range ts k s0 h0
    have hb : 0 ≤ a ∧ a ≤ k := by
      unfold stepS at ha
      split at ha
      · exact down_range hl hr _ _ a (by omega) (by omega) ha
      · cases ha
    refine ⟨by simp [hl], fun j hj => ?_⟩
    by_cases hjk : j < k
    · have : (s0 ++ [a]).getD j 0 = s0.getD j 0 := by simp [List.getD, List.getElem?_append_left (show j < s0.length by omega)]
      rw [this]
      exact hr j hjk
    · obtain rfl : j = k := by omega
      have : (s0 ++ [a]).getD j 0 = a := by subst hl; simp [List.getD]
      rw [this]
      omega

theorem startsF_none (ts : List Nod) : ∀ (k m : Nat), k ≤ m → startsF ts k = none → startsF ts m = none
  | k, 0, h, h0 => by
    obtain rfl : k = 0 := by omega
    exact h0
  | k, m + 1, h, h0 => by
    rcases Nat.lt_or_eq_of_le h with hl | rfl
    · simp only [startsF]
      rw [startsF_none ts k m (Nat.le_of_lt_succ hl) h0]
      rfl
    · exact h0

/-- A slice of the call's own holds these numbers. -/
abbrev ownI (w : World) (base : Nat) (v : Value) (st : List Int) : Prop := w.ownsRow base 3 1 v st.length (st.map (Value.int .i64))

theorem info_int : (Tryz.prog.info? 3).map (fun i => (i.zero, i.size, i.bytes)) = some (some (.int .i64 0), 1, 8) := by kernel_rfl

theorem ownI_kept {w w' : World} {B N : Nat} {v : Value} {st : List Int} (h : ownI w B v st) (hb : Below N w w') (hN : w.heap.size ≤ N) : ownI w' B v st := by
  refine ⟨h.1, ?_⟩
  rcases h.2 with h0 | ⟨g, cap, cur, hv, hbg, hg, rest⟩
  · exact .inl h0
  · refine .inr ⟨g, cap, cur, hv, hbg, ?_, rest⟩
    have hlt : g < w.heap.size := (Array.getElem?_eq_some_iff.1 hg).1
    rw [hb.block g (by omega)]
    exact hg

theorem ownI_empty {w : World} {B : Nat} (hB : B ≤ w.heap.size) : ownI (w.alloc (.cells #[] 3)) B (.slice (some ⟨w.heap.size, 0, none⟩) 0 0) [] :=
  World.ownsRow_lit w #[] 0 hB (by omega) rfl

theorem ownI_next {w : World} {B : Nat} {v : Value} {st : List Int} {m : Nat} {xs : List Value} (a : Int) (h : w.ownsRow B 3 1 v m xs) (hn : m = st.length + 1) (hx : xs = st.map (Value.int .i64) ++ [.int .i64 a]) : ownI w B v (st ++ [a]) := by
  subst hn hx
  show w.ownsRow B 3 1 v (st ++ [a]).length ((st ++ [a]).map (Value.int .i64))
  rw [List.length_append, List.map_append]
  simpa using h

/-- The form of a slice of numbers that is not empty. -/
theorem ownI_form {w : World} {B : Nat} {v : Value} {st : List Int} (h : ownI w B v st) (h0 : 0 < st.length) :
    ∃ (g cap : Nat), v = .slice (some ⟨g, 0, none⟩) st.length cap ∧ B ≤ g ∧ g < w.heap.size ∧ ∀ j, j < st.length → w.cell? ⟨g, j, none⟩ = some (.int .i64 (st.getD j 0)) := by
  rcases h.2 with ⟨_, hz⟩ | ⟨g, cap, cur, rfl, hb, hg, hn, hm, hs, ht⟩
  · omega
  · refine ⟨g, cap, rfl, hb, (Array.getElem?_eq_some_iff.1 hg).1, fun j hj => ?_⟩
    rw [h.cellAt j (by omega)]
    simp [List.getD, List.getElem?_eq_getElem hj]

theorem ar_name : (Tryz.f86.name == "runtime.NumGoroutine") = false := by kernel_rfl
theorem ar_body : Tryz.f86.body.isNone = false := by kernel_rfl

set_option maxHeartbeats 1000000 in
set_option maxRecDepth 20000 in
theorem spec_kids (k a b c n : Int) (s o : ByteArray) (w : World) :
    Calls Tryz.prog 63 #[.agg #[.int .i64 k, .int .i64 a, .int .i64 b, .int .i64 c, .int .i64 n, .string s, .string o]] w fun e w' =>
      e = .returned (.slice (some ⟨w.heap.size + 1, 0, none⟩) (arN k) 3) ∧ w'.heap[w.heap.size + 1]? = some (.cells #[.int .i64 a, .int .i64 b, .int .i64 c] 3 (0, 0)) ∧ Below w.heap.size w w' := by
  have har := arN_le k
  have har' : (arN k : Int) ≤ 3 := by omega
  have har0 : (0 : Int) ≤ (arN k : Int) := by omega
  go_enter Tryz.func63, Tryz.ntmps63
  go_wp2
  go_region_held3 (fun w' => w'.cell? ⟨w.heap.size, 0, none⟩ = some (.int .i64 k) ∧ w'.cell? ⟨w.heap.size, 1, none⟩ = some (.int .i64 a) ∧ w'.cell? ⟨w.heap.size, 2, none⟩ = some (.int .i64 b) ∧ w'.cell? ⟨w.heap.size, 3, none⟩ = some (.int .i64 c)) (go_keep)
    (first | (go_at_call 86; refine (spec_arity k _).mono ?_; rintro e w' ⟨rfl, rfl⟩))
  all_goals go_wp2
  all_goals go_ret
  all_goals exact ⟨rfl, heap_alloc2_new _ _ _, (((Below.refl _ w).alloc (Nat.le_refl _) _).alloc (by simp) _).drew⟩
end

section
open Go.ChangeShapes Go.WideShapes Go.ChangeAt Go.RowKit

theorem down_app (st : List Int) (a : Int) (hr : ∀ j, j < st.length → 0 ≤ st.getD j 0 ∧ st.getD j 0 ≤ j) : ∀ (cs : List Int) (p : Int), p ≤ st.length → down (st ++ [a]) cs p = down st cs p
  | [], p, h => rfl
  | c :: cs, p, h => by
    simp only [down]
    by_cases hc : c = p - 1 ∧ 0 ≤ c
    · have hl : c.toNat < st.length := by omega
      have e : (st ++ [a]).getD c.toNat 0 = st.getD c.toNat 0 := by
        simp only [List.getD]
        rw [List.getElem?_append_left hl]
      have hh := hr c.toNat hl
      rw [if_pos hc, if_pos hc, e]
      exact down_app st a hr cs _ (by omega)
    · rw [if_neg hc, if_neg hc]

theorem starts_at (ts : List Nod) : ∀ (k : Nat) (st : List Int), startsF ts k = some st → ∀ j, j < k → fieldsB (ts.getD j noNod) = true ∧ down st (kidL (ts.getD j noNod)).reverse j = some (st.getD j 0)
  | 0, st, h, j, hj => by omega
  | k + 1, st, h, j, hj => by
    simp only [startsF] at h
    obtain ⟨s0, h0, h1⟩ := Option.bind_eq_some_iff.1 h
    obtain ⟨a, ha, rfl⟩ := Option.map_eq_some_iff.1 h1
    obtain ⟨hl, hr⟩ := startsF_range ts k s0 h0
    have hr' : ∀ j, j < s0.length → 0 ≤ s0.getD j 0 ∧ s0.getD j 0 ≤ j := fun j hj => hr j (by omega)
    by_cases hjk : j < k
    · obtain ⟨hf, hd⟩ := starts_at ts k s0 h0 j hjk
      refine ⟨hf, ?_⟩
      have e : (s0 ++ [a]).getD j 0 = s0.getD j 0 := by
        simp only [List.getD]
        rw [List.getElem?_append_left (by omega)]
      rw [down_app s0 a hr' _ _ (by omega), e]
      exact hd
    · obtain rfl : j = k := by omega
      unfold stepS at ha
      split at ha
      · rename_i hf
        refine ⟨hf, ?_⟩
        have e : (s0 ++ [a]).getD j 0 = a := by subst hl; simp [List.getD]
        rw [down_app s0 a hr' _ _ (by omega), e]
        exact ha
      · cases ha

theorem fields_small {t : Nod} (h : fieldsB t = true) : t.name.size ≤ 8 ∧ t.other.size ≤ 8 := by
  have hf : FieldsOk t := of_decide_eq_true h
  obtain ⟨_, _, ⟨h1, h2, h3, h4⟩, _⟩ := hf
  have hw : ∀ s : ByteArray, isNameB s = true → s.size ≤ 8 := fun s hs => by
    have := (Bool.and_eq_true_iff.1 hs).1
    have := of_decide_eq_true this
    exact this.2.1
  constructor
  · by_cases hz : nmN t.kind = 0
    · have := h1 hz; omega
    · exact hw _ (h2 (by omega))
  · by_cases hz : nmN t.kind ≤ 1
    · have := h3 hz; omega
    · exact hw _ (h4 (by omega))

theorem cut_split (ts : List Nod) (s p e : Nat) (h1 : s ≤ p) (h2 : p ≤ e) (h3 : e ≤ ts.length) : (ts.take e).drop s = (ts.take p).drop s ++ (ts.take e).drop p := by
  have e1 : ts.take e = ts.take p ++ (ts.take e).drop p := by
    have h := (List.take_append_drop p (ts.take e)).symm
    rw [List.take_take, Nat.min_eq_left h2] at h
    exact h
  have hl : (ts.take p).length = p := by simp; omega
  conv => lhs; rw [e1]
  rw [List.drop_append_of_le_length (by omega)]

theorem cut_one (ts : List Nod) (j : Nat) (h : j < ts.length) : (ts.take (j + 1)).drop j = [ts.getD j noNod] := by
  rw [List.take_succ_eq_append_getElem h, List.drop_append_of_le_length (by simp; omega)]
  simp [List.getD, List.getElem?_eq_getElem h]

theorem cut_length (ts : List Nod) (s e : Nat) (h1 : s ≤ e) (h3 : e ≤ ts.length) : ((ts.take e).drop s).length = e - s := by
  simp
  omega

theorem kidL_0 {t : Nod} (h : arN t.kind = 0) : kidL t = [] := by unfold kidL; rw [h]; rfl
theorem kidL_1 {t : Nod} (h : arN t.kind = 1) : kidL t = [t.a] := by unfold kidL; rw [h]; rfl
theorem kidL_2 {t : Nod} (h : arN t.kind = 2) : kidL t = [t.a, t.b] := by unfold kidL; rw [h]; rfl
theorem kidL_3 {t : Nod} (h : arN t.kind = 3) : kidL t = [t.a, t.b, t.c] := by unfold kidL; rw [h]; rfl

theorem down_one {st : List Int} {c p r : Int} {cs : List Int} (h : down st (c :: cs) p = some r) : c = p - 1 ∧ 0 ≤ c ∧ down st cs (st.getD c.toNat 0) = some r := by
  simp only [down] at h
  split at h
  · rename_i hc
    exact ⟨hc.1, hc.2, h⟩
  · cases h

theorem down_nil {st : List Int} {p r : Int} (h : down st [] p = some r) : p = r := by
  simpa only [down, Option.some.injEq] using h

/-- Nodes that lie as they should, with where their parts begin. -/
def Right (ts : List Nod) (st : List Nat) : Prop := ts.length ≤ 1000 ∧ ∀ j, j < ts.length → FieldsOk (ts.getD j noNod) ∧ st.getD j 0 ≤ j ∧
  (arN (ts.getD j noNod).kind = 0 → st.getD j 0 = j) ∧
  (arN (ts.getD j noNod).kind = 1 → ∃ a : Nat, (ts.getD j noNod).a = a ∧ a + 1 = j ∧ st.getD a 0 = st.getD j 0) ∧
  (arN (ts.getD j noNod).kind = 2 → ∃ a b : Nat, (ts.getD j noNod).a = a ∧ (ts.getD j noNod).b = b ∧ b + 1 = j ∧ a + 1 = st.getD b 0 ∧ st.getD a 0 = st.getD j 0) ∧
  (arN (ts.getD j noNod).kind = 3 → ∃ a b c : Nat, (ts.getD j noNod).a = a ∧ (ts.getD j noNod).b = b ∧ (ts.getD j noNod).c = c ∧ c + 1 = j ∧ b + 1 = st.getD c 0 ∧ a + 1 = st.getD b 0 ∧ st.getD a 0 = st.getD j 0)

theorem getD_nat (st : List Int) (j : Nat) : (st.map Int.toNat).getD j 0 = (st.getD j 0).toNat := by
  simp only [List.getD, List.getElem?_map]
  cases st[j]? <;> rfl

theorem right_of {ts : List Nod} {st : List Int} (hl : ts.length ≤ 1000) (h : startsF ts ts.length = some st) : Right ts (st.map Int.toNat) := by
  obtain ⟨hlen, hr⟩ := startsF_range ts ts.length st h
  refine ⟨hl, fun j hj => ?_⟩
  obtain ⟨hf, hd⟩ := starts_at ts ts.length st h j hj
  have hF : FieldsOk (ts.getD j noNod) := of_decide_eq_true hf
  have hj2 := hr j hj
  simp only [getD_nat]
  refine ⟨hF, by omega, fun e => ?_, fun e => ?_, fun e => ?_, fun e => ?_⟩
  · rw [kidL_0 e] at hd
    have := down_nil hd
    omega
  · rw [kidL_1 e] at hd
    obtain ⟨a1, a2, a3⟩ := down_one hd
    have := down_nil a3
    refine ⟨(ts.getD j noNod).a.toNat, by omega, by omega, ?_⟩
    rw [this]
  · rw [kidL_2 e] at hd
    obtain ⟨a1, a2, a3⟩ := down_one hd
    obtain ⟨b1, b2, b3⟩ := down_one a3
    have := down_nil b3
    have := hr (ts.getD j noNod).b.toNat (by omega)
    refine ⟨(ts.getD j noNod).a.toNat, (ts.getD j noNod).b.toNat, by omega, by omega, by omega, by omega, ?_⟩
    omega
  · rw [kidL_3 e] at hd
    obtain ⟨a1, a2, a3⟩ := down_one hd
    obtain ⟨b1, b2, b3⟩ := down_one a3
    obtain ⟨c1, c2, c3⟩ := down_one b3
    have := down_nil c3
    have := hr (ts.getD j noNod).c.toNat (by omega)
    have := hr (ts.getD j noNod).b.toNat (by omega)
    refine ⟨(ts.getD j noNod).a.toNat, (ts.getD j noNod).b.toNat, (ts.getD j noNod).c.toNat, by omega, by omega, by omega, by omega, by omega, by omega, ?_⟩
    omega
end

section
open Go.ChangeShapes Go.WideShapes Go.ChangeAt Go.RowKit

/-- What a call of l3Starts ends with. -/
def StEnd (ts : List Nod) (B : Nat) (e : Ending) (w : World) : Prop :=
  (∃ st v, startsF ts ts.length = some st ∧ ownI w B v st ∧ e = .returned (.tuple #[v, .bool true])) ∨
  (∃ v, startsF ts ts.length = none ∧ e = .returned (.tuple #[v, .bool false]))

/-- The state of the loop over the nodes. -/
def SAt (ts : List Nod) (w : World) (g : Nat) (out pl : Value) (wr : World) : Prop :=
  ∃ (i : Nat) (st : List Int), pl = .int .i64 i ∧ i + g = ts.length ∧ startsF ts i = some st ∧ ownI wr w.heap.size out st ∧ Below w.heap.size w wr

theorem take_last (t : Nod) (k : Nat) (h : k < (kidL t).length) : ((kidL t).take (k + 1)).reverse = (kidL t).getD k 0 :: ((kidL t).take k).reverse := by
  rw [List.take_succ_eq_append_getElem h, List.reverse_append]
  simp [List.getD, List.getElem?_eq_getElem h]

theorem kidL_length (t : Nod) : (kidL t).length = arN t.kind := by
  have := arN_le t.kind
  simp [kidL]
  omega

theorem kid_cell {w : World} {g : Nat} {t : Nod} {e : TypeId} (h : w.heap[g]? = some (.cells #[.int .i64 t.a, .int .i64 t.b, .int .i64 t.c] e (0, 0))) (k : Nat) (hk : k < (kidL t).length) : w.cell? ⟨g, k, none⟩ = some (.int .i64 ((kidL t).getD k 0)) := by
  have h3 := arN_le t.kind
  have hl := kidL_length t
  rw [cell_of_row w _ _ _ _ _ h]
  have e1 : (kidL t).getD k 0 = [t.a, t.b, t.c].getD k 0 := by
    simp only [kidL, List.getD]
    rw [List.getElem?_take_of_lt (by omega)]
  rw [e1]
  rcases (by omega : k = 0 ∨ k = 1 ∨ k = 2) with rfl | rfl | rfl <;> rfl

set_option maxHeartbeats 4000000 in
set_option maxRecDepth 20000 in
theorem spec_starts (a : Option Addr) (g cap : Nat) (ts : List Nod) (hne : 0 < ts.length → a = some ⟨g, 0, none⟩) (hl : ts.length ≤ 1000)
    (hst : ∀ i, i < ts.length → (ts.getD i noNod).name.size ≤ maxLen ∧ (ts.getD i noNod).other.size ≤ maxLen) (w : World) (hA : NodAt w g ts) :
    Calls Tryz.prog 32 #[.slice a ts.length cap] w fun e w' => StEnd ts w.heap.size e w' ∧ Below w.heap.size w w' := by
  have HA : Hid (NodAt w g ts) := hA
  have HT : Hid (∀ i, i < ts.length → (ts.getD i noNod).name.size ≤ maxLen ∧ (ts.getD i noNod).other.size ≤ maxLen) := hst
  clear hA hst
  go_enter Tryz.func32, Tryz.ntmps32
  go_wp2
  go_loopg [4, 5] ts.length (fun g out i wr => SAt ts w g out i wr)
  case atStart => exact ⟨0, [], rfl, by omega, rfl, ownI_empty (Nat.le_refl _), (Below.refl _ w).alloc (Nat.le_refl _) _⟩
  case round =>
    obtain ⟨i, st, rfl, hig, hS, hown, hbel⟩ := hrel
    have HS : Hid (startsF ts i = some st) := hS
    have HO : Hid (ownI wr w.heap.size u4 st) := hown
    obtain ⟨hsl, hsr⟩ := startsF_range ts i st hS
    have HSR : Hid (∀ j, j < i → 0 ≤ st.getD j 0 ∧ st.getD j 0 ≤ j) := hsr
    have hsz := hbel.size
    clear hS hown hsr
    by_cases hin : i < ts.length
    · have e1 : (i : Int) < ts.length := by omega
      obtain rfl := hne (by omega)
      have hlt : g < w.heap.size := HA.out.lt (by omega)
      have t := (HA.out.below hbel (fun _ => hlt)) i hin
      have hsm := HT.out i hin
      have HN : Hid (startsF ts (i + 1) = (startsF ts i).bind fun st => (stepS (ts.getD i noNod) i st).map fun a => st ++ [a]) := rfl
      obtain ⟨⟨x0, x1, x2, x3, x4, x5, x6⟩, hx⟩ : ∃ y, ts.getD i noNod = y := ⟨_, rfl⟩
      rw [hx] at t hsm HN
      simp only at hsm
      have HSM : Hid (x5.size ≤ maxLen ∧ x6.size ≤ maxLen) := hsm
      have q0 : wr.cell? ⟨g, i * 7, none⟩ = some (.int .i64 x0) := t.c0
      have q1 : wr.cell? ⟨g, i * 7 + 1, none⟩ = some (.int .i64 x1) := t.c1
      have q2 : wr.cell? ⟨g, i * 7 + 2, none⟩ = some (.int .i64 x2) := t.c2
      have q3 : wr.cell? ⟨g, i * 7 + 3, none⟩ = some (.int .i64 x3) := t.c3
      have q4 : wr.cell? ⟨g, i * 7 + 4, none⟩ = some (.int .i64 x4) := t.c4
      have q5 : wr.cell? ⟨g, i * 7 + 5, none⟩ = some (.string x5) := t.c5
      have q6 : wr.cell? ⟨g, i * 7 + 6, none⟩ = some (.string x6) := t.c6
      have HTI : Hid (NodIn wr g i ⟨x0, x1, x2, x3, x4, x5, x6⟩) := t
      clear t hx hsm
      go_wp2_with fail
      refine (spec_fields x0 x1 x2 x3 x4 x5 x6 HSM.out.1 HSM.out.2 wr).mono ?_
      rintro e w1 ⟨rfl, hb1⟩
      have t1 := HTI.out.below hb1 (by omega)
      have HO1 : Hid (ownI w1 w.heap.size u4 st) := ownI_kept HO.out hb1 (Nat.le_refl _)
      have hs1 := hb1.size
      have hbel1 : Below w.heap.size w w1 := hbel.trans (hb1.mono hsz)
      clear q0 q1 q2 q3 q4 q5 q6 HTI HO hbel hb1
      by_cases hf : fieldsB ⟨x0, x1, x2, x3, x4, x5, x6⟩ = true
      · have q0 : w1.cell? ⟨g, i * 7, none⟩ = some (.int .i64 x0) := t1.c0
        have q1 : w1.cell? ⟨g, i * 7 + 1, none⟩ = some (.int .i64 x1) := t1.c1
        have q2 : w1.cell? ⟨g, i * 7 + 2, none⟩ = some (.int .i64 x2) := t1.c2
        have q3 : w1.cell? ⟨g, i * 7 + 3, none⟩ = some (.int .i64 x3) := t1.c3
        have q4 : w1.cell? ⟨g, i * 7 + 4, none⟩ = some (.int .i64 x4) := t1.c4
        have q5 : w1.cell? ⟨g, i * 7 + 5, none⟩ = some (.string x5) := t1.c5
        have q6 : w1.cell? ⟨g, i * 7 + 6, none⟩ = some (.string x6) := t1.c6
        have HE : Hid (startsF ts (i + 1) = (down st (kidL ⟨x0, x1, x2, x3, x4, x5, x6⟩).reverse i).map fun a => st ++ [a]) := by
          show startsF ts (i + 1) = _
          rw [HN.out, HS.out]
          simp only [Option.bind_some, stepS, if_pos hf]
        rw [hf]
        clear t1 hf HN
        go_wp2_with fail
        refine (spec_kids x0 x1 x2 x3 x4 x5 x6 w1).mono ?_
        rintro e w2 ⟨rfl, hk2, hb2⟩
        have hs2 := hb2.size
        have HKC : Hid (∀ j, j < (kidL ⟨x0, x1, x2, x3, x4, x5, x6⟩).length → w2.cell? ⟨w1.heap.size + 1, j, none⟩ = some (.int .i64 ((kidL ⟨x0, x1, x2, x3, x4, x5, x6⟩).getD j 0))) := fun j hj => kid_cell hk2 j hj
        have HKL : Hid ((kidL ⟨x0, x1, x2, x3, x4, x5, x6⟩).length = arN x0) := kidL_length _
        have har := arN_le x0
        have HO2 : Hid (ownI w2 w.heap.size u4 st) := ownI_kept HO1.out hb2 (Nat.le_refl _)
        have hbel2 : Below w.heap.size w w2 := hbel1.trans (hb2.mono (by omega))
        clear q0 q1 q2 q3 q4 q5 q6 hk2 hb2 hbel1 HO1
        have HTK : Hid (∀ k, k < arN x0 → ((kidL ⟨x0, x1, x2, x3, x4, x5, x6⟩).take (k + 1)).reverse = (kidL ⟨x0, x1, x2, x3, x4, x5, x6⟩).getD k 0 :: ((kidL ⟨x0, x1, x2, x3, x4, x5, x6⟩).take k).reverse) := fun k hk => take_last _ k (by rw [HKL.out]; exact hk)
        have HTA : Hid ((kidL ⟨x0, x1, x2, x3, x4, x5, x6⟩).take (arN x0) = kidL ⟨x0, x1, x2, x3, x4, x5, x6⟩) := List.take_of_length_le (by rw [HKL.out]; exact Nat.le_refl _)
        generalize kidL ⟨x0, x1, x2, x3, x4, x5, x6⟩ = ks at *
        generalize arN x0 = ar at *
        go_wp2
        go_loopg [6, 8] (ar + 1) (fun gg p k wx => wx = w2 ∧ ∃ (m : Nat) (P : Int), m ≤ ar ∧ gg = m + 1 ∧ k = .int .i64 ((m : Int) - 1) ∧ p = .int .i64 P ∧ 0 ≤ P ∧ P ≤ i ∧ down st (ks.take m).reverse P = down st ks.reverse i)
        case atStart => exact ⟨rfl, ar, i, Nat.le_refl _, rfl, rfl, rfl, by omega, by omega, by rw [HTA.out]⟩
        case round =>
          obtain ⟨rfl, m, P, hm, rfl, rfl, rfl, hP0, hP1, hd⟩ := hrel
          have HD : Hid (down st (ks.take m).reverse P = down st ks.reverse i) := hd
          clear hd
          by_cases hm0 : m = 0
          · subst hm0
            have HQ : Hid (startsF ts (i + 1) = some (st ++ [P])) := by
              show startsF ts (i + 1) = _
              rw [HE.out, ← HD.out]
              rfl
            obtain ⟨i0, hi, hz0, hz1, hz2⟩ := info_parts info_int
            clear HE HD HTK HTA HKC HKL
            go_wp2_with (at_builtin; refine wpList_append_own _ rfl _ _ 57 rfl w.heap.size 3 i0 _ 1 8 Tryz.underlying57 hi hz0 hz1 hz2 rfl (by decide) _ _ _ rfl (HO2.out.alloc _) ⟨wr.heap.size, 0, none⟩ 1 1 [.int .i64 P] rfl rfl ?a1 ?a2 ?a3 ?a4 ?a5 ?_)
            case a1 =>
              intro j u hj
              match j, hj with
              | 0, hj => simp at hj; subst hj; simp [Addr.add]
            case a2 => intro u hu; simp at hu; subst hu; rfl
            case a3 => unfold maxLen; omega
            case a4 => omega
            case a5 => simp; omega
            intro v' W3 hown' hgrow _
            have HM : Hid (SAt ts w (ts.length - (i + 1)) v' (.int .i64 ((i + 1 : Nat) : Int)) W3) :=
              ⟨i + 1, st ++ [P], rfl, by omega, HQ.out, ownI_next P hown' (by omega) rfl, (hbel2.alloc (by omega) _).grown hgrow (by simp; omega) (fun q hq => (HO2.out.lt q hq).1)⟩
            clear hown' hgrow HQ HO2 hbel2 hi hz0 hz1 hz2
            go_wp2
            go_roundg (ts.length - (i + 1))
            case rel => exact HM.out
            case measure => omega
          · obtain ⟨q, rfl⟩ : ∃ q, m = q + 1 := ⟨m - 1, by omega⟩
            have hqa : (q : Int) < ar := by omega
            have hc := HKC.out q (by rw [HKL.out]; omega)
            have HDD : Hid (down st ((ks.take (q + 1)).reverse) P = if ks.getD q 0 = P - 1 ∧ 0 ≤ ks.getD q 0 then down st (ks.take q).reverse (st.getD (ks.getD q 0).toNat 0) else none) := by
              show down st ((ks.take (q + 1)).reverse) P = _
              rw [HTK.out q (by omega)]
              rfl
            have eq1 : ((q + 1 : Nat) : Int) - 1 = q := by omega
            rw [eq1]
            generalize ks.getD q 0 = c at *
            by_cases hcc : c = P - 1 ∧ 0 ≤ c
            · obtain ⟨hc1, hc0⟩ := hcc
              obtain ⟨cn, rfl⟩ := Int.eq_ofNat_of_zero_le hc0
              have hcn : cn < i := by omega
              obtain ⟨go, co, hu, hBg, hgl, hcells⟩ := ownI_form HO2.out (by omega)
              have hr := HSR.out cn hcn
              have hcell := hcells cn (by omega)
              have HDN : Hid (down st (ks.take q).reverse (st.getD cn 0) = down st ks.reverse i) := by
                show down st (ks.take q).reverse (st.getD cn 0) = _
                rw [← HD.out, HDD.out, if_pos ⟨hc1, hc0⟩]
                rfl
              have nq : ((cn : Int) != P - 1) = false := by simpa using hc1
              have nn : decide ((cn : Int) < 0) = false := decide_eq_false (by omega)
              have hcn' : (cn : Int) < st.length := by omega
              subst hu
              generalize st.getD cn 0 = P2 at *
              have HC1 : Hid ((cn : Int) = P - 1) := hc1
              clear hc1 hcells HDD HD HE
              go_wp2
              go_roundg (q + 1)
              case rel => exact ⟨rfl, q, P2, by omega, rfl, by go_num, rfl, hr.1, by omega, HDN.out⟩
              case measure => omega
            · have HZ : Hid (startsF ts ts.length = none) := by
                show startsF ts ts.length = none
                refine startsF_none ts (i + 1) ts.length (by omega) ?_
                rw [HE.out, ← HD.out, HDD.out, if_neg hcc]
                rfl
              clear HE HD HDD HTK HTA HKC HKL HO2
              by_cases hc1 : c = P - 1
              · have nq : (c != P - 1) = false := by simpa using hc1
                have hneg : c < 0 := by omega
                have HC1 : Hid (c = P - 1) := hc1
                clear hc1 hcc
                go_wp2
                go_ret2
                exact ⟨Or.inr ⟨_, HZ.out, rfl⟩, hbel2.alloc (by omega) _⟩
              · have nq : (c != P - 1) = true := by simpa using hc1
                clear hc1 hcc
                go_wp2
                go_ret2
                exact ⟨Or.inr ⟨_, HZ.out, rfl⟩, hbel2.alloc (by omega) _⟩
      · have hf' : fieldsB ⟨x0, x1, x2, x3, x4, x5, x6⟩ = false := by simpa using hf
        have HZ : Hid (startsF ts ts.length = none) := by
          show startsF ts ts.length = none
          refine startsF_none ts (i + 1) ts.length (by omega) ?_
          rw [HN.out, HS.out]
          simp only [Option.bind_some, stepS, if_neg hf]
          rfl
        rw [hf']
        clear hf hf' HN t1 HO1
        go_wp2
        go_ret2
        exact ⟨Or.inr ⟨_, HZ.out, rfl⟩, hbel1.alloc (by omega) _⟩
    · have e1 : (ts.length : Int) ≤ i := by omega
      obtain rfl : i = ts.length := by omega
      go_wp2
      go_ret2
      exact ⟨Or.inl ⟨st, _, HS.out, HO.out, rfl⟩, hbel⟩

/-- Is it a program? -/
def nodesB (ts : List Nod) : Bool := decide (1 ≤ ts.length ∧ ts.length ≤ 150) && (match startsF ts ts.length with | some st => st.getD (ts.length - 1) 0 == 0 | none => false)

theorem spec_nodes (a : Option Addr) (g cap : Nat) (ts : List Nod) (hne : 0 < ts.length → a = some ⟨g, 0, none⟩) (hl : ts.length ≤ 1048576)
    (hst : ∀ i, i < ts.length → (ts.getD i noNod).name.size ≤ maxLen ∧ (ts.getD i noNod).other.size ≤ maxLen) (w : World) (hA : NodAt w g ts) :
    Calls Tryz.prog 9 #[.slice a ts.length cap] w fun e w' => e = .returned (.bool (nodesB ts)) ∧ Below w.heap.size w w' := by
  have HA : Hid (NodAt w g ts) := hA
  have HT : Hid (∀ i, i < ts.length → (ts.getD i noNod).name.size ≤ maxLen ∧ (ts.getD i noNod).other.size ≤ maxLen) := hst
  have HN : Hid (nodesB ts = (decide (1 ≤ ts.length ∧ ts.length ≤ 150) && (match startsF ts ts.length with | some st => st.getD (ts.length - 1) 0 == 0 | none => false))) := rfl
  clear hA hst
  go_enter Tryz.func9, Tryz.ntmps9
  go_wp2_with fail
  refine (word_in _ _ _ _).mono ?_
  rintro e w1 ⟨rfl, rfl⟩
  by_cases hk : 1 ≤ ts.length ∧ ts.length ≤ 150
  · have d1 : (decide ((1 : Int) ≤ ts.length) && decide ((ts.length : Int) ≤ 150)) = true := by rw [decide_eq_true (by omega), decide_eq_true (by omega)]; rfl
    rw [d1]
    have HV : Hid (nodesB ts = (match startsF ts ts.length with | some st => st.getD (ts.length - 1) 0 == 0 | none => false)) := by
      show nodesB ts = _
      rw [HN.out, decide_eq_true hk, Bool.true_and]
    obtain ⟨hk1, hk2⟩ := hk
    clear d1 HN
    go_wp2_with fail
    refine (spec_starts a g cap ts hne (by omega) HT.out w1 HA.out).mono ?_
    rintro e w2 ⟨hend, hb2⟩
    rcases hend with ⟨st, v, hS, hown, rfl⟩ | ⟨v, hS, rfl⟩
    · obtain ⟨hsl, _⟩ := startsF_range ts _ st hS
      rw [hS] at HV
      simp only at HV
      obtain ⟨go, co, rfl, hBg, hgl, hcells⟩ := ownI_form hown (by omega)
      have hcell := hcells (ts.length - 1) (by omega)
      have e1 : (ts.length : Int) - 1 < st.length := by omega
      have e2 : (0 : Int) ≤ (ts.length : Int) - 1 := by omega
      generalize st.getD (ts.length - 1) 0 = P at *
      clear hS hown hcells
      go_wp2
      go_ret
      exact ⟨by rw [HV.out]; rfl, hb2⟩
    · rw [hS] at HV
      simp only at HV
      clear hS
      go_wp2
      go_ret
      exact ⟨by rw [HV.out]; rfl, hb2⟩
  · have d1 : (decide ((1 : Int) ≤ ts.length) && decide ((ts.length : Int) ≤ 150)) = false := by
      rw [← Bool.decide_and]
      exact decide_eq_false (by omega)
    rw [d1]
    have HV : Hid (nodesB ts = false) := by
      show nodesB ts = false
      rw [HN.out, decide_eq_false hk, Bool.false_and]
    clear HN d1 hk
    go_wp2
    go_ret
    exact ⟨by rw [HV.out]; rfl, Below.refl _ _⟩

/-- Where the part of node i begins; -1 where there is none. -/
def startB (ts : List Nod) (i : Int) : Int := if nodesB ts = true ∧ 0 ≤ i ∧ i ≤ (ts.length : Int) - 1 then (match startsF ts ts.length with | some st => st.getD i.toNat 0 | none => -1) else -1

theorem nodesB_starts {ts : List Nod} (h : nodesB ts = true) : 1 ≤ ts.length ∧ ts.length ≤ 150 ∧ ∃ st, startsF ts ts.length = some st := by
  unfold nodesB at h
  rw [Bool.and_eq_true, decide_eq_true_eq] at h
  obtain ⟨⟨h1, h2⟩, h3⟩ := h
  cases hs : startsF ts ts.length with
  | none => rw [hs] at h3; cases h3
  | some st => exact ⟨h1, h2, st, rfl⟩
end

section
open Go.ChangeShapes Go.WideShapes Go.ChangeAt Go.RowKit

/-- Is a number among these? -/
def hasI (st : List Int) (x : Int) : Bool := st.contains x

/-- The first of the last k nodes that has m among its kids. -/
def parU (ts : List Nod) (m : Int) : Nat → Int
  | 0 => -1
  | k + 1 => if hasI (kidL (ts.getD (ts.length - (k + 1)) noNod)) m = true then ((ts.length - (k + 1) : Nat) : Int) else parU ts m k

def parP (ts : List Nod) (m : Int) : Int := parU ts m ts.length

def parB (ts : List Nod) (m : Int) : Int := if nodesB ts = true then parP ts m else -1

theorem parU_at {ts : List Nod} {m : Int} {j : Nat} (h : j < ts.length) : parU ts m (ts.length - j) = if hasI (kidL (ts.getD j noNod)) m = true then (j : Int) else parU ts m (ts.length - (j + 1)) := by
  have e : ts.length - j = (ts.length - (j + 1)) + 1 := by omega
  rw [e, parU]
  have e2 : ts.length - (ts.length - (j + 1) + 1) = j := by omega
  rw [e2]

theorem parU_range (ts : List Nod) (m : Int) : ∀ k, k ≤ ts.length → parU ts m k = -1 ∨ ∃ p : Nat, parU ts m k = p ∧ ts.length - k ≤ p ∧ p < ts.length ∧ hasI (kidL (ts.getD p noNod)) m = true
  | 0, _ => Or.inl rfl
  | k + 1, h => by
    rw [parU]
    split
    · rename_i hc
      exact Or.inr ⟨_, rfl, by omega, by omega, hc⟩
    · rcases parU_range ts m k (by omega) with h1 | ⟨p, h1, h2, h3, h4⟩
      · exact Or.inl h1
      · exact Or.inr ⟨p, h1, by omega, h3, h4⟩

theorem parU_some (ts : List Nod) (m : Int) (p : Nat) (hp : p < ts.length) (hc : hasI (kidL (ts.getD p noNod)) m = true) : ∀ k, k ≤ ts.length → ts.length - k ≤ p → 0 ≤ parU ts m k
  | 0, _, h => by omega
  | k + 1, hk, h => by
    rw [parU]
    split
    · omega
    · rename_i hn
      by_cases e : ts.length - (k + 1) = p
      · rw [e] at hn
        exact absurd hc hn
      · exact parU_some ts m p hp hc k (by omega) (by omega)

/-- Kids stand ahead of their node. -/
theorem kids_low {ts : List Nod} {st : List Nat} (h : Right ts st) {j : Nat} (hj : j < ts.length) {m : Int} (hm : hasI (kidL (ts.getD j noNod)) m = true) : ∃ c : Nat, m = c ∧ c < j ∧ st.getD j 0 ≤ c := by
  obtain ⟨hF, h0, k0, k1, k2, k3⟩ := h.2 j hj
  have hs : ∀ c, c < j → st.getD c 0 ≤ c := fun c hc => (h.2 c (by omega)).2.1
  rcases (by have := arN_le (ts.getD j noNod).kind; omega : arN (ts.getD j noNod).kind = 0 ∨ arN (ts.getD j noNod).kind = 1 ∨ arN (ts.getD j noNod).kind = 2 ∨ arN (ts.getD j noNod).kind = 3) with e | e | e | e
  · rw [kidL_0 e] at hm
    simp [hasI] at hm
  · obtain ⟨a, ha, h1, h2⟩ := k1 e
    rw [kidL_1 e, ha] at hm
    simp [hasI] at hm
    have := hs a (by omega)
    exact ⟨a, hm, by omega, by omega⟩
  · obtain ⟨a, b, ha, hb, h1, h2, h3⟩ := k2 e
    rw [kidL_2 e, ha, hb] at hm
    simp [hasI] at hm
    have q1 := hs b (by omega)
    have q2 := hs a (by omega)
    rcases hm with rfl | rfl
    · exact ⟨a, rfl, by omega, by omega⟩
    · exact ⟨b, rfl, by omega, by omega⟩
  · obtain ⟨a, b, c, ha, hb, hc, h1, h2, h3, h4⟩ := k3 e
    rw [kidL_3 e, ha, hb, hc] at hm
    simp [hasI] at hm
    have q1 := hs c (by omega)
    have q2 := hs b (by omega)
    have q3 := hs a (by omega)
    rcases hm with rfl | rfl | rfl
    · exact ⟨a, rfl, by omega, by omega⟩
    · exact ⟨b, rfl, by omega, by omega⟩
    · exact ⟨c, rfl, by omega, by omega⟩

/-- Each node of a part but its last one has a parent in it. -/
theorem kid_has {ts : List Nod} {st : List Nat} (h : Right ts st) : ∀ (n j : Nat), j < n → j < ts.length → ∀ i : Nat, st.getD j 0 ≤ i → i < j → ∃ p, p ≤ j ∧ i < p ∧ hasI (kidL (ts.getD p noNod)) (i : Int) = true
  | 0, j, hn, _, _, _, _ => by omega
  | n + 1, j, hn, hj, i, h1, h2 => by
    obtain ⟨hF, h0, k0, k1, k2, k3⟩ := h.2 j hj
    have hs : ∀ c, c < j → st.getD c 0 ≤ c := fun c hc => (h.2 c (by omega)).2.1
    have deep : ∀ c : Nat, c < j → hasI (kidL (ts.getD j noNod)) (c : Int) = true → st.getD c 0 ≤ i → i ≤ c → ∃ p, p ≤ j ∧ i < p ∧ hasI (kidL (ts.getD p noNod)) (i : Int) = true := fun c hc hk q1 q2 => by
      by_cases e : i = c
      · exact ⟨j, by omega, by omega, by rw [e]; exact hk⟩
      · obtain ⟨p, p1, p2, p3⟩ := kid_has h n c (by omega) (by omega) i q1 (by omega)
        exact ⟨p, by omega, p2, p3⟩
    rcases (by have := arN_le (ts.getD j noNod).kind; omega : arN (ts.getD j noNod).kind = 0 ∨ arN (ts.getD j noNod).kind = 1 ∨ arN (ts.getD j noNod).kind = 2 ∨ arN (ts.getD j noNod).kind = 3) with e | e | e | e
    · have := k0 e
      omega
    · obtain ⟨a, ha, g1, g2⟩ := k1 e
      exact deep a (by omega) (by rw [kidL_1 e, ha]; simp [hasI]) (by omega) (by omega)
    · obtain ⟨a, b, ha, hb, g1, g2, g3⟩ := k2 e
      have q1 := hs b (by omega)
      by_cases hb' : st.getD b 0 ≤ i
      · exact deep b (by omega) (by rw [kidL_2 e, ha, hb]; simp [hasI]) hb' (by omega)
      · exact deep a (by omega) (by rw [kidL_2 e, ha, hb]; simp [hasI]) (by omega) (by omega)
    · obtain ⟨a, b, c, ha, hb, hc, g1, g2, g3, g4⟩ := k3 e
      have q1 := hs c (by omega)
      have q2 := hs b (by omega)
      by_cases hc' : st.getD c 0 ≤ i
      · exact deep c (by omega) (by rw [kidL_3 e, ha, hb, hc]; simp [hasI]) hc' (by omega)
      · by_cases hb' : st.getD b 0 ≤ i
        · exact deep b (by omega) (by rw [kidL_3 e, ha, hb, hc]; simp [hasI]) hb' (by omega)
        · exact deep a (by omega) (by rw [kidL_3 e, ha, hb, hc]; simp [hasI]) (by omega) (by omega)

/-- A right program: kids ahead, and parents behind. -/
theorem right_par {ts : List Nod} (h : nodesB ts = true) : ts.length ≤ 150 ∧ 1 ≤ ts.length ∧ (∃ st, Right ts st) ∧ (∀ (m : Int), parP ts m = -1 ∨ ∃ p c : Nat, parP ts m = p ∧ p < ts.length ∧ m = c ∧ c < p ∧ hasI (kidL (ts.getD p noNod)) m = true) ∧
    (∀ i : Nat, i + 1 < ts.length → ∃ p, i < p ∧ p < ts.length ∧ hasI (kidL (ts.getD p noNod)) (i : Int) = true) := by
  obtain ⟨h1, h2, st, hS⟩ := nodesB_starts h
  have hR := right_of (by omega) hS
  refine ⟨h2, h1, ⟨_, hR⟩, fun m => ?_, fun i hi => ?_⟩
  · rcases parU_range ts m ts.length (Nat.le_refl _) with e | ⟨p, e, _, hp, hc⟩
    · exact Or.inl e
    · obtain ⟨c, rfl, hc1, _⟩ := kids_low hR hp hc
      exact Or.inr ⟨p, c, e, hp, rfl, hc1, hc⟩
  · have h0 : st.getD (ts.length - 1) 0 = 0 := by
      have := (Bool.and_eq_true_iff.1 h).2
      rw [hS] at this
      simpa using this
    obtain ⟨p, p1, p2, p3⟩ := kid_has hR (ts.length) (ts.length - 1) (by omega) (by omega) i (by rw [getD_nat, h0]; simp) (by omega)
    exact ⟨p, p2, by omega, p3⟩
end

section
open Go.ChangeShapes Go.WideShapes Go.ChangeAt Go.RowKit

/-- The names that a node binds in a kid, the innermost first, with their roles. -/
def bndL (t : Nod) (c : Int) : List (ByteArray × Int) :=
  if t.kind = 3 then [(t.name, 0)]
  else if t.kind = 5 ∨ t.kind = 19 then (if c = t.b then [(t.name, 0)] else [])
  else if t.kind = 6 then (if c = t.a then [(t.other, 1), (t.name, 0)] else [(t.name, 0)])
  else if t.kind = 14 then (if c = t.c then [(t.other, 1), (t.name, 0)] else [])
  else []

def lookR (s : ByteArray) : List (ByteArray × Int) → Option Int
  | [] => none
  | (n, r) :: l => if n = s then some r else lookR s l

/-- How many roles a kind binds in its k-th kid. -/
def rolN (kind : Int) (k : Nat) : Nat :=
  if kind = 3 then [1, 0, 0].getD k 0
  else if kind = 5 ∨ kind = 19 then [0, 1, 0].getD k 0
  else if kind = 6 then [2, 1, 0].getD k 0
  else if kind = 14 then [0, 0, 2].getD k 0
  else 0

/-- The same by the kid's place. -/
def rolL (t : Nod) : Nat → List (ByteArray × Int)
  | 0 => []
  | 1 => [(t.name, 0)]
  | _ => [(t.other, 1), (t.name, 0)]

theorem arN_3 : arN 3 = 1 := rfl
theorem arN_5 : arN 5 = 2 := rfl
theorem arN_6 : arN 6 = 2 := rfl
theorem arN_14 : arN 14 = 3 := rfl
theorem arN_19 : arN 19 = 2 := rfl

theorem bndL_rol {ts : List Nod} {st : List Nat} (h : Right ts st) {j : Nat} (hj : j < ts.length) {k : Nat} (hk : k < (kidL (ts.getD j noNod)).length) : bndL (ts.getD j noNod) ((kidL (ts.getD j noNod)).getD k 0) = rolL (ts.getD j noNod) (rolN (ts.getD j noNod).kind k) := by
  obtain ⟨hF, h0, k0, k1, k2, k3⟩ := h.2 j hj
  have hs : ∀ c, c < j → st.getD c 0 ≤ c := fun c hc => (h.2 c (by omega)).2.1
  generalize ts.getD j noNod = t at *
  unfold bndL rolN
  by_cases e3 : t.kind = 3
  · rw [if_pos e3, if_pos e3]
    have ea : arN t.kind = 1 := by rw [e3]; rfl
    rw [kidL_1 ea] at hk
    obtain rfl : k = 0 := by simp at hk; omega
    rfl
  rw [if_neg e3, if_neg e3]
  by_cases e5 : t.kind = 5 ∨ t.kind = 19
  · rw [if_pos e5, if_pos e5]
    have ea : arN t.kind = 2 := by rcases e5 with e | e <;> rw [e] <;> rfl
    obtain ⟨a, b, ha, hb, g1, g2, g3⟩ := k2 ea
    have q := hs b (by omega)
    rw [kidL_2 ea] at hk ⊢
    rcases (by simp at hk; omega : k = 0 ∨ k = 1) with rfl | rfl
    · rw [if_neg (by simp [ha, hb]; omega)]
      rfl
    · rw [if_pos (by simp)]
      rfl
  rw [if_neg e5, if_neg e5]
  by_cases e6 : t.kind = 6
  · rw [if_pos e6, if_pos e6]
    have ea : arN t.kind = 2 := by rw [e6]; rfl
    obtain ⟨a, b, ha, hb, g1, g2, g3⟩ := k2 ea
    have q := hs b (by omega)
    rw [kidL_2 ea] at hk ⊢
    rcases (by simp at hk; omega : k = 0 ∨ k = 1) with rfl | rfl
    · rw [if_pos (by simp)]
      rfl
    · rw [if_neg (by simp [ha, hb]; omega)]
      rfl
  rw [if_neg e6, if_neg e6]
  by_cases e14 : t.kind = 14
  · rw [if_pos e14, if_pos e14]
    have ea : arN t.kind = 3 := by rw [e14]; rfl
    obtain ⟨a, b, c, ha, hb, hc, g1, g2, g3, g4⟩ := k3 ea
    have q1 := hs c (by omega)
    have q2 := hs b (by omega)
    rw [kidL_3 ea] at hk ⊢
    rcases (by simp at hk; omega : k = 0 ∨ k = 1 ∨ k = 2) with rfl | rfl | rfl
    · rw [if_neg (by simp [ha, hc]; omega)]
      rfl
    · rw [if_neg (by simp [hb, hc]; omega)]
      rfl
    · rw [if_pos (by simp)]
      rfl
  rw [if_neg e14, if_neg e14]
  rfl

/-- What binds a name that is seen at a node, so many parents up. -/
def scF (ts : List Nod) (s : ByteArray) : Nat → Int → Int × Int
  | 0, _ => (-1, -1)
  | f + 1, kid => if parP ts kid < 0 then (-1, -1) else match lookR s (bndL (ts.getD (parP ts kid).toNat noNod) kid) with
    | some r => (parP ts kid, r)
    | none => scF ts s f (parP ts kid)

theorem scF_step (ts : List Nod) (s : ByteArray) (f : Nat) (kid : Int) : scF ts s (f + 1) kid = if parP ts kid < 0 then (-1, -1) else match lookR s (bndL (ts.getD (parP ts kid).toNat noNod) kid) with
    | some r => (parP ts kid, r)
    | none => scF ts s f (parP ts kid) := rfl

theorem scF_more {ts : List Nod} (hp : ∀ (m : Int), parP ts m = -1 ∨ ∃ p c : Nat, parP ts m = p ∧ p < ts.length ∧ m = c ∧ c < p ∧ hasI (kidL (ts.getD p noNod)) m = true) (s : ByteArray) : ∀ (f : Nat) (kid : Nat), ts.length ≤ kid + f → scF ts s (f + 1) kid = scF ts s f kid
  | 0, kid, h => by
    rcases hp kid with e | ⟨p, c, e, h1, h2, h3, _⟩
    · rw [scF_step, if_pos (by omega)]; rfl
    · have : kid = c := by omega
      omega
  | f + 1, kid, h => by
    rw [scF_step ts s (f + 1) kid, scF_step ts s f kid]
    rcases hp kid with e | ⟨p, c, e, h1, h2, h3, _⟩
    · rw [if_pos (by omega), if_pos (by omega)]
    · have hc : kid = c := by omega
      rw [e, if_neg (by omega), if_neg (by omega)]
      split
      · rfl
      · exact scF_more hp s f p (by omega)

theorem scF_any {ts : List Nod} (hp : ∀ (m : Int), parP ts m = -1 ∨ ∃ p c : Nat, parP ts m = p ∧ p < ts.length ∧ m = c ∧ c < p ∧ hasI (kidL (ts.getD p noNod)) m = true) (s : ByteArray) (kid : Nat) : ∀ (d : Nat), scF ts s (ts.length - kid + d) kid = scF ts s (ts.length - kid) kid
  | 0 => rfl
  | d + 1 => by
    rw [← Nat.add_assoc, scF_more hp s _ kid (by omega), scF_any hp s kid d]

/-- What binds a name that is seen at a node. -/
def scB (ts : List Nod) (kid : Int) (s : ByteArray) : Int × Int := scF ts s ts.length kid

theorem scB_at {ts : List Nod} (hp : ∀ (m : Int), parP ts m = -1 ∨ ∃ p c : Nat, parP ts m = p ∧ p < ts.length ∧ m = c ∧ c < p ∧ hasI (kidL (ts.getD p noNod)) m = true) (s : ByteArray) (kid f : Nat) (h : ts.length ≤ kid + f) : scF ts s f kid = scB ts kid s := by
  have h1 := scF_any hp s kid (f - (ts.length - kid))
  have h2 := scF_any hp s kid (ts.length - (ts.length - kid))
  rw [show ts.length - kid + (f - (ts.length - kid)) = f by omega] at h1
  rw [show ts.length - kid + (ts.length - (ts.length - kid)) = ts.length by omega] at h2
  rw [h1, scB, h2]

/-- The scope at a node, by the last k nodes alone. -/
def scU (ts : List Nod) (k : Nat) (m : Int) (s : ByteArray) : Int × Int :=
  if parU ts m k < 0 then (-1, -1) else match lookR s (bndL (ts.getD (parU ts m k).toNat noNod) m) with
    | some r => (parU ts m k, r)
    | none => scB ts (parU ts m k) s

theorem parU_whole {ts : List Nod} (h : nodesB ts = true) (m : Nat) : ∀ j, j ≤ m + 1 → j ≤ ts.length → parU ts m ts.length = parU ts m (ts.length - j)
  | 0, _, _ => by rw [Nat.sub_zero]
  | j + 1, h1, h2 => by
    obtain ⟨_, _, ⟨st, hR⟩, _⟩ := right_par h
    rw [parU_whole h m j (by omega) (by omega), parU_at (by omega), if_neg]
    intro hc
    obtain ⟨c, e, hc1, _⟩ := kids_low hR (by omega) hc
    omega

theorem scU_whole {ts : List Nod} (h : nodesB ts = true) (m k : Nat) (hm : m < ts.length) (hk : ts.length ≤ k + (m + 1)) (hk2 : k ≤ ts.length) (s : ByteArray) : scU ts k m s = scB ts m s := by
  obtain ⟨_, hl, _, hp, _⟩ := right_par h
  have e : parU ts m k = parP ts m := by
    rw [parP, parU_whole h m (ts.length - k) (by omega) (by omega)]
    congr 1
    omega
  unfold scU
  rw [e]
  have h1 : scB ts m s = scF ts s (ts.length - 1 + 1) m := by rw [scB]; congr 1; omega
  rw [h1, scF_step]
  by_cases hn : parP ts m < 0
  · rw [if_pos hn, if_pos hn]
  · rw [if_neg hn, if_neg hn]
    rcases hp m with e0 | ⟨p, c, e0, g1, g2, g3, _⟩
    · omega
    · rw [e0]
      split
      · rfl
      · exact (scB_at hp s p (ts.length - 1) (by omega)).symm
end

section
theorem dd_small {u : Nat} (h : u < 10) : Lib.decDigits u = [UInt8.ofNat (48 + u)] := Lib.decDigits_one h
theorem dd_big {u : Nat} (h : ¬ u < 10) : Lib.decDigits u = Lib.decDigits (u / 10) ++ [UInt8.ofNat (48 + u % 10)] := by
  rw [Lib.decDigits, dif_neg h]

theorem digit_nat (d : Nat) (h : d < 10) : (UInt8.ofNat (48 + d)).toNat = 48 + d := by
  rw [UInt8.toNat_ofNat']
  omega

theorem dd_digits : ∀ (u : Nat), ∀ c ∈ Lib.decDigits u, 48 ≤ c.toNat ∧ c.toNat ≤ 57 := by
  intro u
  induction u using Nat.strongRecOn with
  | ind u ih =>
    by_cases h : u < 10
    · rw [dd_small h]
      intro c hc
      simp only [List.mem_singleton] at hc
      subst hc
      rw [digit_nat u h]
      omega
    · rw [dd_big h]
      intro c hc
      simp only [List.mem_append, List.mem_singleton] at hc
      rcases hc with hc | hc
      · exact ih (u / 10) (by omega) c hc
      · subst hc
        rw [digit_nat _ (by omega)]
        omega

theorem dd_pos (u : Nat) : 0 < (Lib.decDigits u).length := by
  by_cases h : u < 10
  · rw [dd_small h]; simp
  · rw [dd_big h]; simp

theorem dd_length : ∀ (j u : Nat), u < 10 ^ (j + 1) → (Lib.decDigits u).length ≤ j + 1
  | 0, u, h => by rw [dd_small (by simpa using h)]; simp
  | j + 1, u, h => by
    by_cases hs : u < 10
    · rw [dd_small hs]; simp
    · rw [dd_big hs]
      have := dd_length j (u / 10) (by rw [Nat.div_lt_iff_lt_mul (by omega)]; rw [Nat.pow_succ] at h; exact h)
      simp; omega

theorem parse_dd : ∀ (u : Nat) (r : List UInt8), u < 1000000000000000000 → Lib.parseUint10 0 (Lib.decDigits u ++ r) = Lib.parseUint10 u r := by
  intro u
  induction u using Nat.strongRecOn with
  | ind u ih =>
    intro r hu
    by_cases h : u < 10
    · rw [dd_small h]
      simp only [List.cons_append, List.nil_append, Lib.parseUint10, digit_nat u h]
      rw [if_pos (by omega), if_neg (by omega), if_neg (by omega)]
      congr 1
      omega
    · rw [dd_big h, List.append_assoc, ih (u / 10) (by omega) _ (by omega)]
      simp only [List.cons_append, List.nil_append, Lib.parseUint10, digit_nat (u % 10) (by omega)]
      rw [if_pos (by omega), if_neg (by omega), if_neg (by omega)]
      congr 1
      omega

theorem parseMag_dd (u : Nat) (hu : u < 1000000000000000000) : Lib.parseMag (Lib.decDigits u) = .ok u := by
  unfold Lib.parseMag
  rw [if_neg (by have := dd_pos u; intro h; rw [h] at this; simp at this)]
  have := parse_dd u [] hu
  rw [List.append_nil] at this
  rw [this]
  rfl

theorem itoa_pos (u : Nat) : Lib.itoa (u : Int) = Lib.decDigits u := Lib.itoa_nonneg u
theorem itoa_neg (u : Nat) (h : 1 ≤ u) : Lib.itoa (-(u : Int)) = 45 :: Lib.decDigits u := Lib.itoa_neg u h

/-- A number is read from its own text. -/
theorem atoi_itoa (n : Int) (h1 : -1000000000000000000 < n) (h2 : n < 1000000000000000000) : Lib.atoiAll (Lib.itoa n) = .ok n := by
  by_cases h : n < 0
  · obtain ⟨u, rfl⟩ : ∃ u : Nat, n = -(u : Int) := ⟨n.natAbs, by omega⟩
    rw [itoa_neg u (by omega)]
    unfold Lib.atoiAll
    have e : (45 : UInt8).toNat = 45 := rfl
    simp only [e]
    rw [if_pos (by simp), parseMag_dd u (by omega)]
    simp
    omega
  · obtain ⟨u, rfl⟩ := Int.eq_ofNat_of_zero_le (show 0 ≤ n by omega)
    have hp := dd_pos u
    have hd := dd_digits u
    have hm := parseMag_dd u (by omega)
    rw [itoa_pos u]
    generalize Lib.decDigits u = l at *
    cases l with
    | nil => simp at hp
    | cons c r =>
      have hc := hd c (by simp)
      unfold Lib.atoiAll
      simp only []
      rw [if_neg (by omega), hm]
      have hne : ¬ c.toNat = 45 := by omega
      simp [hne]
      omega

/-- What the digits of a text say; what is no digit is passed over. -/
def num : Nat → List UInt8 → Nat
  | a, [] => a
  | a, c :: r => if 48 ≤ c.toNat ∧ c.toNat ≤ 57 then num (a * 10 + (c.toNat - 48)) r else num a r

def cnt : List UInt8 → Nat
  | [] => 0
  | c :: r => if 48 ≤ c.toNat ∧ c.toNat ≤ 57 then cnt r + 1 else cnt r

theorem num_append : ∀ (l r : List UInt8) (a : Nat), num a (l ++ r) = num (num a l) r
  | [], _, _ => rfl
  | c :: l, r, a => by
    simp only [List.cons_append, num]
    split <;> exact num_append l r _

theorem cnt_append : ∀ (l r : List UInt8), cnt (l ++ r) = cnt l + cnt r
  | [], _ => by simp [cnt]
  | c :: l, r => by
    simp only [List.cons_append, cnt, cnt_append l r]
    split <;> omega

theorem num_lt : ∀ (l : List UInt8) (a m : Nat), a < 10 ^ m → num a l < 10 ^ (m + cnt l)
  | [], a, m, h => by simpa [num, cnt] using h
  | c :: l, a, m, h => by
    simp only [num, cnt]
    split
    · have := num_lt l (a * 10 + (c.toNat - 48)) (m + 1) (by rw [Nat.pow_succ]; omega)
      rw [show m + (cnt l + 1) = m + 1 + cnt l by omega]
      exact this
    · exact num_lt l a m h

theorem cnt_le : ∀ (l : List UInt8), cnt l ≤ l.length
  | [] => by simp [cnt]
  | c :: l => by
    have := cnt_le l
    simp only [cnt, List.length_cons]
    split <;> omega

theorem num_dd : ∀ (u : Nat), num 0 (Lib.decDigits u) = u := by
  intro u
  induction u using Nat.strongRecOn with
  | ind u ih =>
    by_cases h : u < 10
    · rw [dd_small h]
      simp only [num, digit_nat u h]
      rw [if_pos (by omega)]
      omega
    · rw [dd_big h, num_append, ih (u / 10) (by omega)]
      simp only [num, digit_nat (u % 10) (by omega)]
      rw [if_pos (by omega)]
      omega

/-- What ReadDec answers. -/
def IsRd (l : List UInt8) (n : Int) (ok : Bool) : Prop :=
  (ok = true ∧ -1000000000 < n ∧ n < 1000000000 ∧ l = Lib.itoa n) ∨ (ok = false ∧ n = 0 ∧ ∀ m, -1000000000 < m → m < 1000000000 → l ≠ Lib.itoa m)

theorem isRd_one {l : List UInt8} {n n' : Int} {o o' : Bool} (h : IsRd l n o) (h' : IsRd l n' o') : n = n' ∧ o = o' := by
  rcases h with ⟨rfl, h1, h2, h3⟩ | ⟨rfl, rfl, h3⟩ <;> rcases h' with ⟨rfl, h1', h2', h3'⟩ | ⟨rfl, rfl, h3'⟩
  · have a := atoi_itoa n (by omega) (by omega)
    have b := atoi_itoa n' (by omega) (by omega)
    rw [← h3, h3', b] at a
    injection a with a
    exact ⟨a.symm, rfl⟩
  · exact absurd h3 (h3' _ h1 h2)
  · exact absurd h3' (h3 _ h1' h2')
  · exact ⟨rfl, rfl⟩

/-- The signed number of a text: behind a leading minus the other way. -/
def sgn (l : List UInt8) (n : Nat) : Int := if l.head? = some 45 then -(n : Int) else n

theorem itoa_back (m : Int) (h1 : -1000000000 < m) (h2 : m < 1000000000) :
    sgn (Lib.itoa m) (num 0 (Lib.itoa m)) = m ∧ cnt (Lib.itoa m) ≤ 9 ∧ (Lib.itoa m).length ≤ 10 := by
  by_cases h : m < 0
  · obtain ⟨u, rfl⟩ : ∃ u : Nat, m = -(u : Int) := ⟨m.natAbs, by omega⟩
    rw [itoa_neg u (by omega)]
    have hl := dd_length 8 u (by omega)
    have hc := cnt_le (Lib.decDigits u)
    refine ⟨?_, ?_, by simp; omega⟩
    · simp [sgn, num, num_dd]
    · simp [cnt]; omega
  · obtain ⟨u, rfl⟩ := Int.eq_ofNat_of_zero_le (show 0 ≤ m by omega)
    rw [itoa_pos u]
    have hl := dd_length 8 u (by omega)
    have hc := cnt_le (Lib.decDigits u)
    have hd := dd_digits u
    have hn := num_dd u
    refine ⟨?_, by omega, by omega⟩
    rw [hn]
    unfold sgn
    rw [if_neg]
    intro hh
    generalize Lib.decDigits u = l at *
    cases l with
    | nil => simp at hh
    | cons c r =>
      simp at hh
      have := hd c (by simp)
      rw [hh] at this
      revert this
      decide

/-- What the specification's ReadDec answers is what ReadDec answers. -/
theorem rd_spec_yes (l : List UInt8) (hk : cnt l ≤ 9) (hd : Lib.itoa (sgn l (num 0 l)) = l) : IsRd l (sgn l (num 0 l)) true := by
  have h := num_lt l 0 0 (by simp)
  have h2 : 10 ^ (0 + cnt l) ≤ 10 ^ 9 := Nat.pow_le_pow_right (by omega) (by omega)
  refine Or.inl ⟨rfl, ?_, ?_, hd.symm⟩ <;> (unfold sgn; split <;> omega)

theorem rd_spec_no (l : List UInt8) (h : 9 < cnt l ∨ 10 < l.length ∨ Lib.itoa (sgn l (num 0 l)) ≠ l) : IsRd l 0 false := by
  refine Or.inr ⟨rfl, rfl, fun m h1 h2 he => ?_⟩
  have hb := itoa_back m h1 h2
  subst he
  rw [hb.1] at h
  rcases h with h | h | h
  · omega
  · omega
  · exact h rfl
end

section
open Go.ChangeShapes Go.WideShapes Go.ChangeAt Go.RowKit

theorem conv1 (w : World) (x : Int) : (convert 22 9 (.slice (some ⟨w.heap.size, 0, none⟩) 1 1)).run Tryz.prog (w.alloc (.cells #[.int .u8 x] 5)) =
    .ok (.string (strOfNums [x])) (w.alloc (.cells #[.int .u8 x] 5)) :=
  run_convert_bytes_arg _ 22 5 Tryz.underlying22 Tryz.underlying5 w.heap.size 0 1 1 [x] rfl (fun i hi => by
    obtain rfl : i = 0 := by omega
    rw [World.cell?_alloc_at _ _ _ _ rfl]
    rfl) 9 Tryz.underlying9

/-- q is still to be written ahead of L. -/
def Left (N q : Nat) (L : List UInt8) : Prop := (q = 0 → L = Lib.decDigits N) ∧ (0 < q → Lib.decDigits q ++ L = Lib.decDigits N)

theorem left_start (N : Nat) (h : 0 < N) : Left N N [] := ⟨fun h0 => by omega, fun _ => by simp⟩

theorem left_step {N q : Nat} {L : List UInt8} (h : Left N q L) (hq : 0 < q) : Left N (q / 10) (UInt8.ofNat (48 + q % 10) :: L) := by
  have h2 := h.2 hq
  by_cases hs : q < 10
  · rw [dd_small hs] at h2
    refine ⟨fun _ => ?_, fun h0 => by omega⟩
    rw [← h2, show q % 10 = q by omega]
    rfl
  · rw [dd_big hs, List.append_assoc] at h2
    exact ⟨fun h0 => by omega, fun _ => h2⟩

theorem left_length {N q : Nat} {L : List UInt8} (h : Left N q L) (hN : N < 10000000000000000000) : L.length ≤ 19 := by
  have hl := dd_length 18 N (by omega)
  by_cases hq : q = 0
  · rw [h.1 hq]; exact hl
  · rw [← h.2 (by omega)] at hl
    simp at hl
    omega

theorem lay_digit (q : Nat) (L : List UInt8) : strOfNums [(48 : Int) + (q : Int) % 10] ++ ByteArray.mk L.toArray = ByteArray.mk (UInt8.ofNat (48 + q % 10) :: L).toArray := by
  show ByteArray.mk ([((48 : Int) + (q : Int) % 10)].map fun n => UInt8.ofNat n.toNat).toArray ++ ByteArray.mk L.toArray = _
  rw [ByteArray.mk_append_mk]
  have e : ((48 : Int) + (q : Int) % 10).toNat = 48 + q % 10 := by omega
  simp [e]
end

section
open Go.ChangeShapes Go.WideShapes Go.ChangeAt Go.RowKit

/-- All memory but one block is as it was. -/
def But (g : Nat) (w w' : World) : Prop := w.heap.size ≤ w'.heap.size ∧ ∀ h, h < w.heap.size → h ≠ g → w'.heap[h]? = w.heap[h]?

theorem But.refl (g : Nat) (w : World) : But g w w := ⟨Nat.le_refl _, fun _ _ _ => rfl⟩

theorem But.setCell {g : Nat} {w w' : World} (h : But g w w') (o : Nat) (v : Value) : But g w (w'.setCell ⟨g, o, none⟩ v) :=
  ⟨by have := h.1; simpa using this, fun k hk hn => (heap_setCell_other w' ⟨g, o, none⟩ k v hn).trans (h.2 k hk hn)⟩

theorem But.call {g : Nat} {w w' w2 : World} (h : But g w w') (b : Below w'.heap.size w' w2) : But g w w2 :=
  ⟨Nat.le_trans h.1 b.size, fun k hk hn => (b.block k (Nat.lt_of_lt_of_le hk h.1)).trans (h.2 k hk hn)⟩
end

section
open Go.ChangeShapes Go.WideShapes Go.ChangeAt Go.RowKit

def markL (k : Nat) : List UInt8 := 109 :: Lib.decDigits k
def markS (k : Nat) : ByteArray := ⟨(markL k).toArray⟩

theorem mark_join (L : List UInt8) : ByteArray.mk #[109] ++ ByteArray.mk L.toArray = ByteArray.mk (109 :: L).toArray := by
  rw [show (#[109] : Array UInt8) = [109].toArray from rfl, ByteArray.mk_append_mk]
  simp

set_option maxRecDepth 20000 in
theorem mark_text (N : Nat) (h0 : 0 < N) (hN : N < 9223372036854775808) (w : World) :
    Calls Tryz.prog 55 #[.int .i64 N] w fun e w' => e = .returned (.string (markS N)) ∧ Below w.heap.size w w' := by
  go_enter Tryz.func55, Tryz.ntmps55
  go_wp2
  go_loopw [0, 3] (fun n out wr => ∃ (q : Nat) (L : List UInt8), n = .int .i64 q ∧ q ≤ N ∧ out = .string ⟨L.toArray⟩ ∧ Hid (Left N q L) ∧ Below w.heap.size w wr) (fun n _ _ => (intOf n).toNat)
  case atStart => exact ⟨N, [], rfl, Nat.le_refl _, rfl, left_start N h0, Below.refl _ _⟩
  case round =>
    obtain ⟨q, L, rfl, hq, rfl, hleft, hbel⟩ := hrel
    have hlen := left_length hleft.out (by omega)
    by_cases hq0 : q = 0
    · subst hq0
      have E : Hid (L = Lib.decDigits N) := hleft.out.1 rfl
      have hs2 : (ByteArray.mk L.toArray).size ≤ 19 := by simpa [ByteArray.size] using hlen
      have hs3 : (ByteArray.mk #[109]).size = 1 := rfl
      have HF : Hid (ByteArray.mk #[109] ++ ByteArray.mk L.toArray = markS N) := by
        show ByteArray.mk #[109] ++ ByteArray.mk L.toArray = markS N
        rw [mark_join, E.out]
        rfl
      clear hleft
      go_wp2
      go_ret
      exact ⟨by rw [← HF.out]; rfl, hbel⟩
    · have hpos : 0 < q := by omega
      have hpos' : (0 : Int) < q := by omega
      have hc := conv1 wr
      have hs1 : ∀ x, (strOfNums [x]).size = 1 := fun x => strOfNums_size [x]
      have hs2 : (ByteArray.mk L.toArray).size ≤ 19 := by simpa [ByteArray.size] using hlen
      have E : Hid (Left N (q / 10) (UInt8.ofNat (48 + q % 10) :: L)) := left_step hleft.out hpos
      clear hleft
      go_wp2
      go_roundw
      case rel => exact ⟨q / 10, UInt8.ofNat (48 + q % 10) :: L, by go_num, by omega, by rw [lay_digit], E, hbel.alloc hbel.size _⟩
      case measure => simp [intOf]; omega

theorem mark_at (x : Int) (N : Nat) (hx : x = N) (h0 : 0 < N) (hN : N < 9223372036854775808) (w : World) :
    Calls Tryz.prog 55 #[.int .i64 x] w fun e w' => e = .returned (.string (markS N)) ∧ Below w.heap.size w w' := by
  subst hx
  exact mark_text N h0 hN w

theorem mt_name : (Tryz.f55.name == "runtime.NumGoroutine") = false := by kernel_rfl
theorem mt_body : Tryz.f55.body.isNone = false := by kernel_rfl
end

section
open Go.ChangeShapes Go.WideShapes Go.ChangeAt Go.RowKit

/-- Numbers that lie in a block. -/
def IntAt (w : World) (g : Nat) (st : List Int) : Prop := ∀ i, i < st.length → w.cell? ⟨g, i, none⟩ = some (.int .i64 (st.getD i 0))

theorem int_lt {w : World} {g o : Nat} {v : Value} (h : w.cell? ⟨g, o, none⟩ = some v) : g < w.heap.size := nod_lt h

theorem IntAt.lt {w : World} {g : Nat} {st : List Int} (h : IntAt w g st) (hl : 0 < st.length) : g < w.heap.size := int_lt (h 0 hl)

theorem IntAt.below {w w' : World} {g B : Nat} {st : List Int} (h : IntAt w g st) (hb : Below B w w') (hg : 0 < st.length → g < B) : IntAt w' g st :=
  fun i hi => (World.cell?_of_block (hb.block g (hg (by omega)))).trans (h i hi)

/-- The row of a block that opens with these numbers. -/
def intRow (st : List Int) (sp : List Value) : Array Value := (st.map (Value.int .i64) ++ sp).toArray

theorem int_of_row {w : World} {g : Nat} {st : List Int} {sp : List Value} {t : TypeId} {z : Nat × Nat} (h : 0 < st.length → w.heap[g]? = some (.cells (intRow st sp) t z)) : IntAt w g st := by
  intro i hi
  have h' := h (by omega)
  rw [cell_of_row _ _ _ _ _ _ h']
  simp [intRow, List.getD, List.getElem?_append, hi]

theorem ownI_open {w : World} {B : Nat} {v : Value} {st : List Int} (h : ownI w B v st) :
    ∃ (a : Option Addr) (g cap : Nat) (sp : List Value), v = .slice a st.length cap ∧ (0 < st.length → a = some ⟨g, 0, none⟩) ∧ B ≤ g ∧ (0 < st.length → w.heap[g]? = some (.cells (intRow st sp) 3 (0, 0))) := by
  rcases h.2 with ⟨rfl, hz⟩ | ⟨g, cap, cur, rfl, hb, hg, hn, hm, hs, ht⟩
  · exact ⟨none, B, 0, [], by rw [hz], fun h => absurd h (by omega), Nat.le_refl _, fun h => absurd h (by omega)⟩
  · have hc : cur = intRow st (cur.toList.drop (st.length * 1)) := by
      apply Array.toList_inj.1
      unfold intRow
      rw [← ht]
      simp
    exact ⟨some ⟨g, 0, none⟩, g, cap, cur.toList.drop (st.length * 1), rfl, fun _ => rfl, hb, fun _ => by rw [← hc]; exact hg⟩

/-- A slice opens with these numbers, in a block that lies from B on, of whatever type. -/
def holdI (w : World) (B : Nat) (v : Value) (st : List Int) : Prop :=
  ∃ (ty : TypeId) (a : Option Addr) (g cap : Nat) (sp : List Value), v = .slice a st.length cap ∧ (0 < st.length → a = some ⟨g, 0, none⟩) ∧ B ≤ g ∧ (0 < st.length → w.heap[g]? = some (.cells (intRow st sp) ty (0, 0)))

theorem ownI_hold {w : World} {B : Nat} {v : Value} {st : List Int} (h : ownI w B v st) : holdI w B v st := ⟨3, ownI_open h⟩

/-- The marks that are written. -/
def intMkd (st : List Int) : Nat → List Int
  | 0 => st
  | k + 1 => (intMkd st k).set k (1 + k : Nat)

theorem intMkd_length (st : List Int) : ∀ k, (intMkd st k).length = st.length
  | 0 => rfl
  | k + 1 => by rw [intMkd, List.length_set, intMkd_length st k]

theorem intMkd_at (st : List Int) : ∀ (k i : Nat), i < k → i < st.length → (intMkd st k).getD i 0 = (1 + i : Nat)
  | 0, i, h, _ => by omega
  | k + 1, i, h, hl => by
    rw [intMkd]
    by_cases hik : i = k
    · subst hik
      simp [List.getD, intMkd_length, hl]
    · have ih := intMkd_at st k i (by omega) hl
      have hki : ¬ k = i := fun e => hik e.symm
      simp only [List.getD, List.getElem?_set, hki, if_false] at ih ⊢
      exact ih

theorem intRow_set (st : List Int) (sp : List Value) (k : Nat) (x : Int) (h : k < st.length) : (intRow st sp).setIfInBounds k (.int .i64 x) = intRow (st.set k x) sp := by
  unfold intRow
  rw [List.setIfInBounds_toArray, List.set_append_left _ _ (by simpa using h), List.map_set]
end

section
open Go.ChangeShapes Go.WideShapes Go.ChangeAt Go.RowKit

/-- What l6Bound ends with: names and roles in two rows. -/
def BdEnd (L : List (ByteArray × Int)) (B : Nat) (e : Ending) (w : World) : Prop :=
  ∃ (P R : Nat), e = .returned (.tuple #[.slice (some ⟨P, 0, none⟩) L.length L.length, .slice (some ⟨R, 0, none⟩) L.length L.length]) ∧ B ≤ P ∧ B ≤ R ∧
    w.heap[P]? = some (.cells (L.map (fun x => Value.string x.1)).toArray 9 (0, 0)) ∧ w.heap[R]? = some (.cells (L.map (fun x => Value.int .i64 x.2)).toArray 3 (0, 0))

theorem bd_end (w : World) (o : Obj) (L : List (ByteArray × Int)) :
    BdEnd L w.heap.size (.returned (.tuple #[.slice (some ⟨w.heap.size + 1, 0, none⟩) L.length L.length, .slice (some ⟨w.heap.size + 2, 0, none⟩) L.length L.length])) (((w.alloc o).alloc (.cells (L.map (fun x => Value.string x.1)).toArray 9)).alloc (.cells (L.map (fun x => Value.int .i64 x.2)).toArray 3)) ∧
    Below w.heap.size w (((w.alloc o).alloc (.cells (L.map (fun x => Value.string x.1)).toArray 9)).alloc (.cells (L.map (fun x => Value.int .i64 x.2)).toArray 3)) := by
  refine ⟨⟨_, _, rfl, by omega, by omega, ?_, ?_⟩, (((Below.refl _ w).alloc (Nat.le_refl _) _).alloc (by simp) _).alloc (by simp; omega) _⟩
  · rw [Below.heap_alloc _ _ _ (by simp)]
    have := (MapKept.heap_alloc (w.alloc o) (.cells (L.map (fun x => Value.string x.1)).toArray 9)).1
    simpa using this
  · have := (MapKept.heap_alloc ((w.alloc o).alloc (.cells (L.map (fun x => Value.string x.1)).toArray 9)) (.cells (L.map (fun x => Value.int .i64 x.2)).toArray 3)).1
    simpa using this

set_option maxHeartbeats 2000000 in
set_option maxRecDepth 20000 in
theorem spec_bound (k a b c n : Int) (s o : ByteArray) (kid : Int) (w : World) :
    Calls Tryz.prog 103 #[.agg #[.int .i64 k, .int .i64 a, .int .i64 b, .int .i64 c, .int .i64 n, .string s, .string o], .int .i64 kid] w fun e w' => BdEnd (bndL ⟨k, a, b, c, n, s, o⟩ kid) w.heap.size e w' ∧ Below w.heap.size w w' := by
  by_cases h3 : k = 3
  · have HV : Hid (bndL ⟨k, a, b, c, n, s, o⟩ kid = [(s, 0)]) := by show bndL _ kid = _; rw [bndL, if_pos h3]
    subst h3
    have HE : Hid (_) := bd_end w (.cells #[.int .i64 3, .int .i64 a, .int .i64 b, .int .i64 c, .int .i64 n, .string s, .string o] 38) [(s, 0)]
    go_enter Tryz.func103, Tryz.ntmps103
    go_wp2
    go_ret2
    rw [HV.out]
    exact HE.out
  by_cases h5 : k = 5
  · by_cases hc : kid = b
    · have HV : Hid (bndL ⟨k, a, b, c, n, s, o⟩ kid = [(s, 0)]) := by show bndL _ kid = _; rw [bndL, if_neg h3, if_pos (Or.inl h5), if_pos hc]
      subst h5
      subst hc
      have HE : Hid (_) := bd_end w (.cells #[.int .i64 5, .int .i64 a, .int .i64 kid, .int .i64 c, .int .i64 n, .string s, .string o] 38) [(s, 0)]
      go_enter Tryz.func103, Tryz.ntmps103
      go_wp2
      go_ret2
      rw [HV.out]
      exact HE.out
    · have HV : Hid (bndL ⟨k, a, b, c, n, s, o⟩ kid = []) := by show bndL _ kid = _; rw [bndL, if_neg h3, if_pos (Or.inl h5), if_neg hc]
      subst h5
      have HE : Hid (_) := bd_end w (.cells #[.int .i64 5, .int .i64 a, .int .i64 b, .int .i64 c, .int .i64 n, .string s, .string o] 38) []
      go_enter Tryz.func103, Tryz.ntmps103
      go_wp2
      go_ret2
      rw [HV.out]
      exact HE.out
  by_cases h19 : k = 19
  · by_cases hc : kid = b
    · have HV : Hid (bndL ⟨k, a, b, c, n, s, o⟩ kid = [(s, 0)]) := by show bndL _ kid = _; rw [bndL, if_neg h3, if_pos (Or.inr h19), if_pos hc]
      subst h19
      subst hc
      have HE : Hid (_) := bd_end w (.cells #[.int .i64 19, .int .i64 a, .int .i64 kid, .int .i64 c, .int .i64 n, .string s, .string o] 38) [(s, 0)]
      go_enter Tryz.func103, Tryz.ntmps103
      go_wp2
      go_ret2
      rw [HV.out]
      exact HE.out
    · have HV : Hid (bndL ⟨k, a, b, c, n, s, o⟩ kid = []) := by show bndL _ kid = _; rw [bndL, if_neg h3, if_pos (Or.inr h19), if_neg hc]
      subst h19
      have HE : Hid (_) := bd_end w (.cells #[.int .i64 19, .int .i64 a, .int .i64 b, .int .i64 c, .int .i64 n, .string s, .string o] 38) []
      go_enter Tryz.func103, Tryz.ntmps103
      go_wp2
      go_ret2
      rw [HV.out]
      exact HE.out
  by_cases h6 : k = 6
  · by_cases hc : kid = a
    · have HV : Hid (bndL ⟨k, a, b, c, n, s, o⟩ kid = [(o, 1), (s, 0)]) := by show bndL _ kid = _; rw [bndL, if_neg h3, if_neg (by show ¬ (k = 5 ∨ k = 19); omega), if_pos h6, if_pos hc]
      subst h6
      subst hc
      have HE : Hid (_) := bd_end w (.cells #[.int .i64 6, .int .i64 kid, .int .i64 b, .int .i64 c, .int .i64 n, .string s, .string o] 38) [(o, 1), (s, 0)]
      go_enter Tryz.func103, Tryz.ntmps103
      go_wp2
      go_ret2
      rw [HV.out]
      exact HE.out
    · have HV : Hid (bndL ⟨k, a, b, c, n, s, o⟩ kid = [(s, 0)]) := by show bndL _ kid = _; rw [bndL, if_neg h3, if_neg (by show ¬ (k = 5 ∨ k = 19); omega), if_pos h6, if_neg hc]
      subst h6
      have HE : Hid (_) := bd_end w (.cells #[.int .i64 6, .int .i64 a, .int .i64 b, .int .i64 c, .int .i64 n, .string s, .string o] 38) [(s, 0)]
      go_enter Tryz.func103, Tryz.ntmps103
      go_wp2
      go_ret2
      rw [HV.out]
      exact HE.out
  by_cases h14 : k = 14
  · by_cases hc : kid = c
    · have HV : Hid (bndL ⟨k, a, b, c, n, s, o⟩ kid = [(o, 1), (s, 0)]) := by show bndL _ kid = _; rw [bndL, if_neg h3, if_neg (by show ¬ (k = 5 ∨ k = 19); omega), if_neg h6, if_pos h14, if_pos hc]
      subst h14
      subst hc
      have HE : Hid (_) := bd_end w (.cells #[.int .i64 14, .int .i64 a, .int .i64 b, .int .i64 kid, .int .i64 n, .string s, .string o] 38) [(o, 1), (s, 0)]
      go_enter Tryz.func103, Tryz.ntmps103
      go_wp2
      go_ret2
      rw [HV.out]
      exact HE.out
    · have HV : Hid (bndL ⟨k, a, b, c, n, s, o⟩ kid = []) := by show bndL _ kid = _; rw [bndL, if_neg h3, if_neg (by show ¬ (k = 5 ∨ k = 19); omega), if_neg h6, if_pos h14, if_neg hc]
      subst h14
      have HE : Hid (_) := bd_end w (.cells #[.int .i64 14, .int .i64 a, .int .i64 b, .int .i64 c, .int .i64 n, .string s, .string o] 38) []
      go_enter Tryz.func103, Tryz.ntmps103
      go_wp2
      go_ret2
      rw [HV.out]
      exact HE.out
  have HV : Hid (bndL ⟨k, a, b, c, n, s, o⟩ kid = []) := by show bndL _ kid = _; rw [bndL, if_neg h3, if_neg (by show ¬ (k = 5 ∨ k = 19); omega), if_neg h6, if_neg h14]
  have HE : Hid (_) := bd_end w (.cells #[.int .i64 k, .int .i64 a, .int .i64 b, .int .i64 c, .int .i64 n, .string s, .string o] 38) []
  go_enter Tryz.func103, Tryz.ntmps103
  go_wp2
  go_ret2
  rw [HV.out]
  exact HE.out
end

section
open Go.ChangeShapes Go.WideShapes Go.ChangeAt Go.RowKit

theorem has_step (st : List Int) (x : Int) (k : Nat) (hk : k < st.length) : hasI (st.drop k) x = (x == st.getD k 0 || hasI (st.drop (k + 1)) x) := by
  unfold hasI
  rw [List.drop_eq_getElem_cons hk, List.contains_cons]
  simp [List.getD, hk]

set_option maxRecDepth 20000 in
theorem spec_has (a : Option Addr) (g cap : Nat) (st : List Int) (x : Int) (hl : st.length ≤ 1048576) (ha : 0 < st.length → a = some ⟨g, 0, none⟩) (w : World) (hA : IntAt w g st) :
    Calls Tryz.prog 127 #[.slice a st.length cap, .int .i64 x] w fun e w' => e = .returned (.bool (hasI st x)) ∧ Below w.heap.size w w' := by
  have HA : Hid (IntAt w g st) := hA
  clear hA
  go_enter Tryz.func127, Tryz.ntmps127
  go_wp2
  go_loopw [5] (fun i wr => ∃ k : Nat, k ≤ st.length ∧ i = .int .i64 k ∧ Hid (hasI st x = hasI (st.drop k) x) ∧ Below w.heap.size w wr) (fun i _ => st.length - (intOf i).toNat)
  case atStart => exact ⟨0, by omega, rfl, rfl, Below.refl _ _⟩
  case round =>
    obtain ⟨k, hk, rfl, HC, hbl⟩ := hrel
    by_cases hin : k < st.length
    · have e1 : (k : Int) < st.length := by omega
      obtain rfl := ha (by omega)
      have t := (HA.out.below hbl (fun h => HA.out.lt h)) k hin
      have hst := has_step st x k hin
      generalize st.getD k 0 = y at t hst
      by_cases hy : y = x
      · subst hy
        have HV : Hid (hasI st y = true) := by show hasI st y = true; rw [HC.out, hst]; simp
        clear hst HC
        go_wp2
        go_ret
        exact ⟨by rw [HV.out] <;> rfl, hbl⟩
      · have hy' : ¬ x = y := fun e => hy e.symm
        have HV : Hid (hasI st x = hasI (st.drop (k + 1)) x) := by
          show hasI st x = _
          rw [HC.out, hst, beq_eq_false_iff_ne.2 hy', Bool.false_or]
        clear hst HC
        go_wp2
        go_roundw
        case rel => exact ⟨k + 1, by omega, by go_num, HV.out, hbl⟩
        case measure => simp [intOf]; omega
    · have HV : Hid (hasI st x = false) := by
        show hasI st x = false
        rw [HC.out, List.drop_eq_nil_of_le (by omega)]; rfl
      clear HC
      go_wp2
      go_ret
      exact ⟨by rw [HV.out] <;> rfl, hbl⟩

theorem kids_at {w : World} {g : Nat} {t : TypeId} {a b c k : Int} (h : w.heap[g]? = some (.cells #[.int .i64 a, .int .i64 b, .int .i64 c] t (0, 0))) : IntAt w g ([a, b, c].take (arN k)) := by
  intro i hi
  have har := arN_le k
  rw [cell_of_row _ _ _ _ _ _ h]
  have hi' : i < arN k := by simp at hi; omega
  rcases (by omega : i = 0 ∨ i = 1 ∨ i = 2) with rfl | rfl | rfl <;> simp [List.getD, hi']

theorem kidL_take (t : Nod) : kidL t = [t.a, t.b, t.c].take (arN t.kind) := by
  unfold kidL
  rfl

set_option maxHeartbeats 1000000 in
set_option maxRecDepth 20000 in
theorem spec_parent (a : Option Addr) (g cap : Nat) (ts : List Nod) (i : Int) (hne : 0 < ts.length → a = some ⟨g, 0, none⟩) (hl : ts.length ≤ 1048576)
    (hst : ∀ i, i < ts.length → (ts.getD i noNod).name.size ≤ maxLen ∧ (ts.getD i noNod).other.size ≤ maxLen) (w : World) (hA : NodAt w g ts) :
    Calls Tryz.prog 102 #[.slice a ts.length cap, .int .i64 i] w fun e w' => e = .returned (.int .i64 (parB ts i)) ∧ Below w.heap.size w w' := by
  have HA : Hid (NodAt w g ts) := hA
  have HT : Hid (∀ i, i < ts.length → (ts.getD i noNod).name.size ≤ maxLen ∧ (ts.getD i noNod).other.size ≤ maxLen) := hst
  clear hA hst
  by_cases hok : nodesB ts = true
  · have HB : Hid (parB ts i = parU ts i ts.length) := by show parB ts i = _; rw [parB, if_pos hok]; rfl
    have HO : Hid (nodesB ts = true) := hok
    clear hok
    go_enter Tryz.func102, Tryz.ntmps102
    go_wp2_with fail
    refine (spec_nodes a g cap ts hne hl HT.out w HA.out).mono ?_
    rintro e w1 ⟨rfl, hb1⟩
    rw [HO.out]
    go_wp2
    go_loopw [5] (fun i' wr => ∃ k : Nat, k ≤ ts.length ∧ i' = .int .i64 k ∧ Hid (parB ts i = parU ts i (ts.length - k)) ∧ Below w.heap.size w wr) (fun i' _ => ts.length - (intOf i').toNat)
    case atStart => exact ⟨0, by omega, rfl, HB.out, hb1⟩
    case round =>
      obtain ⟨k, hk, rfl, HC, hbl⟩ := hrel
      by_cases hin : k < ts.length
      · have e1 : (k : Int) < ts.length := by omega
        obtain rfl := hne (by omega)
        have t := (HA.out.below hbl (fun h => HA.out.lt h)) k hin
        have hp := @parU_at ts i k hin
        rw [← HC.out, kidL_take] at hp
        have HP : Hid (_) := hp
        clear hp HC
        generalize ts.getD k noNod = x at t HP
        obtain ⟨x0, x1, x2, x3, x4, x5, x6⟩ := x
        have q0 : wr.cell? ⟨g, k * 7, none⟩ = some (.int .i64 x0) := t.c0
        have q1 : wr.cell? ⟨g, k * 7 + 1, none⟩ = some (.int .i64 x1) := t.c1
        have q2 : wr.cell? ⟨g, k * 7 + 2, none⟩ = some (.int .i64 x2) := t.c2
        have q3 : wr.cell? ⟨g, k * 7 + 3, none⟩ = some (.int .i64 x3) := t.c3
        have q4 : wr.cell? ⟨g, k * 7 + 4, none⟩ = some (.int .i64 x4) := t.c4
        have q5 : wr.cell? ⟨g, k * 7 + 5, none⟩ = some (.string x5) := t.c5
        have q6 : wr.cell? ⟨g, k * 7 + 6, none⟩ = some (.string x6) := t.c6
        have hlen : ([x1, x2, x3].take (arN x0)).length = arN x0 := by have := arN_le x0; simp; omega
        clear t
        have HK : Hid (∀ (w : World) (g : Nat) (ty : TypeId), w.heap[g]? = some (.cells #[.int .i64 x1, .int .i64 x2, .int .i64 x3] ty (0, 0)) → IntAt w g ([x1, x2, x3].take (arN x0))) := fun w g ty h => kids_at h
        have har := arN_le x0
        obtain ⟨st, hst⟩ : ∃ st, [x1, x2, x3].take (arN x0) = st := ⟨_, rfl⟩
        change Hid (parB ts i = if hasI ([x1, x2, x3].take (arN x0)) i = true then (k : Int) else parU ts i (ts.length - (k + 1))) at HP
        rw [hst] at hlen HP HK
        clear hst
        go_wp2_with fail
        refine (spec_kids x0 x1 x2 x3 x4 x5 x6 wr).mono ?_
        rintro e w2 ⟨rfl, hr2, hb2⟩
        have s2 := hbl.size
        have K2 : Hid (IntAt w2 (wr.heap.size + 1) st) := HK.out _ _ _ hr2
        have hst3 : st.length ≤ 3 := by omega
        rw [← hlen]
        clear hlen HK har hr2
        go_wp2_with fail
        refine (spec_has _ (wr.heap.size + 1) 3 st i (by omega) (fun _ => rfl) w2 K2.out).mono ?_
        rintro e w3 ⟨rfl, hb3⟩
        have s3 := hb2.size
        have HB3 : Hid (Below w.heap.size w w3) := hbl.trans ((hb2.mono s2).trans (hb3.mono (by omega)))
        clear hb2 hb3 K2 q0 q1 q2 q3 q4 q5 q6
        cases hc : hasI st i
        · have HV : Hid (parB ts i = parU ts i (ts.length - (k + 1))) := by
            show parB ts i = _
            rw [HP.out]
            exact if_neg (by rw [hc]; exact Bool.false_ne_true)
          clear HP hc
          go_wp2
          go_roundw
          case rel => exact ⟨k + 1, by omega, by go_num, HV.out, HB3.out⟩
          case measure => simp [intOf]; omega
        · have HV : Hid (parB ts i = k) := by
            show parB ts i = _
            rw [HP.out]
            exact if_pos hc
          clear HP hc
          go_wp2
          go_ret
          exact ⟨by rw [HV.out] <;> rfl, HB3.out⟩
      · have HV : Hid (parB ts i = -1) := by
          show parB ts i = -1
          rw [HC.out, show ts.length - k = 0 by omega]; rfl
        clear HC
        go_wp2
        go_ret
        exact ⟨by rw [HV.out] <;> rfl, hbl⟩
  · have HV : Hid (parB ts i = -1) := by show parB ts i = -1; rw [parB, if_neg hok]
    have HO : Hid (nodesB ts = false) := by show nodesB ts = false; simpa using hok
    clear hok
    go_enter Tryz.func102, Tryz.ntmps102
    go_wp2_with fail
    refine (spec_nodes a g cap ts hne hl HT.out w HA.out).mono ?_
    rintro e w1 ⟨rfl, hb1⟩
    rw [HO.out]
    go_wp2
    go_ret
    exact ⟨by rw [HV.out] <;> rfl, hb1⟩
end

section
open Go.ChangeShapes Go.WideShapes Go.ChangeAt Go.RowKit

theorem impl_let_yes (b : Int) (h1 : 97 ≤ b) (h2 : b ≤ 122) (w : World) :
    Calls Tryz.prog 45 #[.int .u8 b] w fun e w' => e = .returned (.bool true) ∧ w' = w := by
  go_enter Tryz.func45, Tryz.ntmps45
  go_wp2
  go_ret
  exact ⟨rfl, rfl⟩

theorem impl_let_no (b : Int) (h : b < 97 ∨ 122 < b) (w : World) :
    Calls Tryz.prog 45 #[.int .u8 b] w fun e w' => e = .returned (.bool false) ∧ w' = w := by
  by_cases h1 : b < 97
  · go_enter Tryz.func45, Tryz.ntmps45
    go_wp2
    go_ret
    exact ⟨rfl, rfl⟩
  · have h2 : 122 < b := by omega
    have e : Ending.returned (Value.bool (decide (b ≤ 122))) = Ending.returned (Value.bool false) := by rw [decide_eq_false (by omega)]
    go_enter Tryz.func45, Tryz.ntmps45
    go_wp2
    go_ret
    exact ⟨e, rfl⟩

theorem impl_front_let (s : ByteArray) (hs : s.size ≤ maxLen) (w : World) :
    Calls Tryz.prog 44 #[.string s, .func (.func 45) #[] #[]] w fun e w' => (∃ n : Nat, RunTo lowA s 0 n ∧ e = .returned (.int .i64 n)) ∧ w' = w := by
  unfold maxLen at hs
  go_enter Tryz.func44, Tryz.ntmps44
  go_wp2
  go_loop [5] (fun n => ∃ k : Nat, k ≤ s.size ∧ (∀ j, j < k → lowA (bAt s j)) ∧ n = .int .i64 k) (fun n => s.size - (intOf n).toNat)
  case atStart => exact ⟨0, by omega, by intro j h; omega, rfl⟩
  case round =>
    obtain ⟨k, hk, hall, rfl⟩ := hrel
    by_cases hin : k < s.size
    · have hin' : (k : Int) < s.size := by omega
      have hb := bAt_in hin
      by_cases hl : lowA (bAt s k)
      · have h1 : 97 ≤ (s[k].toNat : Int) := by omega
        have h2 : (s[k].toNat : Int) ≤ 122 := by omega
        clear hb
        go_wp2_with fail
        refine (impl_let_yes _ h1 h2 w).mono ?_
        rintro e w1 ⟨rfl, rfl⟩
        go_wp2
        go_round
        case rel =>
          refine ⟨k + 1, by omega, fun j hj => ?_, by go_num⟩
          rcases Nat.lt_or_eq_of_le (Nat.le_of_lt_succ hj) with h | rfl
          · exact hall j h
          · exact hl
        case measure => simp [intOf]; omega
      · have h1 : (s[k].toNat : Int) < 97 ∨ 122 < (s[k].toNat : Int) := by omega
        clear hb
        go_wp2_with fail
        refine (impl_let_no _ h1 w).mono ?_
        rintro e w1 ⟨rfl, rfl⟩
        go_wp2
        go_ret
        exact ⟨⟨k, ⟨by omega, hk, fun j _ h => hall j h, fun _ => hl⟩, rfl⟩, rfl⟩
    · go_wp2
      go_ret
      exact ⟨⟨k, ⟨by omega, hk, fun j _ h => hall j h, fun h => absurd h hin⟩, rfl⟩, rfl⟩

theorem impl_word (s : ByteArray) (hs : s.size ≤ maxLen) (w : World) :
    Calls Tryz.prog 16 #[.string s] w fun e w' => e = .returned (.bool (isWordB s)) ∧ w' = w := by
  by_cases h1 : 1 ≤ s.size
  · by_cases h8 : s.size ≤ 8
    · have h1' : (1 : Int) ≤ s.size := by omega
      have h8' : (s.size : Int) ≤ 8 := by omega
      go_enter Tryz.func16, Tryz.ntmps16
      go_wp2_with fail
      refine (impl_front_let s hs w).mono ?_
      rintro e w1 ⟨⟨n, hn, rfl⟩, rfl⟩
      have hv : Hid (isWordB s = ((n : Int) == (s.size : Int))) := by
        show isWordB s = ((n : Int) == (s.size : Int))
        obtain ⟨_, h2, h3, h4⟩ := hn
        by_cases he : n = s.size
        · subst he
          rw [isWordB, decide_eq_true ⟨h1, h8, fun j hj => h3 j (Nat.zero_le _) hj⟩]
          simp
        · rw [isWordB, decide_eq_false (fun h => h4 (by omega) (h.2.2 n (by omega)))]
          symm
          simp
          omega
      clear hn
      go_wp2
      go_ret
      exact ⟨by rw [hv.out]; rfl, rfl⟩
    · have hv : Ending.returned (.bool false) = Ending.returned (.bool (isWordB s)) := by rw [isWordB, decide_eq_false (fun h => h8 h.2.1)]
      have h1' : (1 : Int) ≤ s.size := by omega
      have h8' : (8 : Int) < s.size := by omega
      go_enter Tryz.func16, Tryz.ntmps16
      go_wp2
      go_ret
      exact ⟨hv, rfl⟩
  · have hv : Ending.returned (.bool false) = Ending.returned (.bool (isWordB s)) := by rw [isWordB, decide_eq_false (fun h => h1 h.1)]
    have h1' : (s.size : Int) < 1 := by omega
    go_enter Tryz.func16, Tryz.ntmps16
    go_wp2
    go_ret
    exact ⟨hv, rfl⟩
end

section
open Go.ChangeShapes Go.WideShapes Go.ChangeAt Go.RowKit

theorem key_is (s : ByteArray) (j : Nat) (hj : j < 20) (h : keysL.getD j ByteArray.empty = s) : isKeyB s = true := decide_eq_true ((key_mem s).2 ⟨j, hj, h⟩)

theorem text_no {s : ByteArray} (l : List UInt8) (h : ¬ s = ⟨l.toArray⟩) : (s.toList == l) = false := by
  rw [beq_eq_false_iff_ne]
  intro e
  rw [Lib.toList_data] at e
  exact h (data_ext e)

set_option maxHeartbeats 2000000 in
theorem impl_key (s : ByteArray) (w : World) : Calls Tryz.prog 19 #[.string s] w fun e w' => e = .returned (.bool (isKeyB s)) ∧ w' = w := by
  by_cases h0 : s = ⟨#[102, 117, 110]⟩
  · have hv : Ending.returned (.bool true) = Ending.returned (.bool (isKeyB s)) := by rw [key_is s 0 (by omega) h0.symm]
    subst h0
    go_enter Tryz.func19, Tryz.ntmps19
    go_wp2
    go_ret
    exact ⟨hv, rfl⟩
  by_cases h1 : s = ⟨#[97, 112, 112]⟩
  · have hv : Ending.returned (.bool true) = Ending.returned (.bool (isKeyB s)) := by rw [key_is s 1 (by omega) h1.symm]
    subst h1
    go_enter Tryz.func19, Tryz.ntmps19
    go_wp2
    go_ret
    exact ⟨hv, rfl⟩
  by_cases h2 : s = ⟨#[108, 101, 116]⟩
  · have hv : Ending.returned (.bool true) = Ending.returned (.bool (isKeyB s)) := by rw [key_is s 2 (by omega) h2.symm]
    subst h2
    go_enter Tryz.func19, Tryz.ntmps19
    go_wp2
    go_ret
    exact ⟨hv, rfl⟩
  by_cases h3 : s = ⟨#[114, 101, 99]⟩
  · have hv : Ending.returned (.bool true) = Ending.returned (.bool (isKeyB s)) := by rw [key_is s 3 (by omega) h3.symm]
    subst h3
    go_enter Tryz.func19, Tryz.ntmps19
    go_wp2
    go_ret
    exact ⟨hv, rfl⟩
  by_cases h4 : s = ⟨#[105, 102]⟩
  · have hv : Ending.returned (.bool true) = Ending.returned (.bool (isKeyB s)) := by rw [key_is s 4 (by omega) h4.symm]
    subst h4
    go_enter Tryz.func19, Tryz.ntmps19
    go_wp2
    go_ret
    exact ⟨hv, rfl⟩
  by_cases h5 : s = ⟨#[97, 100, 100]⟩
  · have hv : Ending.returned (.bool true) = Ending.returned (.bool (isKeyB s)) := by rw [key_is s 5 (by omega) h5.symm]
    subst h5
    go_enter Tryz.func19, Tryz.ntmps19
    go_wp2
    go_ret
    exact ⟨hv, rfl⟩
  by_cases h6 : s = ⟨#[115, 117, 98]⟩
  · have hv : Ending.returned (.bool true) = Ending.returned (.bool (isKeyB s)) := by rw [key_is s 6 (by omega) h6.symm]
    subst h6
    go_enter Tryz.func19, Tryz.ntmps19
    go_wp2
    go_ret
    exact ⟨hv, rfl⟩
  by_cases h7 : s = ⟨#[108, 101, 115, 115]⟩
  · have hv : Ending.returned (.bool true) = Ending.returned (.bool (isKeyB s)) := by rw [key_is s 7 (by omega) h7.symm]
    subst h7
    go_enter Tryz.func19, Tryz.ntmps19
    go_wp2
    go_ret
    exact ⟨hv, rfl⟩
  by_cases h8 : s = ⟨#[115, 97, 109, 101]⟩
  · have hv : Ending.returned (.bool true) = Ending.returned (.bool (isKeyB s)) := by rw [key_is s 8 (by omega) h8.symm]
    subst h8
    go_enter Tryz.func19, Tryz.ntmps19
    go_wp2
    go_ret
    exact ⟨hv, rfl⟩
  by_cases h9 : s = ⟨#[112, 97, 105, 114]⟩
  · have hv : Ending.returned (.bool true) = Ending.returned (.bool (isKeyB s)) := by rw [key_is s 9 (by omega) h9.symm]
    subst h9
    go_enter Tryz.func19, Tryz.ntmps19
    go_wp2
    go_ret
    exact ⟨hv, rfl⟩
  by_cases h10 : s = ⟨#[102, 115, 116]⟩
  · have hv : Ending.returned (.bool true) = Ending.returned (.bool (isKeyB s)) := by rw [key_is s 10 (by omega) h10.symm]
    subst h10
    go_enter Tryz.func19, Tryz.ntmps19
    go_wp2
    go_ret
    exact ⟨hv, rfl⟩
  by_cases h11 : s = ⟨#[115, 110, 100]⟩
  · have hv : Ending.returned (.bool true) = Ending.returned (.bool (isKeyB s)) := by rw [key_is s 11 (by omega) h11.symm]
    subst h11
    go_enter Tryz.func19, Tryz.ntmps19
    go_wp2
    go_ret
    exact ⟨hv, rfl⟩
  by_cases h12 : s = ⟨#[110, 105, 108]⟩
  · have hv : Ending.returned (.bool true) = Ending.returned (.bool (isKeyB s)) := by rw [key_is s 12 (by omega) h12.symm]
    subst h12
    go_enter Tryz.func19, Tryz.ntmps19
    go_wp2
    go_ret
    exact ⟨hv, rfl⟩
  by_cases h13 : s = ⟨#[99, 111, 110, 115]⟩
  · have hv : Ending.returned (.bool true) = Ending.returned (.bool (isKeyB s)) := by rw [key_is s 13 (by omega) h13.symm]
    subst h13
    go_enter Tryz.func19, Tryz.ntmps19
    go_wp2
    go_ret
    exact ⟨hv, rfl⟩
  by_cases h14 : s = ⟨#[109, 97, 116, 99, 104]⟩
  · have hv : Ending.returned (.bool true) = Ending.returned (.bool (isKeyB s)) := by rw [key_is s 14 (by omega) h14.symm]
    subst h14
    go_enter Tryz.func19, Tryz.ntmps19
    go_wp2
    go_ret
    exact ⟨hv, rfl⟩
  by_cases h15 : s = ⟨#[114, 101, 102]⟩
  · have hv : Ending.returned (.bool true) = Ending.returned (.bool (isKeyB s)) := by rw [key_is s 15 (by omega) h15.symm]
    subst h15
    go_enter Tryz.func19, Tryz.ntmps19
    go_wp2
    go_ret
    exact ⟨hv, rfl⟩
  by_cases h16 : s = ⟨#[103, 101, 116]⟩
  · have hv : Ending.returned (.bool true) = Ending.returned (.bool (isKeyB s)) := by rw [key_is s 16 (by omega) h16.symm]
    subst h16
    go_enter Tryz.func19, Tryz.ntmps19
    go_wp2
    go_ret
    exact ⟨hv, rfl⟩
  by_cases h17 : s = ⟨#[115, 101, 116]⟩
  · have hv : Ending.returned (.bool true) = Ending.returned (.bool (isKeyB s)) := by rw [key_is s 17 (by omega) h17.symm]
    subst h17
    go_enter Tryz.func19, Tryz.ntmps19
    go_wp2
    go_ret
    exact ⟨hv, rfl⟩
  by_cases h18 : s = ⟨#[114, 97, 105, 115, 101]⟩
  · have hv : Ending.returned (.bool true) = Ending.returned (.bool (isKeyB s)) := by rw [key_is s 18 (by omega) h18.symm]
    subst h18
    go_enter Tryz.func19, Tryz.ntmps19
    go_wp2
    go_ret
    exact ⟨hv, rfl⟩
  by_cases h19 : s = ⟨#[116, 114, 121]⟩
  · have hv : Ending.returned (.bool true) = Ending.returned (.bool (isKeyB s)) := by rw [key_is s 19 (by omega) h19.symm]
    subst h19
    go_enter Tryz.func19, Tryz.ntmps19
    go_wp2
    go_ret
    exact ⟨hv, rfl⟩
  have hv : Ending.returned (.bool false) = Ending.returned (.bool (isKeyB s)) := by
    rw [isKeyB, decide_eq_false (fun h => ?_)]
    obtain ⟨j, hj, h⟩ := (key_mem s).1 h
    rcases (by omega : j = 0 ∨ j = 1 ∨ j = 2 ∨ j = 3 ∨ j = 4 ∨ j = 5 ∨ j = 6 ∨ j = 7 ∨ j = 8 ∨ j = 9 ∨ j = 10 ∨ j = 11 ∨ j = 12 ∨ j = 13 ∨ j = 14 ∨ j = 15 ∨ j = 16 ∨ j = 17 ∨ j = 18 ∨ j = 19) with rfl | rfl | rfl | rfl | rfl | rfl | rfl | rfl | rfl | rfl | rfl | rfl | rfl | rfl | rfl | rfl | rfl | rfl | rfl | rfl
    · exact h0 h.symm
    · exact h1 h.symm
    · exact h2 h.symm
    · exact h3 h.symm
    · exact h4 h.symm
    · exact h5 h.symm
    · exact h6 h.symm
    · exact h7 h.symm
    · exact h8 h.symm
    · exact h9 h.symm
    · exact h10 h.symm
    · exact h11 h.symm
    · exact h12 h.symm
    · exact h13 h.symm
    · exact h14 h.symm
    · exact h15 h.symm
    · exact h16 h.symm
    · exact h17 h.symm
    · exact h18 h.symm
    · exact h19 h.symm
  have n0 : (s.toList == [102, 117, 110]) = false := text_no [102, 117, 110] h0
  have n1 : (s.toList == [97, 112, 112]) = false := text_no [97, 112, 112] h1
  have n2 : (s.toList == [108, 101, 116]) = false := text_no [108, 101, 116] h2
  have n3 : (s.toList == [114, 101, 99]) = false := text_no [114, 101, 99] h3
  have n4 : (s.toList == [105, 102]) = false := text_no [105, 102] h4
  have n5 : (s.toList == [97, 100, 100]) = false := text_no [97, 100, 100] h5
  have n6 : (s.toList == [115, 117, 98]) = false := text_no [115, 117, 98] h6
  have n7 : (s.toList == [108, 101, 115, 115]) = false := text_no [108, 101, 115, 115] h7
  have n8 : (s.toList == [115, 97, 109, 101]) = false := text_no [115, 97, 109, 101] h8
  have n9 : (s.toList == [112, 97, 105, 114]) = false := text_no [112, 97, 105, 114] h9
  have n10 : (s.toList == [102, 115, 116]) = false := text_no [102, 115, 116] h10
  have n11 : (s.toList == [115, 110, 100]) = false := text_no [115, 110, 100] h11
  have n12 : (s.toList == [110, 105, 108]) = false := text_no [110, 105, 108] h12
  have n13 : (s.toList == [99, 111, 110, 115]) = false := text_no [99, 111, 110, 115] h13
  have n14 : (s.toList == [109, 97, 116, 99, 104]) = false := text_no [109, 97, 116, 99, 104] h14
  have n15 : (s.toList == [114, 101, 102]) = false := text_no [114, 101, 102] h15
  have n16 : (s.toList == [103, 101, 116]) = false := text_no [103, 101, 116] h16
  have n17 : (s.toList == [115, 101, 116]) = false := text_no [115, 101, 116] h17
  have n18 : (s.toList == [114, 97, 105, 115, 101]) = false := text_no [114, 97, 105, 115, 101] h18
  have n19 : (s.toList == [116, 114, 121]) = false := text_no [116, 114, 121] h19
  clear h0 h1 h2 h3 h4 h5 h6 h7 h8 h9 h10 h11 h12 h13 h14 h15 h16 h17 h18 h19
  go_enter Tryz.func19, Tryz.ntmps19
  go_wp2
  go_ret
  exact ⟨hv, rfl⟩

theorem impl_arity (k : Int) (w : World) : Calls Tryz.prog 111 #[.int .i64 k] w fun e w' => e = .returned (.int .i64 (arN k : Nat)) ∧ w' = w := by
  by_cases h3 : k = 3
  · subst h3
    go_enter Tryz.func111, Tryz.ntmps111
    go_wp2
    go_ret
    exact ⟨rfl, rfl⟩
  by_cases h10 : k = 10
  · subst h10
    go_enter Tryz.func111, Tryz.ntmps111
    go_wp2
    go_ret
    exact ⟨rfl, rfl⟩
  by_cases h11 : k = 11
  · subst h11
    go_enter Tryz.func111, Tryz.ntmps111
    go_wp2
    go_ret
    exact ⟨rfl, rfl⟩
  by_cases h15 : k = 15
  · subst h15
    go_enter Tryz.func111, Tryz.ntmps111
    go_wp2
    go_ret
    exact ⟨rfl, rfl⟩
  by_cases h16 : k = 16
  · subst h16
    go_enter Tryz.func111, Tryz.ntmps111
    go_wp2
    go_ret
    exact ⟨rfl, rfl⟩
  by_cases h18 : k = 18
  · subst h18
    go_enter Tryz.func111, Tryz.ntmps111
    go_wp2
    go_ret
    exact ⟨rfl, rfl⟩
  by_cases h4 : k = 4
  · subst h4
    go_enter Tryz.func111, Tryz.ntmps111
    go_wp2
    go_ret
    exact ⟨rfl, rfl⟩
  by_cases h5 : k = 5
  · subst h5
    go_enter Tryz.func111, Tryz.ntmps111
    go_wp2
    go_ret
    exact ⟨rfl, rfl⟩
  by_cases h6 : k = 6
  · subst h6
    go_enter Tryz.func111, Tryz.ntmps111
    go_wp2
    go_ret
    exact ⟨rfl, rfl⟩
  by_cases h8 : k = 8
  · subst h8
    go_enter Tryz.func111, Tryz.ntmps111
    go_wp2
    go_ret
    exact ⟨rfl, rfl⟩
  by_cases h9 : k = 9
  · subst h9
    go_enter Tryz.func111, Tryz.ntmps111
    go_wp2
    go_ret
    exact ⟨rfl, rfl⟩
  by_cases h13 : k = 13
  · subst h13
    go_enter Tryz.func111, Tryz.ntmps111
    go_wp2
    go_ret
    exact ⟨rfl, rfl⟩
  by_cases h17 : k = 17
  · subst h17
    go_enter Tryz.func111, Tryz.ntmps111
    go_wp2
    go_ret
    exact ⟨rfl, rfl⟩
  by_cases h19 : k = 19
  · subst h19
    go_enter Tryz.func111, Tryz.ntmps111
    go_wp2
    go_ret
    exact ⟨rfl, rfl⟩
  by_cases h7 : k = 7
  · subst h7
    go_enter Tryz.func111, Tryz.ntmps111
    go_wp2
    go_ret
    exact ⟨rfl, rfl⟩
  by_cases h14 : k = 14
  · subst h14
    go_enter Tryz.func111, Tryz.ntmps111
    go_wp2
    go_ret
    exact ⟨rfl, rfl⟩
  have g3 : (k == 3) = false := by simpa using h3
  have g10 : (k == 10) = false := by simpa using h10
  have g11 : (k == 11) = false := by simpa using h11
  have g15 : (k == 15) = false := by simpa using h15
  have g16 : (k == 16) = false := by simpa using h16
  have g18 : (k == 18) = false := by simpa using h18
  have g4 : (k == 4) = false := by simpa using h4
  have g5 : (k == 5) = false := by simpa using h5
  have g6 : (k == 6) = false := by simpa using h6
  have g8 : (k == 8) = false := by simpa using h8
  have g9 : (k == 9) = false := by simpa using h9
  have g13 : (k == 13) = false := by simpa using h13
  have g17 : (k == 17) = false := by simpa using h17
  have g19 : (k == 19) = false := by simpa using h19
  have g7 : (k == 7) = false := by simpa using h7
  have g14 : (k == 14) = false := by simpa using h14
  have hz : Ending.returned (.int .i64 0) = Ending.returned (.int .i64 (arN k : Nat)) := by
    unfold arN
    rw [if_neg (by omega), if_neg (by omega), if_neg (by omega)]
    rfl
  clear h3 h10 h11 h15 h16 h18 h4 h5 h6 h8 h9 h13 h17 h19 h7 h14
  go_enter Tryz.func111, Tryz.ntmps111
  go_wp2
  go_ret
  exact ⟨hz, rfl⟩

theorem impl_names (k : Int) (w : World) : Calls Tryz.prog 88 #[.int .i64 k] w fun e w' => e = .returned (.int .i64 (nmN k : Nat)) ∧ w' = w := by
  by_cases h1 : k = 1
  · subst h1
    go_enter Tryz.func88, Tryz.ntmps88
    go_wp2
    go_ret
    exact ⟨rfl, rfl⟩
  by_cases h3 : k = 3
  · subst h3
    go_enter Tryz.func88, Tryz.ntmps88
    go_wp2
    go_ret
    exact ⟨rfl, rfl⟩
  by_cases h5 : k = 5
  · subst h5
    go_enter Tryz.func88, Tryz.ntmps88
    go_wp2
    go_ret
    exact ⟨rfl, rfl⟩
  by_cases h19 : k = 19
  · subst h19
    go_enter Tryz.func88, Tryz.ntmps88
    go_wp2
    go_ret
    exact ⟨rfl, rfl⟩
  by_cases h6 : k = 6
  · subst h6
    go_enter Tryz.func88, Tryz.ntmps88
    go_wp2
    go_ret
    exact ⟨rfl, rfl⟩
  by_cases h14 : k = 14
  · subst h14
    go_enter Tryz.func88, Tryz.ntmps88
    go_wp2
    go_ret
    exact ⟨rfl, rfl⟩
  have g1 : (k == 1) = false := by simpa using h1
  have g3 : (k == 3) = false := by simpa using h3
  have g5 : (k == 5) = false := by simpa using h5
  have g19 : (k == 19) = false := by simpa using h19
  have g6 : (k == 6) = false := by simpa using h6
  have g14 : (k == 14) = false := by simpa using h14
  have hz : Ending.returned (.int .i64 0) = Ending.returned (.int .i64 (nmN k : Nat)) := by
    unfold nmN
    rw [if_neg (by omega), if_neg (by omega)]
    rfl
  clear h1 h3 h5 h19 h6 h14
  go_enter Tryz.func88, Tryz.ntmps88
  go_wp2
  go_ret
  exact ⟨hz, rfl⟩

theorem impl_name (s : ByteArray) (hs : s.size ≤ maxLen) (w : World) : Calls Tryz.prog 35 #[.string s] w fun e w' => e = .returned (.bool (isNameB s)) ∧ w' = w := by
  have HN : Hid (isNameB s = (isWordB s && !isKeyB s)) := rfl
  go_enter Tryz.func35, Tryz.ntmps35
  go_wp2_with fail
  refine (impl_word s hs w).mono ?_
  rintro e w1 ⟨rfl, rfl⟩
  cases hw : isWordB s with
  | true =>
    go_wp2_with fail
    refine (impl_key s w1).mono ?_
    rintro e w2 ⟨rfl, rfl⟩
    have hv : Hid (isNameB s = !isKeyB s) := by show isNameB s = !isKeyB s; rw [HN.out, hw]; rfl
    clear HN hw
    generalize isKeyB s = b at *
    go_wp2
    go_ret
    exact ⟨by rw [hv.out]; rfl, rfl⟩
  | false =>
    have hv : Hid (isNameB s = false) := by show isNameB s = false; rw [HN.out, hw]; rfl
    clear HN hw
    go_wp2
    go_ret
    exact ⟨by rw [hv.out]; rfl, rfl⟩

/-- Is the text as it is wanted: a name, or none? -/
def wantB (s : ByteArray) (wanted : Bool) : Bool := if wanted then isNameB s else decide (s.size = 0)

theorem impl_want (s : ByteArray) (b : Bool) (hs : s.size ≤ maxLen) (w : World) : Calls Tryz.prog 114 #[.string s, .bool b] w fun e w' => e = .returned (.bool (wantB s b)) ∧ w' = w := by
  cases b with
  | true =>
    have HV : Hid (wantB s true = isNameB s) := rfl
    go_enter Tryz.func114, Tryz.ntmps114
    go_wp2_with fail
    refine (impl_name s hs w).mono ?_
    rintro e w1 ⟨rfl, rfl⟩
    generalize isNameB s = b at *
    go_wp2
    go_ret
    exact ⟨by rw [HV.out]; rfl, rfl⟩
  | false =>
    by_cases h0 : s.size = 0
    · have HV : Hid (wantB s false = true) := decide_eq_true h0
      obtain rfl := size_eq s h0
      clear h0 hs
      go_enter Tryz.func114, Tryz.ntmps114
      go_wp2
      go_ret
      exact ⟨by rw [HV.out]; rfl, rfl⟩
    · have HV : Hid (wantB s false = false) := decide_eq_false h0
      have hf := size_full s h0
      clear h0
      go_enter Tryz.func114, Tryz.ntmps114
      go_wp2
      go_ret
      exact ⟨by rw [HV.out]; rfl, rfl⟩
end

section
open Go.ChangeShapes Go.WideShapes Go.ChangeAt Go.RowKit

structure Bnd where
  node : Int
  role : Int

def noBnd : Bnd := ⟨0, 0⟩

def bndCells (t : Bnd) : List Value := [.int .i64 t.node, .int .i64 t.role]
def bndAgg (t : Bnd) : Value := .agg #[.int .i64 t.node, .int .i64 t.role]

/-- The i-th one's cells lie in block g behind each other. -/
structure BndIn (w : World) (g i : Nat) (t : Bnd) : Prop where
  c0 : w.cell? ⟨g, i * 2, none⟩ = some (.int .i64 t.node)
  c1 : w.cell? ⟨g, i * 2 + 1, none⟩ = some (.int .i64 t.role)

def BndAt (w : World) (g : Nat) (ts : List Bnd) : Prop := ∀ i, i < ts.length → BndIn w g i (ts.getD i noBnd)

theorem bnd_lt {w : World} {a : Addr} {v : Value} (h : w.cell? a = some v) : a.block < w.heap.size := World.block_lt_of_cell? w a h

theorem BndIn.below {w w' : World} {g i B : Nat} {t : Bnd} (h : BndIn w g i t) (hb : Below B w w') (hg : g < B) : BndIn w' g i t :=
  ⟨(World.cell?_of_block (hb.block g hg)).trans h.c0, (World.cell?_of_block (hb.block g hg)).trans h.c1⟩

theorem BndAt.below {w w' : World} {g B : Nat} {ts : List Bnd} (h : BndAt w g ts) (hb : Below B w w') (hg : 0 < ts.length → g < B) : BndAt w' g ts := fun i hi => (h i hi).below hb (hg (by omega))

theorem BndAt.lt {w : World} {g : Nat} {ts : List Bnd} (h : BndAt w g ts) (hl : 0 < ts.length) : g < w.heap.size := bnd_lt (h 0 hl).c0

theorem bnd_flat_at (ts : List Bnd) : ∀ (i j : Nat), i < ts.length → j < 2 → (ts.flatMap bndCells)[i * 2 + j]? = (bndCells (ts.getD i noBnd))[j]? := by
  induction ts with
  | nil => intro i j h _; simp at h
  | cons t ts ih =>
    intro i j h hj
    rcases i with _ | i
    · rw [List.flatMap_cons, List.getElem?_append_left (by simp [bndCells]; omega)]
      simp
    · rw [List.flatMap_cons, List.getElem?_append_right (by simp [bndCells]; omega)]
      have e : (i + 1) * 2 + j - (bndCells t).length = i * 2 + j := by simp [bndCells]; omega
      rw [e, ih i j (by simpa using h) hj]
      rfl

theorem bnd_flat_length (ts : List Bnd) : (ts.flatMap bndCells).length = ts.length * 2 := by
  induction ts with
  | nil => rfl
  | cons t ts ih => rw [List.flatMap_cons, List.length_append, ih]; simp [bndCells]; omega

theorem bnd_flat_set (t : Bnd) : ∀ (l : List Bnd) (k : Nat), k < l.length →
    (((l.flatMap bndCells).set (k * 2) (.int .i64 t.node)).set (k * 2 + 1) (.int .i64 t.role)) = (l.set k t).flatMap bndCells
  | [], k, h => by simp at h
  | y :: l, 0, h => by simp [bndCells]
  | y :: l, k + 1, h => by
    have ih := bnd_flat_set t l k (by simpa using h)
    rw [List.set_cons_succ, List.flatMap_cons, List.flatMap_cons, ← ih]
    have e : (k + 1) * 2 = k * 2 + 2 := by omega
    rw [e]
    simp [bndCells]

theorem bnd_flat_set' (t : Bnd) (l : List Bnd) (sp : List Value) (k : Nat) (hk : k < l.length) :
    (((l.flatMap bndCells ++ sp).set (k * 2) (.int .i64 t.node)).set (k * 2 + 1) (.int .i64 t.role)) = (l.set k t).flatMap bndCells ++ sp := by
  have hl := bnd_flat_length l
  rw [List.set_append_left _ _ (by first | omega | (simp only [List.length_set]; omega)), List.set_append_left _ _ (by first | omega | (simp only [List.length_set]; omega)), bnd_flat_set t l k hk]

/-- A row that holds the cells, and perhaps more behind them, holds them. -/
theorem bnd_of_row {w : World} {g : Nat} {e : TypeId} {l : List Bnd} {sp : List Value} (h : w.heap[g]? = some (.cells (l.flatMap bndCells ++ sp).toArray e (0, 0))) : BndAt w g l := by
  intro i hi
  have hl := bnd_flat_length l
  have c : ∀ j, j < 2 → w.cell? ⟨g, i * 2 + j, none⟩ = (bndCells (l.getD i noBnd))[j]? := fun j hj => by
    rw [cell_of_row w _ _ _ _ _ h, ← bnd_flat_at l i j hi hj, List.getElem?_toArray, List.getElem?_append_left (by omega)]
  exact ⟨c 0 (by omega), c 1 (by omega)⟩

theorem bnd_of_room {w : World} {g : Nat} {e : TypeId} {l : List Bnd} (h : w.heap[g]? = some (.cells (l.flatMap bndCells).toArray e (0, 0))) : BndAt w g l :=
  bnd_of_row (sp := []) (by rw [List.append_nil]; exact h)

/-- A slice of the call's own holds these. -/
abbrev ownBnd (w : World) (base : Nat) (v : Value) (ts : List Bnd) : Prop := w.ownsRow base 32 2 v ts.length (ts.flatMap bndCells)

theorem ownBnd_kept {w w' : World} {B N : Nat} {v : Value} {ts : List Bnd} (h : ownBnd w B v ts) (hb : Below N w w') (hN : w.heap.size ≤ N) : ownBnd w' B v ts := by
  refine ⟨h.1, ?_⟩
  rcases h.2 with h0 | ⟨g, cap, cur, hv, hbg, hg, rest⟩
  · exact .inl h0
  · refine .inr ⟨g, cap, cur, hv, hbg, ?_, rest⟩
    have hlt : g < w.heap.size := (Array.getElem?_eq_some_iff.1 hg).1
    rw [hb.block g (by omega)]
    exact hg

theorem ownBnd_base {w : World} {B B' : Nat} {v : Value} {ts : List Bnd} (h : ownBnd w B v ts) (hB : B' ≤ B) : ownBnd w B' v ts := by
  refine ⟨h.1, ?_⟩
  rcases h.2 with h0 | ⟨g, cap, cur, hv, hbg, rest⟩
  · exact .inl h0
  · exact .inr ⟨g, cap, cur, hv, by omega, rest⟩

theorem ownBnd_next {w : World} {B : Nat} {v : Value} {ts : List Bnd} {m : Nat} {xs : List Value} (t : Bnd) (h : w.ownsRow B 32 2 v m xs) (hn : m = ts.length + 1) (hx : xs = ts.flatMap bndCells ++ bndCells t) : ownBnd w B v (ts ++ [t]) := by
  subst hn hx
  show w.ownsRow B 32 2 v (ts ++ [t]).length ((ts ++ [t]).flatMap bndCells)
  rw [List.length_append, List.flatMap_append]
  simpa using h

theorem ownBnd_empty {w : World} {B : Nat} (hB : B ≤ w.heap.size) : ownBnd (w.alloc (.cells #[] 32)) B (.slice (some ⟨w.heap.size, 0, none⟩) 0 0) [] :=
  World.ownsRow_lit w #[] 0 hB (by omega) rfl

/-- The form of a slice that holds such of the call's own. -/
theorem ownBnd_form {w : World} {B : Nat} {v : Value} {ts : List Bnd} (h : ownBnd w B v ts) :
    ∃ (a : Option Addr) (g cap : Nat) (sp : List Value), v = .slice a ts.length cap ∧ (0 < ts.length → a = some ⟨g, 0, none⟩) ∧ BndAt w g ts ∧ B ≤ g ∧ (0 < ts.length → g < w.heap.size) ∧
      (0 < ts.length → w.heap[g]? = some (.cells (ts.flatMap bndCells ++ sp).toArray 32 (0, 0))) := by
  rcases h.2 with ⟨rfl, h0⟩ | ⟨g, cap, cur, rfl, hb, hg, hn, hm, hs, ht⟩
  · rw [h0]
    have e : ts = [] := List.length_eq_zero_iff.1 h0
    subst e
    exact ⟨none, B, 0, [], rfl, fun h => absurd h (by omega), fun i hi => absurd hi (by simp), Nat.le_refl _, fun h => absurd h (by omega), fun h => absurd h (by omega)⟩
  · have hc : cur = (ts.flatMap bndCells ++ cur.toList.drop (ts.length * 2)).toArray := by
      apply Array.toList_inj.1
      rw [← ht]
      simp
    have hg' : w.heap[g]? = some (.cells (ts.flatMap bndCells ++ cur.toList.drop (ts.length * 2)).toArray 32 (0, 0)) := by rw [hg, ← hc]
    exact ⟨some ⟨g, 0, none⟩, g, cap, cur.toList.drop (ts.length * 2), rfl, fun _ => rfl, bnd_of_row hg', hb, fun _ => (Array.getElem?_eq_some_iff.1 hg).1, fun _ => hg'⟩

theorem bnd_new {w : World} {N : Nat} (hN : w.heap.size = N) (x0 : Int) (x1 : Int) (e : TypeId) :
    ∀ j u, (bndCells ⟨x0, x1⟩)[j]? = some u → (w.alloc (.cells #[.int .i64 x0, .int .i64 x1] e)).cell? ((⟨N, 0, none⟩ : Addr).add j) = some u := by
  subst hN
  intro j u hj
  have hl : j < 2 := by
    rcases Nat.lt_or_ge j 2 with h | h
    · exact h
    · rw [List.getElem?_eq_none (by simpa [bndCells] using h)] at hj; cases hj
  rw [add_plain, cell_of_row _ _ _ _ _ _ (MapKept.heap_alloc w _).1]
  rcases (by omega : j = 0 ∨ j = 1) with rfl | rfl <;> exact hj

theorem bnd_one (t : Bnd) : ∀ u ∈ bndCells t, u.oneCell' = true := by
  intro u hu
  simp [bndCells] at hu
  rcases hu with rfl | rfl <;> rfl

theorem info_bnd : (Tryz.prog.info? 32).map (fun i => (i.zero, i.size, i.bytes)) = some (some (.agg #[.int .i64 0, .int .i64 0]), 2, 16) := by kernel_rfl
end

section
open Go.ChangeShapes Go.WideShapes Go.ChangeAt Go.RowKit

/-- What binds a name, in a list of binders. -/
def lookL : List (ByteArray × Int × Int) → ByteArray → Int × Int
  | [], _ => (-1, -1)
  | (s, n, r) :: l, x => if x = s then (n, r) else lookL l x

theorem cells7v {w : World} {g : Nat} {k a b c n : Int} {s o : ByteArray} {t : TypeId} {z : Nat × Nat} (h : w.heap[g]? = some (.cells #[.int .i64 k, .int .i64 a, .int .i64 b, .int .i64 c, .int .i64 n, .string s, .string o] t z)) :
    w.cell? ⟨g, 0, none⟩ = some (.int .i64 k) ∧ w.cell? ⟨g, 1, none⟩ = some (.int .i64 a) ∧ w.cell? ⟨g, 2, none⟩ = some (.int .i64 b) ∧ w.cell? ⟨g, 3, none⟩ = some (.int .i64 c) ∧ w.cell? ⟨g, 4, none⟩ = some (.int .i64 n) ∧ w.cell? ⟨g, 5, none⟩ = some (.string s) ∧ w.cell? ⟨g, 6, none⟩ = some (.string o) := by
  refine ⟨?_, ?_, ?_, ?_, ?_, ?_, ?_⟩ <;> (rw [cell_of_row _ _ _ _ _ _ h]; rfl)

/-- A scope as a value: its binders, the innermost first; it lies outside of block g. -/
def ScL (g : Nat) (w : World) : List (ByteArray × Int × Int) → Value → Prop
  | [], v => v = .func (.func 97) #[] #[]
  | (s, n, r) :: l, v => ∃ (a b c : Nat) (u : Value), v = .func (.func 132) #[] #[.pointer (some ⟨a, 0, none⟩), .pointer (some ⟨b, 0, none⟩), .pointer (some ⟨c, 0, none⟩)] ∧ a ≠ g ∧ b ≠ g ∧ c ≠ g ∧
      w.cell? ⟨a, 0, none⟩ = some (.string s) ∧ w.cell? ⟨b, 0, none⟩ = some (.int .i64 n) ∧ w.cell? ⟨b, 1, none⟩ = some (.int .i64 r) ∧ w.cell? ⟨c, 0, none⟩ = some u ∧ ScL g w l u

/-- All but one block is as it was. -/
def Kept (g : Nat) (w w' : World) : Prop := w.heap.size ≤ w'.heap.size ∧ ∀ k, k < w.heap.size → k ≠ g → w'.heap[k]? = w.heap[k]?

theorem Kept.refl (g : Nat) (w : World) : Kept g w w := ⟨Nat.le_refl _, fun _ _ _ => rfl⟩
theorem Kept.trans {g : Nat} {a b c : World} (h : Kept g a b) (h' : Kept g b c) : Kept g a c := ⟨Nat.le_trans h.1 h'.1, fun k hk hne => (h'.2 k (Nat.lt_of_lt_of_le hk h.1) hne).trans (h.2 k hk hne)⟩
theorem Kept.of_below {g : Nat} {a b : World} (h : Below a.heap.size a b) : Kept g a b := ⟨h.size, fun k hk _ => h.block k hk⟩

theorem Kept.cell {g : Nat} {w w' : World} (h : Kept g w w') {k o : Nat} {v : Value} (hk : k ≠ g) (hc : w.cell? ⟨k, o, none⟩ = some v) : w'.cell? ⟨k, o, none⟩ = some v :=
  (World.cell?_of_block (h.2 k (nod_lt hc) hk)).trans hc

theorem ScL.kept {g : Nat} {w w' : World} (h : Kept g w w') : ∀ (l : List (ByteArray × Int × Int)) (v : Value), ScL g w l v → ScL g w' l v
  | [], v, hs => hs
  | (s, n, r) :: l, v, hs => by
    obtain ⟨a, b, c, u, hv, ha, hb, hc, h1, h2, h3, h4, h5⟩ := hs
    exact ⟨a, b, c, u, hv, ha, hb, hc, h.cell ha h1, h.cell hb h2, h.cell hb h3, h.cell hc h4, ScL.kept h l u h5⟩

theorem sc_enter {P : Program} {f : FuncId} {fn : Func} (hf : P.funcs[f]? = some fn) (hname : (fn.name == "runtime.NumGoroutine") = false) (hbody : fn.body.isNone = false) (args : Array Value) (w : World) : (callFunc f args).run P w = .ok (.enter f args) w := by
  have hn : ¬ fn.name = "runtime.NumGoroutine" := by simpa using hname
  have hb : ¬ fn.body = none := fun h => by rw [h] at hbody; simp at hbody
  simp [callFunc, hf, hn, hb]

theorem impl_noBind (w : World) : Calls Tryz.prog 71 #[] w fun e w' => e = .returned (.agg #[.int .i64 (-1), .int .i64 (-1)]) ∧ Below w.heap.size w w' := by
  have hr : (w.alloc (.cells #[.int .i64 (-1), .int .i64 (-1)] 32)).heap[w.heap.size]? = some (.cells #[.int .i64 (-1), .int .i64 (-1)] 32 (0, 0)) := (MapKept.heap_alloc w _).1
  have HR : Hid (_) := hr
  clear hr
  go_enter Tryz.func71, Tryz.ntmps71
  go_wp2
  exact bodyPost_ret (results_cell_row rfl _ _ w.heap.size 32 _ (0, 0) _ rfl HR.out Tryz.underlying32 rfl (by kernel_rfl)) rfl ⟨rfl, (Below.refl _ w).alloc (Nat.le_refl _) _⟩

/-- Two cells of a block are set. -/
theorem row2_put {W : World} {g : Nat} {t : TypeId} {x0 x1 : Value} (y0 y1 : Value) (h : W.heap[g]? = some (.cells #[x0, x1] t (0, 0))) : ((W.setCell ⟨g, 0, none⟩ y0).setCell ⟨g, 1, none⟩ y1).heap[g]? = some (.cells #[y0, y1] t (0, 0)) :=
  heap_setCell_same _ g 1 _ _ y1 (heap_setCell_same W g 0 _ _ y0 h)

theorem row2_below {W : World} {g B : Nat} {w : World} (hb : Below B w W) (h : B ≤ g) (y0 y1 : Value) : Below B w ((W.setCell ⟨g, 0, none⟩ y0).setCell ⟨g, 1, none⟩ y1) :=
  (hb.setCell (p := ⟨g, 0, none⟩) h y0).setCell (p := ⟨g, 1, none⟩) h y1

theorem row2_cells {w : World} {g : Nat} {x0 x1 : Value} {t : TypeId} (h : w.heap[g]? = some (.cells #[x0, x1] t (0, 0))) : w.cell? ⟨g, 0, none⟩ = some x0 ∧ w.cell? ⟨g, 1, none⟩ = some x1 ∧ ∀ j, w.frozen? ⟨g, j, none⟩ = false := by
  refine ⟨?_, ?_, fun j => frozen_of_row w g j _ _ h⟩ <;> rw [cell_of_row _ _ _ _ _ _ h] <;> rfl

theorem impl_outermost (s : ByteArray) (w : World) : Calls Tryz.prog 97 #[.string s] w fun e w' => e = .returned (.agg #[.int .i64 (-1), .int .i64 (-1)]) ∧ Below w.heap.size w w' := by
  obtain ⟨wa, hwa⟩ : ∃ wa, w.alloc (.cells #[.int .i64 0, .int .i64 0] 32) = wa := ⟨_, rfl⟩
  have HWA : Hid (w.alloc (.cells #[.int .i64 0, .int .i64 0] 32) = wa) := hwa
  have RF : Hid (wa.heap[w.heap.size]? = some (.cells #[.int .i64 0, .int .i64 0] 32 (0, 0))) := by show wa.heap[w.heap.size]? = _; rw [← hwa]; exact (MapKept.heap_alloc w _).1
  have BA : Hid (Below w.heap.size w wa) := by show Below w.heap.size w wa; rw [← hwa]; exact (Below.refl _ w).alloc (Nat.le_refl _) _
  have sa : wa.heap.size = w.heap.size + 1 := by rw [← hwa]; simp
  clear hwa
  go_enter Tryz.func97, Tryz.ntmps97
  go_wp2_with fail
  rw [HWA.out]
  refine (impl_noBind wa).mono ?_
  rintro e w1 ⟨rfl, b1⟩
  have R1 : Hid (w1.heap[w.heap.size]? = some (.cells #[.int .i64 0, .int .i64 0] 32 (0, 0))) := (b1.block w.heap.size (by omega)).trans RF.out
  have B1 : Hid (Below w.heap.size w w1) := BA.out.trans (b1.mono (by omega))
  obtain ⟨q0, q1, q2⟩ := row2_cells R1.out
  clear b1
  go_wp2
  exact bodyPost_ret (results_cell_row rfl _ _ w.heap.size 32 _ (0, 0) _ rfl (row2_put _ _ R1.out) Tryz.underlying32 rfl (by kernel_rfl)) rfl ⟨rfl, row2_below B1.out (Nat.le_refl _) _ _⟩

/-- What a scope answers when it is called, wherever. -/
def ScC (g : Nat) (w : World) (l : List (ByteArray × Int × Int)) (v : Value) : Prop :=
  ∃ (F : FuncId) (cap : Array Value), v = .func (.func F) #[] cap ∧ (∀ (args : Array Value) (w : World), (callFunc F args).run Tryz.prog w = .ok (.enter F args) w) ∧ ∀ (s : ByteArray) (w' : World), Kept g w w' →
    Calls Tryz.prog F (#[.string s] ++ cap) w' fun e w'' => e = .returned (.agg #[.int .i64 (lookL l s).1, .int .i64 (lookL l s).2]) ∧ Below w'.heap.size w' w''

theorem text_ne {x s : ByteArray} (h : ¬ x = s) : (x.toList == s.toList) = false := by
  rw [beq_eq_false_iff_ne]
  intro e
  rw [Lib.toList_data, Lib.toList_data] at e
  exact h (data_ext e)

set_option maxRecDepth 20000 in
theorem impl_inner (g : Nat) (s : ByteArray) (n r : Int) (l : List (ByteArray × Int × Int)) (u : Value) (a b c : Nat) (w0 : World) (hu : ScC g w0 l u) (x : ByteArray) (w : World) (hk : Kept g w0 w)
    (h1 : w.cell? ⟨a, 0, none⟩ = some (.string s)) (h2 : w.cell? ⟨b, 0, none⟩ = some (.int .i64 n)) (h3 : w.cell? ⟨b, 1, none⟩ = some (.int .i64 r)) (h4 : w.cell? ⟨c, 0, none⟩ = some u) :
    Calls Tryz.prog 132 #[.string x, .pointer (some ⟨a, 0, none⟩), .pointer (some ⟨b, 0, none⟩), .pointer (some ⟨c, 0, none⟩)] w fun e w' => e = .returned (.agg #[.int .i64 (lookL ((s, n, r) :: l) x).1, .int .i64 (lookL ((s, n, r) :: l) x).2]) ∧ Below w.heap.size w w' := by
  have rf : (w.alloc (.cells #[.int .i64 0, .int .i64 0] 32)).heap[w.heap.size]? = some (.cells #[.int .i64 0, .int .i64 0] 32 (0, 0)) := (MapKept.heap_alloc w _).1
  have ba : Below w.heap.size w (w.alloc (.cells #[.int .i64 0, .int .i64 0] 32)) := (Below.refl _ w).alloc (Nat.le_refl _) _
  have g1 := (World.cell?_of_block (ba.block a (nod_lt h1))).trans h1
  have g2 := (World.cell?_of_block (ba.block b (nod_lt h2))).trans h2
  have g3 := (World.cell?_of_block (ba.block b (nod_lt h3))).trans h3
  have g4 := (World.cell?_of_block (ba.block c (nod_lt h4))).trans h4
  have KA : Hid (Kept g w0 (w.alloc (.cells #[.int .i64 0, .int .i64 0] 32))) := hk.trans (Kept.of_below ba)
  have RF : Hid (_) := rf
  have BA : Hid (_) := ba
  have sa : (w.alloc (.cells #[.int .i64 0, .int .i64 0] 32)).heap.size = w.heap.size + 1 := by simp
  have SA : Hid (_) := sa
  obtain ⟨F, cap, rfl, hcf, hcl⟩ := hu
  have HCL : Hid (∀ (s : ByteArray) (w' : World), Kept g w0 w' →
    Calls Tryz.prog F (#[.string s] ++ cap) w' fun e w'' => e = .returned (.agg #[.int .i64 (lookL l s).1, .int .i64 (lookL l s).2]) ∧ Below w'.heap.size w' w'') := hcl
  clear hcl hk h1 h2 h3 h4 rf ba sa
  by_cases hx : x = s
  · have HV : Hid (lookL ((s, n, r) :: l) x = (n, r)) := by show lookL ((s, n, r) :: l) x = (n, r); rw [lookL, if_pos hx]
    subst hx
    have hr : (w.alloc (.cells #[.int .i64 n, .int .i64 r] 32)).heap[w.heap.size]? = some (.cells #[.int .i64 n, .int .i64 r] 32 (0, 0)) := (MapKept.heap_alloc w _).1
    have HR : Hid (_) := hr
    clear hr
    go_enter Tryz.func132, Tryz.ntmps132
    go_wp2
    exact bodyPost_ret (results_cell_row rfl _ _ w.heap.size 32 _ (0, 0) _ rfl HR.out Tryz.underlying32 rfl (by kernel_rfl)) rfl ⟨by rw [HV.out], (Below.refl _ w).alloc (Nat.le_refl _) _⟩
  · have HV : Hid (lookL ((s, n, r) :: l) x = lookL l x) := by show lookL ((s, n, r) :: l) x = _; rw [lookL, if_neg hx]
    have hxs := text_ne hx
    clear hx
    go_enter Tryz.func132, Tryz.ntmps132
    go_wp2_with fail
    refine (HCL.out x _ KA.out).mono ?_
    rintro e w1 ⟨rfl, b1⟩
    have R1 : Hid (w1.heap[w.heap.size]? = some (.cells #[.int .i64 0, .int .i64 0] 32 (0, 0))) := (b1.block w.heap.size (by have := SA.out; omega)).trans RF.out
    have B1 : Hid (Below w.heap.size w w1) := BA.out.trans (b1.mono (by have := SA.out; omega))
    obtain ⟨q0, q1, q2⟩ := row2_cells R1.out
    clear b1
    go_wp2
    exact bodyPost_ret (results_cell_row rfl _ _ w.heap.size 32 _ (0, 0) _ rfl (row2_put _ _ R1.out) Tryz.underlying32 rfl (by kernel_rfl)) rfl ⟨by rw [HV.out], row2_below B1.out (Nat.le_refl _) _ _⟩

theorem sc_call (g : Nat) (w : World) : ∀ (l : List (ByteArray × Int × Int)) (v : Value), ScL g w l v → ScC g w l v
  | [], v, h => ⟨97, #[], h, sc_enter Tryz.func97 (by kernel_rfl) (by kernel_rfl), fun s w' _ => impl_outermost s w'⟩
  | (s, n, r) :: l, v, h => by
    obtain ⟨a, b, c, u, hv, ha, hb, hc, h1, h2, h3, h4, h5⟩ := h
    refine ⟨132, _, hv, sc_enter Tryz.func132 (by kernel_rfl) (by kernel_rfl), fun x w' hk => ?_⟩
    exact impl_inner g s n r l u a b c w (sc_call g w l u h5) x w' hk (hk.cell ha h1) (hk.cell hb h2) (hk.cell hb h3) (hk.cell hc h4)

/-- One name more is bound. -/
theorem impl_within (g : Nat) (u : Value) (s : ByteArray) (n r : Int) (l : List (ByteArray × Int × Int)) (w : World) (hu : ScL g w l u) (hg : g < w.heap.size) :
    Calls Tryz.prog 115 #[u, .string s, .agg #[.int .i64 n, .int .i64 r]] w fun e w' => ∃ v, e = .returned v ∧ ScL g w' ((s, n, r) :: l) v ∧ Below w.heap.size w w' := by
  obtain ⟨F, cap, rfl, _, _⟩ := sc_call g w l u hu
  have B3 : Below w.heap.size w (((w.alloc (.cells #[.func (.func F) #[] cap] 94)).alloc (.cells #[.string s] 9)).alloc (.cells #[.int .i64 n, .int .i64 r] 32)) :=
    (((Below.refl _ w).alloc (Nat.le_refl _) _).alloc (by simp) _).alloc (by simp; omega) _
  have h0 : (((w.alloc (.cells #[.func (.func F) #[] cap] 94)).alloc (.cells #[.string s] 9)).alloc (.cells #[.int .i64 n, .int .i64 r] 32)).heap[w.heap.size]? = some (.cells #[.func (.func F) #[] cap] 94 (0, 0)) := by
    rw [Below.heap_alloc _ _ _ (by simp; omega), Below.heap_alloc _ _ _ (by simp)]
    exact (MapKept.heap_alloc w _).1
  have h1 : (((w.alloc (.cells #[.func (.func F) #[] cap] 94)).alloc (.cells #[.string s] 9)).alloc (.cells #[.int .i64 n, .int .i64 r] 32)).heap[w.heap.size + 1]? = some (.cells #[.string s] 9 (0, 0)) := by
    rw [Below.heap_alloc _ _ _ (by simp)]
    have := (MapKept.heap_alloc (w.alloc (.cells #[.func (.func F) #[] cap] 94)) (.cells #[.string s] 9)).1
    simpa using this
  have h2 : (((w.alloc (.cells #[.func (.func F) #[] cap] 94)).alloc (.cells #[.string s] 9)).alloc (.cells #[.int .i64 n, .int .i64 r] 32)).heap[w.heap.size + 2]? = some (.cells #[.int .i64 n, .int .i64 r] 32 (0, 0)) := by
    have := (MapKept.heap_alloc ((w.alloc (.cells #[.func (.func F) #[] cap] 94)).alloc (.cells #[.string s] 9)) (.cells #[.int .i64 n, .int .i64 r] 32)).1
    simpa using this
  have HS : Hid (ScL g (((w.alloc (.cells #[.func (.func F) #[] cap] 94)).alloc (.cells #[.string s] 9)).alloc (.cells #[.int .i64 n, .int .i64 r] 32)) ((s, n, r) :: l) (.func (.func 132) #[] #[.pointer (some ⟨w.heap.size + 1, 0, none⟩), .pointer (some ⟨w.heap.size + 2, 0, none⟩), .pointer (some ⟨w.heap.size, 0, none⟩)])) := by
    refine ⟨w.heap.size + 1, w.heap.size + 2, w.heap.size, _, rfl, by omega, by omega, by omega, ?_, (row2_cells h2).1, (row2_cells h2).2.1, ?_, ScL.kept (Kept.of_below B3) l _ hu⟩
    · rw [cell_of_row _ _ _ _ _ _ h1]; rfl
    · rw [cell_of_row _ _ _ _ _ _ h0]; rfl
  have HB : Hid (_) := B3
  clear B3 h0 h1 h2 hu
  go_enter Tryz.func115, Tryz.ntmps115
  go_wp2
  go_ret
  exact ⟨_, rfl, HS.out, HB.out⟩

theorem ix3 (a b c : Int) (k : Nat) (hk : k < 3) (w : World) : (Instr.index 126 (.agg #[.int .i64 a, .int .i64 b, .int .i64 c]) (.int .i64 k)).run Tryz.prog w = .ok (.int .i64 ([a, b, c].getD k 0)) w := by
  rcases (by omega : k = 0 ∨ k = 1 ∨ k = 2) with rfl | rfl | rfl <;>
  simp [Instr.index, run_underlying Tryz.underlying126, asIntOf, go_sem]

set_option maxHeartbeats 1000000 in
set_option maxRecDepth 20000 in
theorem impl_rolesInKid (kind : Int) (k : Nat) (hk : k < 3) (w : World) : Calls Tryz.prog 112 #[.int .i64 kind, .int .i64 k] w fun e w' => e = .returned (.int .i64 (rolN kind k : Nat)) ∧ w' = w := by
  by_cases h3 : kind = 3
  · have HV : Hid (((rolN kind k : Nat) : Int) = [1, 0, 0].getD k 0) := by
      subst h3
      rcases (by omega : k = 0 ∨ k = 1 ∨ k = 2) with rfl | rfl | rfl <;> rfl
    subst h3
    have hix := ix3 1 0 0 k hk
    generalize ([1, 0, 0] : List Int).getD k 0 = y at *
    go_enter Tryz.func112, Tryz.ntmps112
    go_wp2
    go_ret
    exact ⟨by rw [HV.out] <;> rfl, rfl⟩
  by_cases h5 : kind = 5
  · have HV : Hid (((rolN kind k : Nat) : Int) = [0, 1, 0].getD k 0) := by
      subst h5
      rcases (by omega : k = 0 ∨ k = 1 ∨ k = 2) with rfl | rfl | rfl <;> rfl
    subst h5
    have hix := ix3 0 1 0 k hk
    generalize ([0, 1, 0] : List Int).getD k 0 = y at *
    go_enter Tryz.func112, Tryz.ntmps112
    go_wp2
    go_ret
    exact ⟨by rw [HV.out] <;> rfl, rfl⟩
  by_cases h19 : kind = 19
  · have HV : Hid (((rolN kind k : Nat) : Int) = [0, 1, 0].getD k 0) := by
      subst h19
      rcases (by omega : k = 0 ∨ k = 1 ∨ k = 2) with rfl | rfl | rfl <;> rfl
    subst h19
    have hix := ix3 0 1 0 k hk
    generalize ([0, 1, 0] : List Int).getD k 0 = y at *
    go_enter Tryz.func112, Tryz.ntmps112
    go_wp2
    go_ret
    exact ⟨by rw [HV.out] <;> rfl, rfl⟩
  by_cases h6 : kind = 6
  · have HV : Hid (((rolN kind k : Nat) : Int) = [2, 1, 0].getD k 0) := by
      subst h6
      rcases (by omega : k = 0 ∨ k = 1 ∨ k = 2) with rfl | rfl | rfl <;> rfl
    subst h6
    have hix := ix3 2 1 0 k hk
    generalize ([2, 1, 0] : List Int).getD k 0 = y at *
    go_enter Tryz.func112, Tryz.ntmps112
    go_wp2
    go_ret
    exact ⟨by rw [HV.out] <;> rfl, rfl⟩
  by_cases h14 : kind = 14
  · have HV : Hid (((rolN kind k : Nat) : Int) = [0, 0, 2].getD k 0) := by
      subst h14
      rcases (by omega : k = 0 ∨ k = 1 ∨ k = 2) with rfl | rfl | rfl <;> rfl
    subst h14
    have hix := ix3 0 0 2 k hk
    generalize ([0, 0, 2] : List Int).getD k 0 = y at *
    go_enter Tryz.func112, Tryz.ntmps112
    go_wp2
    go_ret
    exact ⟨by rw [HV.out] <;> rfl, rfl⟩
  have HV : Hid (rolN kind k = 0) := by
    show rolN kind k = 0
    rw [rolN, if_neg h3, if_neg (by omega), if_neg h6, if_neg h14]
  go_enter Tryz.func112, Tryz.ntmps112
  go_wp2
  go_ret
  exact ⟨by rw [HV.out] <;> rfl, rfl⟩

/-- The name of a role. -/
def roleS (t : Nod) (r : Int) : ByteArray := if r = 1 then t.other else t.name

theorem impl_nameOfRole (k a b c n : Int) (s o : ByteArray) (r : Int) (w : World) : Calls Tryz.prog 66 #[.agg #[.int .i64 k, .int .i64 a, .int .i64 b, .int .i64 c, .int .i64 n, .string s, .string o], .int .i64 r] w fun e w' => e = .returned (.string (roleS ⟨k, a, b, c, n, s, o⟩ r)) ∧ Below w.heap.size w w' := by
  by_cases h : r = 1
  · have HV : Hid (roleS ⟨k, a, b, c, n, s, o⟩ r = o) := by show roleS _ r = o; rw [roleS, if_pos h]
    subst h
    go_enter Tryz.func66, Tryz.ntmps66
    go_wp2
    go_ret
    exact ⟨by rw [HV.out] <;> rfl, (Below.refl _ w).alloc (Nat.le_refl _) _⟩
  · have HV : Hid (roleS ⟨k, a, b, c, n, s, o⟩ r = s) := by show roleS _ r = s; rw [roleS, if_neg h]
    go_enter Tryz.func66, Tryz.ntmps66
    go_wp2
    go_ret
    exact ⟨by rw [HV.out] <;> rfl, (Below.refl _ w).alloc (Nat.le_refl _) _⟩

/-- What a node adds to a scope. -/
def kidS (t : Nod) (i : Int) (l : List (ByteArray × Int × Int)) : Nat → List (ByteArray × Int × Int)
  | 0 => l
  | q + 1 => (roleS t q, i, (q : Int)) :: kidS t i l q

theorem kidS_look (t : Nod) (i : Int) (l : List (ByteArray × Int × Int)) (q : Nat) (hq : q ≤ 2) (x : ByteArray) : lookL (kidS t i l q) x = match lookR x (rolL t q) with
    | some r => (i, r)
    | none => lookL l x := by
  rcases (by omega : q = 0 ∨ q = 1 ∨ q = 2) with rfl | rfl | rfl
  · rfl
  · simp only [kidS, rolL, lookL, lookR, roleS]
    by_cases h : t.name = x
    · rw [if_pos h]; simp [h]
    · rw [if_neg h, if_neg (fun e => h (by simpa using e.symm))]
  · simp only [kidS, rolL, lookL, lookR, roleS]
    by_cases h : t.other = x
    · rw [if_pos h]; simp [h]
    · rw [if_neg h]
      by_cases h2 : t.name = x
      · rw [if_pos h2, if_neg (fun e => h (by simpa using e.symm))]; simp [h2]
      · rw [if_neg h2, if_neg (fun e => h (by simpa using e.symm)), if_neg (fun e => h2 (by simpa using e.symm))]

theorem rolN_le (kind : Int) (k : Nat) : rolN kind k ≤ 2 := by
  unfold rolN
  have hg : ∀ l : List Nat, (∀ x ∈ l, x ≤ 2) → l.getD k 0 ≤ 2 := fun l h => by
    simp only [List.getD]
    cases e : l[k]? with
    | none => simp
    | some y => exact h y (List.mem_of_getElem? e)
  split
  · exact hg _ (by decide)
  · split
    · exact hg _ (by decide)
    · split
      · exact hg _ (by decide)
      · split
        · exact hg _ (by decide)
        · omega

set_option maxHeartbeats 1000000 in
set_option maxRecDepth 20000 in
/-- The scope in a kid. -/
theorem impl_inKid (g : Nat) (u : Value) (l : List (ByteArray × Int × Int)) (x0 x1 x2 x3 x4 : Int) (x5 x6 : ByteArray) (i : Int) (k : Nat) (hk : k < 3) (w : World) (hu : ScL g w l u) (hg : g < w.heap.size) :
    Calls Tryz.prog 98 #[u, .agg #[.int .i64 x0, .int .i64 x1, .int .i64 x2, .int .i64 x3, .int .i64 x4, .string x5, .string x6], .int .i64 i, .int .i64 k] w fun e w' =>
      ∃ v, e = .returned v ∧ ScL g w' (kidS ⟨x0, x1, x2, x3, x4, x5, x6⟩ i l (rolN x0 k)) v ∧ Below w.heap.size w w' := by
  have BA : Below w.heap.size w (w.alloc (.cells #[.int .i64 x0, .int .i64 x1, .int .i64 x2, .int .i64 x3, .int .i64 x4, .string x5, .string x6] 38)) := (Below.refl _ w).alloc (Nat.le_refl _) _
  have rf : (w.alloc (.cells #[.int .i64 x0, .int .i64 x1, .int .i64 x2, .int .i64 x3, .int .i64 x4, .string x5, .string x6] 38)).heap[w.heap.size]? = some (.cells #[.int .i64 x0, .int .i64 x1, .int .i64 x2, .int .i64 x3, .int .i64 x4, .string x5, .string x6] 38 (0, 0)) := (MapKept.heap_alloc w _).1
  have hsa : (w.alloc (.cells #[.int .i64 x0, .int .i64 x1, .int .i64 x2, .int .i64 x3, .int .i64 x4, .string x5, .string x6] 38)).heap.size = w.heap.size + 1 := by simp
  have HU : Hid (ScL g (w.alloc (.cells #[.int .i64 x0, .int .i64 x1, .int .i64 x2, .int .i64 x3, .int .i64 x4, .string x5, .string x6] 38)) l u) := ScL.kept (Kept.of_below BA) l u hu
  have HBA : Hid (_) := BA
  have HRF : Hid (_) := rf
  have HSA : Hid (_) := hsa
  clear BA rf hsa hu
  have HRC : Hid (∀ w, Calls Tryz.prog 112 #[.int .i64 x0, .int .i64 k] w fun e w' => e = .returned (.int .i64 (rolN x0 k : Nat)) ∧ w' = w) := impl_rolesInKid x0 k hk
  have hrn := rolN_le x0 k
  generalize rolN x0 k = ro at *
  go_enter Tryz.func98, Tryz.ntmps98
  go_wp2_with fail
  refine (HRC.out _).mono ?_
  rintro e w1 ⟨rfl, rfl⟩
  generalize w.alloc (.cells #[.int .i64 x0, .int .i64 x1, .int .i64 x2, .int .i64 x3, .int .i64 x4, .string x5, .string x6] 38) = wa at *
  go_wp2
  go_loopw [9, 16] (fun v r wr => ∃ q : Nat, q ≤ ro ∧ r = .int .i64 q ∧ Hid (ScL g wr (kidS ⟨x0, x1, x2, x3, x4, x5, x6⟩ i l q) v) ∧ Below wa.heap.size wa wr) (fun _ r _ => ro - (intOf r).toNat)
  case atStart => exact ⟨0, by omega, rfl, HU, Below.refl _ _⟩
  case round =>
    obtain ⟨q, hq, rfl, HS, hb⟩ := hrel
    have hsz := hb.size
    have hrow := (hb.block w.heap.size (by have := HSA.out; omega)).trans HRF.out
    have HROW : Hid (_) := hrow
    by_cases hin : q < ro
    · have e1 : (q : Int) < ro := by omega
      obtain ⟨p0, p1, p2, p3, p4, p5, p6⟩ := cells7v hrow
      clear hrow
      go_wp2_with fail
      refine (impl_nameOfRole x0 x1 x2 x3 x4 x5 x6 q wr).mono ?_
      rintro e w2 ⟨rfl, b2⟩
      have s2 := b2.size
      have HS2 := ScL.kept (Kept.of_below b2) _ _ HS.out
      have HB2 : Hid (Below wa.heap.size wa w2) := hb.trans (b2.mono (by omega))
      have HNM : Hid (kidS ⟨x0, x1, x2, x3, x4, x5, x6⟩ i l (q + 1) = (roleS ⟨x0, x1, x2, x3, x4, x5, x6⟩ q, i, (q : Int)) :: kidS ⟨x0, x1, x2, x3, x4, x5, x6⟩ i l q) := rfl
      have HS3 : Hid (_) := HS2
      generalize roleS ⟨x0, x1, x2, x3, x4, x5, x6⟩ q = nm at *
      clear p0 p1 p2 p3 p4 p5 p6 HS2 HS
      go_wp2_with fail
      refine (impl_within g u9 nm i q _ w2 HS3.out (by have := HSA.out; omega)).mono ?_
      rintro e w3 ⟨v3, rfl, hs3, b3⟩
      have HS4 : Hid (ScL g w3 (kidS ⟨x0, x1, x2, x3, x4, x5, x6⟩ i l (q + 1)) v3) := by show ScL g w3 _ v3; rw [HNM.out]; exact hs3
      have HB3 : Hid (Below wa.heap.size wa w3) := HB2.out.trans (b3.mono (by omega))
      clear hs3 b3 HS3 HNM
      go_wp2
      go_roundw
      case rel => exact ⟨q + 1, by omega, by go_num, HS4, HB3.out⟩
      case measure => simp [intOf]; omega
    · obtain rfl : q = ro := by omega
      clear hrow
      have HB2 : Hid (Below w.heap.size w wr) := HBA.out.trans (hb.mono (by have := HSA.out; omega))
      go_wp2
      go_ret
      exact ⟨_, rfl, HS.out, HB2.out⟩
end
end Go.Proofs.YtjiggiglagmloaaGreat
