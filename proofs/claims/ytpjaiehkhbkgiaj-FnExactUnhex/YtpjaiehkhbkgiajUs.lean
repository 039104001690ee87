/-
  Unhex, the specification's and the one that landed: the bytes whose digits a text holds, and whether there are such. Conditions: written at each theorem.
-/
import Derived.Test.YtpjaiehkhbkgiajUx
namespace Go.Proofs.Ytpjaiehkhbkgiaj
open Go.ChangeShapes Go.WideShapes Go.ChangeAt Go.RowKit
set_option linter.unusedVariables false

/-- The bytes of the first k pairs of digits; none where one of them is no digit. -/
def uh (s : ByteArray) : Nat → Option (List Int)
  | 0 => some []
  | k + 1 => match uh s k with
    | none => none
    | some L => if fh (byteAt s (2 * k)) < 0 ∨ fh (byteAt s (2 * k + 1)) < 0 then none else some (L ++ [16 * fh (byteAt s (2 * k)) + fh (byteAt s (2 * k + 1))])

theorem uh_bad {s : ByteArray} {k : Nat} {L : List Int} (h : uh s k = some L) (hb : fh (byteAt s (2 * k)) < 0 ∨ fh (byteAt s (2 * k + 1)) < 0) : uh s (k + 1) = none := by
  simp only [uh, h]; rw [if_pos hb]

theorem uh_good {s : ByteArray} {k : Nat} {L : List Int} (h : uh s k = some L) (hb : ¬ (fh (byteAt s (2 * k)) < 0 ∨ fh (byteAt s (2 * k + 1)) < 0)) :
    uh s (k + 1) = some (L ++ [16 * fh (byteAt s (2 * k)) + fh (byteAt s (2 * k + 1))]) := by
  simp only [uh, h]; rw [if_neg hb]

theorem uh_none {s : ByteArray} {k : Nat} (h : uh s k = none) : ∀ d, uh s (k + d) = none
  | 0 => h
  | d + 1 => by
    have := uh_none h d
    rw [← Nat.add_assoc]
    simp only [uh, this]

theorem uh_length {s : ByteArray} : ∀ {k : Nat} {L : List Int}, uh s k = some L → L.length = k
  | 0, L, h => by simp [uh] at h; subst h; rfl
  | k + 1, L, h => by
    cases hk : uh s k with
    | none => simp only [uh, hk] at h; cases h
    | some M =>
      have := uh_length hk
      simp only [uh, hk] at h
      split at h
      · cases h
      · simp at h; subst h; simp [this]

def uhText (s : ByteArray) : ByteArray := match uh s (s.size / 2) with
  | none => ByteArray.empty
  | some L => strOfNums L
def uhOk (s : ByteArray) : Bool := (uh s (s.size / 2)).isSome

theorem uh_end {s : ByteArray} {L : List Int} (h : uh s (s.size / 2) = some L) : uhText s = strOfNums L ∧ uhOk s = true := by
  simp [uhText, uhOk, h]

theorem uh_fail {s : ByteArray} {k : Nat} (h : uh s k = none) (hk : k ≤ s.size / 2) : uhText s = ByteArray.empty ∧ uhOk s = false := by
  have := uh_none h (s.size / 2 - k)
  rw [show k + (s.size / 2 - k) = s.size / 2 by omega] at this
  simp [uhText, uhOk, this]

theorem spec_unhex_odd (s : ByteArray) (hs : s.size ≤ 1048576) (ho : (s.size : Int) % 2 = 1) (w : World) :
    Calls Try.prog 10 #[.string s] w fun e w' => e = .returned (.tuple #[.string ByteArray.empty, .bool false]) ∧ Below w.heap.size w w' := by
  go_enter Try.func10, Try.ntmps10
  go_wp2
  go_ret2
  exact ⟨rfl, (Below.refl _ _).alloc (Nat.le_refl _) _⟩

theorem impl_unhex_odd (s : ByteArray) (hs : s.size ≤ 1048576) (ho : (s.size : Int) % 2 = 1) (w : World) :
    Calls Try.prog 11 #[.string s] w fun e w' => e = .returned (.tuple #[.string ByteArray.empty, .bool false]) ∧ Below w.heap.size w w' := by
  go_enter Try.func11, Try.ntmps11
  go_wp2
  go_ret2
  exact ⟨rfl, Below.refl _ _⟩

set_option maxRecDepth 20000 in
theorem spec_unhex (s : ByteArray) (hs : s.size ≤ 1048576) (ho : (s.size : Int) % 2 = 0) (w : World) :
    Calls Try.prog 10 #[.string s] w fun e w' => e = .returned (.tuple #[.string (uhText s), .bool (uhOk s)]) ∧ Below w.heap.size w w' := by
  obtain ⟨i0, hi, hz0, hz1, hz2⟩ := info_parts Try.info5
  go_enter Try.func10, Try.ntmps10
  go_wp2
  have he : s.size % 2 < 1 := by omega
  clear ho
  go_loopw [4, 5] (fun out i wr => ∃ (k : Nat) (L : List Int), 2 * k ≤ s.size ∧ i = .int .i64 (2 * k : Nat) ∧ Hid (uh s k = some L) ∧ ownB wr w.heap.size out L ∧ Below w.heap.size w wr) (fun _ i _ => s.size - (intOf i).toNat)
  case atStart => exact ⟨0, [], by omega, rfl, rfl, World.ownsRow_lit _ #[] 0 (Nat.le_refl _) (by unfold maxLen; omega) rfl, (Below.refl _ _).alloc (Nat.le_refl _) _⟩
  case round =>
    obtain ⟨k, L, hk, rfl, hu, hown, hbel⟩ := hrel
    by_cases hks : 2 * k = s.size
    · have hc := conv_own hown
      have hk2 : s.size / 2 = k := by omega
      have E : Hid (uhText s = strOfNums L ∧ uhOk s = true) := uh_end (by rw [hk2]; exact hu)
      clear hk2
      go_wp2
      rw [E.out.1, E.out.2]
      go_ret2
      exact ⟨rfl, hbel⟩
    · have hlt : 2 * k + 1 < s.size := by omega
      have h0 : 2 * k < s.size := by omega
      obtain ⟨b, hb, hb2⟩ : ∃ b : Nat, s[2 * k].toNat = b ∧ b = byteAt s (2 * k) := ⟨_, rfl, (byteAt_in h0).symm⟩
      obtain ⟨c, hc, hc2⟩ : ∃ c : Nat, s[2 * k + 1].toNat = c ∧ c = byteAt s (2 * k + 1) := ⟨_, rfl, (byteAt_in hlt).symm⟩
      have hbl : b < 256 := by rw [hb2]; exact byteAt_lt s _
      have hcl : c < 256 := by rw [hc2]; exact byteAt_lt s _
      have HB : Hid (b = byteAt s (2 * k)) := hb2
      have HC : Hid (c = byteAt s (2 * k + 1)) := hc2
      clear hb2 hc2
      have hL : L.length = k := uh_length hu.out
      have rb := fh_range b
      have rc := fh_range c
      go_wp2_with fail
      refine (spec_fh b hbl wr).mono ?_
      rintro e w' ⟨rfl, rfl⟩
      go_wp2_with fail
      refine (spec_fh c hcl wr).mono ?_
      rintro e w' ⟨rfl, rfl⟩
      by_cases hbad : fh b < 0 ∨ fh c < 0
      · have E : Hid (uhText s = ByteArray.empty ∧ uhOk s = false) := uh_fail (uh_bad hu.out (by rw [← HB.out, ← HC.out]; exact hbad)) (by omega)
        by_cases h1 : fh b < 0
        · go_wp2
          rw [E.out.1, E.out.2]
          go_ret2
          exact ⟨rfl, hbel⟩
        · have h2 : fh c < 0 := by omega
          go_wp2
          rw [E.out.1, E.out.2]
          go_ret2
          exact ⟨rfl, hbel⟩
      · have h1 : 0 ≤ fh b := by omega
        have h2 : 0 ≤ fh c := by omega
        have E : Hid (uh s (k + 1) = some (L ++ [16 * fh b + fh c])) := by
          have := uh_good hu.out (by rw [← HB.out, ← HC.out]; exact hbad)
          rw [← HB.out, ← HC.out] at this
          exact this
        clear hbad
        go_wp2_with (at_builtin; refine wpList_append_own _ rfl (.tmp 34) (.tmp 40) 29 rfl w.heap.size 5 i0 (.int .u8 0) 1 1 Try.underlying29 hi hz0 hz1 hz2 rfl (by decide) _ _ _ rfl (hown.alloc _) ⟨wr.heap.size, 0, none⟩ 1 1 [.int .u8 (16 * fh b + fh c)] rfl rfl ?c1 ?c2 ?c3 ?c4 ?c5 ?_)
        case c1 => exact cell_one_new _ _ _
        case c2 => simp [Value.oneCell']
        case c3 => unfold maxLen; omega
        case c4 => omega
        case c5 => have := hbel.size; simp; omega
        intro v' w1 hown' hgrow _
        have hown2 : ownB w1 w.heap.size v' (L ++ [16 * fh b + fh c]) := by
          simpa [ownB, hL] using hown'
        have hb1 : Below w.heap.size w w1 := (hbel.alloc hbel.size _).grown hgrow (by have := hbel.size; simp; omega) (fun k hk => (hown.lt k hk).1)
        clear hown' hgrow hown hbel hu
        go_wp2
        go_roundw
        case rel => exact ⟨k + 1, L ++ [16 * fh b + fh c], by omega, by go_num, E, hown2, hb1⟩
        case measure => simp [intOf]; omega

theorem name16 : (Try.f16.name == "runtime.NumGoroutine") = false := by kernel_rfl
theorem body16 : Try.f16.body.isNone = false := by kernel_rfl

theorem or16 (x y : Int) (hx : 0 ≤ x) (hx2 : x ≤ 15) (hy : 0 ≤ y) (hy2 : y ≤ 15) : bits .or .i64 (x * 16) y = 16 * x + y := by
  obtain ⟨X, rfl⟩ := Int.eq_ofNat_of_zero_le hx
  obtain ⟨Y, rfl⟩ := Int.eq_ofNat_of_zero_le hy
  have h := or_join 4 (X * 16) Y (by omega) (by omega) (by omega)
  have e : ((X : Int) * 16) = ((X * 16 : Nat) : Int) := by omega
  rw [e, h]
  omega

theorem put_one_drew (g n c B : Nat) (L : List Int) (m : Nat) (x : Int) (wr w0 : World) (hroom : wr.heap[g]? = some (.cells (rm L (m + 1)).toArray 5 (0, 0)))
    (hfit : L.length + 1 ≤ n) (hn : n ≤ L.length + (m + 1)) (hc : n ≤ c) (hmax : n ≤ maxLen) (hb : Below B w0 wr) (hBg : B ≤ g) (k : Nat) (hk : L.length = k) :
    Calls Try.prog 14 #[.slice (some ⟨g, 0, none⟩) n c, .int .i64 (k : Nat), .slice (some ⟨wr.heap.size, 0, none⟩) 1 1] (wr.alloc (.cells #[.int .u8 x] 5)).drew fun e w' =>
      e = .returned (.int .i64 (k + 1 : Nat)) ∧ w'.heap[g]? = some (.cells (rm (L ++ [x]) m).toArray 5 (0, 0)) ∧ Below B w0 w' := by
  subst hk
  exact put_one g n c B L m x wr.drew w0 hroom hfit hn hc hmax hb.drew hBg

set_option maxRecDepth 20000 in
theorem impl_unhex (s : ByteArray) (hs : s.size ≤ 1048576) (ho : (s.size : Int) % 2 = 0) (w : World) :
    Calls Try.prog 11 #[.string s] w fun e w' => e = .returned (.tuple #[.string (uhText s), .bool (uhOk s)]) ∧ Below w.heap.size w w' := by
  obtain ⟨i0, hi, hz0, hz1, hz2⟩ := info_parts Try.info5
  have hmk := run_make (P := Try.prog) w 29 5 i0 (.int .u8 0) Try.underlying29 hi hz0 .i64 .i64 ((s.size : Int) / 2) ((s.size : Int) / 2) (by omega) (by omega) (by rw [hz2]; omega) (by omega)
  rw [hz1] at hmk
  have ez : ((s.size : Int) / 2).toNat = s.size / 2 := by omega
  rw [ez, rm_made] at hmk
  clear hi hz0 hz1 hz2 ez
  go_enter Try.func11, Try.ntmps11
  go_wp2
  have he : s.size % 2 < 1 := by omega
  clear ho
  go_loopw [5, 6] (fun a i wr => ∃ (k : Nat) (L : List Int), 2 * k ≤ s.size ∧ i = .int .i64 (2 * k : Nat) ∧ a = .int .i64 (k : Nat) ∧ Hid (uh s k = some L) ∧ Hid (wr.heap[w.heap.size]? = some (.cells (rm L (s.size / 2 - k)).toArray 5 (0, 0))) ∧ Below w.heap.size w wr) (fun _ i _ => s.size - (intOf i).toNat)
  case atStart =>
    refine ⟨0, [], by omega, rfl, rfl, rfl, ?_, (Below.refl _ _).alloc (Nat.le_refl _) _⟩
    exact (MapKept.heap_alloc w _).1
  case round =>
    obtain ⟨k, L, hk, rfl, rfl, hu, hroom, hbel⟩ := hrel
    clear hmk
    have hL : L.length = k := uh_length hu.out
    by_cases hks : 2 * k = s.size
    · have hk2 : s.size / 2 = k := by omega
      have hc := rm_conv L (s.size / 2 - k) (s.size / 2) wr w.heap.size hroom.out
      rw [hL] at hc
      have hc2 := hc
      rw [hk2] at hc2
      have E : Hid (uhText s = strOfNums L ∧ uhOk s = true) := uh_end (by rw [hk2]; exact hu)
      clear hroom hL hc
      go_wp2
      rw [E.out.1, E.out.2]
      go_ret2
      exact ⟨rfl, hbel⟩
    · have hlt : 2 * k + 1 < s.size := by omega
      have h0 : 2 * k < s.size := by omega
      obtain ⟨b, hb, hb2⟩ : ∃ b : Nat, s[2 * k].toNat = b ∧ b = byteAt s (2 * k) := ⟨_, rfl, (byteAt_in h0).symm⟩
      obtain ⟨c, hc, hc2⟩ : ∃ c : Nat, s[2 * k + 1].toNat = c ∧ c = byteAt s (2 * k + 1) := ⟨_, rfl, (byteAt_in hlt).symm⟩
      have hbl : b < 256 := by rw [hb2]; exact byteAt_lt s _
      have hcl : c < 256 := by rw [hc2]; exact byteAt_lt s _
      have HB : Hid (b = byteAt s (2 * k)) := hb2
      have HC : Hid (c = byteAt s (2 * k + 1)) := hc2
      clear hb2 hc2
      have rb := fh_range b
      have rc := fh_range c
      have e1 : IntKind.i64.wrap (2 * (k : Int) + 1) = 2 * (k : Int) + 1 := wrapI _ (by omega)
      have e2 : (2 * (k : Int) + 1).toNat = 2 * k + 1 := by omega
      have e3 : (2 * (k : Int)).toNat = 2 * k := by omega
      have p1 : 0 ≤ 2 * (k : Int) := by omega
      have p2 : 2 * (k : Int) < s.size := by omega
      have p3 : 0 ≤ 2 * (k : Int) + 1 := by omega
      have p4 : 2 * (k : Int) + 1 < s.size := by omega
      go_wp2
      go_region_law (first | (refine step_call rfl 16 #[.tmp 25] #[5] rfl #[.int .u8 (b : Int)] (by simp [Act.eval]) Try.func16 name16 body16 _ (impl_fh b hbl _) ?_; rintro e w' ⟨rfl, rfl⟩; refine ⟨_, rfl, ?_⟩) | (refine step_call rfl 16 #[.tmp 30] #[5] rfl #[.int .u8 (c : Int)] (by simp [Act.eval]) Try.func16 name16 body16 _ (impl_fh c hcl _) ?_; rintro e w' ⟨rfl, rfl⟩; refine ⟨_, rfl, ?_⟩))
      all_goals
        by_cases hbad : fh b < 0 ∨ fh c < 0
        · have E : Hid (uhText s = ByteArray.empty ∧ uhOk s = false) := uh_fail (uh_bad hu.out (by rw [← HB.out, ← HC.out]; exact hbad)) (by omega)
          by_cases h1 : fh b < 0
          · go_wp2
            rw [E.out.1, E.out.2]
            go_ret2
            exact ⟨rfl, hbel.drew⟩
          · have h2 : fh c < 0 := by omega
            go_wp2
            rw [E.out.1, E.out.2]
            go_ret2
            exact ⟨rfl, hbel.drew⟩
        · have h1 : 0 ≤ fh b := by omega
          have h2 : 0 ≤ fh c := by omega
          have h3 : fh b ≤ 15 := rb.2
          have h4 : fh c ≤ 15 := rc.2
          have E : Hid (uh s (k + 1) = some (L ++ [16 * fh b + fh c])) := by
            have := uh_good hu.out (by rw [← HB.out, ← HC.out]; exact hbad)
            rw [← HB.out, ← HC.out] at this
            exact this
          have eo := or16 (fh b) (fh c) h1 h3 h2 h4
          have hroom2 : Hid (wr.heap[w.heap.size]? = some (.cells (rm L (s.size / 2 - (k + 1) + 1)).toArray 5 (0, 0))) := by
            rw [show s.size / 2 - (k + 1) + 1 = s.size / 2 - k by omega]; exact hroom
          have HL : Hid (L.length = k) := hL
          clear hbad hroom hL
          go_wp2_with fail
          refine (put_one_drew w.heap.size (s.size / 2) (s.size / 2) w.heap.size L (s.size / 2 - (k + 1)) (16 * fh b + fh c) wr w hroom2.out (by rw [HL.out]; omega) (by rw [HL.out]; omega) (Nat.le_refl _) (by unfold maxLen; omega) hbel (Nat.le_refl _) k HL.out).mono ?_
          rintro e w1 ⟨rfl, hr1, hb1⟩
          have hr2 : Hid (w1.heap[w.heap.size]? = some (.cells (rm (L ++ [16 * fh b + fh c]) (s.size / 2 - (k + 1))).toArray 5 (0, 0))) := hr1
          clear hr1 hroom2 hbel HB HC HL hu eo
          go_wp2
          go_roundw
          case rel => exact ⟨k + 1, L ++ [16 * fh b + fh c], by omega, by go_num, by go_num, E, hr2, hb1⟩
          case measure => simp [intOf]; omega
end Go.Proofs.Ytpjaiehkhbkgiaj
