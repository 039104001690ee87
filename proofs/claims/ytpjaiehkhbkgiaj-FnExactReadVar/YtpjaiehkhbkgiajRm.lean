/-
  What Var makes, and that a text begins with the Var of the number that its bytes say exactly where each of them but the last has 128 more, the last has not, and is not a needless nought. Conditions: written at each theorem.
-/
import Derived.Test.YtpjaiehkhbkgiajKit
import Derived.Laws.Bits128
namespace Go.Proofs.Ytpjaiehkhbkgiaj
open Go.ChangeShapes Go.WideShapes Go.ChangeAt Go.RowKit
set_option linter.unusedVariables false

theorem in_yes (x lo hi : Int) (h1 : lo ≤ x) (h2 : x ≤ hi) (w : World) :
    Calls Try.prog 17 #[.int .i64 x, .int .i64 lo, .int .i64 hi] w fun e w' => e = .returned (.bool true) ∧ w = w' := by
  go_enter Try.func17, Try.ntmps17
  go_wp2
  go_ret
  exact ⟨rfl, rfl⟩

theorem in_no (x lo hi : Int) (h : x < lo ∨ hi < x) (w : World) :
    Calls Try.prog 17 #[.int .i64 x, .int .i64 lo, .int .i64 hi] w fun e w' => e = .returned (.bool false) ∧ w = w' := by
  by_cases h1 : x < lo
  · go_enter Try.func17, Try.ntmps17
    go_wp2
    go_ret
    exact ⟨rfl, rfl⟩
  · have h2 : hi < x := by omega
    have e : Ending.returned (Value.bool (decide (x ≤ hi))) = Ending.returned (Value.bool false) := by rw [decide_eq_false (by omega)]
    go_enter Try.func17, Try.ntmps17
    go_wp2
    go_ret
    exact ⟨e, rfl⟩

def vrF : Nat → Nat → List Int
  | 0, n => [(n : Int)]
  | f + 1, n => if n < 128 then [(n : Int)] else ((128 + n % 128 : Nat) : Int) :: vrF f (n / 128)

def vr (n : Nat) : List Int := vrF n n

theorem vrF_same : ∀ (f g n : Nat), n ≤ f → n ≤ g → vrF f n = vrF g n
  | 0, 0, _, _, _ => rfl
  | 0, g + 1, n, h, _ => by
    obtain rfl : n = 0 := by omega
    rfl
  | f + 1, 0, n, _, h => by
    obtain rfl : n = 0 := by omega
    rfl
  | f + 1, g + 1, n, h1, h2 => by
    simp only [vrF]
    split
    · rfl
    · rw [vrF_same f g (n / 128) (by omega) (by omega)]

theorem vr_small {n : Nat} (h : n < 128) : vr n = [(n : Int)] := by
  unfold vr
  cases n with
  | zero => rfl
  | succ m => simp only [vrF]; rw [if_pos h]

theorem vr_big {n : Nat} (h : ¬ n < 128) : vr n = ((128 + n % 128 : Nat) : Int) :: vr (n / 128) := by
  unfold vr
  cases n with
  | zero => omega
  | succ m =>
    simp only [vrF]
    rw [if_neg h, vrF_same m ((m + 1) / 128) ((m + 1) / 128) (by omega) (Nat.le_refl _)]

theorem vr_length : ∀ (j n : Nat), n < 128 ^ (j + 1) → (vr n).length ≤ j + 1
  | 0, n, h => by rw [vr_small (by simpa using h)]; simp
  | j + 1, n, h => by
    by_cases hs : n < 128
    · rw [vr_small hs]; simp
    · rw [vr_big hs]
      have := vr_length j (n / 128) (by rw [Nat.div_lt_iff_lt_mul (by omega)]; rw [Nat.pow_succ] at h; exact h)
      simp; omega

theorem vr_length7 {n : Nat} (h : n ≤ 562949953421311) : (vr n).length ≤ 7 := vr_length 6 n (by omega)

theorem vr_pos (n : Nat) : 0 < (vr n).length := by
  by_cases h : n < 128
  · rw [vr_small h]; simp
  · rw [vr_big h]; simp

theorem vr_rest {L : List Int} {q n : Nat} (h : L ++ vr q = vr n) (hn : n ≤ 562949953421311) : L.length + (vr q).length ≤ 7 := by
  have := vr_length7 hn
  rw [← h] at this
  simpa using this

theorem vr_le {L : List Int} {q n : Nat} (h : ¬ q < 128) (hvr : L ++ vr q = vr n) : (L ++ [((128 + q % 128 : Nat) : Int)]) ++ vr (q / 128) = vr n := by
  rw [← hvr, vr_big h]
  simp

set_option maxRecDepth 20000 in
theorem spec_var (n : Nat) (hn : n ≤ 562949953421311) (w : World) :
    Calls Try.prog 12 #[.int .i64 n] w fun e w' => e = .returned (.string (strOfNums (vr n))) ∧ Below w.heap.size w w' := by
  obtain ⟨i0, hi, hz0, hz1, hz2⟩ := info_parts Try.info5
  go_enter Try.func12, Try.ntmps12
  go_wp2_with (go_at_call 17; refine (in_yes n 0 562949953421311 (by omega) (by omega) w).mono ?_; rintro e w' ⟨rfl, rfl⟩)
  go_loopw [0, 3] (fun m out wr => ∃ (q : Nat) (L : List Int), m = .int .i64 q ∧ q ≤ n ∧ ownB wr w.heap.size out L ∧ Hid (L ++ vr q = vr n) ∧ Below w.heap.size w wr) (fun m _ _ => (intOf m).toNat)
  case atStart => exact ⟨n, [], rfl, Nat.le_refl _, World.ownsRow_lit _ #[] 0 (Nat.le_refl _) (by unfold maxLen; omega) rfl, by simp [Hid], (Below.refl _ _).alloc (Nat.le_refl _) _⟩
  case round =>
    obtain ⟨q, L, rfl, hq, hown, hvr, hbel⟩ := hrel
    have hlen := vr_rest hvr.out hn
    have hpos := vr_pos q
    have hL : L.length + 1 ≤ 7 := by omega
    clear hlen hpos
    by_cases hs : (q : Int) < 128
    · go_wp2_with (at_builtin; refine wpList_append_own _ rfl (.tmp 19) (.tmp 22) 29 rfl w.heap.size 5 i0 (.int .u8 0) 1 1 Try.underlying29 hi hz0 hz1 hz2 rfl (by decide) _ _ _ rfl (hown.alloc _) ⟨wr.heap.size, 0, none⟩ 1 1 [.int .u8 (q : Int)] rfl rfl ?c1 ?c2 ?c3 ?c4 ?c5 ?_)
      case c1 => exact cell_one_new _ _ _
      case c2 => simp [Value.oneCell']
      case c3 => unfold maxLen; omega
      case c4 => omega
      case c5 => have := hbel.size; simp; omega
      intro v' w1 hown' hgrow _
      have hown2 : ownB w1 w.heap.size v' (L ++ [(q : Int)]) := by
        simpa [ownB] using hown'
      have hb1 : Below w.heap.size w w1 := (hbel.alloc hbel.size _).grown hgrow (by have := hbel.size; simp; omega) (fun k hk => (hown.lt k hk).1)
      have hfin : L ++ [(q : Int)] = vr n := by rw [← hvr.out, vr_small (by omega)]
      rw [hfin] at hown2
      have hc := conv_own hown2
      clear hown' hgrow hown hown2 hvr hfin
      go_wp2
      go_ret
      exact ⟨rfl, hb1⟩
    · go_wp2_with (at_builtin; refine wpList_append_own _ rfl (.tmp 10) (.tmp 15) 29 rfl w.heap.size 5 i0 (.int .u8 0) 1 1 Try.underlying29 hi hz0 hz1 hz2 rfl (by decide) _ _ _ rfl (hown.alloc _) ⟨wr.heap.size, 0, none⟩ 1 1 [.int .u8 (128 + (q : Int) % 128)] rfl rfl ?c1 ?c2 ?c3 ?c4 ?c5 ?_)
      case c2 => simp [Value.oneCell']
      case c3 => unfold maxLen; omega
      case c4 => omega
      case c5 => have := hbel.size; simp; omega
      intro v' w1 hown' hgrow _
      have hown2 : ownB w1 w.heap.size v' (L ++ [((128 + q % 128 : Nat) : Int)]) := by
        simpa [ownB] using hown'
      have hb1 : Below w.heap.size w w1 := (hbel.alloc hbel.size _).grown hgrow (by have := hbel.size; simp; omega) (fun k hk => (hown.lt k hk).1)
      have hfin : Hid ((L ++ [((128 + q % 128 : Nat) : Int)]) ++ vr (q / 128) = vr n) := vr_le (by omega) hvr.out
      clear hown' hgrow hown hvr hbel
      go_wp2
      go_roundw
      case rel => exact ⟨q / 128, L ++ [((128 + q % 128 : Nat) : Int)], by go_num, by omega, hown2, hfin, hb1⟩
      case measure => simp [intOf]; omega

theorem vr_nonlast : ∀ (n i : Nat), i + 1 < (vr n).length → 128 ≤ (vr n).getD i 0 := by
  intro n
  induction n using Nat.strongRecOn with
  | ind n ih =>
    intro i hi
    by_cases h : n < 128
    · rw [vr_small h] at hi; simp at hi
    · rw [vr_big h] at hi ⊢
      cases i with
      | zero => simp; omega
      | succ i =>
        simp only [List.getD_cons_succ]
        exact ih (n / 128) (by omega) i (by simpa using hi)

theorem vr_last : ∀ (n : Nat), (vr n).getD ((vr n).length - 1) 0 < 128 ∧ (0 < n → 0 < (vr n).getD ((vr n).length - 1) 0) := by
  intro n
  induction n using Nat.strongRecOn with
  | ind n ih =>
    by_cases h : n < 128
    · rw [vr_small h]; simp; omega
    · rw [vr_big h]
      have hp := vr_pos (n / 128)
      obtain ⟨m, hm⟩ : ∃ m, (vr (n / 128)).length = m + 1 := ⟨(vr (n / 128)).length - 1, by omega⟩
      have := ih (n / 128) (by omega)
      rw [hm] at this
      simp only [List.length_cons, hm, Nat.add_sub_cancel, List.getD_cons_succ] at this ⊢
      exact ⟨this.1, fun _ => this.2 (by omega)⟩

theorem vr_one (n : Nat) (h : 1 < (vr n).length) : 128 ≤ n := by
  by_cases hs : n < 128
  · rw [vr_small hs] at h; simp at h
  · omega

/-- The m bytes from j on. -/
def bs (s : ByteArray) : Nat → Nat → List Int
  | _, 0 => []
  | j, m + 1 => (byteAt s j : Int) :: bs s (j + 1) m

/-- What they say: seven bits a byte, the least first. -/
def val (s : ByteArray) : Nat → Nat → Nat
  | _, 0 => 0
  | j, m + 1 => byteAt s j % 128 + 128 * val s (j + 1) m

theorem bs_length (s : ByteArray) : ∀ j m, (bs s j m).length = m
  | _, 0 => rfl
  | j, m + 1 => by simp [bs, bs_length s (j + 1) m]

theorem bs_get (s : ByteArray) : ∀ j m i, i < m → (bs s j m).getD i 0 = (byteAt s (j + i) : Int)
  | j, m + 1, 0, _ => by simp [bs]
  | j, m + 1, i + 1, h => by
    simp only [bs, List.getD_cons_succ]
    rw [bs_get s (j + 1) m i (by omega), show j + 1 + i = j + (i + 1) by omega]

theorem val_lt (s : ByteArray) : ∀ j m, val s j m < 128 ^ m
  | _, 0 => by simp [val]
  | j, m + 1 => by
    have := val_lt s (j + 1) m
    simp only [val, Nat.pow_succ]
    have h2 : byteAt s j % 128 < 128 := Nat.mod_lt _ (by omega)
    omega

theorem val_snoc (s : ByteArray) : ∀ j m, val s j (m + 1) = val s j m + byteAt s (j + m) % 128 * 128 ^ m
  | j, 0 => by simp [val]
  | j, m + 1 => by
    rw [val, val_snoc s (j + 1) m]
    simp only [val, Nat.pow_succ]
    rw [show j + 1 + m = j + (m + 1) by omega]
    generalize byteAt s (j + (m + 1)) % 128 = x
    generalize val s (j + 1) m = y
    generalize 128 ^ m = z
    rw [Nat.mul_add, Nat.add_assoc, Nat.mul_comm 128 (x * z), Nat.mul_assoc]

/-- The first k bytes are the Var of a number. -/
def goodAt (s : ByteArray) (k : Nat) : Prop := (∀ i, i + 1 < k → 128 ≤ byteAt s i) ∧ byteAt s (k - 1) < 128 ∧ (k = 1 ∨ byteAt s (k - 1) ≠ 0)

theorem good_vr (s : ByteArray) : ∀ (m j : Nat), (∀ i, i < m → 128 ≤ byteAt s (j + i)) → byteAt s (j + m) < 128 → byteAt s (j + m) ≠ 0 → vr (val s j (m + 1)) = bs s j (m + 1) ∧ 0 < val s j (m + 1)
  | 0, j, _, h1, h2 => by
    have e : val s j 1 = byteAt s j := by simp only [val]; simp at h1; omega
    rw [e]
    simp only [Nat.add_zero] at h1 h2
    exact ⟨by rw [vr_small h1]; simp [bs], by omega⟩
  | m + 1, j, h, h1, h2 => by
    have ih := good_vr s m (j + 1) (fun i hi => by rw [show j + 1 + i = j + (i + 1) by omega]; exact h _ (by omega)) (by rw [show j + 1 + m = j + (m + 1) by omega]; exact h1) (by rw [show j + 1 + m = j + (m + 1) by omega]; exact h2)
    have hb := h 0 (by omega)
    have hl := byteAt_lt s j
    simp only [Nat.add_zero] at hb
    have e : val s j (m + 1 + 1) = byteAt s j % 128 + 128 * val s (j + 1) (m + 1) := rfl
    have hbig : ¬ val s j (m + 1 + 1) < 128 := by rw [e]; omega
    refine ⟨?_, by omega⟩
    rw [vr_big hbig, e]
    have e1 : (byteAt s j % 128 + 128 * val s (j + 1) (m + 1)) / 128 = val s (j + 1) (m + 1) := by omega
    have e2 : 128 + (byteAt s j % 128 + 128 * val s (j + 1) (m + 1)) % 128 = byteAt s j := by omega
    rw [e1, e2, ih.1]
    rfl

theorem vr_iff (s : ByteArray) (k : Nat) (hk : 1 ≤ k) : vr (val s 0 k) = bs s 0 k ↔ goodAt s k := by
  obtain ⟨m, rfl⟩ : ∃ m, k = m + 1 := ⟨k - 1, by omega⟩
  constructor
  · intro h
    have hl : (vr (val s 0 (m + 1))).length = m + 1 := by rw [h, bs_length]
    refine ⟨fun i hi => ?_, ?_, ?_⟩
    · have := vr_nonlast (val s 0 (m + 1)) i (by rw [hl]; omega)
      rw [h, bs_get _ _ _ _ (by omega)] at this
      simp at this
      omega
    · have := (vr_last (val s 0 (m + 1))).1
      rw [hl, h, bs_get _ _ _ _ (by omega)] at this
      simp at this ⊢
      omega
    · by_cases hm : m = 0
      · left; omega
      · right
        have h1 := vr_one (val s 0 (m + 1)) (by rw [hl]; omega)
        have := (vr_last (val s 0 (m + 1))).2 (by omega)
        rw [hl, h, bs_get _ _ _ _ (by omega)] at this
        simp at this ⊢
        omega
  · rintro ⟨h1, h2, h3⟩
    by_cases hz : byteAt s m = 0
    · have hm : m = 0 := by
        rcases h3 with h | h
        · omega
        · exact absurd hz (by simpa using h)
      subst hm
      simp [val, bs, hz, vr_small]
    · exact (good_vr s m 0 (fun i hi => by simpa using h1 i (by omega)) (by simpa using h2) (by simpa using hz)).1

theorem good_one {s : ByteArray} {k k' : Nat} (h : goodAt s k) (h' : goodAt s k') (hk : 1 ≤ k) (hk' : 1 ≤ k') : k = k' := by
  rcases Nat.lt_trichotomy k k' with hl | he | hl
  · have := h'.1 (k - 1) (by omega)
    have := h.2.1
    omega
  · exact he
  · have := h.1 (k' - 1) (by omega)
    have := h'.2.1
    omega

/-- What ReadVar answers. -/
def IsRv (s : ByteArray) (n k : Nat) : Prop := (n = 0 ∧ k = 0 ∧ ∀ j, 1 ≤ j → j ≤ 7 → j ≤ s.size → ¬ goodAt s j) ∨ (1 ≤ k ∧ k ≤ 7 ∧ k ≤ s.size ∧ goodAt s k ∧ n = val s 0 k)

theorem isRv_one {s : ByteArray} {n k n' k' : Nat} (h : IsRv s n k) (h' : IsRv s n' k') : n = n' ∧ k = k' := by
  rcases h with ⟨rfl, rfl, h⟩ | ⟨h1, h7, hl, hg, rfl⟩ <;> rcases h' with ⟨rfl, rfl, h'⟩ | ⟨h1', h7', hl', hg', rfl⟩
  · exact ⟨rfl, rfl⟩
  · exact absurd hg' (h _ h1' h7' hl')
  · exact absurd hg (h' _ h1 h7 hl)
  · have := good_one hg hg' h1 h1'
    subst this
    exact ⟨rfl, rfl⟩
end Go.Proofs.Ytpjaiehkhbkgiaj
