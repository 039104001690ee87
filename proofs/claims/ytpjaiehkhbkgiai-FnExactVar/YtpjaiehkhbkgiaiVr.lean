/-
  What Var makes: seven bits a byte, the least first, each but the last with 128 more; and the walk of the specification's function that makes it. Conditions: written at each theorem.
-/
import Derived.Test.YtpjaiehkhbkgiaiFi
import Derived.Laws.OwnMore
import Derived.WalkSpells
namespace Go.Proofs.Ytpjaiehkhbkgiai
open Go.ChangeShapes Go.WideShapes Go.ChangeAt Go.RowKit
set_option linter.unusedVariables false

def vrF : Nat → Nat → List Int
  | 0, n => [(n : Int)]
  | f + 1, n => if n < 128 then [(n : Int)] else ((128 + n % 128 : Nat) : Int) :: vrF f (n / 128)

def vr (n : Nat) : List Int := vrF n n

theorem vrF_same : ∀ (f g n : Nat), n ≤ f → n ≤ g → vrF f n = vrF g n
  | 0, 0, _, _, _ => rfl
  | 0, g + 1, n, h, _ => by
    obtain rfl : n = 0 := by omega
    rfl
  | f + 1, 0, n, _, h => by
    obtain rfl : n = 0 := by omega
    rfl
  | f + 1, g + 1, n, h1, h2 => by
    simp only [vrF]
    split
    · rfl
    · rw [vrF_same f g (n / 128) (by omega) (by omega)]

theorem vr_small {n : Nat} (h : n < 128) : vr n = [(n : Int)] := by
  unfold vr
  cases n with
  | zero => rfl
  | succ m => simp only [vrF]; rw [if_pos h]

theorem vr_big {n : Nat} (h : ¬ n < 128) : vr n = ((128 + n % 128 : Nat) : Int) :: vr (n / 128) := by
  unfold vr
  cases n with
  | zero => omega
  | succ m =>
    simp only [vrF]
    rw [if_neg h, vrF_same m ((m + 1) / 128) ((m + 1) / 128) (by omega) (Nat.le_refl _)]

theorem vr_length : ∀ (j n : Nat), n < 128 ^ (j + 1) → (vr n).length ≤ j + 1
  | 0, n, h => by rw [vr_small (by simpa using h)]; simp
  | j + 1, n, h => by
    by_cases hs : n < 128
    · rw [vr_small hs]; simp
    · rw [vr_big hs]
      have := vr_length j (n / 128) (by rw [Nat.div_lt_iff_lt_mul (by omega)]; rw [Nat.pow_succ] at h; exact h)
      simp; omega

theorem vr_length7 {n : Nat} (h : n ≤ 562949953421311) : (vr n).length ≤ 7 := vr_length 6 n (by omega)

theorem vr_pos (n : Nat) : 0 < (vr n).length := by
  by_cases h : n < 128
  · rw [vr_small h]; simp
  · rw [vr_big h]; simp

/-- Bytes that a slice of the call's own holds. -/
abbrev ownB (w : World) (base : Nat) (v : Value) (L : List Int) : Prop := w.ownsRow base 5 1 v L.length (L.map (Value.int .u8))

theorem conv_own {w : World} {base : Nat} {v : Value} {L : List Int} (h : ownB w base v L) : (convert 30 9 v).run Try.prog w = .ok (.string (strOfNums L)) w := by
  obtain ⟨_, hc⟩ := h
  rcases hc with ⟨rfl, hn⟩ | ⟨g, cap, cur, rfl, hb, hg, hn, hm, hs, hx⟩
  · obtain rfl : L = [] := List.length_eq_zero_iff.1 hn
    exact run_convert_bytes_nil w 30 5 Try.underlying30 Try.underlying5 0 0 9 Try.underlying9
  · refine run_convert_bytes_arg w 30 5 Try.underlying30 Try.underlying5 g 0 L.length cap L rfl (fun i hi => ?_) 9 Try.underlying9
    have e : (cur.toList.take (L.length * 1))[i]? = (L.map (Value.int .u8))[i]? := by rw [hx]
    rw [List.getElem?_take_of_lt (by omega), List.getElem?_map, List.getElem?_eq_getElem hi] at e
    simp only [World.cell?, hg]
    simp [List.getElem?_eq_getElem hi] at e ⊢
    simpa using e

theorem vr_rest {L : List Int} {q n : Nat} (h : L ++ vr q = vr n) (hn : n ≤ 562949953421311) : L.length + (vr q).length ≤ 7 := by
  have := vr_length7 hn
  rw [← h] at this
  simpa using this

theorem vr_le {L : List Int} {q n : Nat} (h : ¬ q < 128) (hvr : L ++ vr q = vr n) : (L ++ [((128 + q % 128 : Nat) : Int)]) ++ vr (q / 128) = vr n := by
  rw [← hvr, vr_big h]
  simp

set_option maxRecDepth 20000 in
theorem spec_var (n : Nat) (hn : n ≤ 562949953421311) (w : World) :
    Calls Try.prog 10 #[.int .i64 n] w fun e w' => e = .returned (.string (strOfNums (vr n))) ∧ Below w.heap.size w w' := by
  obtain ⟨i0, hi, hz0, hz1, hz2⟩ := info_parts Try.info5
  go_enter Try.func10, Try.ntmps10
  go_wp2_with (go_at_call 12; refine (in_yes n 0 562949953421311 (by omega) (by omega) w).mono ?_; rintro e w' ⟨rfl, rfl⟩)
  go_loopw [0, 3] (fun m out wr => ∃ (q : Nat) (L : List Int), m = .int .i64 q ∧ q ≤ n ∧ ownB wr w.heap.size out L ∧ Hid (L ++ vr q = vr n) ∧ Below w.heap.size w wr) (fun m _ _ => (intOf m).toNat)
  case atStart => exact ⟨n, [], rfl, Nat.le_refl _, World.ownsRow_lit _ #[] 0 (Nat.le_refl _) (by unfold maxLen; omega) rfl, by simp [Hid], (Below.refl _ _).alloc (Nat.le_refl _) _⟩
  case round =>
    obtain ⟨q, L, rfl, hq, hown, hvr, hbel⟩ := hrel
    have hlen := vr_rest hvr.out hn
    have hpos := vr_pos q
    have hL : L.length + 1 ≤ 7 := by omega
    clear hlen hpos
    by_cases hs : (q : Int) < 128
    · go_wp2_with (at_builtin; refine wpList_append_own _ rfl (.tmp 19) (.tmp 22) 30 rfl w.heap.size 5 i0 (.int .u8 0) 1 1 Try.underlying30 hi hz0 hz1 hz2 rfl (by decide) _ _ _ rfl (hown.alloc _) ⟨wr.heap.size, 0, none⟩ 1 1 [.int .u8 (q : Int)] rfl rfl ?c1 ?c2 ?c3 ?c4 ?c5 ?_)
      case c1 => exact cell_one_new _ _ _
      case c2 => simp [Value.oneCell']
      case c3 => unfold maxLen; omega
      case c4 => omega
      case c5 => have := hbel.size; simp; omega
      intro v' w1 hown' hgrow _
      have hown2 : ownB w1 w.heap.size v' (L ++ [(q : Int)]) := by
        simpa [ownB] using hown'
      have hb1 : Below w.heap.size w w1 := (hbel.alloc hbel.size _).grown hgrow (by have := hbel.size; simp; omega) (fun k hk => (hown.lt k hk).1)
      have hfin : L ++ [(q : Int)] = vr n := by rw [← hvr.out, vr_small (by omega)]
      rw [hfin] at hown2
      have hc := conv_own hown2
      clear hown' hgrow hown hown2 hvr hfin
      go_wp2
      go_ret
      exact ⟨rfl, hb1⟩
    · go_wp2_with (at_builtin; refine wpList_append_own _ rfl (.tmp 10) (.tmp 15) 30 rfl w.heap.size 5 i0 (.int .u8 0) 1 1 Try.underlying30 hi hz0 hz1 hz2 rfl (by decide) _ _ _ rfl (hown.alloc _) ⟨wr.heap.size, 0, none⟩ 1 1 [.int .u8 (128 + (q : Int) % 128)] rfl rfl ?c1 ?c2 ?c3 ?c4 ?c5 ?_)
      case c2 => simp [Value.oneCell']
      case c3 => unfold maxLen; omega
      case c4 => omega
      case c5 => have := hbel.size; simp; omega
      intro v' w1 hown' hgrow _
      have hown2 : ownB w1 w.heap.size v' (L ++ [((128 + q % 128 : Nat) : Int)]) := by
        simpa [ownB] using hown'
      have hb1 : Below w.heap.size w w1 := (hbel.alloc hbel.size _).grown hgrow (by have := hbel.size; simp; omega) (fun k hk => (hown.lt k hk).1)
      have hfin : Hid ((L ++ [((128 + q % 128 : Nat) : Int)]) ++ vr (q / 128) = vr n) := vr_le (by omega) hvr.out
      clear hown' hgrow hown hvr hbel
      go_wp2
      go_roundw
      case rel => exact ⟨q / 128, L ++ [((128 + q % 128 : Nat) : Int)], by go_num, by omega, hown2, hfin, hb1⟩
      case measure => simp [intOf]; omega
end Go.Proofs.Ytpjaiehkhbkgiai
