/-
  Plain facts, of no program: what is made of a number or a text is read as it, whatever stands behind. Conditions: written at each theorem.
-/
import Derived.Test.YtpjaiehkhbkgiacDoorDg
import Derived.Test.YtpjaiehkhbkgiacDoorIc
namespace Go.Proofs.YtpjaiehkhbkgiacDoor
open Go.ChangeShapes Go.WideShapes Go.ChangeAt Go.RowKit
set_option linter.unusedVariables false

theorem byteAt_app (L : List Int) (t : ByteArray) (i : Nat) (hi : i < L.length) (h0 : 0 ≤ L.getD i 0 ∧ L.getD i 0 < 256) : (byteAt (strOfNums L ++ t) i : Int) = L.getD i 0 := by
  have hs : i < (strOfNums L ++ t).size := by rw [ByteArray.size_append, strOfNums_size]; omega
  have hs1 : i < (strOfNums L).size := by rw [strOfNums_size]; exact hi
  rw [byteAt_in hs]
  have e1 : (strOfNums L ++ t)[i] = (strOfNums L)[i] := by
    rw [ByteArray.getElem_append_left hs1]
  rw [e1]
  have e2 : (strOfNums L)[i] = UInt8.ofNat (L[i]).toNat := by
    show (L.map fun n => UInt8.ofNat n.toNat).toArray[i]'(by simpa using hi) = _
    simp
  rw [e2]
  have e3 : L.getD i 0 = L[i] := by simp [List.getD, List.getElem?_eq_getElem hi]
  rw [e3] at h0 ⊢
  rw [UInt8.toNat_ofNat']
  omega

def valL : List Int → Int
  | [] => 0
  | x :: r => x % 128 + 128 * valL r

theorem valL_vr : ∀ (n : Nat), valL (vr n) = n := by
  intro n
  induction n using Nat.strongRecOn with
  | ind n ih =>
    by_cases h : n < 128
    · rw [vr_small h]; simp only [valL]; omega
    · rw [vr_big h]; simp only [valL, ih (n / 128) (by omega)]; omega

theorem vr_inj {m n : Nat} (h : vr m = vr n) : m = n := by
  have := valL_vr m
  rw [h, valL_vr n] at this
  omega

theorem vr_getD (n i : Nat) (hi : i < (vr n).length) : 0 ≤ (vr n).getD i 0 ∧ (vr n).getD i 0 < 256 := by
  have e3 : (vr n).getD i 0 = (vr n)[i] := by simp [List.getD, List.getElem?_eq_getElem hi]
  rw [e3]
  exact vr_bytes n _ (List.getElem_mem _)

/-- What Var makes is read as its number, whatever stands behind. -/
theorem rv_back (n : Nat) (hn : n ≤ 562949953421311) (t : ByteArray) : IsRv (strOfNums (vr n) ++ t) n (vr n).length := by
  have h7 := vr_length7 hn
  have hp := vr_pos n
  have hb : ∀ i, i < (vr n).length → (byteAt (strOfNums (vr n) ++ t) i : Int) = (vr n).getD i 0 := fun i hi => byteAt_app _ _ i hi (vr_getD n i hi)
  have hg : goodAt (strOfNums (vr n) ++ t) (vr n).length := by
    refine ⟨fun i hi => ?_, ?_, ?_⟩
    · have h1 := vr_nonlast n i hi
      have h2 := hb i (by omega)
      omega
    · have h1 := (vr_last n).1
      have h2 := hb ((vr n).length - 1) (by omega)
      omega
    · by_cases h1 : (vr n).length = 1
      · exact Or.inl h1
      · right
        have h2 := vr_one n (by omega)
        have h3 := (vr_last n).2 (by omega)
        have h4 := hb ((vr n).length - 1) (by omega)
        omega
  refine Or.inr ⟨hp, h7, by rw [ByteArray.size_append, strOfNums_size]; omega, hg, ?_⟩
  have hv := (vr_iff (strOfNums (vr n) ++ t) (vr n).length hp).2 hg
  refine vr_inj ?_
  rw [hv]
  apply List.ext_getElem?
  intro i
  by_cases hi : i < (vr n).length
  · have h1 := bs_get (strOfNums (vr n) ++ t) 0 (vr n).length i hi
    rw [Nat.zero_add, hb i hi] at h1
    have h2 : i < (bs (strOfNums (vr n) ++ t) 0 (vr n).length).length := by rw [bs_length]; exact hi
    simp only [List.getD, List.getElem?_eq_getElem hi, List.getElem?_eq_getElem h2, Option.getD_some] at h1 ⊢
    rw [h1]
  · rw [List.getElem?_eq_none (by omega), List.getElem?_eq_none (by rw [bs_length]; omega)]

theorem fxs_getD (n i : Nat) (hi : i < 7) : (fxs n 7)[i]? = some (UInt8.ofNat (dig n (6 - i))) := by
  unfold fxs
  rw [List.getElem?_map, List.getElem?_range hi]
  rfl

theorem byteAt_fx (n i : Nat) (hi : i < 7) (t : ByteArray) : byteAt (fx n 7 ++ t) i = dig n (6 - i) := by
  have hl : (fx n 7).size = 7 := by simp [fx, fxs, ByteArray.size]
  have hs : i < (fx n 7 ++ t).size := by rw [ByteArray.size_append]; omega
  have hs1 : i < (fx n 7).size := by omega
  rw [byteAt_in hs, ByteArray.getElem_append_left hs1]
  have e : (fx n 7)[i] = UInt8.ofNat (dig n (6 - i)) := by
    have h1 := fxs_getD n i hi
    have h2 : i < (fxs n 7).length := by simpa [fxs] using hi
    rw [List.getElem?_eq_getElem h2] at h1
    injection h1 with h1
  rw [e, UInt8.toNat_ofNat']
  unfold dig
  omega

theorem rd_fx (n : Nat) (hn : n / 256 ^ 7 = 0) (t : ByteArray) : ∀ k, k ≤ 7 → rd (fx n 7 ++ t) k = n / 256 ^ (7 - k)
  | 0, _ => by simp only [rd]; rw [Nat.sub_zero, hn]
  | k + 1, h => by
    simp only [rd]
    rw [rd_fx n hn t k (by omega), byteAt_fx n k (by omega) t, dig, show 7 - k = (6 - k) + 1 by omega, show 7 - (k + 1) = 6 - k by omega, Nat.pow_succ, ← Nat.div_div_eq_div_mul]
    omega

theorem fx_back (n : Nat) (hn : n / 256 ^ 7 = 0) (t : ByteArray) : rd (fx n 7 ++ t) 7 = n := by
  rw [rd_fx n hn t 7 (Nat.le_refl _)]
  simp

theorem fx_size (n : Nat) : (fx n 7).size = 7 := by simp [fx, fxs, ByteArray.size]

theorem hx_get (s : ByteArray) : ∀ (m k : Nat), k < m → (hx s m).getD (2 * k) 0 = (hexd (byteAt s k / 16) : Int) ∧ (hx s m).getD (2 * k + 1) 0 = (hexd (byteAt s k % 16) : Int)
  | 0, k, h => by omega
  | m + 1, k, h => by
    have hl := hx_length s m
    by_cases hk : k = m
    · subst hk
      simp [hx, List.getD, hl]
    · have ih := hx_get s m k (by omega)
      simp only [hx, List.getD] at ih ⊢
      rw [List.getElem?_append_left (by omega), List.getElem?_append_left (by omega)]
      exact ih

theorem hexd_byte (k : Nat) (h : k < 16) : 0 ≤ (hexd k : Int) ∧ (hexd k : Int) < 256 := by have := hexd_lt k h; omega

theorem uh_hx (s : ByteArray) : ∀ k, k ≤ s.size → uh (strOfNums (hx s s.size)) k = some (bs s 0 k)
  | 0, _ => rfl
  | k + 1, h => by
    have ih := uh_hx s k (by omega)
    have hl := hx_length s s.size
    have hg := hx_get s s.size k (by omega)
    have hb := byteAt_lt s k
    have e : ∀ L : List Int, strOfNums L = strOfNums L ++ ByteArray.empty := fun L => by simp
    have b1 : (byteAt (strOfNums (hx s s.size)) (2 * k) : Int) = (hexd (byteAt s k / 16) : Int) := by
      rw [e, byteAt_app _ _ _ (by omega) (by rw [hg.1]; exact hexd_byte _ (by omega)), hg.1]
    have b2 : (byteAt (strOfNums (hx s s.size)) (2 * k + 1) : Int) = (hexd (byteAt s k % 16) : Int) := by
      rw [e, byteAt_app _ _ _ (by omega) (by rw [hg.2]; exact hexd_byte _ (by omega)), hg.2]
    have f1 : fh (byteAt (strOfNums (hx s s.size)) (2 * k)) = (byteAt s k / 16 : Nat) := fh_yes _ _ (by omega) (by omega)
    have f2 : fh (byteAt (strOfNums (hx s s.size)) (2 * k + 1)) = (byteAt s k % 16 : Nat) := fh_yes _ _ (by omega) (by omega)
    rw [uh_good ih (by rw [f1, f2]; omega), f1, f2]
    congr 1
    have hsn : ∀ j m, bs s j (m + 1) = bs s j m ++ [(byteAt s (j + m) : Int)] := by
      intro j m
      induction m generalizing j with
      | zero => simp [bs]
      | succ m ih2 =>
        rw [bs, ih2 (j + 1)]
        simp only [bs, List.cons_append]
        rw [show j + 1 + m = j + (m + 1) by omega]
    rw [hsn 0 k, Nat.zero_add]
    congr 2
    omega

/-- What Hex makes is read as the text that it was made of. -/
theorem hex_back (s : ByteArray) : uhText (strOfNums (hx s s.size)) = s ∧ uhOk (strOfNums (hx s s.size)) = true := by
  have hz : (strOfNums (hx s s.size)).size / 2 = s.size := by rw [strOfNums_size, hx_length]; omega
  have h := uh_hx s s.size (Nat.le_refl _)
  have he := uh_end (s := strOfNums (hx s s.size)) (L := bs s 0 s.size) (by rw [hz]; exact h)
  refine ⟨?_, he.2⟩
  rw [he.1]
  apply bytes_inj
  rw [strOfNums_data]
  have ht := bs_take s s.size 0 (by omega)
  have hlen : s.data.toList.length = s.size := by rw [Array.length_toList]; rfl
  rw [List.drop_zero, List.take_of_length_le (by rw [hlen]; exact Nat.le_refl _)] at ht
  exact ht
end Go.Proofs.YtpjaiehkhbkgiacDoor
