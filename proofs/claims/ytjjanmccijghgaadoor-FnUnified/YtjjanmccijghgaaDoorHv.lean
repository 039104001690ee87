/-
  The writer of types as it landed: a free variable is written. Conditions: written at each theorem.
-/
import Derived.Test.YtjjanmccijghgaaDoorHx
import Derived.Deep.RegionHeld3
namespace Go.Proofs.YtjjanmccijghgaaDoor
open Go.ChangeShapes Go.WideShapes Go.ChangeAt Go.RowKit
set_option linter.unusedVariables false

set_option maxHeartbeats 1000000 in
set_option maxRecDepth 20000 in
theorem impl_variable {ts : List Typ} (B b : Nat) (bl : Nat → Nat) (bs : List UInt8) (l : List Nat) (j : Nat) (hj : j < ts.length) (hll : l.length ≤ 900) (hbs : bs.length ≤ 500000) (w : World) (hS : Shp w bl ts) (hT : TW B b ts.length bs bl l w) (hpB : ∀ w', Below B w w' → PowIs w') (hBw : B ≤ w.heap.size) :
    Calls Tryd.prog 44 #[.pointer (some ⟨b, 0, none⟩), shP bl j] w (TEnd B b ts.length bl bs l (varT j) w) := by
  have HT : Hid (TW B b ts.length bs bl l w) := hT
  obtain ⟨hBb, hbw, fv, c2, f2, hps, hown⟩ := hT.at
  have hfv : ∃ a cap, fv = .slice a l.length cap := by
    rcases hown.2 with ⟨rfl, hz⟩ | ⟨g, cap, cur, rfl, _⟩
    · exact ⟨none, 0, by rw [hz]⟩
    · exact ⟨_, cap, rfl⟩
  obtain ⟨fa, fc, rfl⟩ := hfv
  have HI : Hid (Calls _ _ _ _ _) := lib_indexP B ts.length bl l _ j hj hT.2 (by omega) w hS hown
  have HPB : Hid (∀ w', Below B w w' → PowIs w') := hpB
  have HPS : Hid (PrS B b bs (.slice fa l.length fc) w) := hps
  have HO : Hid (w.ownsRow B 47 1 (.slice fa l.length fc) l.length (l.map (shP bl))) := hown
  have HLN : Hid (∀ v ∈ l, v < ts.length) := hT.2
  clear hT hS hps hpB hown
  by_cases hm : j ∈ l
  · have hpl : placeT j l = idxT j l := by rw [placeT, if_pos hm]
    have hq := idx_le j l
    have HTX : Hid ((shoT 0 (varT j) l).1 = 39 :: Lib.itoa ((idxT j l : Nat) : Int)) := rfl
    have HNM : Hid ((shoT 0 (varT j) l).2 = l) := by show _ = _; simp only [varT, shoT, addT, if_pos hm]
    rw [hpl] at HI
    generalize idxT j l = q at *
    clear hpl hm
    have hlen := Lib.itoa_length_le (q : Int) (by omega) (by omega)
    obtain ⟨D, hD⟩ : ∃ D : ByteArray, ⟨(Lib.itoa (q : Int)).toArray⟩ = D := ⟨_, rfl⟩
    have hDs : D.size ≤ 21 := by rw [← hD, sizeB]; exact hlen
    have HD : Hid (∀ w', PowIs w' → Calls Tryd.prog 55 #[.int .i64 q] w' fun e w'' => e = .returned (.string D) ∧ Below w'.heap.size w' w'') := fun w' hp => by rw [← hD]; exact impl_dec (q : Int) (by omega) (by omega) w' hp
    have HDD : Hid (((⟨#[39]⟩ : ByteArray) ++ D).data.toList = 39 :: Lib.itoa (q : Int)) := by
      show _ = _
      rw [← hD, ByteArray.data_append, Array.toList_append]
      rfl
    have hDz : ((⟨#[39]⟩ : ByteArray) ++ D).size ≤ 100 := by rw [ByteArray.size_append]; show 1 + D.size ≤ 100; omega
    have HDZ : Hid (((⟨#[39]⟩ : ByteArray) ++ D).size ≤ 100) := hDz
    have HBS : Hid (bs.length ≤ 1000000) := Nat.le_trans hbs (by decide)
    have hDq : (9223372036854775807 < 1 + D.size) = False := eq_false (by omega)
    clear hlen hD hDz
    go_enter Tryd.func44, Tryd.ntmps44
    go_wp2_with fail
    refine HI.out.mono ?_
    rintro e w2 ⟨rfl, rfl⟩
    go_wp2
    go_region_held3 (fun _ => True) (trivial) (first
      | (go_at_call 55; refine (HD.out _ (HPB.out _ (Below.refl B w2).drew)).mono ?_; rintro e w3 ⟨rfl, b3⟩; have b3' : Below w2.heap.size w2 w3 := (Below.refl _ w2).drew.trans b3; have HT3 : Hid (TW B b ts.length bs bl l w3) := HT.out.below b3'; have B3 : Hid (Below B w2 w3) := (Below.refl B w2).trans (b3'.mono hBw); clear b3 b3')
      | (go_at_call 45; have X := tw_text (⟨#[39]⟩ ++ D) w3 HT3.out HBS.out HDZ.out (Nat.le_trans hBw B3.out.size); refine Calls.mono X ?_; clear X; rintro e w4 ⟨rfl, ht4, hb4⟩; have HT4 : Hid (TW B b ts.length (bs ++ ((⟨#[39]⟩ : ByteArray) ++ D).data.toList) bl l w4) := ht4; have B4 : Hid (Below B w2 w4) := B3.out.trans hb4; clear ht4 hb4))
    all_goals
      go_wp2
      go_end0
      exact ⟨rfl, by rw [HNM.out, HTX.out, ← HDD.out]; exact HT4.out, B4.out⟩
  · have hpl : placeT j l = -1 := by rw [placeT, if_neg hm]
    have HTX : Hid ((shoT 0 (varT j) l).1 = 39 :: Lib.itoa (l.length : Int)) := by show _ = _; simp only [varT, shoT, idx_not j l hm]
    have HNM : Hid ((shoT 0 (varT j) l).2 = l ++ [j]) := by show _ = _; simp only [varT, shoT, addT, if_neg hm]
    have HOO : Hid ((w.alloc (.cells #[shP bl j] 47)).ownsRow B 47 1 (.slice fa l.length fc) l.length (l.map (shP bl))) := World.ownsRow.alloc HO.out _
    have HC3 : Hid (∀ p u, ([shP bl j] : List Value)[p]? = some u → (w.alloc (.cells #[shP bl j] 47)).cell? ((⟨w.heap.size, 0, none⟩ : Addr).add p) = some u) := fun p u hu => by
      obtain rfl : p = 0 := by
        have := (List.getElem?_eq_some_iff.1 hu).1
        simpa using this
      rw [add_plain, cell_of_row _ _ _ _ _ _ (MapKept.heap_alloc w _).1]
      exact hu
    have HLJ : Hid (∀ v ∈ l ++ [j], v < ts.length) := fun v hv => by
      rcases List.mem_append.1 hv with h | h
      · exact HLN.out v h
      · simp at h
        omega
    have HPa : Hid (PrS B b bs (.slice fa l.length fc) (w.alloc (.cells #[shP bl j] 47))) := HPS.out.below ((Below.refl _ w).alloc (Nat.le_refl _) _)
    obtain ⟨i0, hi0, hz0, hz1, hz2⟩ := info_parts ptr_info
    rw [hpl] at HI
    clear hpl hm
    go_enter Tryd.func44, Tryd.ntmps44
    go_wp2_with fail
    refine HI.out.mono ?_
    rintro e w2 ⟨rfl, rfl⟩
    go_wp2_with (at_builtin; refine wpList_append_own _ rfl _ _ 40 rfl B 47 i0 _ 1 8 Tryd.underlying40 hi0 hz0 hz1 hz2 rfl (by decide) _ _ _ rfl HOO.out ⟨w2.heap.size, 0, none⟩ 1 1 [shP bl j] rfl (by simp) HC3.out (by intro u hu; simp at hu; subst hu; rfl) (by unfold maxLen; first | omega | (simp; omega) | simp) (by first | omega | (simp; omega) | simp) (by simp; omega) ?_)
    intro v4 w4 ho4 hg4 hn4
    have hv4 : ∃ g4 c4, v4 = .slice (some ⟨g4, 0, none⟩) (l.length + 1) c4 := by
      rcases ho4.2 with ⟨_, h0⟩ | ⟨g4, c4, cur4, h4, _⟩
      · omega
      · exact ⟨g4, c4, h4⟩
    obtain ⟨g4, c4, rfl⟩ := hv4
    have hb4 : Below B w2 w4 := ((Below.refl B w2).alloc hBw _).grown hg4 (by simp; omega) (fun k hk => (HOO.out.lt k hk).1)
    have hp4 : PrS B b bs (.slice fa l.length fc) w4 := HPa.out.grown HOO.out hg4
    have HT5 : Hid (TW B b ts.length bs bl (l ++ [j]) (w4.setCell ⟨b, 2, none⟩ (.slice (some ⟨g4, 0, none⟩) (l.length + 1) c4))) := by
      refine ⟨⟨(.slice (some ⟨g4, 0, none⟩) (l.length + 1) c4), hp4.names (.slice (some ⟨g4, 0, none⟩) (l.length + 1) c4), ?_⟩, HLJ.out⟩
      have := own_p_store (x := (.slice (some ⟨g4, 0, none⟩) (l.length + 1) c4)) ho4 hp4
      simpa using this
    have HB5 : Hid (Below B w2 (w4.setCell ⟨b, 2, none⟩ (.slice (some ⟨g4, 0, none⟩) (l.length + 1) c4))) := hb4.setCell (p := ⟨b, 2, none⟩) hBb _
    have d2 : w4.cell? ⟨b, 2, none⟩ = some (.slice fa l.length fc) := hp4.cells.1
    have e2 : w4.frozen? ⟨b, 2, none⟩ = false := hp4.cells.2
    have hb4s := hb4.size
    clear ho4 hg4 hn4 hp4 hb4 hi0 hz0 hz1 hz2 HC3 HI HPS HO HOO HPa c2 f2
    go_wp2
    obtain ⟨w5, hw5⟩ : ∃ w5, w4.setCell ⟨b, 2, none⟩ (.slice (some ⟨g4, 0, none⟩) (l.length + 1) c4) = w5 := ⟨_, rfl⟩
    rw [hw5] at HT5 HB5 ⊢
    have hs5 : B ≤ w5.heap.size := by have := HB5.out.size; omega
    clear hw5 d2 e2
    have hlen := Lib.itoa_length_le (l.length : Int) (by omega) (by omega)
    obtain ⟨D, hD⟩ : ∃ D : ByteArray, ⟨(Lib.itoa (l.length : Int)).toArray⟩ = D := ⟨_, rfl⟩
    have hDs : D.size ≤ 21 := by rw [← hD, sizeB]; exact hlen
    have HD : Hid (∀ w', PowIs w' → Calls Tryd.prog 55 #[.int .i64 l.length] w' fun e w'' => e = .returned (.string D) ∧ Below w'.heap.size w' w'') := fun w' hp => by rw [← hD]; exact impl_dec (l.length : Int) (by omega) (by omega) w' hp
    have HDD : Hid (((⟨#[39]⟩ : ByteArray) ++ D).data.toList = 39 :: Lib.itoa (l.length : Int)) := by
      show _ = _
      rw [← hD, ByteArray.data_append, Array.toList_append]
      rfl
    have hDz : ((⟨#[39]⟩ : ByteArray) ++ D).size ≤ 100 := by rw [ByteArray.size_append]; show 1 + D.size ≤ 100; omega
    have HDZ : Hid (((⟨#[39]⟩ : ByteArray) ++ D).size ≤ 100) := hDz
    have HBS : Hid (bs.length ≤ 1000000) := Nat.le_trans hbs (by decide)
    have hDq : (9223372036854775807 < 1 + D.size) = False := eq_false (by omega)
    clear hlen hD hDz
    go_region_held3 (fun _ => True) (trivial) (first
      | (go_at_call 55; refine (HD.out _ (HPB.out _ HB5.out.drew)).mono ?_; rintro e w3 ⟨rfl, b3⟩; have b3' : Below w5.heap.size w5 w3 := (Below.refl _ w5).drew.trans b3; have HT3 : Hid (TW B b ts.length bs bl (l ++ [j]) w3) := HT5.out.below b3'; have B3 : Hid (Below B w2 w3) := HB5.out.trans (b3'.mono hs5); clear b3 b3')
      | (go_at_call 45; have X := tw_text (⟨#[39]⟩ ++ D) w3 HT3.out HBS.out HDZ.out (Nat.le_trans hBw B3.out.size); refine Calls.mono X ?_; clear X; rintro e w4 ⟨rfl, ht4, hb4⟩; have HT4 : Hid (TW B b ts.length (bs ++ ((⟨#[39]⟩ : ByteArray) ++ D).data.toList) bl (l ++ [j]) w4) := ht4; have B4 : Hid (Below B w2 w4) := B3.out.trans hb4; clear ht4 hb4))
    all_goals
      go_wp2
      go_end0
      exact ⟨rfl, by rw [HNM.out, HTX.out, ← HDD.out]; exact HT4.out, B4.out⟩
end Go.Proofs.YtjjanmccijghgaaDoor
