/-
  Types, the specification's Unified. Conditions: written at each theorem.
-/
import Derived.Test.YtbhfpfoekalphaaDoorIu
import Derived.Test.YtbhfpfoekalphaaDoorHm
namespace Go.Proofs.YtbhfpfoekalphaaDoor
open Go.ChangeShapes Go.WideShapes Go.ChangeAt Go.RowKit
set_option linter.unusedVariables false

theorem typ_cells_at {w : World} {g : Nat} {ts : List Typ} (h : TypAt w g ts) (j : Nat) (u : Value) (hu : (ts.flatMap typCells)[j]? = some u) : w.cell? ((⟨g, 0, none⟩ : Addr).add j) = some u := by
  have hj : j < ts.length * 3 := by
    have := (List.getElem?_eq_some_iff.1 hu).1
    rwa [typ_flat_length] at this
  have e : j / 3 * 3 + j % 3 = j := by omega
  have h1 := typ_flat_at ts (j / 3) (j % 3) (by omega) (by omega)
  rw [e, hu] at h1
  rw [add_plain]
  have t := h (j / 3) (by omega)
  have hm : j % 3 = 0 ∨ j % 3 = 1 ∨ j % 3 = 2 := by omega
  rw [h1]
  rcases hm with hm | hm | hm
  · rw [hm]; exact (congrArg (fun x => w.cell? ⟨g, x, none⟩) (show 0 + j = j / 3 * 3 by omega)).trans t.c0
  · rw [hm]; exact (congrArg (fun x => w.cell? ⟨g, x, none⟩) (show 0 + j = j / 3 * 3 + 1 by omega)).trans t.c1
  · rw [hm]; exact (congrArg (fun x => w.cell? ⟨g, x, none⟩) (show 0 + j = j / 3 * 3 + 2 by omega)).trans t.c2

theorem tab_of_own {w : World} {B : Nat} {v : Value} {n : Nat} {xs : List Value} {ts : List Typ} (h : w.ownsRow B 35 3 v n xs) (hn : n = ts.length) (hx : xs = ts.flatMap typCells) (h0 : 0 < ts.length) : ∃ g cap, v = .slice (some ⟨g, 0, none⟩) ts.length cap ∧ TabAt w g ts ∧ B ≤ g := by
  subst hn hx
  rcases h.2 with ⟨rfl, hz⟩ | ⟨g, cap, cur, rfl, hb, hg, hn, hm, hs, ht⟩
  · omega
  · refine ⟨g, cap, rfl, ⟨cur.toList.drop (ts.length * 3), ?_⟩, hb⟩
    rw [hg]
    congr 2
    apply Array.toList_inj.1
    rw [← ht]
    simp

/-- The answer, where the table behind it is known. -/
theorem ans_no {ts u : List Typ} {a b : Nat} (h : UniOk ts a b false u) : UniAns ts a b [] false :=
  Or.inr ⟨rfl, rfl, fun τ hs he => absurd he (h.no rfl τ hs)⟩

theorem ans_yes {ts u : List Typ} {a b : Nat} {r : Nat → Nat} {ρ : Nat → Tr} (h : UniOk ts a b true u) (ho : Ok u r ρ) (hz : sizeT (ρ a) ≤ 60) : UniAns ts a b (shoT 0 (ρ a) []).1 true :=
  Or.inl ⟨rfl, u, r, ρ, ho, h.len, (h.yes rfl).2.1, hz, rfl⟩

theorem ans_great {ts u : List Typ} {a b : Nat} {r : Nat → Nat} {ρ : Nat → Tr} (h : UniOk ts a b true u) (ho : Ok u r ρ) (ha : a < ts.length) (hz : 60 < sizeT (ρ a)) : UniAns ts a b [] false :=
  Or.inr ⟨rfl, rfl, fun τ hs he => by
    have h1 := ((h.yes rfl).2.1 τ).2 ⟨hs, he⟩
    have h2 := (ho.sat_iff τ).1 h1 a (by rw [h.len]; exact ha)
    have h3 := size_sub τ (ρ a)
    rw [← h2] at h3
    omega⟩

theorem info_typ' : (Tryd.prog.info? 35).map (fun i => (i.zero, i.size, i.bytes)) = some (some (.agg #[.int .i64 0, .int .i64 0, .int .i64 0]), 3, 24) := by kernel_rfl

def UniRet (ts : List Typ) (a b : Int) (w : World) (e : Ending) (w' : World) : Prop :=
  ∃ (s : List UInt8) (v : Bool), e = .returned (.tuple #[.string ⟨s.toArray⟩, .bool v]) ∧ UniE ts a b s v ∧ Below w.heap.size w w'

set_option maxHeartbeats 2000000 in
set_option maxRecDepth 20000 in
theorem spec_unified (aa : Option Addr) (g cap : Nat) (ts : List Typ) (a b : Int) (hne : 0 < ts.length → aa = some ⟨g, 0, none⟩) (hl : ts.length ≤ 1048576) (w : World) (hA : TypAt w g ts) :
    Calls Tryd.prog 19 #[.slice aa ts.length cap, .int .i64 a, .int .i64 b] w (UniRet ts a b w) := by
  have HA : Hid (TypAt w g ts) := hA
  have HZ : Hid (∀ (i : Int) (w : World), TypAt w g ts → Calls Tryd.prog 11 #[.slice aa ts.length cap, .int .i64 i] w fun e w' => e = .returned (.int .i64 ((sizB ts i : Nat) : Int)) ∧ Below w.heap.size w w') := fun i w hA => spec_sizeOf aa g cap ts i hne hl w hA
  have HI : Hid (∀ (n : Nat) (w : World), n ≤ 61 → Calls Tryd.prog 29 #[.int .i64 n, .int .i64 1, .int .i64 60] w fun e w' => e = .returned (.bool (decide (1 ≤ n ∧ n ≤ 60))) ∧ w' = w) := fun n w hn => by
    have := ty_in (n : Int) 1 60 w
    have e : (decide ((1 : Int) ≤ n) && decide ((n : Int) ≤ 60)) = decide (1 ≤ n ∧ n ≤ 60) := by
      rw [Bool.eq_iff_iff]
      simp
      omega
    rwa [e] at this
  have hza := siz_le ts a
  have hzb := siz_le ts b
  have HE : Hid (¬ ((1 ≤ sizB ts a ∧ sizB ts a ≤ 60) ∧ (1 ≤ sizB ts b ∧ sizB ts b ≤ 60)) → UniE ts a b [] false) := fun h => by unfold UniE; rw [if_neg h]; exact ⟨rfl, rfl⟩
  have HEY : Hid ((1 ≤ sizB ts a ∧ sizB ts a ≤ 60) → (1 ≤ sizB ts b ∧ sizB ts b ≤ 60) → (∃ m n : Nat, a = m ∧ b = n ∧ m < ts.length ∧ n < ts.length) ∧ tabB ts = true ∧ ∀ s v, UniAns ts a.toNat b.toNat s v → UniE ts a b s v) := fun h1 h2 => by
    obtain ⟨ht, ha0, ha1⟩ := siz_in h1.1
    obtain ⟨_, hb0, hb1⟩ := siz_in h2.1
    refine ⟨⟨a.toNat, b.toNat, by omega, by omega, by omega, by omega⟩, ht, fun s v h => ?_⟩
    unfold UniE
    rw [if_pos ⟨h1, h2⟩]
    exact h
  have HZa : Hid (Calls _ _ _ _ _) := HZ.out a w hA
  have HZb : Hid (∀ w : World, TypAt w g ts → Calls Tryd.prog 11 #[.slice aa ts.length cap, .int .i64 b] w fun e w' => e = .returned (.int .i64 ((sizB ts b : Nat) : Int)) ∧ Below w.heap.size w w') := HZ.out b
  generalize sizB ts a = za at *
  generalize sizB ts b = zb at *
  clear hA HZ
  go_enter Tryd.func19, Tryd.ntmps19
  go_wp2_with fail
  refine HZa.out.mono ?_
  rintro e w1 ⟨rfl, b1⟩
  have A1 : Hid (TypAt w1 g ts) := HA.out.below b1 (fun h => HA.out.lt h)
  go_wp2_with fail
  refine (HI.out za w1 hza).mono ?_
  rintro e w2 ⟨rfl, rfl⟩
  by_cases h1 : 1 ≤ za ∧ za ≤ 60
  · rw [decide_eq_true h1]
    go_wp2_with fail
    refine (HZb.out w2 A1.out).mono ?_
    rintro e w3 ⟨rfl, b3⟩
    have B3 : Below w.heap.size w w3 := b1.trans (b3.mono b1.size)
    go_wp2_with fail
    refine (HI.out zb w3 hzb).mono ?_
    rintro e w4 ⟨rfl, rfl⟩
    by_cases h2 : 1 ≤ zb ∧ zb ≤ 60
    · obtain ⟨⟨m, n, rfl, rfl, hm, hn⟩, ht, hy⟩ := HEY.out h1 h2
      rw [decide_eq_true h2]
      have HY : Hid (∀ s v, UniAns ts m n s v → UniE ts m n s v) := fun s v h => hy s v (by simpa using h)
      obtain ⟨h40, r, hok⟩ := tab_ok ht
      have HOK : Hid (Ok ts r (solB ts)) := hok
      obtain rfl := hne (by omega)
      have HB4 : Hid (Below w.heap.size w w4) := B3
      have A4 : Hid (TypAt w4 g ts) := HA.out.below B3 (fun h => HA.out.lt h)
      have OE : Hid ((w4.alloc (.cells #[] 35)).ownsRow w4.heap.size 35 3 (.slice (some ⟨w4.heap.size, 0, none⟩) 0 0) 0 []) := World.ownsRow_lit w4 #[] 0 (Nat.le_refl _) (by omega) rfl
      have HC : Hid (∀ p x, (ts.flatMap typCells)[p]? = some x → (w4.alloc (.cells #[] 35)).cell? ((⟨g, 0, none⟩ : Addr).add p) = some x) := fun p x hx => by
        have q1 := typ_cells_at A4.out p x hx
        have q2 := typ_lt q1
        rw [World.cell?_alloc_lt _ _ _ q2]
        exact q1
      obtain ⟨i0, hi0, hz0, hz1, hz2⟩ := info_parts info_typ'
      clear hy hok ht h1 h2 hza hzb b1 b3 B3 HEY HE HZa HZb HI
      go_wp2_with (at_builtin; refine wpList_append_own _ rfl _ _ 24 rfl w4.heap.size 35 i0 _ 3 24 Tryd.underlying24 hi0 hz0 hz1 hz2 rfl (by decide) _ _ _ rfl OE.out ⟨g, 0, none⟩ ts.length cap (ts.flatMap typCells) rfl (by rw [typ_flat_length]) HC.out (by intro x hx; obtain ⟨t, _, ht⟩ := List.mem_flatMap.1 hx; exact typ_one t x ht) (by unfold maxLen; omega) (by omega) (by simp) ?_)
      intro v5 w5 ho5 hg5 hn5
      obtain ⟨g5, c5, rfl, hT5, hB5⟩ := tab_of_own (ts := ts) ho5 (by simp) (by simp) (by omega)
      have HT5 : Hid (TabAt w5 g5 ts) := hT5
      have hb5 : Below w4.heap.size w4 w5 := ((Below.refl _ w4).alloc (Nat.le_refl _) _).grown hg5 (by simp) (fun k hk => (OE.out.lt k hk).1)
      have HB5 : Hid (Below w.heap.size w w5) := HB4.out.trans (hb5.mono HB4.out.size)
      have HG5 : Hid (w.heap.size ≤ g5) := Nat.le_trans HB4.out.size hB5
      have HU : Hid (Calls _ _ _ _ _) := spec_unify g5 c5 (nfT ts + 1) (r m + 1) ts r (solB ts) m n HOK.out (by omega) hm hn (by omega) (by omega) w5 hT5
      unfold UniEnd at HU
      clear ho5 hg5 hn5 hT5 hB5 hb5 hi0 hz0 hz1 hz2 OE HC A1 A4
      go_wp2_with fail
      refine HU.out.mono ?_
      rintro e w6 ⟨bv, u', rfl, hT6, hg6, hu6⟩
      have HB6 : Hid (Below w.heap.size w w6) := HB5.out.grown hg6 HB5.out.size (fun k hk => by simp at hk; have := HG5.out; omega)
      have HU6 : Hid (UniOk ts m n bv u') := hu6
      have HT6 : Hid (TabAt w6 g5 u') := hT6
      clear hT6 hg6 hu6 HU
      cases bv
      · go_wp2
        go_ret2
        exact ⟨[], false, rfl, HY.out _ _ (ans_no HU6.out), HB6.out⟩
      · obtain ⟨⟨r', ρ', hok'⟩, _, _⟩ := HU6.out.yes rfl
        have HOK' : Hid (Ok u' r' ρ') := hok'
        have hul : u'.length = ts.length := HU6.out.len
        have HS : Hid (Calls Tryd.prog 30 #[.slice (some ⟨g5, 0, none⟩) ts.length c5, .int .i64 m, .int .i64 60] w6 fun e w' => e = .returned (.int .i64 ((min (sizeT (ρ' m)) 61 : Nat) : Int)) ∧ Below w6.heap.size w6 w') := by
          show Calls _ _ _ _ _
          rw [← hul]
          exact spec_size hok' _ g5 c5 (fun _ => rfl) (by omega) (r' m + 1) m 60 (by omega) (by omega) (by omega) w6 HT6.out.at
        clear hok'
        by_cases hz : sizeT (ρ' m) ≤ 60
        · have hmin : min (sizeT (ρ' m)) 61 = sizeT (ρ' m) := by omega
          rw [hmin] at HS
          have HSH : Hid (∀ W : World, TypAt W g5 u' → Calls Tryd.prog 32 #[.slice (some ⟨g5, 0, none⟩) ts.length c5, .int .i64 m, .slice (some ⟨W.heap.size - 1, 0, none⟩) 0 0] W (ShoEnd W (ρ' m) [])) := fun W hW => by
            rw [← hul]
            exact spec_show HOK'.out _ g5 c5 (fun _ => rfl) (by omega) (r' m + 1) m [] (W.heap.size - 1) 0 (by omega) (by omega) (by simp; omega) (by simp) W hW (fun q hq => absurd hq (by simp [natL]))
          have HAN : Hid (UniE ts m n (shoT 0 (ρ' m) []).1 true) := HY.out _ _ (ans_yes HU6.out HOK'.out hz)
          generalize sizeT (ρ' m) = z at *
          have hz' : ¬ (60 : Int) < z := by omega
          clear hmin
          go_wp2_with fail
          refine HS.out.mono ?_
          rintro e w7 ⟨rfl, b7⟩
          have HB7 : Hid (Below w.heap.size w w7) := HB6.out.trans (b7.mono HB6.out.size)
          have hW := HSH.out (w7.alloc (.cells #[] 3)) (((HT6.out.below b7).at).below ((Below.refl _ w7).alloc (Nat.le_refl _) _) (fun _ => (HT6.out.below b7).lt))
          rw [show (w7.alloc (.cells #[] 3)).heap.size - 1 = w7.heap.size by simp] at hW
          have HW : Hid (Calls _ _ _ _ _) := hW
          unfold ShoEnd at HW
          clear b7 hW HSH HS
          go_wp2_with fail
          refine HW.out.mono ?_
          rintro e w8 ⟨G, c, rfl, _, _, b8⟩
          have HB8 : Hid (Below w.heap.size w w8) := (HB7.out.alloc HB7.out.size _).trans (b8.mono (by simp; have := HB7.out.size; omega))
          clear b8 HW
          go_wp2
          go_ret2
          exact ⟨_, true, rfl, HAN.out, HB8.out⟩
        · have hmin : min (sizeT (ρ' m)) 61 = 61 := by omega
          rw [hmin] at HS
          have HAN : Hid (UniE ts m n [] false) := HY.out _ _ (ans_great HU6.out HOK'.out hm (by omega))
          clear hmin
          go_wp2_with fail
          refine HS.out.mono ?_
          rintro e w7 ⟨rfl, b7⟩
          have HB7 : Hid (Below w.heap.size w w7) := HB6.out.trans (b7.mono HB6.out.size)
          go_wp2
          go_ret2
          exact ⟨[], false, rfl, HAN.out, HB7.out⟩
    · have HV : Hid (UniE ts a b [] false) := HE.out (fun q => h2 q.2)
      rw [decide_eq_false h2]
      clear h1 h2
      go_wp2
      go_ret2
      exact ⟨[], false, rfl, HV.out, B3⟩
  · have HV : Hid (UniE ts a b [] false) := HE.out (fun q => h1 q.1)
    rw [decide_eq_false h1]
    clear h1
    go_wp2
    go_ret2
    exact ⟨[], false, rfl, HV.out, b1⟩
end Go.Proofs.YtbhfpfoekalphaaDoor
