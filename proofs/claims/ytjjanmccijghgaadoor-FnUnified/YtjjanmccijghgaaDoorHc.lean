/-
  Types, the specification's: what an entry leads to, what it stands for, how many parts it has. Conditions: written at each theorem.
-/
import Derived.Test.YtjjanmccijghgaaDoorHi
namespace Go.Proofs.YtjjanmccijghgaaDoor
open Go.ChangeShapes Go.WideShapes Go.ChangeAt Go.RowKit
set_option linter.unusedVariables false

theorem ty_in (x lo hi : Int) (w : World) : Calls Tryd.prog 22 #[.int .i64 x, .int .i64 lo, .int .i64 hi] w fun e w' => e = .returned (.bool (decide (lo ≤ x) && decide (x ≤ hi))) ∧ w' = w := by
  by_cases h : lo ≤ x
  · go_enter Tryd.func22, Tryd.ntmps22
    go_wp2
    go_ret
    exact ⟨by simp [h], rfl⟩
  · go_enter Tryd.func22, Tryd.ntmps22
    go_wp2
    go_ret
    exact ⟨by rw [decide_eq_false (show ¬ lo ≤ x by omega)] <;> rfl, rfl⟩

theorem int_new1 {w : World} {N : Nat} (hN : w.heap.size = N) (x : Int) (t : TypeId) : IntAt (w.alloc (.cells #[.int .i64 x] t)) N [x] := by
  subst hN
  exact int_of_list (MapKept.heap_alloc w _).1

theorem int_new2 {w : World} {N : Nat} (hN : w.heap.size = N) (x y : Int) (t : TypeId) : IntAt (w.alloc (.cells #[.int .i64 x, .int .i64 y] t)) N [x, y] := by
  subst hN
  exact int_of_list (MapKept.heap_alloc w _).1

theorem int_nil (w : World) (g : Nat) : IntAt w g [] := fun i h => absurd h (by simp)

set_option maxHeartbeats 1000000 in
set_option maxRecDepth 20000 in
theorem spec_kids (k x y : Int) (w : World) : Calls Tryd.prog 24 #[.agg #[.int .i64 k, .int .i64 x, .int .i64 y]] w (KidEnd w ⟨k, x, y⟩) := by
  rcases (by omega : (k = 0 ∧ 0 ≤ x) ∨ (k = 0 ∧ ¬ 0 ≤ x) ∨ k = 2 ∨ k = 3 ∨ k = 4 ∨ k = 5 ∨ (k ≠ 0 ∧ k ≠ 2 ∧ k ≠ 3 ∧ k ≠ 4 ∧ k ≠ 5)) with ⟨rfl, h⟩ | ⟨rfl, h⟩ | rfl | rfl | rfl | rfl | ⟨h0, h2, h3, h4, h5⟩
  · go_enter Tryd.func24, Tryd.ntmps24
    go_wp2
    go_ret
    rw [KidEnd, show kidZ ⟨0, x, y⟩ = [x] by simp [kidZ, h]]
    exact ⟨_, _, _, rfl, fun _ => rfl, int_new1 (by simp) x _, ((Below.refl _ w).alloc (Nat.le_refl _) _).alloc (by simp) _, fun _ => by omega⟩
  · go_enter Tryd.func24, Tryd.ntmps24
    go_wp2
    go_ret
    rw [KidEnd, show kidZ ⟨0, x, y⟩ = [] by simp [kidZ, h]]
    exact ⟨_, w.heap.size + 1, _, rfl, fun h => absurd h (by simp), int_nil _ _, ((Below.refl _ w).alloc (Nat.le_refl _) _).alloc (by simp) _, fun _ => by omega⟩
  · go_enter Tryd.func24, Tryd.ntmps24
    go_wp2
    go_ret
    rw [KidEnd, show kidZ ⟨2, x, y⟩ = [x, y] by simp [kidZ]]
    exact ⟨_, _, _, rfl, fun _ => rfl, int_new2 (by simp) x y _, ((Below.refl _ w).alloc (Nat.le_refl _) _).alloc (by simp) _, fun _ => by omega⟩
  · go_enter Tryd.func24, Tryd.ntmps24
    go_wp2
    go_ret
    rw [KidEnd, show kidZ ⟨3, x, y⟩ = [x, y] by simp [kidZ]]
    exact ⟨_, _, _, rfl, fun _ => rfl, int_new2 (by simp) x y _, ((Below.refl _ w).alloc (Nat.le_refl _) _).alloc (by simp) _, fun _ => by omega⟩
  · go_enter Tryd.func24, Tryd.ntmps24
    go_wp2
    go_ret
    rw [KidEnd, show kidZ ⟨4, x, y⟩ = [x] by simp [kidZ]]
    exact ⟨_, _, _, rfl, fun _ => rfl, int_new1 (by simp) x _, ((Below.refl _ w).alloc (Nat.le_refl _) _).alloc (by simp) _, fun _ => by omega⟩
  · go_enter Tryd.func24, Tryd.ntmps24
    go_wp2
    go_ret
    rw [KidEnd, show kidZ ⟨5, x, y⟩ = [x] by simp [kidZ]]
    exact ⟨_, _, _, rfl, fun _ => rfl, int_new1 (by simp) x _, ((Below.refl _ w).alloc (Nat.le_refl _) _).alloc (by simp) _, fun _ => by omega⟩
  · go_enter Tryd.func24, Tryd.ntmps24
    go_wp2
    go_ret
    rw [KidEnd, show kidZ ⟨k, x, y⟩ = [] by simp [kidZ, h0, h2, h3, h4, h5]]
    exact ⟨_, w.heap.size + 1, _, rfl, fun h => absurd h (by simp), int_nil _ _, ((Below.refl _ w).alloc (Nat.le_refl _) _).alloc (by simp) _, fun _ => by omega⟩

/-- The entry for which i stands, and that stands for none itself. -/
structure Found (ts : List Typ) (r : Nat → Nat) (ρ : Nat → Tr) (i j : Nat) : Prop where
  lt : j < ts.length
  same : ρ j = ρ i
  rk : r j ≤ r i
  up : (ts.getD j noTyp).kind = 0 → (ts.getD j noTyp).a < 0

set_option maxHeartbeats 1000000 in
set_option maxRecDepth 20000 in
theorem spec_find {ts : List Typ} {r : Nat → Nat} {ρ : Nat → Tr} (h : Ok ts r ρ) (a : Option Addr) (g cap : Nat) (hne : 0 < ts.length → a = some ⟨g, 0, none⟩) (hl : ts.length ≤ 1000) (i : Nat) (hi : i < ts.length) (w : World) (hA : TypAt w g ts) :
    Calls Tryd.prog 37 #[.slice a ts.length cap, .int .i64 i] w fun e w' => (∃ j : Nat, e = .returned (.int .i64 j) ∧ Found ts r ρ i j) ∧ w' = w := by
  have HA : Hid (TypAt w g ts) := hA
  have HH : Hid (Ok ts r ρ) := h
  obtain rfl := hne (by omega)
  clear hA h
  go_enter Tryd.func37, Tryd.ntmps37
  go_wp2
  go_loop [1] (fun iv => ∃ j : Nat, iv = .int .i64 j ∧ j < ts.length ∧ Hid (ρ j = ρ i) ∧ Hid (r j ≤ r i)) (fun iv => r (intOf iv).toNat)
  case atStart => exact ⟨i, rfl, hi, rfl, Nat.le_refl _⟩
  case round =>
    obtain ⟨j, rfl, hj, HS, HR⟩ := hrel
    have t := HA.out j hj
    have e1 : (j : Int) < ts.length := by omega
    obtain ⟨⟨x0, x1, x2⟩, hx⟩ : ∃ y, ts.getD j noTyp = y := ⟨_, rfl⟩
    have HX : Hid (ts.getD j noTyp = ⟨x0, x1, x2⟩) := hx
    rw [hx] at t
    have q0 : w.cell? ⟨g, j * 3, none⟩ = some (.int .i64 x0) := t.c0
    have q1 : w.cell? ⟨g, j * 3 + 1, none⟩ = some (.int .i64 x1) := t.c1
    clear t hx
    by_cases h0 : x0 = 0
    · subst h0
      by_cases ha : 0 ≤ x1
      · obtain ⟨m, rfl⟩ := Int.eq_ofNat_of_zero_le ha
        have hk : (m : Int) ∈ kidZ (ts.getD j noTyp) := by rw [HX.out]; simp [kidZ]
        have h1 := HH.out.rk j hj _ hk
        have h2 := (HH.out.ent j hj).kids _ hk
        have h3 := HH.out.bound hj (by rw [HX.out]) (by rw [HX.out]; exact ha)
        rw [HX.out] at h3
        have HS' : Hid (ρ m = ρ i) := by show ρ m = ρ i; rw [← HS.out, h3]; rfl
        have HR' : Hid (r m ≤ r i) := by show r m ≤ r i; have := HR.out; simp at h1; omega
        have hm : m < ts.length := by omega
        have HM : Hid (r m < r j) := (by simpa using h1 : r m < r j)
        clear hk h1 h2 h3 HS HR
        go_wp2
        go_round
        case rel => exact ⟨m, rfl, hm, HS', HR'⟩
        case measure => simpa [intOf] using HM.out
      · have HF : Hid (Found ts r ρ i j) := ⟨hj, HS.out, HR.out, fun _ => by rw [HX.out]; simpa using ha⟩
        have ha' : decide (0 ≤ x1) = false := decide_eq_false ha
        go_wp2
        go_ret
        exact ⟨⟨j, rfl, HF.out⟩, rfl⟩
    · have HF : Hid (Found ts r ρ i j) := ⟨hj, HS.out, HR.out, fun q => absurd q (by rw [HX.out]; exact h0)⟩
      go_wp2
      go_ret
      exact ⟨⟨j, rfl, HF.out⟩, rfl⟩

/-- How many parts the first j of these have. -/
def sumK (ρ : Nat → Tr) (ks : List Int) : Nat → Nat
  | 0 => 0
  | j + 1 => sumK ρ ks j + sizeT (ρ (ks.getD j 0).toNat)

theorem size_rhs (t : Typ) (ρ : Nat → Tr) (h0 : t.kind ≠ 0) : sizeT (rhsT t ρ) = 1 + sumK ρ (kidZ t) (kidZ t).length := by
  unfold rhsT kidZ
  rw [if_neg h0]
  split
  · simp [sizeT, sumK]
  · split
    · simp [sizeT, sumK]
    · simp [sizeT, sumK]

theorem kidZ_length (t : Typ) : (kidZ t).length ≤ 2 := by
  unfold kidZ
  split
  · split <;> simp
  · split
    · simp
    · split <;> simp

theorem sumK_le (ρ : Nat → Tr) (ks : List Int) : ∀ (j m : Nat), j ≤ m → sumK ρ ks j ≤ sumK ρ ks m
  | j, 0, h => by obtain rfl : j = 0 := by omega
                  exact Nat.le_refl _
  | j, m + 1, h => by
    by_cases e : j = m + 1
    · subst e; exact Nat.le_refl _
    · have := sumK_le ρ ks j m (by omega)
      rw [sumK]
      omega

theorem ks_name : (Tryd.f24.name == "runtime.NumGoroutine") = false := by kernel_rfl
theorem ks_body : Tryd.f24.body.isNone = false := by kernel_rfl
theorem sz_name : (Tryd.f23.name == "runtime.NumGoroutine") = false := by kernel_rfl
theorem sz_body : Tryd.f23.body.isNone = false := by kernel_rfl

set_option maxHeartbeats 2000000 in
set_option maxRecDepth 20000 in
theorem spec_size {ts : List Typ} {r : Nat → Nat} {ρ : Nat → Tr} (h : Ok ts r ρ) (a : Option Addr) (g cap : Nat) (hne : 0 < ts.length → a = some ⟨g, 0, none⟩) (hl : ts.length ≤ 1000) : ∀ (K i most : Nat), i < ts.length → r i < K → most ≤ 1000 → ∀ w : World, TypAt w g ts →
    Calls Tryd.prog 23 #[.slice a ts.length cap, .int .i64 i, .int .i64 most] w fun e w' => e = .returned (.int .i64 ((min (sizeT (ρ i)) (most + 1) : Nat) : Int)) ∧ Below w.heap.size w w' := by
  intro K
  induction K with
  | zero => intro i most _ h; omega
  | succ K ih =>
    intro i most hi hK hm w hA
    have HA : Hid (TypAt w g ts) := hA
    have HH : Hid (Ok ts r ρ) := h
    have IH : Hid (_) := ih
    obtain rfl := hne (by omega)
    clear hA h ih
    go_enter Tryd.func23, Tryd.ntmps23
    go_wp2_with fail
    refine (spec_find HH.out _ g cap (fun _ => rfl) hl i hi w HA.out).mono ?_
    rintro e w1 ⟨⟨j, rfl, hf⟩, rfl⟩
    have HF : Hid (Found ts r ρ i j) := hf
    have hj := hf.lt
    have e1 : (j : Int) < ts.length := by omega
    have t := HA.out j hj
    obtain ⟨⟨x0, x1, x2⟩, hx⟩ : ∃ y, ts.getD j noTyp = y := ⟨_, rfl⟩
    have HX : Hid (ts.getD j noTyp = ⟨x0, x1, x2⟩) := hx
    rw [hx] at t
    have q0 : w1.cell? ⟨g, j * 3, none⟩ = some (.int .i64 x0) := t.c0
    have q1 : w1.cell? ⟨g, j * 3 + 1, none⟩ = some (.int .i64 x1) := t.c1
    have q2 : w1.cell? ⟨g, j * 3 + 2, none⟩ = some (.int .i64 x2) := t.c2
    clear t hx hf
    by_cases h0 : x0 = 0
    · subst h0
      have HV : Hid (min (sizeT (ρ i)) (most + 1) = 1) := by
        show min (sizeT (ρ i)) (most + 1) = 1
        have hup := HF.out.up (by rw [HX.out])
        have hfr := HH.out.free j hj (by rw [HX.out]) hup
        rw [← HF.out.same, hfr]
        simp [varT, sizeT]
      go_wp2
      go_ret
      exact ⟨by rw [HV.out] <;> rfl, Below.refl _ _⟩
    · have hsz : sizeT (ρ i) = 1 + sumK ρ (kidZ ⟨x0, x1, x2⟩) (kidZ ⟨x0, x1, x2⟩).length := by
        rw [← HF.out.same, HH.out.con hj (by rw [HX.out]; exact h0), HX.out]
        exact size_rhs _ _ h0
      have hks : ∀ q, q < (kidZ ⟨x0, x1, x2⟩).length → ∃ m : Nat, (kidZ ⟨x0, x1, x2⟩).getD q 0 = m ∧ m < ts.length ∧ r m < K := fun q hq => by
        have hmem : (kidZ ⟨x0, x1, x2⟩).getD q 0 ∈ kidZ (ts.getD j noTyp) := by rw [HX.out]; simp [List.getD, hq]
        have h1 := HH.out.rk j hj _ hmem
        have h2 := (HH.out.ent j hj).kids _ hmem
        have h3 := HF.out.rk
        exact ⟨((kidZ ⟨x0, x1, x2⟩).getD q 0).toNat, by omega, by omega, by omega⟩
      have hkl := kidZ_length ⟨x0, x1, x2⟩
      have HC := spec_kids x0 x1 x2 w1
      have HKC : Hid (Calls _ _ _ _ _) := HC
      clear HC
      unfold KidEnd at HKC
      generalize kidZ ⟨x0, x1, x2⟩ = ks at *
      have HSZ : Hid (sizeT (ρ i) = 1 + sumK ρ ks ks.length) := hsz
      have HKS : Hid (∀ q, q < ks.length → ∃ m : Nat, ks.getD q 0 = m ∧ m < ts.length ∧ r m < K) := hks
      clear hsz hks
      go_wp2_with fail
      refine HKC.out.mono ?_
      rintro e w2 ⟨ka, G, kc, rfl, hka, hkA, kb, hkG⟩
      have HKA : Hid (IntAt w2 G ks) := hkA
      have HKB : Hid (Below w1.heap.size w1 w2) := kb
      have sz2 := kb.size
      clear hkA kb HKC q0 q1 q2
      go_wp2
      go_loopw [7, 9] (fun nv jv wr => ∃ n q : Nat, nv = .int .i64 n ∧ jv = .int .i64 q ∧ q ≤ ks.length ∧ n ≤ most + 1 ∧ Hid (n = min (1 + sumK ρ ks q) (most + 1)) ∧ Below w2.heap.size w2 wr) (fun _ jv _ => ks.length - (intOf jv).toNat)
      case atStart => exact ⟨1, 0, rfl, rfl, by omega, by omega, by show 1 = min (1 + 0) (most + 1); omega, Below.refl _ _⟩
      case round =>
        obtain ⟨n, q, rfl, rfl, hq, hn, HN, hb⟩ := hrel
        have hbs := hb.size
        by_cases hin : q < ks.length
        · have hin' : (q : Int) < ks.length := by omega
          obtain rfl := hka (by omega)
          by_cases hle : n ≤ most
          · have hle' : (n : Int) ≤ most := by omega
            obtain ⟨m, hm1, hm2, hm3⟩ := HKS.out q hin
            have ck : wr.cell? ⟨G, q, none⟩ = some (.int .i64 m) := by rw [← hm1]; exact (HKA.out.below hb (fun h => HKA.out.lt h)) q hin
            have HA2 : Hid (TypAt wr g ts) := (HA.out.below HKB.out (fun h => HA.out.lt h)).below hb (fun h => by have := HA.out.lt h; omega)
            have e5 : (most : Int) - n = ((most - n : Nat) : Int) := by omega
            have HM1 : Hid (ks.getD q 0 = m) := hm1
            clear hm1
            go_wp2_with fail
            refine (IH.out m (most - n) hm2 hm3 (by omega) wr HA2.out).mono ?_
            rintro e w3 ⟨rfl, b3⟩
            have hb3 : Below w2.heap.size w2 w3 := hb.trans (b3.mono hbs)
            have HN3 : Hid (n + min (sizeT (ρ m)) (most - n + 1) = min (1 + sumK ρ ks (q + 1)) (most + 1)) := by
              show n + min (sizeT (ρ m)) (most - n + 1) = _
              have := HN.out
              rw [sumK, HM1.out, show ((m : Int).toNat) = m by omega]
              omega
            clear HN b3 hb ck
            generalize min (sizeT (ρ m)) (most - n + 1) = d at HN3
            have hd : n + d ≤ most + 1 := by have := HN3.out; omega
            go_wp2
            go_roundw
            case rel => exact ⟨n + d, q + 1, by go_num, by go_num, by omega, by omega, HN3, hb3⟩
            case measure => simp [intOf]; omega
          · have hV : n = min (sizeT (ρ i)) (most + 1) := by
              have h1 := HN.out
              have h2 := sumK_le ρ ks q ks.length hq
              have h3 := HSZ.out
              omega
            have HV : Hid (_) := hV
            have hn2 : n = most + 1 := by omega
            have hle' : decide ((n : Int) ≤ most) = false := decide_eq_false (by omega)
            clear hV HN
            subst hn2
            go_wp2
            go_ret
            refine ⟨by rw [← HV.out]; simp, HKB.out.trans (hb.mono sz2)⟩
        · obtain rfl : q = ks.length := by omega
          have HV : Hid (n = min (sizeT (ρ i)) (most + 1)) := by show n = _; rw [HSZ.out]; exact HN.out
          clear HN
          go_wp2
          go_ret
          refine ⟨?_, HKB.out.trans (hb.mono sz2)⟩
          rw [← HV.out]
          simp
end Go.Proofs.YtjjanmccijghgaaDoor
