/-
  Types, the specification's: texts. Conditions: written at each theorem.
-/
import Derived.Test.YtbhfpfoekalphaaDoorHh
import Derived.Test.YtbhfpfoekalphaaDoorDs
import Derived.Lib.ItoaLen
namespace Go.Proofs.YtbhfpfoekalphaaDoor
open Go.ChangeShapes Go.WideShapes Go.ChangeAt Go.RowKit
set_option linter.unusedVariables false

theorem joinB (a b : List UInt8) : (⟨a.toArray⟩ : ByteArray) ++ ⟨b.toArray⟩ = ⟨(a ++ b).toArray⟩ := by
  apply ByteArray.ext
  rw [ByteArray.data_append]
  simp

theorem sizeB (a : List UInt8) : (⟨a.toArray⟩ : ByteArray).size = a.length := by simp [ByteArray.size]

theorem Ok.form {ts : List Typ} {r : Nat → Nat} {ρ : Nat → Tr} (h : Ok ts r ρ) : ∀ (n i : Nat), r i < n → i < ts.length → ∀ x y, ρ i ≠ .append x y
  | 0, i, hn, _ => absurd hn (by omega)
  | n + 1, i, hn, hi => by
    intro x y e
    by_cases h0 : (ts.getD i noTyp).kind = 0
    · by_cases ha : 0 ≤ (ts.getD i noTyp).a
      · have h1 := h.rk i hi _ (kid_bound h0 ha)
        have h2 := (h.ent i hi).kids _ (kid_bound h0 ha)
        rw [h.bound hi h0 ha] at e
        exact h.form n _ (by omega) (by omega) x y e
      · rw [h.free i hi h0 (by omega)] at e
        cases e
    · rw [h.con hi h0] at e
      unfold rhsT at e
      split at e
      · cases e
      · split at e <;> cases e

theorem sho_k (k : Int) (t : Tr) (l : List Nat) (h : ∀ x y, t ≠ .append x y) : shoT k t l = shoT 0 t l := by
  cases t with
  | append x y => exact absurd rfl (h x y)
  | nest _ _ => rfl
  | tag _ _ => rfl
  | nil => rfl
  | line => rfl
  | align _ => rfl
  | text _ => rfl
  | group _ _ => rfl

theorem idx_le (v : Nat) : ∀ l : List Nat, idxT v l ≤ l.length
  | [] => Nat.le_refl _
  | x :: l => by
    rw [idxT]
    split
    · simp
    · have := idx_le v l
      simp
      omega

theorem idx_not (v : Nat) : ∀ l : List Nat, v ∉ l → idxT v l = l.length
  | [], _ => rfl
  | x :: l, h => by
    simp at h
    rw [idxT, if_neg (fun e => h.1 e.symm), idx_not v l h.2]
    rfl

theorem idx_at (v : Nat) : ∀ (l : List Nat) (q : Nat), q < l.length → l.getD q 0 = v → (∀ p, p < q → l.getD p 0 ≠ v) → idxT v l = q
  | [], q, h, _, _ => by simp at h
  | x :: l, 0, _, h, _ => by
    simp at h
    rw [idxT, if_pos h]
  | x :: l, q + 1, h, hv, hp => by
    have h0 := hp 0 (by omega)
    simp at h0
    rw [idxT, if_neg h0, idx_at v l q (by simpa using h) (by simpa using hv) (fun p h => by simpa using hp (p + 1) (by omega))]

theorem add_len (v : Nat) (l : List Nat) : (addT v l).length ≤ l.length + 1 := by
  unfold addT
  split <;> simp

theorem sho_names (k : Int) : ∀ (t : Tr) (l : List Nat), (shoT k t l).2.length ≤ l.length + sizeT t
  | .nest q f, l => by
    have := sho_names q f l
    rw [shoT, sizeT]
    simp only
    omega
  | .append a b, l => by
    have h1 := sho_names k a l
    have h2 := sho_names k b (shoT k a l).2
    rw [shoT, sizeT]
    simp only
    omega
  | .tag i _, l => add_len i l
  | .nil, l => by show l.length ≤ _; omega
  | .line, l => by show l.length ≤ _; omega
  | .align _, l => by show l.length ≤ _; omega
  | .text _, l => by show l.length ≤ _; omega
  | .group _ _, l => by show l.length ≤ _; omega

theorem sho_len (k : Int) : ∀ (t : Tr) (l : List Nat), l.length + sizeT t ≤ 1000000 → (shoT k t l).1.length + 4 ≤ 30 * sizeT t
  | .nest q f, l, h => by
    rw [sizeT] at h
    have h1 := sho_len q f l (by omega)
    have h2 : (preT q).length ≤ 5 := by
      unfold preT
      split
      · simp
      · split <;> simp
    rw [shoT, sizeT]
    simp
    omega
  | .append a b, l, h => by
    rw [sizeT] at h
    have h0 := sho_names k a l
    have p := sizeT_pos a
    have h1 := sho_len k a l (by omega)
    have h2 := sho_len k b (shoT k a l).2 (by omega)
    have h3 : (midT k).length ≤ 4 := by unfold midT; split <;> simp
    rw [shoT, sizeT]
    simp
    have p2 := sizeT_pos b
    omega
  | .tag i _, l, h => by
    have h1 := idx_le i l
    have h2 := Lib.itoa_length_le ((idxT i l : Nat) : Int) (by omega) (by rw [sizeT] at h; omega)
    rw [shoT, sizeT]
    simp
    omega
  | .nil, l, _ => by simp [shoT, sizeT]
  | .line, l, _ => by simp [shoT, sizeT]
  | .align _, l, _ => by simp [shoT, sizeT]
  | .text _, l, _ => by simp [shoT, sizeT]
  | .group _ _, l, _ => by simp [shoT, sizeT]

def natL (l : List Nat) : List Int := l.map (fun (n : Nat) => (n : Int))

theorem natL_length (l : List Nat) : (natL l).length = l.length := by simp [natL]

/-- What a call that shows a type ends with. -/
def ShoEnd (w : World) (t : Tr) (l : List Nat) (e : Ending) (w' : World) : Prop :=
  ∃ G c : Nat, e = .returned (.tuple #[.string ⟨(shoT 0 t l).1.toArray⟩, .slice (some ⟨G, 0, none⟩) (shoT 0 t l).2.length c]) ∧ IntAt w' G (natL (shoT 0 t l).2) ∧ (shoT 0 t l).2.length ≤ c ∧ Below w.heap.size w w'

theorem ShoEnd.mk {w w' : World} {t : Tr} {l l' : List Nat} {S : ByteArray} {G c : Nat} {e : Ending} (he : e = .returned (.tuple #[.string S, .slice (some ⟨G, 0, none⟩) l'.length c])) (hS : S = ⟨(shoT 0 t l).1.toArray⟩) (hl : (shoT 0 t l).2 = l') (hA : IntAt w' G (natL l')) (hc : l'.length ≤ c) (hb : Below w.heap.size w w') : ShoEnd w t l e w' := by
  subst hl hS
  exact ⟨G, c, he, hA, hc, hb⟩

theorem own_ints {w : World} {B : Nat} {v : Value} {st : List Int} {n : Nat} {xs : List Value} (h : w.ownsRow B 3 1 v n xs) (hn : n = st.length) (hx : xs = st.map (Value.int .i64)) (h0 : 0 < st.length) : ∃ g cap, v = .slice (some ⟨g, 0, none⟩) st.length cap ∧ IntAt w g st ∧ st.length ≤ cap := by
  subst hn hx
  rcases h.2 with ⟨rfl, hz⟩ | ⟨g, cap, cur, rfl, hb, hg, hn, hm, hs, ht⟩
  · omega
  · refine ⟨g, cap, rfl, fun i hi => ?_, hn⟩
    rw [cell_of_row _ _ _ _ _ _ hg, ← Array.getElem?_toList]
    have : (cur.toList.take (st.length * 1))[i]? = (st.map (Value.int .i64))[i]? := by rw [ht]
    rw [List.getElem?_take_of_lt (by omega)] at this
    rw [this]
    simp [List.getD, hi]

theorem info_int : (Tryd.prog.info? 3).map (fun i => (i.zero, i.size, i.bytes)) = some (some (.int .i64 0), 1, 8) := by kernel_rfl

theorem sho_two {k : Int} (h : k = 2 ∨ k = 3) (x y : Tr) (l : List Nat) (hx : ∀ p q, x ≠ .append p q) (hy : ∀ p q, y ≠ .append p q) :
    shoT 0 (.nest k (.append x y)) l = (40 :: ((shoT 0 x l).1 ++ (midT k ++ ((shoT 0 y (shoT 0 x l).2).1 ++ [41]))), (shoT 0 y (shoT 0 x l).2).2) := by
  rw [shoT, shoT, sho_k k x l hx, sho_k k y _ hy]
  rcases h with rfl | rfl <;> simp [preT]

theorem sho_one {k : Int} (x : Tr) (l : List Nat) (hx : ∀ p q, x ≠ .append p q) : shoT 0 (.nest k x) l = (40 :: (preT k ++ ((shoT 0 x l).1 ++ [41])), (shoT 0 x l).2) := by
  rw [shoT, sho_k k x l hx]

set_option maxHeartbeats 4000000 in
set_option maxRecDepth 20000 in
theorem spec_show {ts : List Typ} {r : Nat → Nat} {ρ : Nat → Tr} (h : Ok ts r ρ) (a : Option Addr) (g cap : Nat) (hne : 0 < ts.length → a = some ⟨g, 0, none⟩) (hl : ts.length ≤ 1000) : ∀ (K i : Nat) (l : List Nat) (ng nc : Nat), i < ts.length → r i < K → sizeT (ρ i) + l.length ≤ 1000 → l.length ≤ nc → ∀ w : World, TypAt w g ts → IntAt w ng (natL l) →
    Calls Tryd.prog 32 #[.slice a ts.length cap, .int .i64 i, .slice (some ⟨ng, 0, none⟩) l.length nc] w (ShoEnd w (ρ i) l) := by
  intro K
  induction K with
  | zero => intro i l ng nc _ h; omega
  | succ K ih =>
    intro i l ng nc hi hK hsz hnc w hA hN
    have HA : Hid (TypAt w g ts) := hA
    have HN : Hid (IntAt w ng (natL l)) := hN
    have HH : Hid (Ok ts r ρ) := h
    have IH : Hid (_) := ih
    obtain rfl := hne (by omega)
    clear hA h ih hN
    go_enter Tryd.func32, Tryd.ntmps32
    go_wp2_with fail
    refine (spec_find HH.out _ g cap (fun _ => rfl) hl i hi w HA.out).mono ?_
    rintro e w1 ⟨⟨j, rfl, hf⟩, rfl⟩
    have HF : Hid (Found ts r ρ i j) := hf
    have hj := hf.lt
    have e1 : (j : Int) < ts.length := by omega
    have t := HA.out j hj
    have he := HH.out.ent j hj
    have hk0 := he.k0
    have hk5 := he.k5
    have hks : ∀ k ∈ kidZ (ts.getD j noTyp), ∃ m : Nat, k = m ∧ m < ts.length ∧ r m < K ∧ (∀ p q, ρ m ≠ .append p q) ∧ ((ts.getD j noTyp).kind ≠ 0 → sizeT (ρ m) < sizeT (ρ i)) := fun k hk => by
      have h1 := HH.out.rk j hj _ hk
      have h2 := he.kids _ hk
      have h3 := hf.rk
      refine ⟨k.toNat, by omega, by omega, by omega, HH.out.form _ _ (Nat.lt_succ_self _) (by omega), fun h0 => ?_⟩
      rw [← hf.same, HH.out.con hj h0]
      exact rhs_kid_size h0 hk
    have HKS : Hid (_) := hks
    have HCON : Hid ((ts.getD j noTyp).kind ≠ 0 → ρ i = rhsT (ts.getD j noTyp) ρ) := fun h0 => by rw [← hf.same]; exact HH.out.con hj h0
    obtain ⟨⟨x0, x1, x2⟩, hx⟩ : ∃ y, ts.getD j noTyp = y := ⟨_, rfl⟩
    have HX : Hid (ts.getD j noTyp = ⟨x0, x1, x2⟩) := hx
    rw [hx] at t hk0 hk5 HKS HCON
    have q0 : w1.cell? ⟨g, j * 3, none⟩ = some (.int .i64 x0) := t.c0
    have q1 : w1.cell? ⟨g, j * 3 + 1, none⟩ = some (.int .i64 x1) := t.c1
    have q2 : w1.cell? ⟨g, j * 3 + 2, none⟩ = some (.int .i64 x2) := t.c2
    change 0 ≤ x0 at hk0
    change x0 ≤ 5 at hk5
    clear t hx hf he hks
    rcases (by omega : x0 = 0 ∨ x0 = 1 ∨ x0 = 2 ∨ x0 = 3 ∨ x0 = 4 ∨ x0 = 5) with rfl | rfl | rfl | rfl | rfl | rfl
    · have hv : ρ i = varT j := by rw [← HF.out.same, HH.out.free j hj (by rw [HX.out]) (HF.out.up (by rw [HX.out]))]
      have HV : Hid (ρ i = varT j) := hv
      clear hv HKS HCON
      go_wp2
      go_loop [8] (fun kv => ∃ q : Nat, kv = .int .i64 q ∧ q ≤ l.length ∧ Hid (∀ p, p < q → l.getD p 0 ≠ j)) (fun kv => l.length - (intOf kv).toNat)
      case atStart => exact ⟨0, rfl, by omega, fun p hp => absurd hp (by omega)⟩
      case round =>
        obtain ⟨q, rfl, hq, HP⟩ := hrel
        by_cases hqn : q < l.length
        · have hqn' : (q : Int) < l.length := by omega
          have ck : w1.cell? ⟨ng, q, none⟩ = some (.int .i64 ((l.getD q 0 : Nat) : Int)) := by
            have := HN.out q (by rw [natL_length]; exact hqn)
            rw [this]
            simp [natL, List.getD, hqn]
          have HG : Hid (l.getD q 0 = j → idxT j l = q ∧ addT j l = l) := fun e => ⟨idx_at j l q hqn e HP.out, by
            unfold addT
            rw [if_pos]
            rw [← e]
            simp [List.getD, hqn]⟩
          have HP2 : Hid (l.getD q 0 ≠ j → ∀ p, p < q + 1 → l.getD p 0 ≠ j) := fun h p hp => by
            by_cases e : p = q
            · subst e; exact h
            · exact HP.out p (by omega)
          generalize l.getD q 0 = v at ck HG HP2
          by_cases hv : v = j
          · subst hv
            obtain ⟨h1, h2⟩ := HG.out rfl
            have hlen := Lib.itoa_length_le (q : Int) (by omega) (by omega)
            have HD : Hid (Calls _ _ _ _ _) := spec_dec (q : Int) (by omega) (by omega) w1
            have hTX : (⟨#[39]⟩ : ByteArray) ++ ⟨(Lib.itoa (q : Int)).toArray⟩ = ⟨(shoT 0 (varT v) l).1.toArray⟩ := by
              rw [show (⟨#[39]⟩ : ByteArray) = ⟨[39].toArray⟩ from rfl, joinB]
              simp only [varT, shoT, h1]
              rfl
            have HNM : Hid ((shoT 0 (varT v) l).2 = l) := by show _ = _; simp only [varT, shoT, h2]
            obtain ⟨D, hD⟩ : ∃ D : ByteArray, ⟨(Lib.itoa (q : Int)).toArray⟩ = D := ⟨_, rfl⟩
            have hDs : D.size ≤ 21 := by rw [← hD, sizeB]; exact hlen
            rw [hD] at HD hTX
            have HTX : Hid (_) := hTX
            clear h1 h2 hlen hD HG HP2 hTX
            go_wp2_with fail
            refine HD.out.mono ?_
            rintro e w2 ⟨rfl, b2⟩
            go_wp2
            go_ret2
            exact ShoEnd.mk rfl (by rw [HV.out]; exact HTX.out) (by rw [HV.out]; exact HNM.out) (HN.out.below b2 (fun h => HN.out.lt h)) hnc b2
          · have HP3 : Hid (_) := HP2.out hv
            have hv' : ¬ (v : Int) = j := by omega
            clear HG HP2
            go_wp2
            go_round
            case rel => exact ⟨q + 1, by go_num, by omega, HP3⟩
            case measure => simp [intOf]; omega
        · obtain rfl : q = l.length := by omega
          have hnm : j ∉ l := fun hm => by
            obtain ⟨p, hp, e⟩ := List.getElem_of_mem hm
            exact HP.out p hp (by simp [List.getD, hp, e])
          have hlen := Lib.itoa_length_le (l.length : Int) (by omega) (by omega)
          have HD : Hid (Calls _ _ _ _ _) := spec_dec (l.length : Int) (by omega) (by omega) w1
          have hTX : (⟨#[39]⟩ : ByteArray) ++ ⟨(Lib.itoa (l.length : Int)).toArray⟩ = ⟨(shoT 0 (varT j) l).1.toArray⟩ := by
            rw [show (⟨#[39]⟩ : ByteArray) = ⟨[39].toArray⟩ from rfl, joinB]
            simp only [varT, shoT, idx_not j l hnm]
            rfl
          have HNM : Hid ((shoT 0 (varT j) l).2 = l ++ [j]) := by show _ = _; simp only [varT, shoT, addT, if_neg hnm]
          obtain ⟨D, hD⟩ : ∃ D : ByteArray, ⟨(Lib.itoa (l.length : Int)).toArray⟩ = D := ⟨_, rfl⟩
          have hDs : D.size ≤ 21 := by rw [← hD, sizeB]; exact hlen
          rw [hD] at HD hTX
          have HTX : Hid (_) := hTX
          obtain ⟨i0, hi0, hz0, hz1, hz2⟩ := info_parts info_int
          clear hlen hD hTX HP hnm
          go_wp2_with fail
          refine HD.out.mono ?_
          rintro e w2 ⟨rfl, b2⟩
          have HN2 : Hid (IntAt w2 ng (natL l)) := HN.out.below b2 (fun h => HN.out.lt h)
          have OE : Hid ((w2.alloc (.cells #[] 3)).ownsRow w2.heap.size 3 1 (.slice (some ⟨w2.heap.size, 0, none⟩) 0 0) 0 []) := World.ownsRow_lit w2 #[] 0 (Nat.le_refl _) (by omega) rfl
          have HC : Hid (∀ p u, ((natL l).map (Value.int .i64))[p]? = some u → (w2.alloc (.cells #[] 3)).cell? ((⟨ng, 0, none⟩ : Addr).add p) = some u) := fun p u hu => by
            have hp : p < (natL l).length := by
              have := (List.getElem?_eq_some_iff.1 hu).1
              simpa using this
            have h1 := HN2.out p hp
            have h2 := typ_lt h1
            rw [add_plain, Nat.zero_add, World.cell?_alloc_lt _ _ _ (by simpa using h2), h1]
            rw [← hu]
            simp [List.getD, hp]
          have HB2 : Hid (Below w1.heap.size w1 w2) := b2
          clear HD b2
          go_wp2_with (at_builtin; refine wpList_append_own _ rfl _ _ 58 rfl w2.heap.size 3 i0 _ 1 8 Tryd.underlying58 hi0 hz0 hz1 hz2 rfl (by decide) _ _ _ rfl OE.out ⟨ng, 0, none⟩ l.length nc ((natL l).map (Value.int .i64)) rfl (by simp [natL]) HC.out (by intro u hu; obtain ⟨z, _, rfl⟩ := List.mem_map.1 hu; rfl) (by unfold maxLen; simp; omega) (by simp; omega) (by simp) ?_)
          intro v3 w3 ho3 hg3 hn3
          have HB3 : Hid (Below w1.heap.size w1 w3) := HB2.out.trans ((((Below.refl _ w2).alloc (Nat.le_refl _) _).grown hg3 (by simp) (fun k hk => (OE.out.lt k hk).1)).mono HB2.out.size)
          have s23 : w2.heap.size ≤ w3.heap.size := by have := hg3.size; simp at this; omega
          have hv3 : ∃ g3 c3, v3 = .slice (some ⟨g3, 0, none⟩) l.length c3 := by
            rcases ho3.2 with ⟨h0, _⟩ | ⟨g3, c3, cur3, h3, _⟩
            · exact (hn3 h0).elim
            · exact ⟨g3, c3, by rw [h3]⟩
          obtain ⟨g3, c3, rfl⟩ := hv3
          have HO3 : Hid (w3.ownsRow w2.heap.size 3 1 (.slice (some ⟨g3, 0, none⟩) l.length c3) l.length ((natL l).map (Value.int .i64))) := (by simpa using ho3 : w3.ownsRow w2.heap.size 3 1 (.slice (some ⟨g3, 0, none⟩) l.length c3) l.length ((natL l).map (Value.int .i64)))
          have s3 := HB3.out.size
          have OO3 : Hid ((w3.alloc (.cells #[.int .i64 j] 3)).ownsRow w2.heap.size 3 1 (.slice (some ⟨g3, 0, none⟩) l.length c3) l.length ((natL l).map (Value.int .i64))) := World.ownsRow.alloc HO3.out _
          have HC3 : Hid (∀ p u, ([Value.int .i64 j] : List Value)[p]? = some u → (w3.alloc (.cells #[.int .i64 j] 3)).cell? ((⟨w3.heap.size, 0, none⟩ : Addr).add p) = some u) := fun p u hu => by
            obtain rfl : p = 0 := by
              have := (List.getElem?_eq_some_iff.1 hu).1
              simpa using this
            rw [add_plain, cell_of_row _ _ _ _ _ _ (MapKept.heap_alloc w3 _).1]
            exact hu
          clear ho3 hg3 hn3 HC OE
          go_wp2_with (at_builtin; refine wpList_append_own _ rfl _ _ 58 rfl w2.heap.size 3 i0 _ 1 8 Tryd.underlying58 hi0 hz0 hz1 hz2 rfl (by decide) _ _ _ rfl OO3.out ⟨w3.heap.size, 0, none⟩ 1 1 [.int .i64 j] rfl (by simp) HC3.out (by intro u hu; simp at hu; subst hu; rfl) (by unfold maxLen; first | omega | (simp; omega) | simp) (by first | omega | (simp; omega) | simp) (by simp; omega) ?_)
          intro v4 w4 ho4 hg4 hn4
          have HB4 : Hid (Below w1.heap.size w1 w4) := (HB3.out.alloc s3 _).grown hg4 (by simp; omega) (fun k hk => by have := (HO3.out.lt k hk).1; have := HB2.out.size; omega)
          obtain ⟨g4, c4, rfl, hI4, hc4⟩ := own_ints (st := natL (l ++ [j])) ho4 (by simp [natL]) (by simp [natL]) (by simp [natL])
          have HI4 : Hid (IntAt w4 g4 (natL (l ++ [j]))) := hI4
          have HC4 : Hid ((natL (l ++ [j])).length ≤ c4) := hc4
          clear ho4 hg4 hn4 hI4 hc4 hi0 hz0 hz1 hz2
          go_wp2
          go_ret2
          refine ShoEnd.mk (l' := l ++ [j]) (G := g4) (c := c4) (S := ⟨#[39]⟩ ++ D) (by rw [← natL_length (l ++ [j])] <;> rfl) (by rw [HV.out]; exact HTX.out) (by rw [HV.out]; exact HNM.out) HI4.out (by rw [← natL_length (l ++ [j])]; exact HC4.out) HB4.out
    · have HV : Hid (ρ i = .line) := by
        show _ = _
        rw [HCON.out (by simp)]
        simp [rhsT]
      clear HKS HCON
      go_wp2
      go_ret2
      exact ShoEnd.mk rfl (by rw [HV.out]; rfl) (by rw [HV.out]; rfl) HN.out hnc (Below.refl _ _)
    · obtain ⟨m, rfl, hm, hrm, hfm, hsm⟩ := HKS.out x1 (by simp [kidZ])
      obtain ⟨n, rfl, hn, hrn, hfn, hsn⟩ := HKS.out x2 (by simp [kidZ])
      have HV : Hid (ρ i = .nest 2 (.append (ρ m) (ρ n))) := by
        show _ = _
        rw [HCON.out (by simp)]
        simp [rhsT]
      have hsz2 : sizeT (ρ i) = 1 + (sizeT (ρ m) + sizeT (ρ n)) := by rw [HV.out, sizeT, sizeT]
      have hsh := sho_two (k := 2) (by simp) (ρ m) (ρ n) l hfm hfn
      have hln := sho_len 0 (ρ m) l (by omega)
      have hnm := sho_names 0 (ρ m) l
      have hln2 := sho_len 0 (ρ n) (shoT 0 (ρ m) l).2 (by omega)
      have hnm2 := sho_names 0 (ρ n) (shoT 0 (ρ m) l).2
      have HR : Hid (Calls _ _ _ _ _) := IH.out m l ng nc hm hrm (by omega) hnc w1 HA.out HN.out
      have HR2 : Hid (∀ (G c : Nat) (w : World), (shoT 0 (ρ m) l).2.length ≤ c → TypAt w g ts → IntAt w G (natL (shoT 0 (ρ m) l).2) → Calls Tryd.prog 32 #[.slice (some ⟨g, 0, none⟩) ts.length cap, .int .i64 n, .slice (some ⟨G, 0, none⟩) (shoT 0 (ρ m) l).2.length c] w (ShoEnd w (ρ n) (shoT 0 (ρ m) l).2)) := fun G c w hc hA hI => IH.out n _ G c hn hrn (by omega) hc w hA hI
      unfold ShoEnd at HR HR2
      rw [← HV.out] at hsh
      generalize hs1 : (shoT 0 (ρ m) l).1 = s1 at *
      generalize hl1 : (shoT 0 (ρ m) l).2 = l1 at *
      generalize hs2 : (shoT 0 (ρ n) l1).1 = s2 at *
      generalize hl2 : (shoT 0 (ρ n) l1).2 = l2 at *
      have HTX : Hid ((⟨#[40]⟩ : ByteArray) ++ ⟨s1.toArray⟩ ++ ⟨#[32, 45, 62, 32]⟩ ++ ⟨s2.toArray⟩ ++ ⟨#[41]⟩ = ⟨(shoT 0 (ρ i) l).1.toArray⟩) := by
        show _ = _
        rw [hsh, show (⟨#[40]⟩ : ByteArray) = ⟨[40].toArray⟩ from rfl, show (⟨#[32, 45, 62, 32]⟩ : ByteArray) = ⟨[32, 45, 62, 32].toArray⟩ from rfl, show (⟨#[41]⟩ : ByteArray) = ⟨[41].toArray⟩ from rfl, joinB, joinB, joinB, joinB]
        simp [midT]
      have HNM : Hid ((shoT 0 (ρ i) l).2 = l2) := by show _ = _; rw [hsh]
      have hS := sizeB s1
      have hT := sizeB s2
      generalize (⟨s1.toArray⟩ : ByteArray) = S at HR HTX hS
      generalize (⟨s2.toArray⟩ : ByteArray) = T at HR2 HTX hT
      have hz0 : S.size ≤ 40000 := by omega
      have hy0 : T.size ≤ 40000 := by omega
      have hz1 : ((⟨#[40]⟩ : ByteArray) ++ S).size ≤ 100000 := by rw [ByteArray.size_append]; show 1 + S.size ≤ _; omega
      have hz2 : ((⟨#[40]⟩ : ByteArray) ++ S ++ ⟨#[32, 45, 62, 32]⟩).size ≤ 100000 := by rw [ByteArray.size_append, ByteArray.size_append]; show 1 + S.size + 4 ≤ _; omega
      have hz3 : ((⟨#[40]⟩ : ByteArray) ++ S ++ ⟨#[32, 45, 62, 32]⟩ ++ T).size ≤ 100000 := by rw [ByteArray.size_append, ByteArray.size_append, ByteArray.size_append]; show 1 + S.size + 4 + T.size ≤ _; omega
      have hz4 : ((⟨#[40]⟩ : ByteArray) ++ S ++ ⟨#[32, 45, 62, 32]⟩ ++ T ++ ⟨#[41]⟩).size ≤ 100000 := by rw [ByteArray.size_append, ByteArray.size_append, ByteArray.size_append, ByteArray.size_append]; show 1 + S.size + 4 + T.size + 1 ≤ _; omega
      clear hsh hln hnm hln2 hnm2 hS hT hs1 hl1 hs2 hl2 hfm hfn hsm hsn HKS HCON hsz2
      go_wp2_with fail
      refine HR.out.mono ?_
      rintro e w2 ⟨G, c, rfl, hI, hc, b2⟩
      have HI : Hid (IntAt w2 G (natL l1)) := hI
      have HB : Hid (Below w1.heap.size w1 w2) := b2
      have hs2 := b2.size
      have HA2 : Hid (TypAt w2 g ts) := HA.out.below b2 (fun h => HA.out.lt h)
      have q0' : w2.cell? ⟨g, j * 3, none⟩ = some (.int .i64 2) := (World.cell?_of_block (b2.block g (typ_lt q0))).trans q0
      have q2' : w2.cell? ⟨g, j * 3 + 2, none⟩ = some (.int .i64 n) := (World.cell?_of_block (b2.block g (typ_lt q0))).trans q2
      clear hI b2 HR q0 q1 q2
      go_wp2_with fail
      refine (HR2.out G c w2 hc HA2.out HI.out).mono ?_
      rintro e w3 ⟨G3, c3, rfl, hI3, hc3, b3⟩
      have HI3 : Hid (IntAt w3 G3 (natL l2)) := hI3
      have HB3 : Hid (Below w1.heap.size w1 w3) := HB.out.trans (b3.mono hs2)
      have q0'' : w3.cell? ⟨g, j * 3, none⟩ = some (.int .i64 2) := (World.cell?_of_block (b3.block g (typ_lt q0'))).trans q0'
      clear hI3 b3 HR2 q0' q2' HI HB hc
      go_wp2
      go_ret2
      exact ShoEnd.mk rfl HTX.out HNM.out HI3.out hc3 HB3.out
    · obtain ⟨m, rfl, hm, hrm, hfm, hsm⟩ := HKS.out x1 (by simp [kidZ])
      obtain ⟨n, rfl, hn, hrn, hfn, hsn⟩ := HKS.out x2 (by simp [kidZ])
      have HV : Hid (ρ i = .nest 3 (.append (ρ m) (ρ n))) := by
        show _ = _
        rw [HCON.out (by simp)]
        simp [rhsT]
      have hsz2 : sizeT (ρ i) = 1 + (sizeT (ρ m) + sizeT (ρ n)) := by rw [HV.out, sizeT, sizeT]
      have hsh := sho_two (k := 3) (by simp) (ρ m) (ρ n) l hfm hfn
      have hln := sho_len 0 (ρ m) l (by omega)
      have hnm := sho_names 0 (ρ m) l
      have hln2 := sho_len 0 (ρ n) (shoT 0 (ρ m) l).2 (by omega)
      have hnm2 := sho_names 0 (ρ n) (shoT 0 (ρ m) l).2
      have HR : Hid (Calls _ _ _ _ _) := IH.out m l ng nc hm hrm (by omega) hnc w1 HA.out HN.out
      have HR2 : Hid (∀ (G c : Nat) (w : World), (shoT 0 (ρ m) l).2.length ≤ c → TypAt w g ts → IntAt w G (natL (shoT 0 (ρ m) l).2) → Calls Tryd.prog 32 #[.slice (some ⟨g, 0, none⟩) ts.length cap, .int .i64 n, .slice (some ⟨G, 0, none⟩) (shoT 0 (ρ m) l).2.length c] w (ShoEnd w (ρ n) (shoT 0 (ρ m) l).2)) := fun G c w hc hA hI => IH.out n _ G c hn hrn (by omega) hc w hA hI
      unfold ShoEnd at HR HR2
      rw [← HV.out] at hsh
      generalize hs1 : (shoT 0 (ρ m) l).1 = s1 at *
      generalize hl1 : (shoT 0 (ρ m) l).2 = l1 at *
      generalize hs2 : (shoT 0 (ρ n) l1).1 = s2 at *
      generalize hl2 : (shoT 0 (ρ n) l1).2 = l2 at *
      have HTX : Hid ((⟨#[40]⟩ : ByteArray) ++ ⟨s1.toArray⟩ ++ ⟨#[32, 42, 32]⟩ ++ ⟨s2.toArray⟩ ++ ⟨#[41]⟩ = ⟨(shoT 0 (ρ i) l).1.toArray⟩) := by
        show _ = _
        rw [hsh, show (⟨#[40]⟩ : ByteArray) = ⟨[40].toArray⟩ from rfl, show (⟨#[32, 42, 32]⟩ : ByteArray) = ⟨[32, 42, 32].toArray⟩ from rfl, show (⟨#[41]⟩ : ByteArray) = ⟨[41].toArray⟩ from rfl, joinB, joinB, joinB, joinB]
        simp [midT]
      have HNM : Hid ((shoT 0 (ρ i) l).2 = l2) := by show _ = _; rw [hsh]
      have hS := sizeB s1
      have hT := sizeB s2
      generalize (⟨s1.toArray⟩ : ByteArray) = S at HR HTX hS
      generalize (⟨s2.toArray⟩ : ByteArray) = T at HR2 HTX hT
      have hz0 : S.size ≤ 40000 := by omega
      have hy0 : T.size ≤ 40000 := by omega
      have hz1 : ((⟨#[40]⟩ : ByteArray) ++ S).size ≤ 100000 := by rw [ByteArray.size_append]; show 1 + S.size ≤ _; omega
      have hz2 : ((⟨#[40]⟩ : ByteArray) ++ S ++ ⟨#[32, 42, 32]⟩).size ≤ 100000 := by rw [ByteArray.size_append, ByteArray.size_append]; show 1 + S.size + 3 ≤ _; omega
      have hz3 : ((⟨#[40]⟩ : ByteArray) ++ S ++ ⟨#[32, 42, 32]⟩ ++ T).size ≤ 100000 := by rw [ByteArray.size_append, ByteArray.size_append, ByteArray.size_append]; show 1 + S.size + 3 + T.size ≤ _; omega
      have hz4 : ((⟨#[40]⟩ : ByteArray) ++ S ++ ⟨#[32, 42, 32]⟩ ++ T ++ ⟨#[41]⟩).size ≤ 100000 := by rw [ByteArray.size_append, ByteArray.size_append, ByteArray.size_append, ByteArray.size_append]; show 1 + S.size + 3 + T.size + 1 ≤ _; omega
      clear hsh hln hnm hln2 hnm2 hS hT hs1 hl1 hs2 hl2 hfm hfn hsm hsn HKS HCON hsz2
      go_wp2_with fail
      refine HR.out.mono ?_
      rintro e w2 ⟨G, c, rfl, hI, hc, b2⟩
      have HI : Hid (IntAt w2 G (natL l1)) := hI
      have HB : Hid (Below w1.heap.size w1 w2) := b2
      have hs2 := b2.size
      have HA2 : Hid (TypAt w2 g ts) := HA.out.below b2 (fun h => HA.out.lt h)
      have q0' : w2.cell? ⟨g, j * 3, none⟩ = some (.int .i64 3) := (World.cell?_of_block (b2.block g (typ_lt q0))).trans q0
      have q2' : w2.cell? ⟨g, j * 3 + 2, none⟩ = some (.int .i64 n) := (World.cell?_of_block (b2.block g (typ_lt q0))).trans q2
      clear hI b2 HR q0 q1 q2
      go_wp2_with fail
      refine (HR2.out G c w2 hc HA2.out HI.out).mono ?_
      rintro e w3 ⟨G3, c3, rfl, hI3, hc3, b3⟩
      have HI3 : Hid (IntAt w3 G3 (natL l2)) := hI3
      have HB3 : Hid (Below w1.heap.size w1 w3) := HB.out.trans (b3.mono hs2)
      have q0'' : w3.cell? ⟨g, j * 3, none⟩ = some (.int .i64 3) := (World.cell?_of_block (b3.block g (typ_lt q0'))).trans q0'
      clear hI3 b3 HR2 q0' q2' HI HB hc
      go_wp2
      go_ret2
      exact ShoEnd.mk rfl HTX.out HNM.out HI3.out hc3 HB3.out
    · obtain ⟨m, rfl, hm, hrm, hfm, hsm⟩ := HKS.out x1 (by simp [kidZ])
      have hsm' := hsm (by simp)
      have HV : Hid (ρ i = .nest 4 (ρ m)) := by
        show _ = _
        rw [HCON.out (by simp)]
        simp [rhsT]
      have hsh := sho_one (k := 4) (ρ m) l hfm
      have hln := sho_len 0 (ρ m) l (by omega)
      have hnm := sho_names 0 (ρ m) l
      have HR : Hid (Calls _ _ _ _ _) := IH.out m l ng nc hm hrm (by omega) hnc w1 HA.out HN.out
      unfold ShoEnd at HR
      rw [← HV.out] at hsh
      generalize hs1 : (shoT 0 (ρ m) l).1 = s1 at *
      generalize hl1 : (shoT 0 (ρ m) l).2 = l1 at *
      have HTX : Hid ((⟨#[40, 108, 105, 115, 116, 32]⟩ : ByteArray) ++ ⟨s1.toArray⟩ ++ ⟨#[41]⟩ = ⟨(shoT 0 (ρ i) l).1.toArray⟩) := by
        show _ = _
        rw [hsh, show (⟨#[40, 108, 105, 115, 116, 32]⟩ : ByteArray) = ⟨[40, 108, 105, 115, 116, 32].toArray⟩ from rfl, show (⟨#[41]⟩ : ByteArray) = ⟨[41].toArray⟩ from rfl, joinB, joinB]
        simp [preT]
      have HNM : Hid ((shoT 0 (ρ i) l).2 = l1) := by show _ = _; rw [hsh]
      have hS := sizeB s1
      generalize (⟨s1.toArray⟩ : ByteArray) = S at HR HTX hS
      have hz0 : S.size ≤ 40000 := by omega
      have hz1 : ((⟨#[40, 108, 105, 115, 116, 32]⟩ : ByteArray) ++ S).size ≤ 100000 := by rw [ByteArray.size_append]; show 6 + S.size ≤ _; omega
      have hz2 : ((⟨#[40, 108, 105, 115, 116, 32]⟩ : ByteArray) ++ S ++ ⟨#[41]⟩).size ≤ 100000 := by rw [ByteArray.size_append, ByteArray.size_append]; show 6 + S.size + 1 ≤ _; omega
      clear hsh hln hnm hS hs1 hl1 hfm hsm hsm' HKS HCON
      go_wp2_with fail
      refine HR.out.mono ?_
      rintro e w2 ⟨G, c, rfl, hI, hc, b2⟩
      have HI : Hid (IntAt w2 G (natL l1)) := hI
      have HB : Hid (Below w1.heap.size w1 w2) := b2
      have q0' : w2.cell? ⟨g, j * 3, none⟩ = some (.int .i64 4) := (World.cell?_of_block (b2.block g (typ_lt q0))).trans q0
      clear hI b2 HR q0 q1 q2
      go_wp2
      go_ret2
      exact ShoEnd.mk rfl HTX.out HNM.out HI.out hc HB.out
    · obtain ⟨m, rfl, hm, hrm, hfm, hsm⟩ := HKS.out x1 (by simp [kidZ])
      have hsm' := hsm (by simp)
      have HV : Hid (ρ i = .nest 5 (ρ m)) := by
        show _ = _
        rw [HCON.out (by simp)]
        simp [rhsT]
      have hsh := sho_one (k := 5) (ρ m) l hfm
      have hln := sho_len 0 (ρ m) l (by omega)
      have hnm := sho_names 0 (ρ m) l
      have HR : Hid (Calls _ _ _ _ _) := IH.out m l ng nc hm hrm (by omega) hnc w1 HA.out HN.out
      unfold ShoEnd at HR
      rw [← HV.out] at hsh
      generalize hs1 : (shoT 0 (ρ m) l).1 = s1 at *
      generalize hl1 : (shoT 0 (ρ m) l).2 = l1 at *
      have HTX : Hid ((⟨#[40, 114, 101, 102, 32]⟩ : ByteArray) ++ ⟨s1.toArray⟩ ++ ⟨#[41]⟩ = ⟨(shoT 0 (ρ i) l).1.toArray⟩) := by
        show _ = _
        rw [hsh, show (⟨#[40, 114, 101, 102, 32]⟩ : ByteArray) = ⟨[40, 114, 101, 102, 32].toArray⟩ from rfl, show (⟨#[41]⟩ : ByteArray) = ⟨[41].toArray⟩ from rfl, joinB, joinB]
        simp [preT]
      have HNM : Hid ((shoT 0 (ρ i) l).2 = l1) := by show _ = _; rw [hsh]
      have hS := sizeB s1
      generalize (⟨s1.toArray⟩ : ByteArray) = S at HR HTX hS
      have hz0 : S.size ≤ 40000 := by omega
      have hz1 : ((⟨#[40, 114, 101, 102, 32]⟩ : ByteArray) ++ S).size ≤ 100000 := by rw [ByteArray.size_append]; show 5 + S.size ≤ _; omega
      have hz2 : ((⟨#[40, 114, 101, 102, 32]⟩ : ByteArray) ++ S ++ ⟨#[41]⟩).size ≤ 100000 := by rw [ByteArray.size_append, ByteArray.size_append]; show 5 + S.size + 1 ≤ _; omega
      clear hsh hln hnm hS hs1 hl1 hfm hsm hsm' HKS HCON
      go_wp2_with fail
      refine HR.out.mono ?_
      rintro e w2 ⟨G, c, rfl, hI, hc, b2⟩
      have HI : Hid (IntAt w2 G (natL l1)) := hI
      have HB : Hid (Below w1.heap.size w1 w2) := b2
      have q0' : w2.cell? ⟨g, j * 3, none⟩ = some (.int .i64 5) := (World.cell?_of_block (b2.block g (typ_lt q0))).trans q0
      clear hI b2 HR q0 q1 q2
      go_wp2
      go_ret2
      exact ShoEnd.mk rfl HTX.out HNM.out HI.out hc HB.out
end Go.Proofs.YtbhfpfoekalphaaDoor
