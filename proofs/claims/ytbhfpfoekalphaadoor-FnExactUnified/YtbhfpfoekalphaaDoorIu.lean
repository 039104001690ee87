/-
  Types, the specification's: two types are made one, in a table of the call's own. Conditions: written at each theorem.
-/
import Derived.Test.YtbhfpfoekalphaaDoorHu
import Derived.Deep.RegionHeld3
namespace Go.Proofs.YtbhfpfoekalphaaDoor
open Go.ChangeShapes Go.WideShapes Go.ChangeAt Go.RowKit
set_option linter.unusedVariables false

theorem rhs_kids {t t' : Typ} (hk : t.kind = t'.kind) (h0 : t.kind ≠ 0) (τ : Nat → Tr) :
    (kidZ t).length = (kidZ t').length ∧ (rhsT t τ = rhsT t' τ ↔ ∀ q, q < (kidZ t).length → τ ((kidZ t).getD q 0).toNat = τ ((kidZ t').getD q 0).toNat) := by
  obtain ⟨k, x, y⟩ := t
  obtain ⟨k', x', y'⟩ := t'
  simp only at hk h0
  subst hk
  unfold rhsT kidZ
  simp only [if_neg h0]
  by_cases h2 : k = 2 ∨ k = 3
  · simp only [if_pos h2, List.length_cons, List.length_nil, true_and]
    constructor
    · intro e q hq
      simp only [Std.Format.nest.injEq, Std.Format.append.injEq, true_and] at e
      match q, hq with
      | 0, _ => exact e.1
      | 1, _ => exact e.2
    · intro e
      have e0 := e 0 (by omega)
      have e1 := e 1 (by omega)
      simp at e0 e1
      rw [e0, e1]
  · simp only [if_neg h2]
    by_cases h4 : k = 4 ∨ k = 5
    · simp only [if_pos h4, List.length_cons, List.length_nil, true_and]
      constructor
      · intro e q hq
        simp only [Std.Format.nest.injEq, true_and] at e
        match q, hq with
        | 0, _ => exact e
      · intro e
        have e0 := e 0 (by omega)
        simp at e0
        rw [e0]
    · simp [if_neg h4]

theorem rhs_kinds {t t' : Typ} {τ : Nat → Tr} (hk : ¬ t.kind = t'.kind) (h0 : t.kind ≠ 0) (h0' : t'.kind ≠ 0) (k5 : t.kind ≤ 5 ∧ 0 ≤ t.kind) (k5' : t'.kind ≤ 5 ∧ 0 ≤ t'.kind) (he : rhsT t τ = rhsT t' τ) : False := by
  have key : ∀ s : Typ, s.kind ≠ 0 → s.kind ≤ 5 ∧ 0 ≤ s.kind → (s.kind = 1 ∧ rhsT s τ = .line) ∨ (s.kind ≠ 1 ∧ ∃ f, rhsT s τ = .nest s.kind f) := fun s hs0 hs5 => by
    unfold rhsT
    by_cases h2 : s.kind = 2 ∨ s.kind = 3
    · exact Or.inr ⟨by omega, _, by rw [if_pos h2]⟩
    · by_cases h4 : s.kind = 4 ∨ s.kind = 5
      · exact Or.inr ⟨by omega, _, by rw [if_neg h2, if_pos h4]⟩
      · exact Or.inl ⟨by omega, by rw [if_neg h2, if_neg h4]⟩
  rcases key t h0 k5 with ⟨a1, e1⟩ | ⟨a1, f1, e1⟩ <;> rcases key t' h0' k5' with ⟨a2, e2⟩ | ⟨a2, f2, e2⟩ <;> rw [e1, e2] at he
  · omega
  · cases he
  · cases he
  · simp only [Std.Format.nest.injEq] at he
    exact hk he.1

theorem IntAt.gro {w w' : World} {G g : Nat} {st : List Int} (h : IntAt w G st) (hg : w.grownBy w' (some g)) (hne : 0 < st.length → G ≠ g) : IntAt w' G st := fun i hi => by
  have h1 := h i hi
  have h2 := typ_lt h1
  exact (World.cell?_of_block (hg.block G h2 (fun e => hne (by omega) (Option.some.inj e)))).trans h1

/-- What is known when the first q parts were made one. -/
def Part (u : List Typ) (ks ls : List Int) (q : Nat) (v : List Typ) : Prop :=
  v.length = u.length ∧ (∃ r ρ, Ok v r ρ) ∧ (∀ τ, Sat v τ ↔ Sat u τ ∧ ∀ p, p < q → τ (ks.getD p 0).toNat = τ (ls.getD p 0).toNat) ∧ (v = u ∨ nfT v < nfT u)

theorem Part.next {u v v' : List Typ} {ks ls : List Int} {q : Nat} (h : Part u ks ls q v) (hu : UniOk v (ks.getD q 0).toNat (ls.getD q 0).toNat true v') : Part u ks ls (q + 1) v' := by
  obtain ⟨h1, h2, h3, h4⟩ := h
  obtain ⟨y1, y2, y3⟩ := hu.yes rfl
  refine ⟨by rw [hu.len, h1], y1, fun τ => ?_, ?_⟩
  · rw [y2 τ, h3 τ]
    constructor
    · rintro ⟨⟨hs, hp⟩, he⟩
      refine ⟨hs, fun p hp' => ?_⟩
      by_cases e : p = q
      · subst e; exact he
      · exact hp p (by omega)
    · rintro ⟨hs, hp⟩
      exact ⟨⟨hs, fun p hp' => hp p (by omega)⟩, hp q (by omega)⟩
  · rcases y3 with e | e
    · rw [e]; exact h4
    · rcases h4 with e4 | e4
      · rw [e4] at e; exact Or.inr e
      · exact Or.inr (by omega)

theorem Part.fail {u v v' : List Typ} {ks ls : List Int} {q : Nat} (h : Part u ks ls q v) (hq : q < ks.length) (hu : UniOk v (ks.getD q 0).toNat (ls.getD q 0).toNat false v') (τ : Nat → Tr) (hs : Sat u τ) (hall : ∀ p, p < ks.length → τ (ks.getD p 0).toNat = τ (ls.getD p 0).toNat) : False :=
  hu.no rfl τ ((h.2.2.1 τ).2 ⟨hs, fun p hp => hall p (by omega)⟩) (hall q hq)

theorem TabAt.drewN {w : World} {g : Nat} {u : List Typ} (h : TabAt w g u) (n : Nat) : TabAt (w.drewN n) g u := h

set_option maxHeartbeats 2000000 in
set_option maxRecDepth 20000 in
theorem spec_unify (g cap : Nat) : ∀ (N K : Nat) (u : List Typ) (r : Nat → Nat) (ρ : Nat → Tr) (a b : Nat), Ok u r ρ → u.length ≤ 1000 → a < u.length → b < u.length → nfT u < N → r a < K → ∀ w : World, TabAt w g u →
    Calls Tryd.prog 35 #[.slice (some ⟨g, 0, none⟩) u.length cap, .int .i64 a, .int .i64 b] w (UniEnd g u a b w) := by
  intro N
  induction N with
  | zero => intro K u r ρ a b _ _ _ _ h; omega
  | succ N ihN =>
  intro K
  induction K with
  | zero => intro u r ρ a b _ _ _ _ _ h; omega
  | succ K ihK =>
  intro u r ρ a b h hl ha hb hN hK w hA
  by_cases hv : ∃ q, ρ a = varT q
  · exact spec_unify_var h g cap hl a b ha hb hv w hA
  have HA : Hid (TabAt w g u) := hA
  have HH : Hid (Ok u r ρ) := h
  have HV : Hid (¬ ∃ q, ρ a = varT q) := hv
  have IHN : Hid (_) := ihN
  have IHK : Hid (_) := ihK
  clear hA h hv ihN ihK
  go_enter Tryd.func35, Tryd.ntmps35
  go_wp2_with fail
  refine (spec_find HH.out _ g cap (fun _ => rfl) hl a ha w HA.out.at).mono ?_
  rintro e w1 ⟨⟨i, rfl, hf⟩, rfl⟩
  have HF : Hid (Found u r ρ a i) := hf
  have hi := hf.lt
  clear hf
  go_wp2_with fail
  refine (spec_find HH.out _ g cap (fun _ => rfl) hl b hb w1 HA.out.at).mono ?_
  rintro e w2 ⟨⟨j, rfl, hf⟩, rfl⟩
  have HF2 : Hid (Found u r ρ b j) := hf
  have hj := hf.lt
  clear hf
  have e1 : (i : Int) < u.length := by omega
  have e2 : (j : Int) < u.length := by omega
  have h0 : (u.getD i noTyp).kind ≠ 0 := fun q => HV.out ⟨i, by rw [← HF.out.same]; exact HH.out.free i hi q (HF.out.up q)⟩
  by_cases hij : i = j
  · subst hij
    have HU : Hid (UniOk u a b true u) := uni_eq HH.out ha hb (by rw [← HF.out.same, HF2.out.same])
    clear h0
    go_wp2
    go_ret
    exact ⟨true, u, rfl, HA.out, gro_of_below (Below.refl _ _) _, HU.out⟩
  have hij' : ¬ (i : Int) = j := by omega
  have t := HA.out.at i hi
  have t' := HA.out.at j hj
  have HK0 : Hid ((u.getD i noTyp).kind ≠ 0) := h0
  have HR : Hid (∀ v u', UniOk u i j v u' → UniOk u a b v u') := fun v u' hu => hu.roots HH.out ha hb hi hj HF.out.same HF2.out.same
  obtain ⟨⟨x0, x1, x2⟩, hx⟩ : ∃ y, u.getD i noTyp = y := ⟨_, rfl⟩
  obtain ⟨⟨y0, y1, y2⟩, hy⟩ : ∃ y, u.getD j noTyp = y := ⟨_, rfl⟩
  have HX : Hid (u.getD i noTyp = ⟨x0, x1, x2⟩) := hx
  have HY : Hid (u.getD j noTyp = ⟨y0, y1, y2⟩) := hy
  rw [hx] at t h0
  rw [hy] at t'
  change x0 ≠ 0 at h0
  have q0 : w2.cell? ⟨g, i * 3, none⟩ = some (.int .i64 x0) := t.c0
  have q1 : w2.cell? ⟨g, i * 3 + 1, none⟩ = some (.int .i64 x1) := t.c1
  have q2 : w2.cell? ⟨g, i * 3 + 2, none⟩ = some (.int .i64 x2) := t.c2
  have p0 : w2.cell? ⟨g, j * 3, none⟩ = some (.int .i64 y0) := t'.c0
  have p1 : w2.cell? ⟨g, j * 3 + 1, none⟩ = some (.int .i64 y1) := t'.c1
  have p2 : w2.cell? ⟨g, j * 3 + 2, none⟩ = some (.int .i64 y2) := t'.c2
  clear t t' hx hy
  by_cases hy0 : y0 = 0
  · subst hy0
    have HC : Hid (Calls _ _ _ _ _) := spec_unify_var HH.out g cap hl j i hj hi ⟨j, HH.out.free j hj (by rw [HY.out]) (HF2.out.up (by rw [HY.out]))⟩ w2 HA.out
    unfold UniEnd at HC
    go_wp2_with fail
    refine HC.out.mono ?_
    rintro e w3 ⟨v, u', rfl, hA3, hg3, hu3⟩
    have HE : Hid (UniEnd g u a b w2 (.returned (.bool v)) w3) := ⟨v, u', rfl, hA3, hg3, HR.out v u' hu3.turn⟩
    clear hA3 hg3 hu3 HC q0 q1 q2 p0 p1 p2
    go_wp2
    go_ret
    exact HE.out
  by_cases hxy : x0 = y0
  · subst hxy
    have hkq := fun τ => rhs_kids (t := ⟨x0, x1, x2⟩) (t' := ⟨x0, y1, y2⟩) rfl h0 τ
    have hlen := (hkq (fun _ => .nil)).1
    have hks : ∀ q, q < (kidZ ⟨x0, x1, x2⟩).length → ∃ m : Nat, (kidZ ⟨x0, x1, x2⟩).getD q 0 = m ∧ m < u.length ∧ r m < K := fun q hq => by
      have hmem : (kidZ ⟨x0, x1, x2⟩).getD q 0 ∈ kidZ (u.getD i noTyp) := by rw [HX.out]; exact kid_mem _ q hq
      have h1 := HH.out.rk i hi _ hmem
      have h2 := (HH.out.ent i hi).kids _ hmem
      have h3 := HF.out.rk
      exact ⟨((kidZ ⟨x0, x1, x2⟩).getD q 0).toNat, by omega, by omega, by omega⟩
    have hls : ∀ q, q < (kidZ ⟨x0, y1, y2⟩).length → ∃ m : Nat, (kidZ ⟨x0, y1, y2⟩).getD q 0 = m ∧ m < u.length := fun q hq => by
      have hmem : (kidZ ⟨x0, y1, y2⟩).getD q 0 ∈ kidZ (u.getD j noTyp) := by rw [HY.out]; exact kid_mem _ q hq
      have h2 := (HH.out.ent j hj).kids _ hmem
      exact ⟨((kidZ ⟨x0, y1, y2⟩).getD q 0).toNat, by omega, by omega⟩
    have hroot : ∀ τ, Sat u τ → (τ i = τ j ↔ ∀ q, q < (kidZ ⟨x0, x1, x2⟩).length → τ ((kidZ ⟨x0, x1, x2⟩).getD q 0).toNat = τ ((kidZ ⟨x0, y1, y2⟩).getD q 0).toNat) := fun τ hs => by
      have h1 := hs i hi
      have h2 := hs j hj
      unfold eqnT at h1 h2
      rw [HX.out, if_neg h0] at h1
      rw [HY.out, if_neg h0] at h2
      rw [h1, h2]
      exact (hkq τ).2
    have hkl := kidZ_length ⟨x0, x1, x2⟩
    have HC1 : Hid (∀ w, Calls Tryd.prog 31 #[.agg #[.int .i64 x0, .int .i64 x1, .int .i64 x2]] w (KidEnd w ⟨x0, x1, x2⟩)) := fun w => spec_kids x0 x1 x2 w
    have HC2 : Hid (∀ w, Calls Tryd.prog 31 #[.agg #[.int .i64 x0, .int .i64 y1, .int .i64 y2]] w (KidEnd w ⟨x0, y1, y2⟩)) := fun w => spec_kids x0 y1 y2 w
    unfold KidEnd at HC1 HC2
    generalize kidZ ⟨x0, x1, x2⟩ = ks at *
    generalize kidZ ⟨x0, y1, y2⟩ = ls at *
    have HKS : Hid (∀ q, q < ks.length → ∃ m : Nat, ks.getD q 0 = m ∧ m < u.length ∧ r m < K) := hks
    have HLS : Hid (∀ q, q < ls.length → ∃ m : Nat, ls.getD q 0 = m ∧ m < u.length) := hls
    have HRO : Hid (∀ τ, Sat u τ → (τ i = τ j ↔ ∀ q, q < ks.length → τ (ks.getD q 0).toNat = τ (ls.getD q 0).toNat)) := hroot
    clear hks hls hroot hkq
    go_wp2
    go_quiet (fail)
    have HAn : Hid (TabAt (w2.drewN nq) g u) := HA.out.drewN nq
    have HGn : Hid (w2.grownBy (w2.drewN nq) (some g)) := ⟨rfl, rfl, rfl, Nat.le_refl _, fun _ _ _ => rfl⟩
    go_wp2_with fail
    refine (HC1.out _).mono ?_
    rintro e w3 ⟨ka, G1, kc, rfl, hka, hk3, b3, hG1⟩
    have HK3 : Hid (IntAt w3 G1 ks) := hk3
    have HA3 : Hid (TabAt w3 g u) := HAn.out.below b3
    have HG3 : Hid (w2.grownBy w3 (some g)) := gro_trans HGn.out (gro_of_below b3 _)
    have HN1 : Hid (0 < ks.length → G1 ≠ g) := fun h => by have := hG1 h; have := HAn.out.lt; omega
    have hg2 := HA.out.lt
    have r0 : w3.cell? ⟨g, j * 3, none⟩ = some (.int .i64 x0) := (World.cell?_of_block (b3.block g HAn.out.lt)).trans p0
    have r1 : w3.cell? ⟨g, j * 3 + 1, none⟩ = some (.int .i64 y1) := (World.cell?_of_block (b3.block g HAn.out.lt)).trans p1
    have r2 : w3.cell? ⟨g, j * 3 + 2, none⟩ = some (.int .i64 y2) := (World.cell?_of_block (b3.block g HAn.out.lt)).trans p2
    clear q0 q1 q2 p0 p1 p2 hk3 b3 hG1 HGn HAn HC1
    go_wp2_with fail
    refine (HC2.out _).mono ?_
    rintro e w4 ⟨la, G2, lc, rfl, hla, hl4, b4, hG2⟩
    have HL4 : Hid (IntAt w4 G2 ls) := hl4
    have HK4 : Hid (IntAt w4 G1 ks) := HK3.out.below b4 (fun h => HK3.out.lt h)
    have HA4 : Hid (TabAt w4 g u) := HA3.out.below b4
    have HG4 : Hid (w2.grownBy w4 (some g)) := gro_trans HG3.out (gro_of_below b4 _)
    have HN2 : Hid (0 < ls.length → G2 ≠ g) := fun h => by have := hG2 h; have := HA3.out.lt; omega
    have HP0 : Hid (Part u ks ls 0 u) := ⟨rfl, ⟨r, ρ, HH.out⟩, fun τ => ⟨fun h => ⟨h, fun p hp => absurd hp (by omega)⟩, fun h => h.1⟩, Or.inl rfl⟩
    clear r0 r1 r2 hl4 b4 hG2 HK3 HA3 HG3 HC2 hg2
    go_wp2
    go_loopw [9] (fun iv wr => ∃ (q : Nat) (v : List Typ), iv = .int .i64 q ∧ q ≤ ks.length ∧ Hid (TabAt wr g v) ∧ Hid (w4.grownBy wr (some g)) ∧ Hid (Part u ks ls q v)) (fun iv _ => ks.length - (intOf iv).toNat)
    case atStart => exact ⟨0, u, rfl, by omega, HA4, gro_of_below (Below.refl _ _) _, HP0⟩
    case round =>
      obtain ⟨q, v, rfl, hq, HAr, HGr, HPr⟩ := hrel
      clear HA4 HP0
      by_cases hin : q < ks.length
      · have hin' : (q : Int) < ks.length := by omega
        have hin2 : (q : Int) < ls.length := by omega
        obtain rfl := hka (by omega)
        obtain rfl := hla (by omega)
        obtain ⟨m, hm1, hm2, hm3⟩ := HKS.out q hin
        obtain ⟨n, hn1, hn2⟩ := HLS.out q (by omega)
        have ck : wr.cell? ⟨G1, q, none⟩ = some (.int .i64 m) := by rw [← hm1]; exact (HK4.out.gro HGr.out HN1.out) q hin
        have cl : wr.cell? ⟨G2, q, none⟩ = some (.int .i64 n) := by rw [← hn1]; exact (HL4.out.gro HGr.out HN2.out) q (by omega)
        have HN1' : G1 ≠ g := HN1.out (by omega)
        have HN2' : G2 ≠ g := HN2.out (by omega)
        have hG1s : G1 < wr.heap.size := typ_lt ck
        have hG2s : G2 < wr.heap.size := typ_lt cl
        have hvl : v.length = u.length := HPr.out.1
        have HC : Hid (∀ W, TabAt W g v → Calls Tryd.prog 35 #[.slice (some ⟨g, 0, none⟩) u.length cap, .int .i64 m, .int .i64 n] W (UniEnd g v m n W)) := fun W hW => by
          rw [← hvl]
          rcases HPr.out.2.2.2 with e | e
          · subst e
            exact IHK.out v r ρ m n HH.out hl hm2 hn2 hN hm3 W hW
          · obtain ⟨r', ρ', ho'⟩ := HPr.out.2.1
            exact IHN.out (r' m + 1) v r' ρ' m n ho' (by omega) (by omega) (by omega) (by omega) (by omega) W hW
        have HNX : Hid (∀ v', UniOk v m n true v' → Part u ks ls (q + 1) v') := fun v' h => HPr.out.next (by rw [hm1, hn1]; exact h)
        have HFL : Hid (∀ v', UniOk v m n false v' → UniOk u a b false v') := fun v' h => HR.out false v' ⟨by rw [h.len, hvl], fun q => (by cases q), fun _ τ hs he => HPr.out.fail hin (by rw [hm1, hn1]; exact h) τ hs ((HRO.out τ hs).1 he)⟩
        unfold UniEnd at HC
        clear hm1 hn1 hvl
        go_wp2
        go_region_held3 (fun w' => w'.cell? ⟨G1, q, none⟩ = some (.int .i64 m) ∧ w'.cell? ⟨G2, q, none⟩ = some (.int .i64 n)) (go_keep) (first
          | (go_at_call 35; have X := HC.out wr.drew HAr.out; refine Calls.mono X ?_; clear X; rintro e w5 ⟨bv, v', rfl, hA5, hg5, hu5⟩; have HA5 : Hid (TabAt w5 g v') := hA5; have HU5 : Hid (UniOk v m n bv v') := hu5; have HG5 : Hid (wr.grownBy w5 (some g)) := gro_trans (gro_of_below (Below.refl wr.heap.size wr).drew _) hg5; have d1 : w5.cell? ⟨G1, q, none⟩ = some (.int .i64 m) := (World.cell?_of_block (HG5.out.block G1 hG1s (fun e => HN1' (Option.some.inj e)))).trans ck; have d2 : w5.cell? ⟨G2, q, none⟩ = some (.int .i64 n) := (World.cell?_of_block (HG5.out.block G2 hG2s (fun e => HN2' (Option.some.inj e)))).trans cl; clear hA5 hg5 hu5))
        all_goals
          cases bv
          · have HE : Hid (UniOk u a b false v') := HFL.out v' HU5.out
            go_wp2
            go_ret
            exact ⟨false, v', rfl, HA5.out, gro_trans HG4.out (gro_trans HGr.out HG5.out), HE.out⟩
          · have HP5 : Hid (Part u ks ls (q + 1) v') := HNX.out v' HU5.out
            have HG6 : Hid (w4.grownBy w5 (some g)) := gro_trans HGr.out HG5.out
            go_wp2
            go_roundw
            case rel => exact ⟨q + 1, v', by go_num, by omega, HA5, HG6.out, HP5⟩
            case measure => simp [intOf]; omega
      · obtain rfl : q = ks.length := by omega
        have HU : Hid (UniOk u a b true v) := HR.out true v ⟨HPr.out.1, fun _ => ⟨HPr.out.2.1, fun τ => by
          rw [HPr.out.2.2.1 τ]
          exact ⟨fun h => ⟨h.1, (HRO.out τ h.1).2 h.2⟩, fun h => ⟨h.1, (HRO.out τ h.1).1 h.2⟩⟩, HPr.out.2.2.2⟩, fun q => by cases q⟩
        go_wp2
        go_ret
        exact ⟨true, v, rfl, HAr.out, gro_trans HG4.out HGr.out, HU.out⟩
  · have HU : Hid (UniOk u a b false u) := HR.out false u ⟨rfl, fun q => (by cases q), fun _ τ hs he => by
      have h1 := hs i hi
      have h2 := hs j hj
      unfold eqnT at h1 h2
      rw [HX.out, if_neg h0] at h1
      rw [HY.out, if_neg hy0] at h2
      rw [h1, h2] at he
      have k1 := HH.out.ent i hi
      have k2 := HH.out.ent j hj
      rw [HX.out] at k1
      rw [HY.out] at k2
      exact rhs_kinds (t := ⟨x0, x1, x2⟩) (t' := ⟨y0, y1, y2⟩) hxy h0 hy0 ⟨k1.k5, k1.k0⟩ ⟨k2.k5, k2.k0⟩ he⟩
    go_wp2
    go_quiet (fail)
    go_wp2
    go_ret
    exact ⟨false, u, rfl, HA.out.drewN _, ⟨rfl, rfl, rfl, Nat.le_refl _, fun _ _ _ => rfl⟩, HU.out⟩
end Go.Proofs.YtbhfpfoekalphaaDoor
