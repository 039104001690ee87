/-
  Scopes as they landed: the scope of each node. Conditions: written at each theorem.
-/
import Derived.Test.YtcpafjpjfinbkaaSv
import Derived.Test.YtcpafjpjfinbkaaIp
import Derived.Laws.EntriesVeiled
namespace Go.Proofs.Ytcpafjpjfinbkaa
open Go.ChangeShapes Go.WideShapes Go.ChangeAt Go.RowKit
set_option linter.unusedVariables false

theorem info_scope : (Try.prog.info? 70).map (fun i => (i.zero, i.size, i.bytes)) = some (some .nilFunc, 1, 8) := by kernel_rfl

/-- The scopes of some nodes stand in a row. -/
def ScG (g : Nat) (w : World) (C : Nat → Prop) (f : Nat → ByteArray → Int × Int) (vs : List Value) : Prop := ∀ m, m < vs.length → C m → ∃ l, ScL g w l (vs.getD m .nilFunc) ∧ ∀ s, lookL l s = f m s

theorem ScG.kept {g : Nat} {w w' : World} {C : Nat → Prop} {f : Nat → ByteArray → Int × Int} {vs : List Value} (h : ScG g w C f vs) (hk : Kept g w w') : ScG g w' C f vs := fun m hm hc => by
  obtain ⟨l, h1, h2⟩ := h m hm hc
  exact ⟨l, ScL.kept hk l _ h1, h2⟩

/-- While they are made: so many kids of a node are done. -/
def kidC (ts : List Nod) (k : Nat) (ks : List Int) (m : Nat) : Prop := m + 1 = ts.length ∨ 0 ≤ parU ts m k ∨ hasI ks m = true
def kidF (ts : List Nod) (k i : Nat) (ks : List Int) (m : Nat) (s : ByteArray) : Int × Int :=
  if hasI ks m = true then (match lookR s (bndL (ts.getD i noNod) m) with | some r => ((i : Int), r) | none => scB ts i s) else scU ts k m s

theorem hasI_take (ks : List Int) (q : Nat) (hq : q < ks.length) (m : Int) : hasI (ks.take (q + 1)) m = (hasI (ks.take q) m || (m == ks.getD q 0)) := by
  unfold hasI
  rw [List.take_succ_eq_append_getElem hq, List.contains_append]
  simp [List.getD, hq]
  rfl

theorem hasI_getD (ks : List Int) (q : Nat) (hq : q < ks.length) : hasI ks (ks.getD q 0) = true := by
  unfold hasI
  rw [List.contains_iff_mem]
  simp only [List.getD]
  rw [List.getElem?_eq_getElem hq]
  exact List.getElem_mem hq

theorem ScL.drew {g : Nat} {w : World} {l : List (ByteArray × Int × Int)} {v : Value} (h : ScL g w l v) : ScL g w.drew l v := ScL.kept (w := w) (w' := w.drew) ⟨Nat.le_refl _, fun _ _ _ => rfl⟩ l v h

theorem scRow_set {w : World} {g : Nat} {vs : List Value} {t : TypeId} (h : w.heap[g]? = some (.cells vs.toArray t (0, 0))) (k : Nat) (v : Value) : (w.setCell ⟨g, k, none⟩ v).heap[g]? = some (.cells (vs.set k v).toArray t (0, 0)) := by
  have := heap_setCell_same w g k _ _ v h
  rw [List.setIfInBounds_toArray] at this
  exact this

theorem Kept.set (g : Nat) (w : World) (k : Nat) (v : Value) : Kept g w (w.setCell ⟨g, k, none⟩ v) := by
  refine ⟨?_, fun j hj hne => heap_setCell_other w ⟨g, k, none⟩ j v hne⟩
  simp

theorem scRow_cell {w : World} {g : Nat} {vs : List Value} {t : TypeId} (h : w.heap[g]? = some (.cells vs.toArray t (0, 0))) (k : Nat) (hk : k < vs.length) : w.cell? ⟨g, k, none⟩ = some (vs.getD k .nilFunc) := by
  rw [cell_of_row _ _ _ _ _ _ h]
  simp [List.getD, hk]

/-- One scope more. -/
theorem ScG.step {g : Nat} {w : World} {ts : List Nod} {k i q : Nat} {ks : List Int} {vs : List Value} {c : Nat} {v : Value} {l : List (ByteArray × Int × Int)} (hq : q < ks.length) (hc : ks.getD q 0 = c) (hcl : c < vs.length)
    (h : ScG g w (kidC ts k (ks.take q)) (kidF ts k i (ks.take q)) vs) (hv : ScL g w l v) (hl : ∀ s, lookL l s = match lookR s (bndL (ts.getD i noNod) c) with | some r => ((i : Int), r) | none => scB ts i s) :
    ScG g (w.setCell ⟨g, c, none⟩ v) (kidC ts k (ks.take (q + 1))) (kidF ts k i (ks.take (q + 1))) (vs.set c v) := by
  intro m hm hC
  rw [List.length_set] at hm
  by_cases e : m = c
  · subst e
    refine ⟨l, ?_, fun s => ?_⟩
    · have : (vs.set m v).getD m .nilFunc = v := by simp [List.getD, hm]
      rw [this]
      exact ScL.kept (Kept.set g w m v) l v hv
    · rw [hl, kidF, if_pos]
      rw [hasI_take ks q hq, hc]
      simp
  · have e2 : hasI (ks.take (q + 1)) m = hasI (ks.take q) m := by
      rw [hasI_take ks q hq, hc]
      have : ((m : Int) == (c : Int)) = false := by rw [beq_eq_false_iff_ne]; omega
      rw [this, Bool.or_false]
    have e3 : (vs.set c v).getD m .nilFunc = vs.getD m .nilFunc := by
      simp only [List.getD]
      rw [List.getElem?_set_ne (fun h => e h.symm)]
    unfold kidC at hC
    rw [e2] at hC
    obtain ⟨l', h1, h2⟩ := h m hm hC
    rw [e3]
    refine ⟨l', ScL.kept (Kept.set g w c v) l' _ h1, fun s => ?_⟩
    rw [h2, kidF, kidF, e2]

/-- A node is done. -/
theorem kid_done {ts : List Nod} {i : Nat} (hi : i < ts.length) (m : Nat) : (kidC ts (ts.length - (i + 1)) (kidL (ts.getD i noNod)) m ↔ m + 1 = ts.length ∨ 0 ≤ parU ts m (ts.length - i)) ∧ ∀ s, kidF ts (ts.length - (i + 1)) i (kidL (ts.getD i noNod)) m s = scU ts (ts.length - i) m s := by
  have h := @parU_at ts m i hi
  unfold kidC kidF scU
  by_cases hh : hasI (kidL (ts.getD i noNod)) m = true
  · rw [if_pos hh] at h
    rw [h]
    refine ⟨⟨fun _ => Or.inr (by omega), fun _ => Or.inr (Or.inr hh)⟩, fun s => ?_⟩
    rw [if_pos hh, if_neg (by omega)]
    rfl
  · rw [if_neg hh] at h
    rw [h]
    refine ⟨⟨fun q => ?_, fun q => ?_⟩, fun s => ?_⟩
    · rcases q with q | q | q
      · exact Or.inl q
      · exact Or.inr q
      · exact absurd q hh
    · rcases q with q | q
      · exact Or.inl q
      · exact Or.inr (Or.inl q)
    · rw [if_neg hh]

theorem kid_start (ts : List Nod) (k i : Nat) (m : Nat) : (kidC ts k [] m ↔ m + 1 = ts.length ∨ 0 ≤ parU ts m k) ∧ ∀ s, kidF ts k i [] m s = scU ts k m s := by
  unfold kidC kidF
  have : hasI [] m = false := rfl
  rw [this]
  refine ⟨⟨fun q => ?_, fun q => ?_⟩, fun s => if_neg Bool.false_ne_true⟩
  · rcases q with q | q | q
    · exact Or.inl q
    · exact Or.inr q
    · cases q
  · rcases q with q | q
    · exact Or.inl q
    · exact Or.inr (Or.inl q)

theorem ScG.to {g : Nat} {w : World} {C C' : Nat → Prop} {f f' : Nat → ByteArray → Int × Int} {vs : List Value} (h : ScG g w C f vs) (hC : ∀ m, m < vs.length → C' m → C m) (hf : ∀ m, m < vs.length → C' m → ∀ s, f m s = f' m s) : ScG g w C' f' vs := fun m hm hc => by
  obtain ⟨l, h1, h2⟩ := h m hm (hC m hm hc)
  exact ⟨l, h1, fun s => (h2 s).trans (hf m hm hc s)⟩

/-- What scopesOf ends with: the scope of each node. -/
def ScEnd (ts : List Nod) (B : Nat) (e : Ending) (w : World) : Prop :=
  if nodesB ts = true then ∃ (G : Nat) (vs : List Value), e = .returned (.slice (some ⟨G, 0, none⟩) ts.length ts.length) ∧ B ≤ G ∧ vs.length = ts.length ∧ w.heap[G]? = some (.cells vs.toArray 70 (0, 0)) ∧ ScG G w (fun _ => True) (fun m s => scB ts m s) vs
  else e = .returned (.slice none 0 0)

theorem ik_name : (Try.f65.name == "runtime.NumGoroutine") = false := by kernel_rfl
theorem ik_body : Try.f65.body.isNone = false := by kernel_rfl

set_option maxHeartbeats 4000000 in
set_option maxRecDepth 20000 in
theorem impl_scopes (a : Option Addr) (g cap : Nat) (ts : List Nod) (hne : 0 < ts.length → a = some ⟨g, 0, none⟩) (hl : ts.length ≤ 1048576)
    (hst : ∀ i, i < ts.length → (ts.getD i noNod).name.size ≤ maxLen ∧ (ts.getD i noNod).other.size ≤ maxLen) (w : World) (hA : NodAt w g ts) :
    Calls Try.prog 51 #[.slice a ts.length cap] w fun e w' => ScEnd ts w.heap.size e w' ∧ Below w.heap.size w w' := by
  have HA : Hid (NodAt w g ts) := hA
  have HT : Hid (∀ i, i < ts.length → (ts.getD i noNod).name.size ≤ maxLen ∧ (ts.getD i noNod).other.size ≤ maxLen) := hst
  clear hA hst
  by_cases hok : nodesB ts = true
  · have HO : Hid (nodesB ts = true) := hok
    obtain ⟨hl2, hl1, ⟨st, hR⟩, hpar, hhas⟩ := right_par hok
    have HR : Hid (Right ts st) := hR
    have HH : Hid (∀ i : Nat, i + 1 < ts.length → ∃ p, i < p ∧ p < ts.length ∧ hasI (kidL (ts.getD p noNod)) (i : Int) = true) := hhas
    clear hok hR hpar hhas
    obtain rfl := hne (by omega)
    obtain ⟨n, hn⟩ : ∃ n : Nat, ts.length = n + 1 := ⟨ts.length - 1, by omega⟩
    have e1 : (ts.length : Int) - 1 = n := by omega
    have e2 : (n : Int) < ts.length := by omega
    have HN : Hid (ts.length = n + 1) := hn
    clear hn
    go_enter Try.func51, Try.ntmps51
    go_wp2_with fail
    refine (impl_nodes _ g cap ts (fun _ => rfl) hl HT.out w HA.out).mono ?_
    rintro e w1 ⟨rfl, hb1⟩
    rw [HO.out]
    obtain ⟨i0, hi, hz0, hz1, hz2⟩ := info_parts info_scope
    have hmk := run_make (P := Try.prog) w1 66 70 i0 _ Try.underlying66 hi hz0 .i64 .i64 (ts.length : Int) (ts.length : Int) (by omega) (by omega) (by rw [hz2]; omega) (by omega)
    have ez : ((ts.length : Nat) : Int).toNat = ts.length := by omega
    rw [hz1, ez] at hmk
    have em : madeCells (Value.nilFunc).cells (ts.length * 1) = (List.replicate ts.length Value.nilFunc).toArray := by
      rw [Nat.mul_one]
      refine Array.ext (by simp [madeCells]) (fun i h1 h2 => ?_)
      simp [madeCells, Value.cells, Nat.mod_one]
    rw [em] at hmk
    obtain ⟨wa, hwa⟩ : ∃ wa, w1.alloc (.cells (List.replicate ts.length Value.nilFunc).toArray 70) = wa := ⟨_, rfl⟩
    rw [hwa] at hmk
    have ra : wa.heap[w1.heap.size]? = some (.cells (List.replicate ts.length Value.nilFunc).toArray 70 (0, 0)) := by rw [← hwa]; exact (MapKept.heap_alloc w1 _).1
    have s1 := hb1.size
    have ba : Below w.heap.size w wa := by rw [← hwa]; exact hb1.alloc s1 _
    have ca : wa.cell? ⟨w1.heap.size, n, none⟩ = some .nilFunc := by rw [scRow_cell ra n (by simp; omega)]; simp [List.getD, show n < ts.length by omega]
    have fa : wa.frozen? ⟨w1.heap.size, n, none⟩ = false := frozen_of_row wa _ _ _ _ ra
    have HRA : Hid (_) := ra
    have HBA : Hid (_) := ba
    clear hi hz0 hz1 hz2 ez em hwa ra ba i0
    go_wp2
    have HS0 : Hid (∃ vs, vs.length = ts.length ∧ (wa.setCell ⟨w1.heap.size, n, none⟩ (.func (.func 64) #[] #[])).heap[w1.heap.size]? = some (.cells vs.toArray 70 (0, 0)) ∧ ScG w1.heap.size (wa.setCell ⟨w1.heap.size, n, none⟩ (.func (.func 64) #[] #[])) (fun m => m + 1 = ts.length ∨ 0 ≤ parU ts m 0) (fun m => scU ts 0 m) vs) := by
      refine ⟨(List.replicate ts.length Value.nilFunc).set n (.func (.func 64) #[] #[]), by simp, scRow_set HRA.out n _, ?_⟩
      intro m hm hC
      have hmn : m = n := by
        rcases hC with h | h
        · have := HN.out; omega
        · have : parU ts m 0 = -1 := rfl
          omega
      subst hmn
      have hv : ((List.replicate ts.length Value.nilFunc).set m (.func (.func 64) #[] #[])).getD m .nilFunc = .func (.func 64) #[] #[] := by
        simp [List.getD, show m < ts.length by omega]
      exact ⟨[], hv, fun s => rfl⟩
    have HB0 : Hid (Below w.heap.size w (wa.setCell ⟨w1.heap.size, n, none⟩ (.func (.func 64) #[] #[]))) := HBA.out.setCell (p := ⟨w1.heap.size, n, none⟩) s1 _
    have hz0 : (wa.setCell ⟨w1.heap.size, n, none⟩ (.func (.func 64) #[] #[])).heap.size = wa.heap.size := by simp
    have hz1 : w1.heap.size < wa.heap.size := (Array.getElem?_eq_some_iff.1 HRA.out).1
    generalize wa.setCell ⟨w1.heap.size, n, none⟩ (.func (.func 64) #[] #[]) = wb at *
    obtain ⟨G, hG⟩ : ∃ G, w1.heap.size = G := ⟨_, rfl⟩
    rw [hG] at HS0 s1 hz1 ⊢
    clear hmk ca fa HRA HBA hG hz0

    go_loopw [5] (fun iv wr => ∃ i : Nat, i ≤ ts.length ∧ iv = .int .i64 ((i : Int) - 1) ∧ Hid (∃ vs, vs.length = ts.length ∧ wr.heap[G]? = some (.cells vs.toArray 70 (0, 0)) ∧ ScG G wr (fun m => m + 1 = ts.length ∨ 0 ≤ parU ts m (ts.length - i)) (fun m => scU ts (ts.length - i) m) vs) ∧ Below w.heap.size w wr) (fun iv _ => (intOf iv + 1).toNat)
    case atStart => exact ⟨n + 1, by have := HN.out; omega, by congr 1; omega, by rw [show ts.length - (n + 1) = 0 by have := HN.out; omega]; exact HS0, HB0.out⟩
    case round =>
      obtain ⟨i1, hi1, rfl, HS, hb⟩ := hrel
      clear HS0 HB0
      rcases i1 with _ | i
      · have HE : Hid (ScEnd ts w.heap.size (.returned (.slice (some ⟨G, 0, none⟩) ts.length ts.length)) wr) := by
          show ScEnd ts w.heap.size _ wr
          unfold ScEnd
          rw [if_pos HO.out]
          obtain ⟨vs, h1, h2, h3⟩ := HS.out
          refine ⟨G, vs, rfl, s1, h1, h2, h3.to (fun m hm _ => ?_) (fun m hm _ s => ?_)⟩
          · rw [h1] at hm
            by_cases hml : m + 1 = ts.length
            · exact Or.inl hml
            · obtain ⟨p, p1, p2, p3⟩ := HH.out m (by omega)
              exact Or.inr (parU_some ts m p p2 p3 _ (by omega) (by omega))
          · exact scU_whole HO.out m _ (by omega) (by omega) (by omega) s
        have em1 : ((0 : Nat) : Int) - 1 = -1 := rfl
        rw [em1]
        clear HS em1
        go_wp2
        go_ret
        exact ⟨HE.out, hb⟩
      · have hin : i < ts.length := by omega
        have hin' : (i : Int) < ts.length := by omega
        have em1 : ((i + 1 : Nat) : Int) - 1 = i := by omega
        rw [em1]
        have t := (HA.out.below hb (fun h => HA.out.lt h)) i hin
        have sb := hb.size
        have HKL : Hid (∀ q, q < (kidL (ts.getD i noNod)).length → ∃ c : Nat, (kidL (ts.getD i noNod)).getD q 0 = c ∧ c < i) := fun q hq => by
          have hm := hasI_getD (kidL (ts.getD i noNod)) q hq
          obtain ⟨c, hc, hci, _⟩ := kids_low HR.out hin hm
          exact ⟨c, hc, hci⟩
        have HBL : Hid (∀ q, q < (kidL (ts.getD i noNod)).length → bndL (ts.getD i noNod) ((kidL (ts.getD i noNod)).getD q 0) = rolL (ts.getD i noNod) (rolN (ts.getD i noNod).kind q)) := fun q hq => bndL_rol HR.out hin hq
        have HTN : Hid (∀ m, (kidC ts (ts.length - (i + 1)) (kidL (ts.getD i noNod)) m ↔ m + 1 = ts.length ∨ 0 ≤ parU ts m (ts.length - i)) ∧ ∀ s, kidF ts (ts.length - (i + 1)) i (kidL (ts.getD i noNod)) m s = scU ts (ts.length - i) m s) := fun m => kid_done hin m
        have HST : Hid (∃ vs, vs.length = ts.length ∧ wr.heap[G]? = some (.cells vs.toArray 70 (0, 0)) ∧ ScG G wr (kidC ts (ts.length - (i + 1)) []) (kidF ts (ts.length - (i + 1)) i []) vs) := by
          obtain ⟨vs, h1, h2, h3⟩ := HS.out
          exact ⟨vs, h1, h2, h3.to (fun m hm hc => ((kid_start ts _ i m).1.1 hc)) (fun m hm hc s => ((kid_start ts _ i m).2 s).symm)⟩
        clear HS em1
        have HNODE : Hid (∃ y, ts.getD i noNod = y) := ⟨_, rfl⟩
        obtain ⟨⟨x0, x1, x2, x3, x4, x5, x6⟩, hx⟩ := HNODE.out
        have HX : Hid (ts.getD i noNod = ⟨x0, x1, x2, x3, x4, x5, x6⟩) := hx
        rw [hx] at t HKL HBL HTN
        have q0 : wr.cell? ⟨g, i * 7, none⟩ = some (.int .i64 x0) := t.c0
        have q1 : wr.cell? ⟨g, i * 7 + 1, none⟩ = some (.int .i64 x1) := t.c1
        have q2 : wr.cell? ⟨g, i * 7 + 2, none⟩ = some (.int .i64 x2) := t.c2
        have q3 : wr.cell? ⟨g, i * 7 + 3, none⟩ = some (.int .i64 x3) := t.c3
        have q4 : wr.cell? ⟨g, i * 7 + 4, none⟩ = some (.int .i64 x4) := t.c4
        have q5 : wr.cell? ⟨g, i * 7 + 5, none⟩ = some (.string x5) := t.c5
        have q6 : wr.cell? ⟨g, i * 7 + 6, none⟩ = some (.string x6) := t.c6
        have har := arN_le x0
        have HIK : Hid (∀ (w : World), Calls Try.prog 42 #[.agg #[.int .i64 x0, .int .i64 x1, .int .i64 x2, .int .i64 x3, .int .i64 x4, .string x5, .string x6]] w fun e w' =>
            ∃ K, e = .returned (.slice (some ⟨K, 0, none⟩) (kidL ⟨x0, x1, x2, x3, x4, x5, x6⟩).length 3) ∧ w.heap.size ≤ K ∧ IntAt w' K (kidL ⟨x0, x1, x2, x3, x4, x5, x6⟩) ∧ Below w.heap.size w w') := fun w => by
          refine (impl_kids x0 x1 x2 x3 x4 x5 x6 w).mono ?_
          rintro e w1 ⟨rfl, hg, hb⟩
          exact ⟨_, by rw [kidL_length], by omega, by rw [kidL_take]; exact kids_at hg, hb⟩
        have hkl3 : (kidL ⟨x0, x1, x2, x3, x4, x5, x6⟩).length ≤ 3 := by rw [kidL_length]; exact har
        generalize kidL ⟨x0, x1, x2, x3, x4, x5, x6⟩ = ks at *
        clear t hx HNODE har
        go_wp2_with fail
        refine (HIK.out wr).mono ?_
        rintro e w2 ⟨K, rfl, hK, hI2, b2⟩
        have HI2 : Hid (IntAt w2 K ks) := hI2
        have hGl : G < wr.heap.size := by
          obtain ⟨vs, _, h2, _⟩ := HST.out
          exact (Array.getElem?_eq_some_iff.1 h2).1
        have HS2 : Hid (∃ vs, vs.length = ts.length ∧ w2.heap[G]? = some (.cells vs.toArray 70 (0, 0)) ∧ ScG G w2 (kidC ts (ts.length - (i + 1)) (ks.take 0)) (kidF ts (ts.length - (i + 1)) i (ks.take 0)) vs) := by
          obtain ⟨vs, h1, h2, h3⟩ := HST.out
          exact ⟨vs, h1, (b2.block G hGl).trans h2, h3.kept (Kept.of_below b2)⟩
        have B2 : Below w.heap.size w w2 := hb.trans (b2.mono sb)
        have s2 := b2.size
        clear q0 q1 q2 q3 q4 q5 q6 hI2 b2 HST HIK
        go_wp2
        go_loopw [31] (fun r wq => ∃ q : Nat, q ≤ ks.length ∧ r = .int .i64 q ∧ Hid (IntAt wq K ks) ∧ Hid (∃ vs, vs.length = ts.length ∧ wq.heap[G]? = some (.cells vs.toArray 70 (0, 0)) ∧ ScG G wq (kidC ts (ts.length - (i + 1)) (ks.take q)) (kidF ts (ts.length - (i + 1)) i (ks.take q)) vs) ∧ Below w.heap.size w wq ∧ w2.heap.size ≤ wq.heap.size) (fun r _ => ks.length - (intOf r).toNat)
        case atStart => exact ⟨0, by omega, rfl, HI2, HS2, B2, Nat.le_refl _⟩
        case round =>
          obtain ⟨q, hq, rfl, HIq, HSq, hbq, hsq⟩ := hrel
          clear HI2 HS2 B2
          by_cases hqi : q < ks.length
          · have hqi' : (q : Int) < ks.length := by omega
            obtain ⟨c, hc, hci⟩ := HKL.out q hqi
            have kc : wr.cell? ⟨K, q, none⟩ = some (.int .i64 c) := by rw [HIq.out q hqi, hc]
            have hcl : (c : Int) < ts.length := by omega
            have HC : Hid (ks.getD q 0 = c) := hc
            have hq3 : q < 3 := by omega
            obtain ⟨vs, hvl, hvr, hvs⟩ := HSq.out
            have t := (HA.out.below hbq (fun h => HA.out.lt h)) i hin
            rw [HX.out] at t
            have q0 : wr.cell? ⟨g, i * 7, none⟩ = some (.int .i64 x0) := t.c0
            have q1 : wr.cell? ⟨g, i * 7 + 1, none⟩ = some (.int .i64 x1) := t.c1
            have q2 : wr.cell? ⟨g, i * 7 + 2, none⟩ = some (.int .i64 x2) := t.c2
            have q3 : wr.cell? ⟨g, i * 7 + 3, none⟩ = some (.int .i64 x3) := t.c3
            have q4 : wr.cell? ⟨g, i * 7 + 4, none⟩ = some (.int .i64 x4) := t.c4
            have q5 : wr.cell? ⟨g, i * 7 + 5, none⟩ = some (.string x5) := t.c5
            have q6 : wr.cell? ⟨g, i * 7 + 6, none⟩ = some (.string x6) := t.c6
            have hnot : hasI (ks.take q) i = false := by
              rw [← Bool.not_eq_true]
              intro hh
              unfold hasI at hh
              rw [List.contains_iff_mem] at hh
              obtain ⟨j, hj, hje⟩ := List.getElem_of_mem (List.mem_of_mem_take hh)
              obtain ⟨c', hc', hci'⟩ := HKL.out j hj
              have : ks.getD j 0 = (i : Int) := by simp [List.getD, hj, hje]
              omega
            obtain ⟨l, hsl, hll⟩ := hvs i (by omega) (by
              by_cases hml : i + 1 = ts.length
              · exact Or.inl hml
              · obtain ⟨p, p1, p2, p3⟩ := HH.out i (by omega)
                exact Or.inr (Or.inl (parU_some ts i p p2 p3 _ (by omega) (by omega))))
            have hlb : ∀ s, lookL l s = scB ts i s := fun s => by
              rw [hll, kidF, if_neg (by rw [hnot]; exact Bool.false_ne_true)]
              exact scU_whole HO.out i _ hin (by omega) (by omega) s
            have HLL : Hid (∀ s, lookL (kidS ⟨x0, x1, x2, x3, x4, x5, x6⟩ i l (rolN x0 q)) s = match lookR s (bndL (ts.getD i noNod) c) with | some r => ((i : Int), r) | none => scB ts i s) := fun s => by
              have h1 := HBL.out q hqi
              rw [hc] at h1
              rw [HX.out, h1, kidS_look _ _ _ _ (rolN_le x0 q) s]
              show (match lookR s (rolL ⟨x0, x1, x2, x3, x4, x5, x6⟩ (rolN x0 q)) with | some r => ((i : Int), r) | none => lookL l s) = _
              split
              · rfl
              · exact hlb s
            obtain ⟨F, cf, hv, _, _⟩ := sc_call G wr l _ hsl
            have gi := scRow_cell hvr i (by omega)
            rw [hv] at gi hsl
            have HSL : Hid (ScL G wr l (.func (.func F) #[] cf)) := hsl
            have HVL : Hid (vs.length = ts.length) := hvl
            have HVR : Hid (wr.heap[G]? = some (.cells vs.toArray 70 (0, 0))) := hvr
            have HVS : Hid (ScG G wr (kidC ts (ts.length - (i + 1)) (ks.take q)) (kidF ts (ts.length - (i + 1)) i (ks.take q)) vs) := hvs
            have HBQ : Hid (Below w.heap.size w wr) := hbq
            have sq := hbq.size
            clear t hll hlb hsl hv hvl hvr hvs hnot hc HSq hbq
            go_wp2
            go_region_law (refine step_call rfl 65 #[.tmp 41, .tmp 45, .tmp 46, .tmp 47] #[70, 52, 3, 3] rfl #[.func (.func F) #[] cf, .agg #[.int .i64 x0, .int .i64 x1, .int .i64 x2, .int .i64 x3, .int .i64 x4, .string x5, .string x6], .int .i64 i, .int .i64 q] (by simp [Act.eval]) Try.func65 ik_name ik_body _ (impl_inKid G _ l x0 x1 x2 x3 x4 x5 x6 i q hq3 _ HSL.out.drew (by show G < wr.heap.size; omega)) ?_; rintro e w3 ⟨v3, rfl, hs3, b3⟩; have b3' : Below wr.heap.size wr w3 := (Below.refl _ wr).drew.trans b3; obtain ⟨F3, cap3, rfl, _, _⟩ := sc_call G w3 _ _ hs3; have HS3 : Hid (ScL G w3 (kidS ⟨x0, x1, x2, x3, x4, x5, x6⟩ i l (rolN x0 q)) (.func (.func F3) #[] cap3)) := hs3; have HB3 : Hid (Below wr.heap.size wr w3) := b3'; have r3 : w3.heap[G]? = some (.cells vs.toArray 70 (0, 0)) := (b3'.block G (by omega)).trans HVR.out; have c3 := scRow_cell r3 c (by have := HVL.out; omega); have f3 : w3.frozen? ⟨G, c, none⟩ = false := frozen_of_row w3 _ _ _ _ r3; have HR3 : Hid (w3.heap[G]? = some (.cells vs.toArray 70 (0, 0))) := r3; clear b3 b3' hs3 r3; refine ⟨_, rfl, ?_⟩)
            all_goals
              have HF4 : Hid (∃ vs', vs'.length = ts.length ∧ (w3.setCell ⟨G, c, none⟩ (.func (.func F3) #[] cap3)).heap[G]? = some (.cells vs'.toArray 70 (0, 0)) ∧ ScG G (w3.setCell ⟨G, c, none⟩ (.func (.func F3) #[] cap3)) (kidC ts (ts.length - (i + 1)) (ks.take (q + 1))) (kidF ts (ts.length - (i + 1)) i (ks.take (q + 1))) vs') :=
                ⟨vs.set c (.func (.func F3) #[] cap3), by rw [List.length_set]; exact HVL.out, scRow_set HR3.out c _, ScG.step hqi HC.out (by have := HVL.out; omega) (HVS.out.kept (Kept.of_below HB3.out)) HS3.out HLL.out⟩
              have HB4 : Hid (Below w.heap.size w (w3.setCell ⟨G, c, none⟩ (.func (.func F3) #[] cap3))) := (HBQ.out.trans (HB3.out.mono sq)).setCell (p := ⟨G, c, none⟩) s1 _
              have HI4 : Hid (IntAt (w3.setCell ⟨G, c, none⟩ (.func (.func F3) #[] cap3)) K ks) := fun j hj => by
                rw [World.cell?_of_block ((heap_setCell_other w3 ⟨G, c, none⟩ K _ (by show K ≠ G; omega)).trans (HB3.out.block K (nod_lt (HIq.out j hj))))]
                exact HIq.out j hj
              have hs4 : (w3.setCell ⟨G, c, none⟩ (.func (.func F3) #[] cap3)).heap.size = w3.heap.size := by simp
              have s3 := HB3.out.size
              clear HS3 HB3 HR3 c3 f3 q0 q1 q2 q3 q4 q5 q6 gi kc
              generalize w3.setCell ⟨G, c, none⟩ (.func (.func F3) #[] cap3) = w4 at *
              go_wp2
              go_roundw
              case rel => exact ⟨q + 1, by omega, by go_num, HI4, HF4, HB4.out, by omega⟩
              case measure => simp [intOf]; omega
          · obtain rfl : q = ks.length := by omega
            have HNX : Hid (∃ vs, vs.length = ts.length ∧ wr.heap[G]? = some (.cells vs.toArray 70 (0, 0)) ∧ ScG G wr (fun m => m + 1 = ts.length ∨ 0 ≤ parU ts m (ts.length - i)) (fun m => scU ts (ts.length - i) m) vs) := by
              obtain ⟨vs, h1, h2, h3⟩ := HSq.out
              rw [List.take_length] at h3
              exact ⟨vs, h1, h2, h3.to (fun m hm hc => (HTN.out m).1.2 hc) (fun m hm hc s => (HTN.out m).2 s)⟩
            clear HSq HIq
            go_wp2
            go_roundw
            case rel => exact ⟨i, by omega, by go_num, HNX, hbq⟩
            case measure => simp [intOf]
  · have HV : Hid (nodesB ts = false) := by show nodesB ts = false; simpa using hok
    clear hok
    go_enter Try.func51, Try.ntmps51
    go_wp2_with fail
    refine (impl_nodes _ g cap ts hne hl HT.out w HA.out).mono ?_
    rintro e w1 ⟨rfl, hb1⟩
    rw [HV.out]
    go_wp2
    go_ret
    exact ⟨by unfold ScEnd; rw [HV.out]; rfl, hb1⟩
end Go.Proofs.Ytcpafjpjfinbkaa
