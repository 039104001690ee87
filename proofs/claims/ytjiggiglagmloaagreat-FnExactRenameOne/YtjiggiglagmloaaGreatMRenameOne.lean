/-
  For every list of nodes, every binder and every text: FnExactRenameOne answers true, and its arguments read as before: RenameOne answers as the specification does, writes into no argument, and its answer owns its memory, behind another call too. No condition.
-/
import Derived.Test.YtjiggiglagmloaaGreatKc
import Derived.Test.YtjiggiglagmloaaGreatKd
import Derived.ChangeOld
namespace Go.Proofs.YtjiggiglagmloaaGreat.fnExactRenameOne
open Go.ChangeShapes Go.WideShapes Go.ChangeAt Go.RowKit
open Go.ChangeMaps (open_string shut_string)
set_option linter.unusedVariables false

theorem own : ownKnob Tryz.prog.godebug = none := by kernel_rfl
theorem laidOut : laidOutB Tryz.prog = true := by kernel_rfl

/-- What is asked of RenameOne as it landed. -/
def Asked : Prop := ∀ (g cap : Nat) (ts : List Nod) (n r : Int) (s : ByteArray), ts.length ≤ 1048576 → s.size ≤ maxLen →
  (∀ i, i < ts.length → (ts.getD i noNod).name.size ≤ maxLen ∧ (ts.getD i noNod).other.size ≤ maxLen) → (∀ i, i < ts.length → (ts.getD i noNod).name.size ≤ 281474976710656 ∧ (ts.getD i noNod).other.size ≤ 281474976710656) → ∀ (w : World), NodAt w g ts →
    Calls Tryz.prog 11 #[.slice (some ⟨g, 0, none⟩) ts.length cap, .agg #[.int .i64 n, .int .i64 r], .string s] w (RenEnd w ts (renB ts n r s))

/-- The same with the list told apart. -/
def RenEnd3 (w : World) (ps : List Nod) (zb : Bool) (e : Ending) (w' : World) : Prop := ∃ v, e = .returned (.tuple #[v, .bool zb]) ∧ ownNod w' w.heap.size v ps ∧ Below w.heap.size w w'

theorem end3 {w : World} {ts ps : List Nod} {zb : Bool} {n r : Int} {s : ByteArray} (h : renB ts n r s = (ps, zb)) {e : Ending} {w' : World} (he : RenEnd w ts (renB ts n r s) e w') : RenEnd3 w ps zb e w' := by
  obtain ⟨G, c, h1, h2, h3⟩ := he
  rw [h] at h1 h2
  exact ⟨_, h1, h2.own, h3⟩

theorem lens_each (ts : List Nod) : ∀ k, k ≤ ts.length → ∀ i, i < k → (ts.getD i noNod).name.size ≤ nodLens ts k ∧ (ts.getD i noNod).other.size ≤ nodLens ts k
  | 0, _, i, h => by omega
  | k + 1, hk, i, h => by
    have e : nodLens ts (k + 1) = nodLens ts k + nodSz (ts.getD k noNod) := rfl
    by_cases hi : i = k
    · subst hi
      rw [e]
      unfold nodSz
      omega
    · have := lens_each ts k (by omega) i (by omega)
      omega

theorem tn_name : (Tryz.f22.name == "runtime.NumGoroutine") = false := by kernel_rfl
theorem tn_body : Tryz.f22.body.isNone = false := by kernel_rfl
theorem tb_name : (Tryz.f28.name == "runtime.NumGoroutine") = false := by kernel_rfl
theorem tb_body : Tryz.f28.body.isNone = false := by kernel_rfl
theorem su_name : (Tryz.f27.name == "runtime.NumGoroutine") = false := by kernel_rfl
theorem su_body : Tryz.f27.body.isNone = false := by kernel_rfl
theorem iu_name : (Tryz.f11.name == "runtime.NumGoroutine") = false := by kernel_rfl
theorem iu_body : Tryz.f11.body.isNone = false := by kernel_rfl

set_option maxHeartbeats 8000000 in
set_option maxRecDepth 20000 in
theorem walk (impl_rename0 : Asked) (a : Option Addr) (b o cap : Nat) (ts : List Nod) (n r : Int) (s : ByteArray) (hss : s.size ≤ maxLen) (hne : 0 < ts.length → a = some ⟨b, o, none⟩) (hm : ts.length ≤ maxLen)
    (hst : ∀ i, i < ts.length → (ts.getD i noNod).name.size ≤ maxLen ∧ (ts.getD i noNod).other.size ≤ maxLen) (w : World) (hA : ANods w b o ts) :
    Calls Tryz.prog 6 #[.slice a ts.length cap, .agg #[.int .i64 n, .int .i64 r], .string s] w fun e w' => e = .returned (.bool true) ∧ Below w.heap.size w w' := by
  have HA : Hid (ANods w b o ts) := hA
  have HT : Hid (∀ i, i < ts.length → (ts.getD i noNod).name.size ≤ maxLen ∧ (ts.getD i noNod).other.size ≤ maxLen) := hst
  have HI : Hid Asked := impl_rename0
  obtain ⟨wb, hwb⟩ : ∃ wb, w.alloc (.cells #[.int .i64 n, .int .i64 r] 49) = wb := ⟨_, rfl⟩
  have HWB : Hid (w.alloc (.cells #[.int .i64 n, .int .i64 r] 49) = wb) := hwb
  have RB : Hid (wb.heap[w.heap.size]? = some (.cells #[.int .i64 n, .int .i64 r] 49 (0, 0))) := by show wb.heap[w.heap.size]? = _; rw [← hwb]; exact (MapKept.heap_alloc w _).1
  have BB : Hid (Below w.heap.size w wb) := by show Below w.heap.size w wb; rw [← hwb]; exact (Below.refl _ w).alloc (Nat.le_refl _) _
  have HSB : Hid (wb.heap.size = w.heap.size + 1) := by show wb.heap.size = _; rw [← hwb]; simp
  have AB : Hid (ANods wb b o ts) := HA.out.below BB.out (fun h => HA.out.lt h)
  clear hA hst impl_rename0 hwb
  by_cases hbig : (1048576 : Int) < s.size
  · have HBB : Hid (_) := BB
    clear HWB RB BB AB
    go_enter Tryz.func6, Tryz.ntmps6
    go_wp2
    go_ret
    exact ⟨rfl, (Below.refl _ w).alloc (Nat.le_refl _) _⟩
  go_enter Tryz.func6, Tryz.ntmps6
  go_wp2_with fail
  rw [HWB.out]
  refine (nod_sz_row a b o cap ts hne hm 1048576 (by omega) (by omega) HT.out wb AB.out).mono ?_
  rintro e w1 ⟨⟨r0, rfl, hr⟩, b1⟩
  have s1 : w.heap.size < w1.heap.size := by have := b1.size; have := HSB.out; omega
  have B1 : Hid (Below w.heap.size w w1) := BB.out.trans (b1.mono (by have := HSB.out; omega))
  have R1 : Hid (w1.heap[w.heap.size]? = some (.cells #[.int .i64 n, .int .i64 r] 49 (0, 0))) := (b1.block _ (by have := HSB.out; omega)).trans RB.out
  clear b1 HWB RB BB HSB AB
  by_cases hneg : r0 < 0
  · clear hr
    go_wp2
    go_ret
    exact ⟨rfl, B1.out⟩
  · have hz := hr (by omega)
    have HZ : Hid (ts.length ≤ 1048576) := by show ts.length ≤ 1048576; omega
    have HSM : Hid (∀ i, i < ts.length → (ts.getD i noNod).name.size ≤ 281474976710656 ∧ (ts.getD i noNod).other.size ≤ 281474976710656) := fun i hi => by have := lens_each ts ts.length (Nat.le_refl _) i hi; omega
    obtain ⟨ps, zb, hps⟩ : ∃ ps zb, renB ts n r s = (ps, zb) := ⟨_, _, rfl⟩
    have HPS : Hid (renB ts n r s = (ps, zb)) := hps
    have hpl0 : ps.length = ts.length := by have := renB_length ts n r s; rw [hps] at this; exact this
    have hpl : ps.length ≤ 1048576 := by omega
    clear hr hz hm hps hpl0
    have HTN : Hid (∀ W : World, Below w.heap.size w W → Calls Tryz.prog 22 #[.slice a ts.length cap] W fun e w' => e = .returned (.slice (some ⟨W.heap.size, 0, none⟩) ts.length ts.length) ∧ w'.heap[W.heap.size]? = some (.cells (ts.flatMap nodCells).toArray 38 (0, 0)) ∧ Below W.heap.size W w') := fun W hW =>
      nod_to_row a b o cap ts hne HZ.out W (HA.out.below hW (fun h => HA.out.lt h))
    have HIU : Hid (∀ (g : Nat) (W : World), NodAt W g ts → Calls Tryz.prog 11 #[.slice (some ⟨g, 0, none⟩) ts.length ts.length, .agg #[.int .i64 n, .int .i64 r], .string s] W (RenEnd3 W ps zb)) := fun g W h => (HI.out g ts.length ts n r s HZ.out hss HT.out HSM.out W h).mono fun e w' he => end3 HPS.out he
    have HSU : Hid (∀ (g : Nat) (W : World), NodAt W g ts → Calls Tryz.prog 27 #[.slice (some ⟨g, 0, none⟩) ts.length ts.length, .agg #[.int .i64 n, .int .i64 r], .string s] W (RenEnd3 W ps zb)) := fun g W h => (spec_rename g ts.length ts n r s HZ.out hss HT.out W h).mono fun e w' he => end3 HPS.out he
    have HXB : Hid (∀ W : World, Below w.heap.size w W → True → True ∧ True) := fun _ _ _ => ⟨trivial, trivial⟩
    clear HXB
    have HXB : Hid (∀ W : World, Below w1.heap.size w1 W → W.cell? ⟨w.heap.size, 0, none⟩ = some (.int .i64 n) ∧ W.cell? ⟨w.heap.size, 1, none⟩ = some (.int .i64 r)) := fun W h => ⟨(row2_cells ((h.block _ s1).trans R1.out)).1, (row2_cells ((h.block _ s1).trans R1.out)).2.1⟩
    obtain ⟨k0, k1⟩ := HXB.out w1 (Below.refl _ _)
    go_wp2
    go_region_law (first
      | (refine step_call rfl 22 #[.tmp 27] #[43] rfl #[.slice a ts.length cap] (by simp [Act.eval, Act.put]) Tryz.func22 tn_name tn_body _ (HTN.out w1.drew B1.out.drew) ?_; rintro e wA ⟨rfl, hgA, bA⟩; have bA' : Below w1.heap.size w1 wA := (Below.refl _ w1).drew.trans bA; have sA := bA'.size; obtain ⟨kA0, kA1⟩ := HXB.out wA ((bA'.mono (by omega))); have NA : Hid (wA.heap[w1.heap.size]? = some (.cells (ts.flatMap nodCells).toArray 38 (0, 0))) := hgA; have LA : w1.heap.size < wA.heap.size := (Array.getElem?_eq_some_iff.1 hgA).1; have HWA : Hid (Below w1.heap.size w1 wA) := bA'; clear hgA bA bA'; refine ⟨_, rfl, ?_⟩)
      | (refine step_call rfl 28 #[.tmp 29] #[49] rfl #[.agg #[.int .i64 n, .int .i64 r]] (by simp [Act.eval, Act.put]) Tryz.func28 tb_name tb_body _ (bnd_to n r w1.drew) ?_; rintro e wB ⟨rfl, bB⟩; have bB' : Below w1.heap.size w1 wB := (Below.refl _ w1).drew.trans bB; have sB := bB'.size; have BBB : Hid (Below w.heap.size w wB) := B1.out.trans (bB'.mono (by omega)); have HWB : Hid (Below w1.heap.size w1 wB) := bB'; clear bB bB'; refine ⟨_, rfl, ?_⟩)
      | (refine step_call rfl 28 #[.tmp 29] #[49] rfl #[.agg #[.int .i64 n, .int .i64 r]] (by simp [Act.eval]) Tryz.func28 tb_name tb_body _ (bnd_to n r wA) ?_; rintro e wC ⟨rfl, bC⟩; have sC := bC.size; have NC : Hid (wC.heap[w1.heap.size]? = some (.cells (ts.flatMap nodCells).toArray 38 (0, 0))) := (bC.block _ (by omega)).trans NA.out; have HWC : Hid (Below w1.heap.size w1 wC) := HWA.out.trans (bC.mono (by omega)); clear bC kA0 kA1; refine ⟨_, rfl, ?_⟩)
      | (refine step_call rfl 22 #[.tmp 27] #[43] rfl #[.slice a ts.length cap] (by simp [Act.eval, Act.put]) Tryz.func22 tn_name tn_body _ (HTN.out wB BBB.out) ?_; rintro e wD ⟨rfl, hgD, bD⟩; have sD := bD.size; have ND : Hid (wD.heap[wB.heap.size]? = some (.cells (ts.flatMap nodCells).toArray 38 (0, 0))) := hgD; have HWD : Hid (Below w1.heap.size w1 wD) := HWB.out.trans (bD.mono (by omega)); clear hgD bD; refine ⟨_, rfl, ?_⟩)
      | (refine step_call rfl 27 #[.tmp 28, .tmp 30, .tmp 31] #[24, 32, 9] rfl #[.slice (some ⟨w1.heap.size, 0, none⟩) ts.length ts.length, .agg #[.int .i64 n, .int .i64 r], .string s] (by first | (simp [Act.eval]; done) | simp [Act.eval, Act.put]) Tryz.func27 su_name su_body _ (HSU.out w1.heap.size wC (nod_of_room NC.out)) ?_; rintro e w3 ⟨v3, rfl, ho3, b3⟩; have HWx := HWC; have x3B : Hid (Below w1.heap.size w1 w3) := HWx.out.trans (b3.mono (by omega)); have x3O : Hid (ownNod w3 w1.heap.size v3 ps) := ownNod_base ho3 (by omega); clear ho3 b3 HWx; refine ⟨_, rfl, ?_⟩)
      | (refine step_call rfl 27 #[.tmp 28, .tmp 30, .tmp 31] #[24, 32, 9] rfl #[.slice (some ⟨wB.heap.size, 0, none⟩) ts.length ts.length, .agg #[.int .i64 n, .int .i64 r], .string s] (by first | (simp [Act.eval]; done) | simp [Act.eval, Act.put]) Tryz.func27 su_name su_body _ (HSU.out wB.heap.size wD (nod_of_room ND.out)) ?_; rintro e w3 ⟨v3, rfl, ho3, b3⟩; have HWx := HWD; have x3B : Hid (Below w1.heap.size w1 w3) := HWx.out.trans (b3.mono (by omega)); have x3O : Hid (ownNod w3 w1.heap.size v3 ps) := ownNod_base ho3 (by omega); clear ho3 b3 HWx; refine ⟨_, rfl, ?_⟩))
    all_goals
      clear k0 k1
      have B3 : Hid (Below w.heap.size w w3) := B1.out.trans (x3B.out.mono (by omega))
      have s3 := x3B.out.size
      obtain ⟨a3, g3, c3, sp3, rfl, ha3, _, hB3, _, hr3⟩ := ownNod_form x3O.out
      have LA3 : Hid (0 < ps.length → a3 = some ⟨g3, 0, none⟩) := ha3
      have LG3 : Hid (0 < ps.length → g3 < w3.heap.size) := fun h => (Array.getElem?_eq_some_iff.1 (hr3 h)).1
      have P3 : Hid (NodAt w3 g3 ps) := fun i hi => nod_of_row (hr3 (by omega)) i hi
      clear ha3 hB3 hr3 x3O
      have X3 : Hid (Below w1.heap.size w1 w3) := x3B.out
      clear x3B
      go_wp2_with fail
      refine (HTN.out w3 B3.out).mono ?_
      rintro e w4 ⟨rfl, hg4, b4⟩
      have s4 := b4.size
      have R4 : Hid (w4.heap[w3.heap.size]? = some (.cells (ts.flatMap nodCells).toArray 38 (0, 0))) := hg4
      have L4 : w3.heap.size < w4.heap.size := (Array.getElem?_eq_some_iff.1 hg4).1
      have B4 : Hid (Below w.heap.size w w4) := B3.out.trans (b4.mono (by omega))
      have X4 : Hid (Below w1.heap.size w1 w4) := X3.out.trans (b4.mono (by omega))
      have P4 : Hid (NodAt w4 g3 ps) := P3.out.below b4 LG3.out
      obtain ⟨k0, k1⟩ := HXB.out w4 X4.out
      clear hg4 b4 P3
      go_wp2_with fail
      refine (bnd_to n r w4).mono ?_
      rintro e w4b ⟨rfl, b4b⟩
      have s4b := b4b.size
      have R4b : Hid (w4b.heap[w3.heap.size]? = some (.cells (ts.flatMap nodCells).toArray 38 (0, 0))) := (b4b.block _ L4).trans R4.out
      have B4b : Hid (Below w.heap.size w w4b) := B4.out.trans (b4b.mono (by omega))
      have X4b : Hid (Below w1.heap.size w1 w4b) := X4.out.trans (b4b.mono (by omega))
      have P4b : Hid (NodAt w4b g3 ps) := P4.out.below b4b (fun h => by have := LG3.out h; omega)
      clear b4b P4 R4 B4 X4 k0 k1
      go_wp2_with fail
      refine (HIU.out w3.heap.size w4b (nod_of_room R4b.out)).mono ?_
      rintro e w5 ⟨v5, rfl, ho5, b5⟩
      have s5 := b5.size
      have R5 : Hid (w5.heap[w3.heap.size]? = some (.cells (ts.flatMap nodCells).toArray 38 (0, 0))) := (b5.block _ (by omega)).trans R4b.out
      have B5 : Hid (Below w.heap.size w w5) := B4b.out.trans (b5.mono (by omega))
      have X5 : Hid (Below w1.heap.size w1 w5) := X4b.out.trans (b5.mono (by omega))
      have P5 : Hid (NodAt w5 g3 ps) := P4b.out.below b5 (fun h => by have := LG3.out h; omega)
      obtain ⟨a5, g5, c5, sp5, rfl, ha5, _, hB5, _, hr5⟩ := ownNod_form ho5
      have LA5 : Hid (0 < ps.length → a5 = some ⟨g5, 0, none⟩) := ha5
      have LG5 : Hid (0 < ps.length → g5 < w5.heap.size) := fun h => (Array.getElem?_eq_some_iff.1 (hr5 h)).1
      have RQ5 : Hid (0 < ps.length → w5.heap[g5]? = some (.cells (ps.flatMap nodCells ++ sp5).toArray 38 (0, 0))) := hr5
      have hB5' : w4b.heap.size ≤ g5 := hB5
      clear ho5 ha5 hr5 b5 P4b R4b B4b X4b hB5
      go_wp2_with fail
      refine (nod_eq_row a5 a3 g5 g3 c5 c3 ps (by omega) LA5.out LA3.out w5 (fun i hi => nod_of_row (RQ5.out (by omega)) i hi) P5.out).mono ?_
      rintro e w6 ⟨rfl, b6⟩
      have s6 := b6.size
      have B6 : Hid (Below w.heap.size w w6) := B5.out.trans (b6.mono (by omega))
      have X6 : Hid (Below w1.heap.size w1 w6) := X5.out.trans (b6.mono (by omega))
      have R6 : Hid (w6.heap[w3.heap.size]? = some (.cells (ts.flatMap nodCells).toArray 38 (0, 0))) := (b6.block _ (by omega)).trans R5.out
      have P6 : Hid (NodAt w6 g3 ps) := P5.out.below b6 (fun h => by have := LG3.out h; omega)
      have RQ6 : Hid (0 < ps.length → w6.heap[g5]? = some (.cells (ps.flatMap nodCells ++ sp5).toArray 38 (0, 0))) := fun h => (b6.block _ (LG5.out h)).trans (RQ5.out h)
      clear b6 P5 R5 RQ5 B5 X5
      go_wp2_with fail
      refine (HTN.out w6 B6.out).mono ?_
      rintro e w7 ⟨rfl, hg7, b7⟩
      have s7 := b7.size
      have G7 : Hid (NodAt w7 w6.heap.size ts) := nod_of_room hg7
      have R7 : Hid (w7.heap[w3.heap.size]? = some (.cells (ts.flatMap nodCells).toArray 38 (0, 0))) := (b7.block _ (by omega)).trans R6.out
      have B7 : Hid (Below w.heap.size w w7) := B6.out.trans (b7.mono (by omega))
      have X7 : Hid (Below w1.heap.size w1 w7) := X6.out.trans (b7.mono (by omega))
      have P7 : Hid (NodAt w7 g3 ps) := P6.out.below b7 (fun h => by have := LG3.out h; omega)
      have RQ7 : Hid (0 < ps.length → w7.heap[g5]? = some (.cells (ps.flatMap nodCells ++ sp5).toArray 38 (0, 0))) := fun h => (b7.block _ (by have := LG5.out h; omega)).trans (RQ6.out h)
      clear hg7 b7 P6 R6 RQ6 B6 X6
      go_wp2_with fail
      refine (nod_eq_row _ _ w3.heap.size w6.heap.size ts.length ts.length ts HZ.out (fun _ => rfl) (fun _ => rfl) w7 (nod_of_room R7.out) G7.out).mono ?_
      rintro e w8 ⟨rfl, b8⟩
      have s8 := b8.size
      have R8 : Hid (0 < ts.length → w8.heap[w3.heap.size]? = some (.cells (ts.flatMap nodCells ++ []).toArray 38 (0, 0))) := fun _ => by rw [List.append_nil]; exact (b8.block _ (by omega)).trans R7.out
      have B8 : Hid (Below w.heap.size w w8) := B7.out.trans (b8.mono (by omega))
      have X8 : Hid (Below w1.heap.size w1 w8) := X7.out.trans (b8.mono (by omega))
      have P8 : Hid (NodAt w8 g3 ps) := P7.out.below b8 (fun h => by have := LG3.out h; omega)
      have RQ8 : Hid (0 < ps.length → w8.heap[g5]? = some (.cells (ps.flatMap nodCells ++ sp5).toArray 38 (0, 0))) := fun h => (b8.block _ (by have := LG5.out h; omega)).trans (RQ7.out h)
      clear b8 P7 R7 RQ7 G7 B7 X7
      go_wp2_with fail
      refine (nod_mark_row _ w3.heap.size ts.length w3.heap.size ts [] HZ.out (fun _ => rfl) w8 R8.out (Nat.le_refl _) (by omega)).mono ?_
      rintro e w9 ⟨rfl, hr9, b9, t9⟩
      have s9 := t9.1
      have B9 : Hid (Below w.heap.size w w9) := B8.out.trans (b9.mono (by omega))
      have X9 : Hid (Below w1.heap.size w1 w9) := X8.out.trans (b9.mono (by omega))
      have P9 : Hid (NodAt w9 g3 ps) := P8.out.below b9 LG3.out
      have RQ9 : Hid (0 < ps.length → w9.heap[g5]? = some (.cells (ps.flatMap nodCells ++ sp5).toArray 38 (0, 0))) := fun h => (t9.2 g5 (by have := LG5.out h; omega) (by omega)).trans (RQ8.out h)
      have hpos : ¬ ((1 + 7 * ts.length : Nat) : Int) < 0 := by omega
      clear hr9 b9 t9 P8 R8 RQ8 B8 X8
      go_wp2_with fail
      refine (nod_eq_row a5 a3 g5 g3 c5 c3 ps (by omega) LA5.out LA3.out w9 (fun i hi => nod_of_row (RQ9.out (by omega)) i hi) P9.out).mono ?_
      rintro e w10 ⟨rfl, b10⟩
      have s10 := b10.size
      have B10 : Hid (Below w.heap.size w w10) := B9.out.trans (b10.mono (by omega))
      have X10 : Hid (Below w1.heap.size w1 w10) := X9.out.trans (b10.mono (by omega))
      have P10 : Hid (NodAt w10 g3 ps) := P9.out.below b10 (fun h => by have := LG3.out h; omega)
      have RQ10 : Hid (0 < ps.length → w10.heap[g5]? = some (.cells (ps.flatMap nodCells ++ sp5).toArray 38 (0, 0))) := fun h => (b10.block _ (by have := LG5.out h; omega)).trans (RQ9.out h)
      clear b10 P9 RQ9 hpos B9 X9
      go_wp2_with fail
      refine (nod_mark_row a5 g5 c5 w4b.heap.size ps sp5 (by omega) LA5.out w10 RQ10.out hB5' (by omega)).mono ?_
      rintro e w11 ⟨rfl, hr11, b11, t11⟩
      have s11 := t11.1
      have B11 : Hid (Below w.heap.size w w11) := B10.out.trans (b11.mono (by omega))
      have X11 : Hid (Below w1.heap.size w1 w11) := X10.out.trans (b11.mono (by omega))
      have P11 : Hid (NodAt w11 g3 ps) := P10.out.below b11 (fun h => by have := LG3.out h; omega)
      have ml : (nodMkd ps 1 ps.length).length = ps.length := nodMkd_length ps 1 ps.length
      have M11 : Hid (NodAt w11 g5 (nodMkd ps 1 ps.length)) := fun i hi => nod_of_row (hr11 (by rw [ml] at hi; omega)) i hi
      have HM : Hid (∀ i, i < (nodMkd ps 1 ps.length).length → (nodMkd ps 1 ps.length).getD i noNod = nodMark (1 + 7 * i)) := fun i hi => nodMkd_at ps 1 ps.length i (by rw [ml] at hi; exact hi) (by rw [ml] at hi; exact hi)
      have ML : Hid ((nodMkd ps 1 ps.length).length = ps.length) := ml
      clear hr11 b11 t11 P10 RQ10 ml B10 X10
      go_wp2_with fail
      refine (nod_held_row a5 g5 c5 ps.length (nodMkd ps 1 ps.length) ML.out (by omega) LA5.out w11 M11.out HM.out).mono ?_
      rintro e w12 ⟨rfl, b12⟩
      have s12 := b12.size
      have B12 : Hid (Below w.heap.size w w12) := B11.out.trans (b12.mono (by omega))
      have X12 : Hid (Below w1.heap.size w1 w12) := X11.out.trans (b12.mono (by omega))
      have P12 : Hid (NodAt w12 g3 ps) := P11.out.below b12 (fun h => by have := LG3.out h; omega)
      have M12 : Hid (NodAt w12 g5 (nodMkd ps 1 ps.length)) := M11.out.below b12 (fun h => by rw [ML.out] at h; have := LG5.out h; omega)
      have hpos : ¬ ((1 + 7 * ps.length : Nat) : Int) < 0 := by omega
      obtain ⟨k0, k1⟩ := HXB.out w12 X12.out
      clear b12 P11 M11 B11 X11
      go_wp2
      go_region_law (first
        | (refine step_call rfl 22 #[.tmp 87] #[43] rfl #[.slice a ts.length cap] (by simp [Act.eval, Act.put]) Tryz.func22 tn_name tn_body _ (HTN.out w12.drew B12.out.drew) ?_; rintro e wAq ⟨rfl, hgA, bA⟩; have bA' : Below w12.heap.size w12 wAq := (Below.refl _ w12).drew.trans bA; have sAq := bA'.size; obtain ⟨kA0, kA1⟩ := HXB.out wAq (X12.out.trans (bA'.mono (by omega))); have NAq : Hid (wAq.heap[w12.heap.size]? = some (.cells (ts.flatMap nodCells).toArray 38 (0, 0))) := hgA; have LAq : w12.heap.size < wAq.heap.size := (Array.getElem?_eq_some_iff.1 hgA).1; have HWAq : Hid (Below w12.heap.size w12 wAq) := bA'; clear hgA bA bA'; refine ⟨_, rfl, ?_⟩)
        | (refine step_call rfl 28 #[.tmp 89] #[49] rfl #[.agg #[.int .i64 n, .int .i64 r]] (by simp [Act.eval, Act.put]) Tryz.func28 tb_name tb_body _ (bnd_to n r w12.drew) ?_; rintro e wBq ⟨rfl, bB⟩; have bB' : Below w12.heap.size w12 wBq := (Below.refl _ w12).drew.trans bB; have sBq := bB'.size; have BBBq : Hid (Below w.heap.size w wBq) := B12.out.trans (bB'.mono (by omega)); have HWBq : Hid (Below w12.heap.size w12 wBq) := bB'; clear bB bB'; refine ⟨_, rfl, ?_⟩)
        | (refine step_call rfl 28 #[.tmp 89] #[49] rfl #[.agg #[.int .i64 n, .int .i64 r]] (by simp [Act.eval]) Tryz.func28 tb_name tb_body _ (bnd_to n r wAq) ?_; rintro e wCq ⟨rfl, bC⟩; have sCq := bC.size; have NCq : Hid (wCq.heap[w12.heap.size]? = some (.cells (ts.flatMap nodCells).toArray 38 (0, 0))) := (bC.block _ (by omega)).trans NAq.out; have HWCq : Hid (Below w12.heap.size w12 wCq) := HWAq.out.trans (bC.mono (by omega)); clear bC kA0 kA1; refine ⟨_, rfl, ?_⟩)
        | (refine step_call rfl 22 #[.tmp 87] #[43] rfl #[.slice a ts.length cap] (by simp [Act.eval, Act.put]) Tryz.func22 tn_name tn_body _ (HTN.out wBq BBBq.out) ?_; rintro e wDq ⟨rfl, hgD, bD⟩; have sDq := bD.size; have NDq : Hid (wDq.heap[wBq.heap.size]? = some (.cells (ts.flatMap nodCells).toArray 38 (0, 0))) := hgD; have HWDq : Hid (Below w12.heap.size w12 wDq) := HWBq.out.trans (bD.mono (by omega)); clear hgD bD; refine ⟨_, rfl, ?_⟩)
        | (refine step_call rfl 11 #[.tmp 88, .tmp 90, .tmp 91] #[24, 32, 9] rfl #[.slice (some ⟨w12.heap.size, 0, none⟩) ts.length ts.length, .agg #[.int .i64 n, .int .i64 r], .string s] (by first | (simp [Act.eval]; done) | simp [Act.eval, Act.put]) Tryz.func11 iu_name iu_body _ (HIU.out w12.heap.size wCq (nod_of_room NCq.out)) ?_; rintro e w14 ⟨v14, rfl, ho14, b14⟩; have HWx := HWCq; have x14B : Hid (Below w12.heap.size w12 w14) := HWx.out.trans (b14.mono (by omega)); have x14O : Hid (ownNod w14 w12.heap.size v14 ps) := ownNod_base ho14 (by omega); clear ho14 b14 HWx; refine ⟨_, rfl, ?_⟩)
        | (refine step_call rfl 11 #[.tmp 88, .tmp 90, .tmp 91] #[24, 32, 9] rfl #[.slice (some ⟨wBq.heap.size, 0, none⟩) ts.length ts.length, .agg #[.int .i64 n, .int .i64 r], .string s] (by first | (simp [Act.eval]; done) | simp [Act.eval, Act.put]) Tryz.func11 iu_name iu_body _ (HIU.out wBq.heap.size wDq (nod_of_room NDq.out)) ?_; rintro e w14 ⟨v14, rfl, ho14, b14⟩; have HWx := HWDq; have x14B : Hid (Below w12.heap.size w12 w14) := HWx.out.trans (b14.mono (by omega)); have x14O : Hid (ownNod w14 w12.heap.size v14 ps) := ownNod_base ho14 (by omega); clear ho14 b14 HWx; refine ⟨_, rfl, ?_⟩))
      all_goals
        have s14 := x14B.out.size
        obtain ⟨a14, g14, c14, sp14, rfl, ha14, _, hB14, _, hr14⟩ := ownNod_form x14O.out
        have Q14 : Hid (NodAt w14 g14 ps) := fun i hi => nod_of_row (hr14 (by omega)) i hi
        have LA14 : Hid (0 < ps.length → a14 = some ⟨g14, 0, none⟩) := ha14
        have B14 : Hid (Below w.heap.size w w14) := B12.out.trans (x14B.out.mono (by omega))
        have P14 : Hid (NodAt w14 g3 ps) := P12.out.below x14B.out (fun h => by have := LG3.out h; omega)
        have M14 : Hid (NodAt w14 g5 (nodMkd ps 1 ps.length)) := M12.out.below x14B.out (fun h => by rw [ML.out] at h; have := LG5.out h; omega)
        clear ha14 hB14 hr14 x14B x14O P12 M12 k0 k1
        go_wp2_with fail
        refine (nod_eq_row a14 a3 g14 g3 c14 c3 ps (by omega) LA14.out LA3.out w14 Q14.out P14.out).mono ?_
        rintro e w15 ⟨rfl, b15⟩
        have s15 := b15.size
        have B15 : Hid (Below w.heap.size w w15) := B14.out.trans (b15.mono (by omega))
        have M15 : Hid (NodAt w15 g5 (nodMkd ps 1 ps.length)) := M14.out.below b15 (fun h => by rw [ML.out] at h; have := LG5.out h; omega)
        clear b15 P14 M14 Q14
        go_wp2_with fail
        refine (nod_held_row a5 g5 c5 ps.length (nodMkd ps 1 ps.length) ML.out (by omega) LA5.out w15 M15.out HM.out).mono ?_
        rintro e w16 ⟨rfl, b16⟩
        go_wp2
        go_ret
        exact ⟨rfl, B15.out.trans (b16.mono (by omega))⟩

set_option maxRecDepth 100000 in
theorem lifted (ask : Asked) (os : Os) (started : os.Started) (H : Type) (enc : TypeId × Value → H) :
    ReturnsInHanded {} Tryz.checked os 6 .any (Rows.fnExactRenameOneSpec.pre6 enc Tryz.prog Tryz.f6 Rows.fnExactRenameOneRow.domain false) (Rows.fnExactRenameOneSpec.post enc Tryz.prog Tryz.f6 false true false false) := by
  refine returnsInHanded_of_change (C := Tryz.checked) own started (by kernel_rfl) Tryz.func6
    (ChangeSpec.witness6 (enc := enc) (C := Tryz.checked) false ⟨#[], #[.slice none 0 0, .agg #[.int .i64 0, .int .i64 0], .string ByteArray.empty], []⟩ 8 (by kernel_rfl) (by kernel_rfl) (by kernel_rfl) (by kernel_rfl)) ?_
  intro W base args ds gs before hval0 hW hcnd _
  have hval : ∀ (j : Nat) t v, Tryz.f6.params[j]? = some t → args[j]? = some v → Value.okWide Tryz.prog W .any base t v := hval0
  have hW' := hW
  obtain ⟨p, q, hA0, hV, rfl, hfz, hnd⟩ := hW
  have hA : DataW.TrodAll enc Tryz.prog W 0 (fun _ => true) true Tryz.f6.params.toList args.toList ds p := hA0
  rw [Tryz.params6] at hA hval
  obtain ⟨v0, vs0, d0, ds0, p0, q0, hargs, rfl, rfl, h0, r0⟩ := trodAll_cons hA
  obtain ⟨v1, vs1, d1, ds1, p1, q1, rfl, rfl, rfl, h1, r1⟩ := trodAll_cons r0
  obtain ⟨v2, vs2, d2, ds2, p2, q2, rfl, rfl, rfl, h2, r2⟩ := trodAll_cons r1
  obtain ⟨rfl, rfl, rfl⟩ := trodAll_nil r2
  obtain rfl : args = #[v0, v1, v2] := by cases args; simp_all
  obtain ⟨rfl, rfl⟩ := trodVars_none hV
  obtain ⟨a0, len0, cap0, rfl⟩ := okWide_slice Tryz.underlying43 (hval 0 43 v0 rfl rfl)
  have k0 := h0
  have lt0 : ∀ x ∈ p0, x.block < W.heap.size := by obtain ⟨m, hm⟩ := k0; exact DataW.trod_lt m _ _ _ hm
  obtain ⟨fuel0, hf0⟩ := h0
  obtain ⟨ts0, b0, o0, rfl, hne0, hm0, hst0, hrow0⟩ := open_nods (by simpa [Value.cells] using hf0)
  obtain ⟨cs1, rfl, hsz1⟩ := okWide_struct Tryz.underlying49 (hval 1 49 v1 rfl rfl)
  rw [bnd_cells] at hsz1
  have k1 := h1
  have lt1 : ∀ x ∈ p1, x.block < W.heap.size := by obtain ⟨m, hm⟩ := k1; exact DataW.trod_lt m _ _ _ hm
  obtain ⟨fuel1, hf1⟩ := h1
  obtain ⟨t1, hc1⟩ := bnd_of_cells (cs := cs1.toList) (by simpa using hsz1) (by simpa [Value.cells] using hf1)
  obtain rfl : cs1 = (bndCells t1).toArray := by rw [← hc1]
  obtain ⟨a2, rfl, rfl, rfl, w2⟩ := open_string Tryz.underlying9 (hval 2 9 v2 rfl rfl) h2
  clear hA0 hval0
  simp only [List.append_nil] at hW'
  refine (walk ask a0 b0 o0 cap0 ts0 t1.node t1.role a2 w2 hne0 hm0 hst0 W hrow0).mono fun e W' ⟨he, bel⟩ => ?_
  subst he
  exact ⟨_, rfl, _, _, _, [], _, [], hW', trodAll_mk1 (shut_bool Tryz.underlying4 _), (trodAll_cons_mk (Below.trod laidOut (by kernel_rfl) (of_decide_eq_true (by kernel_rfl)) k0 bel lt0) (trodAll_cons_mk (Below.trod laidOut (by kernel_rfl) (of_decide_eq_true (by kernel_rfl)) k1 bel lt1) (trodAll_cons_mk (shut_string Tryz.underlying9 w2) trodAll_mk0))), rfl, bel.frame _, fun h => by cases h⟩

theorem over (ask : Asked) : Rows.fnExactRenameOneRow.holds Tryz.pinned (OpenSpec.ofChange Rows.fnExactRenameOneSpec) :=
  OpenClaim.holds_of_wide 6 Tryz.f6 rfl rfl rfl rfl rfl rfl rfl ⟨rfl, rfl, rfl, rfl, rfl⟩ rfl rfl rfl rfl rfl (by kernel_rfl) Tryz.func6 (by kernel_rfl)
    (of_decide_eq_true (by kernel_rfl)) (by unfold Func.isWrapper; first | (rw [if_pos (by decide +kernel)]; kernel_rfl) | (rw [if_neg (by decide +kernel)]; exact ⟨rfl, rfl⟩))
    (fun os started H enc _ => lifted ask os started H enc)
end Go.Proofs.YtjiggiglagmloaaGreat.fnExactRenameOne

namespace Go.Proofs.YtjiggiglagmloaaGreat.fnExactRenameOne
open Go.ChangeShapes Go.WideShapes Go.ChangeAt Go.RowKit
set_option linter.unusedVariables false

theorem asked : Asked := fun g cap ts n r s hl hs hst hsm w hA => impl_rename g cap ts n r s hl hs hst hsm w hA

theorem proved : Rows.FnExactRenameOneSaid :=
  over asked
#print axioms proved
end Go.Proofs.YtjiggiglagmloaaGreat.fnExactRenameOne

namespace Go.Proofs.YtjiggiglagmloaaGreat
theorem fnExactRenameOne_holds : Rows.FnExactRenameOneSaid := fnExactRenameOne.proved
#print axioms fnExactRenameOne_holds
end Go.Proofs.YtjiggiglagmloaaGreat
