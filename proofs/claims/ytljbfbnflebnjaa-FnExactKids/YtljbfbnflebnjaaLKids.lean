/-
  For every node: FnExactKids answers true, and its argument reads as before: Kids answers as the specification does, and its answer owns its memory, behind another call too. No condition.
-/
import Derived.Test.YtljbfbnflebnjaaIb
import Derived.Test.YtljbfbnflebnjaaIn
import Derived.Test.YtljbfbnflebnjaaNo
import Derived.ChangeOld
namespace Go.Proofs.Ytljbfbnflebnjaa.fnExactKids
open Go.ChangeShapes Go.WideShapes Go.ChangeAt Go.RowKit
set_option linter.unusedVariables false

theorem own : ownKnob Try.prog.godebug = none := by kernel_rfl
theorem laidOut : laidOutB Try.prog = true := by kernel_rfl

/-- What is asked of Kids as it landed. -/
def Asked : Prop := ∀ (k a b c n : Int) (s o : ByteArray) (w : World),
    Calls Try.prog 16 #[.agg #[.int .i64 k, .int .i64 a, .int .i64 b, .int .i64 c, .int .i64 n, .string s, .string o]] w fun e w' => ∃ v, e = .returned v ∧ holdI w' w.heap.size v ([a, b, c].take (arN k)) ∧ Below w.heap.size w w'

theorem cells7 {w : World} {g : Nat} {k a b c n : Int} {s o : ByteArray} {t : TypeId} {z : Nat × Nat} (h : w.heap[g]? = some (.cells #[.int .i64 k, .int .i64 a, .int .i64 b, .int .i64 c, .int .i64 n, .string s, .string o] t z)) :
    w.cell? ⟨g, 0, none⟩ = some (.int .i64 k) ∧ w.cell? ⟨g, 1, none⟩ = some (.int .i64 a) ∧ w.cell? ⟨g, 2, none⟩ = some (.int .i64 b) ∧ w.cell? ⟨g, 3, none⟩ = some (.int .i64 c) ∧ w.cell? ⟨g, 4, none⟩ = some (.int .i64 n) ∧ w.cell? ⟨g, 5, none⟩ = some (.string s) ∧ w.cell? ⟨g, 6, none⟩ = some (.string o) := by
  refine ⟨?_, ?_, ?_, ?_, ?_, ?_, ?_⟩ <;> (rw [cell_of_row _ _ _ _ _ _ h]; rfl)

set_option maxHeartbeats 1000000 in
set_option maxRecDepth 20000 in
theorem walk (impl_kids : Asked) (k a b c n : Int) (s o : ByteArray) (hs : s.size ≤ maxLen) (ho : o.size ≤ maxLen) (w : World) :
    Calls Try.prog 5 #[.agg #[.int .i64 k, .int .i64 a, .int .i64 b, .int .i64 c, .int .i64 n, .string s, .string o]] w fun e w' => e = .returned (.bool true) ∧ Below w.heap.size w w' := by
  have HI : Hid Asked := impl_kids
  clear impl_kids
  obtain ⟨wa, hwa⟩ : ∃ wa, w.alloc (.cells #[.int .i64 k, .int .i64 a, .int .i64 b, .int .i64 c, .int .i64 n, .string s, .string o] 26) = wa := ⟨_, rfl⟩
  have HWA : Hid (w.alloc (.cells #[.int .i64 k, .int .i64 a, .int .i64 b, .int .i64 c, .int .i64 n, .string s, .string o] 26) = wa) := hwa
  have Rf : Hid (wa.heap[w.heap.size]? = some (.cells #[.int .i64 k, .int .i64 a, .int .i64 b, .int .i64 c, .int .i64 n, .string s, .string o] 26 (0, 0))) := by rw [← hwa]; exact (MapKept.heap_alloc w _).1
  have sa : wa.heap.size = w.heap.size + 1 := by rw [← hwa]; simp
  have BA : Hid (Below w.heap.size w wa) := by rw [← hwa]; exact (Below.refl _ w).alloc (Nat.le_refl _) _
  clear hwa
  by_cases hbig : (1048576 : Int) < (s.size : Int) + (o.size : Int)
  · go_enter Try.func5, Try.ntmps5
    go_wp2_with fail
    rw [HWA.out]
    refine (nod_sz_no k a b c n s o 1048576 (by omega) (by omega) hs ho wa hbig).mono ?_
    rintro e w1 ⟨rfl, b1⟩
    go_wp2
    go_ret
    exact ⟨rfl, BA.out.trans (b1.mono (by omega))⟩
  · have har := arN_le k
    obtain ⟨st, hst⟩ : ∃ st, [a, b, c].take (arN k) = st := ⟨_, rfl⟩
    have hlen : st.length = arN k := by rw [← hst]; simp; omega
    have HS : Hid ([a, b, c].take (arN k) = st) := hst
    have HLn : Hid (st.length = arN k) := hlen
    have hle3 : st.length ≤ 3 := by omega
    clear hst hlen har
    go_enter Try.func5, Try.ntmps5
    go_wp2_with fail
    rw [HWA.out]
    refine (nod_sz_yes k a b c n s o 1048576 (by omega) (by omega) wa (by omega)).mono ?_
    rintro e w1 ⟨rfl, b1⟩
    have s1 := b1.size
    have B1 : Hid (Below w.heap.size w w1) := BA.out.trans (b1.mono (by omega))
    have r1 := (b1.block _ (by omega)).trans Rf.out
    have R1 : Hid (w1.heap[w.heap.size]? = some (.cells #[.int .i64 k, .int .i64 a, .int .i64 b, .int .i64 c, .int .i64 n, .string s, .string o] 26 (0, 0))) := r1
    obtain ⟨q0, q1, q2, q3, q4, q5, q6⟩ := cells7 r1
    have hneg : ¬ (1048576 - (s.size : Int) - (o.size : Int)) < 0 := by omega
    clear r1 b1 BA HWA Rf hbig
    go_wp2_with fail
    refine (nod_to k a b c n s o w1).mono ?_
    rintro e w2 ⟨rfl, b2⟩
    have s2 := b2.size
    have B2 : Hid (Below w.heap.size w w2) := B1.out.trans (b2.mono (by omega))
    have r2 := (b2.block _ (by omega)).trans R1.out
    have R2 : Hid (w2.heap[w.heap.size]? = some (.cells #[.int .i64 k, .int .i64 a, .int .i64 b, .int .i64 c, .int .i64 n, .string s, .string o] 26 (0, 0))) := r2
    clear q0 q1 q2 q3 q4 q5 q6 B1 R1 b2 hneg
    obtain ⟨q0, q1, q2, q3, q4, q5, q6⟩ := cells7 r2
    clear r2
    go_wp2_with fail
    refine (spec_kids k a b c n s o w2).mono ?_
    rintro e w3 ⟨rfl, hr3, b3⟩
    have s3 := b3.size
    have B3 : Hid (Below w.heap.size w w3) := B2.out.trans (b3.mono (by omega))
    have r3 := (b3.block _ (by omega)).trans R2.out
    have R3 : Hid (w3.heap[w.heap.size]? = some (.cells #[.int .i64 k, .int .i64 a, .int .i64 b, .int .i64 c, .int .i64 n, .string s, .string o] 26 (0, 0))) := r3
    have L3 : w2.heap.size + 1 < w3.heap.size := (Array.getElem?_eq_some_iff.1 hr3).1
    have K3 : Hid (IntAt w3 (w2.heap.size + 1) st) := by
      have h := int_of_row (st := [a, b, c]) (sp := []) (fun _ => hr3)
      intro i hi
      have hlen := HLn.out
      rw [h i (by simp; omega), ← HS.out]
      congr 2
      simp [List.getD, show i < arN k by omega]
    rw [← HLn.out]
    clear q0 q1 q2 q3 q4 q5 q6 B2 R2 b3 hr3
    obtain ⟨q0, q1, q2, q3, q4, q5, q6⟩ := cells7 r3
    clear r3
    go_wp2_with fail
    refine (nod_to k a b c n s o w3).mono ?_
    rintro e w4 ⟨rfl, b4⟩
    have s4 := b4.size
    have B4 : Hid (Below w.heap.size w w4) := B3.out.trans (b4.mono (by omega))
    have r4 := (b4.block _ (by omega)).trans R3.out
    have R4 : Hid (w4.heap[w.heap.size]? = some (.cells #[.int .i64 k, .int .i64 a, .int .i64 b, .int .i64 c, .int .i64 n, .string s, .string o] 26 (0, 0))) := r4
    have K4 : Hid (IntAt w4 (w2.heap.size + 1) st) := K3.out.below b4 (fun _ => L3)
    clear q0 q1 q2 q3 q4 q5 q6 B3 R3 b4 K3 r4
    go_wp2_with fail
    refine (HI.out k a b c n s o w4).mono ?_
    rintro e w5 ⟨v5, rfl, ho5, b5⟩
    rw [HS.out] at ho5
    obtain ⟨ty5, a5, g5, c5, sp5, rfl, ha5, hB5, hr5⟩ := ho5
    have s5 := b5.size
    have B5 : Hid (Below w.heap.size w w5) := B4.out.trans (b5.mono (by omega))
    have R5 : Hid (w5.heap[w.heap.size]? = some (.cells #[.int .i64 k, .int .i64 a, .int .i64 b, .int .i64 c, .int .i64 n, .string s, .string o] 26 (0, 0))) := (b5.block _ (by omega)).trans R4.out
    have K5 : Hid (IntAt w5 (w2.heap.size + 1) st) := K4.out.below b5 (fun _ => by omega)
    have LA5 : Hid (0 < st.length → a5 = some ⟨g5, 0, none⟩) := ha5
    have RQ5 : Hid (0 < st.length → w5.heap[g5]? = some (.cells (intRow st sp5) ty5 (0, 0))) := hr5
    have LG5 : Hid (0 < st.length → g5 < w5.heap.size) := fun h => (Array.getElem?_eq_some_iff.1 (hr5 h)).1
    clear ha5 hr5 b5 B4 R4 K4
    go_wp2_with fail
    refine (int_eq_row a5 _ g5 (w2.heap.size + 1) c5 3 st (by omega) LA5.out (fun _ => rfl) w5 (int_of_row RQ5.out) K5.out).mono ?_
    rintro e w6 ⟨rfl, b6⟩
    have s6 := b6.size
    have B6 : Hid (Below w.heap.size w w6) := B5.out.trans (b6.mono (by omega))
    have R6 : Hid (w6.heap[w.heap.size]? = some (.cells #[.int .i64 k, .int .i64 a, .int .i64 b, .int .i64 c, .int .i64 n, .string s, .string o] 26 (0, 0))) := (b6.block _ (by omega)).trans R5.out
    have K6 : Hid (IntAt w6 (w2.heap.size + 1) st) := K5.out.below b6 (fun _ => by omega)
    have RQ6 : Hid (0 < st.length → w6.heap[g5]? = some (.cells (intRow st sp5) ty5 (0, 0))) := fun h => (b6.block _ (LG5.out h)).trans (RQ5.out h)
    clear b6 B5 R5 K5 RQ5
    go_wp2_with fail
    refine (int_mark_row a5 g5 c5 w4.heap.size st sp5 (by omega) LA5.out w6 RQ6.out hB5 (by omega)).mono ?_
    rintro e w7 ⟨rfl, hr7, b7, t7⟩
    have s7 := t7.1
    have ml : (intMkd st st.length).length = st.length := intMkd_length st st.length
    have B7 : Hid (Below w.heap.size w w7) := B6.out.trans (b7.mono (by omega))
    have R7 : Hid (w7.heap[w.heap.size]? = some (.cells #[.int .i64 k, .int .i64 a, .int .i64 b, .int .i64 c, .int .i64 n, .string s, .string o] 26 (0, 0))) := (b7.block _ (by omega)).trans R6.out
    have K7 : Hid (IntAt w7 (w2.heap.size + 1) st) := K6.out.below b7 (fun _ => by omega)
    have M7 : Hid (IntAt w7 g5 (intMkd st st.length)) := int_of_row (fun h => hr7 (by rw [ml] at h; exact h))
    have HM : Hid (∀ i, i < (intMkd st st.length).length → (intMkd st st.length).getD i 0 = (1 + i : Nat)) := fun i hi => intMkd_at st st.length i (by rw [ml] at hi; exact hi) (by rw [ml] at hi; exact hi)
    have ML : Hid ((intMkd st st.length).length = st.length) := ml
    clear hr7 b7 t7 B6 R6 K6 RQ6 ml
    go_wp2_with fail
    refine (int_held_row a5 g5 c5 st.length (intMkd st st.length) ML.out (by omega) LA5.out w7 M7.out HM.out).mono ?_
    rintro e w8 ⟨rfl, b8⟩
    have s8 := b8.size
    have B8 : Hid (Below w.heap.size w w8) := B7.out.trans (b8.mono (by omega))
    have r8 := (b8.block _ (by omega)).trans R7.out
    have K8 : Hid (IntAt w8 (w2.heap.size + 1) st) := K7.out.below b8 (fun _ => by omega)
    have M8 : Hid (IntAt w8 g5 (intMkd st st.length)) := M7.out.below b8 (fun h => by rw [ML.out] at h; have := LG5.out h; omega)
    have R8 : Hid (w8.heap[w.heap.size]? = some (.cells #[.int .i64 k, .int .i64 a, .int .i64 b, .int .i64 c, .int .i64 n, .string s, .string o] 26 (0, 0))) := r8
    obtain ⟨q0, q1, q2, q3, q4, q5, q6⟩ := cells7 r8
    have hpos : ¬ ((1 + st.length : Nat) : Int) < 0 := by omega
    clear b8 B7 R7 K7 M7 r8
    go_wp2_with fail
    refine (nod_to k a b c n s o w8).mono ?_
    rintro e w9 ⟨rfl, b9⟩
    have s9 := b9.size
    have B9 : Hid (Below w.heap.size w w9) := B8.out.trans (b9.mono (by omega))
    have K9 : Hid (IntAt w9 (w2.heap.size + 1) st) := K8.out.below b9 (fun _ => by omega)
    have M9 : Hid (IntAt w9 g5 (intMkd st st.length)) := M8.out.below b9 (fun h => by rw [ML.out] at h; have := LG5.out h; omega)
    clear q0 q1 q2 q3 q4 q5 q6 B8 R8 b9 K8 M8
    go_wp2_with fail
    refine (HI.out k a b c n s o w9).mono ?_
    rintro e w10 ⟨v10, rfl, ho10, b10⟩
    rw [HS.out] at ho10
    obtain ⟨ty10, a10, g10, c10, sp10, rfl, ha10, hB10, hr10⟩ := ho10
    have s10 := b10.size
    have B10 : Hid (Below w.heap.size w w10) := B9.out.trans (b10.mono (by omega))
    have K10 : Hid (IntAt w10 (w2.heap.size + 1) st) := K9.out.below b10 (fun _ => by omega)
    have M10 : Hid (IntAt w10 g5 (intMkd st st.length)) := M9.out.below b10 (fun h => by rw [ML.out] at h; have := LG5.out h; omega)
    have LA10 : Hid (0 < st.length → a10 = some ⟨g10, 0, none⟩) := ha10
    have RQ10 : Hid (0 < st.length → w10.heap[g10]? = some (.cells (intRow st sp10) ty10 (0, 0))) := hr10
    clear ha10 hr10 b10 B9 K9 M9 hB10
    go_wp2_with fail
    refine (int_eq_row a10 _ g10 (w2.heap.size + 1) c10 3 st (by omega) LA10.out (fun _ => rfl) w10 (int_of_row RQ10.out) K10.out).mono ?_
    rintro e w11 ⟨rfl, b11⟩
    have s11 := b11.size
    have B11 : Hid (Below w.heap.size w w11) := B10.out.trans (b11.mono (by omega))
    have M11 : Hid (IntAt w11 g5 (intMkd st st.length)) := M10.out.below b11 (fun h => by rw [ML.out] at h; have := LG5.out h; omega)
    clear b11 B10 M10 K10 RQ10
    go_wp2_with fail
    refine (int_held_row a5 g5 c5 st.length (intMkd st st.length) ML.out (by omega) LA5.out w11 M11.out HM.out).mono ?_
    rintro e w12 ⟨rfl, b12⟩
    go_wp2
    go_ret
    exact ⟨rfl, B11.out.trans (b12.mono (by omega))⟩

set_option maxRecDepth 100000 in
theorem lifted (ask : Asked) (os : Os) (started : os.Started) (H : Type) (enc : TypeId × Value → H) :
    ReturnsInHanded {} Try.checked os 5 .any (Rows.fnExactKidsSpec.pre6 enc Try.prog Try.f5 Rows.fnExactKidsRow.domain false) (Rows.fnExactKidsSpec.post enc Try.prog Try.f5 false true false false) := by
  refine returnsInHanded_of_change (C := Try.checked) own started (by kernel_rfl) Try.func5
    (ChangeSpec.witness6 (enc := enc) (C := Try.checked) false ⟨#[], #[.agg #[.int .i64 0, .int .i64 0, .int .i64 0, .int .i64 0, .int .i64 0, .string ByteArray.empty, .string ByteArray.empty]], []⟩ 8 (by kernel_rfl) (by kernel_rfl) (by kernel_rfl) (by kernel_rfl)) ?_
  intro W base args ds gs before hval0 hW hcnd _
  have hval : ∀ (j : Nat) t v, Try.f5.params[j]? = some t → args[j]? = some v → Value.okWide Try.prog W .any base t v := hval0
  have hW' := hW
  obtain ⟨p, q, hA0, hV, rfl, hfz, hnd⟩ := hW
  have hA : DataW.TrodAll enc Try.prog W 0 (fun _ => true) true Try.f5.params.toList args.toList ds p := hA0
  rw [Try.params5] at hA hval
  obtain ⟨v0, vs0, d0, ds0, p0, q0, hargs, rfl, rfl, h0, r0⟩ := trodAll_cons hA
  obtain ⟨rfl, rfl, rfl⟩ := trodAll_nil r0
  obtain rfl : args = #[v0] := by cases args; simp_all
  obtain ⟨rfl, rfl⟩ := trodVars_none hV
  obtain ⟨cs0, rfl, hsz0⟩ := okWide_struct Try.underlying26 (hval 0 26 v0 rfl rfl)
  rw [nod_cells] at hsz0
  have k0 := h0
  have lt0 : ∀ x ∈ p0, x.block < W.heap.size := by obtain ⟨m, hm⟩ := k0; exact DataW.trod_lt m _ _ _ hm
  obtain ⟨fuel0, hf0⟩ := h0
  obtain ⟨t0, hsn0, hso0, hc0⟩ := nod_of_cells (cs := cs0.toList) (by simpa using hsz0) (by simpa [Value.cells] using hf0)
  obtain rfl : cs0 = (nodCells t0).toArray := by rw [← hc0]
  clear hA0 hval0
  refine (walk ask t0.kind t0.a t0.b t0.c t0.n t0.name t0.other hsn0 hso0 W).mono fun e W' ⟨he, bel⟩ => ?_
  subst he
  exact ⟨_, rfl, _, _, _, [], _, [], hW', trodAll_mk1 (shut_bool Try.underlying4 _), (trodAll_cons_mk (Below.trod laidOut (by kernel_rfl) (of_decide_eq_true (by kernel_rfl)) k0 bel lt0) trodAll_mk0), rfl, bel.frame _, fun h => by cases h⟩

theorem over (ask : Asked) : Rows.fnExactKidsRow.holds Try.pinned (OpenSpec.ofChange Rows.fnExactKidsSpec) :=
  OpenClaim.holds_of_wide 5 Try.f5 rfl rfl rfl rfl rfl rfl rfl ⟨rfl, rfl, rfl, rfl, rfl⟩ rfl rfl rfl rfl rfl (by kernel_rfl) Try.func5 (by kernel_rfl)
    (of_decide_eq_true (by kernel_rfl)) (by unfold Func.isWrapper; first | (rw [if_pos (by decide +kernel)]; kernel_rfl) | (rw [if_neg (by decide +kernel)]; exact ⟨rfl, rfl⟩))
    (fun os started H enc _ => lifted ask os started H enc)
end Go.Proofs.Ytljbfbnflebnjaa.fnExactKids
