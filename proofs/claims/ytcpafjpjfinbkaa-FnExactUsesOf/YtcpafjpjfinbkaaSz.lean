/-
  Scopes: the uses of a binder: as it landed, and the specification's. Conditions: written at each theorem.
-/
import Derived.Test.YtcpafjpjfinbkaaSy
import Derived.Lib.QuietBelow
namespace Go.Proofs.Ytcpafjpjfinbkaa
open Go.ChangeShapes Go.WideShapes Go.ChangeAt Go.RowKit Go.Sort
set_option linter.unusedVariables false

/-- Are two binders the same? -/
def sameB (x : Bnd) (n r : Int) : Bool := x.node == n && x.role == r

/-- The uses among the first k nodes. -/
def useF (ts : List Nod) (n r : Int) : Nat → List Int
  | 0 => []
  | k + 1 => useF ts n r k ++ (if sameB (binN ts k) n r = true then [(k : Int)] else [])

def usesB (ts : List Nod) (n r : Int) : List Int := if nodesB ts = true ∧ 0 ≤ n then useF ts n r ts.length else []

theorem useF_length (ts : List Nod) (n r : Int) : ∀ k, (useF ts n r k).length ≤ k
  | 0 => Nat.le_refl _
  | k + 1 => by
    rw [useF, List.length_append]
    have := useF_length ts n r k
    split <;> simp <;> omega

theorem usesB_length (ts : List Nod) (n r : Int) : (usesB ts n r).length ≤ 150 := by
  unfold usesB
  split
  · rename_i h
    obtain ⟨h1, h2, _⟩ := nodesB_starts h.1
    have := useF_length ts n r ts.length
    omega
  · simp

theorem ownI_base {w : World} {B B' : Nat} {v : Value} {st : List Int} (h : ownI w B v st) (hB : B' ≤ B) : ownI w B' v st := by
  rcases h.2 with ⟨rfl, h0⟩ | ⟨g, cap, cur, rfl, hb, hg, hn, hm, hs, ht⟩
  · exact ⟨h.1, Or.inl ⟨rfl, h0⟩⟩
  · exact ⟨h.1, Or.inr ⟨g, cap, cur, rfl, by omega, hg, hn, hm, hs, ht⟩⟩

theorem bnd_eql (x0 x1 y0 y1 : Int) (w : World) : (binOp .eql 30 (.agg #[.int .i64 x0, .int .i64 x1]) (.agg #[.int .i64 y0, .int .i64 y1])).run Try.prog w = .ok (.bool (sameB ⟨x0, x1⟩ y0 y1)) w := by
  have hu : Try.prog.underlying 30 = some (.struct (Try.prog.fieldsOf 30)) := by kernel_rfl
  rw [run_eql_struct, run_equalIn_agg _ _ _ _ _ hu (by kernel_rfl)]
  simp only [Program.fieldsOf, Try.underlying30, sameB]
  simp [go_sem, Op.eqFields, Try.underlying3]
  repeat' split
  all_goals simp [*]

set_option maxHeartbeats 4000000 in
set_option maxRecDepth 20000 in
theorem impl_uses (a : Option Addr) (g cap : Nat) (ts : List Nod) (n r : Int) (hne : 0 < ts.length → a = some ⟨g, 0, none⟩) (hl : ts.length ≤ 1048576)
    (hst : ∀ i, i < ts.length → (ts.getD i noNod).name.size ≤ maxLen ∧ (ts.getD i noNod).other.size ≤ maxLen) (w : World) (hA : NodAt w g ts) :
    Calls Try.prog 27 #[.slice a ts.length cap, .agg #[.int .i64 n, .int .i64 r]] w fun e w' => ∃ v, e = .returned v ∧ ownI w' w.heap.size v (usesB ts n r) ∧ Below w.heap.size w w' := by
  have HA : Hid (NodAt w g ts) := hA
  have HT : Hid (∀ i, i < ts.length → (ts.getD i noNod).name.size ≤ maxLen ∧ (ts.getD i noNod).other.size ≤ maxLen) := hst
  have BA : Below w.heap.size w (w.alloc (.cells #[.int .i64 n, .int .i64 r] 30)) := (Below.refl _ w).alloc (Nat.le_refl _) _
  have RA : (w.alloc (.cells #[.int .i64 n, .int .i64 r] 30)).heap[w.heap.size]? = some (.cells #[.int .i64 n, .int .i64 r] 30 (0, 0)) := (MapKept.heap_alloc w _).1
  have sa : (w.alloc (.cells #[.int .i64 n, .int .i64 r] 30)).heap.size = w.heap.size + 1 := by simp
  have AA : Hid (NodAt (w.alloc (.cells #[.int .i64 n, .int .i64 r] 30)) g ts) := hA.below BA (fun h => hA.lt h)
  have HBA : Hid (_) := BA
  have HRA : Hid (_) := RA
  have HSA : Hid (_) := sa
  clear hA hst BA RA sa
  by_cases hn : n < 0
  · have HV : Hid (usesB ts n r = []) := by show usesB ts n r = []; rw [usesB, if_neg (by omega)]
    go_enter Try.func27, Try.ntmps27
    go_wp2
    go_ret
    exact ⟨_, rfl, by rw [HV.out]; exact ⟨rfl, Or.inl ⟨rfl, rfl⟩⟩, HBA.out⟩
  · have HV : Hid (usesB ts n r = useF ts n r (binL ts).length) := by
      show usesB ts n r = _
      unfold usesB binL
      by_cases hok : nodesB ts = true
      · rw [if_pos ⟨hok, by omega⟩, if_pos hok, binF_length]
      · rw [if_neg (fun h => hok h.1), if_neg hok]; rfl
    have HBN : Hid (∀ k, k < (binL ts).length → (binL ts).getD k noBnd = binN ts k) := fun k hk => by
      by_cases hok : nodesB ts = true
      · rw [binL, if_pos hok, binF_length] at hk
        rw [binL, if_pos hok, binF_at ts _ k hk]
      · rw [binL, if_neg hok] at hk
        simp at hk
    have hbl := binL_length ts
    obtain ⟨i0, hi, hz0, hz1, hz2⟩ := info_parts info_int
    go_enter Try.func27, Try.ntmps27
    go_wp2_with fail
    refine (impl_binders a g cap ts hne hl HT.out _ AA.out).mono ?_
    rintro e w1 ⟨⟨H, rfl, hH, hr1⟩, b1⟩
    have R1 : Hid (w1.heap[w.heap.size]? = some (.cells #[.int .i64 n, .int .i64 r] 30 (0, 0))) := (b1.block _ (by have := HSA.out; omega)).trans HRA.out
    have B1 : Hid (Below w.heap.size w w1) := HBA.out.trans (b1.mono (by have := HSA.out; omega))
    have HR1 : Hid (w1.heap[H]? = some (.cells ((binL ts).flatMap bndCells).toArray 30 (0, 0))) := hr1
    have s1 : w.heap.size + 1 ≤ w1.heap.size := by have := b1.size; have := HSA.out; omega
    have hHl : H < w1.heap.size := (Array.getElem?_eq_some_iff.1 hr1).1
    generalize binL ts = bl at *
    clear hr1 b1 HSA HBA HRA AA hne
    go_wp2
    go_loopw [5, 14] (fun out iv wr => ∃ k : Nat, k ≤ bl.length ∧ iv = .int .i64 k ∧ Hid (ownI wr w1.heap.size out (useF ts n r k)) ∧ Below w1.heap.size w1 wr) (fun _ iv _ => bl.length - (intOf iv).toNat)
    case atStart => exact ⟨0, by omega, rfl, ⟨rfl, Or.inl ⟨rfl, rfl⟩⟩, Below.refl _ _⟩
    case round =>
      obtain ⟨k, hk, rfl, HO, hb⟩ := hrel
      have hs := hb.size
      by_cases hin : k < bl.length
      · have hin' : (k : Int) < bl.length := by omega
        have t := bnd_of_room ((hb.block H hHl).trans HR1.out) k hin
        have hul := useF_length ts n r k
        have HUN : Hid (useF ts n r (k + 1) = useF ts n r k ++ (if sameB (binN ts k) n r = true then [(k : Int)] else [])) := rfl
        rw [HBN.out k hin] at t
        generalize binN ts k = y at t HUN
        obtain ⟨y0, y1⟩ := y
        have c0 : wr.cell? ⟨H, k * 2, none⟩ = some (.int .i64 y0) := t.c0
        have c1 : wr.cell? ⟨H, k * 2 + 1, none⟩ = some (.int .i64 y1) := t.c1
        have ba : Below w1.heap.size w1 (wr.alloc (.cells #[.int .i64 y0, .int .i64 y1] 30)) := hb.alloc hs _
        have ra := (ba.block w.heap.size (by omega)).trans R1.out
        obtain ⟨q0, q1, q2⟩ := row2_cells ra
        have HO2 : Hid (ownI (wr.alloc (.cells #[.int .i64 y0, .int .i64 y1] 30)) w1.heap.size u5 (useF ts n r k)) := HO.out.alloc _
        have heq := bnd_eql y0 y1 n r
        have HBA : Hid (_) := ba
        generalize useF ts n r k = U at *
        clear t ra q2 ba HO
        by_cases hsame : sameB ⟨y0, y1⟩ n r = true
        · rw [hsame] at heq
          have HUX : Hid (useF ts n r (k + 1) = U ++ [(k : Int)]) := by show useF ts n r (k + 1) = _; rw [HUN.out, if_pos hsame]
          clear HUN
          go_wp2_with (at_builtin; refine wpList_append_own _ rfl _ _ 40 rfl w1.heap.size 3 i0 _ 1 8 Try.underlying40 hi hz0 hz1 hz2 rfl (by decide) _ _ _ rfl (HO2.out.alloc _) ⟨wr.heap.size + 1, 0, none⟩ 1 1 [.int .i64 k] rfl rfl ?a1 ?a2 ?a3 ?a4 ?a5 ?_)
          case a1 =>
            intro j u hj
            match j, hj with
            | 0, hj => simp at hj; subst hj; simp [Addr.add]
          case a2 => intro u hu; simp at hu; subst hu; rfl
          case a3 => unfold maxLen; omega
          case a4 => omega
          case a5 => simp; omega
          intro v' W3 hown' hgrow _
          have HM : Hid (ownI W3 w1.heap.size v' (useF ts n r (k + 1))) := by
            show ownI W3 w1.heap.size v' _
            rw [HUX.out]
            exact ownI_next _ hown' (by omega) rfl
          have HB3 : Hid (Below w1.heap.size w1 W3) := (HBA.out.alloc (by simp; omega) _).grown hgrow (by simp; omega) (fun q hq => (HO2.out.lt q hq).1)
          clear hown' hgrow HO2 HBA heq
          go_wp2
          go_roundw
          case rel => exact ⟨k + 1, by omega, by go_num, HM, HB3.out⟩
          case measure => simp [intOf]; omega
        · have hsf : sameB ⟨y0, y1⟩ n r = false := by simpa using hsame
          rw [hsf] at heq
          have HM : Hid (ownI (wr.alloc (.cells #[.int .i64 y0, .int .i64 y1] 30)) w1.heap.size u5 (useF ts n r (k + 1))) := by
            show ownI _ w1.heap.size u5 _
            rw [HUN.out, if_neg hsame, List.append_nil]
            exact HO2.out
          clear HUN
          go_wp2
          go_roundw
          case rel => exact ⟨k + 1, by omega, by go_num, HM, HBA.out⟩
          case measure => simp [intOf]; omega
      · obtain rfl : k = bl.length := by omega
        have HB : Hid (Below w.heap.size w wr) := B1.out.trans (hb.mono (by omega))
        have HOB : Hid (ownI wr w.heap.size u5 (usesB ts n r)) := by
          show ownI wr w.heap.size u5 _
          rw [HV.out]
          exact ownI_base HO.out (by omega)
        clear HO hb
        go_wp2
        go_ret
        exact ⟨_, rfl, HOB.out, HB.out⟩

set_option maxHeartbeats 8000000 in
set_option maxRecDepth 100000 in
theorem spec_uses (a : Option Addr) (g cap : Nat) (ts : List Nod) (n r : Int) (hne : 0 < ts.length → a = some ⟨g, 0, none⟩) (hl : ts.length ≤ 1048576)
    (hst : ∀ i, i < ts.length → (ts.getD i noNod).name.size ≤ maxLen ∧ (ts.getD i noNod).other.size ≤ maxLen) (w : World) (hA : NodAt w g ts) :
    Calls Try.prog 25 #[.slice a ts.length cap, .agg #[.int .i64 n, .int .i64 r]] w fun e w' => ∃ v, e = .returned v ∧ ownI w' w.heap.size v (usesB ts n r) ∧ Below w.heap.size w w' := by
  have HA : Hid (NodAt w g ts) := hA
  have HT : Hid (∀ i, i < ts.length → (ts.getD i noNod).name.size ≤ maxLen ∧ (ts.getD i noNod).other.size ≤ maxLen) := hst
  obtain ⟨wa, hwa⟩ : ∃ wa, w.alloc (.cells #[.int .i64 n, .int .i64 r] 30) = wa := ⟨_, rfl⟩
  have HWA : Hid (w.alloc (.cells #[.int .i64 n, .int .i64 r] 30) = wa) := hwa
  have RA : Hid (wa.heap[w.heap.size]? = some (.cells #[.int .i64 n, .int .i64 r] 30 (0, 0))) := by show wa.heap[w.heap.size]? = _; rw [← hwa]; exact (MapKept.heap_alloc w _).1
  have BA : Hid (Below w.heap.size w wa) := by show Below w.heap.size w wa; rw [← hwa]; exact (Below.refl _ w).alloc (Nat.le_refl _) _
  have sa : wa.heap.size = w.heap.size + 1 := by rw [← hwa]; simp
  have H0 : Hid (ownI (wa.alloc (.cells #[] 3)) wa.heap.size (.slice (some ⟨w.heap.size + 1, 0, none⟩) 0 0) []) := by
    show ownI _ _ _ _
    rw [← sa]
    exact ownI_empty (Nat.le_refl _)
  have HSA : Hid (wa.heap.size = w.heap.size + 1) := sa
  have HNO : Hid (∀ wr, Below wa.heap.size wa wr → wr.heap[w.heap.size]? = some (.cells #[.int .i64 n, .int .i64 r] 30 (0, 0)) ∧ Below w.heap.size w wr) := fun wr hb => ⟨(hb.block _ (by omega)).trans RA.out, BA.out.trans (hb.mono (by omega))⟩
  clear hwa hA hst RA sa
  obtain ⟨i0, hi, hz0, hz1, hz2⟩ := info_parts info_int
  go_enter Try.func25, Try.ntmps25
  go_wp2
  rw [HWA.out]
  go_loopw [5, 6] (fun out iv wr => ∃ k : Nat, k ≤ ts.length ∧ iv = .int .i64 k ∧ (0 < k → nodesB ts = true ∧ 0 ≤ n) ∧ Hid (ownI wr wa.heap.size out (useF ts n r k)) ∧ Below wa.heap.size wa wr) (fun _ iv _ => ts.length - (intOf iv).toNat)
  case atStart => exact ⟨0, by omega, rfl, fun h => absurd h (by omega), H0, (Below.refl _ wa).alloc (Nat.le_refl _) _⟩
  case round =>
    obtain ⟨k, hk, rfl, hkb, HO, hb⟩ := hrel
    have HKB : Hid (0 < k → nodesB ts = true ∧ 0 ≤ n) := hkb
    clear hkb
    have hs := hb.size
    by_cases hin : k < ts.length
    · have e1 : (k : Int) < ts.length := by omega
      obtain rfl := hne (by omega)
      have HBR : Hid (Below w.heap.size w wr) := (HNO.out wr hb).2
      go_wp2_with fail
      refine (spec_nodes _ g cap ts (fun _ => rfl) hl HT.out wr (HA.out.below HBR.out (fun h => HA.out.lt h))).mono ?_
      rintro e w1 ⟨rfl, b1⟩
      have hb1 : Below wa.heap.size wa w1 := hb.trans (b1.mono hs)
      have HO1 : Hid (ownI w1 wa.heap.size u5 (useF ts n r k)) := ownI_kept HO.out b1 (Nat.le_refl _)
      have hs1 := hb1.size
      obtain ⟨r1, B1⟩ := HNO.out w1 hb1
      obtain ⟨q0, q1, q2⟩ := row2_cells r1
      have HB1 : Hid (_) := B1
      clear HO hb b1 r1 B1 q2 HBR
      cases hok : nodesB ts
      · have hk0 : k = 0 := by
          rcases Nat.eq_zero_or_pos k with h | h
          · exact h
          · have := (HKB.out h).1; rw [hok] at this; cases this
        have HV : Hid (usesB ts n r = useF ts n r k) := by show usesB ts n r = _; rw [usesB, if_neg (by rw [hok]; simp), hk0]; rfl
        clear hok hk0 HKB
        go_wp2
        go_ret
        exact ⟨_, rfl, by rw [HV.out]; exact ownI_base HO1.out (by have := HSA.out; omega), HB1.out⟩
      · have HOK : Hid (nodesB ts = true) := hok
        clear hok
        by_cases hn : n < 0
        · have hk0 : k = 0 := by
            rcases Nat.eq_zero_or_pos k with h | h
            · exact h
            · have := (HKB.out h).2; omega
          have HV : Hid (usesB ts n r = useF ts n r k) := by show usesB ts n r = _; rw [usesB, if_neg (by omega), hk0]; rfl
          clear hk0 HKB
          go_wp2
          go_ret
          exact ⟨_, rfl, by rw [HV.out]; exact ownI_base HO1.out (by have := HSA.out; omega), HB1.out⟩
        · have hn0 : 0 ≤ n := by omega
          clear HKB
          obtain ⟨hl1, hl2, _⟩ := nodesB_starts HOK.out
          have t := (HA.out.below HB1.out (fun h => HA.out.lt h)) k hin
          have hul := useF_length ts n r k
          have HUN : Hid (useF ts n r (k + 1) = useF ts n r k ++ (if sameB (binN ts k) n r = true then [(k : Int)] else [])) := rfl
          have HBB : Hid (bindB ts k = binN ts k) := by
            show bindB ts k = _
            rw [bindB, if_pos ⟨HOK.out, by omega, e1⟩]
            rfl
          have HBN : Hid (¬ (ts.getD k noNod).kind = 1 → binN ts k = ⟨-1, -1⟩) := fun h => if_neg h
          obtain ⟨⟨x0, x1, x2, x3, x4, x5, x6⟩, hx⟩ : ∃ y, ts.getD k noNod = y := ⟨_, rfl⟩
          rw [hx] at t HBN
          have c0 : w1.cell? ⟨g, k * 7, none⟩ = some (.int .i64 x0) := t.c0
          clear t hx
          by_cases hk1 : x0 = 1
          · subst hk1
            have HCB : Hid (∀ w', Below w1.heap.size w1 w' → Calls Try.prog 14 #[.slice (some ⟨g, 0, none⟩) ts.length cap, .int .i64 k] w' fun e w'' => e = .returned (.agg #[.int .i64 (binN ts k).node, .int .i64 (binN ts k).role]) ∧ Below w'.heap.size w' w'') := fun w' hb' => by
              rw [← HBB.out]
              exact spec_binder _ g cap ts k (fun _ => rfl) hl HT.out w' (HA.out.below (HB1.out.trans (hb'.mono (by have := HSA.out; omega))) (fun h => HA.out.lt h))
            clear HBB HBN
            generalize binN ts k = y at *
            obtain ⟨y0, y1⟩ := y
            have cD : ∀ d os, Calls Try.prog 14 #[.slice (some ⟨g, 0, none⟩) ts.length cap, .int .i64 k] (grow (redrawn w1 d) os) fun e w'' => e = .returned (.agg #[.int .i64 y0, .int .i64 y1]) ∧ ∃ q : Regrown, w'' = grow (redrawn w1 q.d) q.os := fun d os => Calls.regrown_of (HCB.out _ (below_regrown w1 d os))
            have d0 := cell_regrown c0
            have d1 := cell_regrown q0
            have d2 := cell_regrown q1
            have heq := bnd_eql y0 y1 n r
            clear HCB
            by_cases hsame : sameB ⟨y0, y1⟩ n r = true
            · rw [hsame] at heq
              have HUX : Hid (useF ts n r (k + 1) = useF ts n r k ++ [(k : Int)]) := by show useF ts n r (k + 1) = _; rw [HUN.out, if_pos hsame]
              generalize useF ts n r k = U at *
              clear HUN
              go_wp2
              refine wp_region_quiet_below (by kernel_rfl) (by kernel_rfl) ?_
              repeat (go_big_quiet_step (exact cD _ _))
              refine wpQuiet_nil ?_
              intro _ hw'
              obtain ⟨⟨dq, osq⟩, hw''⟩ := hw'
              subst hw''
              have HBQ : Hid (Below wa.heap.size wa (grow (redrawn w1 dq) osq)) := hb1.trans ((below_regrown w1 dq osq).mono hs1)
              have HO2 : Hid (ownI (grow (redrawn w1 dq) osq) wa.heap.size u5 U) := ownI_kept HO1.out (below_regrown w1 dq osq) (Nat.le_refl _)
              have sq := HBQ.out.size
              clear cD d0 d1 d2 heq c0 q0 q1 HO1
              generalize grow (redrawn w1 dq) osq = w2 at *
              go_wp2_with (at_builtin; refine wpList_append_own _ rfl _ _ 40 rfl wa.heap.size 3 i0 _ 1 8 Try.underlying40 hi hz0 hz1 hz2 rfl (by decide) _ _ _ rfl (HO2.out.alloc _) ⟨w2.heap.size, 0, none⟩ 1 1 [.int .i64 k] rfl rfl ?a1 ?a2 ?a3 ?a4 ?a5 ?_)
              case a1 =>
                intro j u hj
                match j, hj with
                | 0, hj => simp at hj; subst hj; simp [Addr.add]
              case a2 => intro u hu; simp at hu; subst hu; rfl
              case a3 => unfold maxLen; omega
              case a4 => omega
              case a5 => simp; omega
              intro v' W3 hown' hgrow _
              have HM : Hid (ownI W3 wa.heap.size v' (useF ts n r (k + 1))) := by
                show ownI W3 wa.heap.size v' _
                rw [HUX.out]
                exact ownI_next _ hown' (by omega) rfl
              have HB3 : Hid (Below wa.heap.size wa W3) := (HBQ.out.alloc sq _).grown hgrow (by simp; omega) (fun q hq => (HO2.out.lt q hq).1)
              clear hown' hgrow HO2 HBQ
              go_wp2
              go_roundw
              case rel => exact ⟨k + 1, by omega, by go_num, fun _ => ⟨HOK.out, hn0⟩, HM, HB3.out⟩
              case measure => simp [intOf]; omega
            · have hsf : sameB ⟨y0, y1⟩ n r = false := by simpa using hsame
              rw [hsf] at heq
              have HUX : Hid (useF ts n r (k + 1) = useF ts n r k) := by show useF ts n r (k + 1) = _; rw [HUN.out, if_neg hsame, List.append_nil]
              clear HUN
              go_wp2
              refine wp_region_quiet_below (by kernel_rfl) (by kernel_rfl) ?_
              repeat (go_big_quiet_step (exact cD _ _))
              refine wpQuiet_nil ?_
              intro _ hw'
              obtain ⟨⟨dq, osq⟩, hw''⟩ := hw'
              subst hw''
              have HBQ : Hid (Below wa.heap.size wa (grow (redrawn w1 dq) osq)) := hb1.trans ((below_regrown w1 dq osq).mono hs1)
              have HO2 : Hid (ownI (grow (redrawn w1 dq) osq) wa.heap.size u5 (useF ts n r (k + 1))) := by
                show ownI _ _ _ _
                rw [HUX.out]
                exact ownI_kept HO1.out (below_regrown w1 dq osq) (Nat.le_refl _)
              clear cD d0 d1 d2 heq c0 q0 q1 HO1
              go_wp2
              go_roundw
              case rel => exact ⟨k + 1, by omega, by go_num, fun _ => ⟨HOK.out, hn0⟩, HO2, HBQ.out⟩
              case measure => simp [intOf]; omega
          · have n1 : (x0 == 1) = false := by simpa using hk1
            have HM : Hid (ownI w1 wa.heap.size u5 (useF ts n r (k + 1))) := by
              show ownI w1 wa.heap.size u5 _
              rw [HUN.out, HBN.out hk1, if_neg (by simp [sameB]; omega), List.append_nil]
              exact HO1.out
            clear HUN HBN HBB hk1
            go_wp2
            go_quiet (fail)
            go_wp2
            go_roundw
            case rel => exact ⟨k + 1, by omega, by go_num, fun _ => ⟨HOK.out, hn0⟩, HM.out, below_drew_n hb1 _⟩
            case measure => simp [intOf]; omega
    · obtain rfl : k = ts.length := by omega
      have HV : Hid (usesB ts n r = useF ts n r ts.length) := by
        show usesB ts n r = _
        unfold usesB
        split
        · rfl
        · rename_i hno
          have h0 : ts.length = 0 := by
            rcases Nat.eq_zero_or_pos ts.length with h | h
            · exact h
            · exact absurd (HKB.out h) hno
          rw [h0]; rfl
      have HBW : Hid (Below w.heap.size w wr) := (HNO.out wr hb).2
      clear HKB
      go_wp2
      go_ret
      exact ⟨_, rfl, by rw [HV.out]; exact ownI_base HO.out (by have := HSA.out; omega), HBW.out⟩

end Go.Proofs.Ytcpafjpjfinbkaa
