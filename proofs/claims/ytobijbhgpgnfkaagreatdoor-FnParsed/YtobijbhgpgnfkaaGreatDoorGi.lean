/-
  The draws of programs: one of which nothing is sure but that it is right. Conditions: written at each theorem.
-/
import Derived.Test.YtobijbhgpgnfkaaGreatDoorGj
namespace Go.Proofs.YtobijbhgpgnfkaaGreatDoor
open Go.ChangeShapes Go.WideShapes Go.ChangeAt Go.RowKit
set_option linter.unusedVariables false

theorem nodes_info : (Tryz.prog.info? 24).map (fun i => (i.zero, i.size, i.bytes)) = some (some (.slice none 0 0), 1, 24) := by kernel_rfl

/-- Parts that were drawn, as values in a row and as nodes. -/
def PartsAt (base : Nat) (w : World) (v : Value) (ps : List (Value × List Nod)) (most : Nat) : Prop :=
  w.ownsRow base 24 1 v ps.length (ps.map (·.1)) ∧ ∀ i, i < ps.length → ownNod w base (ps.getD i (.slice none 0 0, [])).1 (ps.getD i (.slice none 0 0, [])).2 ∧ 0 < (ps.getD i (.slice none 0 0, [])).2.length ∧ (ps.getD i (.slice none 0 0, [])).2.length ≤ most ∧ Trim (ps.getD i (.slice none 0 0, [])).2

theorem row_only {w w' : World} {B base : Nat} {e : TypeId} {v : Value} {n : Nat} {xs : List Value} (h : w.ownsRow base e 1 v n xs) (ho : Only B w w') (hB : B < base) : w'.ownsRow base e 1 v n xs := by
  refine ⟨h.1, ?_⟩
  rcases h.2 with h0 | ⟨g, cap, cur, hv, hbg, hg, rest⟩
  · exact .inl h0
  · exact .inr ⟨g, cap, cur, hv, hbg, (ho.block g (Array.getElem?_eq_some_iff.1 hg).1 (by omega)).trans hg, rest⟩

theorem PartsAt.only {base : Nat} {w w' : World} {v : Value} {ps : List (Value × List Nod)} {most B : Nat} (h : PartsAt base w v ps most) (ho : Only B w w') (hB : B < base) : PartsAt base w' v ps most :=
  ⟨row_only h.1 ho hB, fun i hi => ⟨ownNod_only (h.2 i hi).1 ho hB, (h.2 i hi).2⟩⟩

/-- A row's own block holds cells of its kind. -/
theorem row_kind {w : World} {base : Nat} {e : TypeId} {size : Nat} {v : Value} {n : Nat} {xs : List Value} (h : w.ownsRow base e size v n xs) : ∀ g, v.ownBlock = some g → ∃ c fz, w.heap[g]? = some (.cells c e fz) := by
  intro g hg
  rcases h.2 with ⟨rfl, _⟩ | ⟨g', cap, cur, rfl, _, hgg, _⟩
  · simp [Value.ownBlock] at hg
  · simp [Value.ownBlock] at hg
    subst hg
    exact ⟨cur, _, hgg⟩

theorem kind_ne {w : World} {g h : Nat} {c d : Array Value} {e k : TypeId} {y z : Nat × Nat} (hg : w.heap[g]? = some (.cells c e y)) (hh : w.heap[h]? = some (.cells d k z)) (hek : e ≠ k) : g ≠ h := by
  rintro rfl
  rw [hg] at hh
  injection hh with h1
  injection h1 with h2 h3
  exact hek h3

/-- Nodes stay when a row of another kind has grown. -/
theorem nod_grown {w w' : World} {base : Nat} {v u : Value} {l : List Nod} {n : Nat} {xs : List Value} (h : ownNod w base v l) (hr : w.ownsRow base 24 1 u n xs) (hg : w.grownBy w' u.ownBlock) : ownNod w' base v l := by
  refine ⟨h.1, ?_⟩
  rcases h.2 with h0 | ⟨g, cap, cur, hv, hbg, hgg, rest⟩
  · exact .inl h0
  · refine .inr ⟨g, cap, cur, hv, hbg, ?_, rest⟩
    rw [hg.block g (Array.getElem?_eq_some_iff.1 hgg).1 (fun e => by
      obtain ⟨c, fz, hc⟩ := row_kind hr g e.symm
      exact kind_ne hgg hc (by decide) rfl)]
    exact hgg

theorem getD_app {ps : List (Value × List Nod)} {x : Value × List Nod} {i : Nat} (h : i < ps.length) : (ps ++ [x]).getD i (.slice none 0 0, []) = ps.getD i (.slice none 0 0, []) := by
  simp [List.getD, List.getElem?_append_left h]
theorem getD_app_last {ps : List (Value × List Nod)} {x : Value × List Nod} {i : Nat} (h : i = ps.length) : (ps ++ [x]).getD i (.slice none 0 0, []) = x := by
  subst h
  simp [List.getD]

/-- What is asked of l3Loose where it goes no deeper than f. -/
def LooseC (f : Nat) : Prop := ∀ (a : Option Addr) (len cap : Nat) (zs : List Int) (B : Nat) (w : World) (s : Nat × Int) (deep : Int), CurAt a len cap zs B w s → deep ≤ f → -100 ≤ deep →
  Calls Tryz.prog 64 #[.pointer (some ⟨B, 0, none⟩), .int .i64 deep] w (DrawEnd a len cap zs B w (4 ^ f))

theorem only_set {B nb i : Nat} {w0 w : World} {v : Value} (h : Only B w0 w) (hn : w0.heap.size ≤ nb) : Only B w0 (w.setCell ⟨nb, i, none⟩ v) := by
  have hb : Below nb w (w.setCell ⟨nb, i, none⟩ v) := (Below.refl nb w).setCell (p := ⟨nb, i, none⟩) (Nat.le_refl _) v
  exact ⟨hb.os.trans h.os, hb.tape.trans h.tape, hb.output.trans h.output, Nat.le_trans h.size hb.size, fun k hk hB => (hb.block k (by omega)).trans (h.block k hk hB)⟩

theorem cur_set {a : Option Addr} {len cap : Nat} {zs : List Int} {B nb i : Nat} {w : World} {s : Nat × Int} {v : Value} (h : CurAt a len cap zs B w s) (hn : B < nb) : CurAt a len cap zs B (w.setCell ⟨nb, i, none⟩ v) s :=
  curAt_below h ((Below.refl nb w).setCell (p := ⟨nb, i, none⟩) (Nat.le_refl _) v) hn

theorem nod_frozen {w : World} {nb j : Nat} {c : Array Value} {t : TypeId} (h : w.heap[nb]? = some (.cells c t (0, 0))) : w.frozen? ⟨nb, j, none⟩ = false := frozen_of_row w _ j _ _ h

theorem cells7_nod {w : World} {g : Nat} {t : Nod} {e : TypeId} {z : Nat × Nat} (h : w.heap[g]? = some (.cells (nodCells t).toArray e z)) :
    w.cell? ⟨g, 0, none⟩ = some (.int .i64 t.kind) ∧ w.cell? ⟨g, 1, none⟩ = some (.int .i64 t.a) ∧ w.cell? ⟨g, 2, none⟩ = some (.int .i64 t.b) ∧ w.cell? ⟨g, 3, none⟩ = some (.int .i64 t.c) ∧ w.cell? ⟨g, 4, none⟩ = some (.int .i64 t.n) ∧ w.cell? ⟨g, 5, none⟩ = some (.string t.name) ∧ w.cell? ⟨g, 6, none⟩ = some (.string t.other) := by
  refine ⟨?_, ?_, ?_, ?_, ?_, ?_, ?_⟩ <;> (rw [cell_of_row _ _ _ _ _ _ h]; rfl)

theorem nm_le (k : Int) : nmN k ≤ 2 := by
  unfold nmN
  repeat' split
  all_goals omega

theorem mk_name : (Tryz.f95.name == "runtime.NumGoroutine") = false := by kernel_rfl
theorem mk_body : Tryz.f95.body.isNone = false := by kernel_rfl

theorem ar_leaf {K : Int} (h : K = 1 ∨ K = 2 ∨ K = 12) : arN K = 0 := by
  rcases h with rfl | rfl | rfl <;> decide

set_option maxHeartbeats 16000000 in
set_option maxRecDepth 20000 in
theorem loose_all (f mm : Nat) (a : Option Addr) (len cap : Nat) (zs : List Int) (B : Nat) (w0 : World) (s : Nat × Int) (deep : Int) (h : CurAt a len cap zs B w0 s)
    (hcase : (deep ≤ 0 ∧ mm = 1) ∨ (mm = 4 ^ (f + 1) ∧ LooseC f ∧ 1 ≤ deep ∧ deep ≤ f + 1)) (hlo : -100 ≤ deep) (hf : f ≤ 6) :
    Calls Tryz.prog 64 #[.pointer (some ⟨B, 0, none⟩), .int .i64 deep] w0 (DrawEnd a len cap zs B w0 mm) := by
  have HCS : Hid ((deep ≤ 0 ∧ mm = 1) ∨ (mm = 4 ^ (f + 1) ∧ LooseC f ∧ 1 ≤ deep ∧ deep ≤ f + 1)) := hcase
  have C0 : Hid (CurAt a len cap zs B w0 s) := h
  have N0 : Hid (Only B w0 w0) := Only.refl B w0
  have hBw : B < w0.heap.size := h.size
  have HP : Hid (4 * 4 ^ f = 4 ^ (f + 1) ∧ 1 ≤ 4 ^ f ∧ 4 ^ f ≤ 4096) := pow_facts hf
  clear hcase h
  go_enter Tryz.func64, Tryz.ntmps64
  go_wp2_with fail
  refine (below_some C0.out 19 (by omega) (by omega)).mono ?_
  rintro e w1 ⟨T, s1, rfl, hT0, hT1, c1, n1⟩
  have C1 : Hid (CurAt a len cap zs B w1 s1) := c1
  have N1 : Hid (Only B w0 w1) := N0.out.trans n1
  clear c1 n1
  rcases HCS.out with ⟨hd0, rfl⟩ | ⟨rfl, hG, hd1, hdf⟩
  · clear HCS
    go_wp2_with fail
    refine (pick_int (curAt_alloc C1.out _) [1, 2, 12, 1] w1.heap.size 4 rfl (by omega) (by omega) (by simp) (by have := C1.out.size; omega) (row_ints w1 [1, 2, 12, 1] 3 _ rfl)).mono ?_
    rintro e w2 ⟨V, s2, hV, rfl, c2, no2⟩
    have C2 : Hid (CurAt a len cap zs B w2 s2) := c2
    have N2 : Hid (Only B w0 w2) := N1.out.trans ((only_alloc w1 _).trans no2)
    clear c2 no2
    have hV' : V = 1 ∨ V = 2 ∨ V = 12 := by simp at hV; omega
    clear hV
    rcases hV' with rfl | rfl | rfl
    · obtain ⟨w3, hw3⟩ : ∃ x, w2.alloc (.cells #[.int .i64 (1), .int .i64 0, .int .i64 0, .int .i64 0, .int .i64 0, .string ⟨#[]⟩, .string ⟨#[]⟩] 58) = x := ⟨_, rfl⟩
      have HW3 : Hid (w2.alloc (.cells #[.int .i64 (1), .int .i64 0, .int .i64 0, .int .i64 0, .int .i64 0, .string ⟨#[]⟩, .string ⟨#[]⟩] 58) = w3) := hw3
      have hnb0 : w2.heap.size = w2.heap.size := rfl
      have R3 : Hid (w3.heap[w2.heap.size]? = some (.cells #[.int .i64 (1), .int .i64 0, .int .i64 0, .int .i64 0, .int .i64 0, .string ⟨#[]⟩, .string ⟨#[]⟩] 58 (0, 0))) := by show w3.heap[w2.heap.size]? = _; rw [← hw3]; exact (MapKept.heap_alloc w2 _).1
      have C3 : Hid (CurAt a len cap zs B w3 s2) := by rw [← hw3]; exact curAt_alloc C2.out _
      have N3 : Hid (Only B w0 w3) := by rw [← hw3]; exact N2.out.trans (only_alloc w2 _)
      have hnw : w0.heap.size ≤ w2.heap.size := N2.out.size
      clear hw3 hnb0
      go_wp2_with fail
      rw [HW3.out]
      refine (spec_names 1 _).mono ?_
      rintro e w3 ⟨rfl, rfl⟩
      rw [show nmN 1 = 1 from rfl]
      go_wp2_with fail
      refine (pick_text (curAt_alloc C3.out _) [⟨#[120]⟩, ⟨#[121]⟩, ⟨#[102]⟩] w3.heap.size 3 rfl (by omega) (by omega) (by simp) (by have := C3.out.size; omega) (row_new w3 [⟨#[120]⟩, ⟨#[121]⟩, ⟨#[102]⟩] 9 _ rfl)).mono ?_
      rintro e w4 ⟨X, s4, hm4, rfl, c4, no4⟩
      have hzX : Fit9 X := (by decide : ∀ t ∈ ([⟨#[120]⟩, ⟨#[121]⟩, ⟨#[102]⟩] : List ByteArray), Fit9 t) X hm4
      have n4 : Only B w3 w4 := (only_alloc w3 _).trans no4
      have C4 : Hid (CurAt a len cap zs B w4 s4) := c4
      have N4 : Hid (Only B w0 w4) := N3.out.trans n4
      have R4 : Hid (w4.heap[w2.heap.size]? = some (.cells #[.int .i64 (1), .int .i64 0, .int .i64 0, .int .i64 0, .int .i64 0, .string ⟨#[]⟩, .string ⟨#[]⟩] 58 (0, 0))) := ((n4).block _ (Array.getElem?_eq_some_iff.1 R3.out).1 (by omega)).trans R3.out
      clear c4 n4 no4 hm4
      have fz4 : w4.frozen? ⟨w2.heap.size, 5, none⟩ = false := nod_frozen R4.out
      have ex4 := cell_of_row w4 w2.heap.size 5 _ _ _ R4.out
      simp at ex4
      obtain ⟨w5, hw5⟩ : ∃ x, w4.setCell ⟨w2.heap.size, 5, none⟩ (.string X) = x := ⟨_, rfl⟩
      have HW5 : Hid (w4.setCell ⟨w2.heap.size, 5, none⟩ (.string X) = w5) := hw5
      have R5 : Hid (w5.heap[w2.heap.size]? = some (.cells #[.int .i64 (1), .int .i64 0, .int .i64 0, .int .i64 0, .int .i64 0, .string X, .string ⟨#[]⟩] 58 (0, 0))) := by show w5.heap[w2.heap.size]? = _; rw [← hw5]; exact heap_setCell_same w4 _ 5 _ _ _ R4.out
      have C5 : Hid (CurAt a len cap zs B w5 s4) := by rw [← hw5]; exact cur_set C4.out (by omega)
      have N5 : Hid (Only B w0 w5) := by rw [← hw5]; exact only_set N4.out hnw
      have HZ5 : Hid (w5.heap.size = w4.heap.size) := by show w5.heap.size = _; rw [← hw5]; simp [World.setCell]
      clear hw5
      go_wp2_with fail
      rw [HW5.out]
      clear fz4 ex4
      refine (spec_names 1 _).mono ?_
      rintro e w5 ⟨rfl, rfl⟩
      rw [show nmN 1 = 1 from rfl]
      have hzw := N5.out.size
      have P0 : Hid (PartsAt w0.heap.size (w5.alloc (.cells #[] 24)) (.slice (some ⟨w5.heap.size, 0, none⟩) 0 0) [] (4 ^ f)) := by exact ⟨World.ownsRow_lit w5 #[] 0 hzw (by omega) rfl, fun q hq => by simp at hq⟩
      have PC : Hid (CurAt a len cap zs B (w5.alloc (.cells #[] 24)) s4) := curAt_alloc C5.out _
      have PN : Hid (Only B w0 (w5.alloc (.cells #[] 24))) := N5.out.trans (only_alloc _ _)
      have PR : Hid ((w5.alloc (.cells #[] 24)).heap[w2.heap.size]? = some (.cells #[.int .i64 (1), .int .i64 0, .int .i64 0, .int .i64 0, .int .i64 0, .string X, .string ⟨#[]⟩] 58 (0, 0))) := (((Below.refl _ w5).alloc (Nat.le_refl _) _).block _ (Array.getElem?_eq_some_iff.1 R5.out).1).trans R5.out
      have HT : Hid (Trim1 ⟨1, 0, 0, 0, 0, X, ⟨#[]⟩⟩) := trim_node (hzX) (by decide)
      have hA3 := arN_le 1
      obtain ⟨A, hA⟩ : ∃ A, arN 1 = A := ⟨_, rfl⟩
      have HA : Hid (arN 1 = A) := hA
      rw [hA] at hA3
      clear hA
      go_wp2
      go_loopw [7, 8] (fun v i wr => ∃ (q : Nat) (sx : Nat × Int) (ps : List (Value × List Nod)), q ≤ A ∧ ps.length = q ∧ i = .int .i64 q ∧ (∃ g c, v = .slice (some ⟨g, 0, none⟩) q c) ∧ Hid (PartsAt w0.heap.size wr v ps (4 ^ f)) ∧ Hid (CurAt a len cap zs B wr sx) ∧ Hid (Only B w0 wr) ∧ Hid (wr.heap[w2.heap.size]? = some (.cells #[.int .i64 (1), .int .i64 0, .int .i64 0, .int .i64 0, .int .i64 0, .string X, .string ⟨#[]⟩] 58 (0, 0)))) (fun _ i _ => A - (intOf i).toNat)
      case atStart => exact ⟨0, s4, [], by omega, rfl, rfl, ⟨_, _, rfl⟩, P0, PC, PN, PR⟩
      case round =>
        clear P0 PC PN PR
        obtain ⟨q, sx, ps, hqA, hpl, rfl, ⟨gp, cp, rfl⟩, HPA, HC, HN, HR⟩ := hrel
        go_wp2_with fail
        refine (spec_arity 1 _).mono ?_
        rintro e wq ⟨rfl, rfl⟩
        rw [HA.out]
        by_cases hin : q < A
        · have := HA.out
          have h0 : arN 1 = 0 := by decide
          omega
        · obtain rfl : q = A := by omega
          obtain ⟨t0, t1, t2, t3, t4, t5, t6⟩ := cells7_nod (t := ⟨1, 0, 0, 0, 0, X, ⟨#[]⟩⟩) HR.out
          simp only at t0 t1 t2 t3 t4 t5 t6
          have hPP := HP.out
          obtain rfl : q = 0 := by rw [← HA.out]; decide
          have D : Hid (DrawEnd a len cap zs B w0 1 (.returned (.slice (some ⟨wq.heap.size, 0, none⟩) 1 1)) (wq.alloc (.cells #[.int .i64 (1), .int .i64 0, .int .i64 0, .int .i64 0, .int .i64 0, .string X, .string ⟨#[]⟩] 58))) := one_end ⟨1, 0, 0, 0, 0, X, ⟨#[]⟩⟩ HN.out HC.out (by omega) HT.out
          clear hPP
          go_wp2
          go_ret
          exact D.out
    · obtain ⟨w3, hw3⟩ : ∃ x, w2.alloc (.cells #[.int .i64 (2), .int .i64 0, .int .i64 0, .int .i64 0, .int .i64 0, .string ⟨#[]⟩, .string ⟨#[]⟩] 58) = x := ⟨_, rfl⟩
      have HW3 : Hid (w2.alloc (.cells #[.int .i64 (2), .int .i64 0, .int .i64 0, .int .i64 0, .int .i64 0, .string ⟨#[]⟩, .string ⟨#[]⟩] 58) = w3) := hw3
      have hnb0 : w2.heap.size = w2.heap.size := rfl
      have R3 : Hid (w3.heap[w2.heap.size]? = some (.cells #[.int .i64 (2), .int .i64 0, .int .i64 0, .int .i64 0, .int .i64 0, .string ⟨#[]⟩, .string ⟨#[]⟩] 58 (0, 0))) := by show w3.heap[w2.heap.size]? = _; rw [← hw3]; exact (MapKept.heap_alloc w2 _).1
      have C3 : Hid (CurAt a len cap zs B w3 s2) := by rw [← hw3]; exact curAt_alloc C2.out _
      have N3 : Hid (Only B w0 w3) := by rw [← hw3]; exact N2.out.trans (only_alloc w2 _)
      have hnw : w0.heap.size ≤ w2.heap.size := N2.out.size
      clear hw3 hnb0
      go_wp2_with fail
      rw [HW3.out]
      refine (spec_names 2 _).mono ?_
      rintro e w3 ⟨rfl, rfl⟩
      rw [show nmN 2 = 0 from rfl]
      go_wp2_with fail
      refine (spec_names 2 _).mono ?_
      rintro e w3 ⟨rfl, rfl⟩
      rw [show nmN 2 = 0 from rfl]
      go_wp2_with fail
      refine (below_some C3.out 9 (by omega) (by omega)).mono ?_
      rintro e w4 ⟨Z, s4, rfl, hq4, hr4, c4, n4⟩
      have C4 : Hid (CurAt a len cap zs B w4 s4) := c4
      have N4 : Hid (Only B w0 w4) := N3.out.trans n4
      have R4 : Hid (w4.heap[w2.heap.size]? = some (.cells #[.int .i64 (2), .int .i64 0, .int .i64 0, .int .i64 0, .int .i64 0, .string ⟨#[]⟩, .string ⟨#[]⟩] 58 (0, 0))) := ((n4).block _ (Array.getElem?_eq_some_iff.1 R3.out).1 (by omega)).trans R3.out
      clear c4 n4
      have fz4 : w4.frozen? ⟨w2.heap.size, 4, none⟩ = false := nod_frozen R4.out
      have ex4 := cell_of_row w4 w2.heap.size 4 _ _ _ R4.out
      simp at ex4
      obtain ⟨w5, hw5⟩ : ∃ x, w4.setCell ⟨w2.heap.size, 4, none⟩ (.int .i64 Z) = x := ⟨_, rfl⟩
      have HW5 : Hid (w4.setCell ⟨w2.heap.size, 4, none⟩ (.int .i64 Z) = w5) := hw5
      have R5 : Hid (w5.heap[w2.heap.size]? = some (.cells #[.int .i64 (2), .int .i64 0, .int .i64 0, .int .i64 0, .int .i64 Z, .string ⟨#[]⟩, .string ⟨#[]⟩] 58 (0, 0))) := by show w5.heap[w2.heap.size]? = _; rw [← hw5]; exact heap_setCell_same w4 _ 4 _ _ _ R4.out
      have C5 : Hid (CurAt a len cap zs B w5 s4) := by rw [← hw5]; exact cur_set C4.out (by omega)
      have N5 : Hid (Only B w0 w5) := by rw [← hw5]; exact only_set N4.out hnw
      have HZ5 : Hid (w5.heap.size = w4.heap.size) := by show w5.heap.size = _; rw [← hw5]; simp [World.setCell]
      clear hw5
      have hzw := N5.out.size
      have P0 : Hid (PartsAt w0.heap.size (w5.alloc (.cells #[] 24)) (.slice (some ⟨w4.heap.size, 0, none⟩) 0 0) [] (4 ^ f)) := by rw [← HZ5.out]; exact ⟨World.ownsRow_lit w5 #[] 0 hzw (by omega) rfl, fun q hq => by simp at hq⟩
      have PC : Hid (CurAt a len cap zs B (w5.alloc (.cells #[] 24)) s4) := curAt_alloc C5.out _
      have PN : Hid (Only B w0 (w5.alloc (.cells #[] 24))) := N5.out.trans (only_alloc _ _)
      have PR : Hid ((w5.alloc (.cells #[] 24)).heap[w2.heap.size]? = some (.cells #[.int .i64 (2), .int .i64 0, .int .i64 0, .int .i64 0, .int .i64 Z, .string ⟨#[]⟩, .string ⟨#[]⟩] 58 (0, 0))) := (((Below.refl _ w5).alloc (Nat.le_refl _) _).block _ (Array.getElem?_eq_some_iff.1 R5.out).1).trans R5.out
      have HT : Hid (Trim1 ⟨2, 0, 0, 0, Z, ⟨#[]⟩, ⟨#[]⟩⟩) := trim_node (by decide) (by decide)
      have hA3 := arN_le 2
      obtain ⟨A, hA⟩ : ∃ A, arN 2 = A := ⟨_, rfl⟩
      have HA : Hid (arN 2 = A) := hA
      rw [hA] at hA3
      clear hA
      go_wp2
      rw [HW5.out]
      clear fz4 ex4
      go_loopw [7, 8] (fun v i wr => ∃ (q : Nat) (sx : Nat × Int) (ps : List (Value × List Nod)), q ≤ A ∧ ps.length = q ∧ i = .int .i64 q ∧ (∃ g c, v = .slice (some ⟨g, 0, none⟩) q c) ∧ Hid (PartsAt w0.heap.size wr v ps (4 ^ f)) ∧ Hid (CurAt a len cap zs B wr sx) ∧ Hid (Only B w0 wr) ∧ Hid (wr.heap[w2.heap.size]? = some (.cells #[.int .i64 (2), .int .i64 0, .int .i64 0, .int .i64 0, .int .i64 Z, .string ⟨#[]⟩, .string ⟨#[]⟩] 58 (0, 0)))) (fun _ i _ => A - (intOf i).toNat)
      case atStart => exact ⟨0, s4, [], by omega, rfl, rfl, ⟨_, _, rfl⟩, P0, PC, PN, PR⟩
      case round =>
        clear P0 PC PN PR
        obtain ⟨q, sx, ps, hqA, hpl, rfl, ⟨gp, cp, rfl⟩, HPA, HC, HN, HR⟩ := hrel
        go_wp2_with fail
        refine (spec_arity 2 _).mono ?_
        rintro e wq ⟨rfl, rfl⟩
        rw [HA.out]
        by_cases hin : q < A
        · have := HA.out
          have h0 : arN 2 = 0 := by decide
          omega
        · obtain rfl : q = A := by omega
          obtain ⟨t0, t1, t2, t3, t4, t5, t6⟩ := cells7_nod (t := ⟨2, 0, 0, 0, Z, ⟨#[]⟩, ⟨#[]⟩⟩) HR.out
          simp only at t0 t1 t2 t3 t4 t5 t6
          have hPP := HP.out
          obtain rfl : q = 0 := by rw [← HA.out]; decide
          have D : Hid (DrawEnd a len cap zs B w0 1 (.returned (.slice (some ⟨wq.heap.size, 0, none⟩) 1 1)) (wq.alloc (.cells #[.int .i64 (2), .int .i64 0, .int .i64 0, .int .i64 0, .int .i64 Z, .string ⟨#[]⟩, .string ⟨#[]⟩] 58))) := one_end ⟨2, 0, 0, 0, Z, ⟨#[]⟩, ⟨#[]⟩⟩ HN.out HC.out (by omega) HT.out
          clear hPP
          go_wp2
          go_ret
          exact D.out
    · obtain ⟨w3, hw3⟩ : ∃ x, w2.alloc (.cells #[.int .i64 (12), .int .i64 0, .int .i64 0, .int .i64 0, .int .i64 0, .string ⟨#[]⟩, .string ⟨#[]⟩] 58) = x := ⟨_, rfl⟩
      have HW3 : Hid (w2.alloc (.cells #[.int .i64 (12), .int .i64 0, .int .i64 0, .int .i64 0, .int .i64 0, .string ⟨#[]⟩, .string ⟨#[]⟩] 58) = w3) := hw3
      have hnb0 : w2.heap.size = w2.heap.size := rfl
      have R3 : Hid (w3.heap[w2.heap.size]? = some (.cells #[.int .i64 (12), .int .i64 0, .int .i64 0, .int .i64 0, .int .i64 0, .string ⟨#[]⟩, .string ⟨#[]⟩] 58 (0, 0))) := by show w3.heap[w2.heap.size]? = _; rw [← hw3]; exact (MapKept.heap_alloc w2 _).1
      have C3 : Hid (CurAt a len cap zs B w3 s2) := by rw [← hw3]; exact curAt_alloc C2.out _
      have N3 : Hid (Only B w0 w3) := by rw [← hw3]; exact N2.out.trans (only_alloc w2 _)
      have hnw : w0.heap.size ≤ w2.heap.size := N2.out.size
      clear hw3 hnb0
      go_wp2_with fail
      rw [HW3.out]
      refine (spec_names 12 _).mono ?_
      rintro e w3 ⟨rfl, rfl⟩
      rw [show nmN 12 = 0 from rfl]
      go_wp2_with fail
      refine (spec_names 12 _).mono ?_
      rintro e w3 ⟨rfl, rfl⟩
      rw [show nmN 12 = 0 from rfl]
      have hzw := N3.out.size
      have P0 : Hid (PartsAt w0.heap.size (w3.alloc (.cells #[] 24)) (.slice (some ⟨w3.heap.size, 0, none⟩) 0 0) [] (4 ^ f)) := by exact ⟨World.ownsRow_lit w3 #[] 0 hzw (by omega) rfl, fun q hq => by simp at hq⟩
      have PC : Hid (CurAt a len cap zs B (w3.alloc (.cells #[] 24)) s2) := curAt_alloc C3.out _
      have PN : Hid (Only B w0 (w3.alloc (.cells #[] 24))) := N3.out.trans (only_alloc _ _)
      have PR : Hid ((w3.alloc (.cells #[] 24)).heap[w2.heap.size]? = some (.cells #[.int .i64 (12), .int .i64 0, .int .i64 0, .int .i64 0, .int .i64 0, .string ⟨#[]⟩, .string ⟨#[]⟩] 58 (0, 0))) := (((Below.refl _ w3).alloc (Nat.le_refl _) _).block _ (Array.getElem?_eq_some_iff.1 R3.out).1).trans R3.out
      have HT : Hid (Trim1 ⟨12, 0, 0, 0, 0, ⟨#[]⟩, ⟨#[]⟩⟩) := trim_node (by decide) (by decide)
      have hA3 := arN_le 12
      obtain ⟨A, hA⟩ : ∃ A, arN 12 = A := ⟨_, rfl⟩
      have HA : Hid (arN 12 = A) := hA
      rw [hA] at hA3
      clear hA
      go_wp2
      go_loopw [7, 8] (fun v i wr => ∃ (q : Nat) (sx : Nat × Int) (ps : List (Value × List Nod)), q ≤ A ∧ ps.length = q ∧ i = .int .i64 q ∧ (∃ g c, v = .slice (some ⟨g, 0, none⟩) q c) ∧ Hid (PartsAt w0.heap.size wr v ps (4 ^ f)) ∧ Hid (CurAt a len cap zs B wr sx) ∧ Hid (Only B w0 wr) ∧ Hid (wr.heap[w2.heap.size]? = some (.cells #[.int .i64 (12), .int .i64 0, .int .i64 0, .int .i64 0, .int .i64 0, .string ⟨#[]⟩, .string ⟨#[]⟩] 58 (0, 0)))) (fun _ i _ => A - (intOf i).toNat)
      case atStart => exact ⟨0, s2, [], by omega, rfl, rfl, ⟨_, _, rfl⟩, P0, PC, PN, PR⟩
      case round =>
        clear P0 PC PN PR
        obtain ⟨q, sx, ps, hqA, hpl, rfl, ⟨gp, cp, rfl⟩, HPA, HC, HN, HR⟩ := hrel
        go_wp2_with fail
        refine (spec_arity 12 _).mono ?_
        rintro e wq ⟨rfl, rfl⟩
        rw [HA.out]
        by_cases hin : q < A
        · have := HA.out
          have h0 : arN 12 = 0 := by decide
          omega
        · obtain rfl : q = A := by omega
          obtain ⟨t0, t1, t2, t3, t4, t5, t6⟩ := cells7_nod (t := ⟨12, 0, 0, 0, 0, ⟨#[]⟩, ⟨#[]⟩⟩) HR.out
          simp only at t0 t1 t2 t3 t4 t5 t6
          have hPP := HP.out
          obtain rfl : q = 0 := by rw [← HA.out]; decide
          have D : Hid (DrawEnd a len cap zs B w0 1 (.returned (.slice (some ⟨wq.heap.size, 0, none⟩) 1 1)) (wq.alloc (.cells #[.int .i64 (12), .int .i64 0, .int .i64 0, .int .i64 0, .int .i64 0, .string ⟨#[]⟩, .string ⟨#[]⟩] 58))) := one_end ⟨12, 0, 0, 0, 0, ⟨#[]⟩, ⟨#[]⟩⟩ HN.out HC.out (by omega) HT.out
          clear hPP
          go_wp2
          go_ret
          exact D.out
  · have HG : Hid (LooseC f) := hG
    clear hG HCS
    have hdn : ¬ deep ≤ 0 := by omega
    by_cases hK2 : T = 1
    · subst hK2
      obtain ⟨w2, hw2⟩ : ∃ x, w1.alloc (.cells #[.int .i64 (2), .int .i64 0, .int .i64 0, .int .i64 0, .int .i64 0, .string ⟨#[]⟩, .string ⟨#[]⟩] 58) = x := ⟨_, rfl⟩
      have HW2 : Hid (w1.alloc (.cells #[.int .i64 (2), .int .i64 0, .int .i64 0, .int .i64 0, .int .i64 0, .string ⟨#[]⟩, .string ⟨#[]⟩] 58) = w2) := hw2
      have hnb0 : w1.heap.size = w1.heap.size := rfl
      have R2 : Hid (w2.heap[w1.heap.size]? = some (.cells #[.int .i64 (2), .int .i64 0, .int .i64 0, .int .i64 0, .int .i64 0, .string ⟨#[]⟩, .string ⟨#[]⟩] 58 (0, 0))) := by show w2.heap[w1.heap.size]? = _; rw [← hw2]; exact (MapKept.heap_alloc w1 _).1
      have C2 : Hid (CurAt a len cap zs B w2 s1) := by rw [← hw2]; exact curAt_alloc C1.out _
      have N2 : Hid (Only B w0 w2) := by rw [← hw2]; exact N1.out.trans (only_alloc w1 _)
      have hnw : w0.heap.size ≤ w1.heap.size := N1.out.size
      clear hw2 hnb0
      go_wp2_with fail
      rw [HW2.out]
      refine (spec_names 2 _).mono ?_
      rintro e w2 ⟨rfl, rfl⟩
      rw [show nmN 2 = 0 from rfl]
      go_wp2_with fail
      refine (spec_names 2 _).mono ?_
      rintro e w2 ⟨rfl, rfl⟩
      rw [show nmN 2 = 0 from rfl]
      go_wp2_with fail
      refine (below_some C2.out 9 (by omega) (by omega)).mono ?_
      rintro e w3 ⟨Z, s3, rfl, hq3, hr3, c3, n3⟩
      have C3 : Hid (CurAt a len cap zs B w3 s3) := c3
      have N3 : Hid (Only B w0 w3) := N2.out.trans n3
      have R3 : Hid (w3.heap[w1.heap.size]? = some (.cells #[.int .i64 (2), .int .i64 0, .int .i64 0, .int .i64 0, .int .i64 0, .string ⟨#[]⟩, .string ⟨#[]⟩] 58 (0, 0))) := ((n3).block _ (Array.getElem?_eq_some_iff.1 R2.out).1 (by omega)).trans R2.out
      clear c3 n3
      have fz3 : w3.frozen? ⟨w1.heap.size, 4, none⟩ = false := nod_frozen R3.out
      have ex3 := cell_of_row w3 w1.heap.size 4 _ _ _ R3.out
      simp at ex3
      obtain ⟨w4, hw4⟩ : ∃ x, w3.setCell ⟨w1.heap.size, 4, none⟩ (.int .i64 Z) = x := ⟨_, rfl⟩
      have HW4 : Hid (w3.setCell ⟨w1.heap.size, 4, none⟩ (.int .i64 Z) = w4) := hw4
      have R4 : Hid (w4.heap[w1.heap.size]? = some (.cells #[.int .i64 (2), .int .i64 0, .int .i64 0, .int .i64 0, .int .i64 Z, .string ⟨#[]⟩, .string ⟨#[]⟩] 58 (0, 0))) := by show w4.heap[w1.heap.size]? = _; rw [← hw4]; exact heap_setCell_same w3 _ 4 _ _ _ R3.out
      have C4 : Hid (CurAt a len cap zs B w4 s3) := by rw [← hw4]; exact cur_set C3.out (by omega)
      have N4 : Hid (Only B w0 w4) := by rw [← hw4]; exact only_set N3.out hnw
      have HZ4 : Hid (w4.heap.size = w3.heap.size) := by show w4.heap.size = _; rw [← hw4]; simp [World.setCell]
      clear hw4
      have hzw := N4.out.size
      have P0 : Hid (PartsAt w0.heap.size (w4.alloc (.cells #[] 24)) (.slice (some ⟨w3.heap.size, 0, none⟩) 0 0) [] (4 ^ f)) := by rw [← HZ4.out]; exact ⟨World.ownsRow_lit w4 #[] 0 hzw (by omega) rfl, fun q hq => by simp at hq⟩
      have PC : Hid (CurAt a len cap zs B (w4.alloc (.cells #[] 24)) s3) := curAt_alloc C4.out _
      have PN : Hid (Only B w0 (w4.alloc (.cells #[] 24))) := N4.out.trans (only_alloc _ _)
      have PR : Hid ((w4.alloc (.cells #[] 24)).heap[w1.heap.size]? = some (.cells #[.int .i64 (2), .int .i64 0, .int .i64 0, .int .i64 0, .int .i64 Z, .string ⟨#[]⟩, .string ⟨#[]⟩] 58 (0, 0))) := (((Below.refl _ w4).alloc (Nat.le_refl _) _).block _ (Array.getElem?_eq_some_iff.1 R4.out).1).trans R4.out
      have HT : Hid (Trim1 ⟨2, 0, 0, 0, Z, ⟨#[]⟩, ⟨#[]⟩⟩) := trim_node (by decide) (by decide)
      have hA3 := arN_le 2
      obtain ⟨A, hA⟩ : ∃ A, arN 2 = A := ⟨_, rfl⟩
      have HA : Hid (arN 2 = A) := hA
      rw [hA] at hA3
      clear hA
      go_wp2
      rw [HW4.out]
      clear fz3 ex3
      go_loopw [7, 8] (fun v i wr => ∃ (q : Nat) (sx : Nat × Int) (ps : List (Value × List Nod)), q ≤ A ∧ ps.length = q ∧ i = .int .i64 q ∧ (∃ g c, v = .slice (some ⟨g, 0, none⟩) q c) ∧ Hid (PartsAt w0.heap.size wr v ps (4 ^ f)) ∧ Hid (CurAt a len cap zs B wr sx) ∧ Hid (Only B w0 wr) ∧ Hid (wr.heap[w1.heap.size]? = some (.cells #[.int .i64 (2), .int .i64 0, .int .i64 0, .int .i64 0, .int .i64 Z, .string ⟨#[]⟩, .string ⟨#[]⟩] 58 (0, 0)))) (fun _ i _ => A - (intOf i).toNat)
      case atStart => exact ⟨0, s3, [], by omega, rfl, rfl, ⟨_, _, rfl⟩, P0, PC, PN, PR⟩
      case round =>
        clear P0 PC PN PR
        obtain ⟨q, sx, ps, hqA, hpl, rfl, ⟨gp, cp, rfl⟩, HPA, HC, HN, HR⟩ := hrel
        go_wp2_with fail
        refine (spec_arity 2 _).mono ?_
        rintro e wq ⟨rfl, rfl⟩
        rw [HA.out]
        by_cases hin : q < A
        · have hin' : (q : Int) < A := by omega
          go_wp2_with fail
          refine (below_some HC.out 2 (by omega) (by omega)).mono ?_
          rintro e u1 ⟨D, y1, rfl, hD0, hD1, c1, n1⟩
          have V1 : Hid (CurAt a len cap zs B u1 y1) := c1
          have M1 : Hid (Only B wq u1) := n1
          clear c1 n1
          go_wp2_with fail
          refine (HG.out a len cap zs B u1 y1 (deep - 1 - D) V1.out (by omega) (by omega)).mono ?_
          rintro e u2 ⟨v2, l2, y2, rfl, o2, p2, m2, t2, c2, n2⟩
          obtain ⟨b2, g2, k2, sp2, rfl, -⟩ := ownNod_form o2
          have O2 : Hid (ownNod u2 w0.heap.size (.slice b2 l2.length k2) l2) := ownNod_base o2 (HN.out.trans M1.out).size
          have M2 : Hid (Only B wq u2) := M1.out.trans n2
          have V2 : Hid (CurAt a len cap zs B u2 y2) := c2
          have T2 : Hid (Trim l2) := t2
          have PA2 : Hid (PartsAt w0.heap.size u2 (.slice (some ⟨gp, 0, none⟩) q cp) ps (4 ^ f)) := HPA.out.only M2.out hBw
          have hzu := (HN.out.trans M2.out).size
          have RR2 : Hid (u2.heap[w1.heap.size]? = some (.cells #[.int .i64 (2), .int .i64 0, .int .i64 0, .int .i64 0, .int .i64 Z, .string ⟨#[]⟩, .string ⟨#[]⟩] 58 (0, 0))) := (M2.out.block _ (Array.getElem?_eq_some_iff.1 HR.out).1 (by omega)).trans HR.out
          obtain ⟨i0, hii, hz0, hz1, hz2⟩ := info_parts nodes_info
          have OW : Hid (u2.ownsRow w0.heap.size 24 1 (.slice (some ⟨gp, 0, none⟩) q cp) q (ps.map (·.1))) := by have := PA2.out.1; rw [hpl] at this; exact this
          clear c2 n2 o2 t2
          go_wp2_with (at_builtin; refine wpList_append_own _ rfl _ _ 129 rfl w0.heap.size 24 i0 (.slice none 0 0) 1 24 Tryz.underlying129 hii hz0 hz1 hz2 rfl (by decide) _ _ _ rfl (OW.out.alloc _) ⟨u2.heap.size, 0, none⟩ 1 1 [.slice b2 l2.length k2] rfl rfl (by intro j u hj; match j, hj with | 0, hj => simp at hj; subst hj; simp [Addr.add]) (by intro u hu; simp at hu; subst hu; rfl) (by unfold maxLen; omega) (by omega) (by simp; omega) ?_)
          intro v3 u3 o3 g3 e3
          obtain ⟨gq, cq, rfl, -⟩ := row_slice o3 e3
          have bel3 : Below w0.heap.size u2 u3 := ((Below.refl _ u2).alloc (by omega) _).grown g3 (by simp; omega) (fun k hk => (OW.out.lt k hk).1)
          have al : Below u2.heap.size u2 (u2.alloc (.cells #[.slice b2 l2.length k2] 24)) := (Below.refl _ u2).alloc (Nat.le_refl _) _
          have PA3 : Hid (PartsAt w0.heap.size u3 (.slice (some ⟨gq, 0, none⟩) (q + 1) cq) (ps ++ [(.slice b2 l2.length k2, l2)]) (4 ^ f)) := by
            refine ⟨?_, fun k hk => ?_⟩
            · rw [List.length_append, hpl, List.map_append]
              exact o3
            · simp only [List.length_append, List.length_cons, List.length_nil] at hk
              by_cases hkl : k < ps.length
              · rw [getD_app hkl]
                obtain ⟨x1, x2⟩ := PA2.out.2 k hkl
                exact ⟨nod_grown (ownNod_kept x1 al (Nat.le_refl _)) (OW.out.alloc _) g3, x2⟩
              · rw [getD_app_last (by omega)]
                exact ⟨nod_grown (ownNod_kept O2.out al (Nat.le_refl _)) (OW.out.alloc _) g3, p2, m2, T2.out⟩
          have V3 : Hid (CurAt a len cap zs B u3 y2) := curAt_below V2.out bel3 hBw
          have M3 : Hid (Only B w0 u3) := ⟨bel3.os.trans (HN.out.trans M2.out).os, bel3.tape.trans (HN.out.trans M2.out).tape, bel3.output.trans (HN.out.trans M2.out).output, Nat.le_trans (HN.out.trans M2.out).size bel3.size, fun k hk hkB => (bel3.block k hk).trans ((HN.out.trans M2.out).block k hk hkB)⟩
          have RR3 : Hid (u3.heap[w1.heap.size]? = some (.cells #[.int .i64 (2), .int .i64 0, .int .i64 0, .int .i64 0, .int .i64 Z, .string ⟨#[]⟩, .string ⟨#[]⟩] 58 (0, 0))) := by
            have ha := (al.block _ (Array.getElem?_eq_some_iff.1 RR2.out).1).trans RR2.out
            have hgl := (Array.getElem?_eq_some_iff.1 ha).1
            exact (g3.block _ hgl (fun e => by
              obtain ⟨cc, fz, hc⟩ := row_kind (OW.out.alloc _) _ e.symm
              exact kind_ne ha hc (by decide) rfl)).trans ha
          clear o3 g3 e3 bel3 al
          go_wp2
          go_roundw
          case rel => exact ⟨q + 1, y2, _, by omega, by simp [hpl], by go_num, ⟨_, _, rfl⟩, PA3, V3, M3, RR3⟩
          case measure => simp [intOf]; omega
        · obtain rfl : q = A := by omega
          obtain ⟨t0, t1, t2, t3, t4, t5, t6⟩ := cells7_nod (t := ⟨2, 0, 0, 0, Z, ⟨#[]⟩, ⟨#[]⟩⟩) HR.out
          simp only at t0 t1 t2 t3 t4 t5 t6
          have hPP := HP.out
          obtain rfl : q = 0 := by rw [← HA.out]; decide
          have D : Hid (DrawEnd a len cap zs B w0 (4 ^ (f + 1)) (.returned (.slice (some ⟨wq.heap.size, 0, none⟩) 1 1)) (wq.alloc (.cells #[.int .i64 (2), .int .i64 0, .int .i64 0, .int .i64 0, .int .i64 Z, .string ⟨#[]⟩, .string ⟨#[]⟩] 58))) := one_end ⟨2, 0, 0, 0, Z, ⟨#[]⟩, ⟨#[]⟩⟩ HN.out HC.out (by omega) HT.out
          clear hPP
          go_wp2
          go_ret
          exact D.out
    by_cases hK8 : T = 7
    · subst hK8
      obtain ⟨w2, hw2⟩ : ∃ x, w1.alloc (.cells #[.int .i64 (8), .int .i64 0, .int .i64 0, .int .i64 0, .int .i64 0, .string ⟨#[]⟩, .string ⟨#[]⟩] 58) = x := ⟨_, rfl⟩
      have HW2 : Hid (w1.alloc (.cells #[.int .i64 (8), .int .i64 0, .int .i64 0, .int .i64 0, .int .i64 0, .string ⟨#[]⟩, .string ⟨#[]⟩] 58) = w2) := hw2
      have hnb0 : w1.heap.size = w1.heap.size := rfl
      have R2 : Hid (w2.heap[w1.heap.size]? = some (.cells #[.int .i64 (8), .int .i64 0, .int .i64 0, .int .i64 0, .int .i64 0, .string ⟨#[]⟩, .string ⟨#[]⟩] 58 (0, 0))) := by show w2.heap[w1.heap.size]? = _; rw [← hw2]; exact (MapKept.heap_alloc w1 _).1
      have C2 : Hid (CurAt a len cap zs B w2 s1) := by rw [← hw2]; exact curAt_alloc C1.out _
      have N2 : Hid (Only B w0 w2) := by rw [← hw2]; exact N1.out.trans (only_alloc w1 _)
      have hnw : w0.heap.size ≤ w1.heap.size := N1.out.size
      clear hw2 hnb0
      go_wp2_with fail
      rw [HW2.out]
      refine (spec_names 8 _).mono ?_
      rintro e w2 ⟨rfl, rfl⟩
      rw [show nmN 8 = 0 from rfl]
      go_wp2_with fail
      refine (spec_names 8 _).mono ?_
      rintro e w2 ⟨rfl, rfl⟩
      rw [show nmN 8 = 0 from rfl]
      go_wp2_with fail
      refine (below_some C2.out 4 (by omega) (by omega)).mono ?_
      rintro e w3 ⟨Z, s3, rfl, hq3, hr3, c3, n3⟩
      have C3 : Hid (CurAt a len cap zs B w3 s3) := c3
      have N3 : Hid (Only B w0 w3) := N2.out.trans n3
      have R3 : Hid (w3.heap[w1.heap.size]? = some (.cells #[.int .i64 (8), .int .i64 0, .int .i64 0, .int .i64 0, .int .i64 0, .string ⟨#[]⟩, .string ⟨#[]⟩] 58 (0, 0))) := ((n3).block _ (Array.getElem?_eq_some_iff.1 R2.out).1 (by omega)).trans R2.out
      clear c3 n3
      have fz3 : w3.frozen? ⟨w1.heap.size, 4, none⟩ = false := nod_frozen R3.out
      have ex3 := cell_of_row w3 w1.heap.size 4 _ _ _ R3.out
      simp at ex3
      obtain ⟨w4, hw4⟩ : ∃ x, w3.setCell ⟨w1.heap.size, 4, none⟩ (.int .i64 Z) = x := ⟨_, rfl⟩
      have HW4 : Hid (w3.setCell ⟨w1.heap.size, 4, none⟩ (.int .i64 Z) = w4) := hw4
      have R4 : Hid (w4.heap[w1.heap.size]? = some (.cells #[.int .i64 (8), .int .i64 0, .int .i64 0, .int .i64 0, .int .i64 Z, .string ⟨#[]⟩, .string ⟨#[]⟩] 58 (0, 0))) := by show w4.heap[w1.heap.size]? = _; rw [← hw4]; exact heap_setCell_same w3 _ 4 _ _ _ R3.out
      have C4 : Hid (CurAt a len cap zs B w4 s3) := by rw [← hw4]; exact cur_set C3.out (by omega)
      have N4 : Hid (Only B w0 w4) := by rw [← hw4]; exact only_set N3.out hnw
      have HZ4 : Hid (w4.heap.size = w3.heap.size) := by show w4.heap.size = _; rw [← hw4]; simp [World.setCell]
      clear hw4
      have hzw := N4.out.size
      have P0 : Hid (PartsAt w0.heap.size (w4.alloc (.cells #[] 24)) (.slice (some ⟨w3.heap.size, 0, none⟩) 0 0) [] (4 ^ f)) := by rw [← HZ4.out]; exact ⟨World.ownsRow_lit w4 #[] 0 hzw (by omega) rfl, fun q hq => by simp at hq⟩
      have PC : Hid (CurAt a len cap zs B (w4.alloc (.cells #[] 24)) s3) := curAt_alloc C4.out _
      have PN : Hid (Only B w0 (w4.alloc (.cells #[] 24))) := N4.out.trans (only_alloc _ _)
      have PR : Hid ((w4.alloc (.cells #[] 24)).heap[w1.heap.size]? = some (.cells #[.int .i64 (8), .int .i64 0, .int .i64 0, .int .i64 0, .int .i64 Z, .string ⟨#[]⟩, .string ⟨#[]⟩] 58 (0, 0))) := (((Below.refl _ w4).alloc (Nat.le_refl _) _).block _ (Array.getElem?_eq_some_iff.1 R4.out).1).trans R4.out
      have HT : Hid (Trim1 ⟨8, 0, 0, 0, Z, ⟨#[]⟩, ⟨#[]⟩⟩) := trim_node (by decide) (by decide)
      have hA3 := arN_le 8
      obtain ⟨A, hA⟩ : ∃ A, arN 8 = A := ⟨_, rfl⟩
      have HA : Hid (arN 8 = A) := hA
      rw [hA] at hA3
      clear hA
      go_wp2
      rw [HW4.out]
      clear fz3 ex3
      go_loopw [7, 8] (fun v i wr => ∃ (q : Nat) (sx : Nat × Int) (ps : List (Value × List Nod)), q ≤ A ∧ ps.length = q ∧ i = .int .i64 q ∧ (∃ g c, v = .slice (some ⟨g, 0, none⟩) q c) ∧ Hid (PartsAt w0.heap.size wr v ps (4 ^ f)) ∧ Hid (CurAt a len cap zs B wr sx) ∧ Hid (Only B w0 wr) ∧ Hid (wr.heap[w1.heap.size]? = some (.cells #[.int .i64 (8), .int .i64 0, .int .i64 0, .int .i64 0, .int .i64 Z, .string ⟨#[]⟩, .string ⟨#[]⟩] 58 (0, 0)))) (fun _ i _ => A - (intOf i).toNat)
      case atStart => exact ⟨0, s3, [], by omega, rfl, rfl, ⟨_, _, rfl⟩, P0, PC, PN, PR⟩
      case round =>
        clear P0 PC PN PR
        obtain ⟨q, sx, ps, hqA, hpl, rfl, ⟨gp, cp, rfl⟩, HPA, HC, HN, HR⟩ := hrel
        go_wp2_with fail
        refine (spec_arity 8 _).mono ?_
        rintro e wq ⟨rfl, rfl⟩
        rw [HA.out]
        by_cases hin : q < A
        · have hin' : (q : Int) < A := by omega
          go_wp2_with fail
          refine (below_some HC.out 2 (by omega) (by omega)).mono ?_
          rintro e u1 ⟨D, y1, rfl, hD0, hD1, c1, n1⟩
          have V1 : Hid (CurAt a len cap zs B u1 y1) := c1
          have M1 : Hid (Only B wq u1) := n1
          clear c1 n1
          go_wp2_with fail
          refine (HG.out a len cap zs B u1 y1 (deep - 1 - D) V1.out (by omega) (by omega)).mono ?_
          rintro e u2 ⟨v2, l2, y2, rfl, o2, p2, m2, t2, c2, n2⟩
          obtain ⟨b2, g2, k2, sp2, rfl, -⟩ := ownNod_form o2
          have O2 : Hid (ownNod u2 w0.heap.size (.slice b2 l2.length k2) l2) := ownNod_base o2 (HN.out.trans M1.out).size
          have M2 : Hid (Only B wq u2) := M1.out.trans n2
          have V2 : Hid (CurAt a len cap zs B u2 y2) := c2
          have T2 : Hid (Trim l2) := t2
          have PA2 : Hid (PartsAt w0.heap.size u2 (.slice (some ⟨gp, 0, none⟩) q cp) ps (4 ^ f)) := HPA.out.only M2.out hBw
          have hzu := (HN.out.trans M2.out).size
          have RR2 : Hid (u2.heap[w1.heap.size]? = some (.cells #[.int .i64 (8), .int .i64 0, .int .i64 0, .int .i64 0, .int .i64 Z, .string ⟨#[]⟩, .string ⟨#[]⟩] 58 (0, 0))) := (M2.out.block _ (Array.getElem?_eq_some_iff.1 HR.out).1 (by omega)).trans HR.out
          obtain ⟨i0, hii, hz0, hz1, hz2⟩ := info_parts nodes_info
          have OW : Hid (u2.ownsRow w0.heap.size 24 1 (.slice (some ⟨gp, 0, none⟩) q cp) q (ps.map (·.1))) := by have := PA2.out.1; rw [hpl] at this; exact this
          clear c2 n2 o2 t2
          go_wp2_with (at_builtin; refine wpList_append_own _ rfl _ _ 129 rfl w0.heap.size 24 i0 (.slice none 0 0) 1 24 Tryz.underlying129 hii hz0 hz1 hz2 rfl (by decide) _ _ _ rfl (OW.out.alloc _) ⟨u2.heap.size, 0, none⟩ 1 1 [.slice b2 l2.length k2] rfl rfl (by intro j u hj; match j, hj with | 0, hj => simp at hj; subst hj; simp [Addr.add]) (by intro u hu; simp at hu; subst hu; rfl) (by unfold maxLen; omega) (by omega) (by simp; omega) ?_)
          intro v3 u3 o3 g3 e3
          obtain ⟨gq, cq, rfl, -⟩ := row_slice o3 e3
          have bel3 : Below w0.heap.size u2 u3 := ((Below.refl _ u2).alloc (by omega) _).grown g3 (by simp; omega) (fun k hk => (OW.out.lt k hk).1)
          have al : Below u2.heap.size u2 (u2.alloc (.cells #[.slice b2 l2.length k2] 24)) := (Below.refl _ u2).alloc (Nat.le_refl _) _
          have PA3 : Hid (PartsAt w0.heap.size u3 (.slice (some ⟨gq, 0, none⟩) (q + 1) cq) (ps ++ [(.slice b2 l2.length k2, l2)]) (4 ^ f)) := by
            refine ⟨?_, fun k hk => ?_⟩
            · rw [List.length_append, hpl, List.map_append]
              exact o3
            · simp only [List.length_append, List.length_cons, List.length_nil] at hk
              by_cases hkl : k < ps.length
              · rw [getD_app hkl]
                obtain ⟨x1, x2⟩ := PA2.out.2 k hkl
                exact ⟨nod_grown (ownNod_kept x1 al (Nat.le_refl _)) (OW.out.alloc _) g3, x2⟩
              · rw [getD_app_last (by omega)]
                exact ⟨nod_grown (ownNod_kept O2.out al (Nat.le_refl _)) (OW.out.alloc _) g3, p2, m2, T2.out⟩
          have V3 : Hid (CurAt a len cap zs B u3 y2) := curAt_below V2.out bel3 hBw
          have M3 : Hid (Only B w0 u3) := ⟨bel3.os.trans (HN.out.trans M2.out).os, bel3.tape.trans (HN.out.trans M2.out).tape, bel3.output.trans (HN.out.trans M2.out).output, Nat.le_trans (HN.out.trans M2.out).size bel3.size, fun k hk hkB => (bel3.block k hk).trans ((HN.out.trans M2.out).block k hk hkB)⟩
          have RR3 : Hid (u3.heap[w1.heap.size]? = some (.cells #[.int .i64 (8), .int .i64 0, .int .i64 0, .int .i64 0, .int .i64 Z, .string ⟨#[]⟩, .string ⟨#[]⟩] 58 (0, 0))) := by
            have ha := (al.block _ (Array.getElem?_eq_some_iff.1 RR2.out).1).trans RR2.out
            have hgl := (Array.getElem?_eq_some_iff.1 ha).1
            exact (g3.block _ hgl (fun e => by
              obtain ⟨cc, fz, hc⟩ := row_kind (OW.out.alloc _) _ e.symm
              exact kind_ne ha hc (by decide) rfl)).trans ha
          clear o3 g3 e3 bel3 al
          go_wp2
          go_roundw
          case rel => exact ⟨q + 1, y2, _, by omega, by simp [hpl], by go_num, ⟨_, _, rfl⟩, PA3, V3, M3, RR3⟩
          case measure => simp [intOf]; omega
        · obtain rfl : q = A := by omega
          obtain ⟨t0, t1, t2, t3, t4, t5, t6⟩ := cells7_nod (t := ⟨8, 0, 0, 0, Z, ⟨#[]⟩, ⟨#[]⟩⟩) HR.out
          simp only at t0 t1 t2 t3 t4 t5 t6
          have hPP := HP.out
          obtain rfl : q = 2 := by rw [← HA.out]; decide
          have hp0 := HPA.out.2 0 (by omega)
          have hx0 := own_cells (by have := HPA.out.1; rw [hpl] at this; exact this) 0 (ps.getD 0 (.slice none 0 0, [])).1 (by rw [List.getElem?_map, List.getElem?_eq_getElem (by omega)]; simp [List.getD, List.getElem?_eq_getElem (show 0 < ps.length by omega)])
          generalize ps.getD 0 (.slice none 0 0, []) = z0 at *
          obtain ⟨zv0, zl0⟩ := z0
          simp only at hp0 hx0
          obtain ⟨r0, rp0, rm0, rt0⟩ := hp0
          obtain ⟨zb0, zg0, zk0, zs0, rfl, -⟩ := ownNod_form r0
          have RO0 : Hid (ownNod wq w0.heap.size (.slice zb0 zl0.length zk0) zl0) := r0
          have RT0 : Hid (Trim zl0) := rt0
          clear r0 rt0
          have hp1 := HPA.out.2 1 (by omega)
          have hx1 := own_cells (by have := HPA.out.1; rw [hpl] at this; exact this) 1 (ps.getD 1 (.slice none 0 0, [])).1 (by rw [List.getElem?_map, List.getElem?_eq_getElem (by omega)]; simp [List.getD, List.getElem?_eq_getElem (show 1 < ps.length by omega)])
          generalize ps.getD 1 (.slice none 0 0, []) = z1 at *
          obtain ⟨zv1, zl1⟩ := z1
          simp only at hp1 hx1
          obtain ⟨r1, rp1, rm1, rt1⟩ := hp1
          obtain ⟨zb1, zg1, zk1, zs1, rfl, -⟩ := ownNod_form r1
          have RO1 : Hid (ownNod wq w0.heap.size (.slice zb1 zl1.length zk1) zl1) := r1
          have RT1 : Hid (Trim zl1) := rt1
          clear r1 rt1
          have hnq : w1.heap.size < wq.heap.size := (Array.getElem?_eq_some_iff.1 HR.out).1
          have HCD : Hid (CurAt a len cap zs B wq.drew sx) := curAt_below HC.out (Below.refl _ wq).drew HC.out.size
          have HMK : Hid (Calls Tryz.prog 95 #[.agg #[.int .i64 (8), .int .i64 0, .int .i64 0, .int .i64 0, .int .i64 Z, .string ⟨#[]⟩, .string ⟨#[]⟩], .slice (some ⟨wq.heap.size, 0, none⟩) 2 2] (wq.alloc (.cells #[.slice zb0 zl0.length zk0, .slice zb1 zl1.length zk1] 24)).drew _) := make2 ⟨8, 0, 0, 0, Z, ⟨#[]⟩, ⟨#[]⟩⟩ HT.out wq.drew w0.heap.size (.slice zb0 zl0.length zk0) (.slice zb1 zl1.length zk1) zl0 zl1 RO0.out RO1.out rp0 rp1 RT0.out RT1.out (by omega)
          go_wp2
          go_region_law (refine step_call rfl 95 #[.tmp 76, .tmp 83] #[58, 129] rfl #[.agg #[.int .i64 (8), .int .i64 0, .int .i64 0, .int .i64 0, .int .i64 Z, .string ⟨#[]⟩, .string ⟨#[]⟩], .slice (some ⟨wq.heap.size, 0, none⟩) 2 2] (by simp [Act.eval]) Tryz.func95 mk_name mk_body _ HMK.out ?_; rintro e we ⟨ve, le, rfl, oe, qe, te, be⟩; have DD : Hid (DrawEnd a len cap zs B w0 (4 ^ (f + 1)) (.returned ve) we) := draw_end (w1 := wq.drew) HN.out.drew HCD.out be oe (by omega) (by omega) te; clear oe te be; refine ⟨_, rfl, ?_⟩)
          all_goals
            go_wp2
            go_ret
            exact DD.out
    have g2 : ((1 + T) == 2) = false := by rw [beq_eq_false_iff_ne]; omega
    have g8 : ((1 + T) == 8) = false := by rw [beq_eq_false_iff_ne]; omega
    clear hK2 hK8
    have hnm3 := nm_le (1 + T)
    rcases (by omega : nmN (1 + T) = 0 ∨ nmN (1 + T) = 1 ∨ nmN (1 + T) = 2) with hnm | hnm | hnm
    · obtain ⟨w2, hw2⟩ : ∃ x, w1.alloc (.cells #[.int .i64 ((1 + T)), .int .i64 0, .int .i64 0, .int .i64 0, .int .i64 0, .string ⟨#[]⟩, .string ⟨#[]⟩] 58) = x := ⟨_, rfl⟩
      have HW2 : Hid (w1.alloc (.cells #[.int .i64 ((1 + T)), .int .i64 0, .int .i64 0, .int .i64 0, .int .i64 0, .string ⟨#[]⟩, .string ⟨#[]⟩] 58) = w2) := hw2
      have hnb0 : w1.heap.size = w1.heap.size := rfl
      have R2 : Hid (w2.heap[w1.heap.size]? = some (.cells #[.int .i64 ((1 + T)), .int .i64 0, .int .i64 0, .int .i64 0, .int .i64 0, .string ⟨#[]⟩, .string ⟨#[]⟩] 58 (0, 0))) := by show w2.heap[w1.heap.size]? = _; rw [← hw2]; exact (MapKept.heap_alloc w1 _).1
      have C2 : Hid (CurAt a len cap zs B w2 s1) := by rw [← hw2]; exact curAt_alloc C1.out _
      have N2 : Hid (Only B w0 w2) := by rw [← hw2]; exact N1.out.trans (only_alloc w1 _)
      have hnw : w0.heap.size ≤ w1.heap.size := N1.out.size
      clear hw2 hnb0
      go_wp2_with fail
      rw [HW2.out]
      refine (spec_names (1 + T) _).mono ?_
      rintro e w2 ⟨rfl, rfl⟩
      rw [hnm]
      go_wp2_with fail
      refine (spec_names (1 + T) _).mono ?_
      rintro e w2 ⟨rfl, rfl⟩
      rw [hnm]
      have hzw := N2.out.size
      have P0 : Hid (PartsAt w0.heap.size (w2.alloc (.cells #[] 24)) (.slice (some ⟨w2.heap.size, 0, none⟩) 0 0) [] (4 ^ f)) := by exact ⟨World.ownsRow_lit w2 #[] 0 hzw (by omega) rfl, fun q hq => by simp at hq⟩
      have PC : Hid (CurAt a len cap zs B (w2.alloc (.cells #[] 24)) s1) := curAt_alloc C2.out _
      have PN : Hid (Only B w0 (w2.alloc (.cells #[] 24))) := N2.out.trans (only_alloc _ _)
      have PR : Hid ((w2.alloc (.cells #[] 24)).heap[w1.heap.size]? = some (.cells #[.int .i64 ((1 + T)), .int .i64 0, .int .i64 0, .int .i64 0, .int .i64 0, .string ⟨#[]⟩, .string ⟨#[]⟩] 58 (0, 0))) := (((Below.refl _ w2).alloc (Nat.le_refl _) _).block _ (Array.getElem?_eq_some_iff.1 R2.out).1).trans R2.out
      have HT : Hid (Trim1 ⟨(1 + T), 0, 0, 0, 0, ⟨#[]⟩, ⟨#[]⟩⟩) := trim_node (by decide) (by decide)
      have hA3 := arN_le (1 + T)
      obtain ⟨A, hA⟩ : ∃ A, arN (1 + T) = A := ⟨_, rfl⟩
      have HA : Hid (arN (1 + T) = A) := hA
      rw [hA] at hA3
      clear hA
      go_wp2
      go_loopw [7, 8] (fun v i wr => ∃ (q : Nat) (sx : Nat × Int) (ps : List (Value × List Nod)), q ≤ A ∧ ps.length = q ∧ i = .int .i64 q ∧ (∃ g c, v = .slice (some ⟨g, 0, none⟩) q c) ∧ Hid (PartsAt w0.heap.size wr v ps (4 ^ f)) ∧ Hid (CurAt a len cap zs B wr sx) ∧ Hid (Only B w0 wr) ∧ Hid (wr.heap[w1.heap.size]? = some (.cells #[.int .i64 ((1 + T)), .int .i64 0, .int .i64 0, .int .i64 0, .int .i64 0, .string ⟨#[]⟩, .string ⟨#[]⟩] 58 (0, 0)))) (fun _ i _ => A - (intOf i).toNat)
      case atStart => exact ⟨0, s1, [], by omega, rfl, rfl, ⟨_, _, rfl⟩, P0, PC, PN, PR⟩
      case round =>
        clear P0 PC PN PR
        obtain ⟨q, sx, ps, hqA, hpl, rfl, ⟨gp, cp, rfl⟩, HPA, HC, HN, HR⟩ := hrel
        go_wp2_with fail
        refine (spec_arity (1 + T) _).mono ?_
        rintro e wq ⟨rfl, rfl⟩
        rw [HA.out]
        by_cases hin : q < A
        · have hin' : (q : Int) < A := by omega
          go_wp2_with fail
          refine (below_some HC.out 2 (by omega) (by omega)).mono ?_
          rintro e u1 ⟨D, y1, rfl, hD0, hD1, c1, n1⟩
          have V1 : Hid (CurAt a len cap zs B u1 y1) := c1
          have M1 : Hid (Only B wq u1) := n1
          clear c1 n1
          go_wp2_with fail
          refine (HG.out a len cap zs B u1 y1 (deep - 1 - D) V1.out (by omega) (by omega)).mono ?_
          rintro e u2 ⟨v2, l2, y2, rfl, o2, p2, m2, t2, c2, n2⟩
          obtain ⟨b2, g2, k2, sp2, rfl, -⟩ := ownNod_form o2
          have O2 : Hid (ownNod u2 w0.heap.size (.slice b2 l2.length k2) l2) := ownNod_base o2 (HN.out.trans M1.out).size
          have M2 : Hid (Only B wq u2) := M1.out.trans n2
          have V2 : Hid (CurAt a len cap zs B u2 y2) := c2
          have T2 : Hid (Trim l2) := t2
          have PA2 : Hid (PartsAt w0.heap.size u2 (.slice (some ⟨gp, 0, none⟩) q cp) ps (4 ^ f)) := HPA.out.only M2.out hBw
          have hzu := (HN.out.trans M2.out).size
          have RR2 : Hid (u2.heap[w1.heap.size]? = some (.cells #[.int .i64 ((1 + T)), .int .i64 0, .int .i64 0, .int .i64 0, .int .i64 0, .string ⟨#[]⟩, .string ⟨#[]⟩] 58 (0, 0))) := (M2.out.block _ (Array.getElem?_eq_some_iff.1 HR.out).1 (by omega)).trans HR.out
          obtain ⟨i0, hii, hz0, hz1, hz2⟩ := info_parts nodes_info
          have OW : Hid (u2.ownsRow w0.heap.size 24 1 (.slice (some ⟨gp, 0, none⟩) q cp) q (ps.map (·.1))) := by have := PA2.out.1; rw [hpl] at this; exact this
          clear c2 n2 o2 t2
          go_wp2_with (at_builtin; refine wpList_append_own _ rfl _ _ 129 rfl w0.heap.size 24 i0 (.slice none 0 0) 1 24 Tryz.underlying129 hii hz0 hz1 hz2 rfl (by decide) _ _ _ rfl (OW.out.alloc _) ⟨u2.heap.size, 0, none⟩ 1 1 [.slice b2 l2.length k2] rfl rfl (by intro j u hj; match j, hj with | 0, hj => simp at hj; subst hj; simp [Addr.add]) (by intro u hu; simp at hu; subst hu; rfl) (by unfold maxLen; omega) (by omega) (by simp; omega) ?_)
          intro v3 u3 o3 g3 e3
          obtain ⟨gq, cq, rfl, -⟩ := row_slice o3 e3
          have bel3 : Below w0.heap.size u2 u3 := ((Below.refl _ u2).alloc (by omega) _).grown g3 (by simp; omega) (fun k hk => (OW.out.lt k hk).1)
          have al : Below u2.heap.size u2 (u2.alloc (.cells #[.slice b2 l2.length k2] 24)) := (Below.refl _ u2).alloc (Nat.le_refl _) _
          have PA3 : Hid (PartsAt w0.heap.size u3 (.slice (some ⟨gq, 0, none⟩) (q + 1) cq) (ps ++ [(.slice b2 l2.length k2, l2)]) (4 ^ f)) := by
            refine ⟨?_, fun k hk => ?_⟩
            · rw [List.length_append, hpl, List.map_append]
              exact o3
            · simp only [List.length_append, List.length_cons, List.length_nil] at hk
              by_cases hkl : k < ps.length
              · rw [getD_app hkl]
                obtain ⟨x1, x2⟩ := PA2.out.2 k hkl
                exact ⟨nod_grown (ownNod_kept x1 al (Nat.le_refl _)) (OW.out.alloc _) g3, x2⟩
              · rw [getD_app_last (by omega)]
                exact ⟨nod_grown (ownNod_kept O2.out al (Nat.le_refl _)) (OW.out.alloc _) g3, p2, m2, T2.out⟩
          have V3 : Hid (CurAt a len cap zs B u3 y2) := curAt_below V2.out bel3 hBw
          have M3 : Hid (Only B w0 u3) := ⟨bel3.os.trans (HN.out.trans M2.out).os, bel3.tape.trans (HN.out.trans M2.out).tape, bel3.output.trans (HN.out.trans M2.out).output, Nat.le_trans (HN.out.trans M2.out).size bel3.size, fun k hk hkB => (bel3.block k hk).trans ((HN.out.trans M2.out).block k hk hkB)⟩
          have RR3 : Hid (u3.heap[w1.heap.size]? = some (.cells #[.int .i64 ((1 + T)), .int .i64 0, .int .i64 0, .int .i64 0, .int .i64 0, .string ⟨#[]⟩, .string ⟨#[]⟩] 58 (0, 0))) := by
            have ha := (al.block _ (Array.getElem?_eq_some_iff.1 RR2.out).1).trans RR2.out
            have hgl := (Array.getElem?_eq_some_iff.1 ha).1
            exact (g3.block _ hgl (fun e => by
              obtain ⟨cc, fz, hc⟩ := row_kind (OW.out.alloc _) _ e.symm
              exact kind_ne ha hc (by decide) rfl)).trans ha
          clear o3 g3 e3 bel3 al
          go_wp2
          go_roundw
          case rel => exact ⟨q + 1, y2, _, by omega, by simp [hpl], by go_num, ⟨_, _, rfl⟩, PA3, V3, M3, RR3⟩
          case measure => simp [intOf]; omega
        · obtain rfl : q = A := by omega
          obtain ⟨t0, t1, t2, t3, t4, t5, t6⟩ := cells7_nod (t := ⟨(1 + T), 0, 0, 0, 0, ⟨#[]⟩, ⟨#[]⟩⟩) HR.out
          simp only at t0 t1 t2 t3 t4 t5 t6
          have hPP := HP.out
          rcases (by omega : q = 0 ∨ q = 1 ∨ q = 2 ∨ q = 3) with rfl | rfl | rfl | rfl
          · have D : Hid (DrawEnd a len cap zs B w0 (4 ^ (f + 1)) (.returned (.slice (some ⟨wq.heap.size, 0, none⟩) 1 1)) (wq.alloc (.cells #[.int .i64 ((1 + T)), .int .i64 0, .int .i64 0, .int .i64 0, .int .i64 0, .string ⟨#[]⟩, .string ⟨#[]⟩] 58))) := one_end ⟨(1 + T), 0, 0, 0, 0, ⟨#[]⟩, ⟨#[]⟩⟩ HN.out HC.out (by omega) HT.out
            clear hPP
            go_wp2
            go_ret
            exact D.out
          · have hp0 := HPA.out.2 0 (by omega)
            have hx0 := own_cells (by have := HPA.out.1; rw [hpl] at this; exact this) 0 (ps.getD 0 (.slice none 0 0, [])).1 (by rw [List.getElem?_map, List.getElem?_eq_getElem (by omega)]; simp [List.getD, List.getElem?_eq_getElem (show 0 < ps.length by omega)])
            generalize ps.getD 0 (.slice none 0 0, []) = z0 at *
            obtain ⟨zv0, zl0⟩ := z0
            simp only at hp0 hx0
            obtain ⟨r0, rp0, rm0, rt0⟩ := hp0
            obtain ⟨zb0, zg0, zk0, zs0, rfl, -⟩ := ownNod_form r0
            have RO0 : Hid (ownNod wq w0.heap.size (.slice zb0 zl0.length zk0) zl0) := r0
            have RT0 : Hid (Trim zl0) := rt0
            clear r0 rt0
            have hnq : w1.heap.size < wq.heap.size := (Array.getElem?_eq_some_iff.1 HR.out).1
            have HCD : Hid (CurAt a len cap zs B wq.drew sx) := curAt_below HC.out (Below.refl _ wq).drew HC.out.size
            have HMK : Hid (Calls Tryz.prog 95 #[.agg #[.int .i64 ((1 + T)), .int .i64 0, .int .i64 0, .int .i64 0, .int .i64 0, .string ⟨#[]⟩, .string ⟨#[]⟩], .slice (some ⟨wq.heap.size, 0, none⟩) 1 1] (wq.alloc (.cells #[.slice zb0 zl0.length zk0] 24)).drew _) := make1 ⟨(1 + T), 0, 0, 0, 0, ⟨#[]⟩, ⟨#[]⟩⟩ HT.out wq.drew w0.heap.size (.slice zb0 zl0.length zk0) zl0 RO0.out rp0 RT0.out (by omega)
            go_wp2
            go_region_law (refine step_call rfl 95 #[.tmp 68, .tmp 72] #[58, 129] rfl #[.agg #[.int .i64 ((1 + T)), .int .i64 0, .int .i64 0, .int .i64 0, .int .i64 0, .string ⟨#[]⟩, .string ⟨#[]⟩], .slice (some ⟨wq.heap.size, 0, none⟩) 1 1] (by simp [Act.eval]) Tryz.func95 mk_name mk_body _ HMK.out ?_; rintro e we ⟨ve, le, rfl, oe, qe, te, be⟩; have DD : Hid (DrawEnd a len cap zs B w0 (4 ^ (f + 1)) (.returned ve) we) := draw_end (w1 := wq.drew) HN.out.drew HCD.out be oe (by omega) (by omega) te; clear oe te be; refine ⟨_, rfl, ?_⟩)
            all_goals
              go_wp2
              go_ret
              exact DD.out
          · have hp0 := HPA.out.2 0 (by omega)
            have hx0 := own_cells (by have := HPA.out.1; rw [hpl] at this; exact this) 0 (ps.getD 0 (.slice none 0 0, [])).1 (by rw [List.getElem?_map, List.getElem?_eq_getElem (by omega)]; simp [List.getD, List.getElem?_eq_getElem (show 0 < ps.length by omega)])
            generalize ps.getD 0 (.slice none 0 0, []) = z0 at *
            obtain ⟨zv0, zl0⟩ := z0
            simp only at hp0 hx0
            obtain ⟨r0, rp0, rm0, rt0⟩ := hp0
            obtain ⟨zb0, zg0, zk0, zs0, rfl, -⟩ := ownNod_form r0
            have RO0 : Hid (ownNod wq w0.heap.size (.slice zb0 zl0.length zk0) zl0) := r0
            have RT0 : Hid (Trim zl0) := rt0
            clear r0 rt0
            have hp1 := HPA.out.2 1 (by omega)
            have hx1 := own_cells (by have := HPA.out.1; rw [hpl] at this; exact this) 1 (ps.getD 1 (.slice none 0 0, [])).1 (by rw [List.getElem?_map, List.getElem?_eq_getElem (by omega)]; simp [List.getD, List.getElem?_eq_getElem (show 1 < ps.length by omega)])
            generalize ps.getD 1 (.slice none 0 0, []) = z1 at *
            obtain ⟨zv1, zl1⟩ := z1
            simp only at hp1 hx1
            obtain ⟨r1, rp1, rm1, rt1⟩ := hp1
            obtain ⟨zb1, zg1, zk1, zs1, rfl, -⟩ := ownNod_form r1
            have RO1 : Hid (ownNod wq w0.heap.size (.slice zb1 zl1.length zk1) zl1) := r1
            have RT1 : Hid (Trim zl1) := rt1
            clear r1 rt1
            have hnq : w1.heap.size < wq.heap.size := (Array.getElem?_eq_some_iff.1 HR.out).1
            have HCD : Hid (CurAt a len cap zs B wq.drew sx) := curAt_below HC.out (Below.refl _ wq).drew HC.out.size
            have HMK : Hid (Calls Tryz.prog 95 #[.agg #[.int .i64 ((1 + T)), .int .i64 0, .int .i64 0, .int .i64 0, .int .i64 0, .string ⟨#[]⟩, .string ⟨#[]⟩], .slice (some ⟨wq.heap.size, 0, none⟩) 2 2] (wq.alloc (.cells #[.slice zb0 zl0.length zk0, .slice zb1 zl1.length zk1] 24)).drew _) := make2 ⟨(1 + T), 0, 0, 0, 0, ⟨#[]⟩, ⟨#[]⟩⟩ HT.out wq.drew w0.heap.size (.slice zb0 zl0.length zk0) (.slice zb1 zl1.length zk1) zl0 zl1 RO0.out RO1.out rp0 rp1 RT0.out RT1.out (by omega)
            go_wp2
            go_region_law (refine step_call rfl 95 #[.tmp 76, .tmp 83] #[58, 129] rfl #[.agg #[.int .i64 ((1 + T)), .int .i64 0, .int .i64 0, .int .i64 0, .int .i64 0, .string ⟨#[]⟩, .string ⟨#[]⟩], .slice (some ⟨wq.heap.size, 0, none⟩) 2 2] (by simp [Act.eval]) Tryz.func95 mk_name mk_body _ HMK.out ?_; rintro e we ⟨ve, le, rfl, oe, qe, te, be⟩; have DD : Hid (DrawEnd a len cap zs B w0 (4 ^ (f + 1)) (.returned ve) we) := draw_end (w1 := wq.drew) HN.out.drew HCD.out be oe (by omega) (by omega) te; clear oe te be; refine ⟨_, rfl, ?_⟩)
            all_goals
              go_wp2
              go_ret
              exact DD.out
          · have hp0 := HPA.out.2 0 (by omega)
            have hx0 := own_cells (by have := HPA.out.1; rw [hpl] at this; exact this) 0 (ps.getD 0 (.slice none 0 0, [])).1 (by rw [List.getElem?_map, List.getElem?_eq_getElem (by omega)]; simp [List.getD, List.getElem?_eq_getElem (show 0 < ps.length by omega)])
            generalize ps.getD 0 (.slice none 0 0, []) = z0 at *
            obtain ⟨zv0, zl0⟩ := z0
            simp only at hp0 hx0
            obtain ⟨r0, rp0, rm0, rt0⟩ := hp0
            obtain ⟨zb0, zg0, zk0, zs0, rfl, -⟩ := ownNod_form r0
            have RO0 : Hid (ownNod wq w0.heap.size (.slice zb0 zl0.length zk0) zl0) := r0
            have RT0 : Hid (Trim zl0) := rt0
            clear r0 rt0
            have hp1 := HPA.out.2 1 (by omega)
            have hx1 := own_cells (by have := HPA.out.1; rw [hpl] at this; exact this) 1 (ps.getD 1 (.slice none 0 0, [])).1 (by rw [List.getElem?_map, List.getElem?_eq_getElem (by omega)]; simp [List.getD, List.getElem?_eq_getElem (show 1 < ps.length by omega)])
            generalize ps.getD 1 (.slice none 0 0, []) = z1 at *
            obtain ⟨zv1, zl1⟩ := z1
            simp only at hp1 hx1
            obtain ⟨r1, rp1, rm1, rt1⟩ := hp1
            obtain ⟨zb1, zg1, zk1, zs1, rfl, -⟩ := ownNod_form r1
            have RO1 : Hid (ownNod wq w0.heap.size (.slice zb1 zl1.length zk1) zl1) := r1
            have RT1 : Hid (Trim zl1) := rt1
            clear r1 rt1
            have hp2 := HPA.out.2 2 (by omega)
            have hx2 := own_cells (by have := HPA.out.1; rw [hpl] at this; exact this) 2 (ps.getD 2 (.slice none 0 0, [])).1 (by rw [List.getElem?_map, List.getElem?_eq_getElem (by omega)]; simp [List.getD, List.getElem?_eq_getElem (show 2 < ps.length by omega)])
            generalize ps.getD 2 (.slice none 0 0, []) = z2 at *
            obtain ⟨zv2, zl2⟩ := z2
            simp only at hp2 hx2
            obtain ⟨r2, rp2, rm2, rt2⟩ := hp2
            obtain ⟨zb2, zg2, zk2, zs2, rfl, -⟩ := ownNod_form r2
            have RO2 : Hid (ownNod wq w0.heap.size (.slice zb2 zl2.length zk2) zl2) := r2
            have RT2 : Hid (Trim zl2) := rt2
            clear r2 rt2
            have hnq : w1.heap.size < wq.heap.size := (Array.getElem?_eq_some_iff.1 HR.out).1
            have HCD : Hid (CurAt a len cap zs B wq.drew sx) := curAt_below HC.out (Below.refl _ wq).drew HC.out.size
            have HMK : Hid (Calls Tryz.prog 95 #[.agg #[.int .i64 ((1 + T)), .int .i64 0, .int .i64 0, .int .i64 0, .int .i64 0, .string ⟨#[]⟩, .string ⟨#[]⟩], .slice (some ⟨wq.heap.size, 0, none⟩) 3 3] (wq.alloc (.cells #[.slice zb0 zl0.length zk0, .slice zb1 zl1.length zk1, .slice zb2 zl2.length zk2] 24)).drew _) := make3 ⟨(1 + T), 0, 0, 0, 0, ⟨#[]⟩, ⟨#[]⟩⟩ HT.out wq.drew w0.heap.size (.slice zb0 zl0.length zk0) (.slice zb1 zl1.length zk1) (.slice zb2 zl2.length zk2) zl0 zl1 zl2 RO0.out RO1.out RO2.out rp0 rp1 rp2 RT0.out RT1.out RT2.out (by omega)
            go_wp2
            go_region_law (refine step_call rfl 95 #[.tmp 85, .tmp 95] #[58, 129] rfl #[.agg #[.int .i64 ((1 + T)), .int .i64 0, .int .i64 0, .int .i64 0, .int .i64 0, .string ⟨#[]⟩, .string ⟨#[]⟩], .slice (some ⟨wq.heap.size, 0, none⟩) 3 3] (by simp [Act.eval]) Tryz.func95 mk_name mk_body _ HMK.out ?_; rintro e we ⟨ve, le, rfl, oe, qe, te, be⟩; have DD : Hid (DrawEnd a len cap zs B w0 (4 ^ (f + 1)) (.returned ve) we) := draw_end (w1 := wq.drew) HN.out.drew HCD.out be oe (by omega) (by omega) te; clear oe te be; refine ⟨_, rfl, ?_⟩)
            all_goals
              go_wp2
              go_ret
              exact DD.out
    · obtain ⟨w2, hw2⟩ : ∃ x, w1.alloc (.cells #[.int .i64 ((1 + T)), .int .i64 0, .int .i64 0, .int .i64 0, .int .i64 0, .string ⟨#[]⟩, .string ⟨#[]⟩] 58) = x := ⟨_, rfl⟩
      have HW2 : Hid (w1.alloc (.cells #[.int .i64 ((1 + T)), .int .i64 0, .int .i64 0, .int .i64 0, .int .i64 0, .string ⟨#[]⟩, .string ⟨#[]⟩] 58) = w2) := hw2
      have hnb0 : w1.heap.size = w1.heap.size := rfl
      have R2 : Hid (w2.heap[w1.heap.size]? = some (.cells #[.int .i64 ((1 + T)), .int .i64 0, .int .i64 0, .int .i64 0, .int .i64 0, .string ⟨#[]⟩, .string ⟨#[]⟩] 58 (0, 0))) := by show w2.heap[w1.heap.size]? = _; rw [← hw2]; exact (MapKept.heap_alloc w1 _).1
      have C2 : Hid (CurAt a len cap zs B w2 s1) := by rw [← hw2]; exact curAt_alloc C1.out _
      have N2 : Hid (Only B w0 w2) := by rw [← hw2]; exact N1.out.trans (only_alloc w1 _)
      have hnw : w0.heap.size ≤ w1.heap.size := N1.out.size
      clear hw2 hnb0
      go_wp2_with fail
      rw [HW2.out]
      refine (spec_names (1 + T) _).mono ?_
      rintro e w2 ⟨rfl, rfl⟩
      rw [hnm]
      go_wp2_with fail
      refine (pick_text (curAt_alloc C2.out _) [⟨#[120]⟩, ⟨#[121]⟩, ⟨#[102]⟩] w2.heap.size 3 rfl (by omega) (by omega) (by simp) (by have := C2.out.size; omega) (row_new w2 [⟨#[120]⟩, ⟨#[121]⟩, ⟨#[102]⟩] 9 _ rfl)).mono ?_
      rintro e w3 ⟨X, s3, hm3, rfl, c3, no3⟩
      have hzX : Fit9 X := (by decide : ∀ t ∈ ([⟨#[120]⟩, ⟨#[121]⟩, ⟨#[102]⟩] : List ByteArray), Fit9 t) X hm3
      have n3 : Only B w2 w3 := (only_alloc w2 _).trans no3
      have C3 : Hid (CurAt a len cap zs B w3 s3) := c3
      have N3 : Hid (Only B w0 w3) := N2.out.trans n3
      have R3 : Hid (w3.heap[w1.heap.size]? = some (.cells #[.int .i64 ((1 + T)), .int .i64 0, .int .i64 0, .int .i64 0, .int .i64 0, .string ⟨#[]⟩, .string ⟨#[]⟩] 58 (0, 0))) := ((n3).block _ (Array.getElem?_eq_some_iff.1 R2.out).1 (by omega)).trans R2.out
      clear c3 n3 no3 hm3
      have fz3 : w3.frozen? ⟨w1.heap.size, 5, none⟩ = false := nod_frozen R3.out
      have ex3 := cell_of_row w3 w1.heap.size 5 _ _ _ R3.out
      simp at ex3
      obtain ⟨w4, hw4⟩ : ∃ x, w3.setCell ⟨w1.heap.size, 5, none⟩ (.string X) = x := ⟨_, rfl⟩
      have HW4 : Hid (w3.setCell ⟨w1.heap.size, 5, none⟩ (.string X) = w4) := hw4
      have R4 : Hid (w4.heap[w1.heap.size]? = some (.cells #[.int .i64 ((1 + T)), .int .i64 0, .int .i64 0, .int .i64 0, .int .i64 0, .string X, .string ⟨#[]⟩] 58 (0, 0))) := by show w4.heap[w1.heap.size]? = _; rw [← hw4]; exact heap_setCell_same w3 _ 5 _ _ _ R3.out
      have C4 : Hid (CurAt a len cap zs B w4 s3) := by rw [← hw4]; exact cur_set C3.out (by omega)
      have N4 : Hid (Only B w0 w4) := by rw [← hw4]; exact only_set N3.out hnw
      have HZ4 : Hid (w4.heap.size = w3.heap.size) := by show w4.heap.size = _; rw [← hw4]; simp [World.setCell]
      clear hw4
      go_wp2_with fail
      rw [HW4.out]
      clear fz3 ex3
      refine (spec_names (1 + T) _).mono ?_
      rintro e w4 ⟨rfl, rfl⟩
      rw [hnm]
      have hzw := N4.out.size
      have P0 : Hid (PartsAt w0.heap.size (w4.alloc (.cells #[] 24)) (.slice (some ⟨w4.heap.size, 0, none⟩) 0 0) [] (4 ^ f)) := by exact ⟨World.ownsRow_lit w4 #[] 0 hzw (by omega) rfl, fun q hq => by simp at hq⟩
      have PC : Hid (CurAt a len cap zs B (w4.alloc (.cells #[] 24)) s3) := curAt_alloc C4.out _
      have PN : Hid (Only B w0 (w4.alloc (.cells #[] 24))) := N4.out.trans (only_alloc _ _)
      have PR : Hid ((w4.alloc (.cells #[] 24)).heap[w1.heap.size]? = some (.cells #[.int .i64 ((1 + T)), .int .i64 0, .int .i64 0, .int .i64 0, .int .i64 0, .string X, .string ⟨#[]⟩] 58 (0, 0))) := (((Below.refl _ w4).alloc (Nat.le_refl _) _).block _ (Array.getElem?_eq_some_iff.1 R4.out).1).trans R4.out
      have HT : Hid (Trim1 ⟨(1 + T), 0, 0, 0, 0, X, ⟨#[]⟩⟩) := trim_node (hzX) (by decide)
      have hA3 := arN_le (1 + T)
      obtain ⟨A, hA⟩ : ∃ A, arN (1 + T) = A := ⟨_, rfl⟩
      have HA : Hid (arN (1 + T) = A) := hA
      rw [hA] at hA3
      clear hA
      go_wp2
      go_loopw [7, 8] (fun v i wr => ∃ (q : Nat) (sx : Nat × Int) (ps : List (Value × List Nod)), q ≤ A ∧ ps.length = q ∧ i = .int .i64 q ∧ (∃ g c, v = .slice (some ⟨g, 0, none⟩) q c) ∧ Hid (PartsAt w0.heap.size wr v ps (4 ^ f)) ∧ Hid (CurAt a len cap zs B wr sx) ∧ Hid (Only B w0 wr) ∧ Hid (wr.heap[w1.heap.size]? = some (.cells #[.int .i64 ((1 + T)), .int .i64 0, .int .i64 0, .int .i64 0, .int .i64 0, .string X, .string ⟨#[]⟩] 58 (0, 0)))) (fun _ i _ => A - (intOf i).toNat)
      case atStart => exact ⟨0, s3, [], by omega, rfl, rfl, ⟨_, _, rfl⟩, P0, PC, PN, PR⟩
      case round =>
        clear P0 PC PN PR
        obtain ⟨q, sx, ps, hqA, hpl, rfl, ⟨gp, cp, rfl⟩, HPA, HC, HN, HR⟩ := hrel
        go_wp2_with fail
        refine (spec_arity (1 + T) _).mono ?_
        rintro e wq ⟨rfl, rfl⟩
        rw [HA.out]
        by_cases hin : q < A
        · have hin' : (q : Int) < A := by omega
          go_wp2_with fail
          refine (below_some HC.out 2 (by omega) (by omega)).mono ?_
          rintro e u1 ⟨D, y1, rfl, hD0, hD1, c1, n1⟩
          have V1 : Hid (CurAt a len cap zs B u1 y1) := c1
          have M1 : Hid (Only B wq u1) := n1
          clear c1 n1
          go_wp2_with fail
          refine (HG.out a len cap zs B u1 y1 (deep - 1 - D) V1.out (by omega) (by omega)).mono ?_
          rintro e u2 ⟨v2, l2, y2, rfl, o2, p2, m2, t2, c2, n2⟩
          obtain ⟨b2, g2, k2, sp2, rfl, -⟩ := ownNod_form o2
          have O2 : Hid (ownNod u2 w0.heap.size (.slice b2 l2.length k2) l2) := ownNod_base o2 (HN.out.trans M1.out).size
          have M2 : Hid (Only B wq u2) := M1.out.trans n2
          have V2 : Hid (CurAt a len cap zs B u2 y2) := c2
          have T2 : Hid (Trim l2) := t2
          have PA2 : Hid (PartsAt w0.heap.size u2 (.slice (some ⟨gp, 0, none⟩) q cp) ps (4 ^ f)) := HPA.out.only M2.out hBw
          have hzu := (HN.out.trans M2.out).size
          have RR2 : Hid (u2.heap[w1.heap.size]? = some (.cells #[.int .i64 ((1 + T)), .int .i64 0, .int .i64 0, .int .i64 0, .int .i64 0, .string X, .string ⟨#[]⟩] 58 (0, 0))) := (M2.out.block _ (Array.getElem?_eq_some_iff.1 HR.out).1 (by omega)).trans HR.out
          obtain ⟨i0, hii, hz0, hz1, hz2⟩ := info_parts nodes_info
          have OW : Hid (u2.ownsRow w0.heap.size 24 1 (.slice (some ⟨gp, 0, none⟩) q cp) q (ps.map (·.1))) := by have := PA2.out.1; rw [hpl] at this; exact this
          clear c2 n2 o2 t2
          go_wp2_with (at_builtin; refine wpList_append_own _ rfl _ _ 129 rfl w0.heap.size 24 i0 (.slice none 0 0) 1 24 Tryz.underlying129 hii hz0 hz1 hz2 rfl (by decide) _ _ _ rfl (OW.out.alloc _) ⟨u2.heap.size, 0, none⟩ 1 1 [.slice b2 l2.length k2] rfl rfl (by intro j u hj; match j, hj with | 0, hj => simp at hj; subst hj; simp [Addr.add]) (by intro u hu; simp at hu; subst hu; rfl) (by unfold maxLen; omega) (by omega) (by simp; omega) ?_)
          intro v3 u3 o3 g3 e3
          obtain ⟨gq, cq, rfl, -⟩ := row_slice o3 e3
          have bel3 : Below w0.heap.size u2 u3 := ((Below.refl _ u2).alloc (by omega) _).grown g3 (by simp; omega) (fun k hk => (OW.out.lt k hk).1)
          have al : Below u2.heap.size u2 (u2.alloc (.cells #[.slice b2 l2.length k2] 24)) := (Below.refl _ u2).alloc (Nat.le_refl _) _
          have PA3 : Hid (PartsAt w0.heap.size u3 (.slice (some ⟨gq, 0, none⟩) (q + 1) cq) (ps ++ [(.slice b2 l2.length k2, l2)]) (4 ^ f)) := by
            refine ⟨?_, fun k hk => ?_⟩
            · rw [List.length_append, hpl, List.map_append]
              exact o3
            · simp only [List.length_append, List.length_cons, List.length_nil] at hk
              by_cases hkl : k < ps.length
              · rw [getD_app hkl]
                obtain ⟨x1, x2⟩ := PA2.out.2 k hkl
                exact ⟨nod_grown (ownNod_kept x1 al (Nat.le_refl _)) (OW.out.alloc _) g3, x2⟩
              · rw [getD_app_last (by omega)]
                exact ⟨nod_grown (ownNod_kept O2.out al (Nat.le_refl _)) (OW.out.alloc _) g3, p2, m2, T2.out⟩
          have V3 : Hid (CurAt a len cap zs B u3 y2) := curAt_below V2.out bel3 hBw
          have M3 : Hid (Only B w0 u3) := ⟨bel3.os.trans (HN.out.trans M2.out).os, bel3.tape.trans (HN.out.trans M2.out).tape, bel3.output.trans (HN.out.trans M2.out).output, Nat.le_trans (HN.out.trans M2.out).size bel3.size, fun k hk hkB => (bel3.block k hk).trans ((HN.out.trans M2.out).block k hk hkB)⟩
          have RR3 : Hid (u3.heap[w1.heap.size]? = some (.cells #[.int .i64 ((1 + T)), .int .i64 0, .int .i64 0, .int .i64 0, .int .i64 0, .string X, .string ⟨#[]⟩] 58 (0, 0))) := by
            have ha := (al.block _ (Array.getElem?_eq_some_iff.1 RR2.out).1).trans RR2.out
            have hgl := (Array.getElem?_eq_some_iff.1 ha).1
            exact (g3.block _ hgl (fun e => by
              obtain ⟨cc, fz, hc⟩ := row_kind (OW.out.alloc _) _ e.symm
              exact kind_ne ha hc (by decide) rfl)).trans ha
          clear o3 g3 e3 bel3 al
          go_wp2
          go_roundw
          case rel => exact ⟨q + 1, y2, _, by omega, by simp [hpl], by go_num, ⟨_, _, rfl⟩, PA3, V3, M3, RR3⟩
          case measure => simp [intOf]; omega
        · obtain rfl : q = A := by omega
          obtain ⟨t0, t1, t2, t3, t4, t5, t6⟩ := cells7_nod (t := ⟨(1 + T), 0, 0, 0, 0, X, ⟨#[]⟩⟩) HR.out
          simp only at t0 t1 t2 t3 t4 t5 t6
          have hPP := HP.out
          rcases (by omega : q = 0 ∨ q = 1 ∨ q = 2 ∨ q = 3) with rfl | rfl | rfl | rfl
          · have D : Hid (DrawEnd a len cap zs B w0 (4 ^ (f + 1)) (.returned (.slice (some ⟨wq.heap.size, 0, none⟩) 1 1)) (wq.alloc (.cells #[.int .i64 ((1 + T)), .int .i64 0, .int .i64 0, .int .i64 0, .int .i64 0, .string X, .string ⟨#[]⟩] 58))) := one_end ⟨(1 + T), 0, 0, 0, 0, X, ⟨#[]⟩⟩ HN.out HC.out (by omega) HT.out
            clear hPP
            go_wp2
            go_ret
            exact D.out
          · have hp0 := HPA.out.2 0 (by omega)
            have hx0 := own_cells (by have := HPA.out.1; rw [hpl] at this; exact this) 0 (ps.getD 0 (.slice none 0 0, [])).1 (by rw [List.getElem?_map, List.getElem?_eq_getElem (by omega)]; simp [List.getD, List.getElem?_eq_getElem (show 0 < ps.length by omega)])
            generalize ps.getD 0 (.slice none 0 0, []) = z0 at *
            obtain ⟨zv0, zl0⟩ := z0
            simp only at hp0 hx0
            obtain ⟨r0, rp0, rm0, rt0⟩ := hp0
            obtain ⟨zb0, zg0, zk0, zs0, rfl, -⟩ := ownNod_form r0
            have RO0 : Hid (ownNod wq w0.heap.size (.slice zb0 zl0.length zk0) zl0) := r0
            have RT0 : Hid (Trim zl0) := rt0
            clear r0 rt0
            have hnq : w1.heap.size < wq.heap.size := (Array.getElem?_eq_some_iff.1 HR.out).1
            have HCD : Hid (CurAt a len cap zs B wq.drew sx) := curAt_below HC.out (Below.refl _ wq).drew HC.out.size
            have HMK : Hid (Calls Tryz.prog 95 #[.agg #[.int .i64 ((1 + T)), .int .i64 0, .int .i64 0, .int .i64 0, .int .i64 0, .string X, .string ⟨#[]⟩], .slice (some ⟨wq.heap.size, 0, none⟩) 1 1] (wq.alloc (.cells #[.slice zb0 zl0.length zk0] 24)).drew _) := make1 ⟨(1 + T), 0, 0, 0, 0, X, ⟨#[]⟩⟩ HT.out wq.drew w0.heap.size (.slice zb0 zl0.length zk0) zl0 RO0.out rp0 RT0.out (by omega)
            go_wp2
            go_region_law (refine step_call rfl 95 #[.tmp 68, .tmp 72] #[58, 129] rfl #[.agg #[.int .i64 ((1 + T)), .int .i64 0, .int .i64 0, .int .i64 0, .int .i64 0, .string X, .string ⟨#[]⟩], .slice (some ⟨wq.heap.size, 0, none⟩) 1 1] (by simp [Act.eval]) Tryz.func95 mk_name mk_body _ HMK.out ?_; rintro e we ⟨ve, le, rfl, oe, qe, te, be⟩; have DD : Hid (DrawEnd a len cap zs B w0 (4 ^ (f + 1)) (.returned ve) we) := draw_end (w1 := wq.drew) HN.out.drew HCD.out be oe (by omega) (by omega) te; clear oe te be; refine ⟨_, rfl, ?_⟩)
            all_goals
              go_wp2
              go_ret
              exact DD.out
          · have hp0 := HPA.out.2 0 (by omega)
            have hx0 := own_cells (by have := HPA.out.1; rw [hpl] at this; exact this) 0 (ps.getD 0 (.slice none 0 0, [])).1 (by rw [List.getElem?_map, List.getElem?_eq_getElem (by omega)]; simp [List.getD, List.getElem?_eq_getElem (show 0 < ps.length by omega)])
            generalize ps.getD 0 (.slice none 0 0, []) = z0 at *
            obtain ⟨zv0, zl0⟩ := z0
            simp only at hp0 hx0
            obtain ⟨r0, rp0, rm0, rt0⟩ := hp0
            obtain ⟨zb0, zg0, zk0, zs0, rfl, -⟩ := ownNod_form r0
            have RO0 : Hid (ownNod wq w0.heap.size (.slice zb0 zl0.length zk0) zl0) := r0
            have RT0 : Hid (Trim zl0) := rt0
            clear r0 rt0
            have hp1 := HPA.out.2 1 (by omega)
            have hx1 := own_cells (by have := HPA.out.1; rw [hpl] at this; exact this) 1 (ps.getD 1 (.slice none 0 0, [])).1 (by rw [List.getElem?_map, List.getElem?_eq_getElem (by omega)]; simp [List.getD, List.getElem?_eq_getElem (show 1 < ps.length by omega)])
            generalize ps.getD 1 (.slice none 0 0, []) = z1 at *
            obtain ⟨zv1, zl1⟩ := z1
            simp only at hp1 hx1
            obtain ⟨r1, rp1, rm1, rt1⟩ := hp1
            obtain ⟨zb1, zg1, zk1, zs1, rfl, -⟩ := ownNod_form r1
            have RO1 : Hid (ownNod wq w0.heap.size (.slice zb1 zl1.length zk1) zl1) := r1
            have RT1 : Hid (Trim zl1) := rt1
            clear r1 rt1
            have hnq : w1.heap.size < wq.heap.size := (Array.getElem?_eq_some_iff.1 HR.out).1
            have HCD : Hid (CurAt a len cap zs B wq.drew sx) := curAt_below HC.out (Below.refl _ wq).drew HC.out.size
            have HMK : Hid (Calls Tryz.prog 95 #[.agg #[.int .i64 ((1 + T)), .int .i64 0, .int .i64 0, .int .i64 0, .int .i64 0, .string X, .string ⟨#[]⟩], .slice (some ⟨wq.heap.size, 0, none⟩) 2 2] (wq.alloc (.cells #[.slice zb0 zl0.length zk0, .slice zb1 zl1.length zk1] 24)).drew _) := make2 ⟨(1 + T), 0, 0, 0, 0, X, ⟨#[]⟩⟩ HT.out wq.drew w0.heap.size (.slice zb0 zl0.length zk0) (.slice zb1 zl1.length zk1) zl0 zl1 RO0.out RO1.out rp0 rp1 RT0.out RT1.out (by omega)
            go_wp2
            go_region_law (refine step_call rfl 95 #[.tmp 76, .tmp 83] #[58, 129] rfl #[.agg #[.int .i64 ((1 + T)), .int .i64 0, .int .i64 0, .int .i64 0, .int .i64 0, .string X, .string ⟨#[]⟩], .slice (some ⟨wq.heap.size, 0, none⟩) 2 2] (by simp [Act.eval]) Tryz.func95 mk_name mk_body _ HMK.out ?_; rintro e we ⟨ve, le, rfl, oe, qe, te, be⟩; have DD : Hid (DrawEnd a len cap zs B w0 (4 ^ (f + 1)) (.returned ve) we) := draw_end (w1 := wq.drew) HN.out.drew HCD.out be oe (by omega) (by omega) te; clear oe te be; refine ⟨_, rfl, ?_⟩)
            all_goals
              go_wp2
              go_ret
              exact DD.out
          · have hp0 := HPA.out.2 0 (by omega)
            have hx0 := own_cells (by have := HPA.out.1; rw [hpl] at this; exact this) 0 (ps.getD 0 (.slice none 0 0, [])).1 (by rw [List.getElem?_map, List.getElem?_eq_getElem (by omega)]; simp [List.getD, List.getElem?_eq_getElem (show 0 < ps.length by omega)])
            generalize ps.getD 0 (.slice none 0 0, []) = z0 at *
            obtain ⟨zv0, zl0⟩ := z0
            simp only at hp0 hx0
            obtain ⟨r0, rp0, rm0, rt0⟩ := hp0
            obtain ⟨zb0, zg0, zk0, zs0, rfl, -⟩ := ownNod_form r0
            have RO0 : Hid (ownNod wq w0.heap.size (.slice zb0 zl0.length zk0) zl0) := r0
            have RT0 : Hid (Trim zl0) := rt0
            clear r0 rt0
            have hp1 := HPA.out.2 1 (by omega)
            have hx1 := own_cells (by have := HPA.out.1; rw [hpl] at this; exact this) 1 (ps.getD 1 (.slice none 0 0, [])).1 (by rw [List.getElem?_map, List.getElem?_eq_getElem (by omega)]; simp [List.getD, List.getElem?_eq_getElem (show 1 < ps.length by omega)])
            generalize ps.getD 1 (.slice none 0 0, []) = z1 at *
            obtain ⟨zv1, zl1⟩ := z1
            simp only at hp1 hx1
            obtain ⟨r1, rp1, rm1, rt1⟩ := hp1
            obtain ⟨zb1, zg1, zk1, zs1, rfl, -⟩ := ownNod_form r1
            have RO1 : Hid (ownNod wq w0.heap.size (.slice zb1 zl1.length zk1) zl1) := r1
            have RT1 : Hid (Trim zl1) := rt1
            clear r1 rt1
            have hp2 := HPA.out.2 2 (by omega)
            have hx2 := own_cells (by have := HPA.out.1; rw [hpl] at this; exact this) 2 (ps.getD 2 (.slice none 0 0, [])).1 (by rw [List.getElem?_map, List.getElem?_eq_getElem (by omega)]; simp [List.getD, List.getElem?_eq_getElem (show 2 < ps.length by omega)])
            generalize ps.getD 2 (.slice none 0 0, []) = z2 at *
            obtain ⟨zv2, zl2⟩ := z2
            simp only at hp2 hx2
            obtain ⟨r2, rp2, rm2, rt2⟩ := hp2
            obtain ⟨zb2, zg2, zk2, zs2, rfl, -⟩ := ownNod_form r2
            have RO2 : Hid (ownNod wq w0.heap.size (.slice zb2 zl2.length zk2) zl2) := r2
            have RT2 : Hid (Trim zl2) := rt2
            clear r2 rt2
            have hnq : w1.heap.size < wq.heap.size := (Array.getElem?_eq_some_iff.1 HR.out).1
            have HCD : Hid (CurAt a len cap zs B wq.drew sx) := curAt_below HC.out (Below.refl _ wq).drew HC.out.size
            have HMK : Hid (Calls Tryz.prog 95 #[.agg #[.int .i64 ((1 + T)), .int .i64 0, .int .i64 0, .int .i64 0, .int .i64 0, .string X, .string ⟨#[]⟩], .slice (some ⟨wq.heap.size, 0, none⟩) 3 3] (wq.alloc (.cells #[.slice zb0 zl0.length zk0, .slice zb1 zl1.length zk1, .slice zb2 zl2.length zk2] 24)).drew _) := make3 ⟨(1 + T), 0, 0, 0, 0, X, ⟨#[]⟩⟩ HT.out wq.drew w0.heap.size (.slice zb0 zl0.length zk0) (.slice zb1 zl1.length zk1) (.slice zb2 zl2.length zk2) zl0 zl1 zl2 RO0.out RO1.out RO2.out rp0 rp1 rp2 RT0.out RT1.out RT2.out (by omega)
            go_wp2
            go_region_law (refine step_call rfl 95 #[.tmp 85, .tmp 95] #[58, 129] rfl #[.agg #[.int .i64 ((1 + T)), .int .i64 0, .int .i64 0, .int .i64 0, .int .i64 0, .string X, .string ⟨#[]⟩], .slice (some ⟨wq.heap.size, 0, none⟩) 3 3] (by simp [Act.eval]) Tryz.func95 mk_name mk_body _ HMK.out ?_; rintro e we ⟨ve, le, rfl, oe, qe, te, be⟩; have DD : Hid (DrawEnd a len cap zs B w0 (4 ^ (f + 1)) (.returned ve) we) := draw_end (w1 := wq.drew) HN.out.drew HCD.out be oe (by omega) (by omega) te; clear oe te be; refine ⟨_, rfl, ?_⟩)
            all_goals
              go_wp2
              go_ret
              exact DD.out
    · obtain ⟨w2, hw2⟩ : ∃ x, w1.alloc (.cells #[.int .i64 ((1 + T)), .int .i64 0, .int .i64 0, .int .i64 0, .int .i64 0, .string ⟨#[]⟩, .string ⟨#[]⟩] 58) = x := ⟨_, rfl⟩
      have HW2 : Hid (w1.alloc (.cells #[.int .i64 ((1 + T)), .int .i64 0, .int .i64 0, .int .i64 0, .int .i64 0, .string ⟨#[]⟩, .string ⟨#[]⟩] 58) = w2) := hw2
      have hnb0 : w1.heap.size = w1.heap.size := rfl
      have R2 : Hid (w2.heap[w1.heap.size]? = some (.cells #[.int .i64 ((1 + T)), .int .i64 0, .int .i64 0, .int .i64 0, .int .i64 0, .string ⟨#[]⟩, .string ⟨#[]⟩] 58 (0, 0))) := by show w2.heap[w1.heap.size]? = _; rw [← hw2]; exact (MapKept.heap_alloc w1 _).1
      have C2 : Hid (CurAt a len cap zs B w2 s1) := by rw [← hw2]; exact curAt_alloc C1.out _
      have N2 : Hid (Only B w0 w2) := by rw [← hw2]; exact N1.out.trans (only_alloc w1 _)
      have hnw : w0.heap.size ≤ w1.heap.size := N1.out.size
      clear hw2 hnb0
      go_wp2_with fail
      rw [HW2.out]
      refine (spec_names (1 + T) _).mono ?_
      rintro e w2 ⟨rfl, rfl⟩
      rw [hnm]
      go_wp2_with fail
      refine (pick_text (curAt_alloc C2.out _) [⟨#[120]⟩, ⟨#[121]⟩, ⟨#[102]⟩] w2.heap.size 3 rfl (by omega) (by omega) (by simp) (by have := C2.out.size; omega) (row_new w2 [⟨#[120]⟩, ⟨#[121]⟩, ⟨#[102]⟩] 9 _ rfl)).mono ?_
      rintro e w3 ⟨X, s3, hm3, rfl, c3, no3⟩
      have hzX : Fit9 X := (by decide : ∀ t ∈ ([⟨#[120]⟩, ⟨#[121]⟩, ⟨#[102]⟩] : List ByteArray), Fit9 t) X hm3
      have n3 : Only B w2 w3 := (only_alloc w2 _).trans no3
      have C3 : Hid (CurAt a len cap zs B w3 s3) := c3
      have N3 : Hid (Only B w0 w3) := N2.out.trans n3
      have R3 : Hid (w3.heap[w1.heap.size]? = some (.cells #[.int .i64 ((1 + T)), .int .i64 0, .int .i64 0, .int .i64 0, .int .i64 0, .string ⟨#[]⟩, .string ⟨#[]⟩] 58 (0, 0))) := ((n3).block _ (Array.getElem?_eq_some_iff.1 R2.out).1 (by omega)).trans R2.out
      clear c3 n3 no3 hm3
      have fz3 : w3.frozen? ⟨w1.heap.size, 5, none⟩ = false := nod_frozen R3.out
      have ex3 := cell_of_row w3 w1.heap.size 5 _ _ _ R3.out
      simp at ex3
      obtain ⟨w4, hw4⟩ : ∃ x, w3.setCell ⟨w1.heap.size, 5, none⟩ (.string X) = x := ⟨_, rfl⟩
      have HW4 : Hid (w3.setCell ⟨w1.heap.size, 5, none⟩ (.string X) = w4) := hw4
      have R4 : Hid (w4.heap[w1.heap.size]? = some (.cells #[.int .i64 ((1 + T)), .int .i64 0, .int .i64 0, .int .i64 0, .int .i64 0, .string X, .string ⟨#[]⟩] 58 (0, 0))) := by show w4.heap[w1.heap.size]? = _; rw [← hw4]; exact heap_setCell_same w3 _ 5 _ _ _ R3.out
      have C4 : Hid (CurAt a len cap zs B w4 s3) := by rw [← hw4]; exact cur_set C3.out (by omega)
      have N4 : Hid (Only B w0 w4) := by rw [← hw4]; exact only_set N3.out hnw
      have HZ4 : Hid (w4.heap.size = w3.heap.size) := by show w4.heap.size = _; rw [← hw4]; simp [World.setCell]
      clear hw4
      go_wp2_with fail
      rw [HW4.out]
      clear fz3 ex3
      refine (spec_names (1 + T) _).mono ?_
      rintro e w4 ⟨rfl, rfl⟩
      rw [hnm]
      go_wp2_with fail
      refine (pick_text (curAt_alloc C4.out _) [⟨#[120]⟩, ⟨#[121]⟩, ⟨#[122]⟩] w4.heap.size 3 rfl (by omega) (by omega) (by simp) (by have := C4.out.size; omega) (row_new w4 [⟨#[120]⟩, ⟨#[121]⟩, ⟨#[122]⟩] 9 _ rfl)).mono ?_
      rintro e w5 ⟨Y, s5, hm5, rfl, c5, no5⟩
      have hzY : Fit9 Y := (by decide : ∀ t ∈ ([⟨#[120]⟩, ⟨#[121]⟩, ⟨#[122]⟩] : List ByteArray), Fit9 t) Y hm5
      have n5 : Only B w4 w5 := (only_alloc w4 _).trans no5
      have C5 : Hid (CurAt a len cap zs B w5 s5) := c5
      have N5 : Hid (Only B w0 w5) := N4.out.trans n5
      have R5 : Hid (w5.heap[w1.heap.size]? = some (.cells #[.int .i64 ((1 + T)), .int .i64 0, .int .i64 0, .int .i64 0, .int .i64 0, .string X, .string ⟨#[]⟩] 58 (0, 0))) := ((n5).block _ (Array.getElem?_eq_some_iff.1 R4.out).1 (by omega)).trans R4.out
      clear c5 n5 no5 hm5
      have fz5 : w5.frozen? ⟨w1.heap.size, 6, none⟩ = false := nod_frozen R5.out
      have ex5 := cell_of_row w5 w1.heap.size 6 _ _ _ R5.out
      simp at ex5
      obtain ⟨w6, hw6⟩ : ∃ x, w5.setCell ⟨w1.heap.size, 6, none⟩ (.string Y) = x := ⟨_, rfl⟩
      have HW6 : Hid (w5.setCell ⟨w1.heap.size, 6, none⟩ (.string Y) = w6) := hw6
      have R6 : Hid (w6.heap[w1.heap.size]? = some (.cells #[.int .i64 ((1 + T)), .int .i64 0, .int .i64 0, .int .i64 0, .int .i64 0, .string X, .string Y] 58 (0, 0))) := by show w6.heap[w1.heap.size]? = _; rw [← hw6]; exact heap_setCell_same w5 _ 6 _ _ _ R5.out
      have C6 : Hid (CurAt a len cap zs B w6 s5) := by rw [← hw6]; exact cur_set C5.out (by omega)
      have N6 : Hid (Only B w0 w6) := by rw [← hw6]; exact only_set N5.out hnw
      have HZ6 : Hid (w6.heap.size = w5.heap.size) := by show w6.heap.size = _; rw [← hw6]; simp [World.setCell]
      clear hw6
      have hzw := N6.out.size
      have P0 : Hid (PartsAt w0.heap.size (w6.alloc (.cells #[] 24)) (.slice (some ⟨w5.heap.size, 0, none⟩) 0 0) [] (4 ^ f)) := by rw [← HZ6.out]; exact ⟨World.ownsRow_lit w6 #[] 0 hzw (by omega) rfl, fun q hq => by simp at hq⟩
      have PC : Hid (CurAt a len cap zs B (w6.alloc (.cells #[] 24)) s5) := curAt_alloc C6.out _
      have PN : Hid (Only B w0 (w6.alloc (.cells #[] 24))) := N6.out.trans (only_alloc _ _)
      have PR : Hid ((w6.alloc (.cells #[] 24)).heap[w1.heap.size]? = some (.cells #[.int .i64 ((1 + T)), .int .i64 0, .int .i64 0, .int .i64 0, .int .i64 0, .string X, .string Y] 58 (0, 0))) := (((Below.refl _ w6).alloc (Nat.le_refl _) _).block _ (Array.getElem?_eq_some_iff.1 R6.out).1).trans R6.out
      have HT : Hid (Trim1 ⟨(1 + T), 0, 0, 0, 0, X, Y⟩) := trim_node (hzX) (hzY)
      have hA3 := arN_le (1 + T)
      obtain ⟨A, hA⟩ : ∃ A, arN (1 + T) = A := ⟨_, rfl⟩
      have HA : Hid (arN (1 + T) = A) := hA
      rw [hA] at hA3
      clear hA
      go_wp2
      rw [HW6.out]
      clear fz5 ex5
      go_loopw [7, 8] (fun v i wr => ∃ (q : Nat) (sx : Nat × Int) (ps : List (Value × List Nod)), q ≤ A ∧ ps.length = q ∧ i = .int .i64 q ∧ (∃ g c, v = .slice (some ⟨g, 0, none⟩) q c) ∧ Hid (PartsAt w0.heap.size wr v ps (4 ^ f)) ∧ Hid (CurAt a len cap zs B wr sx) ∧ Hid (Only B w0 wr) ∧ Hid (wr.heap[w1.heap.size]? = some (.cells #[.int .i64 ((1 + T)), .int .i64 0, .int .i64 0, .int .i64 0, .int .i64 0, .string X, .string Y] 58 (0, 0)))) (fun _ i _ => A - (intOf i).toNat)
      case atStart => exact ⟨0, s5, [], by omega, rfl, rfl, ⟨_, _, rfl⟩, P0, PC, PN, PR⟩
      case round =>
        clear P0 PC PN PR
        obtain ⟨q, sx, ps, hqA, hpl, rfl, ⟨gp, cp, rfl⟩, HPA, HC, HN, HR⟩ := hrel
        go_wp2_with fail
        refine (spec_arity (1 + T) _).mono ?_
        rintro e wq ⟨rfl, rfl⟩
        rw [HA.out]
        by_cases hin : q < A
        · have hin' : (q : Int) < A := by omega
          go_wp2_with fail
          refine (below_some HC.out 2 (by omega) (by omega)).mono ?_
          rintro e u1 ⟨D, y1, rfl, hD0, hD1, c1, n1⟩
          have V1 : Hid (CurAt a len cap zs B u1 y1) := c1
          have M1 : Hid (Only B wq u1) := n1
          clear c1 n1
          go_wp2_with fail
          refine (HG.out a len cap zs B u1 y1 (deep - 1 - D) V1.out (by omega) (by omega)).mono ?_
          rintro e u2 ⟨v2, l2, y2, rfl, o2, p2, m2, t2, c2, n2⟩
          obtain ⟨b2, g2, k2, sp2, rfl, -⟩ := ownNod_form o2
          have O2 : Hid (ownNod u2 w0.heap.size (.slice b2 l2.length k2) l2) := ownNod_base o2 (HN.out.trans M1.out).size
          have M2 : Hid (Only B wq u2) := M1.out.trans n2
          have V2 : Hid (CurAt a len cap zs B u2 y2) := c2
          have T2 : Hid (Trim l2) := t2
          have PA2 : Hid (PartsAt w0.heap.size u2 (.slice (some ⟨gp, 0, none⟩) q cp) ps (4 ^ f)) := HPA.out.only M2.out hBw
          have hzu := (HN.out.trans M2.out).size
          have RR2 : Hid (u2.heap[w1.heap.size]? = some (.cells #[.int .i64 ((1 + T)), .int .i64 0, .int .i64 0, .int .i64 0, .int .i64 0, .string X, .string Y] 58 (0, 0))) := (M2.out.block _ (Array.getElem?_eq_some_iff.1 HR.out).1 (by omega)).trans HR.out
          obtain ⟨i0, hii, hz0, hz1, hz2⟩ := info_parts nodes_info
          have OW : Hid (u2.ownsRow w0.heap.size 24 1 (.slice (some ⟨gp, 0, none⟩) q cp) q (ps.map (·.1))) := by have := PA2.out.1; rw [hpl] at this; exact this
          clear c2 n2 o2 t2
          go_wp2_with (at_builtin; refine wpList_append_own _ rfl _ _ 129 rfl w0.heap.size 24 i0 (.slice none 0 0) 1 24 Tryz.underlying129 hii hz0 hz1 hz2 rfl (by decide) _ _ _ rfl (OW.out.alloc _) ⟨u2.heap.size, 0, none⟩ 1 1 [.slice b2 l2.length k2] rfl rfl (by intro j u hj; match j, hj with | 0, hj => simp at hj; subst hj; simp [Addr.add]) (by intro u hu; simp at hu; subst hu; rfl) (by unfold maxLen; omega) (by omega) (by simp; omega) ?_)
          intro v3 u3 o3 g3 e3
          obtain ⟨gq, cq, rfl, -⟩ := row_slice o3 e3
          have bel3 : Below w0.heap.size u2 u3 := ((Below.refl _ u2).alloc (by omega) _).grown g3 (by simp; omega) (fun k hk => (OW.out.lt k hk).1)
          have al : Below u2.heap.size u2 (u2.alloc (.cells #[.slice b2 l2.length k2] 24)) := (Below.refl _ u2).alloc (Nat.le_refl _) _
          have PA3 : Hid (PartsAt w0.heap.size u3 (.slice (some ⟨gq, 0, none⟩) (q + 1) cq) (ps ++ [(.slice b2 l2.length k2, l2)]) (4 ^ f)) := by
            refine ⟨?_, fun k hk => ?_⟩
            · rw [List.length_append, hpl, List.map_append]
              exact o3
            · simp only [List.length_append, List.length_cons, List.length_nil] at hk
              by_cases hkl : k < ps.length
              · rw [getD_app hkl]
                obtain ⟨x1, x2⟩ := PA2.out.2 k hkl
                exact ⟨nod_grown (ownNod_kept x1 al (Nat.le_refl _)) (OW.out.alloc _) g3, x2⟩
              · rw [getD_app_last (by omega)]
                exact ⟨nod_grown (ownNod_kept O2.out al (Nat.le_refl _)) (OW.out.alloc _) g3, p2, m2, T2.out⟩
          have V3 : Hid (CurAt a len cap zs B u3 y2) := curAt_below V2.out bel3 hBw
          have M3 : Hid (Only B w0 u3) := ⟨bel3.os.trans (HN.out.trans M2.out).os, bel3.tape.trans (HN.out.trans M2.out).tape, bel3.output.trans (HN.out.trans M2.out).output, Nat.le_trans (HN.out.trans M2.out).size bel3.size, fun k hk hkB => (bel3.block k hk).trans ((HN.out.trans M2.out).block k hk hkB)⟩
          have RR3 : Hid (u3.heap[w1.heap.size]? = some (.cells #[.int .i64 ((1 + T)), .int .i64 0, .int .i64 0, .int .i64 0, .int .i64 0, .string X, .string Y] 58 (0, 0))) := by
            have ha := (al.block _ (Array.getElem?_eq_some_iff.1 RR2.out).1).trans RR2.out
            have hgl := (Array.getElem?_eq_some_iff.1 ha).1
            exact (g3.block _ hgl (fun e => by
              obtain ⟨cc, fz, hc⟩ := row_kind (OW.out.alloc _) _ e.symm
              exact kind_ne ha hc (by decide) rfl)).trans ha
          clear o3 g3 e3 bel3 al
          go_wp2
          go_roundw
          case rel => exact ⟨q + 1, y2, _, by omega, by simp [hpl], by go_num, ⟨_, _, rfl⟩, PA3, V3, M3, RR3⟩
          case measure => simp [intOf]; omega
        · obtain rfl : q = A := by omega
          obtain ⟨t0, t1, t2, t3, t4, t5, t6⟩ := cells7_nod (t := ⟨(1 + T), 0, 0, 0, 0, X, Y⟩) HR.out
          simp only at t0 t1 t2 t3 t4 t5 t6
          have hPP := HP.out
          rcases (by omega : q = 0 ∨ q = 1 ∨ q = 2 ∨ q = 3) with rfl | rfl | rfl | rfl
          · have D : Hid (DrawEnd a len cap zs B w0 (4 ^ (f + 1)) (.returned (.slice (some ⟨wq.heap.size, 0, none⟩) 1 1)) (wq.alloc (.cells #[.int .i64 ((1 + T)), .int .i64 0, .int .i64 0, .int .i64 0, .int .i64 0, .string X, .string Y] 58))) := one_end ⟨(1 + T), 0, 0, 0, 0, X, Y⟩ HN.out HC.out (by omega) HT.out
            clear hPP
            go_wp2
            go_ret
            exact D.out
          · have hp0 := HPA.out.2 0 (by omega)
            have hx0 := own_cells (by have := HPA.out.1; rw [hpl] at this; exact this) 0 (ps.getD 0 (.slice none 0 0, [])).1 (by rw [List.getElem?_map, List.getElem?_eq_getElem (by omega)]; simp [List.getD, List.getElem?_eq_getElem (show 0 < ps.length by omega)])
            generalize ps.getD 0 (.slice none 0 0, []) = z0 at *
            obtain ⟨zv0, zl0⟩ := z0
            simp only at hp0 hx0
            obtain ⟨r0, rp0, rm0, rt0⟩ := hp0
            obtain ⟨zb0, zg0, zk0, zs0, rfl, -⟩ := ownNod_form r0
            have RO0 : Hid (ownNod wq w0.heap.size (.slice zb0 zl0.length zk0) zl0) := r0
            have RT0 : Hid (Trim zl0) := rt0
            clear r0 rt0
            have hnq : w1.heap.size < wq.heap.size := (Array.getElem?_eq_some_iff.1 HR.out).1
            have HCD : Hid (CurAt a len cap zs B wq.drew sx) := curAt_below HC.out (Below.refl _ wq).drew HC.out.size
            have HMK : Hid (Calls Tryz.prog 95 #[.agg #[.int .i64 ((1 + T)), .int .i64 0, .int .i64 0, .int .i64 0, .int .i64 0, .string X, .string Y], .slice (some ⟨wq.heap.size, 0, none⟩) 1 1] (wq.alloc (.cells #[.slice zb0 zl0.length zk0] 24)).drew _) := make1 ⟨(1 + T), 0, 0, 0, 0, X, Y⟩ HT.out wq.drew w0.heap.size (.slice zb0 zl0.length zk0) zl0 RO0.out rp0 RT0.out (by omega)
            go_wp2
            go_region_law (refine step_call rfl 95 #[.tmp 68, .tmp 72] #[58, 129] rfl #[.agg #[.int .i64 ((1 + T)), .int .i64 0, .int .i64 0, .int .i64 0, .int .i64 0, .string X, .string Y], .slice (some ⟨wq.heap.size, 0, none⟩) 1 1] (by simp [Act.eval]) Tryz.func95 mk_name mk_body _ HMK.out ?_; rintro e we ⟨ve, le, rfl, oe, qe, te, be⟩; have DD : Hid (DrawEnd a len cap zs B w0 (4 ^ (f + 1)) (.returned ve) we) := draw_end (w1 := wq.drew) HN.out.drew HCD.out be oe (by omega) (by omega) te; clear oe te be; refine ⟨_, rfl, ?_⟩)
            all_goals
              go_wp2
              go_ret
              exact DD.out
          · have hp0 := HPA.out.2 0 (by omega)
            have hx0 := own_cells (by have := HPA.out.1; rw [hpl] at this; exact this) 0 (ps.getD 0 (.slice none 0 0, [])).1 (by rw [List.getElem?_map, List.getElem?_eq_getElem (by omega)]; simp [List.getD, List.getElem?_eq_getElem (show 0 < ps.length by omega)])
            generalize ps.getD 0 (.slice none 0 0, []) = z0 at *
            obtain ⟨zv0, zl0⟩ := z0
            simp only at hp0 hx0
            obtain ⟨r0, rp0, rm0, rt0⟩ := hp0
            obtain ⟨zb0, zg0, zk0, zs0, rfl, -⟩ := ownNod_form r0
            have RO0 : Hid (ownNod wq w0.heap.size (.slice zb0 zl0.length zk0) zl0) := r0
            have RT0 : Hid (Trim zl0) := rt0
            clear r0 rt0
            have hp1 := HPA.out.2 1 (by omega)
            have hx1 := own_cells (by have := HPA.out.1; rw [hpl] at this; exact this) 1 (ps.getD 1 (.slice none 0 0, [])).1 (by rw [List.getElem?_map, List.getElem?_eq_getElem (by omega)]; simp [List.getD, List.getElem?_eq_getElem (show 1 < ps.length by omega)])
            generalize ps.getD 1 (.slice none 0 0, []) = z1 at *
            obtain ⟨zv1, zl1⟩ := z1
            simp only at hp1 hx1
            obtain ⟨r1, rp1, rm1, rt1⟩ := hp1
            obtain ⟨zb1, zg1, zk1, zs1, rfl, -⟩ := ownNod_form r1
            have RO1 : Hid (ownNod wq w0.heap.size (.slice zb1 zl1.length zk1) zl1) := r1
            have RT1 : Hid (Trim zl1) := rt1
            clear r1 rt1
            have hnq : w1.heap.size < wq.heap.size := (Array.getElem?_eq_some_iff.1 HR.out).1
            have HCD : Hid (CurAt a len cap zs B wq.drew sx) := curAt_below HC.out (Below.refl _ wq).drew HC.out.size
            have HMK : Hid (Calls Tryz.prog 95 #[.agg #[.int .i64 ((1 + T)), .int .i64 0, .int .i64 0, .int .i64 0, .int .i64 0, .string X, .string Y], .slice (some ⟨wq.heap.size, 0, none⟩) 2 2] (wq.alloc (.cells #[.slice zb0 zl0.length zk0, .slice zb1 zl1.length zk1] 24)).drew _) := make2 ⟨(1 + T), 0, 0, 0, 0, X, Y⟩ HT.out wq.drew w0.heap.size (.slice zb0 zl0.length zk0) (.slice zb1 zl1.length zk1) zl0 zl1 RO0.out RO1.out rp0 rp1 RT0.out RT1.out (by omega)
            go_wp2
            go_region_law (refine step_call rfl 95 #[.tmp 76, .tmp 83] #[58, 129] rfl #[.agg #[.int .i64 ((1 + T)), .int .i64 0, .int .i64 0, .int .i64 0, .int .i64 0, .string X, .string Y], .slice (some ⟨wq.heap.size, 0, none⟩) 2 2] (by simp [Act.eval]) Tryz.func95 mk_name mk_body _ HMK.out ?_; rintro e we ⟨ve, le, rfl, oe, qe, te, be⟩; have DD : Hid (DrawEnd a len cap zs B w0 (4 ^ (f + 1)) (.returned ve) we) := draw_end (w1 := wq.drew) HN.out.drew HCD.out be oe (by omega) (by omega) te; clear oe te be; refine ⟨_, rfl, ?_⟩)
            all_goals
              go_wp2
              go_ret
              exact DD.out
          · have hp0 := HPA.out.2 0 (by omega)
            have hx0 := own_cells (by have := HPA.out.1; rw [hpl] at this; exact this) 0 (ps.getD 0 (.slice none 0 0, [])).1 (by rw [List.getElem?_map, List.getElem?_eq_getElem (by omega)]; simp [List.getD, List.getElem?_eq_getElem (show 0 < ps.length by omega)])
            generalize ps.getD 0 (.slice none 0 0, []) = z0 at *
            obtain ⟨zv0, zl0⟩ := z0
            simp only at hp0 hx0
            obtain ⟨r0, rp0, rm0, rt0⟩ := hp0
            obtain ⟨zb0, zg0, zk0, zs0, rfl, -⟩ := ownNod_form r0
            have RO0 : Hid (ownNod wq w0.heap.size (.slice zb0 zl0.length zk0) zl0) := r0
            have RT0 : Hid (Trim zl0) := rt0
            clear r0 rt0
            have hp1 := HPA.out.2 1 (by omega)
            have hx1 := own_cells (by have := HPA.out.1; rw [hpl] at this; exact this) 1 (ps.getD 1 (.slice none 0 0, [])).1 (by rw [List.getElem?_map, List.getElem?_eq_getElem (by omega)]; simp [List.getD, List.getElem?_eq_getElem (show 1 < ps.length by omega)])
            generalize ps.getD 1 (.slice none 0 0, []) = z1 at *
            obtain ⟨zv1, zl1⟩ := z1
            simp only at hp1 hx1
            obtain ⟨r1, rp1, rm1, rt1⟩ := hp1
            obtain ⟨zb1, zg1, zk1, zs1, rfl, -⟩ := ownNod_form r1
            have RO1 : Hid (ownNod wq w0.heap.size (.slice zb1 zl1.length zk1) zl1) := r1
            have RT1 : Hid (Trim zl1) := rt1
            clear r1 rt1
            have hp2 := HPA.out.2 2 (by omega)
            have hx2 := own_cells (by have := HPA.out.1; rw [hpl] at this; exact this) 2 (ps.getD 2 (.slice none 0 0, [])).1 (by rw [List.getElem?_map, List.getElem?_eq_getElem (by omega)]; simp [List.getD, List.getElem?_eq_getElem (show 2 < ps.length by omega)])
            generalize ps.getD 2 (.slice none 0 0, []) = z2 at *
            obtain ⟨zv2, zl2⟩ := z2
            simp only at hp2 hx2
            obtain ⟨r2, rp2, rm2, rt2⟩ := hp2
            obtain ⟨zb2, zg2, zk2, zs2, rfl, -⟩ := ownNod_form r2
            have RO2 : Hid (ownNod wq w0.heap.size (.slice zb2 zl2.length zk2) zl2) := r2
            have RT2 : Hid (Trim zl2) := rt2
            clear r2 rt2
            have hnq : w1.heap.size < wq.heap.size := (Array.getElem?_eq_some_iff.1 HR.out).1
            have HCD : Hid (CurAt a len cap zs B wq.drew sx) := curAt_below HC.out (Below.refl _ wq).drew HC.out.size
            have HMK : Hid (Calls Tryz.prog 95 #[.agg #[.int .i64 ((1 + T)), .int .i64 0, .int .i64 0, .int .i64 0, .int .i64 0, .string X, .string Y], .slice (some ⟨wq.heap.size, 0, none⟩) 3 3] (wq.alloc (.cells #[.slice zb0 zl0.length zk0, .slice zb1 zl1.length zk1, .slice zb2 zl2.length zk2] 24)).drew _) := make3 ⟨(1 + T), 0, 0, 0, 0, X, Y⟩ HT.out wq.drew w0.heap.size (.slice zb0 zl0.length zk0) (.slice zb1 zl1.length zk1) (.slice zb2 zl2.length zk2) zl0 zl1 zl2 RO0.out RO1.out RO2.out rp0 rp1 rp2 RT0.out RT1.out RT2.out (by omega)
            go_wp2
            go_region_law (refine step_call rfl 95 #[.tmp 85, .tmp 95] #[58, 129] rfl #[.agg #[.int .i64 ((1 + T)), .int .i64 0, .int .i64 0, .int .i64 0, .int .i64 0, .string X, .string Y], .slice (some ⟨wq.heap.size, 0, none⟩) 3 3] (by simp [Act.eval]) Tryz.func95 mk_name mk_body _ HMK.out ?_; rintro e we ⟨ve, le, rfl, oe, qe, te, be⟩; have DD : Hid (DrawEnd a len cap zs B w0 (4 ^ (f + 1)) (.returned ve) we) := draw_end (w1 := wq.drew) HN.out.drew HCD.out be oe (by omega) (by omega) te; clear oe te be; refine ⟨_, rfl, ?_⟩)
            all_goals
              go_wp2
              go_ret
              exact DD.out

/-- Every draw of a program of which nothing is sure comes to its end. -/
theorem loose_ok : ∀ f : Nat, f ≤ 6 → LooseC f
  | 0, _ => fun a len cap zs B w s deep h hd hl => loose_all 0 1 a len cap zs B w s deep h (Or.inl ⟨by omega, rfl⟩) hl (by omega)
  | f + 1, hf => fun a len cap zs B w s deep h hd hl => by
    by_cases h0 : deep ≤ 0
    · refine (loose_all f 1 a len cap zs B w s deep h (Or.inl ⟨h0, rfl⟩) hl (by omega)).mono ?_
      intro e w' hde
      exact hde.more (Only.refl B w) (pow_facts1 (f + 1))
    · exact loose_all f (4 ^ (f + 1)) a len cap zs B w s deep h (Or.inr ⟨rfl, loose_ok f (by omega), by omega, by omega⟩) hl (by omega)
end Go.Proofs.YtobijbhgpgnfkaaGreatDoor
