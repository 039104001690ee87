/-
  Reading as it landed: Parse and Parses. Condition: the library's table and its two errors lie as its text lays them.
-/
import Derived.Test.YtncoooimgeoihaaDoorRo
namespace Go.Proofs.YtncoooimgeoihaaDoor
open Go.ChangeShapes Go.WideShapes Go.ChangeAt Go.RowKit
set_option linter.unusedVariables false

theorem own_cap {w : World} {B : Nat} {a : Option Addr} {n c : Nat} {ts : List Tok} (h : ownT w B (.slice a n c) ts) : ts.length ≤ c := by
  rcases h.2 with ⟨he, h0⟩ | ⟨g, cap, cur, he, _, _, hn, _⟩
  · omega
  · simp only [Value.slice.injEq] at he
    omega

theorem results_rows2' {fn : Func} {p q : Tmp} {ty ty2 : TypeId} (h : fn.results = #[.cell p ty, .cell q ty2]) (tmps : Array Value) {P : Program} (w : World) (a1 a2 : Addr) (v v2 : Value)
    (hp : tmps.getD p undef = .pointer (some a1)) (hg : (loadVar ty a1).run P w = .ok v w)
    (hp2 : tmps.getD q undef = .pointer (some a2)) (hg2 : (loadVar ty2 a2).run P w = .ok v2 w) :
    (results fn tmps).run P w = .ok (.tuple #[v, v2]) w := by
  have hp' : tmps[p]?.getD undef = .pointer (some a1) := by simpa using hp
  have hp2' : tmps[q]?.getD undef = .pointer (some a2) := by simpa using hp2
  simp [results, h, hp', hp2', asAddr, hg, hg2]

/-- The two results of readText, read from their places. -/
theorem text_results {fn : Func} {p q : Tmp} (h : fn.results = #[.cell p 24, .cell q 40]) (tmps : Array Value) (w : World) (A : Nat) (nv : Value) (c d : Int) (hnv : ∃ a n m, nv = .slice a n m)
    (hp : tmps.getD p undef = .pointer (some ⟨A, 0, none⟩)) (hn : w.heap[A]? = some (.cells #[nv] 24 (0, 0))) (hq : tmps.getD q undef = .pointer (some ⟨A + 1, 0, none⟩)) (hw : w.heap[A + 1]? = some (.cells #[.int .i64 c, .int .i64 d] 40 (0, 0))) :
    (results fn tmps).run Tryd.prog w = .ok (.tuple #[nv, .agg #[.int .i64 c, .int .i64 d]]) w := by
  obtain ⟨a, n, m, rfl⟩ := hnv
  have h1 : (loadVar 24 ⟨A, 0, none⟩).run Tryd.prog w = .ok (.slice a n m) w := by
    have hc : w.cell? ⟨A, 0, none⟩ = some (.slice a n m) := by rw [cell_of_row _ _ _ _ _ _ hn]; rfl
    simp [loadVar, go_sem, hc]
  have h2 : (loadVar 40 ⟨A + 1, 0, none⟩).run Tryd.prog w = .ok (.agg #[.int .i64 c, .int .i64 d]) w := run_loadVar_row w (A + 1) 40 40 _ (0, 0) _ hw Tryd.underlying40 rfl (by kernel_rfl)
  exact results_rows2' h tmps w _ _ _ _ hp h1 hq h2

theorem lexes_small {s : ByteArray} {ts : List Tok} {n : Int} (h : Lexes s ts n) (hn : n < 0) : s.size ≤ 4000 := by
  rcases h with ⟨_, _, rfl⟩ | ⟨hs, _⟩
  · omega
  · exact hs

/-- What readText ends with. -/
def TextEnd (s : ByteArray) (B : Nat) (e : Ending) (w : World) : Prop := ∃ (ts : List Tok) (n : Int) (v : Value), Lexes s ts n ∧ ownNod w B v (parseR ts n s.size).1 ∧ e = .returned (.tuple #[v, .agg #[.int .i64 (parseR ts n s.size).2.1, .int .i64 (parseR ts n s.size).2.2]])

/-- A fault goes through the door: it is caught, and told. -/
theorem text_fault {s : ByteArray} {ts : List Tok} {n c q : Int} {w W : World} {tmps : Array Value} (hx : Lexes s ts n) (hP : parseR ts n s.size = ([], c, q)) (nv : Value) (c0 q0 : Int) (hn : W.heap[w.heap.size]? = some (.cells #[nv] 24 (0, 0))) (hw : W.heap[w.heap.size + 1]? = some (.cells #[.int .i64 c0, .int .i64 q0] 40 (0, 0)))
    (hb : Below w.heap.size w W) (hp : tmps.getD 2 undef = .pointer (some ⟨w.heap.size, 0, none⟩)) (hq : tmps.getD 3 undef = .pointer (some ⟨w.heap.size + 1, 0, none⟩)) :
    Leaves Tryd.prog Tryd.f22 tmps (fun e w' => TextEnd s w.heap.size e w' ∧ Below w.heap.size w w') [{ target := Target.fn (Fn.func 38) #[.pointer (some ⟨w.heap.size, 0, none⟩), .pointer (some ⟨w.heap.size + 1, 0, none⟩)], args := #[] }] (.panicking [fltV c q]) W := by
  refine leaves_cons (f := 38) (args := #[.pointer (some ⟨w.heap.size, 0, none⟩), .pointer (some ⟨w.heap.size + 1, 0, none⟩)]) (by simp) (by simp [go_sem]) ?_
  refine (rd_catch w.heap.size nv c0 q0 c q W hn hw).mono ?_
  rintro e u' w' ⟨rfl, rfl, f1, f2, f3⟩
  refine ⟨_, text_results rfl tmps w' w.heap.size _ c q ⟨_, _, _, rfl⟩ hp f1 hq f2, ?_, hb.trans f3⟩
  exact ⟨ts, n, _, hx, by rw [hP]; exact World.ownsRow_nil _ _ _ _, by rw [hP]⟩

/-- A program goes through the door as it is. -/
theorem text_good {s : ByteArray} {ts : List Tok} {n : Int} {w W : World} {tmps : Array Value} {a : Option Addr} {k c B : Nat} {m : List Nod} (hx : Lexes s ts n) (hP : parseR ts n s.size = (m, 0, 0)) (nv : Value) (c0 q0 : Int) (hn : W.heap[w.heap.size]? = some (.cells #[nv] 24 (0, 0))) (hw : W.heap[w.heap.size + 1]? = some (.cells #[.int .i64 c0, .int .i64 q0] 40 (0, 0)))
    (hb : Below w.heap.size w W) (ho : ownNod W B (.slice a k c) m) (hB : w.heap.size + 1 < B) (hp : tmps.getD 2 undef = .pointer (some ⟨w.heap.size, 0, none⟩)) (hq : tmps.getD 3 undef = .pointer (some ⟨w.heap.size + 1, 0, none⟩)) :
    Leaves Tryd.prog Tryd.f22 tmps (fun e w' => TextEnd s w.heap.size e w' ∧ Below w.heap.size w w') [{ target := Target.fn (Fn.func 38) #[.pointer (some ⟨w.heap.size, 0, none⟩), .pointer (some ⟨w.heap.size + 1, 0, none⟩)], args := #[] }] .returning
      (((W.setCell ⟨w.heap.size, 0, none⟩ (.slice a k c)).setCell ⟨w.heap.size + 1, 0, none⟩ (.int .i64 0)).setCell ⟨w.heap.size + 1, 1, none⟩ (.int .i64 0)) := by
  have k1 : (W.setCell ⟨w.heap.size, 0, none⟩ (.slice a k c)).heap[w.heap.size]? = some (.cells #[.slice a k c] 24 (0, 0)) := heap_setCell_same W _ 0 _ _ _ hn
  have k2 : (W.setCell ⟨w.heap.size, 0, none⟩ (.slice a k c)).heap[w.heap.size + 1]? = some (.cells #[.int .i64 c0, .int .i64 q0] 40 (0, 0)) := (heap_setCell_other W ⟨w.heap.size, 0, none⟩ (w.heap.size + 1) _ (by show w.heap.size + 1 ≠ w.heap.size; omega)).trans hw
  have k3 := heap_setCell_same _ (w.heap.size + 1) 0 _ _ (.int .i64 0) k2
  have k4 := heap_setCell_same _ (w.heap.size + 1) 1 _ _ (.int .i64 0) k3
  have ne : w.heap.size ≠ w.heap.size + 1 := by omega
  have k5 := (heap_setCell_other ((W.setCell ⟨w.heap.size, 0, none⟩ (.slice a k c)).setCell ⟨w.heap.size + 1, 0, none⟩ (.int .i64 0)) ⟨w.heap.size + 1, 1, none⟩ w.heap.size (.int .i64 0) ne).trans ((heap_setCell_other (W.setCell ⟨w.heap.size, 0, none⟩ (.slice a k c)) ⟨w.heap.size + 1, 0, none⟩ w.heap.size (.int .i64 0) ne).trans k1)
  have hlt : ∀ j, (Value.slice a k c).ownBlock = some j → w.heap.size + 1 < j := fun j hj => by have := (ho.lt j hj).1; omega
  have o1 : ownNod (((W.setCell ⟨w.heap.size, 0, none⟩ (.slice a k c)).setCell ⟨w.heap.size + 1, 0, none⟩ (.int .i64 0)).setCell ⟨w.heap.size + 1, 1, none⟩ (.int .i64 0)) B (.slice a k c) m :=
    ownsRow_setCell_other (ownsRow_setCell_other (ownsRow_setCell_other ho (fun e => by have := hlt _ e; simp at this; omega) _) (fun e => by have := hlt _ e; simp at this) _) (fun e => by have := hlt _ e; simp at this) _
  have b1 : Below w.heap.size w (((W.setCell ⟨w.heap.size, 0, none⟩ (.slice a k c)).setCell ⟨w.heap.size + 1, 0, none⟩ (.int .i64 0)).setCell ⟨w.heap.size + 1, 1, none⟩ (.int .i64 0)) :=
    ((hb.setCell (p := ⟨w.heap.size, 0, none⟩) (Nat.le_refl _) _).setCell (p := ⟨w.heap.size + 1, 0, none⟩) (by show w.heap.size ≤ w.heap.size + 1; omega) _).setCell (p := ⟨w.heap.size + 1, 1, none⟩) (by show w.heap.size ≤ w.heap.size + 1; omega) _
  generalize ((W.setCell ⟨w.heap.size, 0, none⟩ (.slice a k c)).setCell ⟨w.heap.size + 1, 0, none⟩ (.int .i64 0)).setCell ⟨w.heap.size + 1, 1, none⟩ (.int .i64 0) = X at *
  have z1 : w.heap.size + 1 < X.heap.size := (Array.getElem?_eq_some_iff.1 k4).1
  refine leaves_cons (f := 38) (args := #[.pointer (some ⟨w.heap.size, 0, none⟩), .pointer (some ⟨w.heap.size + 1, 0, none⟩)]) (by simp) (by simp [go_sem]) ?_
  refine (rd_idle w.heap.size X).mono ?_
  rintro e u' w' ⟨rfl, rfl, rfl⟩
  refine ⟨_, text_results rfl tmps _ w.heap.size _ 0 0 ⟨_, _, _, rfl⟩ hp ((Below.heap_alloc _ _ _ (by omega)).trans k5) hq ((Below.heap_alloc _ _ _ z1).trans k4), ?_, b1.alloc (by omega) _⟩
  exact ⟨ts, n, _, hx, by rw [hP]; exact ownNod_base (o1.alloc _) (by omega), by rw [hP]⟩

set_option maxHeartbeats 2000000 in
set_option maxRecDepth 20000 in
theorem rd_text (s : ByteArray) (hs : s.size ≤ 1048576) (w : World) (hv : Vars w) :
    Calls Tryd.prog 22 #[.string s] w fun e w' => TextEnd s w.heap.size e w' ∧ Below w.heap.size w w' := by
  have HS : Hid (s.size ≤ 1048576) := hs
  have B0 : Hid (Below w.heap.size w ((w.alloc (.cells #[.slice none 0 0] 24)).alloc (.cells #[.int .i64 0, .int .i64 0] 40))) := ((Below.refl _ w).alloc (Nat.le_refl _) _).alloc (by simp) _
  have HV : Hid (Vars ((w.alloc (.cells #[.slice none 0 0] 24)).alloc (.cells #[.int .i64 0, .int .i64 0] 40))) := hv.kept B0.out
  have hmf : ∀ (fn : Fn) (first cap : Array Value) (w : World), (Instr.makeFunc fn first cap).run Tryd.prog w = .ok (.func fn first cap) w := fun _ _ _ _ => rfl
  clear hs hv
  go_enter_defers Tryd.func22, Tryd.ntmps22
  go_wp2_with fail
  refine (lex_impl s _ HV.out (by have := HS.out; unfold maxLen; omega)).mono ?_
  rintro e w1 ⟨⟨ts, n, v1, hx, ho1, rfl⟩, b1⟩
  have HX : Hid (Lexes s ts n) := hx
  have hlen := lexes_len hx
  have hsg := lexes_sign hx
  have B1 : Hid (Below w.heap.size w w1) := B0.out.trans (b1.mono (by simp <;> omega))
  have hn1 : w1.heap[w.heap.size]? = some (.cells #[.slice none 0 0] 24 (0, 0)) := (b1.block _ (by simp <;> omega)).trans (heap_alloc2_old w _ _)
  have hw1 : w1.heap[w.heap.size + 1]? = some (.cells #[.int .i64 0, .int .i64 0] 40 (0, 0)) := (b1.block _ (by simp <;> omega)).trans (heap_alloc2_new w _ _)
  have HN1 : Hid (w1.heap[w.heap.size]? = some (.cells #[.slice none 0 0] 24 (0, 0))) := hn1
  have HW1 : Hid (w1.heap[w.heap.size + 1]? = some (.cells #[.int .i64 0, .int .i64 0] 40 (0, 0))) := hw1
  obtain ⟨a1, g1, c1, sp1, rfl, ha1, hT1, hB1, hl1, hr1⟩ := own_form ho1
  have HCP : Hid (ts.length ≤ c1) := own_cap ho1
  have HT1 : Hid (TokAt w1 g1 ts) := hT1
  have HL1 : Hid (0 < ts.length → g1 < w1.heap.size) := hl1
  have HA1 : Hid (0 < ts.length → a1 = some ⟨g1, 0, none⟩) := ha1
  clear hx ho1 hT1 hl1 hr1 ha1 b1 hB1 hn1 hw1 HV B0
  by_cases hn : 0 ≤ n
  · have HP : Hid (parseR ts n s.size = ([], 1, n)) := by
      show parseR ts n s.size = _
      rw [parseR, if_pos hn]
    go_wp2
    exact text_fault HX.out HP.out _ 0 0 HN1.out HW1.out B1.out rfl rfl
  · have HP : Hid (parseR ts n s.size = parseE ts s.size) := by
      show parseR ts n s.size = _
      rw [parseR, if_neg hn]
    have hn' : n < 0 := by omega
    go_wp2_with fail
    refine (rd_forms w1).mono ?_
    rintro e w2 ⟨M, rfl, hms, b2⟩
    have HMS : Hid (MS w2 M fTable) := hms
    have B2 : Hid (Below w.heap.size w w2) := B1.out.trans (b2.mono B1.out.size)
    have z1 : w.heap.size + 1 < w1.heap.size := (Array.getElem?_eq_some_iff.1 HW1.out).1
    have z2 := b2.size
    have HN2 : Hid (w2.heap[w.heap.size]? = some (.cells #[.slice none 0 0] 24 (0, 0))) := (b2.block _ (by omega)).trans HN1.out
    have HW2 : Hid (w2.heap[w.heap.size + 1]? = some (.cells #[.int .i64 0, .int .i64 0] 40 (0, 0))) := (b2.block _ (by omega)).trans HW1.out
    have HRS : Hid (RS (Below w2.heap.size w2) w2.heap.size g1 M ts s.size (w2.alloc (.cells (rdR a1 ts.length c1 s.size (.slice none 0 0) M) 75)) 0 (.slice none 0 0) []) := by
      have hb : Below w2.heap.size w2 (w2.alloc (.cells (rdR a1 ts.length c1 s.size (.slice none 0 0) M) 75)) := (Below.refl _ w2).alloc (Nat.le_refl _) _
      refine ⟨⟨a1, c1, heap_alloc_new w2 _, fun h => by rw [HA1.out h], by have := HCP.out; omega⟩, fun k hk => ((HT1.out k hk).below b2 (HL1.out (by omega))).below hb (by have := HL1.out (by omega); omega), fun h => by have := HL1.out h; omega, World.ownsRow_nil _ _ _ _, hb, by omega⟩
    have hR : (w2.alloc (.cells (rdR a1 ts.length c1 s.size (.slice none 0 0) M) 75)).heap.size = w2.heap.size + 1 := by simp
    have B3 : Hid (Below w2.heap.size w2 (w2.alloc (.cells (rdR a1 ts.length c1 s.size (.slice none 0 0) M) 75))) := (Below.refl _ w2).alloc (Nat.le_refl _) _
    clear hms b2 HN1 HW1 HT1
    go_wp2_with fail
    refine (rd_program HMS.out hlen (lexes_small HX.out hn') (fun k hk => lexes_at HX.out k hk) _ _ HRS.out).mono ?_
    rintro e w4 hout
    rcases hout with ⟨h1, h2, v', rfl, ho4, hb4⟩ | ⟨h1, rfl, hb4⟩
    · have B4 : Hid (Below w2.heap.size w2 w4) := B3.out.trans hb4
      have HO4 : Hid (ownNod w4 (w2.heap.size + 1) v' (parseE ts s.size).1) := ho4
      have hn4 : w4.heap[w.heap.size]? = some (.cells #[.slice none 0 0] 24 (0, 0)) := (B4.out.block _ (by omega)).trans HN2.out
      have hw4 : w4.heap[w.heap.size + 1]? = some (.cells #[.int .i64 0, .int .i64 0] 40 (0, 0)) := (B4.out.block _ (by omega)).trans HW2.out
      have HN4 : Hid (w4.heap[w.heap.size]? = some (.cells #[.slice none 0 0] 24 (0, 0))) := hn4
      have HW4 : Hid (w4.heap[w.heap.size + 1]? = some (.cells #[.int .i64 0, .int .i64 0] 40 (0, 0))) := hw4
      have HP2 : Hid (parseR ts n s.size = ((parseE ts s.size).1, 0, 0)) := HP.out.trans (Prod.ext rfl (Prod.ext h1 h2))
      have k0 : w4.cell? ⟨w.heap.size, 0, none⟩ = some (.slice none 0 0) := by rw [cell_of_row _ _ _ _ _ _ hn4]; rfl
      have k1 : w4.frozen? ⟨w.heap.size, 0, none⟩ = false := frozen_of_row w4 _ 0 _ _ hn4
      have k2 : w4.cell? ⟨w.heap.size + 1, 0, none⟩ = some (.int .i64 0) := by rw [cell_of_row _ _ _ _ _ _ hw4]; rfl
      have k3 : w4.cell? ⟨w.heap.size + 1, 1, none⟩ = some (.int .i64 0) := by rw [cell_of_row _ _ _ _ _ _ hw4]; rfl
      have k4 : ∀ j, w4.frozen? ⟨w.heap.size + 1, j, none⟩ = false := fun j => frozen_of_row w4 _ j _ _ hw4
      generalize (parseE ts s.size).1 = m at *
      obtain ⟨a5, g5, c5, sp5, hv5, _⟩ := ownNod_form HO4.out
      subst hv5
      clear ho4 hb4 hn4 hw4 h1 h2 HP
      go_wp2
      exact text_good HX.out HP2.out _ 0 0 HN4.out HW4.out (B2.out.trans (B4.out.mono (by omega))) HO4.out (by omega) rfl rfl
    · have B4 : Hid (Below w2.heap.size w2 w4) := B3.out.trans hb4
      have HN4 : Hid (w4.heap[w.heap.size]? = some (.cells #[.slice none 0 0] 24 (0, 0))) := (B4.out.block _ (by omega)).trans HN2.out
      have HW4 : Hid (w4.heap[w.heap.size + 1]? = some (.cells #[.int .i64 0, .int .i64 0] 40 (0, 0))) := (B4.out.block _ (by omega)).trans HW2.out
      have HP2 : Hid (parseR ts n s.size = ([], (parseE ts s.size).2.1, (parseE ts s.size).2.2)) := HP.out.trans (Prod.ext h1 rfl)
      clear h1 hb4 HP
      go_wp2
      exact text_fault HX.out HP2.out _ 0 0 HN4.out HW4.out (B2.out.trans (B4.out.mono (by omega))) rfl rfl

theorem impl_parse (s : ByteArray) (hs : s.size ≤ 1048576) (w : World) (hv : Vars w) :
    Calls Tryd.prog 11 #[.string s] w fun e w' => ParseEnd s w.heap.size e w' ∧ Below w.heap.size w w' := by
  have HS : Hid (s.size ≤ 1048576) := hs
  have HV : Hid (Vars w) := hv
  clear hs hv
  go_enter Tryd.func11, Tryd.ntmps11
  go_wp2_with fail
  refine (rd_text s HS.out w HV.out).mono ?_
  rintro e w1 ⟨⟨ts, n, v, hx, ho, rfl⟩, b1⟩
  have HX : Hid (Lexes s ts n) := hx
  have HO : Hid (ownNod w1 w.heap.size v (parseR ts n s.size).1) := ho
  have B1 : Hid (Below w.heap.size w w1) := b1
  obtain ⟨⟨P0, P1, P2⟩, hP⟩ : ∃ P, parseR ts n s.size = P := ⟨_, rfl⟩
  have HP : Hid (parseR ts n s.size = (P0, P1, P2)) := hP
  rw [hP] at HO ⊢
  have s1 := b1.size
  clear hP hx ho b1
  go_wp2
  go_quiet (fail)
  go_wp2
  go_ret3
  exact ⟨⟨ts, n, v, HX.out, by rw [HP.out]; exact ownNod_kept HO.out (below_drew_n ((Below.refl _ w1).alloc (Nat.le_refl _) _) _) (Nat.le_refl _), by rw [HP.out]; rfl⟩, below_drew_n (B1.out.alloc s1 _) _⟩

theorem impl_parses (s : ByteArray) (hs : s.size ≤ 1048576) (w : World) (hv : Vars w) :
    Calls Tryd.prog 17 #[.string s] w fun e w' => (∃ (ts : List Tok) (n : Int), Lexes s ts n ∧ e = .returned (.bool (decide ((parseR ts n s.size).2.1 = 0)))) ∧ Below w.heap.size w w' := by
  have HS : Hid (s.size ≤ 1048576) := hs
  have HV : Hid (Vars w) := hv
  clear hs hv
  go_enter Tryd.func17, Tryd.ntmps17
  go_wp2_with fail
  refine (impl_parse s HS.out w HV.out).mono ?_
  rintro e w1 ⟨⟨ts, n, v, hx, ho, rfl⟩, b1⟩
  have HX : Hid (Lexes s ts n) := hx
  clear hx ho
  obtain ⟨⟨P0, P1, P2⟩, hP⟩ : ∃ P, parseR ts n s.size = P := ⟨_, rfl⟩
  have HP : Hid (parseR ts n s.size = (P0, P1, P2)) := hP
  rw [hP]
  clear hP
  go_wp2
  go_ret
  refine ⟨⟨ts, n, HX.out, ?_⟩, b1⟩
  rw [HP.out]
  rfl
end Go.Proofs.YtncoooimgeoihaaDoor
