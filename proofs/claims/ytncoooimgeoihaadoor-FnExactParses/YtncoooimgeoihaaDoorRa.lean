/-
  Reading as it landed: the reader and what stands in memory with it; a token is taken. Conditions: written at each theorem.
-/
import Derived.Test.YtncoooimgeoihaaDoorPm
import Derived.Test.YtncoooimgeoihaaDoorAp
import Derived.Test.YtncoooimgeoihaaDoorLr
namespace Go.Proofs.YtncoooimgeoihaaDoor
open Go.ChangeShapes Go.WideShapes Go.ChangeAt Go.RowKit
set_option linter.unusedVariables false

/-- A fault as it is panicked with. -/
abbrev fltV (c q : Int) : PanicEntry := { v := .iface 40 (.agg #[.int .i64 c, .int .i64 q]), recovered := false }
abbrev tokA (t : Tok) : Value := .agg #[.int .i64 t.kind, .string t.text, .int .i64 t.n, .int .i64 t.place]
abbrev rdR (a : Option Addr) (m c : Nat) (E : Int) (v : Value) (fm : Nat) : Array Value := #[.slice a m c, .int .i64 E, v, .map (some fm)]

/-- The reader R stands at token i of ts, with these nodes so far. -/
structure RS (T : World → Prop) (R g fm : Nat) (ts : List Tok) (E : Int) (w : World) (i : Nat) (v : Value) (l : List Nod) : Prop where
  row : ∃ (a : Option Addr) (c : Nat), w.heap[R]? = some (.cells (rdR a (ts.length - i) c E v fm) 75 (0, 0)) ∧ (i < ts.length → a = some ⟨g, i * 4, none⟩) ∧ ts.length - i ≤ c
  tok : TokAt w g ts
  glt : 0 < ts.length → g < R
  own : ownNod w (R + 1) v l
  tab : T w
  le : i ≤ ts.length

/-- Nothing has turned but the reader and the nodes. -/
structure Moved (R : Nat) (w w' : World) (v v' : Value) : Prop where
  os : w'.os = w.os
  tape : w'.tape = w.tape
  output : w'.output = w.output
  size : w.heap.size ≤ w'.heap.size
  block : ∀ k, k < w.heap.size → k ≠ R → some k ≠ v.ownBlock → w'.heap[k]? = w.heap[k]?
  new : ∀ k, v'.ownBlock = some k → w.heap.size ≤ k ∨ v.ownBlock = some k

theorem Moved.trans {R : Nat} {a b c : World} {u v x : Value} (h : Moved R a b u v) (k : Moved R b c v x) : Moved R a c u x := by
  refine ⟨k.os.trans h.os, k.tape.trans h.tape, k.output.trans h.output, Nat.le_trans h.size k.size, fun j hj hr hu => ?_, fun j hj => ?_⟩
  · have hne : some j ≠ v.ownBlock := fun e => by
      rcases h.new j e.symm with h | h
      · omega
      · exact hu h.symm
    rw [k.block j (by have := h.size; omega) hr hne, h.block j hj hr hu]
  · rcases k.new j hj with h1 | h1
    · exact Or.inl (by have := h.size; omega)
    · exact h.new j h1

theorem Moved.of_below {R : Nat} {w w' : World} {v : Value} (h : Below w.heap.size w w') : Moved R w w' v v := ⟨h.os, h.tape, h.output, h.size, fun k hk _ _ => h.block k hk, fun k hk => Or.inr hk⟩

theorem Moved.of_grew {R : Nat} {w w' : World} {v v' : Value} (h : Grew w w' v v') : Moved R w w' v v' := ⟨h.1.os, h.1.tape, h.1.output, h.1.size, fun k hk _ hv => h.1.block k hk hv, h.2⟩

theorem Moved.low {R : Nat} {w w' : World} {v v' : Value} (h : Moved R w w' v v') (hv : ∀ k, v.ownBlock = some k → R < k) (hR : R < w.heap.size) : Below R w w' :=
  ⟨h.os, h.tape, h.output, h.size, fun k hk => h.block k (by omega) (by omega) (fun e => by have := hv k e.symm; omega)⟩

/-- The reader's row is written. -/
theorem Moved.set {R : Nat} {w w' : World} {v v' : Value} (h : Moved R w w' v v') (j : Nat) (y : Value) : Moved R w (w'.setCell ⟨R, j, none⟩ y) v v' :=
  ⟨h.os, h.tape, h.output, by simpa [World.setCell] using h.size, fun k hk hr hv => (heap_setCell_other w' ⟨R, j, none⟩ k y hr).trans (h.block k hk hr hv), h.new⟩

section
variable {T : World → Prop} {R g fm : Nat} {ts : List Tok} {E : Int} {w w' : World} {i : Nat} {v v' : Value} {l : List Nod}

theorem RS.lt (h : RS T R g fm ts E w i v l) : R < w.heap.size := by
  obtain ⟨a, c, hr, _⟩ := h.row
  exact (Array.getElem?_eq_some_iff.1 hr).1

theorem RS.far (h : RS T R g fm ts E w i v l) : ∀ k, v.ownBlock = some k → R < k := fun k hk => by have := (h.own.lt k hk).1; omega

theorem toks_kept (hT : TokAt w g ts) (hg : 0 < ts.length → g < R) (hb : Below R w w') : TokAt w' g ts := fun j hj => (hT j hj).below hb (hg (by omega))

theorem RS.below (hT : ∀ a b, T a → Below R a b → T b) (h : RS T R g fm ts E w i v l) (hb : Below w.heap.size w w') : RS T R g fm ts E w' i v l := by
  have hlt := h.lt
  have hb' : Below R w w' := hb.mono (by omega)
  obtain ⟨a, c, hr, h1, h2⟩ := h.row
  exact ⟨⟨a, c, (hb.block R hlt).trans hr, h1, h2⟩, toks_kept h.tok h.glt hb', h.glt, ownNod_kept h.own hb (Nat.le_refl _), hT _ _ h.tab hb', h.le⟩
end

theorem rd_row {w : World} {g : Nat} {a : Option Addr} {m c : Nat} {E : Int} {v : Value} {fm : Nat} {t : TypeId} (h : w.heap[g]? = some (.cells (rdR a m c E v fm) t (0, 0))) :
    w.cell? ⟨g, 0, none⟩ = some (.slice a m c) ∧ w.cell? ⟨g, 1, none⟩ = some (.int .i64 E) ∧ w.cell? ⟨g, 2, none⟩ = some v ∧ w.cell? ⟨g, 3, none⟩ = some (.map (some fm)) ∧ ∀ j, w.frozen? ⟨g, j, none⟩ = false := by
  refine ⟨?_, ?_, ?_, ?_, fun j => frozen_of_row w g j _ _ h⟩ <;> rw [cell_of_row _ _ _ _ _ _ h] <;> rfl

set_option maxRecDepth 20000 in
/-- There is no token more. -/
theorem rd_take_end {T : World → Prop} {R g fm : Nat} {ts : List Tok} {E : Int} {w : World} {i : Nat} {v : Value} {l : List Nod} (h : RS T R g fm ts E w i v l) (hi : ¬ i < ts.length) :
    Calls Tryd.prog 79 #[.pointer (some ⟨R, 0, none⟩)] w fun e w' => e = .panicked [fltV 2 E] ∧ Below w.heap.size w w' := by
  obtain ⟨a, c, hr, h1, h2⟩ := h.row
  have hlt := h.lt
  have hm : ts.length - i = 0 := by omega
  rw [hm] at hr
  obtain ⟨r0, r1, r2, r3, r4⟩ := rd_row hr
  clear hr h1 h2 h hi hm
  go_enter Tryd.func79, Tryd.ntmps79
  go_wp2
  exact ⟨rfl, rfl, (Below.refl _ w).alloc (Nat.le_refl _) _⟩

theorem size_set (w : World) (a : Addr) (y : Value) : (w.setCell a y).heap.size = w.heap.size := by simp [World.setCell]

/-- The reader goes on by a token. -/
theorem RS.took {T : World → Prop} {R g fm : Nat} {ts : List Tok} {E : Int} {w : World} {i : Nat} {v : Value} {l : List Nod} (hT : ∀ a b, T a → Below R a b → T b) (h : RS T R g fm ts E w i v l) (hi : i < ts.length) (a : Option Addr) (m c : Nat) (hm : ts.length - i = m + 1) (ha : i + 1 < ts.length → a = some ⟨g, (i + 1) * 4, none⟩) (hc : m ≤ c) :
    RS T R g fm ts E (w.setCell ⟨R, 0, none⟩ (.slice a m c)) (i + 1) v l ∧ Moved R w (w.setCell ⟨R, 0, none⟩ (.slice a m c)) v v := by
  have hmv := (Moved.of_below (R := R) (v := v) (Below.refl w.heap.size w)).set 0 (.slice a m c)
  have hb : Below R w (w.setCell ⟨R, 0, none⟩ (.slice a m c)) := (Below.refl _ w).setCell (p := ⟨R, 0, none⟩) (Nat.le_refl _) _
  obtain ⟨a0, c0, hr, h1, h2⟩ := h.row
  have e1 : ts.length - (i + 1) = m := by omega
  refine ⟨⟨⟨a, c, ?_, ha, by omega⟩, toks_kept h.tok h.glt hb, h.glt, ownsRow_setCell_other h.own (fun e => by have := h.far R e; omega) _, hT _ _ h.tab hb, by omega⟩, hmv⟩
  rw [heap_setCell_same w R 0 _ _ (.slice a m c) hr, e1]
  rfl

theorem tok_back {w : World} {k : Int} {s : ByteArray} {n p : Int} {N : Nat} {o : Obj} (hN : w.heap.size = N) :
    ((w.alloc (.cells #[.int .i64 k, .string s, .int .i64 n, .int .i64 p] 52)).alloc o).heap[N]? = some (.cells #[.int .i64 k, .string s, .int .i64 n, .int .i64 p] 52 (0, 0)) := by
  subst hN
  exact heap_alloc2_old w _ _

set_option maxHeartbeats 1000000 in
set_option maxRecDepth 20000 in
/-- A token is taken, whatever it is. -/
theorem rd_take {T : World → Prop} {R g fm : Nat} {ts : List Tok} {E : Int} {w : World} {i : Nat} {v : Value} {l : List Nod} (hT : ∀ a b, T a → Below R a b → T b) (h : RS T R g fm ts E w i v l) (hi : i < ts.length) (hc : ts.length ≤ 4000) :
    Calls Tryd.prog 79 #[.pointer (some ⟨R, 0, none⟩)] w fun e w' => e = .returned (tokA (ts.getD i noTok)) ∧ RS T R g fm ts E w' (i + 1) v l ∧ Moved R w w' v v := by
  have HH : Hid (_) := h
  obtain ⟨a, c, hr, h1, h2⟩ := h.row
  have hlt := h.lt
  obtain rfl := h1 hi
  obtain ⟨m, hm⟩ : ∃ m, ts.length - i = m + 1 := ⟨ts.length - i - 1, by omega⟩
  have HM : Hid (ts.length - i = m + 1) := hm
  have HR : Hid (_) := hr
  rw [hm] at hr h2
  obtain ⟨r0, r1, r2, r3, r4⟩ := rd_row hr
  have t := h.tok i hi
  have hg := h.glt (by omega)
  generalize ts.getD i noTok = tk at t
  obtain ⟨kd, tx, tn, tp⟩ := tk
  have t0 : w.cell? ⟨g, i * 4, none⟩ = some (.int .i64 kd) := t.c0
  have t1 : w.cell? ⟨g, i * 4 + 1, none⟩ = some (.string tx) := t.c1
  have t2 : w.cell? ⟨g, i * 4 + 2, none⟩ = some (.int .i64 tn) := t.c2
  have t3 : w.cell? ⟨g, i * 4 + 3, none⟩ = some (.int .i64 tp) := t.c3
  have hg2 : g < w.heap.size := by omega
  have hgR : ¬ g = R := by omega
  have hmc : (m : Int) ≤ 4000 := by omega
  have HKT : Hid (_) := hT
  clear hr h1 h t hm hT
  by_cases hc1 : c = 1
  · obtain rfl : m = 0 := by omega
    have HK := HH.out.took HKT.out hi (some ⟨g, i * 4, none⟩) 0 0 HM.out (by have := HM.out; omega) (by omega)
    have HK2 : Hid (_) := HK
    subst hc1
    clear HK
    go_enter Tryd.func79, Tryd.ntmps79
    go_wp2
    refine bodyPost_ret (results_cell_row rfl _ _ w.heap.size 52 #[.int .i64 kd, .string tx, .int .i64 tn, .int .i64 tp] (0, 0) _ rfl (tok_back (size_set _ _ _)) Tryd.underlying52 rfl (by kernel_rfl)) rfl ?_
    have hb : ∀ X : World, ∀ o1 o2 : Obj, Below X.heap.size X ((X.alloc o1).alloc o2) := fun X o1 o2 => ((Below.refl _ X).alloc (Nat.le_refl _) _).alloc (by simp) _
    exact ⟨rfl, HK2.out.1.below HKT.out (hb _ _ _), HK2.out.2.trans (Moved.of_below (hb _ _ _))⟩
  · have e4 : (i + 1) * 4 = i * 4 + 4 := by omega
    have HK := HH.out.took HKT.out hi (some ⟨g, i * 4 + 4, none⟩) m (c - 1) HM.out (fun _ => by rw [e4]) (by omega)
    have HK2 : Hid (_) := HK
    clear HK e4
    go_enter Tryd.func79, Tryd.ntmps79
    go_wp2
    refine bodyPost_ret (results_cell_row rfl _ _ w.heap.size 52 #[.int .i64 kd, .string tx, .int .i64 tn, .int .i64 tp] (0, 0) _ rfl (tok_back (size_set _ _ _)) Tryd.underlying52 rfl (by kernel_rfl)) rfl ?_
    have hb : ∀ X : World, ∀ o1 o2 : Obj, Below X.heap.size X ((X.alloc o1).alloc o2) := fun X o1 o2 => ((Below.refl _ X).alloc (Nat.le_refl _) _).alloc (by simp) _
    exact ⟨rfl, HK2.out.1.below HKT.out (hb _ _ _), HK2.out.2.trans (Moved.of_below (hb _ _ _))⟩
end Go.Proofs.YtncoooimgeoihaaDoor
