/-
  Several texts in one, in their order: each is told at its own place by its theorems. Conditions: written at each theorem.
-/
import Derived.Test.YtobijbhgpgnfkaaGreatDoorPm
import Derived.Test.YtobijbhgpgnfkaaGreatDoorAp
import Derived.Test.YtobijbhgpgnfkaaGreatDoorLr
import Derived.Test.YtobijbhgpgnfkaaGreatDoorIj
import Derived.Deep.LoopGhost
import Derived.MapKept
import Derived.Carry
import Derived.Test.YtobijbhgpgnfkaaGreatDoorSt
import Derived.Deep.QuietTactic
import Derived.BigQuiet
import Derived.Test.YtobijbhgpgnfkaaGreatDoorPg
import Derived.Test.YtobijbhgpgnfkaaGreatDoorPp
import Derived.Defers
import Derived.Recover
namespace Go.Proofs.YtobijbhgpgnfkaaGreatDoor
set_option linter.unusedVariables false

section
open Go.ChangeShapes Go.WideShapes Go.ChangeAt Go.RowKit

/-- A fault as it is panicked with. -/
abbrev fltV (c q : Int) : PanicEntry := { v := .iface 50 (.agg #[.int .i64 c, .int .i64 q]), recovered := false }
abbrev tokA (t : Tok) : Value := .agg #[.int .i64 t.kind, .string t.text, .int .i64 t.n, .int .i64 t.place]
abbrev rdR (a : Option Addr) (m c : Nat) (E : Int) (v : Value) (fm : Nat) : Array Value := #[.slice a m c, .int .i64 E, v, .map (some fm)]

/-- The reader R stands at token i of ts, with these nodes so far. -/
structure RS (T : World → Prop) (R g fm : Nat) (ts : List Tok) (E : Int) (w : World) (i : Nat) (v : Value) (l : List Nod) : Prop where
  row : ∃ (a : Option Addr) (c : Nat), w.heap[R]? = some (.cells (rdR a (ts.length - i) c E v fm) 93 (0, 0)) ∧ (i < ts.length → a = some ⟨g, i * 4, none⟩) ∧ ts.length - i ≤ c
  tok : TokAt w g ts
  glt : 0 < ts.length → g < R
  own : ownNod w (R + 1) v l
  tab : T w
  le : i ≤ ts.length

/-- Nothing has turned but the reader and the nodes. -/
structure Moved (R : Nat) (w w' : World) (v v' : Value) : Prop where
  os : w'.os = w.os
  tape : w'.tape = w.tape
  output : w'.output = w.output
  size : w.heap.size ≤ w'.heap.size
  block : ∀ k, k < w.heap.size → k ≠ R → some k ≠ v.ownBlock → w'.heap[k]? = w.heap[k]?
  new : ∀ k, v'.ownBlock = some k → w.heap.size ≤ k ∨ v.ownBlock = some k

theorem Moved.trans {R : Nat} {a b c : World} {u v x : Value} (h : Moved R a b u v) (k : Moved R b c v x) : Moved R a c u x := by
  refine ⟨k.os.trans h.os, k.tape.trans h.tape, k.output.trans h.output, Nat.le_trans h.size k.size, fun j hj hr hu => ?_, fun j hj => ?_⟩
  · have hne : some j ≠ v.ownBlock := fun e => by
      rcases h.new j e.symm with h | h
      · omega
      · exact hu h.symm
    rw [k.block j (by have := h.size; omega) hr hne, h.block j hj hr hu]
  · rcases k.new j hj with h1 | h1
    · exact Or.inl (by have := h.size; omega)
    · exact h.new j h1

theorem Moved.of_below {R : Nat} {w w' : World} {v : Value} (h : Below w.heap.size w w') : Moved R w w' v v := ⟨h.os, h.tape, h.output, h.size, fun k hk _ _ => h.block k hk, fun k hk => Or.inr hk⟩

theorem Moved.of_grew {R : Nat} {w w' : World} {v v' : Value} (h : Grew w w' v v') : Moved R w w' v v' := ⟨h.1.os, h.1.tape, h.1.output, h.1.size, fun k hk _ hv => h.1.block k hk hv, h.2⟩

theorem Moved.low {R : Nat} {w w' : World} {v v' : Value} (h : Moved R w w' v v') (hv : ∀ k, v.ownBlock = some k → R < k) (hR : R < w.heap.size) : Below R w w' :=
  ⟨h.os, h.tape, h.output, h.size, fun k hk => h.block k (by omega) (by omega) (fun e => by have := hv k e.symm; omega)⟩

/-- The reader's row is written. -/
theorem Moved.set {R : Nat} {w w' : World} {v v' : Value} (h : Moved R w w' v v') (j : Nat) (y : Value) : Moved R w (w'.setCell ⟨R, j, none⟩ y) v v' :=
  ⟨h.os, h.tape, h.output, by simpa [World.setCell] using h.size, fun k hk hr hv => (heap_setCell_other w' ⟨R, j, none⟩ k y hr).trans (h.block k hk hr hv), h.new⟩

section
variable {T : World → Prop} {R g fm : Nat} {ts : List Tok} {E : Int} {w w' : World} {i : Nat} {v v' : Value} {l : List Nod}

theorem RS.lt (h : RS T R g fm ts E w i v l) : R < w.heap.size := by
  obtain ⟨a, c, hr, _⟩ := h.row
  exact (Array.getElem?_eq_some_iff.1 hr).1

theorem RS.far (h : RS T R g fm ts E w i v l) : ∀ k, v.ownBlock = some k → R < k := fun k hk => by have := (h.own.lt k hk).1; omega

theorem toks_kept (hT : TokAt w g ts) (hg : 0 < ts.length → g < R) (hb : Below R w w') : TokAt w' g ts := fun j hj => (hT j hj).below hb (hg (by omega))

theorem RS.below (hT : ∀ a b, T a → Below R a b → T b) (h : RS T R g fm ts E w i v l) (hb : Below w.heap.size w w') : RS T R g fm ts E w' i v l := by
  have hlt := h.lt
  have hb' : Below R w w' := hb.mono (by omega)
  obtain ⟨a, c, hr, h1, h2⟩ := h.row
  exact ⟨⟨a, c, (hb.block R hlt).trans hr, h1, h2⟩, toks_kept h.tok h.glt hb', h.glt, ownNod_kept h.own hb (Nat.le_refl _), hT _ _ h.tab hb', h.le⟩
end

theorem rd_row {w : World} {g : Nat} {a : Option Addr} {m c : Nat} {E : Int} {v : Value} {fm : Nat} {t : TypeId} (h : w.heap[g]? = some (.cells (rdR a m c E v fm) t (0, 0))) :
    w.cell? ⟨g, 0, none⟩ = some (.slice a m c) ∧ w.cell? ⟨g, 1, none⟩ = some (.int .i64 E) ∧ w.cell? ⟨g, 2, none⟩ = some v ∧ w.cell? ⟨g, 3, none⟩ = some (.map (some fm)) ∧ ∀ j, w.frozen? ⟨g, j, none⟩ = false := by
  refine ⟨?_, ?_, ?_, ?_, fun j => frozen_of_row w g j _ _ h⟩ <;> rw [cell_of_row _ _ _ _ _ _ h] <;> rfl

set_option maxRecDepth 20000 in
/-- There is no token more. -/
theorem rd_take_end {T : World → Prop} {R g fm : Nat} {ts : List Tok} {E : Int} {w : World} {i : Nat} {v : Value} {l : List Nod} (h : RS T R g fm ts E w i v l) (hi : ¬ i < ts.length) :
    Calls Tryz.prog 107 #[.pointer (some ⟨R, 0, none⟩)] w fun e w' => e = .panicked [fltV 2 E] ∧ Below w.heap.size w w' := by
  obtain ⟨a, c, hr, h1, h2⟩ := h.row
  have hlt := h.lt
  have hm : ts.length - i = 0 := by omega
  rw [hm] at hr
  obtain ⟨r0, r1, r2, r3, r4⟩ := rd_row hr
  clear hr h1 h2 h hi hm
  go_enter Tryz.func107, Tryz.ntmps107
  go_wp2
  exact ⟨rfl, rfl, (Below.refl _ w).alloc (Nat.le_refl _) _⟩

theorem size_set (w : World) (a : Addr) (y : Value) : (w.setCell a y).heap.size = w.heap.size := by simp [World.setCell]

/-- The reader goes on by a token. -/
theorem RS.took {T : World → Prop} {R g fm : Nat} {ts : List Tok} {E : Int} {w : World} {i : Nat} {v : Value} {l : List Nod} (hT : ∀ a b, T a → Below R a b → T b) (h : RS T R g fm ts E w i v l) (hi : i < ts.length) (a : Option Addr) (m c : Nat) (hm : ts.length - i = m + 1) (ha : i + 1 < ts.length → a = some ⟨g, (i + 1) * 4, none⟩) (hc : m ≤ c) :
    RS T R g fm ts E (w.setCell ⟨R, 0, none⟩ (.slice a m c)) (i + 1) v l ∧ Moved R w (w.setCell ⟨R, 0, none⟩ (.slice a m c)) v v := by
  have hmv := (Moved.of_below (R := R) (v := v) (Below.refl w.heap.size w)).set 0 (.slice a m c)
  have hb : Below R w (w.setCell ⟨R, 0, none⟩ (.slice a m c)) := (Below.refl _ w).setCell (p := ⟨R, 0, none⟩) (Nat.le_refl _) _
  obtain ⟨a0, c0, hr, h1, h2⟩ := h.row
  have e1 : ts.length - (i + 1) = m := by omega
  refine ⟨⟨⟨a, c, ?_, ha, by omega⟩, toks_kept h.tok h.glt hb, h.glt, ownsRow_setCell_other h.own (fun e => by have := h.far R e; omega) _, hT _ _ h.tab hb, by omega⟩, hmv⟩
  rw [heap_setCell_same w R 0 _ _ (.slice a m c) hr, e1]
  rfl

theorem tok_back {w : World} {k : Int} {s : ByteArray} {n p : Int} {N : Nat} {o : Obj} (hN : w.heap.size = N) :
    ((w.alloc (.cells #[.int .i64 k, .string s, .int .i64 n, .int .i64 p] 66)).alloc o).heap[N]? = some (.cells #[.int .i64 k, .string s, .int .i64 n, .int .i64 p] 66 (0, 0)) := by
  subst hN
  exact heap_alloc2_old w _ _

set_option maxHeartbeats 1000000 in
set_option maxRecDepth 20000 in
/-- A token is taken, whatever it is. -/
theorem rd_take {T : World → Prop} {R g fm : Nat} {ts : List Tok} {E : Int} {w : World} {i : Nat} {v : Value} {l : List Nod} (hT : ∀ a b, T a → Below R a b → T b) (h : RS T R g fm ts E w i v l) (hi : i < ts.length) (hc : ts.length ≤ 4000) :
    Calls Tryz.prog 107 #[.pointer (some ⟨R, 0, none⟩)] w fun e w' => e = .returned (tokA (ts.getD i noTok)) ∧ RS T R g fm ts E w' (i + 1) v l ∧ Moved R w w' v v := by
  have HH : Hid (_) := h
  obtain ⟨a, c, hr, h1, h2⟩ := h.row
  have hlt := h.lt
  obtain rfl := h1 hi
  obtain ⟨m, hm⟩ : ∃ m, ts.length - i = m + 1 := ⟨ts.length - i - 1, by omega⟩
  have HM : Hid (ts.length - i = m + 1) := hm
  have HR : Hid (_) := hr
  rw [hm] at hr h2
  obtain ⟨r0, r1, r2, r3, r4⟩ := rd_row hr
  have t := h.tok i hi
  have hg := h.glt (by omega)
  generalize ts.getD i noTok = tk at t
  obtain ⟨kd, tx, tn, tp⟩ := tk
  have t0 : w.cell? ⟨g, i * 4, none⟩ = some (.int .i64 kd) := t.c0
  have t1 : w.cell? ⟨g, i * 4 + 1, none⟩ = some (.string tx) := t.c1
  have t2 : w.cell? ⟨g, i * 4 + 2, none⟩ = some (.int .i64 tn) := t.c2
  have t3 : w.cell? ⟨g, i * 4 + 3, none⟩ = some (.int .i64 tp) := t.c3
  have hg2 : g < w.heap.size := by omega
  have hgR : ¬ g = R := by omega
  have hmc : (m : Int) ≤ 4000 := by omega
  have HKT : Hid (_) := hT
  clear hr h1 h t hm hT
  by_cases hc1 : c = 1
  · obtain rfl : m = 0 := by omega
    have HK := HH.out.took HKT.out hi (some ⟨g, i * 4, none⟩) 0 0 HM.out (by have := HM.out; omega) (by omega)
    have HK2 : Hid (_) := HK
    subst hc1
    clear HK
    go_enter Tryz.func107, Tryz.ntmps107
    go_wp2
    refine bodyPost_ret (results_cell_row rfl _ _ w.heap.size 66 #[.int .i64 kd, .string tx, .int .i64 tn, .int .i64 tp] (0, 0) _ rfl (tok_back (size_set _ _ _)) Tryz.underlying66 rfl (by kernel_rfl)) rfl ?_
    have hb : ∀ X : World, ∀ o1 o2 : Obj, Below X.heap.size X ((X.alloc o1).alloc o2) := fun X o1 o2 => ((Below.refl _ X).alloc (Nat.le_refl _) _).alloc (by simp) _
    exact ⟨rfl, HK2.out.1.below HKT.out (hb _ _ _), HK2.out.2.trans (Moved.of_below (hb _ _ _))⟩
  · have e4 : (i + 1) * 4 = i * 4 + 4 := by omega
    have HK := HH.out.took HKT.out hi (some ⟨g, i * 4 + 4, none⟩) m (c - 1) HM.out (fun _ => by rw [e4]) (by omega)
    have HK2 : Hid (_) := HK
    clear HK e4
    go_enter Tryz.func107, Tryz.ntmps107
    go_wp2
    refine bodyPost_ret (results_cell_row rfl _ _ w.heap.size 66 #[.int .i64 kd, .string tx, .int .i64 tn, .int .i64 tp] (0, 0) _ rfl (tok_back (size_set _ _ _)) Tryz.underlying66 rfl (by kernel_rfl)) rfl ?_
    have hb : ∀ X : World, ∀ o1 o2 : Obj, Below X.heap.size X ((X.alloc o1).alloc o2) := fun X o1 o2 => ((Below.refl _ X).alloc (Nat.le_refl _) _).alloc (by simp) _
    exact ⟨rfl, HK2.out.1.below HKT.out (hb _ _ _), HK2.out.2.trans (Moved.of_below (hb _ _ _))⟩
end

section
open Go.ChangeShapes Go.WideShapes Go.ChangeAt Go.RowKit

theorem word_low {s : ByteArray} (h : isWordB s = true) : 0 < s.size ∧ s.size ≤ 8 ∧ lowA (bAt s 0) := by
  have h' := of_decide_eq_true h
  exact ⟨by omega, by omega, h'.2.2 0 (by omega)⟩

theorem no_word {s : ByteArray} (h : ¬ lowA (bAt s 0)) : isWordB s = false := by
  rw [Bool.eq_false_iff]
  intro hw
  exact h (word_low hw).2.2

theorem no_name {s : ByteArray} {t : Tok} (h : TokOk s t) (hk : ¬ t.kind = 3) : isNameB t.text = false := by
  have : isWordB t.text = false := by
    rcases h.1 with ⟨_, e⟩ | ⟨_, e⟩ | ⟨e, _⟩ | ⟨_, _, e⟩
    · rw [e]; exact no_word (by decide)
    · rw [e]; exact no_word (by decide)
    · exact absurd e hk
    · exact no_word (by unfold dig9 at e; omega)
  rw [isNameB, this]
  rfl

/-- A name, as it is taken of a text's tokens. -/
theorem nameE_is {s : ByteArray} {ts : List Tok} {E : Int} {i : Nat} (hi : i < ts.length) (h : TokOk s (ts.getD i noTok)) :
    nameE ts E i = if isNameB (ts.getD i noTok).text = true then .ok (i + 1, (ts.getD i noTok).text) else .error (3, (ts.getD i noTok).place) := by
  unfold nameE takeE
  by_cases hk : (ts.getD i noTok).kind = 3
  · have hw : isWordB (ts.getD i noTok).text = true := by
      rcases h.1 with ⟨e, _⟩ | ⟨e, _⟩ | ⟨_, e⟩ | ⟨e, _⟩
      · omega
      · omega
      · exact e
      · omega
    have hn : isNameB (ts.getD i noTok).text = !isKeyB (ts.getD i noTok).text := by rw [isNameB, hw]; rfl
    rw [if_pos hi, if_pos hk, hn]
    cases hb : isKeyB (ts.getD i noTok).text with
    | true => rw [if_pos ⟨hi, rfl⟩]; rfl
    | false => rw [if_neg (by simp)]; rfl
  · rw [if_pos hi, if_neg hk, no_name h hk]
    simp only [Bool.false_eq_true, if_false]
    by_cases hb : i < ts.length ∧ isKeyB (ts.getD i noTok).text = true
    · rw [if_pos hb]
    · rw [if_neg hb]

/-- What a name that is taken ends with. -/
def NOut (T : World → Prop) (R g fm : Nat) (ts : List Tok) (E : Int) (w : World) (v : Value) (l : List Nod) (r : Except Flt (Nat × ByteArray)) (e : Ending) (w' : World) : Prop := match r with
  | .ok (j, s) => e = .returned (.string s) ∧ RS T R g fm ts E w' j v l ∧ Moved R w w' v v
  | .error (c, q) => e = .panicked [fltV c q] ∧ Below R w w'

theorem rd_name_yes (t : Tok) (hs : t.text.size ≤ 4000) (hn : isNameB t.text = true) (w : World) :
    Calls Tryz.prog 118 #[tokA t] w fun e w' => e = .returned (.string t.text) ∧ Below w.heap.size w w' := by
  obtain ⟨kd, tx, tn, tp⟩ := t
  have HS : Hid (tx.size ≤ 4000) := hs
  have HN : Hid (isNameB tx = true) := hn
  clear hs hn
  go_enter Tryz.func118, Tryz.ntmps118
  go_wp2_with fail
  refine (impl_name tx (by have := HS.out; unfold maxLen; omega) _).mono ?_
  rintro e w1 ⟨rfl, rfl⟩
  rw [HN.out]
  go_wp2
  go_ret
  exact ⟨rfl, (Below.refl _ w).alloc (Nat.le_refl _) _⟩

theorem rd_name_no (t : Tok) (hs : t.text.size ≤ 4000) (hn : isNameB t.text = false) (w : World) :
    Calls Tryz.prog 118 #[tokA t] w fun e w' => e = .panicked [fltV 3 t.place] ∧ Below w.heap.size w w' := by
  obtain ⟨kd, tx, tn, tp⟩ := t
  have HS : Hid (tx.size ≤ 4000) := hs
  have HN : Hid (isNameB tx = false) := hn
  clear hs hn
  go_enter Tryz.func118, Tryz.ntmps118
  go_wp2_with fail
  refine (impl_name tx (by have := HS.out; unfold maxLen; omega) _).mono ?_
  rintro e w1 ⟨rfl, rfl⟩
  rw [HN.out]
  go_wp2
  exact ⟨rfl, rfl, (Below.refl _ w).alloc (Nat.le_refl _) _⟩

theorem rd_name {T : World → Prop} {R g fm : Nat} {ts : List Tok} {E : Int} {w : World} {i : Nat} {v : Value} {l : List Nod} {s : ByteArray} (hT : ∀ a b, T a → Below R a b → T b) (h : RS T R g fm ts E w i v l) (hc : ts.length ≤ 4000) (hs : s.size ≤ 4000) (hk : ∀ i, i < ts.length → TokOk s (ts.getD i noTok)) :
    Calls Tryz.prog 104 #[.pointer (some ⟨R, 0, none⟩)] w fun e w' => NOut T R g fm ts E w v l (nameE ts E i) e w' := by
  have HH : Hid (_) := h
  have HT : Hid (_) := hT
  by_cases hi : i < ts.length
  · have HK := hk i hi
    have hne := nameE_is (E := E) hi HK
    rw [hne]
    have hsz : (ts.getD i noTok).text.size ≤ 4000 := by have := HK.2.2.2; omega
    have HTK : Hid (Calls Tryz.prog 107 #[.pointer (some ⟨R, 0, none⟩)] w fun e w' => e = .returned (tokA (ts.getD i noTok)) ∧ RS T R g fm ts E w' (i + 1) v l ∧ Moved R w w' v v) := rd_take hT h hi hc
    clear HK hne h hT hk
    generalize ts.getD i noTok = t at *
    by_cases hn : isNameB t.text = true
    · have HC : Hid (∀ w, Calls Tryz.prog 118 #[tokA t] w fun e w' => e = .returned (.string t.text) ∧ Below w.heap.size w w') := rd_name_yes t hsz hn
      rw [if_pos hn]
      clear hn
      go_enter Tryz.func104, Tryz.ntmps104
      go_wp2_with fail
      refine HTK.out.mono ?_
      rintro e w1 ⟨rfl, hrs, hmv⟩
      have HRS : Hid (RS T R g fm ts E w1 (i + 1) v l) := hrs
      have HMV : Hid (Moved R w w1 v v) := hmv
      clear hrs hmv HTK
      go_wp2_with fail
      refine (HC.out w1).mono ?_
      rintro e w2 ⟨rfl, hb⟩
      have HB : Hid (Below w1.heap.size w1 w2) := hb
      clear hb
      go_wp2
      go_ret
      exact ⟨rfl, HRS.out.below HT.out HB.out, HMV.out.trans (Moved.of_below HB.out)⟩
    · have HC : Hid (∀ w, Calls Tryz.prog 118 #[tokA t] w fun e w' => e = .panicked [fltV 3 t.place] ∧ Below w.heap.size w w') := rd_name_no t hsz (by simpa using hn)
      rw [if_neg hn]
      clear hn
      go_enter Tryz.func104, Tryz.ntmps104
      go_wp2_with fail
      refine HTK.out.mono ?_
      rintro e w1 ⟨rfl, hrs, hmv⟩
      have HRS : Hid (RS T R g fm ts E w1 (i + 1) v l) := hrs
      have HMV : Hid (Moved R w w1 v v) := hmv
      clear hrs hmv HTK
      go_wp2_with fail
      refine (HC.out w1).mono ?_
      rintro e w2 ⟨rfl, hb⟩
      have HB : Hid (Below w1.heap.size w1 w2) := hb
      clear hb
      go_wp2
      exact ⟨rfl, rfl, (HMV.out.trans (Moved.of_below HB.out)).low HH.out.far HH.out.lt⟩
  · have hne : nameE ts E i = .error (2, E) := by
      unfold nameE takeE
      rw [if_neg (fun h => hi h.1), if_neg hi]
    rw [hne]
    have HTK : Hid (Calls Tryz.prog 107 #[.pointer (some ⟨R, 0, none⟩)] w fun e w' => e = .panicked [fltV 2 E] ∧ Below w.heap.size w w') := rd_take_end h hi
    clear hne h hT hk hi
    go_enter Tryz.func104, Tryz.ntmps104
    go_wp2_with fail
    refine HTK.out.mono ?_
    rintro e w1 ⟨rfl, hb⟩
    have HB : Hid (_) := hb
    clear hb
    go_wp2
    exact ⟨rfl, rfl, HB.out.mono (by have := HH.out.lt; omega)⟩
end

section
open Go.ChangeShapes Go.WideShapes Go.ChangeAt Go.RowKit

/-- What an expression that is read ends with. -/
def EOut (T : World → Prop) (R g fm : Nat) (ts : List Tok) (E : Int) (w : World) (v : Value) (r : Except Flt (Nat × List Nod)) (e : Ending) (w' : World) : Prop := match r with
  | .ok (j, m) => e = .returned (.int .i64 ((m.length : Int) - 1)) ∧ ∃ v', RS T R g fm ts E w' j v' m ∧ Moved R w w' v v'
  | .error (c, q) => e = .panicked [fltV c q] ∧ Below R w w'

/-- With so much fuel an expression is read as it should be. -/
def ExprI (T : World → Prop) (R g fm : Nat) (ts : List Tok) (E : Int) (f : Nat) : Prop := ∀ (w : World) (i : Nat) (v : Value) (l : List Nod), RS T R g fm ts E w i v l → ts.length + 1 ≤ i + f → l.length ≤ i →
  Calls Tryz.prog 84 #[.pointer (some ⟨R, 0, none⟩)] w fun e w' => EOut T R g fm ts E w v (exprE ts E f i l) e w'

/-- What a form that is read ends with. -/
def AOut (T : World → Prop) (R g fm : Nat) (ts : List Tok) (E : Int) (w : World) (v : Value) (r : Except Flt (Nat × Nod × List Nod × List Int)) (e : Ending) (w' : World) : Prop := match r with
  | .ok (j, n, m, ks) => e = .returned (nodAgg (withKids n ks)) ∧ ∃ v', RS T R g fm ts E w' j v' m ∧ Moved R w w' v v'
  | .error (c, q) => e = .panicked [fltV c q] ∧ Below R w w'

/-- A function that reads a form as it should. -/
def FormI (T : World → Prop) (R g fm : Nat) (ts : List Tok) (E : Int) (f : Nat) (F : FuncId) (xs : Array Value) (K op : Int) (form : List UInt8) : Prop := ∀ (w : World) (i : Nat) (v : Value) (l : List Nod), RS T R g fm ts E w i v l → ts.length + 1 ≤ i + f → l.length ≤ i →
  Calls Tryz.prog F xs w fun e w' => AOut T R g fm ts E w v (argsE ts E (exprE ts E f) form i ⟨K, 0, 0, 0, op, ByteArray.empty, ByteArray.empty⟩ l []) e w'

section
variable {T : World → Prop} {R g fm : Nat} {ts : List Tok} {E : Int}

theorem nout_case {w w' : World} {i : Nat} {v : Value} {l : List Nod} {e : Ending} (h : NOut T R g fm ts E w v l (nameE ts E i) e w') :
    (∃ j s, nameE ts E i = .ok (j, s) ∧ e = .returned (.string s) ∧ RS T R g fm ts E w' j v l ∧ Moved R w w' v v) ∨ (∃ c q, nameE ts E i = .error (c, q) ∧ e = .panicked [fltV c q] ∧ Below R w w') := by
  rcases hx : nameE ts E i with ⟨c, q⟩ | ⟨j, s⟩
  · rw [hx] at h
    exact Or.inr ⟨c, q, rfl, h⟩
  · rw [hx] at h
    exact Or.inl ⟨j, s, rfl, h⟩

theorem eout_case {w w' : World} {f i : Nat} {v : Value} {l : List Nod} {e : Ending} (h : EOut T R g fm ts E w v (exprE ts E f i l) e w') :
    (∃ j m v', exprE ts E f i l = .ok (j, m) ∧ e = .returned (.int .i64 ((m.length : Int) - 1)) ∧ RS T R g fm ts E w' j v' m ∧ Moved R w w' v v') ∨ (∃ c q, exprE ts E f i l = .error (c, q) ∧ e = .panicked [fltV c q] ∧ Below R w w') := by
  rcases hx : exprE ts E f i l with ⟨c, q⟩ | ⟨j, m⟩
  · rw [hx] at h
    exact Or.inr ⟨c, q, rfl, h⟩
  · rw [hx] at h
    obtain ⟨h1, v', h2, h3⟩ := h
    exact Or.inl ⟨j, m, v', rfl, h1, h2, h3⟩

/-- Since w: two blocks of the call's own hold these rows; the reader has come so far. -/
structure FS (T : World → Prop) (R g fm : Nat) (ts : List Tok) (E : Int) (w : World) (v : Value) (W : World) (j : Nat) (vx : Value) (L : List Nod) (qr nr : Array Value) (tq tn : TypeId) : Prop where
  rs : RS T R g fm ts E W j vx L
  mv : Moved R w W v vx
  qq : W.heap[w.heap.size]? = some (.cells qr tq (0, 0))
  nn : W.heap[w.heap.size + 1]? = some (.cells nr tn (0, 0))
  far : ∀ k, vx.ownBlock = some k → k ≠ w.heap.size ∧ k ≠ w.heap.size + 1
  rw : R < w.heap.size

variable {w W W' : World} {v vx v' : Value} {j j' : Nat} {L L' : List Nod} {qr nr : Array Value} {tq tn : TypeId}

theorem FS.size (h : FS T R g fm ts E w v W j vx L qr nr tq tn) : w.heap.size + 1 < W.heap.size := (Array.getElem?_eq_some_iff.1 h.nn).1

theorem FS.start (hT : ∀ a b, T a → Below R a b → T b) (h : RS T R g fm ts E w j v L) : FS T R g fm ts E w v ((w.alloc (.cells qr tq)).alloc (.cells nr tn)) j v L qr nr tq tn := by
  have hb : Below w.heap.size w ((w.alloc (.cells qr tq)).alloc (.cells nr tn)) := ((Below.refl _ w).alloc (Nat.le_refl _) _).alloc (by simp) _
  exact ⟨h.below hT hb, Moved.of_below hb, heap_alloc2_old w _ _, heap_alloc2_new w _ _, fun k hk => by have := (h.own.lt k hk).2; omega, h.lt⟩

theorem FS.call (h : FS T R g fm ts E w v W j vx L qr nr tq tn) (hr : RS T R g fm ts E W' j' v' L') (hm : Moved R W W' vx v') : FS T R g fm ts E w v W' j' v' L' qr nr tq tn := by
  have hs := h.size
  have hw := h.rw
  refine ⟨hr, h.mv.trans hm, (hm.block _ (by omega) (by omega) (fun e => (h.far _ e.symm).1 rfl)).trans h.qq, (hm.block _ hs (by omega) (fun e => (h.far _ e.symm).2 rfl)).trans h.nn, fun k hk => ?_, hw⟩
  rcases hm.new k hk with h1 | h1
  · omega
  · exact h.far k h1

theorem FS.below (hT : ∀ a b, T a → Below R a b → T b) (h : FS T R g fm ts E w v W j vx L qr nr tq tn) (hb : Below W.heap.size W W') : FS T R g fm ts E w v W' j vx L qr nr tq tn := h.call (h.rs.below hT hb) (Moved.of_below hb)

/-- A block of the call's own is written. -/
theorem FS.turned (hT : ∀ a b, T a → Below R a b → T b) (h : FS T R g fm ts E w v W j vx L qr nr tq tn) {qr' nr' : Array Value} (hb : Below w.heap.size W W') (ho : ownNod W' (R + 1) vx L) (hq : W'.heap[w.heap.size]? = some (.cells qr' tq (0, 0))) (hn : W'.heap[w.heap.size + 1]? = some (.cells nr' tn (0, 0))) :
    FS T R g fm ts E w v W' j vx L qr' nr' tq tn := by
  have hw := h.rw
  have hbR : Below R W W' := hb.mono (by omega)
  obtain ⟨a, c, hr, h1, h2⟩ := h.rs.row
  refine ⟨⟨⟨a, c, (hb.block R hw).trans hr, h1, h2⟩, toks_kept h.rs.tok h.rs.glt hbR, h.rs.glt, ho, hT _ _ h.rs.tab hbR, h.rs.le⟩, ⟨hb.os.trans h.mv.os, hb.tape.trans h.mv.tape, hb.output.trans h.mv.output, Nat.le_trans h.mv.size hb.size, fun k hk hr hv => (hb.block k hk).trans (h.mv.block k hk hr hv), h.mv.new⟩, hq, hn, h.far, hw⟩

theorem FS.setN (hT : ∀ a b, T a → Below R a b → T b) (h : FS T R g fm ts E w v W j vx L qr nr tq tn) (k : Nat) (y : Value) : FS T R g fm ts E w v (W.setCell ⟨w.heap.size + 1, k, none⟩ y) j vx L qr (nr.setIfInBounds k y) tq tn :=
  h.turned hT ((Below.refl _ W).setCell (p := ⟨w.heap.size + 1, k, none⟩) (by show w.heap.size ≤ w.heap.size + 1; omega) y) (ownsRow_setCell_other h.rs.own (fun e => (h.far _ e).2 rfl) y)
    ((heap_setCell_other W ⟨w.heap.size + 1, k, none⟩ _ y (by show w.heap.size ≠ w.heap.size + 1; omega)).trans h.qq) (heap_setCell_same W _ k _ _ y h.nn)

theorem FS.setQ (hT : ∀ a b, T a → Below R a b → T b) (h : FS T R g fm ts E w v W j vx L qr nr tq tn) (k : Nat) (y : Value) : FS T R g fm ts E w v (W.setCell ⟨w.heap.size, k, none⟩ y) j vx L (qr.setIfInBounds k y) nr tq tn :=
  h.turned hT ((Below.refl _ W).setCell (p := ⟨w.heap.size, k, none⟩) (Nat.le_refl _) y) (ownsRow_setCell_other h.rs.own (fun e => (h.far _ e).1 rfl) y)
    (heap_setCell_same W _ k _ _ y h.qq) ((heap_setCell_other W ⟨w.heap.size, k, none⟩ _ y (by show w.heap.size + 1 ≠ w.heap.size; omega)).trans h.nn)

theorem FS.low (h : FS T R g fm ts E w v W j vx L qr nr tq tn) (hv : ∀ k, v.ownBlock = some k → R < k) : Below R w W := h.mv.low hv h.rw
end

/-- A row of seven cells is written whole. -/
abbrev put7 (W : World) (g : Nat) (y0 y1 y2 y3 y4 y5 y6 : Value) : World := ((((((W.setCell ⟨g, 0, none⟩ y0).setCell ⟨g, 1, none⟩ y1).setCell ⟨g, 2, none⟩ y2).setCell ⟨g, 3, none⟩ y3).setCell ⟨g, 4, none⟩ y4).setCell ⟨g, 5, none⟩ y5).setCell ⟨g, 6, none⟩ y6

abbrev nodZ : Array Value := #[.int .i64 0, .int .i64 0, .int .i64 0, .int .i64 0, .int .i64 0, .string ⟨#[]⟩, .string ⟨#[]⟩]

theorem FS.fin {T : World → Prop} {R g fm : Nat} {ts : List Tok} {E : Int} {w W : World} {v vx : Value} {j : Nat} {L : List Nod} {nr : Array Value} {tn : TypeId} (hT : ∀ a b, T a → Below R a b → T b) (h : FS T R g fm ts E w v W j vx L nodZ nr 58 tn) (y0 y1 y2 y3 y4 y5 y6 : Value) :
    FS T R g fm ts E w v (put7 W w.heap.size y0 y1 y2 y3 y4 y5 y6) j vx L #[y0, y1, y2, y3, y4, y5, y6] nr 58 tn :=
  ((((((h.setQ hT 0 y0).setQ hT 1 y1).setQ hT 2 y2).setQ hT 3 y3).setQ hT 4 y4).setQ hT 5 y5).setQ hT 6 y6

theorem node_cells {w : World} {g : Nat} {y0 y1 y2 y3 y4 y5 y6 : Value} {t : TypeId} (h : w.heap[g]? = some (.cells #[y0, y1, y2, y3, y4, y5, y6] t (0, 0))) :
    w.cell? ⟨g, 0, none⟩ = some y0 ∧ w.cell? ⟨g, 1, none⟩ = some y1 ∧ w.cell? ⟨g, 2, none⟩ = some y2 ∧ w.cell? ⟨g, 3, none⟩ = some y3 ∧ w.cell? ⟨g, 4, none⟩ = some y4 ∧ w.cell? ⟨g, 5, none⟩ = some y5 ∧ w.cell? ⟨g, 6, none⟩ = some y6 ∧ ∀ j, w.frozen? ⟨g, j, none⟩ = false := by
  refine ⟨?_, ?_, ?_, ?_, ?_, ?_, ?_, fun j => frozen_of_row w g j _ _ h⟩ <;> rw [cell_of_row _ _ _ _ _ _ h] <;> rfl

theorem name_size {s : ByteArray} {ts : List Tok} {E : Int} {i j : Nat} {x : ByteArray} (hk : ∀ i, i < ts.length → TokOk s (ts.getD i noTok)) (h : nameE ts E i = .ok (j, x)) : ¬ x.size = 0 ∧ j = i + 1 ∧ i < ts.length := by
  obtain ⟨h1, h2, h3⟩ := nameE_ok h
  rw [nameE_is h2 (hk i h2)] at h
  split at h
  · rename_i hn
    rw [← h3, isNameB, Bool.and_eq_true] at hn
    have := (word_low hn.1).1
    exact ⟨by omega, h1, h2⟩
  · cases h

set_option maxHeartbeats 2000000 in
set_option maxRecDepth 20000 in
theorem rd_readFun {T : World → Prop} {R g fm : Nat} {ts : List Tok} {E : Int} {f : Nat} {s : ByteArray} (hT : ∀ a b, T a → Below R a b → T b) (hc : ts.length ≤ 4000) (hs : s.size ≤ 4000) (hk : ∀ i, i < ts.length → TokOk s (ts.getD i noTok)) (ih : ExprI T R g fm ts E f) :
    FormI T R g fm ts E f 78 #[.pointer (some ⟨R, 0, none⟩)] 3 0 [110, 101] := by
  intro w i v l h hf hl
  obtain ⟨RA, hRA⟩ : ∃ RA, argsE ts E (exprE ts E f) [110, 101] i ⟨3, 0, 0, 0, 0, ByteArray.empty, ByteArray.empty⟩ l [] = RA := ⟨_, rfl⟩
  rw [hRA]
  have HA0 : Hid (argsE ts E (exprE ts E f) [110, 101] i ⟨3, 0, 0, 0, 0, ByteArray.empty, ByteArray.empty⟩ l [] = RA) := hRA
  have HT : Hid (∀ a b, T a → Below R a b → T b) := hT
  have IH : Hid (ExprI T R g fm ts E f) := ih
  have HC : Hid (ts.length ≤ 4000) := hc
  have HS : Hid (s.size ≤ 4000) := hs
  have HK : Hid (∀ i, i < ts.length → TokOk s (ts.getD i noTok)) := hk
  have HV : Hid (∀ k, v.ownBlock = some k → R < k) := h.far
  have HF : Hid (ts.length + 1 ≤ i + f) := hf
  have HL0 : Hid (l.length ≤ i) := hl
  have F0 : Hid (FS T R g fm ts E w v ((w.alloc (.cells nodZ 58)).alloc (.cells #[.int .i64 3, .int .i64 0, .int .i64 0, .int .i64 0, .int .i64 0, .string ⟨#[]⟩, .string ⟨#[]⟩] 58)) i v l nodZ #[.int .i64 3, .int .i64 0, .int .i64 0, .int .i64 0, .int .i64 0, .string ⟨#[]⟩, .string ⟨#[]⟩] 58 58) := FS.start hT h
  clear hRA hT ih hc hs hk hf hl h
  go_enter Tryz.func78, Tryz.ntmps78
  go_wp2_with fail
  refine (rd_name HT.out F0.out.rs HC.out HS.out HK.out).mono ?_
  rintro e w1 he1
  obtain ⟨j1, s1, hx1, rfl, hr1, hm1⟩ | ⟨c1, q1, hx1, rfl, hb1⟩ := nout_case he1
  case inr =>
    have HE : Hid (RA = .error (c1, q1)) := by
      have h := HA0.out
      rw [argsE, if_pos rfl, hx1] at h
      exact h.symm
    have HB : Hid (Below R w w1) := (F0.out.low HV.out).trans hb1
    clear he1 hx1 hb1
    go_wp2
    exact ⟨rfl, by rw [HE.out]; exact ⟨rfl, HB.out⟩⟩
  obtain ⟨hz1, rfl, hl1⟩ := name_size HK.out hx1
  have HA1 : Hid (argsE ts E (exprE ts E f) [101] (i + 1) ⟨3, 0, 0, 0, 0, s1, ByteArray.empty⟩ l [] = RA) := by
    have h := HA0.out
    rw [argsE, if_pos rfl, hx1] at h
    simp only at h
    rw [if_pos (by first | rfl | decide)] at h
    exact h
  have HF1 : Hid (ts.length + 1 ≤ (i + 1) + f ∧ (l).length ≤ (i + 1)) := by
    have h1 := HF.out
    have h2 := HL0.out
    show ts.length + 1 ≤ (i + 1) + f ∧ (l).length ≤ (i + 1)
    omega
  have G1 : Hid (FS T R g fm ts E w v w1 (i + 1) v l nodZ #[.int .i64 3, .int .i64 0, .int .i64 0, .int .i64 0, .int .i64 0, .string ⟨#[]⟩, .string ⟨#[]⟩] 58 58) := F0.out.call hr1 hm1
  obtain ⟨W1, hW1⟩ : ∃ W, w1.setCell ⟨w.heap.size + 1, 5, none⟩ (.string s1) = W := ⟨_, rfl⟩
  have HW1 : Hid (w1.setCell ⟨w.heap.size + 1, 5, none⟩ (.string s1) = W1) := hW1
  have F1 : Hid (FS T R g fm ts E w v W1 (i + 1) v l nodZ #[.int .i64 3, .int .i64 0, .int .i64 0, .int .i64 0, .int .i64 0, .string s1, .string ⟨#[]⟩] 58 58) := by
    rw [← hW1]
    exact G1.out.setN HT.out 5 _
  obtain ⟨n0, n1, n2, n3, n4, n5, n6, n7⟩ := node_cells G1.out.nn
  clear he1 hx1 hr1 hm1 hW1 hl1
  go_wp2_with fail
  rw [HW1.out]
  clear n0 n1 n2 n3 n4 n5 n6 n7 HW1 G1
  refine (IH.out _ _ _ _ F1.out.rs HF1.out.1 HF1.out.2).mono ?_
  rintro e w2 he2
  obtain ⟨j2, m2, v2, hx2, rfl, hr2, hm2⟩ | ⟨c2, q2, hx2, rfl, hb2⟩ := eout_case he2
  case inr =>
    have HE : Hid (RA = .error (c2, q2)) := by
      have h := HA1.out
      rw [argsE, if_neg (by decide), hx2] at h
      exact h.symm
    have HB : Hid (Below R w w2) := (F1.out.low HV.out).trans hb2
    clear he2 hx2 hb2
    go_wp2
    exact ⟨rfl, by rw [HE.out]; exact ⟨rfl, HB.out⟩⟩
  obtain ⟨hl2, hle2, hpos2, hgr2⟩ := exprE_fair ts E f _ _ _ _ hx2
  have HA2 : Hid (argsE ts E (exprE ts E f) [] j2 ⟨3, 0, 0, 0, 0, s1, ByteArray.empty⟩ m2 [((m2.length : Int) - 1)] = RA) := by
    have h := HA1.out
    rw [argsE, if_neg (by decide), hx2] at h
    exact h
  have HF2 : Hid (ts.length + 1 ≤ j2 + f ∧ (m2).length ≤ j2) := by
    have h1 := HF1.out
    
    show ts.length + 1 ≤ j2 + f ∧ (m2).length ≤ j2
    omega
  have G2 : Hid (FS T R g fm ts E w v w2 j2 v2 m2 nodZ #[.int .i64 3, .int .i64 0, .int .i64 0, .int .i64 0, .int .i64 0, .string s1, .string ⟨#[]⟩] 58 58) := F1.out.call hr2 hm2
  obtain ⟨W2, hW2⟩ : ∃ W, w2.setCell ⟨w.heap.size + 1, 1, none⟩ (.int .i64 ((m2.length : Int) - 1)) = W := ⟨_, rfl⟩
  have HW2 : Hid (w2.setCell ⟨w.heap.size + 1, 1, none⟩ (.int .i64 ((m2.length : Int) - 1)) = W2) := hW2
  have F2 : Hid (FS T R g fm ts E w v W2 j2 v2 m2 nodZ #[.int .i64 3, .int .i64 ((m2.length : Int) - 1), .int .i64 0, .int .i64 0, .int .i64 0, .string s1, .string ⟨#[]⟩] 58 58) := by
    rw [← hW2]
    exact G2.out.setN HT.out 1 _
  obtain ⟨n0, n1, n2, n3, n4, n5, n6, n7⟩ := node_cells G2.out.nn
  clear he2 hx2 hr2 hm2 hW2 hl2 hle2 hpos2 hgr2
  obtain ⟨q0, q1, q2, q3, q4, q5, q6, q7⟩ := node_cells G2.out.qq
  have z1 := G2.out.size
  go_wp2
  rw [HW2.out]
  have hfin := F2.out.fin HT.out (.int .i64 3) (.int .i64 ((m2.length : Int) - 1)) (.int .i64 0) (.int .i64 0) (.int .i64 0) (.string s1) (.string ⟨#[]⟩)
  refine bodyPost_ret (results_cell_row rfl _ _ w.heap.size 58 #[.int .i64 3, .int .i64 ((m2.length : Int) - 1), .int .i64 0, .int .i64 0, .int .i64 0, .string s1, .string ⟨#[]⟩] (0, 0) _ rfl hfin.qq Tryz.underlying58 rfl (by kernel_rfl)) rfl ?_
  have hA := HA2.out
  rw [argsE] at hA
  rw [← hA]
  exact ⟨rfl, _, hfin.rs, hfin.mv⟩

set_option maxHeartbeats 2000000 in
set_option maxRecDepth 20000 in
theorem rd_readLet {T : World → Prop} {R g fm : Nat} {ts : List Tok} {E : Int} {f : Nat} {s : ByteArray} (hT : ∀ a b, T a → Below R a b → T b) (hc : ts.length ≤ 4000) (hs : s.size ≤ 4000) (hk : ∀ i, i < ts.length → TokOk s (ts.getD i noTok)) (ih : ExprI T R g fm ts E f) :
    FormI T R g fm ts E f 80 #[.pointer (some ⟨R, 0, none⟩)] 5 0 [110, 101, 101] := by
  intro w i v l h hf hl
  obtain ⟨RA, hRA⟩ : ∃ RA, argsE ts E (exprE ts E f) [110, 101, 101] i ⟨5, 0, 0, 0, 0, ByteArray.empty, ByteArray.empty⟩ l [] = RA := ⟨_, rfl⟩
  rw [hRA]
  have HA0 : Hid (argsE ts E (exprE ts E f) [110, 101, 101] i ⟨5, 0, 0, 0, 0, ByteArray.empty, ByteArray.empty⟩ l [] = RA) := hRA
  have HT : Hid (∀ a b, T a → Below R a b → T b) := hT
  have IH : Hid (ExprI T R g fm ts E f) := ih
  have HC : Hid (ts.length ≤ 4000) := hc
  have HS : Hid (s.size ≤ 4000) := hs
  have HK : Hid (∀ i, i < ts.length → TokOk s (ts.getD i noTok)) := hk
  have HV : Hid (∀ k, v.ownBlock = some k → R < k) := h.far
  have HF : Hid (ts.length + 1 ≤ i + f) := hf
  have HL0 : Hid (l.length ≤ i) := hl
  have F0 : Hid (FS T R g fm ts E w v ((w.alloc (.cells nodZ 58)).alloc (.cells #[.int .i64 5, .int .i64 0, .int .i64 0, .int .i64 0, .int .i64 0, .string ⟨#[]⟩, .string ⟨#[]⟩] 58)) i v l nodZ #[.int .i64 5, .int .i64 0, .int .i64 0, .int .i64 0, .int .i64 0, .string ⟨#[]⟩, .string ⟨#[]⟩] 58 58) := FS.start hT h
  clear hRA hT ih hc hs hk hf hl h
  go_enter Tryz.func80, Tryz.ntmps80
  go_wp2_with fail
  refine (rd_name HT.out F0.out.rs HC.out HS.out HK.out).mono ?_
  rintro e w1 he1
  obtain ⟨j1, s1, hx1, rfl, hr1, hm1⟩ | ⟨c1, q1, hx1, rfl, hb1⟩ := nout_case he1
  case inr =>
    have HE : Hid (RA = .error (c1, q1)) := by
      have h := HA0.out
      rw [argsE, if_pos rfl, hx1] at h
      exact h.symm
    have HB : Hid (Below R w w1) := (F0.out.low HV.out).trans hb1
    clear he1 hx1 hb1
    go_wp2
    exact ⟨rfl, by rw [HE.out]; exact ⟨rfl, HB.out⟩⟩
  obtain ⟨hz1, rfl, hl1⟩ := name_size HK.out hx1
  have HA1 : Hid (argsE ts E (exprE ts E f) [101, 101] (i + 1) ⟨5, 0, 0, 0, 0, s1, ByteArray.empty⟩ l [] = RA) := by
    have h := HA0.out
    rw [argsE, if_pos rfl, hx1] at h
    simp only at h
    rw [if_pos (by first | rfl | decide)] at h
    exact h
  have HF1 : Hid (ts.length + 1 ≤ (i + 1) + f ∧ (l).length ≤ (i + 1)) := by
    have h1 := HF.out
    have h2 := HL0.out
    show ts.length + 1 ≤ (i + 1) + f ∧ (l).length ≤ (i + 1)
    omega
  have G1 : Hid (FS T R g fm ts E w v w1 (i + 1) v l nodZ #[.int .i64 5, .int .i64 0, .int .i64 0, .int .i64 0, .int .i64 0, .string ⟨#[]⟩, .string ⟨#[]⟩] 58 58) := F0.out.call hr1 hm1
  obtain ⟨W1, hW1⟩ : ∃ W, w1.setCell ⟨w.heap.size + 1, 5, none⟩ (.string s1) = W := ⟨_, rfl⟩
  have HW1 : Hid (w1.setCell ⟨w.heap.size + 1, 5, none⟩ (.string s1) = W1) := hW1
  have F1 : Hid (FS T R g fm ts E w v W1 (i + 1) v l nodZ #[.int .i64 5, .int .i64 0, .int .i64 0, .int .i64 0, .int .i64 0, .string s1, .string ⟨#[]⟩] 58 58) := by
    rw [← hW1]
    exact G1.out.setN HT.out 5 _
  obtain ⟨n0, n1, n2, n3, n4, n5, n6, n7⟩ := node_cells G1.out.nn
  clear he1 hx1 hr1 hm1 hW1 hl1
  go_wp2_with fail
  rw [HW1.out]
  clear n0 n1 n2 n3 n4 n5 n6 n7 HW1 G1
  refine (IH.out _ _ _ _ F1.out.rs HF1.out.1 HF1.out.2).mono ?_
  rintro e w2 he2
  obtain ⟨j2, m2, v2, hx2, rfl, hr2, hm2⟩ | ⟨c2, q2, hx2, rfl, hb2⟩ := eout_case he2
  case inr =>
    have HE : Hid (RA = .error (c2, q2)) := by
      have h := HA1.out
      rw [argsE, if_neg (by decide), hx2] at h
      exact h.symm
    have HB : Hid (Below R w w2) := (F1.out.low HV.out).trans hb2
    clear he2 hx2 hb2
    go_wp2
    exact ⟨rfl, by rw [HE.out]; exact ⟨rfl, HB.out⟩⟩
  obtain ⟨hl2, hle2, hpos2, hgr2⟩ := exprE_fair ts E f _ _ _ _ hx2
  have HA2 : Hid (argsE ts E (exprE ts E f) [101] j2 ⟨5, 0, 0, 0, 0, s1, ByteArray.empty⟩ m2 [((m2.length : Int) - 1)] = RA) := by
    have h := HA1.out
    rw [argsE, if_neg (by decide), hx2] at h
    exact h
  have HF2 : Hid (ts.length + 1 ≤ j2 + f ∧ (m2).length ≤ j2) := by
    have h1 := HF1.out
    
    show ts.length + 1 ≤ j2 + f ∧ (m2).length ≤ j2
    omega
  have G2 : Hid (FS T R g fm ts E w v w2 j2 v2 m2 nodZ #[.int .i64 5, .int .i64 0, .int .i64 0, .int .i64 0, .int .i64 0, .string s1, .string ⟨#[]⟩] 58 58) := F1.out.call hr2 hm2
  obtain ⟨W2, hW2⟩ : ∃ W, w2.setCell ⟨w.heap.size + 1, 1, none⟩ (.int .i64 ((m2.length : Int) - 1)) = W := ⟨_, rfl⟩
  have HW2 : Hid (w2.setCell ⟨w.heap.size + 1, 1, none⟩ (.int .i64 ((m2.length : Int) - 1)) = W2) := hW2
  have F2 : Hid (FS T R g fm ts E w v W2 j2 v2 m2 nodZ #[.int .i64 5, .int .i64 ((m2.length : Int) - 1), .int .i64 0, .int .i64 0, .int .i64 0, .string s1, .string ⟨#[]⟩] 58 58) := by
    rw [← hW2]
    exact G2.out.setN HT.out 1 _
  obtain ⟨n0, n1, n2, n3, n4, n5, n6, n7⟩ := node_cells G2.out.nn
  clear he2 hx2 hr2 hm2 hW2 hl2 hle2 hpos2 hgr2
  go_wp2_with fail
  rw [HW2.out]
  clear n0 n1 n2 n3 n4 n5 n6 n7 HW2 G2
  refine (IH.out _ _ _ _ F2.out.rs HF2.out.1 HF2.out.2).mono ?_
  rintro e w3 he3
  obtain ⟨j3, m3, v3, hx3, rfl, hr3, hm3⟩ | ⟨c3, q3, hx3, rfl, hb3⟩ := eout_case he3
  case inr =>
    have HE : Hid (RA = .error (c3, q3)) := by
      have h := HA2.out
      rw [argsE, if_neg (by decide), hx3] at h
      exact h.symm
    have HB : Hid (Below R w w3) := (F2.out.low HV.out).trans hb3
    clear he3 hx3 hb3
    go_wp2
    exact ⟨rfl, by rw [HE.out]; exact ⟨rfl, HB.out⟩⟩
  obtain ⟨hl3, hle3, hpos3, hgr3⟩ := exprE_fair ts E f _ _ _ _ hx3
  have HA3 : Hid (argsE ts E (exprE ts E f) [] j3 ⟨5, 0, 0, 0, 0, s1, ByteArray.empty⟩ m3 [((m2.length : Int) - 1), ((m3.length : Int) - 1)] = RA) := by
    have h := HA2.out
    rw [argsE, if_neg (by decide), hx3] at h
    exact h
  have HF3 : Hid (ts.length + 1 ≤ j3 + f ∧ (m3).length ≤ j3) := by
    have h1 := HF2.out
    
    show ts.length + 1 ≤ j3 + f ∧ (m3).length ≤ j3
    omega
  have G3 : Hid (FS T R g fm ts E w v w3 j3 v3 m3 nodZ #[.int .i64 5, .int .i64 ((m2.length : Int) - 1), .int .i64 0, .int .i64 0, .int .i64 0, .string s1, .string ⟨#[]⟩] 58 58) := F2.out.call hr3 hm3
  obtain ⟨W3, hW3⟩ : ∃ W, w3.setCell ⟨w.heap.size + 1, 2, none⟩ (.int .i64 ((m3.length : Int) - 1)) = W := ⟨_, rfl⟩
  have HW3 : Hid (w3.setCell ⟨w.heap.size + 1, 2, none⟩ (.int .i64 ((m3.length : Int) - 1)) = W3) := hW3
  have F3 : Hid (FS T R g fm ts E w v W3 j3 v3 m3 nodZ #[.int .i64 5, .int .i64 ((m2.length : Int) - 1), .int .i64 ((m3.length : Int) - 1), .int .i64 0, .int .i64 0, .string s1, .string ⟨#[]⟩] 58 58) := by
    rw [← hW3]
    exact G3.out.setN HT.out 2 _
  obtain ⟨n0, n1, n2, n3, n4, n5, n6, n7⟩ := node_cells G3.out.nn
  clear he3 hx3 hr3 hm3 hW3 hl3 hle3 hpos3 hgr3
  obtain ⟨q0, q1, q2, q3, q4, q5, q6, q7⟩ := node_cells G3.out.qq
  have z1 := G3.out.size
  go_wp2
  rw [HW3.out]
  have hfin := F3.out.fin HT.out (.int .i64 5) (.int .i64 ((m2.length : Int) - 1)) (.int .i64 ((m3.length : Int) - 1)) (.int .i64 0) (.int .i64 0) (.string s1) (.string ⟨#[]⟩)
  refine bodyPost_ret (results_cell_row rfl _ _ w.heap.size 58 #[.int .i64 5, .int .i64 ((m2.length : Int) - 1), .int .i64 ((m3.length : Int) - 1), .int .i64 0, .int .i64 0, .string s1, .string ⟨#[]⟩] (0, 0) _ rfl hfin.qq Tryz.underlying58 rfl (by kernel_rfl)) rfl ?_
  have hA := HA3.out
  rw [argsE] at hA
  rw [← hA]
  exact ⟨rfl, _, hfin.rs, hfin.mv⟩

set_option maxHeartbeats 2000000 in
set_option maxRecDepth 20000 in
theorem rd_readRec {T : World → Prop} {R g fm : Nat} {ts : List Tok} {E : Int} {f : Nat} {s : ByteArray} (hT : ∀ a b, T a → Below R a b → T b) (hc : ts.length ≤ 4000) (hs : s.size ≤ 4000) (hk : ∀ i, i < ts.length → TokOk s (ts.getD i noTok)) (ih : ExprI T R g fm ts E f) :
    FormI T R g fm ts E f 81 #[.pointer (some ⟨R, 0, none⟩)] 6 0 [110, 110, 101, 101] := by
  intro w i v l h hf hl
  obtain ⟨RA, hRA⟩ : ∃ RA, argsE ts E (exprE ts E f) [110, 110, 101, 101] i ⟨6, 0, 0, 0, 0, ByteArray.empty, ByteArray.empty⟩ l [] = RA := ⟨_, rfl⟩
  rw [hRA]
  have HA0 : Hid (argsE ts E (exprE ts E f) [110, 110, 101, 101] i ⟨6, 0, 0, 0, 0, ByteArray.empty, ByteArray.empty⟩ l [] = RA) := hRA
  have HT : Hid (∀ a b, T a → Below R a b → T b) := hT
  have IH : Hid (ExprI T R g fm ts E f) := ih
  have HC : Hid (ts.length ≤ 4000) := hc
  have HS : Hid (s.size ≤ 4000) := hs
  have HK : Hid (∀ i, i < ts.length → TokOk s (ts.getD i noTok)) := hk
  have HV : Hid (∀ k, v.ownBlock = some k → R < k) := h.far
  have HF : Hid (ts.length + 1 ≤ i + f) := hf
  have HL0 : Hid (l.length ≤ i) := hl
  have F0 : Hid (FS T R g fm ts E w v ((w.alloc (.cells nodZ 58)).alloc (.cells #[.int .i64 6, .int .i64 0, .int .i64 0, .int .i64 0, .int .i64 0, .string ⟨#[]⟩, .string ⟨#[]⟩] 58)) i v l nodZ #[.int .i64 6, .int .i64 0, .int .i64 0, .int .i64 0, .int .i64 0, .string ⟨#[]⟩, .string ⟨#[]⟩] 58 58) := FS.start hT h
  clear hRA hT ih hc hs hk hf hl h
  go_enter Tryz.func81, Tryz.ntmps81
  go_wp2_with fail
  refine (rd_name HT.out F0.out.rs HC.out HS.out HK.out).mono ?_
  rintro e w1 he1
  obtain ⟨j1, s1, hx1, rfl, hr1, hm1⟩ | ⟨c1, q1, hx1, rfl, hb1⟩ := nout_case he1
  case inr =>
    have HE : Hid (RA = .error (c1, q1)) := by
      have h := HA0.out
      rw [argsE, if_pos rfl, hx1] at h
      exact h.symm
    have HB : Hid (Below R w w1) := (F0.out.low HV.out).trans hb1
    clear he1 hx1 hb1
    go_wp2
    exact ⟨rfl, by rw [HE.out]; exact ⟨rfl, HB.out⟩⟩
  obtain ⟨hz1, rfl, hl1⟩ := name_size HK.out hx1
  have HA1 : Hid (argsE ts E (exprE ts E f) [110, 101, 101] (i + 1) ⟨6, 0, 0, 0, 0, s1, ByteArray.empty⟩ l [] = RA) := by
    have h := HA0.out
    rw [argsE, if_pos rfl, hx1] at h
    simp only at h
    rw [if_pos (by first | rfl | decide)] at h
    exact h
  have HF1 : Hid (ts.length + 1 ≤ (i + 1) + f ∧ (l).length ≤ (i + 1)) := by
    have h1 := HF.out
    have h2 := HL0.out
    show ts.length + 1 ≤ (i + 1) + f ∧ (l).length ≤ (i + 1)
    omega
  have G1 : Hid (FS T R g fm ts E w v w1 (i + 1) v l nodZ #[.int .i64 6, .int .i64 0, .int .i64 0, .int .i64 0, .int .i64 0, .string ⟨#[]⟩, .string ⟨#[]⟩] 58 58) := F0.out.call hr1 hm1
  obtain ⟨W1, hW1⟩ : ∃ W, w1.setCell ⟨w.heap.size + 1, 5, none⟩ (.string s1) = W := ⟨_, rfl⟩
  have HW1 : Hid (w1.setCell ⟨w.heap.size + 1, 5, none⟩ (.string s1) = W1) := hW1
  have F1 : Hid (FS T R g fm ts E w v W1 (i + 1) v l nodZ #[.int .i64 6, .int .i64 0, .int .i64 0, .int .i64 0, .int .i64 0, .string s1, .string ⟨#[]⟩] 58 58) := by
    rw [← hW1]
    exact G1.out.setN HT.out 5 _
  obtain ⟨n0, n1, n2, n3, n4, n5, n6, n7⟩ := node_cells G1.out.nn
  clear he1 hx1 hr1 hm1 hW1 hl1
  go_wp2_with fail
  rw [HW1.out]
  clear n0 n1 n2 n3 n4 n5 n6 n7 HW1 G1
  refine (rd_name HT.out F1.out.rs HC.out HS.out HK.out).mono ?_
  rintro e w2 he2
  obtain ⟨j2, s2, hx2, rfl, hr2, hm2⟩ | ⟨c2, q2, hx2, rfl, hb2⟩ := nout_case he2
  case inr =>
    have HE : Hid (RA = .error (c2, q2)) := by
      have h := HA1.out
      rw [argsE, if_pos rfl, hx2] at h
      exact h.symm
    have HB : Hid (Below R w w2) := (F1.out.low HV.out).trans hb2
    clear he2 hx2 hb2
    go_wp2
    exact ⟨rfl, by rw [HE.out]; exact ⟨rfl, HB.out⟩⟩
  obtain ⟨hz2, rfl, hl2⟩ := name_size HK.out hx2
  have HA2 : Hid (argsE ts E (exprE ts E f) [101, 101] ((i + 1) + 1) ⟨6, 0, 0, 0, 0, s1, s2⟩ l [] = RA) := by
    have h := HA1.out
    rw [argsE, if_pos rfl, hx2] at h
    simp only at h
    rw [if_neg hz1] at h
    exact h
  have HF2 : Hid (ts.length + 1 ≤ ((i + 1) + 1) + f ∧ (l).length ≤ ((i + 1) + 1)) := by
    have h1 := HF1.out
    
    show ts.length + 1 ≤ ((i + 1) + 1) + f ∧ (l).length ≤ ((i + 1) + 1)
    omega
  have G2 : Hid (FS T R g fm ts E w v w2 ((i + 1) + 1) v l nodZ #[.int .i64 6, .int .i64 0, .int .i64 0, .int .i64 0, .int .i64 0, .string s1, .string ⟨#[]⟩] 58 58) := F1.out.call hr2 hm2
  obtain ⟨W2, hW2⟩ : ∃ W, w2.setCell ⟨w.heap.size + 1, 6, none⟩ (.string s2) = W := ⟨_, rfl⟩
  have HW2 : Hid (w2.setCell ⟨w.heap.size + 1, 6, none⟩ (.string s2) = W2) := hW2
  have F2 : Hid (FS T R g fm ts E w v W2 ((i + 1) + 1) v l nodZ #[.int .i64 6, .int .i64 0, .int .i64 0, .int .i64 0, .int .i64 0, .string s1, .string s2] 58 58) := by
    rw [← hW2]
    exact G2.out.setN HT.out 6 _
  obtain ⟨n0, n1, n2, n3, n4, n5, n6, n7⟩ := node_cells G2.out.nn
  clear he2 hx2 hr2 hm2 hW2 hl2
  go_wp2_with fail
  rw [HW2.out]
  clear n0 n1 n2 n3 n4 n5 n6 n7 HW2 G2
  refine (IH.out _ _ _ _ F2.out.rs HF2.out.1 HF2.out.2).mono ?_
  rintro e w3 he3
  obtain ⟨j3, m3, v3, hx3, rfl, hr3, hm3⟩ | ⟨c3, q3, hx3, rfl, hb3⟩ := eout_case he3
  case inr =>
    have HE : Hid (RA = .error (c3, q3)) := by
      have h := HA2.out
      rw [argsE, if_neg (by decide), hx3] at h
      exact h.symm
    have HB : Hid (Below R w w3) := (F2.out.low HV.out).trans hb3
    clear he3 hx3 hb3
    go_wp2
    exact ⟨rfl, by rw [HE.out]; exact ⟨rfl, HB.out⟩⟩
  obtain ⟨hl3, hle3, hpos3, hgr3⟩ := exprE_fair ts E f _ _ _ _ hx3
  have HA3 : Hid (argsE ts E (exprE ts E f) [101] j3 ⟨6, 0, 0, 0, 0, s1, s2⟩ m3 [((m3.length : Int) - 1)] = RA) := by
    have h := HA2.out
    rw [argsE, if_neg (by decide), hx3] at h
    exact h
  have HF3 : Hid (ts.length + 1 ≤ j3 + f ∧ (m3).length ≤ j3) := by
    have h1 := HF2.out
    
    show ts.length + 1 ≤ j3 + f ∧ (m3).length ≤ j3
    omega
  have G3 : Hid (FS T R g fm ts E w v w3 j3 v3 m3 nodZ #[.int .i64 6, .int .i64 0, .int .i64 0, .int .i64 0, .int .i64 0, .string s1, .string s2] 58 58) := F2.out.call hr3 hm3
  obtain ⟨W3, hW3⟩ : ∃ W, w3.setCell ⟨w.heap.size + 1, 1, none⟩ (.int .i64 ((m3.length : Int) - 1)) = W := ⟨_, rfl⟩
  have HW3 : Hid (w3.setCell ⟨w.heap.size + 1, 1, none⟩ (.int .i64 ((m3.length : Int) - 1)) = W3) := hW3
  have F3 : Hid (FS T R g fm ts E w v W3 j3 v3 m3 nodZ #[.int .i64 6, .int .i64 ((m3.length : Int) - 1), .int .i64 0, .int .i64 0, .int .i64 0, .string s1, .string s2] 58 58) := by
    rw [← hW3]
    exact G3.out.setN HT.out 1 _
  obtain ⟨n0, n1, n2, n3, n4, n5, n6, n7⟩ := node_cells G3.out.nn
  clear he3 hx3 hr3 hm3 hW3 hl3 hle3 hpos3 hgr3
  go_wp2_with fail
  rw [HW3.out]
  clear n0 n1 n2 n3 n4 n5 n6 n7 HW3 G3
  refine (IH.out _ _ _ _ F3.out.rs HF3.out.1 HF3.out.2).mono ?_
  rintro e w4 he4
  obtain ⟨j4, m4, v4, hx4, rfl, hr4, hm4⟩ | ⟨c4, q4, hx4, rfl, hb4⟩ := eout_case he4
  case inr =>
    have HE : Hid (RA = .error (c4, q4)) := by
      have h := HA3.out
      rw [argsE, if_neg (by decide), hx4] at h
      exact h.symm
    have HB : Hid (Below R w w4) := (F3.out.low HV.out).trans hb4
    clear he4 hx4 hb4
    go_wp2
    exact ⟨rfl, by rw [HE.out]; exact ⟨rfl, HB.out⟩⟩
  obtain ⟨hl4, hle4, hpos4, hgr4⟩ := exprE_fair ts E f _ _ _ _ hx4
  have HA4 : Hid (argsE ts E (exprE ts E f) [] j4 ⟨6, 0, 0, 0, 0, s1, s2⟩ m4 [((m3.length : Int) - 1), ((m4.length : Int) - 1)] = RA) := by
    have h := HA3.out
    rw [argsE, if_neg (by decide), hx4] at h
    exact h
  have HF4 : Hid (ts.length + 1 ≤ j4 + f ∧ (m4).length ≤ j4) := by
    have h1 := HF3.out
    
    show ts.length + 1 ≤ j4 + f ∧ (m4).length ≤ j4
    omega
  have G4 : Hid (FS T R g fm ts E w v w4 j4 v4 m4 nodZ #[.int .i64 6, .int .i64 ((m3.length : Int) - 1), .int .i64 0, .int .i64 0, .int .i64 0, .string s1, .string s2] 58 58) := F3.out.call hr4 hm4
  obtain ⟨W4, hW4⟩ : ∃ W, w4.setCell ⟨w.heap.size + 1, 2, none⟩ (.int .i64 ((m4.length : Int) - 1)) = W := ⟨_, rfl⟩
  have HW4 : Hid (w4.setCell ⟨w.heap.size + 1, 2, none⟩ (.int .i64 ((m4.length : Int) - 1)) = W4) := hW4
  have F4 : Hid (FS T R g fm ts E w v W4 j4 v4 m4 nodZ #[.int .i64 6, .int .i64 ((m3.length : Int) - 1), .int .i64 ((m4.length : Int) - 1), .int .i64 0, .int .i64 0, .string s1, .string s2] 58 58) := by
    rw [← hW4]
    exact G4.out.setN HT.out 2 _
  obtain ⟨n0, n1, n2, n3, n4, n5, n6, n7⟩ := node_cells G4.out.nn
  clear he4 hx4 hr4 hm4 hW4 hl4 hle4 hpos4 hgr4
  obtain ⟨q0, q1, q2, q3, q4, q5, q6, q7⟩ := node_cells G4.out.qq
  have z1 := G4.out.size
  go_wp2
  rw [HW4.out]
  have hfin := F4.out.fin HT.out (.int .i64 6) (.int .i64 ((m3.length : Int) - 1)) (.int .i64 ((m4.length : Int) - 1)) (.int .i64 0) (.int .i64 0) (.string s1) (.string s2)
  refine bodyPost_ret (results_cell_row rfl _ _ w.heap.size 58 #[.int .i64 6, .int .i64 ((m3.length : Int) - 1), .int .i64 ((m4.length : Int) - 1), .int .i64 0, .int .i64 0, .string s1, .string s2] (0, 0) _ rfl hfin.qq Tryz.underlying58 rfl (by kernel_rfl)) rfl ?_
  have hA := HA4.out
  rw [argsE] at hA
  rw [← hA]
  exact ⟨rfl, _, hfin.rs, hfin.mv⟩

set_option maxHeartbeats 2000000 in
set_option maxRecDepth 20000 in
theorem rd_readMatch {T : World → Prop} {R g fm : Nat} {ts : List Tok} {E : Int} {f : Nat} {s : ByteArray} (hT : ∀ a b, T a → Below R a b → T b) (hc : ts.length ≤ 4000) (hs : s.size ≤ 4000) (hk : ∀ i, i < ts.length → TokOk s (ts.getD i noTok)) (ih : ExprI T R g fm ts E f) :
    FormI T R g fm ts E f 82 #[.pointer (some ⟨R, 0, none⟩)] 14 0 [101, 101, 110, 110, 101] := by
  intro w i v l h hf hl
  obtain ⟨RA, hRA⟩ : ∃ RA, argsE ts E (exprE ts E f) [101, 101, 110, 110, 101] i ⟨14, 0, 0, 0, 0, ByteArray.empty, ByteArray.empty⟩ l [] = RA := ⟨_, rfl⟩
  rw [hRA]
  have HA0 : Hid (argsE ts E (exprE ts E f) [101, 101, 110, 110, 101] i ⟨14, 0, 0, 0, 0, ByteArray.empty, ByteArray.empty⟩ l [] = RA) := hRA
  have HT : Hid (∀ a b, T a → Below R a b → T b) := hT
  have IH : Hid (ExprI T R g fm ts E f) := ih
  have HC : Hid (ts.length ≤ 4000) := hc
  have HS : Hid (s.size ≤ 4000) := hs
  have HK : Hid (∀ i, i < ts.length → TokOk s (ts.getD i noTok)) := hk
  have HV : Hid (∀ k, v.ownBlock = some k → R < k) := h.far
  have HF : Hid (ts.length + 1 ≤ i + f) := hf
  have HL0 : Hid (l.length ≤ i) := hl
  have F0 : Hid (FS T R g fm ts E w v ((w.alloc (.cells nodZ 58)).alloc (.cells #[.int .i64 14, .int .i64 0, .int .i64 0, .int .i64 0, .int .i64 0, .string ⟨#[]⟩, .string ⟨#[]⟩] 58)) i v l nodZ #[.int .i64 14, .int .i64 0, .int .i64 0, .int .i64 0, .int .i64 0, .string ⟨#[]⟩, .string ⟨#[]⟩] 58 58) := FS.start hT h
  clear hRA hT ih hc hs hk hf hl h
  go_enter Tryz.func82, Tryz.ntmps82
  go_wp2_with fail
  refine (IH.out _ _ _ _ F0.out.rs HF.out HL0.out).mono ?_
  rintro e w1 he1
  obtain ⟨j1, m1, v1, hx1, rfl, hr1, hm1⟩ | ⟨c1, q1, hx1, rfl, hb1⟩ := eout_case he1
  case inr =>
    have HE : Hid (RA = .error (c1, q1)) := by
      have h := HA0.out
      rw [argsE, if_neg (by decide), hx1] at h
      exact h.symm
    have HB : Hid (Below R w w1) := (F0.out.low HV.out).trans hb1
    clear he1 hx1 hb1
    go_wp2
    exact ⟨rfl, by rw [HE.out]; exact ⟨rfl, HB.out⟩⟩
  obtain ⟨hl1, hle1, hpos1, hgr1⟩ := exprE_fair ts E f _ _ _ _ hx1
  have HA1 : Hid (argsE ts E (exprE ts E f) [101, 110, 110, 101] j1 ⟨14, 0, 0, 0, 0, ByteArray.empty, ByteArray.empty⟩ m1 [((m1.length : Int) - 1)] = RA) := by
    have h := HA0.out
    rw [argsE, if_neg (by decide), hx1] at h
    exact h
  have HF1 : Hid (ts.length + 1 ≤ j1 + f ∧ (m1).length ≤ j1) := by
    have h1 := HF.out
    have h2 := HL0.out
    show ts.length + 1 ≤ j1 + f ∧ (m1).length ≤ j1
    omega
  have G1 : Hid (FS T R g fm ts E w v w1 j1 v1 m1 nodZ #[.int .i64 14, .int .i64 0, .int .i64 0, .int .i64 0, .int .i64 0, .string ⟨#[]⟩, .string ⟨#[]⟩] 58 58) := F0.out.call hr1 hm1
  obtain ⟨W1, hW1⟩ : ∃ W, w1.setCell ⟨w.heap.size + 1, 1, none⟩ (.int .i64 ((m1.length : Int) - 1)) = W := ⟨_, rfl⟩
  have HW1 : Hid (w1.setCell ⟨w.heap.size + 1, 1, none⟩ (.int .i64 ((m1.length : Int) - 1)) = W1) := hW1
  have F1 : Hid (FS T R g fm ts E w v W1 j1 v1 m1 nodZ #[.int .i64 14, .int .i64 ((m1.length : Int) - 1), .int .i64 0, .int .i64 0, .int .i64 0, .string ⟨#[]⟩, .string ⟨#[]⟩] 58 58) := by
    rw [← hW1]
    exact G1.out.setN HT.out 1 _
  obtain ⟨n0, n1, n2, n3, n4, n5, n6, n7⟩ := node_cells G1.out.nn
  clear he1 hx1 hr1 hm1 hW1 hl1 hle1 hpos1 hgr1
  go_wp2_with fail
  rw [HW1.out]
  clear n0 n1 n2 n3 n4 n5 n6 n7 HW1 G1
  refine (IH.out _ _ _ _ F1.out.rs HF1.out.1 HF1.out.2).mono ?_
  rintro e w2 he2
  obtain ⟨j2, m2, v2, hx2, rfl, hr2, hm2⟩ | ⟨c2, q2, hx2, rfl, hb2⟩ := eout_case he2
  case inr =>
    have HE : Hid (RA = .error (c2, q2)) := by
      have h := HA1.out
      rw [argsE, if_neg (by decide), hx2] at h
      exact h.symm
    have HB : Hid (Below R w w2) := (F1.out.low HV.out).trans hb2
    clear he2 hx2 hb2
    go_wp2
    exact ⟨rfl, by rw [HE.out]; exact ⟨rfl, HB.out⟩⟩
  obtain ⟨hl2, hle2, hpos2, hgr2⟩ := exprE_fair ts E f _ _ _ _ hx2
  have HA2 : Hid (argsE ts E (exprE ts E f) [110, 110, 101] j2 ⟨14, 0, 0, 0, 0, ByteArray.empty, ByteArray.empty⟩ m2 [((m1.length : Int) - 1), ((m2.length : Int) - 1)] = RA) := by
    have h := HA1.out
    rw [argsE, if_neg (by decide), hx2] at h
    exact h
  have HF2 : Hid (ts.length + 1 ≤ j2 + f ∧ (m2).length ≤ j2) := by
    have h1 := HF1.out
    
    show ts.length + 1 ≤ j2 + f ∧ (m2).length ≤ j2
    omega
  have G2 : Hid (FS T R g fm ts E w v w2 j2 v2 m2 nodZ #[.int .i64 14, .int .i64 ((m1.length : Int) - 1), .int .i64 0, .int .i64 0, .int .i64 0, .string ⟨#[]⟩, .string ⟨#[]⟩] 58 58) := F1.out.call hr2 hm2
  obtain ⟨W2, hW2⟩ : ∃ W, w2.setCell ⟨w.heap.size + 1, 2, none⟩ (.int .i64 ((m2.length : Int) - 1)) = W := ⟨_, rfl⟩
  have HW2 : Hid (w2.setCell ⟨w.heap.size + 1, 2, none⟩ (.int .i64 ((m2.length : Int) - 1)) = W2) := hW2
  have F2 : Hid (FS T R g fm ts E w v W2 j2 v2 m2 nodZ #[.int .i64 14, .int .i64 ((m1.length : Int) - 1), .int .i64 ((m2.length : Int) - 1), .int .i64 0, .int .i64 0, .string ⟨#[]⟩, .string ⟨#[]⟩] 58 58) := by
    rw [← hW2]
    exact G2.out.setN HT.out 2 _
  obtain ⟨n0, n1, n2, n3, n4, n5, n6, n7⟩ := node_cells G2.out.nn
  clear he2 hx2 hr2 hm2 hW2 hl2 hle2 hpos2 hgr2
  go_wp2_with fail
  rw [HW2.out]
  clear n0 n1 n2 n3 n4 n5 n6 n7 HW2 G2
  refine (rd_name HT.out F2.out.rs HC.out HS.out HK.out).mono ?_
  rintro e w3 he3
  obtain ⟨j3, s3, hx3, rfl, hr3, hm3⟩ | ⟨c3, q3, hx3, rfl, hb3⟩ := nout_case he3
  case inr =>
    have HE : Hid (RA = .error (c3, q3)) := by
      have h := HA2.out
      rw [argsE, if_pos rfl, hx3] at h
      exact h.symm
    have HB : Hid (Below R w w3) := (F2.out.low HV.out).trans hb3
    clear he3 hx3 hb3
    go_wp2
    exact ⟨rfl, by rw [HE.out]; exact ⟨rfl, HB.out⟩⟩
  obtain ⟨hz1, rfl, hl3⟩ := name_size HK.out hx3
  have HA3 : Hid (argsE ts E (exprE ts E f) [110, 101] (j2 + 1) ⟨14, 0, 0, 0, 0, s3, ByteArray.empty⟩ m2 [((m1.length : Int) - 1), ((m2.length : Int) - 1)] = RA) := by
    have h := HA2.out
    rw [argsE, if_pos rfl, hx3] at h
    simp only at h
    rw [if_pos (by first | rfl | decide)] at h
    exact h
  have HF3 : Hid (ts.length + 1 ≤ (j2 + 1) + f ∧ (m2).length ≤ (j2 + 1)) := by
    have h1 := HF2.out
    
    show ts.length + 1 ≤ (j2 + 1) + f ∧ (m2).length ≤ (j2 + 1)
    omega
  have G3 : Hid (FS T R g fm ts E w v w3 (j2 + 1) v2 m2 nodZ #[.int .i64 14, .int .i64 ((m1.length : Int) - 1), .int .i64 ((m2.length : Int) - 1), .int .i64 0, .int .i64 0, .string ⟨#[]⟩, .string ⟨#[]⟩] 58 58) := F2.out.call hr3 hm3
  obtain ⟨W3, hW3⟩ : ∃ W, w3.setCell ⟨w.heap.size + 1, 5, none⟩ (.string s3) = W := ⟨_, rfl⟩
  have HW3 : Hid (w3.setCell ⟨w.heap.size + 1, 5, none⟩ (.string s3) = W3) := hW3
  have F3 : Hid (FS T R g fm ts E w v W3 (j2 + 1) v2 m2 nodZ #[.int .i64 14, .int .i64 ((m1.length : Int) - 1), .int .i64 ((m2.length : Int) - 1), .int .i64 0, .int .i64 0, .string s3, .string ⟨#[]⟩] 58 58) := by
    rw [← hW3]
    exact G3.out.setN HT.out 5 _
  obtain ⟨n0, n1, n2, n3, n4, n5, n6, n7⟩ := node_cells G3.out.nn
  clear he3 hx3 hr3 hm3 hW3 hl3
  go_wp2_with fail
  rw [HW3.out]
  clear n0 n1 n2 n3 n4 n5 n6 n7 HW3 G3
  refine (rd_name HT.out F3.out.rs HC.out HS.out HK.out).mono ?_
  rintro e w4 he4
  obtain ⟨j4, s4, hx4, rfl, hr4, hm4⟩ | ⟨c4, q4, hx4, rfl, hb4⟩ := nout_case he4
  case inr =>
    have HE : Hid (RA = .error (c4, q4)) := by
      have h := HA3.out
      rw [argsE, if_pos rfl, hx4] at h
      exact h.symm
    have HB : Hid (Below R w w4) := (F3.out.low HV.out).trans hb4
    clear he4 hx4 hb4
    go_wp2
    exact ⟨rfl, by rw [HE.out]; exact ⟨rfl, HB.out⟩⟩
  obtain ⟨hz4, rfl, hl4⟩ := name_size HK.out hx4
  have HA4 : Hid (argsE ts E (exprE ts E f) [101] ((j2 + 1) + 1) ⟨14, 0, 0, 0, 0, s3, s4⟩ m2 [((m1.length : Int) - 1), ((m2.length : Int) - 1)] = RA) := by
    have h := HA3.out
    rw [argsE, if_pos rfl, hx4] at h
    simp only at h
    rw [if_neg hz1] at h
    exact h
  have HF4 : Hid (ts.length + 1 ≤ ((j2 + 1) + 1) + f ∧ (m2).length ≤ ((j2 + 1) + 1)) := by
    have h1 := HF3.out
    
    show ts.length + 1 ≤ ((j2 + 1) + 1) + f ∧ (m2).length ≤ ((j2 + 1) + 1)
    omega
  have G4 : Hid (FS T R g fm ts E w v w4 ((j2 + 1) + 1) v2 m2 nodZ #[.int .i64 14, .int .i64 ((m1.length : Int) - 1), .int .i64 ((m2.length : Int) - 1), .int .i64 0, .int .i64 0, .string s3, .string ⟨#[]⟩] 58 58) := F3.out.call hr4 hm4
  obtain ⟨W4, hW4⟩ : ∃ W, w4.setCell ⟨w.heap.size + 1, 6, none⟩ (.string s4) = W := ⟨_, rfl⟩
  have HW4 : Hid (w4.setCell ⟨w.heap.size + 1, 6, none⟩ (.string s4) = W4) := hW4
  have F4 : Hid (FS T R g fm ts E w v W4 ((j2 + 1) + 1) v2 m2 nodZ #[.int .i64 14, .int .i64 ((m1.length : Int) - 1), .int .i64 ((m2.length : Int) - 1), .int .i64 0, .int .i64 0, .string s3, .string s4] 58 58) := by
    rw [← hW4]
    exact G4.out.setN HT.out 6 _
  obtain ⟨n0, n1, n2, n3, n4, n5, n6, n7⟩ := node_cells G4.out.nn
  clear he4 hx4 hr4 hm4 hW4 hl4
  go_wp2_with fail
  rw [HW4.out]
  clear n0 n1 n2 n3 n4 n5 n6 n7 HW4 G4
  refine (IH.out _ _ _ _ F4.out.rs HF4.out.1 HF4.out.2).mono ?_
  rintro e w5 he5
  obtain ⟨j5, m5, v5, hx5, rfl, hr5, hm5⟩ | ⟨c5, q5, hx5, rfl, hb5⟩ := eout_case he5
  case inr =>
    have HE : Hid (RA = .error (c5, q5)) := by
      have h := HA4.out
      rw [argsE, if_neg (by decide), hx5] at h
      exact h.symm
    have HB : Hid (Below R w w5) := (F4.out.low HV.out).trans hb5
    clear he5 hx5 hb5
    go_wp2
    exact ⟨rfl, by rw [HE.out]; exact ⟨rfl, HB.out⟩⟩
  obtain ⟨hl5, hle5, hpos5, hgr5⟩ := exprE_fair ts E f _ _ _ _ hx5
  have HA5 : Hid (argsE ts E (exprE ts E f) [] j5 ⟨14, 0, 0, 0, 0, s3, s4⟩ m5 [((m1.length : Int) - 1), ((m2.length : Int) - 1), ((m5.length : Int) - 1)] = RA) := by
    have h := HA4.out
    rw [argsE, if_neg (by decide), hx5] at h
    exact h
  have HF5 : Hid (ts.length + 1 ≤ j5 + f ∧ (m5).length ≤ j5) := by
    have h1 := HF4.out
    
    show ts.length + 1 ≤ j5 + f ∧ (m5).length ≤ j5
    omega
  have G5 : Hid (FS T R g fm ts E w v w5 j5 v5 m5 nodZ #[.int .i64 14, .int .i64 ((m1.length : Int) - 1), .int .i64 ((m2.length : Int) - 1), .int .i64 0, .int .i64 0, .string s3, .string s4] 58 58) := F4.out.call hr5 hm5
  obtain ⟨W5, hW5⟩ : ∃ W, w5.setCell ⟨w.heap.size + 1, 3, none⟩ (.int .i64 ((m5.length : Int) - 1)) = W := ⟨_, rfl⟩
  have HW5 : Hid (w5.setCell ⟨w.heap.size + 1, 3, none⟩ (.int .i64 ((m5.length : Int) - 1)) = W5) := hW5
  have F5 : Hid (FS T R g fm ts E w v W5 j5 v5 m5 nodZ #[.int .i64 14, .int .i64 ((m1.length : Int) - 1), .int .i64 ((m2.length : Int) - 1), .int .i64 ((m5.length : Int) - 1), .int .i64 0, .string s3, .string s4] 58 58) := by
    rw [← hW5]
    exact G5.out.setN HT.out 3 _
  obtain ⟨n0, n1, n2, n3, n4, n5, n6, n7⟩ := node_cells G5.out.nn
  clear he5 hx5 hr5 hm5 hW5 hl5 hle5 hpos5 hgr5
  obtain ⟨q0, q1, q2, q3, q4, q5, q6, q7⟩ := node_cells G5.out.qq
  have z1 := G5.out.size
  go_wp2
  rw [HW5.out]
  have hfin := F5.out.fin HT.out (.int .i64 14) (.int .i64 ((m1.length : Int) - 1)) (.int .i64 ((m2.length : Int) - 1)) (.int .i64 ((m5.length : Int) - 1)) (.int .i64 0) (.string s3) (.string s4)
  refine bodyPost_ret (results_cell_row rfl _ _ w.heap.size 58 #[.int .i64 14, .int .i64 ((m1.length : Int) - 1), .int .i64 ((m2.length : Int) - 1), .int .i64 ((m5.length : Int) - 1), .int .i64 0, .string s3, .string s4] (0, 0) _ rfl hfin.qq Tryz.underlying58 rfl (by kernel_rfl)) rfl ?_
  have hA := HA5.out
  rw [argsE] at hA
  rw [← hA]
  exact ⟨rfl, _, hfin.rs, hfin.mv⟩

set_option maxHeartbeats 2000000 in
set_option maxRecDepth 20000 in
theorem rd_readTry {T : World → Prop} {R g fm : Nat} {ts : List Tok} {E : Int} {f : Nat} {s : ByteArray} (hT : ∀ a b, T a → Below R a b → T b) (hc : ts.length ≤ 4000) (hs : s.size ≤ 4000) (hk : ∀ i, i < ts.length → TokOk s (ts.getD i noTok)) (ih : ExprI T R g fm ts E f) :
    FormI T R g fm ts E f 83 #[.pointer (some ⟨R, 0, none⟩)] 19 0 [101, 110, 101] := by
  intro w i v l h hf hl
  obtain ⟨RA, hRA⟩ : ∃ RA, argsE ts E (exprE ts E f) [101, 110, 101] i ⟨19, 0, 0, 0, 0, ByteArray.empty, ByteArray.empty⟩ l [] = RA := ⟨_, rfl⟩
  rw [hRA]
  have HA0 : Hid (argsE ts E (exprE ts E f) [101, 110, 101] i ⟨19, 0, 0, 0, 0, ByteArray.empty, ByteArray.empty⟩ l [] = RA) := hRA
  have HT : Hid (∀ a b, T a → Below R a b → T b) := hT
  have IH : Hid (ExprI T R g fm ts E f) := ih
  have HC : Hid (ts.length ≤ 4000) := hc
  have HS : Hid (s.size ≤ 4000) := hs
  have HK : Hid (∀ i, i < ts.length → TokOk s (ts.getD i noTok)) := hk
  have HV : Hid (∀ k, v.ownBlock = some k → R < k) := h.far
  have HF : Hid (ts.length + 1 ≤ i + f) := hf
  have HL0 : Hid (l.length ≤ i) := hl
  have F0 : Hid (FS T R g fm ts E w v ((w.alloc (.cells nodZ 58)).alloc (.cells #[.int .i64 19, .int .i64 0, .int .i64 0, .int .i64 0, .int .i64 0, .string ⟨#[]⟩, .string ⟨#[]⟩] 58)) i v l nodZ #[.int .i64 19, .int .i64 0, .int .i64 0, .int .i64 0, .int .i64 0, .string ⟨#[]⟩, .string ⟨#[]⟩] 58 58) := FS.start hT h
  clear hRA hT ih hc hs hk hf hl h
  go_enter Tryz.func83, Tryz.ntmps83
  go_wp2_with fail
  refine (IH.out _ _ _ _ F0.out.rs HF.out HL0.out).mono ?_
  rintro e w1 he1
  obtain ⟨j1, m1, v1, hx1, rfl, hr1, hm1⟩ | ⟨c1, q1, hx1, rfl, hb1⟩ := eout_case he1
  case inr =>
    have HE : Hid (RA = .error (c1, q1)) := by
      have h := HA0.out
      rw [argsE, if_neg (by decide), hx1] at h
      exact h.symm
    have HB : Hid (Below R w w1) := (F0.out.low HV.out).trans hb1
    clear he1 hx1 hb1
    go_wp2
    exact ⟨rfl, by rw [HE.out]; exact ⟨rfl, HB.out⟩⟩
  obtain ⟨hl1, hle1, hpos1, hgr1⟩ := exprE_fair ts E f _ _ _ _ hx1
  have HA1 : Hid (argsE ts E (exprE ts E f) [110, 101] j1 ⟨19, 0, 0, 0, 0, ByteArray.empty, ByteArray.empty⟩ m1 [((m1.length : Int) - 1)] = RA) := by
    have h := HA0.out
    rw [argsE, if_neg (by decide), hx1] at h
    exact h
  have HF1 : Hid (ts.length + 1 ≤ j1 + f ∧ (m1).length ≤ j1) := by
    have h1 := HF.out
    have h2 := HL0.out
    show ts.length + 1 ≤ j1 + f ∧ (m1).length ≤ j1
    omega
  have G1 : Hid (FS T R g fm ts E w v w1 j1 v1 m1 nodZ #[.int .i64 19, .int .i64 0, .int .i64 0, .int .i64 0, .int .i64 0, .string ⟨#[]⟩, .string ⟨#[]⟩] 58 58) := F0.out.call hr1 hm1
  obtain ⟨W1, hW1⟩ : ∃ W, w1.setCell ⟨w.heap.size + 1, 1, none⟩ (.int .i64 ((m1.length : Int) - 1)) = W := ⟨_, rfl⟩
  have HW1 : Hid (w1.setCell ⟨w.heap.size + 1, 1, none⟩ (.int .i64 ((m1.length : Int) - 1)) = W1) := hW1
  have F1 : Hid (FS T R g fm ts E w v W1 j1 v1 m1 nodZ #[.int .i64 19, .int .i64 ((m1.length : Int) - 1), .int .i64 0, .int .i64 0, .int .i64 0, .string ⟨#[]⟩, .string ⟨#[]⟩] 58 58) := by
    rw [← hW1]
    exact G1.out.setN HT.out 1 _
  obtain ⟨n0, n1, n2, n3, n4, n5, n6, n7⟩ := node_cells G1.out.nn
  clear he1 hx1 hr1 hm1 hW1 hl1 hle1 hpos1 hgr1
  go_wp2_with fail
  rw [HW1.out]
  clear n0 n1 n2 n3 n4 n5 n6 n7 HW1 G1
  refine (rd_name HT.out F1.out.rs HC.out HS.out HK.out).mono ?_
  rintro e w2 he2
  obtain ⟨j2, s2, hx2, rfl, hr2, hm2⟩ | ⟨c2, q2, hx2, rfl, hb2⟩ := nout_case he2
  case inr =>
    have HE : Hid (RA = .error (c2, q2)) := by
      have h := HA1.out
      rw [argsE, if_pos rfl, hx2] at h
      exact h.symm
    have HB : Hid (Below R w w2) := (F1.out.low HV.out).trans hb2
    clear he2 hx2 hb2
    go_wp2
    exact ⟨rfl, by rw [HE.out]; exact ⟨rfl, HB.out⟩⟩
  obtain ⟨hz1, rfl, hl2⟩ := name_size HK.out hx2
  have HA2 : Hid (argsE ts E (exprE ts E f) [101] (j1 + 1) ⟨19, 0, 0, 0, 0, s2, ByteArray.empty⟩ m1 [((m1.length : Int) - 1)] = RA) := by
    have h := HA1.out
    rw [argsE, if_pos rfl, hx2] at h
    simp only at h
    rw [if_pos (by first | rfl | decide)] at h
    exact h
  have HF2 : Hid (ts.length + 1 ≤ (j1 + 1) + f ∧ (m1).length ≤ (j1 + 1)) := by
    have h1 := HF1.out
    
    show ts.length + 1 ≤ (j1 + 1) + f ∧ (m1).length ≤ (j1 + 1)
    omega
  have G2 : Hid (FS T R g fm ts E w v w2 (j1 + 1) v1 m1 nodZ #[.int .i64 19, .int .i64 ((m1.length : Int) - 1), .int .i64 0, .int .i64 0, .int .i64 0, .string ⟨#[]⟩, .string ⟨#[]⟩] 58 58) := F1.out.call hr2 hm2
  obtain ⟨W2, hW2⟩ : ∃ W, w2.setCell ⟨w.heap.size + 1, 5, none⟩ (.string s2) = W := ⟨_, rfl⟩
  have HW2 : Hid (w2.setCell ⟨w.heap.size + 1, 5, none⟩ (.string s2) = W2) := hW2
  have F2 : Hid (FS T R g fm ts E w v W2 (j1 + 1) v1 m1 nodZ #[.int .i64 19, .int .i64 ((m1.length : Int) - 1), .int .i64 0, .int .i64 0, .int .i64 0, .string s2, .string ⟨#[]⟩] 58 58) := by
    rw [← hW2]
    exact G2.out.setN HT.out 5 _
  obtain ⟨n0, n1, n2, n3, n4, n5, n6, n7⟩ := node_cells G2.out.nn
  clear he2 hx2 hr2 hm2 hW2 hl2
  go_wp2_with fail
  rw [HW2.out]
  clear n0 n1 n2 n3 n4 n5 n6 n7 HW2 G2
  refine (IH.out _ _ _ _ F2.out.rs HF2.out.1 HF2.out.2).mono ?_
  rintro e w3 he3
  obtain ⟨j3, m3, v3, hx3, rfl, hr3, hm3⟩ | ⟨c3, q3, hx3, rfl, hb3⟩ := eout_case he3
  case inr =>
    have HE : Hid (RA = .error (c3, q3)) := by
      have h := HA2.out
      rw [argsE, if_neg (by decide), hx3] at h
      exact h.symm
    have HB : Hid (Below R w w3) := (F2.out.low HV.out).trans hb3
    clear he3 hx3 hb3
    go_wp2
    exact ⟨rfl, by rw [HE.out]; exact ⟨rfl, HB.out⟩⟩
  obtain ⟨hl3, hle3, hpos3, hgr3⟩ := exprE_fair ts E f _ _ _ _ hx3
  have HA3 : Hid (argsE ts E (exprE ts E f) [] j3 ⟨19, 0, 0, 0, 0, s2, ByteArray.empty⟩ m3 [((m1.length : Int) - 1), ((m3.length : Int) - 1)] = RA) := by
    have h := HA2.out
    rw [argsE, if_neg (by decide), hx3] at h
    exact h
  have HF3 : Hid (ts.length + 1 ≤ j3 + f ∧ (m3).length ≤ j3) := by
    have h1 := HF2.out
    
    show ts.length + 1 ≤ j3 + f ∧ (m3).length ≤ j3
    omega
  have G3 : Hid (FS T R g fm ts E w v w3 j3 v3 m3 nodZ #[.int .i64 19, .int .i64 ((m1.length : Int) - 1), .int .i64 0, .int .i64 0, .int .i64 0, .string s2, .string ⟨#[]⟩] 58 58) := F2.out.call hr3 hm3
  obtain ⟨W3, hW3⟩ : ∃ W, w3.setCell ⟨w.heap.size + 1, 2, none⟩ (.int .i64 ((m3.length : Int) - 1)) = W := ⟨_, rfl⟩
  have HW3 : Hid (w3.setCell ⟨w.heap.size + 1, 2, none⟩ (.int .i64 ((m3.length : Int) - 1)) = W3) := hW3
  have F3 : Hid (FS T R g fm ts E w v W3 j3 v3 m3 nodZ #[.int .i64 19, .int .i64 ((m1.length : Int) - 1), .int .i64 ((m3.length : Int) - 1), .int .i64 0, .int .i64 0, .string s2, .string ⟨#[]⟩] 58 58) := by
    rw [← hW3]
    exact G3.out.setN HT.out 2 _
  obtain ⟨n0, n1, n2, n3, n4, n5, n6, n7⟩ := node_cells G3.out.nn
  clear he3 hx3 hr3 hm3 hW3 hl3 hle3 hpos3 hgr3
  obtain ⟨q0, q1, q2, q3, q4, q5, q6, q7⟩ := node_cells G3.out.qq
  have z1 := G3.out.size
  go_wp2
  rw [HW3.out]
  have hfin := F3.out.fin HT.out (.int .i64 19) (.int .i64 ((m1.length : Int) - 1)) (.int .i64 ((m3.length : Int) - 1)) (.int .i64 0) (.int .i64 0) (.string s2) (.string ⟨#[]⟩)
  refine bodyPost_ret (results_cell_row rfl _ _ w.heap.size 58 #[.int .i64 19, .int .i64 ((m1.length : Int) - 1), .int .i64 ((m3.length : Int) - 1), .int .i64 0, .int .i64 0, .string s2, .string ⟨#[]⟩] (0, 0) _ rfl hfin.qq Tryz.underlying58 rfl (by kernel_rfl)) rfl ?_
  have hA := HA3.out
  rw [argsE] at hA
  rw [← hA]
  exact ⟨rfl, _, hfin.rs, hfin.mv⟩
end

section
open Go.ChangeShapes Go.WideShapes Go.ChangeAt Go.RowKit

def kidRow (ks : List Int) : Array Value := #[.int .i64 (ks.getD 0 0), .int .i64 (ks.getD 1 0), .int .i64 (ks.getD 2 0)]

theorem kidRow_next (ks : List Int) (x : Int) (h : ks.length < 3) : (kidRow ks).setIfInBounds ks.length (.int .i64 x) = kidRow (ks ++ [x]) := by
  match ks, h with
  | [], _ => rfl
  | [a], _ => rfl
  | [a, b], _ => rfl

theorem kidRow_node (K op : Int) (ks : List Int) (h : ks.length ≤ 3) : nodAgg (withKids ⟨K, 0, 0, 0, op, ByteArray.empty, ByteArray.empty⟩ ks) = .agg #[.int .i64 K, .int .i64 (ks.getD 0 0), .int .i64 (ks.getD 1 0), .int .i64 (ks.getD 2 0), .int .i64 op, .string ⟨#[]⟩, .string ⟨#[]⟩] := by
  match ks, h with
  | [], _ => rfl
  | [a], _ => rfl
  | [a, b], _ => rfl
  | [a, b, c], _ => rfl

theorem kid_cells {w : World} {g : Nat} {ks : List Int} {t : TypeId} (h : w.heap[g]? = some (.cells (kidRow ks) t (0, 0))) :
    w.cell? ⟨g, 0, none⟩ = some (.int .i64 (ks.getD 0 0)) ∧ w.cell? ⟨g, 1, none⟩ = some (.int .i64 (ks.getD 1 0)) ∧ w.cell? ⟨g, 2, none⟩ = some (.int .i64 (ks.getD 2 0)) ∧ ∀ j, w.frozen? ⟨g, j, none⟩ = false := by
  refine ⟨?_, ?_, ?_, fun j => frozen_of_row w g j _ _ h⟩ <;> rw [cell_of_row _ _ _ _ _ _ h] <;> rfl

/-- What stands ahead of a round: so many kids are read. -/
def KX (T : World → Prop) (R g fm : Nat) (ts : List Tok) (E : Int) (f : Nat) (w : World) (v : Value) (K op : Int) (n : Nat) (RA : Except Flt (Nat × Nod × List Nod × List Int)) (k : Nat) (W : World) : Prop :=
  ∃ (j : Nat) (vx : Value) (L : List Nod) (ks : List Int), ks.length = k ∧ FS T R g fm ts E w v W j vx L nodZ (kidRow ks) 58 134 ∧ ts.length + 1 ≤ j + f ∧ L.length ≤ j ∧ argsE ts E (exprE ts E f) (List.replicate (n - k) 101) j ⟨K, 0, 0, 0, op, ByteArray.empty, ByteArray.empty⟩ L ks = RA

set_option maxHeartbeats 2000000 in
set_option maxRecDepth 20000 in
theorem rd_readKids {T : World → Prop} {R g fm kb ob : Nat} {ts : List Tok} {E : Int} {f : Nat} {K op : Int} (hT : ∀ a b, T a → Below R a b → T b) (ih : ExprI T R g fm ts E f)
    (hcell : ∀ w, T w → w.cell? ⟨kb, 0, none⟩ = some (.int .i64 K) ∧ w.cell? ⟨ob, 0, none⟩ = some (.int .i64 op)) (hn3 : arN K ≤ 3) :
    FormI T R g fm ts E f 105 #[.pointer (some ⟨R, 0, none⟩), .pointer (some ⟨kb, 0, none⟩), .pointer (some ⟨ob, 0, none⟩)] K op (List.replicate (arN K) 101) := by
  intro w i v l h hf hl
  obtain ⟨RA, hRA⟩ : ∃ RA, argsE ts E (exprE ts E f) (List.replicate (arN K) 101) i ⟨K, 0, 0, 0, op, ByteArray.empty, ByteArray.empty⟩ l [] = RA := ⟨_, rfl⟩
  rw [hRA]
  have HT : Hid (∀ a b, T a → Below R a b → T b) := hT
  have IH : Hid (ExprI T R g fm ts E f) := ih
  have HCL : Hid (∀ w, T w → w.cell? ⟨kb, 0, none⟩ = some (.int .i64 K) ∧ w.cell? ⟨ob, 0, none⟩ = some (.int .i64 op)) := hcell
  have HV : Hid (∀ k, v.ownBlock = some k → R < k) := h.far
  have F0 : FS T R g fm ts E w v ((w.alloc (.cells nodZ 58)).alloc (.cells (kidRow []) 134)) i v l nodZ (kidRow []) 58 134 := FS.start hT h
  have HAR := impl_arity K
  have HAC : Hid (∀ w, Calls Tryz.prog 99 #[.int .i64 K] w fun e w' => e = .returned (.int .i64 (arN K : Nat)) ∧ w' = w) := HAR
  obtain ⟨c1', c2'⟩ := hcell _ F0.rs.tab
  have c1 : ((w.alloc (.cells nodZ 58)).alloc (.cells #[.int .i64 0, .int .i64 0, .int .i64 0] 134)).cell? ⟨kb, 0, none⟩ = some (.int .i64 K) := c1'
  clear c1' c2'
  generalize arN K = n at *
  have HX0 : Hid (KX T R g fm ts E f w v K op n RA 0 ((w.alloc (.cells nodZ 58)).alloc (.cells (kidRow []) 134))) := ⟨i, v, l, [], rfl, F0, hf, hl, by simpa using hRA⟩
  clear hRA hT ih hcell h hf hl HAR F0
  go_enter Tryz.func105, Tryz.ntmps105
  go_wp2_with fail
  refine (HAC.out _).mono ?_
  rintro e w1 ⟨rfl, rfl⟩
  clear c1 HAC
  go_wp2
  go_loopg [9] n (fun gk k wr => ∃ kk : Nat, kk ≤ n ∧ gk = n - kk ∧ k = .int .i64 kk ∧ Hid (KX T R g fm ts E f w v K op n RA kk wr))
  case atStart => exact ⟨0, by omega, by omega, rfl, HX0⟩
  case round =>
    clear HX0
    obtain ⟨kk, hkk, hgk, rfl, hkx⟩ := hrel
    have HGK : Hid (_) := hgk
    clear hgk
    obtain ⟨j, vx, L, ks, hks, hFS, hfj, hLj, hargs⟩ := hkx.out
    have HFS : Hid (FS T R g fm ts E w v wr j vx L nodZ (kidRow ks) 58 134) := hFS
    have HAR : Hid (argsE ts E (exprE ts E f) (List.replicate (n - kk) 101) j ⟨K, 0, 0, 0, op, ByteArray.empty, ByteArray.empty⟩ L ks = RA) := hargs
    have HKS : Hid (ks.length = kk) := hks
    clear hkx hFS hargs hks
    by_cases hin : kk < n
    · have hin' : (kk : Int) < n := by omega
      have hk3 : (kk : Int) < 3 := by omega
      go_wp2_with fail
      refine (IH.out _ _ _ _ HFS.out.rs hfj hLj).mono ?_
      rintro e w2 he
      have er : List.replicate (n - kk) (101 : UInt8) = 101 :: List.replicate (n - (kk + 1)) 101 := by
        have : n - kk = (n - (kk + 1)) + 1 := by omega
        rw [this, List.replicate_succ]
      have HA := HAR.out
      rw [er, argsE, if_neg (by decide)] at HA
      obtain ⟨j2, m2, v2, hx2, rfl, hr2, hm2⟩ | ⟨c2, q2, hx2, rfl, hb2⟩ := eout_case he
      · have G : Hid (FS T R g fm ts E w v w2 j2 v2 m2 nodZ (kidRow ks) 58 134) := HFS.out.call hr2 hm2
        obtain ⟨n0, n1, n2, n3⟩ := kid_cells G.out.nn
        rw [hx2] at HA
        obtain ⟨f1, f2, f3, f4⟩ := exprE_fair ts E f _ _ _ _ hx2
        have HKX : Hid (KX T R g fm ts E f w v K op n RA (kk + 1) (w2.setCell ⟨w.heap.size + 1, kk, none⟩ (.int .i64 ((m2.length : Int) - 1)))) := by
          have hset := G.out.setN HT.out kk (.int .i64 ((m2.length : Int) - 1))
          have e3 : (kidRow ks).setIfInBounds kk (.int .i64 ((m2.length : Int) - 1)) = kidRow (ks ++ [(m2.length : Int) - 1]) := by
            rw [← HKS.out]
            exact kidRow_next ks _ (by have := HKS.out; omega)
          rw [e3] at hset
          exact ⟨j2, v2, m2, _, by have := HKS.out; simp; omega, hset, by omega, by omega, HA⟩
        clear HA hx2 hr2 hm2 he er f1 f2 f3 f4
        rcases (by omega : kk = 0 ∨ kk = 1 ∨ kk = 2) with rfl | rfl | rfl
        · go_wp2
          go_roundg (n - (0 + 1))
          case rel => exact ⟨0 + 1, by omega, rfl, by go_num, HKX⟩
          case measure => have := HGK.out; omega
        · go_wp2
          go_roundg (n - (1 + 1))
          case rel => exact ⟨1 + 1, by omega, rfl, by go_num, HKX⟩
          case measure => have := HGK.out; omega
        · go_wp2
          go_roundg (n - (2 + 1))
          case rel => exact ⟨2 + 1, by omega, rfl, by go_num, HKX⟩
          case measure => have := HGK.out; omega
      · rw [hx2] at HA
        have HE : Hid (RA = .error (c2, q2)) := HA.symm
        have HB : Hid (Below R w w2) := (HFS.out.low HV.out).trans hb2
        clear HA he hx2 hb2 er
        go_wp2
        exact ⟨rfl, by rw [HE.out]; exact ⟨rfl, HB.out⟩⟩
    · obtain rfl : kk = n := by omega
      obtain ⟨c1, c2⟩ := HCL.out _ HFS.out.rs.tab
      obtain ⟨n0, n1, n2, n3⟩ := kid_cells HFS.out.nn
      obtain ⟨q0, q1, q2, q3, q4, q5, q6, q7⟩ := node_cells HFS.out.qq
      go_wp2
      have hfin := HFS.out.fin HT.out (.int .i64 K) (.int .i64 (ks.getD 0 0)) (.int .i64 (ks.getD 1 0)) (.int .i64 (ks.getD 2 0)) (.int .i64 op) (.string ⟨#[]⟩) (.string ⟨#[]⟩)
      refine bodyPost_ret (results_cell_row rfl _ _ w.heap.size 58 #[.int .i64 K, .int .i64 (ks.getD 0 0), .int .i64 (ks.getD 1 0), .int .i64 (ks.getD 2 0), .int .i64 op, .string ⟨#[]⟩, .string ⟨#[]⟩] (0, 0) _ rfl hfin.qq Tryz.underlying58 rfl (by kernel_rfl)) rfl ?_
      have hA := HAR.out
      rw [Nat.sub_self, List.replicate_zero, argsE] at hA
      rw [← hA]
      exact ⟨by rw [kidRow_node K op ks (by have := HKS.out; omega)], _, hfin.rs, hfin.mv⟩
end

section
open Go.ChangeShapes Go.WideShapes Go.ChangeAt Go.RowKit

/-- A row of the map: a key, the kind, what N holds, how it goes on; which function reads it, or none where readKids made it. -/
structure FRow where
  key : List UInt8
  kind : Int
  op : Int
  form : List UInt8
  fn : Option FuncId

def fTable : List FRow := [⟨[102, 117, 110], 3, 0, [110, 101], some 78⟩,
  ⟨[97, 112, 112], 4, 0, [101, 101], none⟩,
  ⟨[108, 101, 116], 5, 0, [110, 101, 101], some 80⟩,
  ⟨[114, 101, 99], 6, 0, [110, 110, 101, 101], some 81⟩,
  ⟨[105, 102], 7, 0, [101, 101, 101], none⟩,
  ⟨[97, 100, 100], 8, 0, [101, 101], none⟩,
  ⟨[115, 117, 98], 8, 1, [101, 101], none⟩,
  ⟨[108, 101, 115, 115], 8, 2, [101, 101], none⟩,
  ⟨[115, 97, 109, 101], 8, 3, [101, 101], none⟩,
  ⟨[112, 97, 105, 114], 9, 0, [101, 101], none⟩,
  ⟨[102, 115, 116], 10, 0, [101], none⟩,
  ⟨[115, 110, 100], 11, 0, [101], none⟩,
  ⟨[99, 111, 110, 115], 13, 0, [101, 101], none⟩,
  ⟨[109, 97, 116, 99, 104], 14, 0, [101, 101, 110, 110, 101], some 82⟩,
  ⟨[114, 101, 102], 15, 0, [101], none⟩,
  ⟨[103, 101, 116], 16, 0, [101], none⟩,
  ⟨[115, 101, 116], 17, 0, [101, 101], none⟩,
  ⟨[114, 97, 105, 115, 101], 18, 0, [101], none⟩,
  ⟨[116, 114, 121], 19, 0, [101, 110, 101], some 83⟩]

/-- The function that a row has. -/
def FnR (w : World) (M : Nat) (r : FRow) (v : Value) : Prop := match r.fn with
  | some F => v = .func (.func F) #[] #[]
  | none => ∃ kb ob : Nat, v = .func (.func 105) #[] #[.pointer (some ⟨kb, 0, none⟩), .pointer (some ⟨ob, 0, none⟩)] ∧ w.cell? ⟨kb, 0, none⟩ = some (.int .i64 r.kind) ∧ w.cell? ⟨ob, 0, none⟩ = some (.int .i64 r.op) ∧ kb ≠ M ∧ ob ≠ M

theorem FnR.kept {w w' : World} {M : Nat} {r : FRow} {v : Value} (h : FnR w M r v) (hb : ∀ k, k < w.heap.size → k ≠ M → w'.heap[k]? = w.heap[k]?) : FnR w' M r v := by
  unfold FnR at h ⊢
  cases hf : r.fn with
  | some F =>
    rw [hf] at h
    exact h
  | none =>
    rw [hf] at h
    obtain ⟨kb, ob, h1, h2, h3, h4, h5⟩ := h
    exact ⟨kb, ob, h1, (World.cell?_of_block (hb kb (cell_lt' h2) h4)).trans h2, (World.cell?_of_block (hb ob (cell_lt' h3) h5)).trans h3, h4, h5⟩

def RowsR (w : World) (M : Nat) : List FRow → List MapEntry → Prop
  | [], [] => True
  | r :: rs, e :: es => (e.key = .string ⟨r.key.toArray⟩ ∧ FnR w M r e.val) ∧ RowsR w M rs es
  | _, _ => False

theorem RowsR.kept {w w' : World} {M : Nat} (hb : ∀ k, k < w.heap.size → k ≠ M → w'.heap[k]? = w.heap[k]?) : ∀ {rs : List FRow} {es : List MapEntry}, RowsR w M rs es → RowsR w' M rs es
  | [], [], _ => trivial
  | r :: rs, e :: es, h => ⟨⟨h.1.1, h.1.2.kept hb⟩, RowsR.kept hb h.2⟩
  | [], _ :: _, h => h.elim
  | _ :: _, [], h => h.elim

theorem RowsR.more {w : World} {M : Nat} {r : FRow} {e : MapEntry} (he : e.key = .string ⟨r.key.toArray⟩) (hv : FnR w M r e.val) : ∀ {rs : List FRow} {es : List MapEntry}, RowsR w M rs es → RowsR w M (rs ++ [r]) (es ++ [e])
  | [], [], _ => ⟨⟨he, hv⟩, trivial⟩
  | r' :: rs, e' :: es, h => ⟨h.1, RowsR.more he hv h.2⟩
  | [], _ :: _, h => h.elim
  | _ :: _, [], h => h.elim

theorem RowsR.keys {w : World} {M : Nat} : ∀ {rs : List FRow} {es : List MapEntry}, RowsR w M rs es → (∀ e ∈ es, MapKept.IsKey .string e.key) ∧ ∀ e ∈ es, ∃ r ∈ rs, e.key = .string ⟨r.key.toArray⟩
  | [], [], _ => ⟨by simp, by simp⟩
  | r :: rs, e :: es, h => by
    obtain ⟨k1, k2⟩ := RowsR.keys h.2
    refine ⟨fun x hx => ?_, fun x hx => ?_⟩
    · rcases List.mem_cons.1 hx with rfl | hx
      · rw [h.1.1]; simp [MapKept.IsKey]
      · exact k1 x hx
    · rcases List.mem_cons.1 hx with rfl | hx
      · exact ⟨r, List.mem_cons_self, h.1.1⟩
      · obtain ⟨r', h1, h2⟩ := k2 x hx
        exact ⟨r', List.mem_cons_of_mem _ h1, h2⟩
  | [], _ :: _, h => h.elim
  | _ :: _, [], h => h.elim

/-- Block M is a map of these rows. -/
def MS (w : World) (M : Nat) (rs : List FRow) : Prop := ∃ (es : List MapEntry) (c : Nat), w.heap[M]? = some (.map es.toArray c) ∧ RowsR w M rs es

theorem MS.lt {w : World} {M : Nat} {rs : List FRow} (h : MS w M rs) : M < w.heap.size := by
  obtain ⟨es, c, hm, _⟩ := h
  exact (Array.getElem?_eq_some_iff.1 hm).1

theorem MS.below {w w' : World} {M : Nat} {rs : List FRow} (h : MS w M rs) (hb : Below w.heap.size w w') : MS w' M rs := by
  have hlt := h.lt
  obtain ⟨es, c, hm, hr⟩ := h
  exact ⟨es, c, (hb.block M hlt).trans hm, hr.kept (fun k hk _ => hb.block k hk)⟩

theorem findNow_new {w : World} {M : Nat} {rs : List FRow} {es : List MapEntry} (h : RowsR w M rs es) (key : List UInt8) (hk : ∀ r ∈ rs, r.key ≠ key) : Instr.findNow .string (.string ⟨key.toArray⟩) es 0 = some none := by
  obtain ⟨k1, k2⟩ := h.keys
  rcases MapKept.findNow_spec (d := .string) (k := .string ⟨key.toArray⟩) (by simp [MapKept.IsKey]) es 0 k1 with ⟨h1, _⟩ | ⟨j, e, _, h2, h3⟩
  · exact h1
  · obtain ⟨r, hr, he⟩ := k2 e (List.mem_of_getElem? h2)
    rw [he] at h3
    simp at h3
    exact absurd h3 (hk r hr)

/-- An entry is put into the map. -/
theorem wpList_ins (w : World) {ops : Array Oper} {rest : List Oper} {o : Oper} {a : Act} {Q : Exit → Act → World → Prop} (hg : o.guard = none) (m x y : Operand) (hop : o.op = Op.insert 90 m x y)
    (M : Nat) (rs : List FRow) (r : FRow) (hm : a.eval m = .map (some M)) (hms : MS w M rs) (hx : a.eval x = .string ⟨r.key.toArray⟩) (val : Value) (hv : a.eval y = val) (hf : FnR w M r val) (hnew : ∀ r' ∈ rs, r'.key ≠ r.key)
    (hK : ∀ w', MS w' M (rs ++ [r]) → Below M w w' → w'.heap.size = w.heap.size → wpList Tryz.prog ops Q rest (a.put o.dst undef) w') : wpList Tryz.prog ops Q (o :: rest) a w := by
  refine wpList_plain hg fun K' hK' => ?_
  have hlt := hms.lt
  obtain ⟨es, c, hb, hr⟩ := hms
  have hfn := findNow_new hr r.key hnew
  have hc : (Instr.checkKey false 10000 9 (.string ⟨r.key.toArray⟩)).run Tryz.prog w = .ok () w := MapKept.run_checkKey (k := .string ⟨r.key.toArray⟩) Tryz.underlying9 (by simp [MapKept.IsKey]) false 9999
  have hrun : (Instr.mapUpdate 90 (.map (some M)) (.string ⟨r.key.toArray⟩) val).run Tryz.prog w = .ok () { w with heap := w.heap.setIfInBounds M (.map (es.toArray.push { key := .string ⟨r.key.toArray⟩, val := val, born := c }) (c + 1)) } := by
    simp [Instr.mapUpdate, run_underlying Tryz.underlying90, MapKept.run_getObj_map hb, hc, MapKept.run_findKey Tryz.underlying9 hfn, MapKept.run_setObj_map _ hb, Result.andThen]
  have hset := MapKept.heap_set (o' := .map (es.toArray.push { key := .string ⟨r.key.toArray⟩, val := val, born := c }) (c + 1)) hb
  obtain ⟨W, hW⟩ : ∃ W, ({ w with heap := w.heap.setIfInBounds M (.map (es.toArray.push { key := .string ⟨r.key.toArray⟩, val := val, born := c }) (c + 1)) } : World) = W := ⟨_, rfl⟩
  have h1 : W.heap[M]? = some (.map (es ++ [({ key := .string ⟨r.key.toArray⟩, val := val, born := c } : MapEntry)]).toArray (c + 1)) := by
    rw [← hW]
    show (w.heap.setIfInBounds M _)[M]? = _
    rw [hset.1]
    simp
  have h2 : ∀ k, k ≠ M → W.heap[k]? = w.heap[k]? := fun k hk => by rw [← hW]; exact hset.2 k hk
  have h3 : W.heap.size = w.heap.size := by rw [← hW]; simp
  have h4 : Below M w W := by rw [← hW]; exact ⟨rfl, rfl, rfl, by simp, fun k hk => hset.2 k (by omega)⟩
  rw [hW] at hrun
  unfold Oper.wp
  simp [execOp, hop, hm, hx, hv, hrun, Result.andThen]
  exact hK' _ _ (hK W ⟨_, _, h1, (hr.kept (fun k _ hk => h2 k hk)).more rfl (hf.kept (fun k _ hk => h2 k hk))⟩ h4 h3)

/-- A form without names is made. -/
theorem rd_mk (K op : Int) (w : World) :
    Calls Tryz.prog 79 #[.int .i64 K, .int .i64 op] w fun e w' => e = .returned (.func (.func 105) #[] #[.pointer (some ⟨w.heap.size, 0, none⟩), .pointer (some ⟨w.heap.size + 1, 0, none⟩)]) ∧ w' = (w.alloc (.cells #[.int .i64 K] 3)).alloc (.cells #[.int .i64 op] 3) := by
  have hmf : ∀ (fn : Fn) (first cap : Array Value) (w : World), (Instr.makeFunc fn first cap).run Tryz.prog w = .ok (.func fn first cap) w := fun _ _ _ _ => rfl
  go_enter Tryz.func79, Tryz.ntmps79
  go_wp2
  go_ret
  exact ⟨rfl, rfl⟩

/-- What is made is what the row asks for. -/
theorem mk_fn {w : World} {M : Nat} {rs : List FRow} (h : MS w M rs) (key form : List UInt8) (K op : Int) :
    MS ((w.alloc (.cells #[.int .i64 K] 3)).alloc (.cells #[.int .i64 op] 3)) M rs ∧ FnR ((w.alloc (.cells #[.int .i64 K] 3)).alloc (.cells #[.int .i64 op] 3)) M ⟨key, K, op, form, none⟩ (.func (.func 105) #[] #[.pointer (some ⟨w.heap.size, 0, none⟩), .pointer (some ⟨w.heap.size + 1, 0, none⟩)]) := by
  have hlt := h.lt
  refine ⟨h.below (((Below.refl _ w).alloc (Nat.le_refl _) _).alloc (by simp) _), w.heap.size, w.heap.size + 1, rfl, ?_, ?_, by omega, by omega⟩
  · rw [cell_of_row _ _ _ _ _ _ (heap_alloc2_old w _ _)]
    rfl
  · rw [cell_of_row _ _ _ _ _ _ (heap_alloc2_new w _ _)]
    rfl

set_option maxHeartbeats 4000000 in
set_option maxRecDepth 100000 in
/-- The map of the forms. -/
theorem rd_forms (w : World) :
    Calls Tryz.prog 41 #[] w fun e w' => ∃ M : Nat, e = .returned (.map (some M)) ∧ MS w' M fTable ∧ Below w.heap.size w w' := by
  have hmm : (Instr.makeMap 90 none).run Tryz.prog w = .ok (.map (some w.heap.size)) (w.alloc (.map #[] 0)) := by simp [Instr.makeMap]
  have M0 : Hid (MS (w.alloc (.map #[] 0)) w.heap.size []) := ⟨[], 0, heap_alloc_new w _, trivial⟩
  have B0 : Hid (Below w.heap.size w (w.alloc (.map #[] 0))) := (Below.refl _ w).alloc (Nat.le_refl _) _
  go_enter Tryz.func41, Tryz.ntmps41
  go_wp2_with (first | (refine wpList_ins _ rfl _ _ _ rfl w.heap.size (fTable.take 0) ⟨[102, 117, 110], 3, 0, [110, 101], some 78⟩ rfl M0.out rfl _ rfl (rfl : FnR _ _ ⟨[102, 117, 110], 3, 0, [110, 101], some 78⟩ _) (by decide) ?_; intro W1 hm1 hb1 hz1; have M1 : Hid (MS W1 w.heap.size (fTable.take 1)) := hm1; have B1 : Hid (Below w.heap.size w W1) := B0.out.trans hb1; clear hm1 hb1 hz1 M0 B0))
  refine (rd_mk 4 0 _).mono ?_
  rintro e w1 ⟨rfl, rfl⟩
  obtain ⟨hm1, hf1⟩ := mk_fn M1.out [97, 112, 112] [101, 101] 4 0
  have M1 : Hid (MS ((W1.alloc (.cells #[.int .i64 4] 3)).alloc (.cells #[.int .i64 0] 3)) w.heap.size (fTable.take 1)) := hm1
  have B1 : Hid (Below w.heap.size w ((W1.alloc (.cells #[.int .i64 4] 3)).alloc (.cells #[.int .i64 0] 3))) := (B1.out.alloc B1.out.size _).alloc (by have := B1.out.size; simp; omega) _
  clear hm1
  go_wp2_with (first | (refine wpList_ins _ rfl _ _ _ rfl w.heap.size (fTable.take 1) ⟨[97, 112, 112], 4, 0, [101, 101], none⟩ rfl M1.out rfl _ rfl hf1 (by decide) ?_; intro W2 hm2 hb2 hz2; have M2 : Hid (MS W2 w.heap.size (fTable.take 2)) := hm2; have B2 : Hid (Below w.heap.size w W2) := B1.out.trans hb2; clear hm2 hb2 hz2 M1 B1) | (refine wpList_ins _ rfl _ _ _ rfl w.heap.size (fTable.take 2) ⟨[108, 101, 116], 5, 0, [110, 101, 101], some 80⟩ rfl M2.out rfl _ rfl (rfl : FnR _ _ ⟨[108, 101, 116], 5, 0, [110, 101, 101], some 80⟩ _) (by decide) ?_; intro W3 hm3 hb3 hz3; have M3 : Hid (MS W3 w.heap.size (fTable.take 3)) := hm3; have B3 : Hid (Below w.heap.size w W3) := B2.out.trans hb3; clear hm3 hb3 hz3 M2 B2) | (refine wpList_ins _ rfl _ _ _ rfl w.heap.size (fTable.take 3) ⟨[114, 101, 99], 6, 0, [110, 110, 101, 101], some 81⟩ rfl M3.out rfl _ rfl (rfl : FnR _ _ ⟨[114, 101, 99], 6, 0, [110, 110, 101, 101], some 81⟩ _) (by decide) ?_; intro W4 hm4 hb4 hz4; have M4 : Hid (MS W4 w.heap.size (fTable.take 4)) := hm4; have B4 : Hid (Below w.heap.size w W4) := B3.out.trans hb4; clear hm4 hb4 hz4 M3 B3))
  refine (rd_mk 7 0 _).mono ?_
  rintro e w4 ⟨rfl, rfl⟩
  obtain ⟨hm4, hf4⟩ := mk_fn M4.out [105, 102] [101, 101, 101] 7 0
  have M4 : Hid (MS ((W4.alloc (.cells #[.int .i64 7] 3)).alloc (.cells #[.int .i64 0] 3)) w.heap.size (fTable.take 4)) := hm4
  have B4 : Hid (Below w.heap.size w ((W4.alloc (.cells #[.int .i64 7] 3)).alloc (.cells #[.int .i64 0] 3))) := (B4.out.alloc B4.out.size _).alloc (by have := B4.out.size; simp; omega) _
  clear hm4
  go_wp2_with (first | (refine wpList_ins _ rfl _ _ _ rfl w.heap.size (fTable.take 4) ⟨[105, 102], 7, 0, [101, 101, 101], none⟩ rfl M4.out rfl _ rfl hf4 (by decide) ?_; intro W5 hm5 hb5 hz5; have M5 : Hid (MS W5 w.heap.size (fTable.take 5)) := hm5; have B5 : Hid (Below w.heap.size w W5) := B4.out.trans hb5; clear hm5 hb5 hz5 M4 B4))
  refine (rd_mk 8 0 _).mono ?_
  rintro e w5 ⟨rfl, rfl⟩
  obtain ⟨hm5, hf5⟩ := mk_fn M5.out [97, 100, 100] [101, 101] 8 0
  have M5 : Hid (MS ((W5.alloc (.cells #[.int .i64 8] 3)).alloc (.cells #[.int .i64 0] 3)) w.heap.size (fTable.take 5)) := hm5
  have B5 : Hid (Below w.heap.size w ((W5.alloc (.cells #[.int .i64 8] 3)).alloc (.cells #[.int .i64 0] 3))) := (B5.out.alloc B5.out.size _).alloc (by have := B5.out.size; simp; omega) _
  clear hm5
  go_wp2_with (first | (refine wpList_ins _ rfl _ _ _ rfl w.heap.size (fTable.take 5) ⟨[97, 100, 100], 8, 0, [101, 101], none⟩ rfl M5.out rfl _ rfl hf5 (by decide) ?_; intro W6 hm6 hb6 hz6; have M6 : Hid (MS W6 w.heap.size (fTable.take 6)) := hm6; have B6 : Hid (Below w.heap.size w W6) := B5.out.trans hb6; clear hm6 hb6 hz6 M5 B5))
  refine (rd_mk 8 1 _).mono ?_
  rintro e w6 ⟨rfl, rfl⟩
  obtain ⟨hm6, hf6⟩ := mk_fn M6.out [115, 117, 98] [101, 101] 8 1
  have M6 : Hid (MS ((W6.alloc (.cells #[.int .i64 8] 3)).alloc (.cells #[.int .i64 1] 3)) w.heap.size (fTable.take 6)) := hm6
  have B6 : Hid (Below w.heap.size w ((W6.alloc (.cells #[.int .i64 8] 3)).alloc (.cells #[.int .i64 1] 3))) := (B6.out.alloc B6.out.size _).alloc (by have := B6.out.size; simp; omega) _
  clear hm6
  go_wp2_with (first | (refine wpList_ins _ rfl _ _ _ rfl w.heap.size (fTable.take 6) ⟨[115, 117, 98], 8, 1, [101, 101], none⟩ rfl M6.out rfl _ rfl hf6 (by decide) ?_; intro W7 hm7 hb7 hz7; have M7 : Hid (MS W7 w.heap.size (fTable.take 7)) := hm7; have B7 : Hid (Below w.heap.size w W7) := B6.out.trans hb7; clear hm7 hb7 hz7 M6 B6))
  refine (rd_mk 8 2 _).mono ?_
  rintro e w7 ⟨rfl, rfl⟩
  obtain ⟨hm7, hf7⟩ := mk_fn M7.out [108, 101, 115, 115] [101, 101] 8 2
  have M7 : Hid (MS ((W7.alloc (.cells #[.int .i64 8] 3)).alloc (.cells #[.int .i64 2] 3)) w.heap.size (fTable.take 7)) := hm7
  have B7 : Hid (Below w.heap.size w ((W7.alloc (.cells #[.int .i64 8] 3)).alloc (.cells #[.int .i64 2] 3))) := (B7.out.alloc B7.out.size _).alloc (by have := B7.out.size; simp; omega) _
  clear hm7
  go_wp2_with (first | (refine wpList_ins _ rfl _ _ _ rfl w.heap.size (fTable.take 7) ⟨[108, 101, 115, 115], 8, 2, [101, 101], none⟩ rfl M7.out rfl _ rfl hf7 (by decide) ?_; intro W8 hm8 hb8 hz8; have M8 : Hid (MS W8 w.heap.size (fTable.take 8)) := hm8; have B8 : Hid (Below w.heap.size w W8) := B7.out.trans hb8; clear hm8 hb8 hz8 M7 B7))
  refine (rd_mk 8 3 _).mono ?_
  rintro e w8 ⟨rfl, rfl⟩
  obtain ⟨hm8, hf8⟩ := mk_fn M8.out [115, 97, 109, 101] [101, 101] 8 3
  have M8 : Hid (MS ((W8.alloc (.cells #[.int .i64 8] 3)).alloc (.cells #[.int .i64 3] 3)) w.heap.size (fTable.take 8)) := hm8
  have B8 : Hid (Below w.heap.size w ((W8.alloc (.cells #[.int .i64 8] 3)).alloc (.cells #[.int .i64 3] 3))) := (B8.out.alloc B8.out.size _).alloc (by have := B8.out.size; simp; omega) _
  clear hm8
  go_wp2_with (first | (refine wpList_ins _ rfl _ _ _ rfl w.heap.size (fTable.take 8) ⟨[115, 97, 109, 101], 8, 3, [101, 101], none⟩ rfl M8.out rfl _ rfl hf8 (by decide) ?_; intro W9 hm9 hb9 hz9; have M9 : Hid (MS W9 w.heap.size (fTable.take 9)) := hm9; have B9 : Hid (Below w.heap.size w W9) := B8.out.trans hb9; clear hm9 hb9 hz9 M8 B8))
  refine (rd_mk 9 0 _).mono ?_
  rintro e w9 ⟨rfl, rfl⟩
  obtain ⟨hm9, hf9⟩ := mk_fn M9.out [112, 97, 105, 114] [101, 101] 9 0
  have M9 : Hid (MS ((W9.alloc (.cells #[.int .i64 9] 3)).alloc (.cells #[.int .i64 0] 3)) w.heap.size (fTable.take 9)) := hm9
  have B9 : Hid (Below w.heap.size w ((W9.alloc (.cells #[.int .i64 9] 3)).alloc (.cells #[.int .i64 0] 3))) := (B9.out.alloc B9.out.size _).alloc (by have := B9.out.size; simp; omega) _
  clear hm9
  go_wp2_with (first | (refine wpList_ins _ rfl _ _ _ rfl w.heap.size (fTable.take 9) ⟨[112, 97, 105, 114], 9, 0, [101, 101], none⟩ rfl M9.out rfl _ rfl hf9 (by decide) ?_; intro W10 hm10 hb10 hz10; have M10 : Hid (MS W10 w.heap.size (fTable.take 10)) := hm10; have B10 : Hid (Below w.heap.size w W10) := B9.out.trans hb10; clear hm10 hb10 hz10 M9 B9))
  refine (rd_mk 10 0 _).mono ?_
  rintro e w10 ⟨rfl, rfl⟩
  obtain ⟨hm10, hf10⟩ := mk_fn M10.out [102, 115, 116] [101] 10 0
  have M10 : Hid (MS ((W10.alloc (.cells #[.int .i64 10] 3)).alloc (.cells #[.int .i64 0] 3)) w.heap.size (fTable.take 10)) := hm10
  have B10 : Hid (Below w.heap.size w ((W10.alloc (.cells #[.int .i64 10] 3)).alloc (.cells #[.int .i64 0] 3))) := (B10.out.alloc B10.out.size _).alloc (by have := B10.out.size; simp; omega) _
  clear hm10
  go_wp2_with (first | (refine wpList_ins _ rfl _ _ _ rfl w.heap.size (fTable.take 10) ⟨[102, 115, 116], 10, 0, [101], none⟩ rfl M10.out rfl _ rfl hf10 (by decide) ?_; intro W11 hm11 hb11 hz11; have M11 : Hid (MS W11 w.heap.size (fTable.take 11)) := hm11; have B11 : Hid (Below w.heap.size w W11) := B10.out.trans hb11; clear hm11 hb11 hz11 M10 B10))
  refine (rd_mk 11 0 _).mono ?_
  rintro e w11 ⟨rfl, rfl⟩
  obtain ⟨hm11, hf11⟩ := mk_fn M11.out [115, 110, 100] [101] 11 0
  have M11 : Hid (MS ((W11.alloc (.cells #[.int .i64 11] 3)).alloc (.cells #[.int .i64 0] 3)) w.heap.size (fTable.take 11)) := hm11
  have B11 : Hid (Below w.heap.size w ((W11.alloc (.cells #[.int .i64 11] 3)).alloc (.cells #[.int .i64 0] 3))) := (B11.out.alloc B11.out.size _).alloc (by have := B11.out.size; simp; omega) _
  clear hm11
  go_wp2_with (first | (refine wpList_ins _ rfl _ _ _ rfl w.heap.size (fTable.take 11) ⟨[115, 110, 100], 11, 0, [101], none⟩ rfl M11.out rfl _ rfl hf11 (by decide) ?_; intro W12 hm12 hb12 hz12; have M12 : Hid (MS W12 w.heap.size (fTable.take 12)) := hm12; have B12 : Hid (Below w.heap.size w W12) := B11.out.trans hb12; clear hm12 hb12 hz12 M11 B11))
  refine (rd_mk 13 0 _).mono ?_
  rintro e w12 ⟨rfl, rfl⟩
  obtain ⟨hm12, hf12⟩ := mk_fn M12.out [99, 111, 110, 115] [101, 101] 13 0
  have M12 : Hid (MS ((W12.alloc (.cells #[.int .i64 13] 3)).alloc (.cells #[.int .i64 0] 3)) w.heap.size (fTable.take 12)) := hm12
  have B12 : Hid (Below w.heap.size w ((W12.alloc (.cells #[.int .i64 13] 3)).alloc (.cells #[.int .i64 0] 3))) := (B12.out.alloc B12.out.size _).alloc (by have := B12.out.size; simp; omega) _
  clear hm12
  go_wp2_with (first | (refine wpList_ins _ rfl _ _ _ rfl w.heap.size (fTable.take 12) ⟨[99, 111, 110, 115], 13, 0, [101, 101], none⟩ rfl M12.out rfl _ rfl hf12 (by decide) ?_; intro W13 hm13 hb13 hz13; have M13 : Hid (MS W13 w.heap.size (fTable.take 13)) := hm13; have B13 : Hid (Below w.heap.size w W13) := B12.out.trans hb13; clear hm13 hb13 hz13 M12 B12) | (refine wpList_ins _ rfl _ _ _ rfl w.heap.size (fTable.take 13) ⟨[109, 97, 116, 99, 104], 14, 0, [101, 101, 110, 110, 101], some 82⟩ rfl M13.out rfl _ rfl (rfl : FnR _ _ ⟨[109, 97, 116, 99, 104], 14, 0, [101, 101, 110, 110, 101], some 82⟩ _) (by decide) ?_; intro W14 hm14 hb14 hz14; have M14 : Hid (MS W14 w.heap.size (fTable.take 14)) := hm14; have B14 : Hid (Below w.heap.size w W14) := B13.out.trans hb14; clear hm14 hb14 hz14 M13 B13))
  refine (rd_mk 15 0 _).mono ?_
  rintro e w14 ⟨rfl, rfl⟩
  obtain ⟨hm14, hf14⟩ := mk_fn M14.out [114, 101, 102] [101] 15 0
  have M14 : Hid (MS ((W14.alloc (.cells #[.int .i64 15] 3)).alloc (.cells #[.int .i64 0] 3)) w.heap.size (fTable.take 14)) := hm14
  have B14 : Hid (Below w.heap.size w ((W14.alloc (.cells #[.int .i64 15] 3)).alloc (.cells #[.int .i64 0] 3))) := (B14.out.alloc B14.out.size _).alloc (by have := B14.out.size; simp; omega) _
  clear hm14
  go_wp2_with (first | (refine wpList_ins _ rfl _ _ _ rfl w.heap.size (fTable.take 14) ⟨[114, 101, 102], 15, 0, [101], none⟩ rfl M14.out rfl _ rfl hf14 (by decide) ?_; intro W15 hm15 hb15 hz15; have M15 : Hid (MS W15 w.heap.size (fTable.take 15)) := hm15; have B15 : Hid (Below w.heap.size w W15) := B14.out.trans hb15; clear hm15 hb15 hz15 M14 B14))
  refine (rd_mk 16 0 _).mono ?_
  rintro e w15 ⟨rfl, rfl⟩
  obtain ⟨hm15, hf15⟩ := mk_fn M15.out [103, 101, 116] [101] 16 0
  have M15 : Hid (MS ((W15.alloc (.cells #[.int .i64 16] 3)).alloc (.cells #[.int .i64 0] 3)) w.heap.size (fTable.take 15)) := hm15
  have B15 : Hid (Below w.heap.size w ((W15.alloc (.cells #[.int .i64 16] 3)).alloc (.cells #[.int .i64 0] 3))) := (B15.out.alloc B15.out.size _).alloc (by have := B15.out.size; simp; omega) _
  clear hm15
  go_wp2_with (first | (refine wpList_ins _ rfl _ _ _ rfl w.heap.size (fTable.take 15) ⟨[103, 101, 116], 16, 0, [101], none⟩ rfl M15.out rfl _ rfl hf15 (by decide) ?_; intro W16 hm16 hb16 hz16; have M16 : Hid (MS W16 w.heap.size (fTable.take 16)) := hm16; have B16 : Hid (Below w.heap.size w W16) := B15.out.trans hb16; clear hm16 hb16 hz16 M15 B15))
  refine (rd_mk 17 0 _).mono ?_
  rintro e w16 ⟨rfl, rfl⟩
  obtain ⟨hm16, hf16⟩ := mk_fn M16.out [115, 101, 116] [101, 101] 17 0
  have M16 : Hid (MS ((W16.alloc (.cells #[.int .i64 17] 3)).alloc (.cells #[.int .i64 0] 3)) w.heap.size (fTable.take 16)) := hm16
  have B16 : Hid (Below w.heap.size w ((W16.alloc (.cells #[.int .i64 17] 3)).alloc (.cells #[.int .i64 0] 3))) := (B16.out.alloc B16.out.size _).alloc (by have := B16.out.size; simp; omega) _
  clear hm16
  go_wp2_with (first | (refine wpList_ins _ rfl _ _ _ rfl w.heap.size (fTable.take 16) ⟨[115, 101, 116], 17, 0, [101, 101], none⟩ rfl M16.out rfl _ rfl hf16 (by decide) ?_; intro W17 hm17 hb17 hz17; have M17 : Hid (MS W17 w.heap.size (fTable.take 17)) := hm17; have B17 : Hid (Below w.heap.size w W17) := B16.out.trans hb17; clear hm17 hb17 hz17 M16 B16))
  refine (rd_mk 18 0 _).mono ?_
  rintro e w17 ⟨rfl, rfl⟩
  obtain ⟨hm17, hf17⟩ := mk_fn M17.out [114, 97, 105, 115, 101] [101] 18 0
  have M17 : Hid (MS ((W17.alloc (.cells #[.int .i64 18] 3)).alloc (.cells #[.int .i64 0] 3)) w.heap.size (fTable.take 17)) := hm17
  have B17 : Hid (Below w.heap.size w ((W17.alloc (.cells #[.int .i64 18] 3)).alloc (.cells #[.int .i64 0] 3))) := (B17.out.alloc B17.out.size _).alloc (by have := B17.out.size; simp; omega) _
  clear hm17
  go_wp2_with (first | (refine wpList_ins _ rfl _ _ _ rfl w.heap.size (fTable.take 17) ⟨[114, 97, 105, 115, 101], 18, 0, [101], none⟩ rfl M17.out rfl _ rfl hf17 (by decide) ?_; intro W18 hm18 hb18 hz18; have M18 : Hid (MS W18 w.heap.size (fTable.take 18)) := hm18; have B18 : Hid (Below w.heap.size w W18) := B17.out.trans hb18; clear hm18 hb18 hz18 M17 B17) | (refine wpList_ins _ rfl _ _ _ rfl w.heap.size (fTable.take 18) ⟨[116, 114, 121], 19, 0, [101, 110, 101], some 83⟩ rfl M18.out rfl _ rfl (rfl : FnR _ _ ⟨[116, 114, 121], 19, 0, [101, 110, 101], some 83⟩ _) (by decide) ?_; intro W19 hm19 hb19 hz19; have M19 : Hid (MS W19 w.heap.size (fTable.take 19)) := hm19; have B19 : Hid (Below w.heap.size w W19) := B18.out.trans hb19; clear hm19 hb19 hz19 M18 B18))
  go_ret
  exact ⟨w.heap.size, rfl, M19.out, B19.out⟩
end

section
open Go.ChangeShapes Go.WideShapes Go.ChangeAt Go.RowKit

def tabE : List FRow → ByteArray → Int × Int × ByteArray
  | [], _ => (0, 0, ⟨#[]⟩)
  | r :: rs, key => if (key.toList == r.key) = true then (r.kind, r.op, ⟨r.form.toArray⟩) else tabE rs key

theorem formE_tab (key : ByteArray) : formE key = tabE fTable key := rfl

theorem same_key (key : ByteArray) (k : List UInt8) : (key.toList == k) = true ↔ Value.string key = Value.string ⟨k.toArray⟩ := by
  rw [beq_iff_eq, Lib.toList_data]
  constructor
  · intro h
    rw [data_ext (b := ⟨k.toArray⟩) h]
  · intro h
    simp only [Value.string.injEq] at h
    rw [h]

/-- A key is looked up in the rows. -/
theorem rows_find {w : World} {M : Nat} (key : ByteArray) : ∀ (rs : List FRow) (es : List MapEntry) (i : Nat), RowsR w M rs es →
    (Instr.findNow .string (.string key) es i = some none ∧ tabE rs key = (0, 0, ⟨#[]⟩)) ∨ ∃ j r v, Instr.findNow .string (.string key) es i = some (some (j, v)) ∧ r ∈ rs ∧ key.data.toList = r.key ∧ FnR w M r v ∧ tabE rs key = (r.kind, r.op, ⟨r.form.toArray⟩)
  | [], [], i, _ => Or.inl ⟨rfl, rfl⟩
  | r :: rs, e :: es, i, h => by
    have hk : MapKept.IsKey .string (Value.string key) := by simp [MapKept.IsKey]
    have he : MapKept.IsKey .string e.key := by rw [h.1.1]; simp [MapKept.IsKey]
    obtain ⟨b, hb, hiff⟩ := MapKept.sameNow_of_keys hk he
    rw [h.1.1, ← same_key] at hiff
    cases b with
    | true =>
      have hq := hiff.1 rfl
      refine Or.inr ⟨i, r, e.val, by simp [Instr.findNow, hb], List.mem_cons_self, ?_, h.1.2, by rw [tabE, if_pos hq]⟩
      rw [beq_iff_eq, Lib.toList_data] at hq
      exact hq
    | false =>
      have hq : ¬ (key.toList == r.key) = true := fun q => by have := hiff.2 q; cases this
      rcases rows_find key rs es (i + 1) h.2 with ⟨h1, h2⟩ | ⟨j, r', v, h1, h2, h3, h4, h5⟩
      · exact Or.inl ⟨by simp [Instr.findNow, hb, h1], by rw [tabE, if_neg hq]; exact h2⟩
      · exact Or.inr ⟨j, r', v, by simp [Instr.findNow, hb, h1], List.mem_cons_of_mem _ h2, h3, h4, by rw [tabE, if_neg hq]; exact h5⟩
  | [], _ :: _, _, h => h.elim
  | _ :: _, [], _, h => h.elim

/-- What a look-up in the map of the forms tells. -/
theorem map_look {w0 : World} {M : Nat} (hms : MS w0 M fTable) (key : ByteArray) :
    ((formE key).1 = 0 ∧ ∀ w, Below w0.heap.size w0 w → (Instr.lookup 90 (.map (some M)) (.string key) true).run Tryz.prog w = .ok (.tuple #[.nilFunc, .bool false]) w) ∨
    ∃ r v, r ∈ fTable ∧ key.data.toList = r.key ∧ FnR w0 M r v ∧ formE key = (r.kind, r.op, ⟨r.form.toArray⟩) ∧ ∀ w, Below w0.heap.size w0 w → (Instr.lookup 90 (.map (some M)) (.string key) true).run Tryz.prog w = .ok (.tuple #[v, .bool true]) w := by
  have hlt := hms.lt
  obtain ⟨es, c, hm, hr⟩ := hms
  have hm' : ∀ w, Below w0.heap.size w0 w → w.heap[M]? = some (.map es.toArray c) := fun w hb => (hb.block M hlt).trans hm
  have hc : ∀ em w, (Instr.checkKey em 10000 9 (.string key)).run Tryz.prog w = .ok () w := fun em w => MapKept.run_checkKey (k := .string key) Tryz.underlying9 (by simp [MapKept.IsKey]) em 9999
  rcases rows_find key fTable es 0 hr with ⟨h1, h2⟩ | ⟨j, r, v, h1, h2, h3, h4, h5⟩
  · refine Or.inl ⟨by rw [formE_tab, h2], fun w hb => ?_⟩
    simp [Instr.lookup, run_underlying Tryz.underlying90, MapKept.run_getObj_map (hm' w hb), hc, MapKept.run_findKey Tryz.underlying9 h1, Result.andThen]
  · refine Or.inr ⟨r, v, h2, h3, h4, by rw [formE_tab, h5], fun w hb => ?_⟩
    simp [Instr.lookup, run_underlying Tryz.underlying90, MapKept.run_getObj_map (hm' w hb), hc, MapKept.run_findKey Tryz.underlying9 h1, Result.andThen]

theorem table_kinds : ∀ r ∈ fTable, r.kind ≠ 0 ∧ (∃ b bs, r.key = b :: bs ∧ 97 ≤ b.toNat ∧ b.toNat ≤ 122) := by
  intro r hr
  simp only [fTable, List.mem_cons, List.not_mem_nil, or_false] at hr
  rcases hr with rfl | rfl | rfl | rfl | rfl | rfl | rfl | rfl | rfl | rfl | rfl | rfl | rfl | rfl | rfl | rfl | rfl | rfl | rfl <;> exact ⟨by decide, _, _, rfl, by decide, by decide⟩

/-- What is no word is no key of a form. -/
theorem formE_word {key : ByteArray} {w : World} {M : Nat} (h : ¬ (formE key).1 = 0) (hms : MS w M fTable) : lowA (bAt key 0) := by
  rcases map_look hms key with ⟨h1, _⟩ | ⟨r, v, hr, hk, _⟩
  · exact absurd h1 h
  · obtain ⟨_, b, bs, hb, h1, h2⟩ := table_kinds r hr
    rw [hb] at hk
    have hsz : 0 < key.size := by
      have : key.data.toList.length = key.size := by rw [Array.length_toList]; rfl
      rw [hk] at this
      simp at this
      omega
    have h0 : key[0] = b := by
      have e : key.data.toList[0]? = some b := by rw [hk]; rfl
      rw [Array.getElem?_toList, Array.getElem?_eq_getElem hsz] at e
      exact Option.some.inj e
    show 97 ≤ bAt key 0 ∧ bAt key 0 ≤ 122
    rw [bAt_in hsz, h0]
    exact ⟨h1, h2⟩

/-- Each function of the map reads its form. -/
theorem form_of {w0 : World} {g M : Nat} {ts : List Tok} {E : Int} {f : Nat} {s : ByteArray} {r : FRow} {v : Value} (hr : r ∈ fTable) (hv : FnR w0 M r v) (hc : ts.length ≤ 4000) (hs : s.size ≤ 4000) (hk : ∀ i, i < ts.length → TokOk s (ts.getD i noTok)) (ih : ExprI (Below w0.heap.size w0) w0.heap.size g M ts E f) :
    ∃ (F : FuncId) (cap : Array Value), v = .func (.func F) #[] cap ∧ (F = 78 ∨ F = 80 ∨ F = 81 ∨ F = 82 ∨ F = 83 ∨ F = 105) ∧ FormI (Below w0.heap.size w0) w0.heap.size g M ts E f F (#[.pointer (some ⟨w0.heap.size, 0, none⟩)] ++ cap) r.kind r.op r.form := by
  have hT : ∀ a b, Below w0.heap.size w0 a → Below w0.heap.size a b → Below w0.heap.size w0 b := fun a b h1 h2 => h1.trans h2
  have kids : ∀ (K op : Int) (form : List UInt8) (key : List UInt8), FnR w0 M ⟨key, K, op, form, none⟩ v → form = List.replicate (arN K) 101 → arN K ≤ 3 → ∃ (F : FuncId) (cap : Array Value), v = .func (.func F) #[] cap ∧ (F = 78 ∨ F = 80 ∨ F = 81 ∨ F = 82 ∨ F = 83 ∨ F = 105) ∧ FormI (Below w0.heap.size w0) w0.heap.size g M ts E f F (#[.pointer (some ⟨w0.heap.size, 0, none⟩)] ++ cap) K op form := by
    rintro K op form key ⟨kb, ob, h1, h2, h3, _, _⟩ rfl h3'
    refine ⟨_, _, h1, Or.inr (Or.inr (Or.inr (Or.inr (Or.inr rfl)))), ?_⟩
    exact rd_readKids hT ih (fun w hw => ⟨(World.cell?_of_block (hw.block kb (cell_lt' h2))).trans h2, (World.cell?_of_block (hw.block ob (cell_lt' h3))).trans h3⟩) h3'
  simp only [fTable, List.mem_cons, List.not_mem_nil, or_false] at hr
  rcases hr with rfl | rfl | rfl | rfl | rfl | rfl | rfl | rfl | rfl | rfl | rfl | rfl | rfl | rfl | rfl | rfl | rfl | rfl | rfl
  · exact ⟨_, #[], hv, Or.inl rfl, rd_readFun hT hc hs hk ih⟩
  · exact kids _ _ _ _ hv rfl (by decide)
  · exact ⟨_, #[], hv, Or.inr (Or.inl rfl), rd_readLet hT hc hs hk ih⟩
  · exact ⟨_, #[], hv, Or.inr (Or.inr (Or.inl rfl)), rd_readRec hT hc hs hk ih⟩
  · exact kids _ _ _ _ hv rfl (by decide)
  · exact kids _ _ _ _ hv rfl (by decide)
  · exact kids _ _ _ _ hv rfl (by decide)
  · exact kids _ _ _ _ hv rfl (by decide)
  · exact kids _ _ _ _ hv rfl (by decide)
  · exact kids _ _ _ _ hv rfl (by decide)
  · exact kids _ _ _ _ hv rfl (by decide)
  · exact kids _ _ _ _ hv rfl (by decide)
  · exact kids _ _ _ _ hv rfl (by decide)
  · exact ⟨_, #[], hv, Or.inr (Or.inr (Or.inr (Or.inl rfl))), rd_readMatch hT hc hs hk ih⟩
  · exact kids _ _ _ _ hv rfl (by decide)
  · exact kids _ _ _ _ hv rfl (by decide)
  · exact kids _ _ _ _ hv rfl (by decide)
  · exact kids _ _ _ _ hv rfl (by decide)
  · exact ⟨_, #[], hv, Or.inr (Or.inr (Or.inr (Or.inr (Or.inl rfl)))), rd_readTry hT hc hs hk ih⟩
end

section
open Go.ChangeShapes Go.WideShapes Go.ChangeAt Go.RowKit

theorem call_enter {P : Program} {f : FuncId} {fn : Func} (hf : P.funcs[f]? = some fn) (hname : (fn.name == "runtime.NumGoroutine") = false) (hbody : fn.body.isNone = false) (args : Array Value) (w : World) : (callFunc f args).run P w = .ok (.enter f args) w := by
  have hn : ¬ fn.name = "runtime.NumGoroutine" := by simpa using hname
  have hb : ¬ fn.body = none := fun h => by rw [h] at hbody; simp at hbody
  simp [callFunc, hf, hn, hb]

/-- Behind an opening bracket: the node that comes, and the nodes ahead of it. -/
def brE (ts : List Tok) (E : Int) (f i : Nat) (l : List Nod) : Except Flt (Nat × Nod × List Nod) := match takeE ts E (i + 1) 3 with
  | .error e => .error e
  | .ok (j, key) =>
    if (formE key.text).1 = 0 then .error (3, key.place)
    else match argsE ts E (exprE ts E f) (formE key.text).2.2.data.toList j ⟨(formE key.text).1, 0, 0, 0, (formE key.text).2.1, ByteArray.empty, ByteArray.empty⟩ l [] with
      | .error e => .error e
      | .ok (j2, n, l2, ks) => match takeE ts E j2 2 with
        | .error e => .error e
        | .ok (j3, _) => .ok (j3, withKids n ks, l2)

/-- What a node that is read ends with. -/
def DOut (T : World → Prop) (R g fm : Nat) (ts : List Tok) (E : Int) (w : World) (v : Value) (r : Except Flt (Nat × Nod × List Nod)) (e : Ending) (w' : World) : Prop := match r with
  | .ok (j, n, m) => e = .returned (nodAgg n) ∧ ∃ v', RS T R g fm ts E w' j v' m ∧ Moved R w w' v v'
  | .error (c, q) => e = .panicked [fltV c q] ∧ Below R w w'

theorem aout_case {T : World → Prop} {R g fm : Nat} {ts : List Tok} {E : Int} {w w' : World} {v : Value} {r : Except Flt (Nat × Nod × List Nod × List Int)} {e : Ending} (h : AOut T R g fm ts E w v r e w') :
    (∃ j n m ks v', r = .ok (j, n, m, ks) ∧ e = .returned (nodAgg (withKids n ks)) ∧ RS T R g fm ts E w' j v' m ∧ Moved R w w' v v') ∨ (∃ c q, r = .error (c, q) ∧ e = .panicked [fltV c q] ∧ Below R w w') := by
  rcases r with ⟨c, q⟩ | ⟨j, n, m, ks⟩
  · exact Or.inr ⟨c, q, rfl, h⟩
  · obtain ⟨h1, v', h2, h3⟩ := h
    exact Or.inl ⟨j, n, m, ks, v', rfl, h1, h2, h3⟩

/-- Since w: the result's place is there yet; the reader has come so far. -/
structure GS (T : World → Prop) (R g fm : Nat) (ts : List Tok) (E : Int) (w : World) (v : Value) (W : World) (j : Nat) (vx : Value) (L : List Nod) (qr : Array Value) : Prop where
  rs : RS T R g fm ts E W j vx L
  mv : Moved R w W v vx
  qq : W.heap[w.heap.size]? = some (.cells qr 58 (0, 0))
  far : ∀ k, vx.ownBlock = some k → k ≠ w.heap.size
  rw : R < w.heap.size

section
variable {T : World → Prop} {R g fm : Nat} {ts : List Tok} {E : Int} {w W W' : World} {v vx v' : Value} {j j' : Nat} {L L' : List Nod} {qr : Array Value}

theorem GS.size (h : GS T R g fm ts E w v W j vx L qr) : w.heap.size < W.heap.size := (Array.getElem?_eq_some_iff.1 h.qq).1

theorem GS.start (hT : ∀ a b, T a → Below R a b → T b) (h : RS T R g fm ts E w j v L) : GS T R g fm ts E w v (w.alloc (.cells qr 58)) j v L qr := by
  have hb : Below w.heap.size w (w.alloc (.cells qr 58)) := (Below.refl _ w).alloc (Nat.le_refl _) _
  exact ⟨h.below hT hb, Moved.of_below hb, heap_alloc_new w _, fun k hk => by have := (h.own.lt k hk).2; omega, h.lt⟩

theorem GS.call (h : GS T R g fm ts E w v W j vx L qr) (hr : RS T R g fm ts E W' j' v' L') (hm : Moved R W W' vx v') : GS T R g fm ts E w v W' j' v' L' qr := by
  have hs := h.size
  have hw := h.rw
  refine ⟨hr, h.mv.trans hm, (hm.block _ hs (by omega) (fun e => h.far _ e.symm rfl)).trans h.qq, fun k hk => ?_, hw⟩
  rcases hm.new k hk with h1 | h1
  · omega
  · exact h.far k h1

theorem GS.below (hT : ∀ a b, T a → Below R a b → T b) (h : GS T R g fm ts E w v W j vx L qr) (hb : Below W.heap.size W W') : GS T R g fm ts E w v W' j vx L qr := h.call (h.rs.below hT hb) (Moved.of_below hb)

theorem GS.alloc (hT : ∀ a b, T a → Below R a b → T b) (h : GS T R g fm ts E w v W j vx L qr) (o : Obj) : GS T R g fm ts E w v (W.alloc o) j vx L qr := h.below hT ((Below.refl _ W).alloc (Nat.le_refl _) o)

theorem GS.setQ (hT : ∀ a b, T a → Below R a b → T b) (h : GS T R g fm ts E w v W j vx L qr) (k : Nat) (y : Value) : GS T R g fm ts E w v (W.setCell ⟨w.heap.size, k, none⟩ y) j vx L (qr.setIfInBounds k y) := by
  have hw := h.rw
  have hb : Below w.heap.size W (W.setCell ⟨w.heap.size, k, none⟩ y) := (Below.refl _ W).setCell (p := ⟨w.heap.size, k, none⟩) (Nat.le_refl _) y
  have hbR : Below R W (W.setCell ⟨w.heap.size, k, none⟩ y) := hb.mono (by omega)
  obtain ⟨a, c, hr, h1, h2⟩ := h.rs.row
  refine ⟨⟨⟨a, c, (hb.block R hw).trans hr, h1, h2⟩, toks_kept h.rs.tok h.rs.glt hbR, h.rs.glt, ownsRow_setCell_other h.rs.own (fun e => h.far _ e rfl) y, hT _ _ h.rs.tab hbR, h.rs.le⟩, ⟨hb.os.trans h.mv.os, hb.tape.trans h.mv.tape, hb.output.trans h.mv.output, Nat.le_trans h.mv.size hb.size, fun k hk hr hv => (hb.block k hk).trans (h.mv.block k hk hr hv), h.mv.new⟩, heap_setCell_same W _ k _ _ y h.qq, h.far, hw⟩

theorem GS.fin (hT : ∀ a b, T a → Below R a b → T b) (h : GS T R g fm ts E w v W j vx L nodZ) (y0 y1 y2 y3 y4 y5 y6 : Value) :
    GS T R g fm ts E w v (put7 W w.heap.size y0 y1 y2 y3 y4 y5 y6) j vx L #[y0, y1, y2, y3, y4, y5, y6] :=
  ((((((h.setQ hT 0 y0).setQ hT 1 y1).setQ hT 2 y2).setQ hT 3 y3).setQ hT 4 y4).setQ hT 5 y5).setQ hT 6 y6

theorem GS.low (h : GS T R g fm ts E w v W j vx L qr) (hv : ∀ k, v.ownBlock = some k → R < k) : Below R w W := h.mv.low hv h.rw
end

set_option maxHeartbeats 2000000 in
set_option maxRecDepth 20000 in
theorem rd_brackets {w0 : World} {g M : Nat} {ts : List Tok} {E : Int} {f : Nat} {s : ByteArray} (hms : MS w0 M fTable) (hc : ts.length ≤ 4000) (hs : s.size ≤ 4000) (hk : ∀ i, i < ts.length → TokOk s (ts.getD i noTok)) (ih : ExprI (Below w0.heap.size w0) w0.heap.size g M ts E f)
    (w : World) (i : Nat) (v : Value) (l : List Nod) (h : RS (Below w0.heap.size w0) w0.heap.size g M ts E w (i + 1) v l) (hf : ts.length + 1 ≤ i + (f + 1)) (hl : l.length ≤ i) :
    Calls Tryz.prog 119 #[.pointer (some ⟨w0.heap.size, 0, none⟩)] w fun e w' => DOut (Below w0.heap.size w0) w0.heap.size g M ts E w v (brE ts E f i l) e w' := by
  obtain ⟨RB, hRB⟩ : ∃ RB, brE ts E f i l = RB := ⟨_, rfl⟩
  rw [hRB]
  have HRB : Hid (brE ts E f i l = RB) := hRB
  have HT : Hid (∀ a b, Below w0.heap.size w0 a → Below w0.heap.size a b → Below w0.heap.size w0 b) := fun a b h1 h2 => h1.trans h2
  have HMS : Hid (MS w0 M fTable) := hms
  have HC : Hid (ts.length ≤ 4000) := hc
  have HS : Hid (s.size ≤ 4000) := hs
  have HK : Hid (∀ i, i < ts.length → TokOk s (ts.getD i noTok)) := hk
  have IH : Hid (ExprI (Below w0.heap.size w0) w0.heap.size g M ts E f) := ih
  have HV : Hid (∀ k, v.ownBlock = some k → w0.heap.size < k) := h.far
  have HF : Hid (ts.length + 1 ≤ i + (f + 1) ∧ l.length ≤ i) := ⟨hf, hl⟩
  have G0 : Hid (GS (Below w0.heap.size w0) w0.heap.size g M ts E w v (w.alloc (.cells nodZ 58)) (i + 1) v l nodZ) := GS.start HT.out h
  have hlt := h.lt
  clear hRB hms hc hs hk ih hf hl h
  by_cases hi : i + 1 < ts.length
  · have HTK : Hid (Calls Tryz.prog 107 #[.pointer (some ⟨w0.heap.size, 0, none⟩)] (w.alloc (.cells nodZ 58)) fun e w' => e = .returned (tokA (ts.getD (i + 1) noTok)) ∧ RS (Below w0.heap.size w0) w0.heap.size g M ts E w' (i + 1 + 1) v l ∧ Moved w0.heap.size (w.alloc (.cells nodZ 58)) w' v v) := rd_take HT.out G0.out.rs hi HC.out
    have HB1 := HRB.out
    rw [brE] at HB1
    have HOK := HK.out (i + 1) hi
    have htk : takeE ts E (i + 1) 3 = if (ts.getD (i + 1) noTok).kind = 3 then .ok (i + 1 + 1, ts.getD (i + 1) noTok) else .error (3, (ts.getD (i + 1) noTok).place) := by
      rw [takeE, if_pos hi]
    rw [htk] at HB1
    clear htk HRB
    generalize ts.getD (i + 1) noTok = key at *
    obtain ⟨kd, ktx, ktn, ktp⟩ := key
    have HB2 : (if (formE ktx).1 = 0 then (.error (3, ktp)) else match argsE ts E (exprE ts E f) (formE ktx).2.2.data.toList (i + 1 + 1) ⟨(formE ktx).1, 0, 0, 0, (formE ktx).2.1, ByteArray.empty, ByteArray.empty⟩ l [] with
      | .error e => (.error e : Except Flt (Nat × Nod × List Nod))
      | .ok (j2, n, l2, ks) => match takeE ts E j2 2 with
        | .error e => .error e
        | .ok (j3, _) => .ok (j3, withKids n ks, l2)) = RB := by
      by_cases hk3 : kd = 3
      · rw [if_pos hk3] at HB1
        exact HB1
      · rw [if_neg hk3] at HB1
        have h0 : (formE ktx).1 = 0 := by
          rcases Decidable.em ((formE ktx).1 = 0) with h | h
          · exact h
          · have hlow := formE_word h HMS.out
            rcases HOK.1 with ⟨_, e⟩ | ⟨_, e⟩ | ⟨e, _⟩ | ⟨_, _, e⟩
            · simp only at e; subst e; exact absurd hlow (by decide)
            · simp only at e; subst e; exact absurd hlow (by decide)
            · exact absurd e hk3
            · simp only [dig9, lowA] at e hlow; omega
        rw [if_pos h0]
        exact HB1
    have HB3 : Hid (_) := HB2
    clear HB1 HB2 HOK
    go_enter Tryz.func119, Tryz.ntmps119
    go_wp2_with fail
    refine HTK.out.mono ?_
    rintro e w1 ⟨rfl, hr1, hm1⟩
    have G1 : Hid (GS (Below w0.heap.size w0) w0.heap.size g M ts E w v (w1.alloc (.cells #[.int .i64 kd, .string ktx, .int .i64 ktn, .int .i64 ktp] 66)) (i + 1 + 1) v l nodZ) := (G0.out.call hr1 hm1).alloc HT.out _
    obtain ⟨a1, c1, hrow, _, _⟩ := hr1.row
    obtain ⟨r0, r1, r2, r3, r4⟩ := rd_row hrow
    have hlt1 := hr1.lt
    have HLK := map_look HMS.out ktx
    have HTB : ∀ n, Below w0.heap.size w0 ((w1.alloc (.cells #[.int .i64 kd, .string ktx, .int .i64 ktn, .int .i64 ktp] 66)).drewN n) := fun n => below_drew_n G1.out.rs.tab n
    clear hr1 hm1 HTK G0 hrow
    rcases HLK with ⟨h0, hlk'⟩ | ⟨r, fv, hr, hkk, hfn, hfe, hlk'⟩
    · have hlk := fun n => hlk' _ (HTB n)
      clear hlk' HTB
      have HE : Hid (RB = .error (3, ktp)) := by
        have h := HB3.out
        rw [if_pos h0] at h
        exact h.symm
      clear HB3 h0
      go_wp2
      go_quiet (fail)
      go_wp2
      exact ⟨rfl, by rw [HE.out]; exact ⟨rfl, below_drew_n (G1.out.low HV.out) _⟩⟩
    · have hlk := fun n => hlk' _ (HTB n)
      clear hlk' HTB
      obtain ⟨F, cap, rfl, hF, hform⟩ := form_of hr hfn HC.out HS.out HK.out IH.out
      obtain ⟨hknz, _⟩ := table_kinds r hr
      have HB4 := HB3.out
      rw [hfe] at HB4
      simp only at HB4
      rw [if_neg hknz] at HB4
      have HFM : Hid (FormI (Below w0.heap.size w0) w0.heap.size g M ts E f F (#[.pointer (some ⟨w0.heap.size, 0, none⟩)] ++ cap) r.kind r.op r.form) := hform
      obtain ⟨RA, hRA⟩ : ∃ RA, argsE ts E (exprE ts E f) r.form (i + 1 + 1) ⟨r.kind, 0, 0, 0, r.op, ByteArray.empty, ByteArray.empty⟩ l [] = RA := ⟨_, rfl⟩
      have HRA : Hid (argsE ts E (exprE ts E f) r.form (i + 1 + 1) ⟨r.kind, 0, 0, 0, r.op, ByteArray.empty, ByteArray.empty⟩ l [] = RA) := hRA
      rw [hRA] at HB4
      have HB5 : Hid (_) := HB4
      have hcf : ∀ (args : Array Value) (w : World), (callFunc F args).run Tryz.prog w = .ok (.enter F args) w := by
        rcases hF with rfl | rfl | rfl | rfl | rfl | rfl
        · exact call_enter Tryz.func78 (by kernel_rfl) (by kernel_rfl)
        · exact call_enter Tryz.func80 (by kernel_rfl) (by kernel_rfl)
        · exact call_enter Tryz.func81 (by kernel_rfl) (by kernel_rfl)
        · exact call_enter Tryz.func82 (by kernel_rfl) (by kernel_rfl)
        · exact call_enter Tryz.func83 (by kernel_rfl) (by kernel_rfl)
        · exact call_enter Tryz.func105 (by kernel_rfl) (by kernel_rfl)
      clear hr hkk hfn hfe hknz HB4 hRA hform HB3 hF
      go_wp2
      go_quiet (fail)
      go_wp2_with fail
      have G2 : Hid (GS (Below w0.heap.size w0) w0.heap.size g M ts E w v ((w1.alloc (.cells #[.int .i64 kd, .string ktx, .int .i64 ktn, .int .i64 ktp] 66)).drewN nq) (i + 1 + 1) v l nodZ) := G1.out.below HT.out (below_drew_n (Below.refl _ _) _)
      refine (HFM.out _ (i + 1 + 1) v l G2.out.rs (by have := HF.out; omega) (by have := HF.out; omega)).mono ?_
      rintro e w3 he
      rw [HRA.out] at he
      obtain ⟨j3, n3, m3, ks3, v3, hRA3, rfl, hr3, hm3⟩ | ⟨c3, q3, hRA3, rfl, hb3⟩ := aout_case he
      · have G3 : Hid (GS (Below w0.heap.size w0) w0.heap.size g M ts E w v w3 j3 v3 m3 nodZ) := G2.out.call hr3 hm3
        have HB6 := HB5.out
        rw [hRA3] at HB6
        simp only at HB6
        have HB7 : Hid (_) := HB6
        clear he hRA3 hr3 hm3 HB6 HB5 G2 G1 HFM r0 r1 r2 r3 r4 hlk hcf HRA
        obtain ⟨nd, hnd⟩ : ∃ nd, withKids n3 ks3 = nd := ⟨_, rfl⟩
        rw [hnd] at HB7 ⊢
        clear hnd
        obtain ⟨y0, y1, y2, y3, y4, y5, y6⟩ := nd
        unfold nodAgg
        have hv3 : ∀ k, v3.ownBlock = some k → k < w3.heap.size := fun k hk => (G3.out.rs.own.lt k hk).2
        have HV3 : Hid (∀ k, v3.ownBlock = some k → k < w3.heap.size) := hv3
        have hR3 := G3.out.rs.lt
        have G4 : Hid (GS (Below w0.heap.size w0) w0.heap.size g M ts E w v (w3.alloc (.cells #[.int .i64 y0, .int .i64 y1, .int .i64 y2, .int .i64 y3, .int .i64 y4, .string y5, .string y6] 58)) j3 v3 m3 nodZ) := G3.out.alloc HT.out _
        clear hv3
        by_cases hj : j3 < ts.length
        · have HTK : Hid (Calls Tryz.prog 107 #[.pointer (some ⟨w0.heap.size, 0, none⟩)] (w3.alloc (.cells #[.int .i64 y0, .int .i64 y1, .int .i64 y2, .int .i64 y3, .int .i64 y4, .string y5, .string y6] 58)) fun e w' => e = .returned (tokA (ts.getD j3 noTok)) ∧ RS (Below w0.heap.size w0) w0.heap.size g M ts E w' (j3 + 1) v3 m3 ∧ Moved w0.heap.size (w3.alloc (.cells #[.int .i64 y0, .int .i64 y1, .int .i64 y2, .int .i64 y3, .int .i64 y4, .string y5, .string y6] 58)) w' v3 v3) := rd_take HT.out G4.out.rs hj HC.out
          have HB8 := HB7.out
          rw [takeE, if_pos hj] at HB8
          generalize ts.getD j3 noTok = tk at *
          obtain ⟨kd5, tx5, tn5, tp5⟩ := tk
          simp only at HB8
          have HB9 : Hid (_) := HB8
          clear HB8 HB7
          go_wp2_with fail
          refine HTK.out.mono ?_
          rintro e w5 ⟨rfl, hr5, hm5⟩
          have G5a : Hid (GS (Below w0.heap.size w0) w0.heap.size g M ts E w v w5 (j3 + 1) v3 m3 nodZ) := G4.out.call hr5 hm5
          have G5 : Hid (GS (Below w0.heap.size w0) w0.heap.size g M ts E w v (w5.alloc (.cells #[.int .i64 kd5, .string tx5, .int .i64 tn5, .int .i64 tp5] 66)) (j3 + 1) v3 m3 nodZ) := (G4.out.call hr5 hm5).alloc HT.out _
          have hn5 : w5.heap[w3.heap.size]? = some (.cells #[.int .i64 y0, .int .i64 y1, .int .i64 y2, .int .i64 y3, .int .i64 y4, .string y5, .string y6] 58 (0, 0)) := (hm5.block w3.heap.size (by simp) (by omega) (fun e => by have := HV3.out _ e.symm; omega)).trans (heap_alloc_new w3 _)
          have z5 : w3.heap.size < w5.heap.size := (Array.getElem?_eq_some_iff.1 hn5).1
          obtain ⟨n0, n1, n2, n3', n4, n5, n6, n7⟩ := node_cells hn5
          have zq := (G4.out.call hr5 hm5).size
          obtain ⟨q0, q1, q2, q3, q4, q5, q6, q7⟩ := node_cells (G4.out.call hr5 hm5).qq
          clear hr5 hm5 hn5 HTK G4 G3
          by_cases hk5 : kd5 = 2
          · have HE : Hid (RB = .ok (j3 + 1, ⟨y0, y1, y2, y3, y4, y5, y6⟩, m3)) := by
              have h := HB9.out
              rw [if_pos hk5] at h
              exact h.symm
            clear HB9
            subst hk5
            go_wp2
            have hfin := (G5a.out.fin HT.out (.int .i64 y0) (.int .i64 y1) (.int .i64 y2) (.int .i64 y3) (.int .i64 y4) (.string y5) (.string y6)).alloc HT.out (.cells #[.int .i64 2, .string tx5, .int .i64 tn5, .int .i64 tp5] 66)
            refine bodyPost_ret (results_cell_row rfl _ _ w.heap.size 58 #[.int .i64 y0, .int .i64 y1, .int .i64 y2, .int .i64 y3, .int .i64 y4, .string y5, .string y6] (0, 0) _ rfl hfin.qq Tryz.underlying58 rfl (by kernel_rfl)) rfl ?_
            rw [HE.out]
            exact ⟨rfl, _, hfin.rs, hfin.mv⟩
          · have HE : Hid (RB = .error (3, tp5)) := by
              have h := HB9.out
              rw [if_neg hk5] at h
              exact h.symm
            have HBL : Hid (Below w0.heap.size w (w5.alloc (.cells #[.int .i64 kd5, .string tx5, .int .i64 tn5, .int .i64 tp5] 66))) := G5.out.low HV.out
            clear HB9
            go_wp2
            exact ⟨rfl, by rw [HE.out]; exact ⟨rfl, HBL.out⟩⟩
        · have HTK : Hid (Calls Tryz.prog 107 #[.pointer (some ⟨w0.heap.size, 0, none⟩)] (w3.alloc (.cells #[.int .i64 y0, .int .i64 y1, .int .i64 y2, .int .i64 y3, .int .i64 y4, .string y5, .string y6] 58)) fun e w' => e = .panicked [fltV 2 E] ∧ Below (w3.alloc (.cells #[.int .i64 y0, .int .i64 y1, .int .i64 y2, .int .i64 y3, .int .i64 y4, .string y5, .string y6] 58)).heap.size (w3.alloc (.cells #[.int .i64 y0, .int .i64 y1, .int .i64 y2, .int .i64 y3, .int .i64 y4, .string y5, .string y6] 58)) w') := rd_take_end G4.out.rs hj
          have HE : Hid (RB = .error (2, E)) := by
            have h := HB7.out
            rw [takeE, if_neg hj] at h
            exact h.symm
          clear HB7
          go_wp2_with fail
          refine HTK.out.mono ?_
          rintro e w5 ⟨rfl, hb5⟩
          have HBL : Hid (Below w0.heap.size w w5) := (G4.out.low HV.out).trans (hb5.mono (by simp; omega))
          clear hb5 HTK
          go_wp2
          exact ⟨rfl, by rw [HE.out]; exact ⟨rfl, HBL.out⟩⟩
      · have HE : Hid (RB = .error (c3, q3)) := by
          have h := HB5.out
          rw [hRA3] at h
          exact h.symm
        have HBL : Hid (Below w0.heap.size w w3) := (G2.out.low HV.out).trans hb3
        clear he hRA3 hb3 HB5 HFM G1 G2 HRA r0 r1 r2 r3 r4 hlk hcf
        go_wp2
        exact ⟨rfl, by rw [HE.out]; exact ⟨rfl, HBL.out⟩⟩
  · have HTK : Hid (Calls Tryz.prog 107 #[.pointer (some ⟨w0.heap.size, 0, none⟩)] (w.alloc (.cells nodZ 58)) fun e w' => e = .panicked [fltV 2 E] ∧ Below (w.alloc (.cells nodZ 58)).heap.size (w.alloc (.cells nodZ 58)) w') := rd_take_end G0.out.rs hi
    have HE : Hid (RB = .error (2, E)) := by
      have h := HRB.out
      rw [brE, takeE, if_neg hi] at h
      exact h.symm
    clear HRB
    go_enter Tryz.func119, Tryz.ntmps119
    go_wp2_with fail
    refine HTK.out.mono ?_
    rintro e w1 ⟨rfl, hb1⟩
    have HBL : Hid (Below w0.heap.size w w1) := (G0.out.low HV.out).trans (hb1.mono (by simp; omega))
    clear hb1 HTK
    go_wp2
    exact ⟨rfl, by rw [HE.out]; exact ⟨rfl, HBL.out⟩⟩
end

section
open Go.ChangeShapes Go.WideShapes Go.ChangeAt Go.RowKit

/-- The node that begins with token i, and the nodes ahead of it. -/
def nodeE (ts : List Tok) (E : Int) (f i : Nat) (l : List Nod) : Except Flt (Nat × Nod × List Nod) :=
  if (ts.getD i noTok).kind = 4 then .ok (i + 1, ⟨2, 0, 0, 0, (ts.getD i noTok).n, ByteArray.empty, ByteArray.empty⟩, l)
  else if (ts.getD i noTok).kind = 3 then
    if (ts.getD i noTok).text.data.toList = [110, 105, 108] then .ok (i + 1, ⟨12, 0, 0, 0, 0, ByteArray.empty, ByteArray.empty⟩, l)
    else match nameE ts E i with
      | .ok (j, s) => .ok (j, ⟨1, 0, 0, 0, 0, s, ByteArray.empty⟩, l)
      | .error e => .error e
  else if (ts.getD i noTok).kind = 2 then .error (3, (ts.getD i noTok).place)
  else brE ts E f i l

/-- The node is put behind the others. -/
def exprOf (r : Except Flt (Nat × Nod × List Nod)) : Except Flt (Nat × List Nod) := match r with
  | .ok (j, n, m) => .ok (j, m ++ [n])
  | .error e => .error e

theorem exprE_node (ts : List Tok) (E : Int) (f i : Nat) (l : List Nod) (hi : i < ts.length) : exprE ts E (f + 1) i l = exprOf (nodeE ts E f i l) := by
  rw [exprE, if_pos hi, nodeE]
  by_cases h4 : (ts.getD i noTok).kind = 4
  · rw [if_pos h4, if_pos h4]
    rfl
  · rw [if_neg h4, if_neg h4]
    by_cases h3 : (ts.getD i noTok).kind = 3
    · rw [if_pos h3, if_pos h3]
      by_cases hn : (ts.getD i noTok).text.data.toList = [110, 105, 108]
      · rw [if_pos hn, if_pos hn]
        rfl
      · rw [if_neg hn, if_neg hn]
        cases nameE ts E i <;> rfl
    · rw [if_neg h3, if_neg h3]
      by_cases h2 : (ts.getD i noTok).kind = 2
      · rw [if_pos h2, if_pos h2]
        rfl
      · rw [if_neg h2, if_neg h2, brE]
        cases takeE ts E (i + 1) 3 with
        | error e => rfl
        | ok p =>
          obtain ⟨j, key⟩ := p
          simp only
          by_cases hk : (formE key.text).1 = 0
          · rw [if_pos hk, if_pos hk]
            rfl
          · rw [if_neg hk, if_neg hk]
            cases argsE ts E (exprE ts E f) (formE key.text).2.2.data.toList j ⟨(formE key.text).1, 0, 0, 0, (formE key.text).2.1, ByteArray.empty, ByteArray.empty⟩ l [] with
            | error e => rfl
            | ok p =>
              obtain ⟨j2, n, l2, ks⟩ := p
              simp only
              cases takeE ts E j2 2 with
              | error e => rfl
              | ok p => rfl

theorem dout_case {T : World → Prop} {R g fm : Nat} {ts : List Tok} {E : Int} {w w' : World} {v : Value} {r : Except Flt (Nat × Nod × List Nod)} {e : Ending} (h : DOut T R g fm ts E w v r e w') :
    (∃ j n m v', r = .ok (j, n, m) ∧ e = .returned (nodAgg n) ∧ RS T R g fm ts E w' j v' m ∧ Moved R w w' v v') ∨ (∃ c q, r = .error (c, q) ∧ e = .panicked [fltV c q] ∧ Below R w w') := by
  rcases r with ⟨c, q⟩ | ⟨j, n, m⟩
  · exact Or.inr ⟨c, q, rfl, h⟩
  · obtain ⟨h1, v', h2, h3⟩ := h
    exact Or.inl ⟨j, n, m, v', rfl, h1, h2, h3⟩

theorem FS.finN {T : World → Prop} {R g fm : Nat} {ts : List Tok} {E : Int} {w W : World} {v vx : Value} {j : Nat} {L : List Nod} {qr : Array Value} {tq : TypeId} (hT : ∀ a b, T a → Below R a b → T b) (h : FS T R g fm ts E w v W j vx L qr nodZ tq 58) (y0 y1 y2 y3 y4 y5 y6 : Value) :
    FS T R g fm ts E w v (put7 W (w.heap.size + 1) y0 y1 y2 y3 y4 y5 y6) j vx L qr #[y0, y1, y2, y3, y4, y5, y6] tq 58 :=
  ((((((h.setN hT 0 y0).setN hT 1 y1).setN hT 2 y2).setN hT 3 y3).setN hT 4 y4).setN hT 5 y5).setN hT 6 y6

set_option maxHeartbeats 2000000 in
set_option maxRecDepth 20000 in
theorem rd_node {w0 : World} {g M : Nat} {ts : List Tok} {E : Int} {f : Nat} {s : ByteArray} (hms : MS w0 M fTable) (hc : ts.length ≤ 4000) (hs : s.size ≤ 4000) (hk : ∀ i, i < ts.length → TokOk s (ts.getD i noTok)) (ih : ExprI (Below w0.heap.size w0) w0.heap.size g M ts E f)
    (w : World) (i : Nat) (v : Value) (l : List Nod) (hi : i < ts.length) (h : RS (Below w0.heap.size w0) w0.heap.size g M ts E w (i + 1) v l) (hf : ts.length + 1 ≤ i + (f + 1)) (hl : l.length ≤ i) :
    Calls Tryz.prog 106 #[.pointer (some ⟨w0.heap.size, 0, none⟩), tokA (ts.getD i noTok)] w fun e w' => DOut (Below w0.heap.size w0) w0.heap.size g M ts E w v (nodeE ts E f i l) e w' := by
  have HT : Hid (∀ a b, Below w0.heap.size w0 a → Below w0.heap.size a b → Below w0.heap.size w0 b) := fun a b h1 h2 => h1.trans h2
  have HV : Hid (∀ k, v.ownBlock = some k → w0.heap.size < k) := h.far
  obtain ⟨RB, hRB⟩ : ∃ RB, nodeE ts E f i l = RB := ⟨_, rfl⟩
  rw [hRB]
  rw [nodeE] at hRB
  have hOK := hk i hi
  have hnm := nameE_is (E := E) hi hOK
  have hsz : (ts.getD i noTok).text.size ≤ 4000 := by have := hOK.2.2.2; omega
  have hno : (ts.getD i noTok).kind = 2 → isNameB (ts.getD i noTok).text = false := fun e => no_name hOK (by omega)
  have hkd := hOK.1
  have F0 : Hid (FS (Below w0.heap.size w0) w0.heap.size g M ts E w v ((w.alloc (.cells #[.int .i64 (ts.getD i noTok).kind, .string (ts.getD i noTok).text, .int .i64 (ts.getD i noTok).n, .int .i64 (ts.getD i noTok).place] 66)).alloc (.cells nodZ 58)) (i + 1) v l #[.int .i64 (ts.getD i noTok).kind, .string (ts.getD i noTok).text, .int .i64 (ts.getD i noTok).n, .int .i64 (ts.getD i noTok).place] nodZ 66 58) := FS.start HT.out h
  have FA : Hid (∀ nr, FS (Below w0.heap.size w0) w0.heap.size g M ts E w v ((w.alloc (.cells #[.int .i64 (ts.getD i noTok).kind, .string (ts.getD i noTok).text, .int .i64 (ts.getD i noTok).n, .int .i64 (ts.getD i noTok).place] 66)).alloc (.cells nr 58)) (i + 1) v l #[.int .i64 (ts.getD i noTok).kind, .string (ts.getD i noTok).text, .int .i64 (ts.getD i noTok).n, .int .i64 (ts.getD i noTok).place] nr 66 58) := fun nr => FS.start HT.out h
  have HBR : Hid (∀ (w : World) (v : Value) (l : List Nod), RS (Below w0.heap.size w0) w0.heap.size g M ts E w (i + 1) v l → l.length ≤ i → Calls Tryz.prog 119 #[.pointer (some ⟨w0.heap.size, 0, none⟩)] w fun e w' => DOut (Below w0.heap.size w0) w0.heap.size g M ts E w v (brE ts E f i l) e w') := fun w v l h hl => rd_brackets hms hc hs hk ih w i v l h hf hl
  have HL : Hid (l.length ≤ i) := hl
  clear h hms hc hs hk ih hf hl hOK
  generalize ts.getD i noTok = t at *
  obtain ⟨kd, tx, tn, tp⟩ := t
  simp only at hkd hRB hno hsz hnm F0 FA
  by_cases h1 : kd = 1
  · subst h1
    rw [if_neg (by decide), if_neg (by decide), if_neg (by decide)] at hRB
    have HRB : Hid (brE ts E f i l = RB) := hRB
    clear hRB hno hkd hnm hsz
    go_enter Tryz.func106, Tryz.ntmps106
    go_wp2_with fail
    refine (HBR.out _ v l F0.out.rs HL.out).mono ?_
    rintro e w1 he
    rw [HRB.out] at he
    obtain ⟨j1, nd, m1, v1, hE, rfl, hr1, hm1⟩ | ⟨c1, q1, hE, rfl, hb1⟩ := dout_case he
    · obtain ⟨y0, y1, y2, y3, y4, y5, y6⟩ := nd
      have F1 : Hid (FS (Below w0.heap.size w0) w0.heap.size g M ts E w v w1 j1 v1 m1 #[.int .i64 1, .string tx, .int .i64 tn, .int .i64 tp] nodZ 66 58) := F0.out.call hr1 hm1
      have HE : Hid (RB = .ok (j1, ⟨y0, y1, y2, y3, y4, y5, y6⟩, m1)) := hE
      obtain ⟨n0, n1, n2, n3, n4, n5, n6, n7⟩ := node_cells F1.out.nn
      clear he hE hr1 hm1 F0
      unfold nodAgg
      go_wp2
      have hfin := F1.out.finN HT.out (.int .i64 y0) (.int .i64 y1) (.int .i64 y2) (.int .i64 y3) (.int .i64 y4) (.string y5) (.string y6)
      refine bodyPost_ret (results_cell_row rfl _ _ (w.heap.size + 1) 58 #[.int .i64 y0, .int .i64 y1, .int .i64 y2, .int .i64 y3, .int .i64 y4, .string y5, .string y6] (0, 0) _ rfl hfin.nn Tryz.underlying58 rfl (by kernel_rfl)) rfl ?_
      rw [HE.out]
      exact ⟨rfl, _, hfin.rs, hfin.mv⟩
    · have HE : Hid (RB = .error (c1, q1)) := hE
      have HBL : Hid (Below w0.heap.size w w1) := (F0.out.low HV.out).trans hb1
      clear he hE hb1 F0
      go_wp2
      exact ⟨rfl, by rw [HE.out]; exact ⟨rfl, HBL.out⟩⟩
  · by_cases h4 : kd = 4
    · subst h4
      rw [if_pos rfl] at hRB
      have HE : Hid (RB = .ok (i + 1, ⟨2, 0, 0, 0, tn, ByteArray.empty, ByteArray.empty⟩, l)) := hRB.symm
      clear hRB hno hkd hnm hsz h1 HBR
      go_enter Tryz.func106, Tryz.ntmps106
      go_wp2
      have hfin := FA.out #[.int .i64 2, .int .i64 0, .int .i64 0, .int .i64 0, .int .i64 tn, .string ⟨#[]⟩, .string ⟨#[]⟩]
      refine bodyPost_ret (results_cell_row rfl _ _ (w.heap.size + 1) 58 #[.int .i64 2, .int .i64 0, .int .i64 0, .int .i64 0, .int .i64 tn, .string ⟨#[]⟩, .string ⟨#[]⟩] (0, 0) _ rfl hfin.nn Tryz.underlying58 rfl (by kernel_rfl)) rfl ?_
      rw [HE.out]
      exact ⟨rfl, _, hfin.rs, hfin.mv⟩
    · rw [if_neg h4] at hRB
      by_cases hn : tx.data.toList = [110, 105, 108]
      · have h3 : kd = 3 := by
          rcases hkd with ⟨e, _⟩ | ⟨_, e⟩ | ⟨e, _⟩ | ⟨e, _⟩
          · exact absurd e h1
          · rw [e] at hn; exact absurd hn (by decide)
          · exact e
          · exact absurd e h4
        subst h3
        rw [if_pos rfl, if_pos hn] at hRB
        obtain rfl : tx = ⟨#[110, 105, 108]⟩ := data_ext hn
        have HE : Hid (RB = .ok (i + 1, ⟨12, 0, 0, 0, 0, ByteArray.empty, ByteArray.empty⟩, l)) := hRB.symm
        clear hRB hno hkd hnm hsz h1 HBR hn h4
        go_enter Tryz.func106, Tryz.ntmps106
        go_wp2
        have hfin := FA.out #[.int .i64 12, .int .i64 0, .int .i64 0, .int .i64 0, .int .i64 0, .string ⟨#[]⟩, .string ⟨#[]⟩]
        refine bodyPost_ret (results_cell_row rfl _ _ (w.heap.size + 1) 58 #[.int .i64 12, .int .i64 0, .int .i64 0, .int .i64 0, .int .i64 0, .string ⟨#[]⟩, .string ⟨#[]⟩] (0, 0) _ rfl hfin.nn Tryz.underlying58 rfl (by kernel_rfl)) rfl ?_
        rw [HE.out]
        exact ⟨rfl, _, hfin.rs, hfin.mv⟩
      · have hnl : (tx.toList == [110, 105, 108]) = false := by
          rw [beq_eq_false_iff_ne, Lib.toList_data]
          exact hn
        by_cases hb : isNameB tx = true
        · have h3 : kd = 3 := by
            rcases hkd with ⟨e, _⟩ | ⟨e, _⟩ | ⟨e, _⟩ | ⟨e, _⟩
            · exact absurd e h1
            · rw [hno e] at hb; cases hb
            · exact e
            · exact absurd e h4
          subst h3
          rw [if_pos rfl, if_neg hn, hnm, if_pos hb] at hRB
          have HE : Hid (RB = .ok (i + 1, ⟨1, 0, 0, 0, 0, tx, ByteArray.empty⟩, l)) := hRB.symm
          have HCN : Hid (∀ w, Calls Tryz.prog 118 #[tokA ⟨3, tx, tn, tp⟩] w fun e w' => e = .returned (.string tx) ∧ Below w.heap.size w w') := rd_name_yes ⟨3, tx, tn, tp⟩ hsz hb
          clear hRB hno hkd hnm hsz h1 HBR hn h4 hb
          go_enter Tryz.func106, Tryz.ntmps106
          go_wp2_with fail
          refine (HCN.out _).mono ?_
          rintro e w1 ⟨rfl, hb1⟩
          have F1 : Hid (FS (Below w0.heap.size w0) w0.heap.size g M ts E w v w1 (i + 1) v l #[.int .i64 3, .string tx, .int .i64 tn, .int .i64 tp] nodZ 66 58) := F0.out.below HT.out hb1
          obtain ⟨n0, n1, n2, n3, n4, n5, n6, n7⟩ := node_cells F1.out.nn
          clear hb1 F0 FA
          go_wp2
          have hfin := F1.out.finN HT.out (.int .i64 1) (.int .i64 0) (.int .i64 0) (.int .i64 0) (.int .i64 0) (.string tx) (.string ⟨#[]⟩)
          refine bodyPost_ret (results_cell_row rfl _ _ (w.heap.size + 1) 58 #[.int .i64 1, .int .i64 0, .int .i64 0, .int .i64 0, .int .i64 0, .string tx, .string ⟨#[]⟩] (0, 0) _ rfl hfin.nn Tryz.underlying58 rfl (by kernel_rfl)) rfl ?_
          rw [HE.out]
          exact ⟨rfl, _, hfin.rs, hfin.mv⟩
        · have HE : Hid (RB = .error (3, tp)) := by
            rw [hnm, if_neg hb, if_neg hn] at hRB
            rcases hkd with ⟨e, _⟩ | ⟨e, _⟩ | ⟨e, _⟩ | ⟨e, _⟩
            · exact absurd e h1
            · rw [if_neg (by omega), if_pos e] at hRB
              exact hRB.symm
            · rw [if_pos e] at hRB
              exact hRB.symm
            · exact absurd e h4
          have HCN : Hid (∀ w, Calls Tryz.prog 118 #[tokA ⟨kd, tx, tn, tp⟩] w fun e w' => e = .panicked [fltV 3 tp] ∧ Below w.heap.size w w') := rd_name_no ⟨kd, tx, tn, tp⟩ hsz (by simpa using hb)
          clear hRB hno hkd hnm hsz HBR hn hb
          go_enter Tryz.func106, Tryz.ntmps106
          go_wp2_with fail
          refine (HCN.out _).mono ?_
          rintro e w1 ⟨rfl, hb1⟩
          have HBL : Hid (Below w0.heap.size w w1) := (F0.out.low HV.out).trans (hb1.mono (Nat.le_of_lt F0.out.rs.lt))
          clear hb1
          go_wp2
          exact ⟨rfl, by rw [HE.out]; exact ⟨rfl, HBL.out⟩⟩
end

section
open Go.ChangeShapes Go.WideShapes Go.ChangeAt Go.RowKit

theorem own_len2 {w : World} {B : Nat} {v : Value} {l : List Nod} (h : ownNod w B v l) : (l.length : Int) ≤ 9223372036854775807 := by
  rcases h.2 with ⟨_, h0⟩ | ⟨g, cap, cur, _, _, _, hn, hm, _⟩
  · omega
  · unfold maxLen at hm; omega

theorem own_more {w : World} {B : Nat} {v : Value} {m : List Nod} {nd : Nod} (h : ownNod w B v (m ++ [nd])) : ∃ g c, v = .slice (some ⟨g, 0, none⟩) (m.length + 1) c := by
  obtain ⟨a, g, c, sp, hv, ha, _⟩ := ownNod_form h
  rw [ha (by simp), List.length_append] at hv
  exact ⟨g, c, hv⟩

/-- A node is put behind the others. -/
theorem RS.put {T : World → Prop} {R g fm : Nat} {ts : List Tok} {E : Int} {W w3 : World} {j : Nat} {v v3 : Value} {L L3 : List Nod} {o : Obj} (hT : ∀ a b, T a → Below R a b → T b) (h : RS T R g fm ts E W j v L) (hown : ownNod w3 (R + 1) v3 L3) (hg : Grew (W.drew.alloc o) w3 v v3) :
    RS T R g fm ts E (w3.setCell ⟨R, 2, none⟩ v3) j v3 L3 ∧ Moved R W (w3.setCell ⟨R, 2, none⟩ v3) v v3 ∧ ∃ a c, w3.heap[R]? = some (.cells (rdR a (ts.length - j) c E v fm) 93 (0, 0)) := by
  have hlt := h.lt
  have hb0 : Below W.heap.size W (W.drew.alloc o) := ((Below.refl _ W).drew).alloc (Nat.le_refl _) o
  have hm0 : Moved R W (W.drew.alloc o) v v := Moved.of_below hb0
  have hm1 : Moved R W w3 v v3 := hm0.trans (Moved.of_grew hg)
  have hlow := hm1.low h.far hlt
  obtain ⟨a, c, hr, h1, h2⟩ := h.row
  have hr3 : w3.heap[R]? = some (.cells (rdR a (ts.length - j) c E v fm) 93 (0, 0)) := by
    rw [hg.1.block R (by have := hb0.size; omega) (fun e => by have := h.far R e.symm; omega), hb0.block R hlt]
    exact hr
  have hbs : Below R W (w3.setCell ⟨R, 2, none⟩ v3) := hlow.setCell (p := ⟨R, 2, none⟩) (Nat.le_refl _) _
  have hfar : v3.ownBlock ≠ some R := fun e => by have := (hown.lt R e).1; omega
  refine ⟨⟨⟨a, c, ?_, h1, h2⟩, toks_kept h.tok h.glt hbs, h.glt, ownsRow_setCell_other hown hfar _, hT _ _ h.tab hbs, h.le⟩, hm1.set 2 v3, a, c, hr3⟩
  rw [heap_setCell_same w3 R 2 _ _ v3 hr3]
  rfl

set_option maxHeartbeats 2000000 in
set_option maxRecDepth 20000 in
theorem rd_expr_next {w0 : World} {g M : Nat} {ts : List Tok} {E : Int} {f : Nat} {s : ByteArray} (hms : MS w0 M fTable) (hc : ts.length ≤ 4000) (hs : s.size ≤ 4000) (hk : ∀ i, i < ts.length → TokOk s (ts.getD i noTok)) (ih : ExprI (Below w0.heap.size w0) w0.heap.size g M ts E f) :
    ExprI (Below w0.heap.size w0) w0.heap.size g M ts E (f + 1) := by
  intro w i v l h hf hl
  have HT : Hid (∀ a b, Below w0.heap.size w0 a → Below w0.heap.size a b → Below w0.heap.size w0 b) := fun a b h1 h2 => h1.trans h2
  have HV : Hid (∀ k, v.ownBlock = some k → w0.heap.size < k) := h.far
  have hRw := h.lt
  by_cases hi : i < ts.length
  · rw [exprE_node ts E f i l hi]
    have HND : Hid (∀ (w : World) (v : Value), RS (Below w0.heap.size w0) w0.heap.size g M ts E w (i + 1) v l → Calls Tryz.prog 106 #[.pointer (some ⟨w0.heap.size, 0, none⟩), tokA (ts.getD i noTok)] w fun e w' => DOut (Below w0.heap.size w0) w0.heap.size g M ts E w v (nodeE ts E f i l) e w') := fun w v h => rd_node hms hc hs hk ih w i v l hi h hf hl
    have HTK : Hid (Calls Tryz.prog 107 #[.pointer (some ⟨w0.heap.size, 0, none⟩)] w fun e w' => e = .returned (tokA (ts.getD i noTok)) ∧ RS (Below w0.heap.size w0) w0.heap.size g M ts E w' (i + 1) v l ∧ Moved w0.heap.size w w' v v) := rd_take HT.out h hi hc
    have HFR : Hid (∀ j m, exprOf (nodeE ts E f i l) = .ok (j, m) → m.length ≤ j ∧ j ≤ ts.length) := fun j m hx => by
      rw [← exprE_node ts E f i l hi] at hx
      obtain ⟨h1, h2, h3, h4⟩ := exprE_fair ts E (f + 1) _ _ _ _ hx
      omega
    have HC : Hid (ts.length ≤ 4000) := hc
    obtain ⟨RB, hRB⟩ : ∃ RB, nodeE ts E f i l = RB := ⟨_, rfl⟩
    rw [hRB] at HND HFR ⊢
    clear hRB hms hc hs hk ih hf hl h
    generalize ts.getD i noTok = t at *
    obtain ⟨i0, hii, hz0, hz1, hz2⟩ := info_parts info_nod
    go_enter Tryz.func84, Tryz.ntmps84
    go_wp2_with fail
    refine HTK.out.mono ?_
    rintro e w1 ⟨rfl, hr1, hm1⟩
    have H1 : Hid (RS (Below w0.heap.size w0) w0.heap.size g M ts E w1 (i + 1) v l) := hr1
    have M1 : Hid (Moved w0.heap.size w w1 v v) := hm1
    clear hr1 hm1 HTK
    go_wp2_with fail
    refine (HND.out _ v H1.out).mono ?_
    rintro e w2 he
    obtain ⟨j, nd, m, v2, rfl, rfl, hr2, hm2⟩ | ⟨c2, q2, rfl, rfl, hb2⟩ := dout_case he
    · obtain ⟨y0, y1, y2, y3, y4, y5, y6⟩ := nd
      obtain ⟨hml, hjl⟩ := HFR.out j _ rfl
      have hmc : m.length ≤ 4000 := by have := HC.out; simp at hml; omega
      obtain ⟨W, hW⟩ : ∃ W, w2.alloc (.cells #[.int .i64 y0, .int .i64 y1, .int .i64 y2, .int .i64 y3, .int .i64 y4, .string y5, .string y6] 58) = W := ⟨_, rfl⟩
      have HW : Hid (w2.alloc (.cells #[.int .i64 y0, .int .i64 y1, .int .i64 y2, .int .i64 y3, .int .i64 y4, .string y5, .string y6] 58) = W) := hW
      have hbW : Below w2.heap.size w2 W := by rw [← hW]; exact (Below.refl _ w2).alloc (Nat.le_refl _) _
      have H3 : Hid (RS (Below w0.heap.size w0) w0.heap.size g M ts E W j v2 m) := hr2.below HT.out hbW
      have M3 : Hid (Moved w0.heap.size w W v v2) := (M1.out.trans hm2).trans (Moved.of_below hbW)
      have hnd : W.heap[w2.heap.size]? = some (.cells #[.int .i64 y0, .int .i64 y1, .int .i64 y2, .int .i64 y3, .int .i64 y4, .string y5, .string y6] 58 (0, 0)) := by rw [← hW]; exact heap_alloc_new w2 _
      have HN : Hid (W.heap[w2.heap.size]? = some (.cells #[.int .i64 y0, .int .i64 y1, .int .i64 y2, .int .i64 y3, .int .i64 y4, .string y5, .string y6] 58 (0, 0))) := hnd
      have HV2 : Hid (∀ k, v2.ownBlock = some k → k < w2.heap.size) := fun k hk => (hr2.own.lt k hk).2
      have zR := H3.out.lt
      have zR2 := hr2.lt
      have zN : w2.heap.size < W.heap.size := (Array.getElem?_eq_some_iff.1 hnd).1
      obtain ⟨n0, n1, n2, n3, n4, n5, n6, n7⟩ := node_cells hnd
      obtain ⟨a3, c3, hrow, _, _⟩ := H3.out.row
      obtain ⟨r0, r1, r2, r3, r4⟩ := rd_row hrow
      clear he hr2 hm2 hbW hW hnd hrow M1 H1 HND
      unfold nodAgg
      go_wp2
      rw [HW.out]
      go_region_law (refine step_append_at rfl (.tmp 12) (.tmp 14) 24 rfl (w0.heap.size + 1) 58 i0 _ 7 72 Tryz.underlying24 hii hz0 hz1 hz2 rfl (by decide) v2 _ _ (by simp [Act.eval]) (H3.out.own.drew.alloc _) ⟨W.heap.size, 0, none⟩ 1 1 (nodCells ⟨y0, y1, y2, y3, y4, y5, y6⟩) (by simp [Act.eval]) rfl (nod_new rfl _ _ _ _ _ _ _ _) (nod_one _) (by decide) (by unfold maxLen; omega) (by omega) (by simp <;> omega) ?_; intro v3 w3 hown' hgr; have HO : Hid (ownNod w3 (w0.heap.size + 1) v3 (m ++ [⟨y0, y1, y2, y3, y4, y5, y6⟩])) := ownNod_next _ hown' rfl rfl; have HP : Hid (_) := H3.out.put HT.out HO.out hgr; obtain ⟨a4, c4, hrow4⟩ := HP.out.2.2; obtain ⟨r0, r1, r2, r3, r4⟩ := rd_row hrow4; have zR3 := (Array.getElem?_eq_some_iff.1 hrow4).1; clear hown' hgr hrow4; obtain ⟨g5, c5, rfl⟩ := own_more HO.out)
      all_goals
        go_wp2
        go_ret
        exact ⟨by simp, _, HP.out.1, M3.out.trans HP.out.2.1⟩
    · have HBL : Hid (Below w0.heap.size w w2) := (M1.out.low HV.out hRw).trans hb2
      clear he hb2 HFR HND
      go_wp2
      exact ⟨rfl, rfl, HBL.out⟩
  · have HTK : Hid (Calls Tryz.prog 107 #[.pointer (some ⟨w0.heap.size, 0, none⟩)] w fun e w' => e = .panicked [fltV 2 E] ∧ Below w.heap.size w w') := rd_take_end h hi
    rw [exprE, if_neg hi]
    clear h hms hc hs hk ih hf hl
    go_enter Tryz.func84, Tryz.ntmps84
    go_wp2_with fail
    refine HTK.out.mono ?_
    rintro e w1 ⟨rfl, hb1⟩
    have HBL : Hid (Below w0.heap.size w w1) := hb1.mono (by omega)
    clear hb1 HTK
    go_wp2
    exact ⟨rfl, rfl, HBL.out⟩

theorem rd_expr {w0 : World} {g M : Nat} {ts : List Tok} {E : Int} {s : ByteArray} (hms : MS w0 M fTable) (hc : ts.length ≤ 4000) (hs : s.size ≤ 4000) (hk : ∀ i, i < ts.length → TokOk s (ts.getD i noTok)) : ∀ f, ExprI (Below w0.heap.size w0) w0.heap.size g M ts E f
  | 0 => fun w i v l h hf hl => by have := h.le; omega
  | f + 1 => rd_expr_next hms hc hs hk (rd_expr hms hc hs hk f)

/-- What the reading of a program ends with. -/
def GOut (R : Nat) (w : World) (r : List Nod × Int × Int) (e : Ending) (w' : World) : Prop :=
  (r.2.1 = 0 ∧ r.2.2 = 0 ∧ ∃ v', e = .returned v' ∧ ownNod w' (R + 1) v' r.1 ∧ Below R w w') ∨ (r.1 = [] ∧ e = .panicked [fltV r.2.1 r.2.2] ∧ Below R w w')

set_option maxHeartbeats 1000000 in
set_option maxRecDepth 20000 in
theorem rd_program {w0 : World} {g M : Nat} {ts : List Tok} {E : Int} {s : ByteArray} (hms : MS w0 M fTable) (hc : ts.length ≤ 4000) (hs : s.size ≤ 4000) (hk : ∀ i, i < ts.length → TokOk s (ts.getD i noTok)) (w : World) (v : Value) (h : RS (Below w0.heap.size w0) w0.heap.size g M ts E w 0 v []) :
    Calls Tryz.prog 42 #[.pointer (some ⟨w0.heap.size, 0, none⟩)] w fun e w' => GOut w0.heap.size w (parseE ts E) e w' := by
  have HX : Hid (Calls Tryz.prog 84 #[.pointer (some ⟨w0.heap.size, 0, none⟩)] w fun e w' => EOut (Below w0.heap.size w0) w0.heap.size g M ts E w v (exprE ts E (ts.length + 1) 0 []) e w') := rd_expr hms hc hs hk (ts.length + 1) w 0 v [] h (by omega) (by simp)
  have HV : Hid (∀ k, v.ownBlock = some k → w0.heap.size < k) := h.far
  have HC : Hid (ts.length ≤ 4000) := hc
  have hRw := h.lt
  obtain ⟨P, hP⟩ : ∃ P, parseE ts E = P := ⟨_, rfl⟩
  rw [hP]
  have HP : Hid (parseE ts E = P) := hP
  clear hP hms hc hs hk h
  go_enter Tryz.func42, Tryz.ntmps42
  go_wp2_with fail
  refine HX.out.mono ?_
  rintro e w1 he
  obtain ⟨j, m, v1, hx, rfl, hr1, hm1⟩ | ⟨c1, q1, hx, rfl, hb1⟩ := eout_case he
  · have HB : Hid (Below w0.heap.size w w1) := hm1.low HV.out hRw
    have HO : Hid (ownNod w1 (w0.heap.size + 1) v1 m) := hr1.own
    obtain ⟨a, c, hrow, ha, hac⟩ := hr1.row
    obtain ⟨r0, r1, r2, r3, r4⟩ := rd_row hrow
    have hle := hr1.le
    by_cases hj : j < ts.length
    · have HE : Hid (P = ([], 4, (ts.getD j noTok).place)) := HP.out.symm.trans (parse_more hx hj)
      obtain rfl := ha hj
      have t3 := (hr1.tok j hj).c3
      generalize (ts.getD j noTok).place = tp at t3 HE
      obtain ⟨k, hk⟩ : ∃ k, ts.length - j = k + 1 := ⟨ts.length - j - 1, by omega⟩
      rw [hk] at r0
      clear hk he hx hr1 hm1 hrow ha hac HX HP
      go_wp2
      refine ⟨rfl, Or.inr ⟨?_, ?_, HB.out⟩⟩
      · rw [HE.out]
      · rw [HE.out]
    · have hk : ts.length - j = 0 := by omega
      rw [hk] at r0
      obtain ⟨a5, g5, c5, sp5, rfl, _⟩ := ownNod_form HO.out
      have hm0 := own_len2 HO.out
      by_cases h150 : 150 < m.length
      · have HE : Hid (P = ([], 5, 0)) := HP.out.symm.trans (parse_great hx hj h150)
        have h150' : (150 : Int) < m.length := by omega
        clear hk he hx hr1 hm1 hrow ha hac HX HP
        go_wp2
        refine ⟨rfl, Or.inr ⟨?_, ?_, HB.out⟩⟩
        · rw [HE.out]
        · rw [HE.out]
      · have HE : Hid (P = (m, 0, 0)) := HP.out.symm.trans (parse_ok hx hj h150)
        have h150' : ¬ (150 : Int) < m.length := by omega
        clear hk he hx hr1 hm1 hrow ha hac HX HP
        go_wp2
        go_ret
        refine Or.inl ⟨by rw [HE.out], by rw [HE.out], _, rfl, ?_, HB.out⟩
        rw [HE.out]
        exact HO.out
  · have HE : Hid (P = ([], c1, q1)) := HP.out.symm.trans (parse_bad hx)
    have HB : Hid (Below w0.heap.size w w1) := hb1
    clear he hx hb1 HX HP
    go_wp2
    refine ⟨rfl, Or.inr ⟨?_, ?_, HB.out⟩⟩
    · rw [HE.out]
    · rw [HE.out]
end

section
open Go.ChangeShapes Go.WideShapes Go.ChangeAt Go.RowKit

theorem ta_yes (x : Value) (w : World) : (Instr.typeAssert (.iface 50 x) 20 50 true).run Tryz.prog w = .ok (.tuple #[x, .bool true]) w := by
  simp [Instr.typeAssert, run_underlying Tryz.underlying50, Result.andThen]

theorem ta_no (w : World) : (Instr.typeAssert .nilIface 20 50 true).run Tryz.prog w = .ok (.tuple #[.agg #[.int .i64 0, .int .i64 0], .bool false]) w := by
  simp [Instr.typeAssert, run_underlying Tryz.underlying50, Result.andThen]

theorem catch_world {A : Nat} {nv : Value} {c0 q0 c q : Int} {w : World} {t1 t2 : TypeId} (hn : w.heap[A]? = some (.cells #[nv] t1 (0, 0))) (hw : w.heap[A + 1]? = some (.cells #[.int .i64 c0, .int .i64 q0] t2 (0, 0))) (o : Obj) :
    ((((w.setCell ⟨A, 0, none⟩ (.slice none 0 0)).setCell ⟨A + 1, 0, none⟩ (.int .i64 c)).setCell ⟨A + 1, 1, none⟩ (.int .i64 q)).alloc o).drew.heap[A]? = some (.cells #[.slice none 0 0] t1 (0, 0)) ∧
    ((((w.setCell ⟨A, 0, none⟩ (.slice none 0 0)).setCell ⟨A + 1, 0, none⟩ (.int .i64 c)).setCell ⟨A + 1, 1, none⟩ (.int .i64 q)).alloc o).drew.heap[A + 1]? = some (.cells #[.int .i64 c, .int .i64 q] t2 (0, 0)) ∧
    Below A w ((((w.setCell ⟨A, 0, none⟩ (.slice none 0 0)).setCell ⟨A + 1, 0, none⟩ (.int .i64 c)).setCell ⟨A + 1, 1, none⟩ (.int .i64 q)).alloc o).drew := by
  have z1 : A + 1 < w.heap.size := (Array.getElem?_eq_some_iff.1 hw).1
  have k1 : (w.setCell ⟨A, 0, none⟩ (.slice none 0 0)).heap[A]? = some (.cells #[.slice none 0 0] t1 (0, 0)) := heap_setCell_same w A 0 _ _ _ hn
  have k2 : (w.setCell ⟨A, 0, none⟩ (.slice none 0 0)).heap[A + 1]? = some (.cells #[.int .i64 c0, .int .i64 q0] t2 (0, 0)) := (heap_setCell_other w ⟨A, 0, none⟩ (A + 1) _ (by show A + 1 ≠ A; omega)).trans hw
  have k3 := heap_setCell_same _ (A + 1) 0 _ _ (.int .i64 c) k2
  have k4 := heap_setCell_same _ (A + 1) 1 _ _ (.int .i64 q) k3
  have ne : A ≠ A + 1 := by omega
  refine ⟨?_, ?_, ?_⟩
  · show ((((w.setCell ⟨A, 0, none⟩ (.slice none 0 0)).setCell ⟨A + 1, 0, none⟩ (.int .i64 c)).setCell ⟨A + 1, 1, none⟩ (.int .i64 q)).alloc o).heap[A]? = _
    rw [Below.heap_alloc _ _ _ (by simp [World.setCell]; omega), heap_setCell_other _ ⟨A + 1, 1, none⟩ A _ ne, heap_setCell_other _ ⟨A + 1, 0, none⟩ A _ ne]
    exact k1
  · show ((((w.setCell ⟨A, 0, none⟩ (.slice none 0 0)).setCell ⟨A + 1, 0, none⟩ (.int .i64 c)).setCell ⟨A + 1, 1, none⟩ (.int .i64 q)).alloc o).heap[A + 1]? = _
    rw [Below.heap_alloc _ _ _ (by simp [World.setCell]; omega)]
    exact k4
  · exact (((((Below.refl A w).setCell (p := ⟨A, 0, none⟩) (Nat.le_refl _) _).setCell (p := ⟨A + 1, 0, none⟩) (by show A ≤ A + 1; omega) _).setCell (p := ⟨A + 1, 1, none⟩) (by show A ≤ A + 1; omega) _).alloc (by simp [World.setCell]; omega) _).drew

set_option maxHeartbeats 1000000 in
set_option maxRecDepth 20000 in
theorem rd_catch (A : Nat) (nv : Value) (c0 q0 c q : Int) (w : World) (hn : w.heap[A]? = some (.cells #[nv] 24 (0, 0))) (hw : w.heap[A + 1]? = some (.cells #[.int .i64 c0, .int .i64 q0] 50 (0, 0))) :
    CallsD Tryz.prog 40 #[.pointer (some ⟨A, 0, none⟩), .pointer (some ⟨A + 1, 0, none⟩)] (.panicking [fltV c q]) w fun e u' w' =>
      e = .returned (.tuple #[]) ∧ u' = .panicking [{ v := .iface 50 (.agg #[.int .i64 c, .int .i64 q]), recovered := true }] ∧ (w'.heap[A]? = some (.cells #[.slice none 0 0] 24 (0, 0)) ∧ w'.heap[A + 1]? = some (.cells #[.int .i64 c, .int .i64 q] 50 (0, 0)) ∧ Below A w w') := by
  refine callsD_of_wpS Tryz.func40 rfl fun c₀ cs hu => ?_
  apply wpS_seq
  apply wpS_region
  have htm : #[Value.pointer (some ⟨A, 0, none⟩), .pointer (some ⟨A + 1, 0, none⟩)] ++ Array.replicate (Tryz.f40.ntmps - #[Value.pointer (some ⟨A, 0, none⟩), .pointer (some ⟨A + 1, 0, none⟩)].size) undef = #[.pointer (some ⟨A, 0, none⟩), .pointer (some ⟨A + 1, 0, none⟩), undef, undef, undef, undef, undef, undef, undef, undef, undef] := by
    rw [Tryz.ntmps40]
    rfl
  rw [htm]
  clear htm
  have a0 : w.cell? ⟨A, 0, none⟩ = some nv := by rw [cell_of_row _ _ _ _ _ _ hn]; rfl
  have a1 : w.frozen? ⟨A, 0, none⟩ = false := frozen_of_row w A 0 _ _ hn
  have b0 : w.cell? ⟨A + 1, 0, none⟩ = some (.int .i64 c0) := by rw [cell_of_row _ _ _ _ _ _ hw]; rfl
  have b1 : w.cell? ⟨A + 1, 1, none⟩ = some (.int .i64 q0) := by rw [cell_of_row _ _ _ _ _ _ hw]; rfl
  have b2 : ∀ j, w.frozen? ⟨A + 1, j, none⟩ = false := fun j => frozen_of_row w (A + 1) j _ _ hw
  have z1 : A + 1 < w.heap.size := (Array.getElem?_eq_some_iff.1 hw).1
  have z0 : A < w.heap.size := by omega
  have HN : Hid (w.heap[A]? = some (.cells #[nv] 24 (0, 0))) := hn
  have HW : Hid (w.heap[A + 1]? = some (.cells #[.int .i64 c0, .int .i64 q0] 50 (0, 0))) := hw
  clear hn hw
  simp [wpOpsS, go_sem, recoverD, hu, Exit.thenS, ta_yes]
  refine wpS_of_wp ?_
  clear hu
  go_wp2
  go_region
  all_goals
    go_wp2
    obtain ⟨f1, f2, f3⟩ := catch_world (c := c) (q := q) HN.out HW.out (.cells #[.int .i64 c, .int .i64 q] 50)
    exact ⟨rfl, _, rfl, _, results_none rfl _ _ _, rfl, rfl, f1, f2, f3⟩

set_option maxHeartbeats 1000000 in
set_option maxRecDepth 20000 in
theorem rd_idle (A : Nat) (w : World) :
    CallsD Tryz.prog 40 #[.pointer (some ⟨A, 0, none⟩), .pointer (some ⟨A + 1, 0, none⟩)] .returning w fun e u' w' => e = .returned (.tuple #[]) ∧ u' = .returning ∧ w' = w.alloc (.cells #[.int .i64 0, .int .i64 0] 50) := by
  refine callsD_of_wpS Tryz.func40 rfl fun c₀ cs hu => ?_
  apply wpS_seq
  apply wpS_region
  have htm : #[Value.pointer (some ⟨A, 0, none⟩), .pointer (some ⟨A + 1, 0, none⟩)] ++ Array.replicate (Tryz.f40.ntmps - #[Value.pointer (some ⟨A, 0, none⟩), .pointer (some ⟨A + 1, 0, none⟩)].size) undef = #[.pointer (some ⟨A, 0, none⟩), .pointer (some ⟨A + 1, 0, none⟩), undef, undef, undef, undef, undef, undef, undef, undef, undef] := by
    rw [Tryz.ntmps40]
    rfl
  rw [htm]
  clear htm
  simp [wpOpsS, go_sem, recoverD, hu, Exit.thenS, ta_no]
  refine wpS_of_wp ?_
  go_wp2
  refine ⟨rfl, .returning, ?_, _, results_none rfl _ _ _, rfl, rfl, rfl⟩
  rw [← hu]
end

section
open Go.ChangeShapes Go.WideShapes Go.ChangeAt Go.RowKit

theorem own_cap {w : World} {B : Nat} {a : Option Addr} {n c : Nat} {ts : List Tok} (h : ownT w B (.slice a n c) ts) : ts.length ≤ c := by
  rcases h.2 with ⟨he, h0⟩ | ⟨g, cap, cur, he, _, _, hn, _⟩
  · omega
  · simp only [Value.slice.injEq] at he
    omega

theorem results_rows2' {fn : Func} {p q : Tmp} {ty ty2 : TypeId} (h : fn.results = #[.cell p ty, .cell q ty2]) (tmps : Array Value) {P : Program} (w : World) (a1 a2 : Addr) (v v2 : Value)
    (hp : tmps.getD p undef = .pointer (some a1)) (hg : (loadVar ty a1).run P w = .ok v w)
    (hp2 : tmps.getD q undef = .pointer (some a2)) (hg2 : (loadVar ty2 a2).run P w = .ok v2 w) :
    (results fn tmps).run P w = .ok (.tuple #[v, v2]) w := by
  have hp' : tmps[p]?.getD undef = .pointer (some a1) := by simpa using hp
  have hp2' : tmps[q]?.getD undef = .pointer (some a2) := by simpa using hp2
  simp [results, h, hp', hp2', asAddr, hg, hg2]

/-- The two results of readText, read from their places. -/
theorem text_results {fn : Func} {p q : Tmp} (h : fn.results = #[.cell p 24, .cell q 50]) (tmps : Array Value) (w : World) (A : Nat) (nv : Value) (c d : Int) (hnv : ∃ a n m, nv = .slice a n m)
    (hp : tmps.getD p undef = .pointer (some ⟨A, 0, none⟩)) (hn : w.heap[A]? = some (.cells #[nv] 24 (0, 0))) (hq : tmps.getD q undef = .pointer (some ⟨A + 1, 0, none⟩)) (hw : w.heap[A + 1]? = some (.cells #[.int .i64 c, .int .i64 d] 50 (0, 0))) :
    (results fn tmps).run Tryz.prog w = .ok (.tuple #[nv, .agg #[.int .i64 c, .int .i64 d]]) w := by
  obtain ⟨a, n, m, rfl⟩ := hnv
  have h1 : (loadVar 24 ⟨A, 0, none⟩).run Tryz.prog w = .ok (.slice a n m) w := by
    have hc : w.cell? ⟨A, 0, none⟩ = some (.slice a n m) := by rw [cell_of_row _ _ _ _ _ _ hn]; rfl
    simp [loadVar, go_sem, hc]
  have h2 : (loadVar 50 ⟨A + 1, 0, none⟩).run Tryz.prog w = .ok (.agg #[.int .i64 c, .int .i64 d]) w := run_loadVar_row w (A + 1) 50 50 _ (0, 0) _ hw Tryz.underlying50 rfl (by kernel_rfl)
  exact results_rows2' h tmps w _ _ _ _ hp h1 hq h2

theorem lexes_small {s : ByteArray} {ts : List Tok} {n : Int} (h : Lexes s ts n) (hn : n < 0) : s.size ≤ 4000 := by
  rcases h with ⟨_, _, rfl⟩ | ⟨hs, _⟩
  · omega
  · exact hs

/-- What readText ends with. -/
def TextEnd (s : ByteArray) (B : Nat) (e : Ending) (w : World) : Prop := ∃ (ts : List Tok) (n : Int) (v : Value), Lexes s ts n ∧ ownNod w B v (parseR ts n s.size).1 ∧ e = .returned (.tuple #[v, .agg #[.int .i64 (parseR ts n s.size).2.1, .int .i64 (parseR ts n s.size).2.2]])

/-- A fault goes through the door: it is caught, and told. -/
theorem text_fault {s : ByteArray} {ts : List Tok} {n c q : Int} {w W : World} {tmps : Array Value} (hx : Lexes s ts n) (hP : parseR ts n s.size = ([], c, q)) (nv : Value) (c0 q0 : Int) (hn : W.heap[w.heap.size]? = some (.cells #[nv] 24 (0, 0))) (hw : W.heap[w.heap.size + 1]? = some (.cells #[.int .i64 c0, .int .i64 q0] 50 (0, 0)))
    (hb : Below w.heap.size w W) (hp : tmps.getD 2 undef = .pointer (some ⟨w.heap.size, 0, none⟩)) (hq : tmps.getD 3 undef = .pointer (some ⟨w.heap.size + 1, 0, none⟩)) :
    Leaves Tryz.prog Tryz.f20 tmps (fun e w' => TextEnd s w.heap.size e w' ∧ Below w.heap.size w w') [{ target := Target.fn (Fn.func 40) #[.pointer (some ⟨w.heap.size, 0, none⟩), .pointer (some ⟨w.heap.size + 1, 0, none⟩)], args := #[] }] (.panicking [fltV c q]) W := by
  refine leaves_cons (f := 40) (args := #[.pointer (some ⟨w.heap.size, 0, none⟩), .pointer (some ⟨w.heap.size + 1, 0, none⟩)]) (by simp) (by simp [go_sem]) ?_
  refine (rd_catch w.heap.size nv c0 q0 c q W hn hw).mono ?_
  rintro e u' w' ⟨rfl, rfl, f1, f2, f3⟩
  refine ⟨_, text_results rfl tmps w' w.heap.size _ c q ⟨_, _, _, rfl⟩ hp f1 hq f2, ?_, hb.trans f3⟩
  exact ⟨ts, n, _, hx, by rw [hP]; exact World.ownsRow_nil _ _ _ _, by rw [hP]⟩

/-- A program goes through the door as it is. -/
theorem text_good {s : ByteArray} {ts : List Tok} {n : Int} {w W : World} {tmps : Array Value} {a : Option Addr} {k c B : Nat} {m : List Nod} (hx : Lexes s ts n) (hP : parseR ts n s.size = (m, 0, 0)) (nv : Value) (c0 q0 : Int) (hn : W.heap[w.heap.size]? = some (.cells #[nv] 24 (0, 0))) (hw : W.heap[w.heap.size + 1]? = some (.cells #[.int .i64 c0, .int .i64 q0] 50 (0, 0)))
    (hb : Below w.heap.size w W) (ho : ownNod W B (.slice a k c) m) (hB : w.heap.size + 1 < B) (hp : tmps.getD 2 undef = .pointer (some ⟨w.heap.size, 0, none⟩)) (hq : tmps.getD 3 undef = .pointer (some ⟨w.heap.size + 1, 0, none⟩)) :
    Leaves Tryz.prog Tryz.f20 tmps (fun e w' => TextEnd s w.heap.size e w' ∧ Below w.heap.size w w') [{ target := Target.fn (Fn.func 40) #[.pointer (some ⟨w.heap.size, 0, none⟩), .pointer (some ⟨w.heap.size + 1, 0, none⟩)], args := #[] }] .returning
      (((W.setCell ⟨w.heap.size, 0, none⟩ (.slice a k c)).setCell ⟨w.heap.size + 1, 0, none⟩ (.int .i64 0)).setCell ⟨w.heap.size + 1, 1, none⟩ (.int .i64 0)) := by
  have k1 : (W.setCell ⟨w.heap.size, 0, none⟩ (.slice a k c)).heap[w.heap.size]? = some (.cells #[.slice a k c] 24 (0, 0)) := heap_setCell_same W _ 0 _ _ _ hn
  have k2 : (W.setCell ⟨w.heap.size, 0, none⟩ (.slice a k c)).heap[w.heap.size + 1]? = some (.cells #[.int .i64 c0, .int .i64 q0] 50 (0, 0)) := (heap_setCell_other W ⟨w.heap.size, 0, none⟩ (w.heap.size + 1) _ (by show w.heap.size + 1 ≠ w.heap.size; omega)).trans hw
  have k3 := heap_setCell_same _ (w.heap.size + 1) 0 _ _ (.int .i64 0) k2
  have k4 := heap_setCell_same _ (w.heap.size + 1) 1 _ _ (.int .i64 0) k3
  have ne : w.heap.size ≠ w.heap.size + 1 := by omega
  have k5 := (heap_setCell_other ((W.setCell ⟨w.heap.size, 0, none⟩ (.slice a k c)).setCell ⟨w.heap.size + 1, 0, none⟩ (.int .i64 0)) ⟨w.heap.size + 1, 1, none⟩ w.heap.size (.int .i64 0) ne).trans ((heap_setCell_other (W.setCell ⟨w.heap.size, 0, none⟩ (.slice a k c)) ⟨w.heap.size + 1, 0, none⟩ w.heap.size (.int .i64 0) ne).trans k1)
  have hlt : ∀ j, (Value.slice a k c).ownBlock = some j → w.heap.size + 1 < j := fun j hj => by have := (ho.lt j hj).1; omega
  have o1 : ownNod (((W.setCell ⟨w.heap.size, 0, none⟩ (.slice a k c)).setCell ⟨w.heap.size + 1, 0, none⟩ (.int .i64 0)).setCell ⟨w.heap.size + 1, 1, none⟩ (.int .i64 0)) B (.slice a k c) m :=
    ownsRow_setCell_other (ownsRow_setCell_other (ownsRow_setCell_other ho (fun e => by have := hlt _ e; simp at this; omega) _) (fun e => by have := hlt _ e; simp at this) _) (fun e => by have := hlt _ e; simp at this) _
  have b1 : Below w.heap.size w (((W.setCell ⟨w.heap.size, 0, none⟩ (.slice a k c)).setCell ⟨w.heap.size + 1, 0, none⟩ (.int .i64 0)).setCell ⟨w.heap.size + 1, 1, none⟩ (.int .i64 0)) :=
    ((hb.setCell (p := ⟨w.heap.size, 0, none⟩) (Nat.le_refl _) _).setCell (p := ⟨w.heap.size + 1, 0, none⟩) (by show w.heap.size ≤ w.heap.size + 1; omega) _).setCell (p := ⟨w.heap.size + 1, 1, none⟩) (by show w.heap.size ≤ w.heap.size + 1; omega) _
  generalize ((W.setCell ⟨w.heap.size, 0, none⟩ (.slice a k c)).setCell ⟨w.heap.size + 1, 0, none⟩ (.int .i64 0)).setCell ⟨w.heap.size + 1, 1, none⟩ (.int .i64 0) = X at *
  have z1 : w.heap.size + 1 < X.heap.size := (Array.getElem?_eq_some_iff.1 k4).1
  refine leaves_cons (f := 40) (args := #[.pointer (some ⟨w.heap.size, 0, none⟩), .pointer (some ⟨w.heap.size + 1, 0, none⟩)]) (by simp) (by simp [go_sem]) ?_
  refine (rd_idle w.heap.size X).mono ?_
  rintro e u' w' ⟨rfl, rfl, rfl⟩
  refine ⟨_, text_results rfl tmps _ w.heap.size _ 0 0 ⟨_, _, _, rfl⟩ hp ((Below.heap_alloc _ _ _ (by omega)).trans k5) hq ((Below.heap_alloc _ _ _ z1).trans k4), ?_, b1.alloc (by omega) _⟩
  exact ⟨ts, n, _, hx, by rw [hP]; exact ownNod_base (o1.alloc _) (by omega), by rw [hP]⟩

set_option maxHeartbeats 2000000 in
set_option maxRecDepth 20000 in
theorem rd_text (s : ByteArray) (hs : s.size ≤ 1048576) (w : World) (hv : Vars w) :
    Calls Tryz.prog 20 #[.string s] w fun e w' => TextEnd s w.heap.size e w' ∧ Below w.heap.size w w' := by
  have HS : Hid (s.size ≤ 1048576) := hs
  have B0 : Hid (Below w.heap.size w ((w.alloc (.cells #[.slice none 0 0] 24)).alloc (.cells #[.int .i64 0, .int .i64 0] 50))) := ((Below.refl _ w).alloc (Nat.le_refl _) _).alloc (by simp) _
  have HV : Hid (Vars ((w.alloc (.cells #[.slice none 0 0] 24)).alloc (.cells #[.int .i64 0, .int .i64 0] 50))) := hv.kept B0.out
  have hmf : ∀ (fn : Fn) (first cap : Array Value) (w : World), (Instr.makeFunc fn first cap).run Tryz.prog w = .ok (.func fn first cap) w := fun _ _ _ _ => rfl
  clear hs hv
  go_enter_defers Tryz.func20, Tryz.ntmps20
  go_wp2_with fail
  refine (lex_impl s _ HV.out (by have := HS.out; unfold maxLen; omega)).mono ?_
  rintro e w1 ⟨⟨ts, n, v1, hx, ho1, rfl⟩, b1⟩
  have HX : Hid (Lexes s ts n) := hx
  have hlen := lexes_len hx
  have hsg := lexes_sign hx
  have B1 : Hid (Below w.heap.size w w1) := B0.out.trans (b1.mono (by simp <;> omega))
  have hn1 : w1.heap[w.heap.size]? = some (.cells #[.slice none 0 0] 24 (0, 0)) := (b1.block _ (by simp <;> omega)).trans (heap_alloc2_old w _ _)
  have hw1 : w1.heap[w.heap.size + 1]? = some (.cells #[.int .i64 0, .int .i64 0] 50 (0, 0)) := (b1.block _ (by simp <;> omega)).trans (heap_alloc2_new w _ _)
  have HN1 : Hid (w1.heap[w.heap.size]? = some (.cells #[.slice none 0 0] 24 (0, 0))) := hn1
  have HW1 : Hid (w1.heap[w.heap.size + 1]? = some (.cells #[.int .i64 0, .int .i64 0] 50 (0, 0))) := hw1
  obtain ⟨a1, g1, c1, sp1, rfl, ha1, hT1, hB1, hl1, hr1⟩ := own_form ho1
  have HCP : Hid (ts.length ≤ c1) := own_cap ho1
  have HT1 : Hid (TokAt w1 g1 ts) := hT1
  have HL1 : Hid (0 < ts.length → g1 < w1.heap.size) := hl1
  have HA1 : Hid (0 < ts.length → a1 = some ⟨g1, 0, none⟩) := ha1
  clear hx ho1 hT1 hl1 hr1 ha1 b1 hB1 hn1 hw1 HV B0
  by_cases hn : 0 ≤ n
  · have HP : Hid (parseR ts n s.size = ([], 1, n)) := by
      show parseR ts n s.size = _
      rw [parseR, if_pos hn]
    go_wp2
    exact text_fault HX.out HP.out _ 0 0 HN1.out HW1.out B1.out rfl rfl
  · have HP : Hid (parseR ts n s.size = parseE ts s.size) := by
      show parseR ts n s.size = _
      rw [parseR, if_neg hn]
    have hn' : n < 0 := by omega
    go_wp2_with fail
    refine (rd_forms w1).mono ?_
    rintro e w2 ⟨M, rfl, hms, b2⟩
    have HMS : Hid (MS w2 M fTable) := hms
    have B2 : Hid (Below w.heap.size w w2) := B1.out.trans (b2.mono B1.out.size)
    have z1 : w.heap.size + 1 < w1.heap.size := (Array.getElem?_eq_some_iff.1 HW1.out).1
    have z2 := b2.size
    have HN2 : Hid (w2.heap[w.heap.size]? = some (.cells #[.slice none 0 0] 24 (0, 0))) := (b2.block _ (by omega)).trans HN1.out
    have HW2 : Hid (w2.heap[w.heap.size + 1]? = some (.cells #[.int .i64 0, .int .i64 0] 50 (0, 0))) := (b2.block _ (by omega)).trans HW1.out
    have HRS : Hid (RS (Below w2.heap.size w2) w2.heap.size g1 M ts s.size (w2.alloc (.cells (rdR a1 ts.length c1 s.size (.slice none 0 0) M) 93)) 0 (.slice none 0 0) []) := by
      have hb : Below w2.heap.size w2 (w2.alloc (.cells (rdR a1 ts.length c1 s.size (.slice none 0 0) M) 93)) := (Below.refl _ w2).alloc (Nat.le_refl _) _
      refine ⟨⟨a1, c1, heap_alloc_new w2 _, fun h => by rw [HA1.out h], by have := HCP.out; omega⟩, fun k hk => ((HT1.out k hk).below b2 (HL1.out (by omega))).below hb (by have := HL1.out (by omega); omega), fun h => by have := HL1.out h; omega, World.ownsRow_nil _ _ _ _, hb, by omega⟩
    have hR : (w2.alloc (.cells (rdR a1 ts.length c1 s.size (.slice none 0 0) M) 93)).heap.size = w2.heap.size + 1 := by simp
    have B3 : Hid (Below w2.heap.size w2 (w2.alloc (.cells (rdR a1 ts.length c1 s.size (.slice none 0 0) M) 93))) := (Below.refl _ w2).alloc (Nat.le_refl _) _
    clear hms b2 HN1 HW1 HT1
    go_wp2_with fail
    refine (rd_program HMS.out hlen (lexes_small HX.out hn') (fun k hk => lexes_at HX.out k hk) _ _ HRS.out).mono ?_
    rintro e w4 hout
    rcases hout with ⟨h1, h2, v', rfl, ho4, hb4⟩ | ⟨h1, rfl, hb4⟩
    · have B4 : Hid (Below w2.heap.size w2 w4) := B3.out.trans hb4
      have HO4 : Hid (ownNod w4 (w2.heap.size + 1) v' (parseE ts s.size).1) := ho4
      have hn4 : w4.heap[w.heap.size]? = some (.cells #[.slice none 0 0] 24 (0, 0)) := (B4.out.block _ (by omega)).trans HN2.out
      have hw4 : w4.heap[w.heap.size + 1]? = some (.cells #[.int .i64 0, .int .i64 0] 50 (0, 0)) := (B4.out.block _ (by omega)).trans HW2.out
      have HN4 : Hid (w4.heap[w.heap.size]? = some (.cells #[.slice none 0 0] 24 (0, 0))) := hn4
      have HW4 : Hid (w4.heap[w.heap.size + 1]? = some (.cells #[.int .i64 0, .int .i64 0] 50 (0, 0))) := hw4
      have HP2 : Hid (parseR ts n s.size = ((parseE ts s.size).1, 0, 0)) := HP.out.trans (Prod.ext rfl (Prod.ext h1 h2))
      have k0 : w4.cell? ⟨w.heap.size, 0, none⟩ = some (.slice none 0 0) := by rw [cell_of_row _ _ _ _ _ _ hn4]; rfl
      have k1 : w4.frozen? ⟨w.heap.size, 0, none⟩ = false := frozen_of_row w4 _ 0 _ _ hn4
      have k2 : w4.cell? ⟨w.heap.size + 1, 0, none⟩ = some (.int .i64 0) := by rw [cell_of_row _ _ _ _ _ _ hw4]; rfl
      have k3 : w4.cell? ⟨w.heap.size + 1, 1, none⟩ = some (.int .i64 0) := by rw [cell_of_row _ _ _ _ _ _ hw4]; rfl
      have k4 : ∀ j, w4.frozen? ⟨w.heap.size + 1, j, none⟩ = false := fun j => frozen_of_row w4 _ j _ _ hw4
      generalize (parseE ts s.size).1 = m at *
      obtain ⟨a5, g5, c5, sp5, hv5, _⟩ := ownNod_form HO4.out
      subst hv5
      clear ho4 hb4 hn4 hw4 h1 h2 HP
      go_wp2
      exact text_good HX.out HP2.out _ 0 0 HN4.out HW4.out (B2.out.trans (B4.out.mono (by omega))) HO4.out (by omega) rfl rfl
    · have B4 : Hid (Below w2.heap.size w2 w4) := B3.out.trans hb4
      have HN4 : Hid (w4.heap[w.heap.size]? = some (.cells #[.slice none 0 0] 24 (0, 0))) := (B4.out.block _ (by omega)).trans HN2.out
      have HW4 : Hid (w4.heap[w.heap.size + 1]? = some (.cells #[.int .i64 0, .int .i64 0] 50 (0, 0))) := (B4.out.block _ (by omega)).trans HW2.out
      have HP2 : Hid (parseR ts n s.size = ([], (parseE ts s.size).2.1, (parseE ts s.size).2.2)) := HP.out.trans (Prod.ext h1 rfl)
      clear h1 hb4 HP
      go_wp2
      exact text_fault HX.out HP2.out _ 0 0 HN4.out HW4.out (B2.out.trans (B4.out.mono (by omega))) rfl rfl

theorem impl_parse (s : ByteArray) (hs : s.size ≤ 1048576) (w : World) (hv : Vars w) :
    Calls Tryz.prog 7 #[.string s] w fun e w' => ParseEnd s w.heap.size e w' ∧ Below w.heap.size w w' := by
  have HS : Hid (s.size ≤ 1048576) := hs
  have HV : Hid (Vars w) := hv
  clear hs hv
  go_enter Tryz.func7, Tryz.ntmps7
  go_wp2_with fail
  refine (rd_text s HS.out w HV.out).mono ?_
  rintro e w1 ⟨⟨ts, n, v, hx, ho, rfl⟩, b1⟩
  have HX : Hid (Lexes s ts n) := hx
  have HO : Hid (ownNod w1 w.heap.size v (parseR ts n s.size).1) := ho
  have B1 : Hid (Below w.heap.size w w1) := b1
  obtain ⟨⟨P0, P1, P2⟩, hP⟩ : ∃ P, parseR ts n s.size = P := ⟨_, rfl⟩
  have HP : Hid (parseR ts n s.size = (P0, P1, P2)) := hP
  rw [hP] at HO ⊢
  have s1 := b1.size
  clear hP hx ho b1
  go_wp2
  go_quiet (fail)
  go_wp2
  go_ret3
  exact ⟨⟨ts, n, v, HX.out, by rw [HP.out]; exact ownNod_kept HO.out (below_drew_n ((Below.refl _ w1).alloc (Nat.le_refl _) _) _) (Nat.le_refl _), by rw [HP.out]; rfl⟩, below_drew_n (B1.out.alloc s1 _) _⟩

theorem impl_parses (s : ByteArray) (hs : s.size ≤ 1048576) (w : World) (hv : Vars w) :
    Calls Tryz.prog 12 #[.string s] w fun e w' => (∃ (ts : List Tok) (n : Int), Lexes s ts n ∧ e = .returned (.bool (decide ((parseR ts n s.size).2.1 = 0)))) ∧ Below w.heap.size w w' := by
  have HS : Hid (s.size ≤ 1048576) := hs
  have HV : Hid (Vars w) := hv
  clear hs hv
  go_enter Tryz.func12, Tryz.ntmps12
  go_wp2_with fail
  refine (impl_parse s HS.out w HV.out).mono ?_
  rintro e w1 ⟨⟨ts, n, v, hx, ho, rfl⟩, b1⟩
  have HX : Hid (Lexes s ts n) := hx
  clear hx ho
  obtain ⟨⟨P0, P1, P2⟩, hP⟩ : ∃ P, parseR ts n s.size = P := ⟨_, rfl⟩
  have HP : Hid (parseR ts n s.size = (P0, P1, P2)) := hP
  rw [hP]
  clear hP
  go_wp2
  go_ret
  refine ⟨⟨ts, n, HX.out, ?_⟩, b1⟩
  rw [HP.out]
  rfl
end
end Go.Proofs.YtobijbhgpgnfkaaGreatDoor
