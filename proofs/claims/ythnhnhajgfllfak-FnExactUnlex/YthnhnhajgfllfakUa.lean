/-
  Tokens that are handed in: how much they hold, and a copy of them in memory of the call's own. Conditions: written at each theorem.
-/
import Derived.Test.YthnhnhajgfllfakTk
import Derived.ProofKit
import Derived.OpenShut
import Derived.ShutString
import Derived.WalkSpells
import Derived.Deep.RegionLaw
namespace Go.Proofs.Ythnhnhajgfllfak
open Go.ChangeShapes Go.WideShapes Go.ChangeAt Go.RowKit
set_option linter.unusedVariables false

def aggT (t : Tok) : Value := .agg #[.int .i64 t.kind, .string t.text, .int .i64 t.n, .int .i64 t.place]

/-- The i-th token's cells lie in block b, from place o on. -/
structure ATok (w : World) (b o i : Nat) (t : Tok) : Prop where
  c0 : w.cell? ⟨b, o + i * 4, none⟩ = some (.int .i64 t.kind)
  c1 : w.cell? ⟨b, o + i * 4 + 1, none⟩ = some (.string t.text)
  c2 : w.cell? ⟨b, o + i * 4 + 2, none⟩ = some (.int .i64 t.n)
  c3 : w.cell? ⟨b, o + i * 4 + 3, none⟩ = some (.int .i64 t.place)

theorem ATok.below {w w' : World} {b o i B : Nat} {t : Tok} (h : ATok w b o i t) (hb : Below B w w') (hg : b < B) : ATok w' b o i t :=
  ⟨(World.cell?_of_block (hb.block b hg)).trans h.c0, (World.cell?_of_block (hb.block b hg)).trans h.c1, (World.cell?_of_block (hb.block b hg)).trans h.c2, (World.cell?_of_block (hb.block b hg)).trans h.c3⟩

def ARow (w : World) (b o : Nat) (ts : List Tok) : Prop := ∀ i, i < ts.length → ATok w b o i (ts.getD i noTok)

theorem ARow.below {w w' : World} {b o B : Nat} {ts : List Tok} (h : ARow w b o ts) (hb : Below B w w') (hg : 0 < ts.length → b < B) : ARow w' b o ts := fun i hi => (h i hi).below hb (hg (by omega))

theorem ARow.lt {w : World} {b o : Nat} {ts : List Tok} (h : ARow w b o ts) (hl : 0 < ts.length) : b < w.heap.size := cell_lt' (h 0 hl).c0

theorem sz_no (k x y : Int) (s : ByteArray) (l : Int) (h0 : 0 ≤ l) (hs : s.size ≤ maxLen) (w : World) (h : l < s.size) :
    Calls Try.prog 12 #[.agg #[.int .i64 k, .string s, .int .i64 x, .int .i64 y], .int .i64 l] w fun e w' =>
      e = .returned (.int .i64 (-1)) ∧ Below w.heap.size w w' := by
  unfold maxLen at hs
  go_enter Try.func12, Try.ntmps12
  go_wp2
  go_ret
  exact ⟨rfl, (Below.refl _ w).alloc (Nat.le_refl _) _⟩

theorem sz_yes (k x y : Int) (s : ByteArray) (l : Int) (h0 : 0 ≤ l) (hl : l ≤ 1048576) (w : World) (h : ¬ l < s.size) :
    Calls Try.prog 12 #[.agg #[.int .i64 k, .string s, .int .i64 x, .int .i64 y], .int .i64 l] w fun e w' =>
      e = .returned (.int .i64 (l - s.size)) ∧ Below w.heap.size w w' := by
  go_enter Try.func12, Try.ntmps12
  go_wp2
  go_ret
  exact ⟨rfl, (Below.refl _ w).alloc (Nat.le_refl _) _⟩

theorem to_one (k x y : Int) (s : ByteArray) (w : World) :
    Calls Try.prog 13 #[.agg #[.int .i64 k, .string s, .int .i64 x, .int .i64 y]] w fun e w' =>
      e = .returned (.agg #[.int .i64 k, .string s, .int .i64 x, .int .i64 y]) ∧ Below w.heap.size w w' := by
  go_enter Try.func13, Try.ntmps13
  go_wp2
  (try simp only [Exit.inBlock, Exit.then])
  refine bodyPost_ret (results_cell_row rfl _ _ (w.heap.size + 1) 33 #[.int .i64 k, .string s, .int .i64 x, .int .i64 y] (0, 0) _ rfl ?_ Try.underlying33 rfl (by kernel_rfl)) rfl ?_
  · rw [Below.heap_alloc _ _ _ (by simp), heap_alloc2_new]
  · exact ⟨rfl, (((Below.refl _ w).alloc (Nat.le_refl _) _).alloc (by simp) _).alloc (by simp; omega) _⟩

set_option maxRecDepth 20000 in
theorem sz_row (a : Option Addr) (b o cap : Nat) (ts : List Tok) (hne : 0 < ts.length → a = some ⟨b, o, none⟩) (hm : ts.length ≤ maxLen) (hst : ∀ i, i < ts.length → (textOf ts i).size ≤ maxLen) (w : World) (hA : ARow w b o ts) :
    Calls Try.prog 5 #[.slice a ts.length cap, .int .i64 1048576] w fun e w' =>
      (∃ r : Int, e = .returned (.int .i64 r) ∧ (0 ≤ r → ts.length + lens ts ts.length ≤ 1048576)) ∧ Below w.heap.size w w' := by
  by_cases hbig : (1048576 : Int) < ts.length
  · unfold maxLen at hm
    go_enter Try.func5, Try.ntmps5
    go_wp2
    go_ret
    exact ⟨⟨_, rfl, fun h => by simp at h⟩, Below.refl _ _⟩
  · clear hm
    go_enter Try.func5, Try.ntmps5
    go_wp2
    go_loopw [1, 5] (fun l i wr => ∃ k : Nat, k ≤ ts.length ∧ (ts.length : Int) + lens ts k ≤ 1048576 ∧ l = .int .i64 (1048576 - ts.length - lens ts k) ∧ i = .int .i64 k ∧ Below w.heap.size w wr) (fun _ i _ => ts.length - (intOf i).toNat)
    case atStart => exact ⟨0, by omega, by simp [lens]; omega, by simp [lens], rfl, Below.refl _ _⟩
    case round =>
      obtain ⟨k, hk, hl, rfl, rfl, hb⟩ := hrel
      by_cases hin : k < ts.length
      · have e1 : (k : Int) < ts.length := by omega
        obtain rfl := hne (by omega)
        have t := (hA.below hb (fun h => hA.lt h)) k hin
        have q0 := t.c0
        have q1 : wr.cell? ⟨b, o + k * 4 + 1, none⟩ = some (.string (textOf ts k)) := t.c1
        have q2 := t.c2
        have q3 := t.c3
        clear t
        generalize (ts.getD k noTok).kind = x0 at *
        generalize (ts.getD k noTok).n = x2 at *
        generalize (ts.getD k noTok).place = x3 at *
        have hsm := hst k hin
        have hsize := hb.size
        by_cases hc : (1048576 - (ts.length : Int) - lens ts k) < (textOf ts k).size
        · go_wp2_with fail
          refine (sz_no _ _ _ _ _ (by omega) hsm wr hc).mono ?_
          rintro e w1 ⟨rfl, hb1⟩
          go_wp2
          go_ret
          exact ⟨⟨_, rfl, fun h => by simp at h⟩, hb.trans (hb1.mono hsize)⟩
        · have HL : Hid (lens ts (k + 1) = lens ts k + (textOf ts k).size) := rfl
          go_wp2_with fail
          refine (sz_yes _ _ _ _ _ (by omega) (by omega) wr (by omega)).mono ?_
          rintro e w1 ⟨rfl, hb1⟩
          have hp : ¬ (1048576 - (ts.length : Int) - lens ts k - (textOf ts k).size) < 0 := by omega
          go_wp2
          go_roundw
          case rel => exact ⟨k + 1, by omega, by rw [HL.out]; omega, by rw [HL.out]; congr 1; omega, by go_num, hb.trans (hb1.mono hsize)⟩
          case measure => simp [intOf]; omega
      · obtain rfl : k = ts.length := by omega
        go_wp2
        go_ret
        exact ⟨⟨_, rfl, fun _ => by omega⟩, hb⟩

theorem info_tok : (Try.prog.info? 33).map (fun i => (i.zero, i.size, i.bytes)) = some (some (.agg #[.int .i64 0, .string ⟨#[]⟩, .int .i64 0, .int .i64 0]), 4, 40) := by kernel_rfl

/-- The first k tokens, and behind them as many empty ones as are wanting. -/
def mix (ts : List Tok) (k : Nat) : List Tok := ts.take k ++ List.replicate (ts.length - k) noTok

theorem mix_length (ts : List Tok) (k : Nat) (h : k ≤ ts.length) : (mix ts k).length = ts.length := by simp [mix]; omega

theorem mix_all (ts : List Tok) : mix ts ts.length = ts := by simp [mix]

theorem mix_set (ts : List Tok) (k : Nat) (h : k < ts.length) : (mix ts k).set k (ts.getD k noTok) = mix ts (k + 1) := by
  apply List.ext_getElem?
  intro i
  have e : ts.getD k noTok = ts[k] := by simp [List.getD, List.getElem?_eq_getElem h]
  rw [List.getElem?_set, mix_length ts k (by omega), e]
  by_cases hik : k = i
  · subst hik
    rw [if_pos rfl, if_pos h, mix, List.getElem?_append_left (by simp; omega), List.getElem?_take_of_lt (by omega), List.getElem?_eq_getElem h]
  · rw [if_neg hik, mix, mix, List.getElem?_append, List.getElem?_append]
    by_cases hi : i < k
    · rw [if_pos (by simp; omega), if_pos (by simp; omega), List.getElem?_take_of_lt hi, List.getElem?_take_of_lt (by omega)]
    · rw [if_neg (by simp; omega), if_neg (by simp; omega)]
      simp only [List.length_take, List.getElem?_replicate]
      by_cases hi2 : i < ts.length
      · rw [if_pos (by omega), if_pos (by omega)]
      · rw [if_neg (by omega), if_neg (by omega)]

theorem flat_set (t : Tok) : ∀ (l : List Tok) (k : Nat), k < l.length →
    ((((l.flatMap tcells).set (k * 4) (.int .i64 t.kind)).set (k * 4 + 1) (.string t.text)).set (k * 4 + 2) (.int .i64 t.n)).set (k * 4 + 3) (.int .i64 t.place) = (l.set k t).flatMap tcells
  | [], k, h => by simp at h
  | x :: l, 0, h => by simp [tcells]
  | x :: l, k + 1, h => by
    have ih := flat_set t l k (by simpa using h)
    rw [List.set_cons_succ, List.flatMap_cons, List.flatMap_cons, ← ih]
    have e : (k + 1) * 4 = k * 4 + 4 := by omega
    rw [e]
    simp [tcells]

theorem set_tok (w : World) (g k : Nat) (l : List Tok) (e : TypeId) (t : Tok) (hg : w.heap[g]? = some (.cells (l.flatMap tcells).toArray e (0, 0))) (hk : k < l.length) :
    ((((w.setCell ⟨g, k * 4, none⟩ (.int .i64 t.kind)).setCell ⟨g, k * 4 + 1, none⟩ (.string t.text)).setCell ⟨g, k * 4 + 2, none⟩ (.int .i64 t.n)).setCell ⟨g, k * 4 + 3, none⟩ (.int .i64 t.place)).heap[g]? =
      some (.cells ((l.set k t).flatMap tcells).toArray e (0, 0)) := by
  rw [heap_setCell_same _ _ _ _ _ _ (heap_setCell_same _ _ _ _ _ _ (heap_setCell_same _ _ _ _ _ _ (heap_setCell_same _ _ _ _ _ _ hg)))]
  rw [List.setIfInBounds_toArray, List.setIfInBounds_toArray, List.setIfInBounds_toArray, List.setIfInBounds_toArray, flat_set t l k hk]

theorem made_toks (n : Nat) : madeCells (Value.agg #[.int .i64 0, .string ⟨#[]⟩, .int .i64 0, .int .i64 0]).cells (n * 4) = ((List.replicate n noTok).flatMap tcells).toArray := by
  apply Array.ext
  · have e : ((List.replicate n noTok).flatMap tcells).toArray.size = n * 4 := by rw [List.size_toArray, flat_length, List.length_replicate]
    rw [e]; simp [madeCells]
  · intro i h1 h2
    have hi : i < n * 4 := by simpa [madeCells] using h1
    have e := flat_at (List.replicate n noTok) (i / 4) (i % 4) (by simp; omega) (by omega)
    rw [show i / 4 * 4 + i % 4 = i by omega] at e
    have e2 : (List.replicate n noTok).getD (i / 4) noTok = noTok := by simp only [List.getD, List.getElem?_replicate]; split <;> rfl
    rw [e2] at e
    have h3 : i < ((List.replicate n noTok).flatMap tcells).length := by rw [flat_length]; simpa using hi
    rw [List.getElem?_eq_getElem h3] at e
    have e3 : ((List.replicate n noTok).flatMap tcells).toArray[i] = ((List.replicate n noTok).flatMap tcells)[i] := by simp
    rw [e3]
    have hm : i % 4 = 0 ∨ i % 4 = 1 ∨ i % 4 = 2 ∨ i % 4 = 3 := by omega
    rcases hm with hm | hm | hm | hm <;> simp [madeCells, Value.cells, hm, tcells, noTok] at e ⊢ <;> exact e.symm

set_option maxRecDepth 20000 in
theorem to_row (a : Option Addr) (b o cap : Nat) (ts : List Tok) (hne : 0 < ts.length → a = some ⟨b, o, none⟩) (hl : ts.length ≤ 1048576) (w : World) (hA : ARow w b o ts) :
    Calls Try.prog 7 #[.slice a ts.length cap] w fun e w' =>
      e = .returned (.slice (some ⟨w.heap.size, 0, none⟩) ts.length ts.length) ∧ w'.heap[w.heap.size]? = some (.cells (ts.flatMap tcells).toArray 33 (0, 0)) ∧ Below w.heap.size w w' := by
  obtain ⟨i0, hi, hz0, hz1, hz2⟩ := info_parts info_tok
  have hmk := run_make (P := Try.prog) w 25 33 i0 _ Try.underlying25 hi hz0 .i64 .i64 (ts.length : Int) (ts.length : Int) (by omega) (by omega) (by rw [hz2]; omega) (by omega)
  rw [hz1] at hmk
  have ez : ((ts.length : Nat) : Int).toNat = ts.length := by omega
  rw [ez, made_toks] at hmk
  clear hi hz0 hz1 hz2 ez
  have hA' : Hid (ARow w b o ts) := hA
  clear hA
  go_enter Try.func7, Try.ntmps7
  go_wp2
  clear hmk
  go_loopw [4] (fun i wr => ∃ k : Nat, k ≤ ts.length ∧ i = .int .i64 k ∧ Hid (wr.heap[w.heap.size]? = some (.cells ((mix ts k).flatMap tcells).toArray 33 (0, 0))) ∧ Below w.heap.size w wr) (fun i _ => ts.length - (intOf i).toNat)
  case atStart =>
    refine ⟨0, by omega, rfl, ?_, (Below.refl _ _).alloc (Nat.le_refl _) _⟩
    show (w.alloc _).heap[w.heap.size]? = _
    rw [(MapKept.heap_alloc w _).1]
    simp [mix]
  case round =>
    obtain ⟨k, hk, rfl, hroom, hb⟩ := hrel
    by_cases hin : k < ts.length
    · have e1 : (k : Int) < ts.length := by omega
      obtain rfl := hne (by omega)
      have t := (hA'.out.below hb (fun h => hA'.out.lt h)) k hin
      have q0 := t.c0
      have q1 := t.c1
      have q2 := t.c2
      have q3 := t.c3
      obtain ⟨⟨x0, x1, x2, x3⟩, hx⟩ : ∃ x, ts.getD k noTok = x := ⟨_, rfl⟩
      have HX : Hid (ts.getD k noTok = ⟨x0, x1, x2, x3⟩) := hx
      rw [hx] at q0 q1 q2 q3
      clear t hx
      have hsize := hb.size
      go_wp2_with fail
      refine (to_one _ _ _ _ wr).mono ?_
      rintro e w1 ⟨rfl, hb1⟩
      have hr1 : w1.heap[w.heap.size]? = some (.cells ((mix ts k).flatMap tcells).toArray 33 (0, 0)) := (hb1.block _ (Array.getElem?_eq_some_iff.1 hroom.out).1).trans hroom.out
      have HR1 : Hid (w1.heap[w.heap.size]? = some (.cells ((mix ts k).flatMap tcells).toArray 33 (0, 0))) := hr1
      have f0 : w1.frozen? ⟨w.heap.size, k * 4, none⟩ = false := frozen_of_row w1 _ _ _ _ hr1
      have f1 : w1.frozen? ⟨w.heap.size, k * 4 + 1, none⟩ = false := frozen_of_row w1 _ _ _ _ hr1
      have f2 : w1.frozen? ⟨w.heap.size, k * 4 + 2, none⟩ = false := frozen_of_row w1 _ _ _ _ hr1
      have f3 : w1.frozen? ⟨w.heap.size, k * 4 + 3, none⟩ = false := frozen_of_row w1 _ _ _ _ hr1
      have c : ∀ j, j < 4 → w1.cell? ⟨w.heap.size, k * 4 + j, none⟩ = (tcells ((mix ts k).getD k noTok))[j]? := fun j hj => by
        rw [cell_of_row w1 _ _ _ _ _ hr1, ← flat_at (mix ts k) k j (by rw [mix_length ts k hk]; exact hin) hj]
        simp
      generalize (mix ts k).getD k noTok = y at c
      obtain ⟨y0, y1, y2, y3⟩ := y
      have c0 : w1.cell? ⟨w.heap.size, k * 4, none⟩ = some (.int .i64 y0) := c 0 (by omega)
      have c1 : w1.cell? ⟨w.heap.size, k * 4 + 1, none⟩ = some (.string y1) := c 1 (by omega)
      have c2 : w1.cell? ⟨w.heap.size, k * 4 + 2, none⟩ = some (.int .i64 y2) := c 2 (by omega)
      have c3 : w1.cell? ⟨w.heap.size, k * 4 + 3, none⟩ = some (.int .i64 y3) := c 3 (by omega)
      clear c hr1
      go_wp2
      go_roundw
      case rel =>
        refine ⟨k + 1, by omega, by go_num, ?_, ?_⟩
        · have h := set_tok w1 w.heap.size k (mix ts k) 33 (ts.getD k noTok) HR1.out (by rw [mix_length ts k hk]; exact hin)
          rw [mix_set ts k hin, HX.out] at h
          exact h
        · exact ((((hb.trans (hb1.mono hsize)).setCell (p := ⟨w.heap.size, k * 4, none⟩) (Nat.le_refl _) _).setCell (p := ⟨w.heap.size, k * 4 + 1, none⟩) (Nat.le_refl _) _).setCell (p := ⟨w.heap.size, k * 4 + 2, none⟩) (Nat.le_refl _) _).setCell (p := ⟨w.heap.size, k * 4 + 3, none⟩) (Nat.le_refl _) _
      case measure => simp [intOf]; omega
    · obtain rfl : k = ts.length := by omega
      have hr := hroom.out
      rw [mix_all] at hr
      have HR : Hid (wr.heap[w.heap.size]? = some (.cells (ts.flatMap tcells).toArray 33 (0, 0))) := hr
      clear hr
      go_wp2
      go_ret
      exact ⟨rfl, HR.out, hb⟩
end Go.Proofs.Ythnhnhajgfllfak
