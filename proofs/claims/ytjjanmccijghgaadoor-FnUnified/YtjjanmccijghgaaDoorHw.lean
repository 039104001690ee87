/-
  The writer of types as it landed: the builder in it. Conditions: written at each theorem.
-/
import Derived.Test.YtjjanmccijghgaaDoorRows
import Derived.WalkKit
import Derived.ProofKit
import Derived.WalkSpells
import Derived.ShutString
import Derived.Lib.FrozenHead2
import Derived.Lib.OthersKept
import Derived.Lib.Builder
import Derived.Lib.UnsafeStr
import Derived.Shelf.RegionOpenPlain
namespace Go.Proofs.YtjjanmccijghgaaDoor
open Go.ChangeShapes Go.WideShapes Go.ChangeAt Go.RowKit
set_option linter.unusedVariables false

theorem wr_size : (Tryd.prog.info? 70).map (·.size) = some 2 := by kernel_rfl
theorem wr_lies : liesAt Tryd.prog Tryd.prog.depth 72 (3 / Tryd.prog.cellsOf 72) 0 70 1 = true := by kernel_rfl
theorem wr_u8 : (Tryd.prog.info? 5).map (fun i => (i.zero, i.size, i.bytes)) = some (some (.int .u8 0), 1, 1) := by kernel_rfl
theorem wr_cells8 : Tryd.prog.cellsOf 5 = 1 := by kernel_rfl

/-- A writer of types in block b: what its text is so far, its free variables; q tells what the builder's own address cell holds. -/
def PrA (q : Value) (B b : Nat) (bs : List UInt8) (nv : Value) (w : World) : Prop :=
  B ≤ b ∧ ∃ v, w.heap[b]? = some (.cells #[q, v, nv] 72 (0, 0)) ∧ w.ownsRowF B 5 1 v bs.length (Lib.byteCells bs)

def PrS (B b : Nat) (bs : List UInt8) (nv : Value) (w : World) : Prop := PrA (.pointer none) B b bs nv w ∨ PrA (.pointer (some ⟨b, 0, none⟩)) B b bs nv w

theorem PrA.ne {q : Value} {B b : Nat} {bs : List UInt8} {nv v : Value} {w : World} (hb : w.heap[b]? = some (.cells #[q, v, nv] 72 (0, 0))) (ho : w.ownsRowF B 5 1 v bs.length (Lib.byteCells bs)) : v.ownBlock ≠ some b := Lib.ownBlock_neF ho hb (by decide)

/-- What a writer leaves as it was: all below B, and every block but the writer's and rows of bytes. -/
structure Fr (B b : Nat) (w w' : World) : Prop where
  bel : Below B w w'
  oth : Lib.OthersKept 5 (some b) w w'

theorem Fr.refl (B b : Nat) (w : World) : Fr B b w w := ⟨Below.refl B w, Lib.OthersKept.refl _ _ w⟩
theorem Fr.trans {B b : Nat} {u v w : World} (h : Fr B b u v) (k : Fr B b v w) : Fr B b u w := ⟨h.bel.trans k.bel, h.oth.trans k.oth⟩

theorem oth_of_below {w w' : World} (h : Below w.heap.size w w') (e : TypeId) (b : Option Nat) : Lib.OthersKept e b w w' := by
  intro k o hk _ _
  rw [h.block k (Array.getElem?_eq_some_iff.1 hk).1]
  exact hk

theorem Fr.of_below {B b : Nat} {w w' : World} (hB : B ≤ w.heap.size) (h : Below w.heap.size w w') : Fr B b w w' := ⟨h.mono hB, oth_of_below h _ _⟩

/-- A block that is no writer's and no row of bytes stands. -/
theorem Fr.row {B b g : Nat} {w w' : World} (h : Fr B b w w') {cs : Array Value} {t : TypeId} {z : Nat × Nat} (hg : w.heap[g]? = some (.cells cs t z)) (hne : g ≠ b) (ht : t ≠ 5) : w'.heap[g]? = some (.cells cs t z) :=
  h.oth g _ hg (fun e => hne (Option.some.inj e)) (fun c fz e => ht (by injection e))

theorem own_below {w w' : World} {B : Nat} {e : TypeId} {v : Value} {n : Nat} {xs : List Value} (h : w.ownsRowF B e 1 v n xs) (hb : Below w.heap.size w w') : w'.ownsRowF B e 1 v n xs := by
  refine ⟨h.1, ?_⟩
  rcases h.2 with hn | ⟨g, cap, cur, fz, hv, hbg, hg, rest⟩
  · exact Or.inl hn
  · exact Or.inr ⟨g, cap, cur, fz, hv, hbg, (hb.block g (Array.getElem?_eq_some_iff.1 hg).1).trans hg, rest⟩

theorem PrA.below {q : Value} {B b : Nat} {bs : List UInt8} {nv : Value} {w w' : World} (h : PrA q B b bs nv w) (hb : Below w.heap.size w w') : PrA q B b bs nv w' := by
  obtain ⟨hB, v, hk, ho⟩ := h
  exact ⟨hB, v, (hb.block b (Array.getElem?_eq_some_iff.1 hk).1).trans hk, own_below ho hb⟩

theorem PrS.below {B b : Nat} {bs : List UInt8} {nv : Value} {w w' : World} (h : PrS B b bs nv w) (hb : Below w.heap.size w w') : PrS B b bs nv w' := h.elim (fun x => Or.inl (x.below hb)) (fun x => Or.inr (x.below hb))

theorem PrS.drew {B b : Nat} {bs : List UInt8} {nv : Value} {w : World} (h : PrS B b bs nv w) : PrS B b bs nv w.drew := h

theorem PrS.at {B b : Nat} {bs : List UInt8} {nv : Value} {w : World} (h : PrS B b bs nv w) : ∃ q, PrA q B b bs nv w := h.elim (fun x => ⟨_, x⟩) (fun x => ⟨_, x⟩)

theorem PrS.lt {B b : Nat} {bs : List UInt8} {nv : Value} {w : World} (h : PrS B b bs nv w) : B ≤ b ∧ b < w.heap.size := by
  obtain ⟨q, hB, v, hk, _⟩ := h.at
  exact ⟨hB, (Array.getElem?_eq_some_iff.1 hk).1⟩

theorem PrS.cells {B b : Nat} {bs : List UInt8} {nv : Value} {w : World} (h : PrS B b bs nv w) : w.cell? ⟨b, 2, none⟩ = some nv ∧ w.frozen? ⟨b, 2, none⟩ = false := by
  obtain ⟨q, hB, v, hk, _⟩ := h.at
  refine ⟨?_, Lib.frozen_of_heap hk 2⟩
  rw [Lib.cell_of_heap hk]
  rfl

theorem pr_set {b i : Nat} {cs : Array Value} {t : TypeId} {w : World} (hk : w.heap[b]? = some (.cells cs t (0, 0))) (x : Value) : (w.setCell ⟨b, i, none⟩ x).heap[b]? = some (.cells (cs.setIfInBounds i x) t (0, 0)) := by
  have hlt := (Array.getElem?_eq_some_iff.1 hk).1
  have he := (Array.getElem?_eq_some_iff.1 hk).2
  simp only [World.setCell]
  rw [Array.getElem?_modify]
  simp [hk]

theorem own_set {w : World} {B b i : Nat} {e : TypeId} {v : Value} {n : Nat} {xs : List Value} (h : w.ownsRowF B e 1 v n xs) (hne : v.ownBlock ≠ some b) (x : Value) : (w.setCell ⟨b, i, none⟩ x).ownsRowF B e 1 v n xs := by
  refine ⟨h.1, ?_⟩
  rcases h.2 with hn | ⟨g, cap, cur, fz, hv, hbg, hg, rest⟩
  · exact Or.inl hn
  · refine Or.inr ⟨g, cap, cur, fz, hv, hbg, ?_, rest⟩
    rw [Below.heap_setCell]
    · exact hg
    · intro e1
      apply hne
      rw [hv]
      simp only [Value.ownBlock]
      congr 1

theorem PrS.names {B b : Nat} {bs : List UInt8} {nv : Value} {w : World} (h : PrS B b bs nv w) (x : Value) : PrS B b bs x (w.setCell ⟨b, 2, none⟩ x) := by
  rcases h with ⟨hB, v, hk, ho⟩ | ⟨hB, v, hk, ho⟩
  · exact Or.inl ⟨hB, v, by rw [pr_set hk]; rfl, own_set ho (PrA.ne hk ho) _⟩
  · exact Or.inr ⟨hB, v, by rw [pr_set hk]; rfl, own_set ho (PrA.ne hk ho) _⟩

theorem Fr.set {B b i : Nat} {u w : World} (h : Fr B b u w) (hB : B ≤ b) (x : Value) : Fr B b u (w.setCell ⟨b, i, none⟩ x) := ⟨h.bel.setCell (p := ⟨b, i, none⟩) hB x, h.oth.setCell ⟨b, i, none⟩ rfl x⟩

set_option maxRecDepth 100000 in
theorem wr_used (b : Nat) (w : World) (h0 : w.cell? ⟨b, 0, none⟩ = some (.pointer (some ⟨b, 0, none⟩))) :
    Calls Tryd.prog 56 #[.pointer (some ⟨b, 0, none⟩)] w fun e w' => e = .returned (.tuple #[]) ∧ w' = w := by
  obtain ⟨j, hj, _⟩ := Option.map_eq_some_iff.1 wr_size
  go_enter Tryd.func56, Tryd.ntmps56
  go_wp2
  rw [Lib.run_neq_ptr_same w _ Tryd.underlying68 hj]
  go_wp2
  go_end0
  exact ⟨rfl, rfl⟩

set_option maxRecDepth 100000 in
theorem wr_fresh (b : Nat) (w : World) (h0 : w.cell? ⟨b, 0, none⟩ = some (.pointer none)) (hsh : w.shape? b = some (72, 3)) (hfz : w.frozen? ⟨b, 0, none⟩ = false) :
    Calls Tryd.prog 56 #[.pointer (some ⟨b, 0, none⟩)] w fun e w' => e = .returned (.tuple #[]) ∧ w' = w.setCell ⟨b, 0, none⟩ (.pointer (some ⟨b, 0, none⟩)) := by
  obtain ⟨j, hj, hjs⟩ := Option.map_eq_some_iff.1 wr_size
  go_enter Tryd.func56, Tryd.ntmps56
  go_wp2
  rw [Lib.run_to_unsafe w ⟨b, 0, none⟩ Tryd.underlying68 Tryd.underlying107 hj (by rw [hjs]; decide) hsh (Nat.zero_lt_succ 2)]
  simp only [Result.andThen]
  rw [Oper.upon_value]
  go_wp2
  rw [run_callFunc_extern Tryd.func62 (by kernel_rfl) (by kernel_rfl) (by kernel_rfl) (e := Extern.AbiNoEscape.same) (by kernel_rfl)]
  rw [Lib.run_noEscape]
  simp only [Result.andThen]
  rw [Oper.upon_value]
  go_wp2
  rw [Lib.run_from_unsafe w ⟨b, 0, none⟩ Tryd.underlying107 Tryd.underlying68 hj hsh wr_lies]
  simp only [Result.andThen]
  rw [Oper.upon_value]
  go_wp2
  go_end0
  exact ⟨rfl, rfl⟩

theorem wr_check (B b : Nat) (bs : List UInt8) (nv : Value) (w : World) (h : PrS B b bs nv w) :
    Calls Tryd.prog 56 #[.pointer (some ⟨b, 0, none⟩)] w fun e w' => e = .returned (.tuple #[]) ∧ PrA (.pointer (some ⟨b, 0, none⟩)) B b bs nv w' ∧ Fr B b w w' := by
  rcases h with ⟨hB, v, hk, ho⟩ | ⟨hB, v, hk, ho⟩
  · refine (wr_fresh b w (by rw [Lib.cell_of_heap hk]; rfl) (by simp [World.shape?, hk]) (Lib.frozen_of_heap hk 0)).mono ?_
    rintro e w' ⟨rfl, rfl⟩
    exact ⟨rfl, ⟨hB, v, by rw [pr_set hk]; rfl, own_set ho (PrA.ne hk ho) _⟩, (Fr.refl B b w).set hB _⟩
  · refine (wr_used b w (by rw [Lib.cell_of_heap hk]; rfl)).mono ?_
    rintro e w' ⟨rfl, rfl⟩
    exact ⟨rfl, ⟨hB, v, hk, ho⟩, Fr.refl B b _⟩

theorem pr_put {B b : Nat} {bs : List UInt8} {nv q v v' : Value} {w : World} (hB : B ≤ b) (hk : w.heap[b]? = some (.cells #[q, v, nv] 72 (0, 0))) (ho : w.ownsRowF B 5 1 v' bs.length (Lib.byteCells bs)) : PrA q B b bs nv (w.setCell ⟨b, 1, none⟩ v') :=
  ⟨hB, v', by rw [pr_set hk]; rfl, own_set ho (Lib.ownBlock_neF ho hk (by decide)) _⟩

set_option maxHeartbeats 2000000 in
set_option maxRecDepth 100000 in
theorem wr_byte (B b : Nat) (bs : List UInt8) (nv : Value) (c : UInt8) (w : World) (h : PrS B b bs nv w) (hlen : bs.length + 1 ≤ 140737488355328) (hBw : B ≤ w.heap.size) :
    Calls Tryd.prog 57 #[.pointer (some ⟨b, 0, none⟩), .int .u8 c.toNat] w fun e w' => e = .returned .nilIface ∧ PrS B b (bs ++ [c]) nv w' ∧ Fr B b w w' := by
  obtain ⟨i0, hi, hz0, hz1, hz2⟩ := info_parts wr_u8
  go_enter Tryd.func57, Tryd.ntmps57
  go_wp2_with fail
  refine (wr_check B b bs nv _ h).mono ?_
  rintro e w1 ⟨rfl, h1, hb1⟩
  obtain ⟨hB, v, hbk, hown⟩ := h1
  have hne := PrA.ne hbk hown
  have c0 : w1.cell? ⟨b, 0, none⟩ = some (.pointer (some ⟨b, 0, none⟩)) := by rw [Lib.cell_of_heap hbk]; rfl
  have c1 : w1.cell? ⟨b, 1, none⟩ = some v := by rw [Lib.cell_of_heap hbk]; rfl
  have hbl := Lib.byteCells_length bs
  go_wp2_with (at_builtin; refine wpList_append_ownF _ rfl _ _ 22 rfl B 5 i0 (.int .u8 0) 1 1 Tryd.underlying22 hi hz0 hz1 hz2 rfl (by decide) _ _ _ rfl (hown.alloc _) ⟨w1.heap.size, 0, none⟩ 1 1 [.int .u8 c.toNat] rfl rfl ?c1 ?c2 ?c3 ?c4 ?c5 ?_)
  case c1 =>
    intro j u hj
    match j, hj with
    | 0, hj => simp at hj; subst hj; simp [Addr.add]
  case c2 => intro u hu; simp at hu; subst hu; rfl
  case c3 => unfold maxLen; omega
  case c4 => omega
  case c5 => have := hb1.bel.size; simp; omega
  intro v' w2 hown' hgrow _
  have hlt : b < w1.heap.size := (Array.getElem?_eq_some_iff.1 hbk).1
  have hb2 : w2.heap[b]? = some (.cells #[.pointer (some ⟨b, 0, none⟩), v, nv] 72 (0, 0)) := by
    rw [hgrow.block b (by simp; omega) (fun e => hne e.symm), Lib.alloc_old w1 _ b hlt]
    exact hbk
  have d0 : w2.cell? ⟨b, 0, none⟩ = some (.pointer (some ⟨b, 0, none⟩)) := by rw [Lib.cell_of_heap hb2]; rfl
  have d1 : w2.cell? ⟨b, 1, none⟩ = some v := by rw [Lib.cell_of_heap hb2]; rfl
  have f1 : w2.frozen? ⟨b, 1, none⟩ = false := Lib.frozen_of_heap hb2 1
  obtain ⟨g, cap, rfl⟩ : ∃ g cap, v' = .slice (some ⟨g, 0, none⟩) (bs.length + 1) cap := by
    rcases hown'.2 with ⟨_, h0⟩ | ⟨g, cap, cur, fz, hv, _⟩
    · omega
    · exact ⟨g, cap, hv⟩
  go_wp2
  go_ret
  refine ⟨rfl, Or.inr (pr_put hB hb2 (by rw [Lib.byteCells_append, List.length_append]; exact hown')), hb1.trans ⟨?_, ?_⟩⟩
  · exact (((Below.refl B w1).alloc (by have := hb1.bel.size; omega) _).grown hgrow (by have := hb1.bel.size; simp; omega) (fun k hk => (hown.lt k hk).1)).setCell (p := ⟨b, 1, none⟩) hB _
  · exact ((((Lib.OthersKept.refl _ _ w1).alloc _).grown hgrow (Lib.ownsRowF_kind (hown.alloc _)))).setCell ⟨b, 1, none⟩ rfl _

set_option maxHeartbeats 2000000 in
set_option maxRecDepth 100000 in
theorem wr_text (B b : Nat) (bs : List UInt8) (nv : Value) (s : ByteArray) (w : World) (h : PrS B b bs nv w) (hlen : bs.length + s.size ≤ 140737488355328) (hBw : B ≤ w.heap.size) :
    Calls Tryd.prog 45 #[.pointer (some ⟨b, 0, none⟩), .string s] w fun e w' => e = .returned (.tuple #[.int .i64 s.size, .nilIface]) ∧ PrS B b (bs ++ s.data.toList) nv w' ∧ Fr B b w w' := by
  obtain ⟨i0, hi, hz0, hz1, hz2⟩ := info_parts wr_u8
  go_enter Tryd.func45, Tryd.ntmps45
  go_wp2_with fail
  refine (wr_check B b bs nv _ h).mono ?_
  rintro e w1 ⟨rfl, h1, hb1⟩
  obtain ⟨hB, v, hbk, hown⟩ := h1
  have hne := PrA.ne hbk hown
  have c0 : w1.cell? ⟨b, 0, none⟩ = some (.pointer (some ⟨b, 0, none⟩)) := by rw [Lib.cell_of_heap hbk]; rfl
  have c1 : w1.cell? ⟨b, 1, none⟩ = some v := by rw [Lib.cell_of_heap hbk]; rfl
  have hbl := Lib.byteCells_length bs
  go_wp2_with (at_builtin; refine Lib.wpList_append_own_stringF _ rfl _ _ 22 9 rfl B 5 i0 Tryd.underlying22 Tryd.underlying9 hi hz0 hz1 hz2 _ _ _ rfl hown s rfl ?c3 ?c4 ?c5 ?_)
  case c3 => unfold maxLen; omega
  case c4 => omega
  case c5 => have := hb1.bel.size; omega
  intro v' w2 hown' hgrow _
  have hlt : b < w1.heap.size := (Array.getElem?_eq_some_iff.1 hbk).1
  have hb2 : w2.heap[b]? = some (.cells #[.pointer (some ⟨b, 0, none⟩), v, nv] 72 (0, 0)) := by
    rw [hgrow.block b hlt (fun e => hne e.symm)]
    exact hbk
  have d0 : w2.cell? ⟨b, 0, none⟩ = some (.pointer (some ⟨b, 0, none⟩)) := by rw [Lib.cell_of_heap hb2]; rfl
  have d1 : w2.cell? ⟨b, 1, none⟩ = some v := by rw [Lib.cell_of_heap hb2]; rfl
  have f1 : w2.frozen? ⟨b, 1, none⟩ = false := Lib.frozen_of_heap hb2 1
  obtain ⟨ao, n', cap, rfl⟩ : ∃ ao n' cap, v' = .slice ao n' cap := by
    rcases hown'.2 with ⟨hv, _⟩ | ⟨g, cap, cur, fz, hv, _⟩
    · exact ⟨_, _, _, hv⟩
    · exact ⟨_, _, _, hv⟩
  go_wp2
  go_ret2
  refine ⟨rfl, Or.inr (pr_put hB hb2 ?_), hb1.trans ⟨?_, ?_⟩⟩
  · rw [Lib.byteCells_append, List.length_append, Array.length_toList]
    simpa [Lib.strCells, Lib.byteCells] using hown'
  · exact ((Below.refl B w1).grown hgrow (by have := hb1.bel.size; omega) (fun k hk => (hown.lt k hk).1)).setCell (p := ⟨b, 1, none⟩) hB _
  · exact ((Lib.OthersKept.refl _ _ w1).grown hgrow (Lib.ownsRowF_kind hown)).setCell ⟨b, 1, none⟩ rfl _

set_option maxHeartbeats 1000000 in
set_option maxRecDepth 100000 in
theorem wr_string (B b : Nat) (l : List UInt8) (nv : Value) (w : World) (h : PrS B b l nv w) (h0 : l ≠ []) :
    Calls Tryd.prog 35 #[.pointer (some ⟨b, 0, none⟩)] w fun e w' => e = .returned (.string ⟨l.toArray⟩) ∧ Below B w w' := by
  obtain ⟨q, hB, v, hbk, hown⟩ := h.at
  have hl0 : l.length ≠ 0 := by simpa using h0
  obtain ⟨g, cap, cur, fz, rfl, hbg, hg, hfz, hnc, hcm, hcs, htake⟩ : ∃ g cap cur fz, v = .slice (some ⟨g, 0, none⟩) l.length cap ∧ B ≤ g ∧ w.heap[g]? = some (.cells cur 5 fz) ∧ fz.2 ≤ l.length * 1 ∧ l.length ≤ cap ∧ cap ≤ maxLen ∧ cur.size = cap * 1 ∧ cur.toList.take (l.length * 1) = Lib.byteCells l := by
    rcases hown.2 with ⟨_, hz⟩ | ⟨g, cap, cur, fz, hv, r⟩
    · exact absurd hz hl0
    · exact ⟨g, cap, cur, fz, hv, r⟩
  have c1 : w.drew.cell? ⟨b, 1, none⟩ = some (.slice (some ⟨g, 0, none⟩) l.length cap) := by
    have : w.drew.heap[b]? = some (.cells #[q, .slice (some ⟨g, 0, none⟩) l.length cap, nv] 72 (0, 0)) := hbk
    rw [Lib.cell_of_heap this]; rfl
  have hSD : (Builtin.unsafeSliceData_ #[22] 95 #[.slice (some ⟨g, 0, none⟩) l.length cap]).run Tryd.prog w.drew = .ok (.pointer (some ⟨g, 0, none⟩)) w.drew :=
    Lib.run_unsafeSliceData_row _ _ _ _ _ _ (by omega)
  have hUS : (Builtin.unsafeString_ #[95, 3] 9 #[.pointer (some ⟨g, 0, none⟩), .int .i64 l.length]).run Tryd.prog w.drew = .ok (.string ⟨l.toArray⟩) (w.drew.freeze ⟨g, 0, none⟩ l.length) := by
    refine Lib.run_unsafeString_row w.drew 95 3 9 5 Tryd.underlying95 wr_cells8 g cur.size (by have hg' : w.drew.heap[g]? = some (.cells cur 5 fz) := hg; simp [World.shape?, hg']) l h0 (by omega) (by unfold maxLen at hcm; omega) ?_
    intro j x hx
    have := hown.cells (g := g) rfl j (.int .u8 x.toNat) (by simp [Lib.byteCells, hx])
    exact this
  clear h hown hbk hg hfz hcs htake
  have mixed : Tryd.prog.follows Departure.mixedOrders = true := by kernel_rfl
  go_enter Tryd.func35, Tryd.ntmps35
  go_wp2
  go_region_o
  all_goals (go_wp2; go_ret; exact ⟨rfl, Lib.below_freeze (Below.drew (Below.refl B w)) (p := ⟨g, 0, none⟩) hbg _⟩)
end Go.Proofs.YtjjanmccijghgaaDoor
