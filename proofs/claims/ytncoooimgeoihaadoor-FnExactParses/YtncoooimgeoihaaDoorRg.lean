/-
  Reading as it landed: the forms in their map, by their keys. Conditions: written at each theorem.
-/
import Derived.Test.YtncoooimgeoihaaDoorRf
import Derived.MapKept
import Derived.Carry
namespace Go.Proofs.YtncoooimgeoihaaDoor
open Go.ChangeShapes Go.WideShapes Go.ChangeAt Go.RowKit
set_option linter.unusedVariables false

/-- A row of the map: a key, the kind, what N holds, how it goes on; which function reads it, or none where readKids made it. -/
structure FRow where
  key : List UInt8
  kind : Int
  op : Int
  form : List UInt8
  fn : Option FuncId

def fTable : List FRow := [⟨[102, 117, 110], 3, 0, [110, 101], some 56⟩,
  ⟨[97, 112, 112], 4, 0, [101, 101], none⟩,
  ⟨[108, 101, 116], 5, 0, [110, 101, 101], some 58⟩,
  ⟨[114, 101, 99], 6, 0, [110, 110, 101, 101], some 59⟩,
  ⟨[105, 102], 7, 0, [101, 101, 101], none⟩,
  ⟨[97, 100, 100], 8, 0, [101, 101], none⟩,
  ⟨[115, 117, 98], 8, 1, [101, 101], none⟩,
  ⟨[108, 101, 115, 115], 8, 2, [101, 101], none⟩,
  ⟨[115, 97, 109, 101], 8, 3, [101, 101], none⟩,
  ⟨[112, 97, 105, 114], 9, 0, [101, 101], none⟩,
  ⟨[102, 115, 116], 10, 0, [101], none⟩,
  ⟨[115, 110, 100], 11, 0, [101], none⟩,
  ⟨[99, 111, 110, 115], 13, 0, [101, 101], none⟩,
  ⟨[109, 97, 116, 99, 104], 14, 0, [101, 101, 110, 110, 101], some 60⟩,
  ⟨[114, 101, 102], 15, 0, [101], none⟩,
  ⟨[103, 101, 116], 16, 0, [101], none⟩,
  ⟨[115, 101, 116], 17, 0, [101, 101], none⟩,
  ⟨[114, 97, 105, 115, 101], 18, 0, [101], none⟩,
  ⟨[116, 114, 121], 19, 0, [101, 110, 101], some 61⟩]

/-- The function that a row has. -/
def FnR (w : World) (M : Nat) (r : FRow) (v : Value) : Prop := match r.fn with
  | some F => v = .func (.func F) #[] #[]
  | none => ∃ kb ob : Nat, v = .func (.func 76) #[] #[.pointer (some ⟨kb, 0, none⟩), .pointer (some ⟨ob, 0, none⟩)] ∧ w.cell? ⟨kb, 0, none⟩ = some (.int .i64 r.kind) ∧ w.cell? ⟨ob, 0, none⟩ = some (.int .i64 r.op) ∧ kb ≠ M ∧ ob ≠ M

theorem FnR.kept {w w' : World} {M : Nat} {r : FRow} {v : Value} (h : FnR w M r v) (hb : ∀ k, k < w.heap.size → k ≠ M → w'.heap[k]? = w.heap[k]?) : FnR w' M r v := by
  unfold FnR at h ⊢
  cases hf : r.fn with
  | some F =>
    rw [hf] at h
    exact h
  | none =>
    rw [hf] at h
    obtain ⟨kb, ob, h1, h2, h3, h4, h5⟩ := h
    exact ⟨kb, ob, h1, (World.cell?_of_block (hb kb (cell_lt' h2) h4)).trans h2, (World.cell?_of_block (hb ob (cell_lt' h3) h5)).trans h3, h4, h5⟩

def RowsR (w : World) (M : Nat) : List FRow → List MapEntry → Prop
  | [], [] => True
  | r :: rs, e :: es => (e.key = .string ⟨r.key.toArray⟩ ∧ FnR w M r e.val) ∧ RowsR w M rs es
  | _, _ => False

theorem RowsR.kept {w w' : World} {M : Nat} (hb : ∀ k, k < w.heap.size → k ≠ M → w'.heap[k]? = w.heap[k]?) : ∀ {rs : List FRow} {es : List MapEntry}, RowsR w M rs es → RowsR w' M rs es
  | [], [], _ => trivial
  | r :: rs, e :: es, h => ⟨⟨h.1.1, h.1.2.kept hb⟩, RowsR.kept hb h.2⟩
  | [], _ :: _, h => h.elim
  | _ :: _, [], h => h.elim

theorem RowsR.more {w : World} {M : Nat} {r : FRow} {e : MapEntry} (he : e.key = .string ⟨r.key.toArray⟩) (hv : FnR w M r e.val) : ∀ {rs : List FRow} {es : List MapEntry}, RowsR w M rs es → RowsR w M (rs ++ [r]) (es ++ [e])
  | [], [], _ => ⟨⟨he, hv⟩, trivial⟩
  | r' :: rs, e' :: es, h => ⟨h.1, RowsR.more he hv h.2⟩
  | [], _ :: _, h => h.elim
  | _ :: _, [], h => h.elim

theorem RowsR.keys {w : World} {M : Nat} : ∀ {rs : List FRow} {es : List MapEntry}, RowsR w M rs es → (∀ e ∈ es, MapKept.IsKey .string e.key) ∧ ∀ e ∈ es, ∃ r ∈ rs, e.key = .string ⟨r.key.toArray⟩
  | [], [], _ => ⟨by simp, by simp⟩
  | r :: rs, e :: es, h => by
    obtain ⟨k1, k2⟩ := RowsR.keys h.2
    refine ⟨fun x hx => ?_, fun x hx => ?_⟩
    · rcases List.mem_cons.1 hx with rfl | hx
      · rw [h.1.1]; simp [MapKept.IsKey]
      · exact k1 x hx
    · rcases List.mem_cons.1 hx with rfl | hx
      · exact ⟨r, List.mem_cons_self, h.1.1⟩
      · obtain ⟨r', h1, h2⟩ := k2 x hx
        exact ⟨r', List.mem_cons_of_mem _ h1, h2⟩
  | [], _ :: _, h => h.elim
  | _ :: _, [], h => h.elim

/-- Block M is a map of these rows. -/
def MS (w : World) (M : Nat) (rs : List FRow) : Prop := ∃ (es : List MapEntry) (c : Nat), w.heap[M]? = some (.map es.toArray c) ∧ RowsR w M rs es

theorem MS.lt {w : World} {M : Nat} {rs : List FRow} (h : MS w M rs) : M < w.heap.size := by
  obtain ⟨es, c, hm, _⟩ := h
  exact (Array.getElem?_eq_some_iff.1 hm).1

theorem MS.below {w w' : World} {M : Nat} {rs : List FRow} (h : MS w M rs) (hb : Below w.heap.size w w') : MS w' M rs := by
  have hlt := h.lt
  obtain ⟨es, c, hm, hr⟩ := h
  exact ⟨es, c, (hb.block M hlt).trans hm, hr.kept (fun k hk _ => hb.block k hk)⟩

theorem findNow_new {w : World} {M : Nat} {rs : List FRow} {es : List MapEntry} (h : RowsR w M rs es) (key : List UInt8) (hk : ∀ r ∈ rs, r.key ≠ key) : Instr.findNow .string (.string ⟨key.toArray⟩) es 0 = some none := by
  obtain ⟨k1, k2⟩ := h.keys
  rcases MapKept.findNow_spec (d := .string) (k := .string ⟨key.toArray⟩) (by simp [MapKept.IsKey]) es 0 k1 with ⟨h1, _⟩ | ⟨j, e, _, h2, h3⟩
  · exact h1
  · obtain ⟨r, hr, he⟩ := k2 e (List.mem_of_getElem? h2)
    rw [he] at h3
    simp at h3
    exact absurd h3 (hk r hr)

/-- An entry is put into the map. -/
theorem wpList_ins (w : World) {ops : Array Oper} {rest : List Oper} {o : Oper} {a : Act} {Q : Exit → Act → World → Prop} (hg : o.guard = none) (m x y : Operand) (hop : o.op = Op.insert 72 m x y)
    (M : Nat) (rs : List FRow) (r : FRow) (hm : a.eval m = .map (some M)) (hms : MS w M rs) (hx : a.eval x = .string ⟨r.key.toArray⟩) (val : Value) (hv : a.eval y = val) (hf : FnR w M r val) (hnew : ∀ r' ∈ rs, r'.key ≠ r.key)
    (hK : ∀ w', MS w' M (rs ++ [r]) → Below M w w' → w'.heap.size = w.heap.size → wpList Tryd.prog ops Q rest (a.put o.dst undef) w') : wpList Tryd.prog ops Q (o :: rest) a w := by
  refine wpList_plain hg fun K' hK' => ?_
  have hlt := hms.lt
  obtain ⟨es, c, hb, hr⟩ := hms
  have hfn := findNow_new hr r.key hnew
  have hc : (Instr.checkKey false 10000 9 (.string ⟨r.key.toArray⟩)).run Tryd.prog w = .ok () w := MapKept.run_checkKey (k := .string ⟨r.key.toArray⟩) Tryd.underlying9 (by simp [MapKept.IsKey]) false 9999
  have hrun : (Instr.mapUpdate 72 (.map (some M)) (.string ⟨r.key.toArray⟩) val).run Tryd.prog w = .ok () { w with heap := w.heap.setIfInBounds M (.map (es.toArray.push { key := .string ⟨r.key.toArray⟩, val := val, born := c }) (c + 1)) } := by
    simp [Instr.mapUpdate, run_underlying Tryd.underlying72, MapKept.run_getObj_map hb, hc, MapKept.run_findKey Tryd.underlying9 hfn, MapKept.run_setObj_map _ hb, Result.andThen]
  have hset := MapKept.heap_set (o' := .map (es.toArray.push { key := .string ⟨r.key.toArray⟩, val := val, born := c }) (c + 1)) hb
  obtain ⟨W, hW⟩ : ∃ W, ({ w with heap := w.heap.setIfInBounds M (.map (es.toArray.push { key := .string ⟨r.key.toArray⟩, val := val, born := c }) (c + 1)) } : World) = W := ⟨_, rfl⟩
  have h1 : W.heap[M]? = some (.map (es ++ [({ key := .string ⟨r.key.toArray⟩, val := val, born := c } : MapEntry)]).toArray (c + 1)) := by
    rw [← hW]
    show (w.heap.setIfInBounds M _)[M]? = _
    rw [hset.1]
    simp
  have h2 : ∀ k, k ≠ M → W.heap[k]? = w.heap[k]? := fun k hk => by rw [← hW]; exact hset.2 k hk
  have h3 : W.heap.size = w.heap.size := by rw [← hW]; simp
  have h4 : Below M w W := by rw [← hW]; exact ⟨rfl, rfl, rfl, by simp, fun k hk => hset.2 k (by omega)⟩
  rw [hW] at hrun
  unfold Oper.wp
  simp [execOp, hop, hm, hx, hv, hrun, Result.andThen]
  exact hK' _ _ (hK W ⟨_, _, h1, (hr.kept (fun k _ hk => h2 k hk)).more rfl (hf.kept (fun k _ hk => h2 k hk))⟩ h4 h3)

/-- A form without names is made. -/
theorem rd_mk (K op : Int) (w : World) :
    Calls Tryd.prog 57 #[.int .i64 K, .int .i64 op] w fun e w' => e = .returned (.func (.func 76) #[] #[.pointer (some ⟨w.heap.size, 0, none⟩), .pointer (some ⟨w.heap.size + 1, 0, none⟩)]) ∧ w' = (w.alloc (.cells #[.int .i64 K] 3)).alloc (.cells #[.int .i64 op] 3) := by
  have hmf : ∀ (fn : Fn) (first cap : Array Value) (w : World), (Instr.makeFunc fn first cap).run Tryd.prog w = .ok (.func fn first cap) w := fun _ _ _ _ => rfl
  go_enter Tryd.func57, Tryd.ntmps57
  go_wp2
  go_ret
  exact ⟨rfl, rfl⟩

/-- What is made is what the row asks for. -/
theorem mk_fn {w : World} {M : Nat} {rs : List FRow} (h : MS w M rs) (key form : List UInt8) (K op : Int) :
    MS ((w.alloc (.cells #[.int .i64 K] 3)).alloc (.cells #[.int .i64 op] 3)) M rs ∧ FnR ((w.alloc (.cells #[.int .i64 K] 3)).alloc (.cells #[.int .i64 op] 3)) M ⟨key, K, op, form, none⟩ (.func (.func 76) #[] #[.pointer (some ⟨w.heap.size, 0, none⟩), .pointer (some ⟨w.heap.size + 1, 0, none⟩)]) := by
  have hlt := h.lt
  refine ⟨h.below (((Below.refl _ w).alloc (Nat.le_refl _) _).alloc (by simp) _), w.heap.size, w.heap.size + 1, rfl, ?_, ?_, by omega, by omega⟩
  · rw [cell_of_row _ _ _ _ _ _ (heap_alloc2_old w _ _)]
    rfl
  · rw [cell_of_row _ _ _ _ _ _ (heap_alloc2_new w _ _)]
    rfl

set_option maxHeartbeats 4000000 in
set_option maxRecDepth 100000 in
/-- The map of the forms. -/
theorem rd_forms (w : World) :
    Calls Tryd.prog 40 #[] w fun e w' => ∃ M : Nat, e = .returned (.map (some M)) ∧ MS w' M fTable ∧ Below w.heap.size w w' := by
  have hmm : (Instr.makeMap 72 none).run Tryd.prog w = .ok (.map (some w.heap.size)) (w.alloc (.map #[] 0)) := by simp [Instr.makeMap]
  have M0 : Hid (MS (w.alloc (.map #[] 0)) w.heap.size []) := ⟨[], 0, heap_alloc_new w _, trivial⟩
  have B0 : Hid (Below w.heap.size w (w.alloc (.map #[] 0))) := (Below.refl _ w).alloc (Nat.le_refl _) _
  go_enter Tryd.func40, Tryd.ntmps40
  go_wp2_with (first | (refine wpList_ins _ rfl _ _ _ rfl w.heap.size (fTable.take 0) ⟨[102, 117, 110], 3, 0, [110, 101], some 56⟩ rfl M0.out rfl _ rfl (rfl : FnR _ _ ⟨[102, 117, 110], 3, 0, [110, 101], some 56⟩ _) (by decide) ?_; intro W1 hm1 hb1 hz1; have M1 : Hid (MS W1 w.heap.size (fTable.take 1)) := hm1; have B1 : Hid (Below w.heap.size w W1) := B0.out.trans hb1; clear hm1 hb1 hz1 M0 B0))
  refine (rd_mk 4 0 _).mono ?_
  rintro e w1 ⟨rfl, rfl⟩
  obtain ⟨hm1, hf1⟩ := mk_fn M1.out [97, 112, 112] [101, 101] 4 0
  have M1 : Hid (MS ((W1.alloc (.cells #[.int .i64 4] 3)).alloc (.cells #[.int .i64 0] 3)) w.heap.size (fTable.take 1)) := hm1
  have B1 : Hid (Below w.heap.size w ((W1.alloc (.cells #[.int .i64 4] 3)).alloc (.cells #[.int .i64 0] 3))) := (B1.out.alloc B1.out.size _).alloc (by have := B1.out.size; simp; omega) _
  clear hm1
  go_wp2_with (first | (refine wpList_ins _ rfl _ _ _ rfl w.heap.size (fTable.take 1) ⟨[97, 112, 112], 4, 0, [101, 101], none⟩ rfl M1.out rfl _ rfl hf1 (by decide) ?_; intro W2 hm2 hb2 hz2; have M2 : Hid (MS W2 w.heap.size (fTable.take 2)) := hm2; have B2 : Hid (Below w.heap.size w W2) := B1.out.trans hb2; clear hm2 hb2 hz2 M1 B1) | (refine wpList_ins _ rfl _ _ _ rfl w.heap.size (fTable.take 2) ⟨[108, 101, 116], 5, 0, [110, 101, 101], some 58⟩ rfl M2.out rfl _ rfl (rfl : FnR _ _ ⟨[108, 101, 116], 5, 0, [110, 101, 101], some 58⟩ _) (by decide) ?_; intro W3 hm3 hb3 hz3; have M3 : Hid (MS W3 w.heap.size (fTable.take 3)) := hm3; have B3 : Hid (Below w.heap.size w W3) := B2.out.trans hb3; clear hm3 hb3 hz3 M2 B2) | (refine wpList_ins _ rfl _ _ _ rfl w.heap.size (fTable.take 3) ⟨[114, 101, 99], 6, 0, [110, 110, 101, 101], some 59⟩ rfl M3.out rfl _ rfl (rfl : FnR _ _ ⟨[114, 101, 99], 6, 0, [110, 110, 101, 101], some 59⟩ _) (by decide) ?_; intro W4 hm4 hb4 hz4; have M4 : Hid (MS W4 w.heap.size (fTable.take 4)) := hm4; have B4 : Hid (Below w.heap.size w W4) := B3.out.trans hb4; clear hm4 hb4 hz4 M3 B3))
  refine (rd_mk 7 0 _).mono ?_
  rintro e w4 ⟨rfl, rfl⟩
  obtain ⟨hm4, hf4⟩ := mk_fn M4.out [105, 102] [101, 101, 101] 7 0
  have M4 : Hid (MS ((W4.alloc (.cells #[.int .i64 7] 3)).alloc (.cells #[.int .i64 0] 3)) w.heap.size (fTable.take 4)) := hm4
  have B4 : Hid (Below w.heap.size w ((W4.alloc (.cells #[.int .i64 7] 3)).alloc (.cells #[.int .i64 0] 3))) := (B4.out.alloc B4.out.size _).alloc (by have := B4.out.size; simp; omega) _
  clear hm4
  go_wp2_with (first | (refine wpList_ins _ rfl _ _ _ rfl w.heap.size (fTable.take 4) ⟨[105, 102], 7, 0, [101, 101, 101], none⟩ rfl M4.out rfl _ rfl hf4 (by decide) ?_; intro W5 hm5 hb5 hz5; have M5 : Hid (MS W5 w.heap.size (fTable.take 5)) := hm5; have B5 : Hid (Below w.heap.size w W5) := B4.out.trans hb5; clear hm5 hb5 hz5 M4 B4))
  refine (rd_mk 8 0 _).mono ?_
  rintro e w5 ⟨rfl, rfl⟩
  obtain ⟨hm5, hf5⟩ := mk_fn M5.out [97, 100, 100] [101, 101] 8 0
  have M5 : Hid (MS ((W5.alloc (.cells #[.int .i64 8] 3)).alloc (.cells #[.int .i64 0] 3)) w.heap.size (fTable.take 5)) := hm5
  have B5 : Hid (Below w.heap.size w ((W5.alloc (.cells #[.int .i64 8] 3)).alloc (.cells #[.int .i64 0] 3))) := (B5.out.alloc B5.out.size _).alloc (by have := B5.out.size; simp; omega) _
  clear hm5
  go_wp2_with (first | (refine wpList_ins _ rfl _ _ _ rfl w.heap.size (fTable.take 5) ⟨[97, 100, 100], 8, 0, [101, 101], none⟩ rfl M5.out rfl _ rfl hf5 (by decide) ?_; intro W6 hm6 hb6 hz6; have M6 : Hid (MS W6 w.heap.size (fTable.take 6)) := hm6; have B6 : Hid (Below w.heap.size w W6) := B5.out.trans hb6; clear hm6 hb6 hz6 M5 B5))
  refine (rd_mk 8 1 _).mono ?_
  rintro e w6 ⟨rfl, rfl⟩
  obtain ⟨hm6, hf6⟩ := mk_fn M6.out [115, 117, 98] [101, 101] 8 1
  have M6 : Hid (MS ((W6.alloc (.cells #[.int .i64 8] 3)).alloc (.cells #[.int .i64 1] 3)) w.heap.size (fTable.take 6)) := hm6
  have B6 : Hid (Below w.heap.size w ((W6.alloc (.cells #[.int .i64 8] 3)).alloc (.cells #[.int .i64 1] 3))) := (B6.out.alloc B6.out.size _).alloc (by have := B6.out.size; simp; omega) _
  clear hm6
  go_wp2_with (first | (refine wpList_ins _ rfl _ _ _ rfl w.heap.size (fTable.take 6) ⟨[115, 117, 98], 8, 1, [101, 101], none⟩ rfl M6.out rfl _ rfl hf6 (by decide) ?_; intro W7 hm7 hb7 hz7; have M7 : Hid (MS W7 w.heap.size (fTable.take 7)) := hm7; have B7 : Hid (Below w.heap.size w W7) := B6.out.trans hb7; clear hm7 hb7 hz7 M6 B6))
  refine (rd_mk 8 2 _).mono ?_
  rintro e w7 ⟨rfl, rfl⟩
  obtain ⟨hm7, hf7⟩ := mk_fn M7.out [108, 101, 115, 115] [101, 101] 8 2
  have M7 : Hid (MS ((W7.alloc (.cells #[.int .i64 8] 3)).alloc (.cells #[.int .i64 2] 3)) w.heap.size (fTable.take 7)) := hm7
  have B7 : Hid (Below w.heap.size w ((W7.alloc (.cells #[.int .i64 8] 3)).alloc (.cells #[.int .i64 2] 3))) := (B7.out.alloc B7.out.size _).alloc (by have := B7.out.size; simp; omega) _
  clear hm7
  go_wp2_with (first | (refine wpList_ins _ rfl _ _ _ rfl w.heap.size (fTable.take 7) ⟨[108, 101, 115, 115], 8, 2, [101, 101], none⟩ rfl M7.out rfl _ rfl hf7 (by decide) ?_; intro W8 hm8 hb8 hz8; have M8 : Hid (MS W8 w.heap.size (fTable.take 8)) := hm8; have B8 : Hid (Below w.heap.size w W8) := B7.out.trans hb8; clear hm8 hb8 hz8 M7 B7))
  refine (rd_mk 8 3 _).mono ?_
  rintro e w8 ⟨rfl, rfl⟩
  obtain ⟨hm8, hf8⟩ := mk_fn M8.out [115, 97, 109, 101] [101, 101] 8 3
  have M8 : Hid (MS ((W8.alloc (.cells #[.int .i64 8] 3)).alloc (.cells #[.int .i64 3] 3)) w.heap.size (fTable.take 8)) := hm8
  have B8 : Hid (Below w.heap.size w ((W8.alloc (.cells #[.int .i64 8] 3)).alloc (.cells #[.int .i64 3] 3))) := (B8.out.alloc B8.out.size _).alloc (by have := B8.out.size; simp; omega) _
  clear hm8
  go_wp2_with (first | (refine wpList_ins _ rfl _ _ _ rfl w.heap.size (fTable.take 8) ⟨[115, 97, 109, 101], 8, 3, [101, 101], none⟩ rfl M8.out rfl _ rfl hf8 (by decide) ?_; intro W9 hm9 hb9 hz9; have M9 : Hid (MS W9 w.heap.size (fTable.take 9)) := hm9; have B9 : Hid (Below w.heap.size w W9) := B8.out.trans hb9; clear hm9 hb9 hz9 M8 B8))
  refine (rd_mk 9 0 _).mono ?_
  rintro e w9 ⟨rfl, rfl⟩
  obtain ⟨hm9, hf9⟩ := mk_fn M9.out [112, 97, 105, 114] [101, 101] 9 0
  have M9 : Hid (MS ((W9.alloc (.cells #[.int .i64 9] 3)).alloc (.cells #[.int .i64 0] 3)) w.heap.size (fTable.take 9)) := hm9
  have B9 : Hid (Below w.heap.size w ((W9.alloc (.cells #[.int .i64 9] 3)).alloc (.cells #[.int .i64 0] 3))) := (B9.out.alloc B9.out.size _).alloc (by have := B9.out.size; simp; omega) _
  clear hm9
  go_wp2_with (first | (refine wpList_ins _ rfl _ _ _ rfl w.heap.size (fTable.take 9) ⟨[112, 97, 105, 114], 9, 0, [101, 101], none⟩ rfl M9.out rfl _ rfl hf9 (by decide) ?_; intro W10 hm10 hb10 hz10; have M10 : Hid (MS W10 w.heap.size (fTable.take 10)) := hm10; have B10 : Hid (Below w.heap.size w W10) := B9.out.trans hb10; clear hm10 hb10 hz10 M9 B9))
  refine (rd_mk 10 0 _).mono ?_
  rintro e w10 ⟨rfl, rfl⟩
  obtain ⟨hm10, hf10⟩ := mk_fn M10.out [102, 115, 116] [101] 10 0
  have M10 : Hid (MS ((W10.alloc (.cells #[.int .i64 10] 3)).alloc (.cells #[.int .i64 0] 3)) w.heap.size (fTable.take 10)) := hm10
  have B10 : Hid (Below w.heap.size w ((W10.alloc (.cells #[.int .i64 10] 3)).alloc (.cells #[.int .i64 0] 3))) := (B10.out.alloc B10.out.size _).alloc (by have := B10.out.size; simp; omega) _
  clear hm10
  go_wp2_with (first | (refine wpList_ins _ rfl _ _ _ rfl w.heap.size (fTable.take 10) ⟨[102, 115, 116], 10, 0, [101], none⟩ rfl M10.out rfl _ rfl hf10 (by decide) ?_; intro W11 hm11 hb11 hz11; have M11 : Hid (MS W11 w.heap.size (fTable.take 11)) := hm11; have B11 : Hid (Below w.heap.size w W11) := B10.out.trans hb11; clear hm11 hb11 hz11 M10 B10))
  refine (rd_mk 11 0 _).mono ?_
  rintro e w11 ⟨rfl, rfl⟩
  obtain ⟨hm11, hf11⟩ := mk_fn M11.out [115, 110, 100] [101] 11 0
  have M11 : Hid (MS ((W11.alloc (.cells #[.int .i64 11] 3)).alloc (.cells #[.int .i64 0] 3)) w.heap.size (fTable.take 11)) := hm11
  have B11 : Hid (Below w.heap.size w ((W11.alloc (.cells #[.int .i64 11] 3)).alloc (.cells #[.int .i64 0] 3))) := (B11.out.alloc B11.out.size _).alloc (by have := B11.out.size; simp; omega) _
  clear hm11
  go_wp2_with (first | (refine wpList_ins _ rfl _ _ _ rfl w.heap.size (fTable.take 11) ⟨[115, 110, 100], 11, 0, [101], none⟩ rfl M11.out rfl _ rfl hf11 (by decide) ?_; intro W12 hm12 hb12 hz12; have M12 : Hid (MS W12 w.heap.size (fTable.take 12)) := hm12; have B12 : Hid (Below w.heap.size w W12) := B11.out.trans hb12; clear hm12 hb12 hz12 M11 B11))
  refine (rd_mk 13 0 _).mono ?_
  rintro e w12 ⟨rfl, rfl⟩
  obtain ⟨hm12, hf12⟩ := mk_fn M12.out [99, 111, 110, 115] [101, 101] 13 0
  have M12 : Hid (MS ((W12.alloc (.cells #[.int .i64 13] 3)).alloc (.cells #[.int .i64 0] 3)) w.heap.size (fTable.take 12)) := hm12
  have B12 : Hid (Below w.heap.size w ((W12.alloc (.cells #[.int .i64 13] 3)).alloc (.cells #[.int .i64 0] 3))) := (B12.out.alloc B12.out.size _).alloc (by have := B12.out.size; simp; omega) _
  clear hm12
  go_wp2_with (first | (refine wpList_ins _ rfl _ _ _ rfl w.heap.size (fTable.take 12) ⟨[99, 111, 110, 115], 13, 0, [101, 101], none⟩ rfl M12.out rfl _ rfl hf12 (by decide) ?_; intro W13 hm13 hb13 hz13; have M13 : Hid (MS W13 w.heap.size (fTable.take 13)) := hm13; have B13 : Hid (Below w.heap.size w W13) := B12.out.trans hb13; clear hm13 hb13 hz13 M12 B12) | (refine wpList_ins _ rfl _ _ _ rfl w.heap.size (fTable.take 13) ⟨[109, 97, 116, 99, 104], 14, 0, [101, 101, 110, 110, 101], some 60⟩ rfl M13.out rfl _ rfl (rfl : FnR _ _ ⟨[109, 97, 116, 99, 104], 14, 0, [101, 101, 110, 110, 101], some 60⟩ _) (by decide) ?_; intro W14 hm14 hb14 hz14; have M14 : Hid (MS W14 w.heap.size (fTable.take 14)) := hm14; have B14 : Hid (Below w.heap.size w W14) := B13.out.trans hb14; clear hm14 hb14 hz14 M13 B13))
  refine (rd_mk 15 0 _).mono ?_
  rintro e w14 ⟨rfl, rfl⟩
  obtain ⟨hm14, hf14⟩ := mk_fn M14.out [114, 101, 102] [101] 15 0
  have M14 : Hid (MS ((W14.alloc (.cells #[.int .i64 15] 3)).alloc (.cells #[.int .i64 0] 3)) w.heap.size (fTable.take 14)) := hm14
  have B14 : Hid (Below w.heap.size w ((W14.alloc (.cells #[.int .i64 15] 3)).alloc (.cells #[.int .i64 0] 3))) := (B14.out.alloc B14.out.size _).alloc (by have := B14.out.size; simp; omega) _
  clear hm14
  go_wp2_with (first | (refine wpList_ins _ rfl _ _ _ rfl w.heap.size (fTable.take 14) ⟨[114, 101, 102], 15, 0, [101], none⟩ rfl M14.out rfl _ rfl hf14 (by decide) ?_; intro W15 hm15 hb15 hz15; have M15 : Hid (MS W15 w.heap.size (fTable.take 15)) := hm15; have B15 : Hid (Below w.heap.size w W15) := B14.out.trans hb15; clear hm15 hb15 hz15 M14 B14))
  refine (rd_mk 16 0 _).mono ?_
  rintro e w15 ⟨rfl, rfl⟩
  obtain ⟨hm15, hf15⟩ := mk_fn M15.out [103, 101, 116] [101] 16 0
  have M15 : Hid (MS ((W15.alloc (.cells #[.int .i64 16] 3)).alloc (.cells #[.int .i64 0] 3)) w.heap.size (fTable.take 15)) := hm15
  have B15 : Hid (Below w.heap.size w ((W15.alloc (.cells #[.int .i64 16] 3)).alloc (.cells #[.int .i64 0] 3))) := (B15.out.alloc B15.out.size _).alloc (by have := B15.out.size; simp; omega) _
  clear hm15
  go_wp2_with (first | (refine wpList_ins _ rfl _ _ _ rfl w.heap.size (fTable.take 15) ⟨[103, 101, 116], 16, 0, [101], none⟩ rfl M15.out rfl _ rfl hf15 (by decide) ?_; intro W16 hm16 hb16 hz16; have M16 : Hid (MS W16 w.heap.size (fTable.take 16)) := hm16; have B16 : Hid (Below w.heap.size w W16) := B15.out.trans hb16; clear hm16 hb16 hz16 M15 B15))
  refine (rd_mk 17 0 _).mono ?_
  rintro e w16 ⟨rfl, rfl⟩
  obtain ⟨hm16, hf16⟩ := mk_fn M16.out [115, 101, 116] [101, 101] 17 0
  have M16 : Hid (MS ((W16.alloc (.cells #[.int .i64 17] 3)).alloc (.cells #[.int .i64 0] 3)) w.heap.size (fTable.take 16)) := hm16
  have B16 : Hid (Below w.heap.size w ((W16.alloc (.cells #[.int .i64 17] 3)).alloc (.cells #[.int .i64 0] 3))) := (B16.out.alloc B16.out.size _).alloc (by have := B16.out.size; simp; omega) _
  clear hm16
  go_wp2_with (first | (refine wpList_ins _ rfl _ _ _ rfl w.heap.size (fTable.take 16) ⟨[115, 101, 116], 17, 0, [101, 101], none⟩ rfl M16.out rfl _ rfl hf16 (by decide) ?_; intro W17 hm17 hb17 hz17; have M17 : Hid (MS W17 w.heap.size (fTable.take 17)) := hm17; have B17 : Hid (Below w.heap.size w W17) := B16.out.trans hb17; clear hm17 hb17 hz17 M16 B16))
  refine (rd_mk 18 0 _).mono ?_
  rintro e w17 ⟨rfl, rfl⟩
  obtain ⟨hm17, hf17⟩ := mk_fn M17.out [114, 97, 105, 115, 101] [101] 18 0
  have M17 : Hid (MS ((W17.alloc (.cells #[.int .i64 18] 3)).alloc (.cells #[.int .i64 0] 3)) w.heap.size (fTable.take 17)) := hm17
  have B17 : Hid (Below w.heap.size w ((W17.alloc (.cells #[.int .i64 18] 3)).alloc (.cells #[.int .i64 0] 3))) := (B17.out.alloc B17.out.size _).alloc (by have := B17.out.size; simp; omega) _
  clear hm17
  go_wp2_with (first | (refine wpList_ins _ rfl _ _ _ rfl w.heap.size (fTable.take 17) ⟨[114, 97, 105, 115, 101], 18, 0, [101], none⟩ rfl M17.out rfl _ rfl hf17 (by decide) ?_; intro W18 hm18 hb18 hz18; have M18 : Hid (MS W18 w.heap.size (fTable.take 18)) := hm18; have B18 : Hid (Below w.heap.size w W18) := B17.out.trans hb18; clear hm18 hb18 hz18 M17 B17) | (refine wpList_ins _ rfl _ _ _ rfl w.heap.size (fTable.take 18) ⟨[116, 114, 121], 19, 0, [101, 110, 101], some 61⟩ rfl M18.out rfl _ rfl (rfl : FnR _ _ ⟨[116, 114, 121], 19, 0, [101, 110, 101], some 61⟩ _) (by decide) ?_; intro W19 hm19 hb19 hz19; have M19 : Hid (MS W19 w.heap.size (fTable.take 19)) := hm19; have B19 : Hid (Below w.heap.size w W19) := B18.out.trans hb19; clear hm19 hb19 hz19 M18 B18))
  go_ret
  exact ⟨w.heap.size, rfl, M19.out, B19.out⟩
end Go.Proofs.YtncoooimgeoihaaDoor
