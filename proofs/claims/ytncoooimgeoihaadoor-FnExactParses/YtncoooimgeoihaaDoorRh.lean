/-
  Reading as it landed: a form is found by its key, and is read as it should be. Conditions: written at each theorem.
-/
import Derived.Test.YtncoooimgeoihaaDoorRg
namespace Go.Proofs.YtncoooimgeoihaaDoor
open Go.ChangeShapes Go.WideShapes Go.ChangeAt Go.RowKit
set_option linter.unusedVariables false

def tabE : List FRow → ByteArray → Int × Int × ByteArray
  | [], _ => (0, 0, ⟨#[]⟩)
  | r :: rs, key => if (key.toList == r.key) = true then (r.kind, r.op, ⟨r.form.toArray⟩) else tabE rs key

theorem formE_tab (key : ByteArray) : formE key = tabE fTable key := rfl

theorem same_key (key : ByteArray) (k : List UInt8) : (key.toList == k) = true ↔ Value.string key = Value.string ⟨k.toArray⟩ := by
  rw [beq_iff_eq, Lib.toList_data]
  constructor
  · intro h
    rw [data_ext (b := ⟨k.toArray⟩) h]
  · intro h
    simp only [Value.string.injEq] at h
    rw [h]

/-- A key is looked up in the rows. -/
theorem rows_find {w : World} {M : Nat} (key : ByteArray) : ∀ (rs : List FRow) (es : List MapEntry) (i : Nat), RowsR w M rs es →
    (Instr.findNow .string (.string key) es i = some none ∧ tabE rs key = (0, 0, ⟨#[]⟩)) ∨ ∃ j r v, Instr.findNow .string (.string key) es i = some (some (j, v)) ∧ r ∈ rs ∧ key.data.toList = r.key ∧ FnR w M r v ∧ tabE rs key = (r.kind, r.op, ⟨r.form.toArray⟩)
  | [], [], i, _ => Or.inl ⟨rfl, rfl⟩
  | r :: rs, e :: es, i, h => by
    have hk : MapKept.IsKey .string (Value.string key) := by simp [MapKept.IsKey]
    have he : MapKept.IsKey .string e.key := by rw [h.1.1]; simp [MapKept.IsKey]
    obtain ⟨b, hb, hiff⟩ := MapKept.sameNow_of_keys hk he
    rw [h.1.1, ← same_key] at hiff
    cases b with
    | true =>
      have hq := hiff.1 rfl
      refine Or.inr ⟨i, r, e.val, by simp [Instr.findNow, hb], List.mem_cons_self, ?_, h.1.2, by rw [tabE, if_pos hq]⟩
      rw [beq_iff_eq, Lib.toList_data] at hq
      exact hq
    | false =>
      have hq : ¬ (key.toList == r.key) = true := fun q => by have := hiff.2 q; cases this
      rcases rows_find key rs es (i + 1) h.2 with ⟨h1, h2⟩ | ⟨j, r', v, h1, h2, h3, h4, h5⟩
      · exact Or.inl ⟨by simp [Instr.findNow, hb, h1], by rw [tabE, if_neg hq]; exact h2⟩
      · exact Or.inr ⟨j, r', v, by simp [Instr.findNow, hb, h1], List.mem_cons_of_mem _ h2, h3, h4, by rw [tabE, if_neg hq]; exact h5⟩
  | [], _ :: _, _, h => h.elim
  | _ :: _, [], _, h => h.elim

/-- What a look-up in the map of the forms tells. -/
theorem map_look {w0 : World} {M : Nat} (hms : MS w0 M fTable) (key : ByteArray) :
    ((formE key).1 = 0 ∧ ∀ w, Below w0.heap.size w0 w → (Instr.lookup 72 (.map (some M)) (.string key) true).run Tryd.prog w = .ok (.tuple #[.nilFunc, .bool false]) w) ∨
    ∃ r v, r ∈ fTable ∧ key.data.toList = r.key ∧ FnR w0 M r v ∧ formE key = (r.kind, r.op, ⟨r.form.toArray⟩) ∧ ∀ w, Below w0.heap.size w0 w → (Instr.lookup 72 (.map (some M)) (.string key) true).run Tryd.prog w = .ok (.tuple #[v, .bool true]) w := by
  have hlt := hms.lt
  obtain ⟨es, c, hm, hr⟩ := hms
  have hm' : ∀ w, Below w0.heap.size w0 w → w.heap[M]? = some (.map es.toArray c) := fun w hb => (hb.block M hlt).trans hm
  have hc : ∀ em w, (Instr.checkKey em 10000 9 (.string key)).run Tryd.prog w = .ok () w := fun em w => MapKept.run_checkKey (k := .string key) Tryd.underlying9 (by simp [MapKept.IsKey]) em 9999
  rcases rows_find key fTable es 0 hr with ⟨h1, h2⟩ | ⟨j, r, v, h1, h2, h3, h4, h5⟩
  · refine Or.inl ⟨by rw [formE_tab, h2], fun w hb => ?_⟩
    simp [Instr.lookup, run_underlying Tryd.underlying72, MapKept.run_getObj_map (hm' w hb), hc, MapKept.run_findKey Tryd.underlying9 h1, Result.andThen]
  · refine Or.inr ⟨r, v, h2, h3, h4, by rw [formE_tab, h5], fun w hb => ?_⟩
    simp [Instr.lookup, run_underlying Tryd.underlying72, MapKept.run_getObj_map (hm' w hb), hc, MapKept.run_findKey Tryd.underlying9 h1, Result.andThen]

theorem table_kinds : ∀ r ∈ fTable, r.kind ≠ 0 ∧ (∃ b bs, r.key = b :: bs ∧ 97 ≤ b.toNat ∧ b.toNat ≤ 122) := by
  intro r hr
  simp only [fTable, List.mem_cons, List.not_mem_nil, or_false] at hr
  rcases hr with rfl | rfl | rfl | rfl | rfl | rfl | rfl | rfl | rfl | rfl | rfl | rfl | rfl | rfl | rfl | rfl | rfl | rfl | rfl <;> exact ⟨by decide, _, _, rfl, by decide, by decide⟩

/-- What is no word is no key of a form. -/
theorem formE_word {key : ByteArray} {w : World} {M : Nat} (h : ¬ (formE key).1 = 0) (hms : MS w M fTable) : lowA (bAt key 0) := by
  rcases map_look hms key with ⟨h1, _⟩ | ⟨r, v, hr, hk, _⟩
  · exact absurd h1 h
  · obtain ⟨_, b, bs, hb, h1, h2⟩ := table_kinds r hr
    rw [hb] at hk
    have hsz : 0 < key.size := by
      have : key.data.toList.length = key.size := by rw [Array.length_toList]; rfl
      rw [hk] at this
      simp at this
      omega
    have h0 : key[0] = b := by
      have e : key.data.toList[0]? = some b := by rw [hk]; rfl
      rw [Array.getElem?_toList, Array.getElem?_eq_getElem hsz] at e
      exact Option.some.inj e
    show 97 ≤ bAt key 0 ∧ bAt key 0 ≤ 122
    rw [bAt_in hsz, h0]
    exact ⟨h1, h2⟩

/-- Each function of the map reads its form. -/
theorem form_of {w0 : World} {g M : Nat} {ts : List Tok} {E : Int} {f : Nat} {s : ByteArray} {r : FRow} {v : Value} (hr : r ∈ fTable) (hv : FnR w0 M r v) (hc : ts.length ≤ 4000) (hs : s.size ≤ 4000) (hk : ∀ i, i < ts.length → TokOk s (ts.getD i noTok)) (ih : ExprI (Below w0.heap.size w0) w0.heap.size g M ts E f) :
    ∃ (F : FuncId) (cap : Array Value), v = .func (.func F) #[] cap ∧ (F = 56 ∨ F = 58 ∨ F = 59 ∨ F = 60 ∨ F = 61 ∨ F = 76) ∧ FormI (Below w0.heap.size w0) w0.heap.size g M ts E f F (#[.pointer (some ⟨w0.heap.size, 0, none⟩)] ++ cap) r.kind r.op r.form := by
  have hT : ∀ a b, Below w0.heap.size w0 a → Below w0.heap.size a b → Below w0.heap.size w0 b := fun a b h1 h2 => h1.trans h2
  have kids : ∀ (K op : Int) (form : List UInt8) (key : List UInt8), FnR w0 M ⟨key, K, op, form, none⟩ v → form = List.replicate (arN K) 101 → arN K ≤ 3 → ∃ (F : FuncId) (cap : Array Value), v = .func (.func F) #[] cap ∧ (F = 56 ∨ F = 58 ∨ F = 59 ∨ F = 60 ∨ F = 61 ∨ F = 76) ∧ FormI (Below w0.heap.size w0) w0.heap.size g M ts E f F (#[.pointer (some ⟨w0.heap.size, 0, none⟩)] ++ cap) K op form := by
    rintro K op form key ⟨kb, ob, h1, h2, h3, _, _⟩ rfl h3'
    refine ⟨_, _, h1, Or.inr (Or.inr (Or.inr (Or.inr (Or.inr rfl)))), ?_⟩
    exact rd_readKids hT ih (fun w hw => ⟨(World.cell?_of_block (hw.block kb (cell_lt' h2))).trans h2, (World.cell?_of_block (hw.block ob (cell_lt' h3))).trans h3⟩) h3'
  simp only [fTable, List.mem_cons, List.not_mem_nil, or_false] at hr
  rcases hr with rfl | rfl | rfl | rfl | rfl | rfl | rfl | rfl | rfl | rfl | rfl | rfl | rfl | rfl | rfl | rfl | rfl | rfl | rfl
  · exact ⟨_, #[], hv, Or.inl rfl, rd_readFun hT hc hs hk ih⟩
  · exact kids _ _ _ _ hv rfl (by decide)
  · exact ⟨_, #[], hv, Or.inr (Or.inl rfl), rd_readLet hT hc hs hk ih⟩
  · exact ⟨_, #[], hv, Or.inr (Or.inr (Or.inl rfl)), rd_readRec hT hc hs hk ih⟩
  · exact kids _ _ _ _ hv rfl (by decide)
  · exact kids _ _ _ _ hv rfl (by decide)
  · exact kids _ _ _ _ hv rfl (by decide)
  · exact kids _ _ _ _ hv rfl (by decide)
  · exact kids _ _ _ _ hv rfl (by decide)
  · exact kids _ _ _ _ hv rfl (by decide)
  · exact kids _ _ _ _ hv rfl (by decide)
  · exact kids _ _ _ _ hv rfl (by decide)
  · exact kids _ _ _ _ hv rfl (by decide)
  · exact ⟨_, #[], hv, Or.inr (Or.inr (Or.inr (Or.inl rfl))), rd_readMatch hT hc hs hk ih⟩
  · exact kids _ _ _ _ hv rfl (by decide)
  · exact kids _ _ _ _ hv rfl (by decide)
  · exact kids _ _ _ _ hv rfl (by decide)
  · exact kids _ _ _ _ hv rfl (by decide)
  · exact ⟨_, #[], hv, Or.inr (Or.inr (Or.inr (Or.inr (Or.inl rfl)))), rd_readTry hT hc hs hk ih⟩
end Go.Proofs.YtncoooimgeoihaaDoor
