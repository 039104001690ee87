/-
  Types as they landed: the shapes of a table; SizeOf. Conditions: written at each theorem.
-/
import Derived.Test.YtjjanmccijghgaaDoorHg
import Derived.Test.YtjjanmccijghgaaDoorHj
import Derived.Test.YtjjanmccijghgaaDoorHb
namespace Go.Proofs.YtjjanmccijghgaaDoor
open Go.ChangeShapes Go.WideShapes Go.ChangeAt Go.RowKit
set_option linter.unusedVariables false

/-- A row of pointers of the call's own. -/
def RowP (w : World) (g : Nat) (l : List Value) : Prop := w.heap[g]? = some (.cells l.toArray 47 (0, 0))

theorem RowP.cell {w : World} {g : Nat} {l : List Value} (h : RowP w g l) (i : Nat) (hi : i < l.length) : w.cell? ⟨g, i, none⟩ = some (l.getD i (.pointer none)) := by
  rw [cell_of_row _ _ _ _ _ _ h]
  simp [List.getD, hi]

theorem RowP.frozen {w : World} {g : Nat} {l : List Value} (h : RowP w g l) (i : Nat) : w.frozen? ⟨g, i, none⟩ = false := frozen_of_row w g i _ _ h

theorem RowP.set {w : World} {g : Nat} {l : List Value} (h : RowP w g l) (i : Nat) (v : Value) : RowP (w.setCell ⟨g, i, none⟩ v) g (l.set i v) := by
  unfold RowP at h ⊢
  rw [heap_setCell_same _ _ _ _ _ _ h, List.setIfInBounds_toArray]

theorem RowP.lt {w : World} {g : Nat} {l : List Value} (h : RowP w g l) : g < w.heap.size := (Array.getElem?_eq_some_iff.1 h).1

theorem RowP.below {w w' : World} {g : Nat} {l : List Value} (h : RowP w g l) (hb : Below w.heap.size w w') : RowP w' g l := (hb.block g h.lt).trans h

theorem info_shp : (Tryd.prog.info? 47).map (fun i => (i.zero, i.size, i.bytes)) = some (some (.pointer none), 1, 8) := by kernel_rfl

theorem made_ptrs (n : Nat) : madeCells (Value.pointer none).cells (n * 1) = (List.replicate n (Value.pointer none)).toArray := by
  apply Array.ext
  · simp [madeCells]
  · intro i h1 h2
    simp [madeCells, Value.cells]
    rw [show i % 1 = 0 by omega]
    rfl

/-- What a call that makes shapes ends with. -/
def ShpEnd (w : World) (ts : List Typ) (e : Ending) (w' : World) : Prop :=
  (tabB ts = false ∧ e = .returned (.slice none 0 0) ∧ Below w.heap.size w w') ∨
  (tabB ts = true ∧ ∃ (bl : Nat → Nat) (G : Nat), e = .returned (.slice (some ⟨G, 0, none⟩) ts.length ts.length) ∧ Shp w' bl ts ∧ (∀ i, i < ts.length → w'.cell? ⟨G, i, none⟩ = some (shP bl i)) ∧ w.heap.size ≤ G ∧ G < w'.heap.size ∧ (∀ i, i < ts.length → G < bl i) ∧ Below w.heap.size w w')

theorem two_cases (ks : List Int) (h : ks.length ≤ 2) : ks = [] ∨ (∃ x, ks = [x]) ∨ ∃ x y, ks = [x, y] := by
  match ks, h with
  | [], _ => exact Or.inl rfl
  | [x], _ => exact Or.inr (Or.inl ⟨x, rfl⟩)
  | [x, y], _ => exact Or.inr (Or.inr ⟨x, y, rfl⟩)

/-- The row of pointers, with the first i laid. -/
def mixP (bl : Nat → Nat) (n i : Nat) : List Value := (List.range n).map (fun j => if j < i then shP bl j else .pointer none)

theorem mixP_length (bl : Nat → Nat) (n i : Nat) : (mixP bl n i).length = n := by simp [mixP]

theorem mixP_at (bl : Nat → Nat) (n i j : Nat) (h : j < n) : (mixP bl n i).getD j (.pointer none) = if j < i then shP bl j else .pointer none := by simp [mixP, List.getD, h]

theorem mixP_zero (bl : Nat → Nat) (n : Nat) : mixP bl n 0 = List.replicate n (.pointer none) := by
  apply List.ext_getElem
  · simp [mixP]
  · intro i h1 h2
    simp [mixP]

theorem mixP_set (bl : Nat → Nat) (n i : Nat) (h : i < n) : (mixP bl n i).set i (shP bl i) = mixP bl n (i + 1) := by
  apply List.ext_getElem
  · simp [mixP]
  · intro j h1 h2
    rw [List.getElem_set]
    simp only [mixP, List.getElem_map, List.getElem_range]
    by_cases e : i = j
    · subst e; simp
    · rw [if_neg e]
      by_cases q : j < i
      · rw [if_pos q, if_pos (by omega)]
      · rw [if_neg q, if_neg (by omega)]

def shInit (t : Typ) : Array Value := #[.int .i64 t.kind, .pointer none, .pointer none]
/-- The shapes, with the pointers of the first i laid. -/
def Half (w : World) (bl : Nat → Nat) (ts : List Typ) (i : Nat) : Prop := ∀ j, j < ts.length → w.heap[bl j]? = some (.cells (if j < i then shRow bl (ts.getD j noTyp) else shInit (ts.getD j noTyp)) 60 (0, 0))

theorem Half.below {w w' : World} {bl : Nat → Nat} {ts : List Typ} {i : Nat} (h : Half w bl ts i) (hb : Below w.heap.size w w') : Half w' bl ts i :=
  fun j hj => (hb.block _ (Array.getElem?_eq_some_iff.1 (h j hj)).1).trans (h j hj)

theorem Half.next {w w' : World} {bl : Nat → Nat} {ts : List Typ} {i : Nat} (h : Half w bl ts i) (hi : i < ts.length) (hr : w'.heap[bl i]? = some (.cells (shRow bl (ts.getD i noTyp)) 60 (0, 0))) (ho : ∀ k, k < w.heap.size → k ≠ bl i → w'.heap[k]? = w.heap[k]?) (inj : ∀ i j, bl i = bl j → i = j) : Half w' bl ts (i + 1) := by
  intro j hj
  by_cases e : j = i
  · subst e
    rw [if_pos (by omega)]
    exact hr
  · have h0 := h j hj
    rw [ho _ (Array.getElem?_eq_some_iff.1 h0).1 (fun q => e (inj _ _ q)), h0]
    by_cases q : j < i
    · rw [if_pos q, if_pos (by omega)]
    · rw [if_neg q, if_neg (by omega)]

theorem two_stores {w : World} {g : Nat} {k p q : Value} {T : TypeId} (h : w.heap[g]? = some (.cells #[k, .pointer none, .pointer none] T (0, 0))) :
    (w.setCell ⟨g, 1, none⟩ p).heap[g]? = some (.cells #[k, p, .pointer none] T (0, 0)) ∧ ((w.setCell ⟨g, 1, none⟩ p).setCell ⟨g, 2, none⟩ q).heap[g]? = some (.cells #[k, p, q] T (0, 0)) := by
  have h1 : (w.setCell ⟨g, 1, none⟩ p).heap[g]? = some (.cells #[k, p, .pointer none] T (0, 0)) := by
    rw [heap_setCell_same _ _ _ _ _ _ h]
    rfl
  refine ⟨h1, ?_⟩
  rw [heap_setCell_same _ _ _ _ _ _ h1]
  rfl

set_option maxHeartbeats 4000000 in
set_option maxRecDepth 20000 in
theorem impl_shapes (a : Option Addr) (g cap : Nat) (ts : List Typ) (hne : 0 < ts.length → a = some ⟨g, 0, none⟩) (hl : ts.length ≤ 1048576) (w : World) (hA : TypAt w g ts) :
    Calls Tryd.prog 16 #[.slice a ts.length cap] w (ShpEnd w ts) := by
  have HA : Hid (TypAt w g ts) := hA
  obtain ⟨tb, htb⟩ : ∃ tb, tabB ts = tb := ⟨_, rfl⟩
  have HC : Hid (Calls _ _ _ _ _) := impl_table a g cap ts hne hl w hA
  rw [htb] at HC
  have HT : Hid (tabB ts = tb) := htb
  clear hA htb
  go_enter Tryd.func16, Tryd.ntmps16
  go_wp2_with fail
  refine HC.out.mono ?_
  rintro e w1 ⟨rfl, b1⟩
  cases tb
  · go_wp2
    go_ret
    exact Or.inl ⟨HT.out, rfl, b1⟩
  · obtain ⟨h40, he, _⟩ := tab_parts HT.out
    have HE : Hid (∀ i, i < ts.length → EntOk ts.length (ts.getD i noTyp)) := he
    have hb1 := b1.size
    have A1 : Hid (TypAt w1 g ts) := HA.out.below b1 (fun h => HA.out.lt h)
    obtain ⟨i0, hi, hz0, hz1, hz2⟩ := info_parts info_shp
    have hmk := run_make (P := Tryd.prog) w1 40 47 i0 _ Tryd.underlying40 hi hz0 .i64 .i64 (ts.length : Int) (ts.length : Int) (by omega) (by omega) (by rw [hz2]; omega) (by omega)
    rw [hz1] at hmk
    have ez : ((ts.length : Nat) : Int).toNat = ts.length := by omega
    rw [ez, made_ptrs] at hmk
    obtain ⟨wm, hwm⟩ : ∃ wm, w1.alloc (.cells (List.replicate ts.length (Value.pointer none)).toArray 47) = wm := ⟨_, rfl⟩
    rw [hwm] at hmk
    have hR0 : RowP wm w1.heap.size (List.replicate ts.length (Value.pointer none)) := by rw [← hwm]; exact (MapKept.heap_alloc w1 _).1
    have HR0 : Hid (_) := hR0
    have hbm : Below w1.heap.size w1 wm := by rw [← hwm]; exact (Below.refl _ w1).alloc (Nat.le_refl _) _
    have hsm : wm.heap.size = w1.heap.size + 1 := by rw [← hwm]; simp
    clear hi hz0 hz1 hz2 ez hwm he hR0 HC
    have hw1m : w1.heap.size < wm.heap.size := by omega
    have HS0 : Hid (wm.heap.size = w1.heap.size + 1) := hsm
    clear hsm
    have B0 : Hid (Below w.heap.size w wm) := b1.trans (hbm.mono hb1)
    have HG0 : Hid (w.heap.size ≤ w1.heap.size) := hb1
    have HA1 : Hid (∀ W : World, Below w.heap.size w W → TypAt W g ts) := fun W hW => HA.out.below hW (fun h => HA.out.lt h)
    have HR0' : Hid (RowP wm w1.heap.size (mixP (fun i => w1.heap.size + 2 + 2 * i) ts.length 0)) := by show RowP _ _ _; rw [mixP_zero]; exact HR0.out
    clear HR0 hbm b1 hb1 A1
    generalize w1.heap.size = G at *
    obtain ⟨bl, hbl⟩ : ∃ bl : Nat → Nat, (fun i => G + 2 + 2 * i) = bl := ⟨_, rfl⟩
    rw [hbl] at HR0'
    have HBL : Hid (∀ i, bl i = G + 2 + 2 * i) := fun i => by rw [← hbl]
    clear hbl
    go_wp2
    go_loopw [17] (fun iv wr => ∃ i : Nat, iv = .int .i64 i ∧ i ≤ ts.length ∧ Hid (wr.heap.size = G + 1 + 2 * i) ∧ Hid (RowP wr G (mixP bl ts.length i)) ∧ Hid (∀ j, j < i → wr.heap[bl j]? = some (.cells (shInit (ts.getD j noTyp)) 60 (0, 0))) ∧ Hid (Below w.heap.size w wr)) (fun iv _ => ts.length - (intOf iv).toNat)
    case atStart => exact ⟨0, rfl, by omega, HS0.out, HR0', fun j hj => absurd hj (by omega), B0⟩
    case round =>
      obtain ⟨i, rfl, hi, HZ, HR, HI, HB⟩ := hrel
      clear HR0' B0 HS0 hmk hw1m
      by_cases hin : i < ts.length
      · have hin' : (i : Int) < ts.length := by omega
        obtain rfl := hne (by omega)
        have t := (HA1.out wr HB.out) i hin
        have HX : Hid (shInit (ts.getD i noTyp) = #[.int .i64 (ts.getD i noTyp).kind, .pointer none, .pointer none]) := rfl
        generalize hx : ts.getD i noTyp = x at t HX
        have HXX : Hid (ts.getD i noTyp = x) := hx
        clear hx
        obtain ⟨x0, x1, x2⟩ := x
        have q0 : wr.cell? ⟨g, i * 3, none⟩ = some (.int .i64 x0) := t.c0
        have q1 : wr.cell? ⟨g, i * 3 + 1, none⟩ = some (.int .i64 x1) := t.c1
        have q2 : wr.cell? ⟨g, i * 3 + 2, none⟩ = some (.int .i64 x2) := t.c2
        have hgl : G < wr.heap.size := HR.out.lt
        have hbs := HB.out.size
        have HBi : Hid (bl i = wr.heap.size + 1) := by show _ = _; rw [HBL.out, HZ.out]; omega
        obtain ⟨ws, hws⟩ : ∃ ws, wr.setCell ⟨G, i, none⟩ (.pointer (some ⟨wr.heap.size + 1, 0, none⟩)) = ws := ⟨_, rfl⟩
        have hss : ws.heap.size = wr.heap.size := by rw [← hws]; simp
        have hRs : RowP ws G (mixP bl ts.length (i + 1)) := by
          rw [← mixP_set _ _ _ hin, ← hws]
          have := HR.out.set i (shP bl i)
          unfold shP at this ⊢
          rw [HBi.out] at this ⊢
          exact this
        have HWS : Hid (wr.setCell ⟨G, i, none⟩ (.pointer (some ⟨wr.heap.size + 1, 0, none⟩)) = ws) := hws
        have hbS : Below w.heap.size w ws := by rw [← hws]; exact HB.out.setCell (p := ⟨G, i, none⟩) HG0.out _
        have hIs : ∀ j, j < i → ws.heap[bl j]? = some (.cells (shInit (ts.getD j noTyp)) 60 (0, 0)) := fun j hj => by
          rw [← hws, heap_setCell_other _ _ _ _ (by rw [HBL.out]; show _ ≠ G; omega)]
          exact HI.out j hj
        obtain ⟨wa, hwa⟩ : ∃ wa, (ws.alloc (.cells #[.int .i64 x0, .int .i64 x1, .int .i64 x2] 35)).alloc (.cells #[.int .i64 x0, .pointer none, .pointer none] 60) = wa := ⟨_, rfl⟩
        have HWA : Hid ((ws.alloc (.cells #[.int .i64 x0, .int .i64 x1, .int .i64 x2] 35)).alloc (.cells #[.int .i64 x0, .pointer none, .pointer none] 60) = wa) := hwa
        have hba : Below ws.heap.size ws wa := by rw [← hwa]; exact ((Below.refl _ ws).alloc (Nat.le_refl _) _).alloc (by simp) _
        have HRs : Hid (RowP wa G (mixP bl ts.length (i + 1))) := hRs.below hba
        have HZs : Hid (wa.heap.size = G + 1 + 2 * (i + 1)) := by
          show _ = _
          have h2 := HZ.out
          rw [← hwa]
          simp
          omega
        have HIs : Hid (∀ j, j < i + 1 → wa.heap[bl j]? = some (.cells (shInit (ts.getD j noTyp)) 60 (0, 0))) := fun j hj => by
          by_cases e : j = i
          · subst e
            rw [HBi.out, ← hss, ← hwa, heap_alloc2_new, HXX.out]
            rfl
          · exact (hba.block _ (by rw [HBL.out, hss, HZ.out]; omega)).trans (hIs j (by omega))
        have HBs : Hid (Below w.heap.size w wa) := hbS.trans (hba.mono (by omega))
        have cG : wr.cell? ⟨G, i, none⟩ = some (.pointer none) := by
          have := HR.out.cell i (by rw [mixP_length]; exact hin)
          rw [mixP_at _ _ _ _ hin, if_neg (by omega)] at this
          exact this
        have fG := HR.out.frozen i
        clear t hwa hba hws hss hRs hbS hIs
        go_wp2
        rw [HWS.out, HWA.out]
        go_roundw
        case rel => exact ⟨i + 1, by go_num, by omega, HZs.out, HRs, HIs, HBs⟩
        case measure => simp [intOf]; omega
      · obtain rfl : i = ts.length := by omega
        have HIJ : Hid (∀ i j, bl i = bl j → i = j) := fun i j h => by rw [HBL.out, HBL.out] at h; omega
        have HH0 : Hid (Half wr bl ts 0) := fun j hj => by rw [if_neg (by omega)]; exact HI.out j hj
        have HGb : Hid (∀ i, G < bl i) := fun i => by rw [HBL.out]; omega
        clear HI HZ
        go_wp2
        go_loopw [32] (fun iv wq => ∃ i : Nat, iv = .int .i64 i ∧ i ≤ ts.length ∧ Hid (RowP wq G (mixP bl ts.length ts.length)) ∧ Hid (Half wq bl ts i) ∧ Hid (Below w.heap.size w wq)) (fun iv _ => ts.length - (intOf iv).toNat)
        case atStart => exact ⟨0, rfl, by omega, HR, HH0, HB⟩
        case round =>
          obtain ⟨i, rfl, hi, HR, HH, HB⟩ := hrel
          clear HH0
          by_cases hin : i < ts.length
          · have hin' : (i : Int) < ts.length := by omega
            obtain rfl := hne (by omega)
            have t := (HA1.out wr HB.out) i hin
            have hei := HE.out i hin
            have HKR : Hid (∀ k ∈ kidZ (ts.getD i noTyp), 0 ≤ k ∧ k < ts.length) := hei.kids
            have hav := hei.av
            have HH1 : Hid (wr.heap[bl i]? = some (.cells (shInit (ts.getD i noTyp)) 60 (0, 0))) := by have := HH.out i hin; rw [if_neg (by omega)] at this; exact this
            have HSR : Hid (shRow bl (ts.getD i noTyp) = #[.int .i64 (ts.getD i noTyp).kind, shX bl 0 (kidZ (ts.getD i noTyp)), shX bl 1 (kidZ (ts.getD i noTyp))]) := rfl
            have HNX : Hid (∀ w' : World, w'.heap[bl i]? = some (.cells (shRow bl (ts.getD i noTyp)) 60 (0, 0)) → (∀ k, k < wr.heap.size → k ≠ bl i → w'.heap[k]? = wr.heap[k]?) → Half w' bl ts (i + 1)) := fun w' h1 h2 => HH.out.next hin h1 h2 HIJ.out
            generalize ts.getD i noTyp = x at *
            obtain ⟨x0, x1, x2⟩ := x
            have q0 : wr.cell? ⟨g, i * 3, none⟩ = some (.int .i64 x0) := t.c0
            have q1 : wr.cell? ⟨g, i * 3 + 1, none⟩ = some (.int .i64 x1) := t.c1
            have q2 : wr.cell? ⟨g, i * 3 + 2, none⟩ = some (.int .i64 x2) := t.c2
            have hbs := HB.out.size
            have HNE : Hid (∀ w : World, Calls Tryd.prog 28 #[.agg #[.int .i64 x0, .int .i64 x1, .int .i64 x2]] w (KidEnd w ⟨x0, x1, x2⟩)) := impl_next x0 x1 x2 hav
            have hkl := kidZ_length ⟨x0, x1, x2⟩
            unfold KidEnd at HNE
            generalize kidZ ⟨x0, x1, x2⟩ = ks at *
            clear t hei hav
            go_wp2_with fail
            refine (HNE.out _).mono ?_
            rintro e w2 ⟨ka, K, kc, rfl, hka, hkA, kb, hkG⟩
            have hb2 : Below wr.heap.size wr w2 := ((Below.refl _ wr).alloc (Nat.le_refl _) _).trans (kb.mono (by simp))
            have HB2 : Hid (Below wr.heap.size wr w2) := hb2
            have HBw : Hid (Below w.heap.size w w2) := HB.out.trans (hb2.mono hbs)
            have HR2 : Hid (RowP w2 G (mixP bl ts.length ts.length)) := HR.out.below hb2
            have HI2 : Hid (w2.heap[bl i]? = some (.cells #[.int .i64 x0, .pointer none, .pointer none] 60 (0, 0))) := (hb2.block _ (Array.getElem?_eq_some_iff.1 HH1.out).1).trans HH1.out
            have ci1 : w2.cell? ⟨bl i, 1, none⟩ = some (.pointer none) := by rw [cell_of_row _ _ _ _ _ _ HI2.out]; rfl
            have ci2 : w2.cell? ⟨bl i, 2, none⟩ = some (.pointer none) := by rw [cell_of_row _ _ _ _ _ _ HI2.out]; rfl
            have fi := fun j => frozen_of_row w2 (bl i) j _ _ HI2.out
            have cRi : w2.cell? ⟨G, i, none⟩ = some (shP bl i) := by
              have := HR2.out.cell i (by rw [mixP_length]; exact hin)
              rwa [mixP_at _ _ _ _ hin, if_pos hin] at this
            have HCR : Hid (∀ k : Nat, k < ts.length → w2.cell? ⟨G, k, none⟩ = some (shP bl k)) := fun k hk => by
              have := HR2.out.cell k (by rw [mixP_length]; exact hk)
              rwa [mixP_at _ _ _ _ hk, if_pos hk] at this
            have HKA : Hid (IntAt w2 K ks) := hkA
            have HGi := HGb.out i
            have hGb : G ≠ bl i := by omega
            clear hb2 kb hkA q0 q1 q2 hkG
            rcases two_cases ks hkl with rfl | ⟨k1, rfl⟩ | ⟨k1, k2, rfl⟩
            · go_wp2
              have HHn : Hid (Half (w2) bl ts (i + 1)) := HNX.out _ (by rw [HSR.out]; exact HI2.out) (fun k hk hne => HB2.out.block k hk)
              have HRn : Hid (RowP (w2) G (mixP bl ts.length ts.length)) := HR2.out
              have HBn : Hid (Below w.heap.size w (w2)) := HBw.out
              go_roundw
              case rel => exact ⟨i + 1, by go_num, by omega, HRn, HHn, HBn⟩
              case measure => simp [intOf]; omega
            · obtain rfl := hka (by simp)
              obtain ⟨h11, h12⟩ := HKR.out k1 (by simp)
              obtain ⟨m1, rfl⟩ := Int.eq_ofNat_of_zero_le h11
              have hm1 : m1 < ts.length := by omega
              have ck1 : w2.cell? ⟨K, 0, none⟩ = some (.int .i64 m1) := HKA.out 0 (by simp)
              have cm1 := HCR.out m1 hm1
              go_wp2
              go_region_law (fail)
              all_goals
                go_wp2
                have HHn : Hid (Half (w2.drew.setCell ⟨bl i, 1, none⟩ (shP bl m1)) bl ts (i + 1)) := HNX.out _ (by rw [HSR.out]; exact (two_stores (w := w2.drew) (p := shP bl m1) (q := .pointer none) HI2.out).1) (fun k hk hne => (heap_setCell_other _ _ _ _ hne).trans (HB2.out.block k hk))
                have HRn : Hid (RowP (w2.drew.setCell ⟨bl i, 1, none⟩ (shP bl m1)) G (mixP bl ts.length ts.length)) := (heap_setCell_other _ ⟨bl i, 1, none⟩ G _ hGb).trans HR2.out
                have HBn : Hid (Below w.heap.size w (w2.drew.setCell ⟨bl i, 1, none⟩ (shP bl m1))) := HBw.out.drew.setCell (p := ⟨bl i, 1, none⟩) (by have := HG0.out; show _ ≤ bl i; omega) _
                go_roundw
                case rel => exact ⟨i + 1, by go_num, by omega, HRn, HHn, HBn⟩
                case measure => simp [intOf]; omega
            · obtain rfl := hka (by simp)
              obtain ⟨h11, h12⟩ := HKR.out k1 (by simp)
              obtain ⟨m1, rfl⟩ := Int.eq_ofNat_of_zero_le h11
              have hm1 : m1 < ts.length := by omega
              have ck1 : w2.cell? ⟨K, 0, none⟩ = some (.int .i64 m1) := HKA.out 0 (by simp)
              have cm1 := HCR.out m1 hm1
              obtain ⟨h21, h22⟩ := HKR.out k2 (by simp)
              obtain ⟨m2, rfl⟩ := Int.eq_ofNat_of_zero_le h21
              have hm2 : m2 < ts.length := by omega
              have ck2 : w2.cell? ⟨K, 1, none⟩ = some (.int .i64 m2) := HKA.out 1 (by simp)
              have cm2 := HCR.out m2 hm2
              have hKb : K ≠ bl i := fun e => by rw [e, ci1] at ck2; cases ck2
              go_wp2
              go_region_law (fail)
              all_goals
                go_wp2
                go_region_law (fail)
                all_goals
                  go_wp2
                  have HHn : Hid (Half ((w2.drew.setCell ⟨bl i, 1, none⟩ (shP bl m1)).drew.setCell ⟨bl i, 2, none⟩ (shP bl m2)) bl ts (i + 1)) := HNX.out _ (by rw [HSR.out]; exact (two_stores (w := w2.drew) (p := shP bl m1) (q := shP bl m2) HI2.out).2) (fun k hk hne => (heap_setCell_other _ _ _ _ hne).trans ((heap_setCell_other _ _ _ _ hne).trans (HB2.out.block k hk)))
                  have HRn : Hid (RowP ((w2.drew.setCell ⟨bl i, 1, none⟩ (shP bl m1)).drew.setCell ⟨bl i, 2, none⟩ (shP bl m2)) G (mixP bl ts.length ts.length)) := (heap_setCell_other _ ⟨bl i, 2, none⟩ G _ hGb).trans ((heap_setCell_other _ ⟨bl i, 1, none⟩ G _ hGb).trans HR2.out)
                  have HBn : Hid (Below w.heap.size w ((w2.drew.setCell ⟨bl i, 1, none⟩ (shP bl m1)).drew.setCell ⟨bl i, 2, none⟩ (shP bl m2))) := (HBw.out.drew.setCell (p := ⟨bl i, 1, none⟩) (by have := HG0.out; show _ ≤ bl i; omega) _).drew.setCell (p := ⟨bl i, 2, none⟩) (by have := HG0.out; show _ ≤ bl i; omega) _
                  go_roundw
                  case rel => exact ⟨i + 1, by go_num, by omega, HRn, HHn, HBn⟩
                  case measure => simp [intOf]; omega
          · obtain rfl : i = ts.length := by omega
            go_wp2
            go_ret
            refine Or.inr ⟨HT.out, bl, G, rfl, ⟨fun j hj => ?_, fun i j _ _ h => HIJ.out i j h⟩, fun j hj => ?_, HG0.out, HR.out.lt, fun i _ => HGb.out i, HB.out⟩
            · have := HH.out j hj
              rwa [if_pos hj] at this
            · have := HR.out.cell j (by rw [mixP_length]; exact hj)
              rwa [mixP_at _ _ _ _ hj, if_pos hj] at this

set_option maxHeartbeats 1000000 in
set_option maxRecDepth 20000 in
theorem impl_sizeOf (a : Option Addr) (g cap : Nat) (ts : List Typ) (i : Int) (h0 : -9223372036854775808 ≤ i) (h1 : i ≤ 9223372036854775807) (hne : 0 < ts.length → a = some ⟨g, 0, none⟩) (hl : ts.length ≤ 1048576) (w : World) (hA : TypAt w g ts) :
    Calls Tryd.prog 8 #[.slice a ts.length cap, .int .i64 i] w fun e w' => e = .returned (.int .i64 ((sizB ts i : Nat) : Int)) ∧ Below w.heap.size w w' := by
  have HC : Hid (Calls _ _ _ _ _) := impl_shapes a g cap ts hne hl w hA
  clear hA
  go_enter Tryd.func8, Tryd.ntmps8
  go_wp2_with fail
  refine HC.out.mono ?_
  rintro e w1 (⟨ht, rfl, b1⟩ | ⟨ht, bl, G, rfl, hS, hG, hg1, hg2, _, b1⟩)
  · have HV : Hid (sizB ts i = 0) := by show _ = _; unfold sizB; rw [if_neg (by rw [ht]; simp)]
    clear ht
    by_cases hi : i < 0
    · go_wp2
      go_ret
      exact ⟨by rw [HV.out] <;> rfl, b1⟩
    · go_wp2
      go_ret
      exact ⟨by rw [HV.out] <;> rfl, b1⟩
  · have HT : Hid (tabB ts = true) := ht
    clear ht
    by_cases hr : 0 ≤ i ∧ i < ts.length
    · obtain ⟨m, rfl⟩ := Int.eq_ofNat_of_zero_le hr.1
      have hm : m < ts.length := by omega
      have hm' : (m : Int) < ts.length := hr.2
      have HV : Hid (sizB ts m = min (sizeT (solB ts m)) 61) := by show _ = _; unfold sizB; rw [if_pos ⟨HT.out, hr⟩]; simp
      obtain ⟨_, r, hok⟩ := tab_ok HT.out
      have cG := hG m hm
      have HZ : Hid (Calls _ _ _ _ _) := impl_size hok bl m hm w1 hS
      clear hr hok hS hG
      go_wp2_with fail
      refine HZ.out.mono ?_
      rintro e w2 ⟨rfl, b2⟩
      have B2 : Below w.heap.size w w2 := b1.trans (b2.mono b1.size)
      go_wp2
      go_ret
      exact ⟨by rw [HV.out] <;> rfl, B2⟩
    · have HV : Hid (sizB ts i = 0) := by show _ = _; unfold sizB; rw [if_neg (fun q => hr q.2)]
      clear hS hG
      by_cases hi : i < 0
      · clear hr
        go_wp2
        go_ret
        exact ⟨by rw [HV.out] <;> rfl, b1⟩
      · have hi2 : (ts.length : Int) ≤ i := by omega
        clear hr
        go_wp2
        go_ret
        exact ⟨by rw [HV.out] <;> rfl, b1⟩
end Go.Proofs.YtjjanmccijghgaaDoor
