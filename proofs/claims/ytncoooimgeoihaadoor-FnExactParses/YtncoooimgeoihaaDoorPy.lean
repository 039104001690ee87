/-
  An expression that is nil, a name, or no expression, the specification's. Conditions: written at each theorem.
-/
import Derived.Test.YtncoooimgeoihaaDoorPx
namespace Go.Proofs.YtncoooimgeoihaaDoor
open Go.ChangeShapes Go.WideShapes Go.ChangeAt Go.RowKit
set_option linter.unusedVariables false

set_option maxHeartbeats 2000000 in
set_option maxRecDepth 20000 in
theorem spec_x_nil (g n cap i : Nat) (p E : Int) (tn tp : Int) (hi : i < n) (hc : n ≤ 1048576) (v : Value) (B : Nat) (l : List Nod) (w : World) (hown : ownNod w B v l) (hB : B ≤ w.heap.size) (hl : l.length ≤ 1048576) (hT : TokIn w g i ⟨3, ⟨#[110, 105, 108]⟩, tn, tp⟩) :
    Calls Tryd.prog 24 #[stV (some ⟨g, 0, none⟩) n cap i 0 p E, v] w fun e w' => XOut (some ⟨g, 0, none⟩) n cap p E B w v (.ok (i + 1, l ++ [⟨12, 0, 0, 0, 0, ByteArray.empty, ByteArray.empty⟩])) e w' := by
  have hi' : (i : Int) < n := by omega
  have HB : Hid (B ≤ w.heap.size) := hB
  have HL : Hid (l.length ≤ 1048576) := hl
  have t0 : w.cell? ⟨g, i * 4, none⟩ = some (.int .i64 3) := hT.c0
  have t1 : w.cell? ⟨g, i * 4 + 1, none⟩ = some (.string ⟨#[110, 105, 108]⟩) := hT.c1
  have t2 : w.cell? ⟨g, i * 4 + 2, none⟩ = some (.int .i64 tn) := hT.c2
  have t3 : w.cell? ⟨g, i * 4 + 3, none⟩ = some (.int .i64 tp) := hT.c3
  have hg := cell_lt' t0
  obtain ⟨i0, hii, hz0, hz1, hz2⟩ := info_parts info_nod
  obtain ⟨W0, hW0⟩ : ∃ W0, (((w.alloc (.cells (stR (some ⟨g, 0, none⟩) n cap ((i : Int) + 1) 0 p E) 47)).alloc (.cells (stR none 0 0 0 0 0 0) 47)).alloc (.cells (tokR 3 ⟨#[110, 105, 108]⟩ tn tp) 52)) = W0 := ⟨_, rfl⟩
  have HW : Hid (_) := hW0
  have HX1 : Hid (XS w v B (some ⟨g, 0, none⟩) n cap E W0 v l ((i : Int) + 1) 0 p) := by
    rw [← hW0]
    exact (XS.start hown).alloc _
  have HZ : Hid (W0.heap.size = w.heap.size + 1 + 1 + 1) := by
    show W0.heap.size = _
    rw [← hW0]
    simp
  have HTK : Hid (W0.heap[w.heap.size + 1 + 1]? = some (.cells (tokR 3 ⟨#[110, 105, 108]⟩ tn tp) 52 (0, 0))) := by
    show W0.heap[w.heap.size + 1 + 1]? = _
    rw [← hW0]
    exact heap_new_at (by simp)
  clear hown hB hl hT hW0
  go_enter Tryd.func24, Tryd.ntmps24
  go_wp2
  rw [HW.out]
  obtain ⟨⟨p0, p1, p2, p3, p4, p5⟩, q0, q1, q2, q3, q4, q5⟩ := HX1.out.cells
  obtain ⟨k0, k1, k2, k3⟩ := tok_cells HTK.out
  have z0 := HZ.out
  clear t0 t1 t2 t3 HW HTK
  go_region_law (refine step_append_at rfl (.tmp 73) (.tmp 75) 24 rfl B 55 i0 _ 7 72 Tryd.underlying24 hii hz0 hz1 hz2 rfl (by decide) v _ _ (by simp [Act.eval]) (HX1.out.drew.alloc _).own ⟨w.heap.size + 1 + 1 + 1, 0, none⟩ 1 1 (nodCells ⟨12, 0, 0, 0, 0, ByteArray.empty, ByteArray.empty⟩) (by simp [Act.eval]) rfl (nod_at (heap_new_at z0)) (nod_one _) (by decide) (by have := HL.out; unfold maxLen; omega) (by have := HL.out; omega) (by have := HB.out; simp <;> omega) ?_; intro v' w3 hown' hgr; have HH : Hid (_) := HX1.out.more hown' hgr; have HO : Hid (_) := hown'; have HGR : Hid (_) := hgr; obtain ⟨p0, p1, p2, p3, p4, p5⟩ := st_row HH.out.1; obtain ⟨q0, q1, q2, q3, q4, q5⟩ := st_row HH.out.2.1; clear hown' hgr)
  all_goals
    go_wp2
    refine bodyPost_ret (results_row_tmp rfl _ _ (w.heap.size + 1) _ v' rfl (st_put HH.out.2.1 (some ⟨g, 0, none⟩) n cap ((i : Int) + 1) 0 p E) rfl) rfl ?_
    obtain ⟨f1, f2⟩ := x_fin HH.out.2.2.1 HH.out.2.2.2 HX1.out.low (ownNod_next ⟨12, 0, 0, 0, 0, ByteArray.empty, ByteArray.empty⟩ HO.out rfl rfl) (some ⟨g, 0, none⟩) n cap ((i : Int) + 1) 0 p E
    exact ⟨v', by rw [Int.natCast_add]; rfl, f1, f2⟩
set_option maxHeartbeats 2000000 in
set_option maxRecDepth 20000 in
theorem spec_x_close (g n cap i : Nat) (p E : Int) (tx : ByteArray) (tn tp : Int) (hi : i < n) (hc : n ≤ 1048576) (v : Value) (B : Nat) (l : List Nod) (w : World) (hown : ownNod w B v l) (hT : TokIn w g i ⟨2, tx, tn, tp⟩) :
    Calls Tryd.prog 24 #[stV (some ⟨g, 0, none⟩) n cap i 0 p E, v] w fun e w' => XOut (some ⟨g, 0, none⟩) n cap p E B w v (.error (3, tp)) e w' := by
  have hi' : (i : Int) < n := by omega
  have t0 : w.cell? ⟨g, i * 4, none⟩ = some (.int .i64 2) := hT.c0
  have t1 : w.cell? ⟨g, i * 4 + 1, none⟩ = some (.string tx) := hT.c1
  have t2 : w.cell? ⟨g, i * 4 + 2, none⟩ = some (.int .i64 tn) := hT.c2
  have t3 : w.cell? ⟨g, i * 4 + 3, none⟩ = some (.int .i64 tp) := hT.c3
  have hg := cell_lt' t0
  obtain ⟨W0, hW0⟩ : ∃ W0, (((w.alloc (.cells (stR (some ⟨g, 0, none⟩) n cap i 0 p E) 47)).alloc (.cells (stR none 0 0 0 0 0 0) 47)).alloc (.cells (tokR 2 tx tn tp) 52)) = W0 := ⟨_, rfl⟩
  have HW : Hid (_) := hW0
  have HX1 : Hid (XS w v B (some ⟨g, 0, none⟩) n cap E W0 v l i 0 p) := by
    rw [← hW0]
    exact (XS.start hown).alloc _
  clear hown hT hW0
  go_enter Tryd.func24, Tryd.ntmps24
  go_wp2_with fail
  rw [HW.out]
  refine (spec_fail _ n cap i p E 3 tp W0).mono ?_
  rintro e w1 ⟨rfl, b1⟩
  have HX2 : Hid (XS w v B (some ⟨g, 0, none⟩) n cap E w1 v l i 0 p) := HX1.out.below b1
  obtain ⟨⟨p0, p1, p2, p3, p4, p5⟩, q0, q1, q2, q3, q4, q5⟩ := HX2.out.cells
  clear b1 HW HX1 t0 t1 t2 t3
  go_wp2
  obtain ⟨f0, f1, f2⟩ := HX2.out.back i 3 tp
  refine bodyPost_ret (results_row_tmp rfl _ _ (w.heap.size + 1) _ v rfl f0 rfl) rfl ?_
  exact ⟨i, v, l, rfl, f1, f2⟩

/-- What a name that is taken makes of the reading. -/
def nameX (ts : List Tok) (E : Int) (i : Nat) (l : List Nod) : Except Flt (Nat × List Nod) := match nameE ts E i with
  | .ok (j, s) => .ok (j, l ++ [⟨1, 0, 0, 0, 0, s, ByteArray.empty⟩])
  | .error e => .error e

theorem nm_form {a : Option Addr} {n cap i : Nat} {p E : Int} {ts : List Tok} {e : Ending} {l : List Nod} {B : Nat} {w : World} {v : Value}
    (he : match nameE ts E i with
        | .ok (j, s) => e = .returned (.tuple #[stV a n cap (j : Nat) 0 p E, .string s])
        | .error (c, q) => e = .returned (.tuple #[stV a n cap i c q E, .string ⟨#[]⟩])) :
    ∃ (i' c' q' : Int) (s' : ByteArray), e = .returned (.tuple #[stV a n cap i' c' q' E, .string s']) ∧
      ∀ v' w', ownNod w' B v' (l ++ [⟨1, 0, 0, 0, 0, s', ByteArray.empty⟩]) → Grew w w' v v' → XOut a n cap p E B w v (nameX ts E i l) (.returned (.tuple #[stV a n cap i' c' q' E, v'])) w' := by
  unfold nameX
  rcases htk : nameE ts E i with ⟨c, q⟩ | ⟨j, s⟩
  · rw [htk] at he
    exact ⟨_, _, _, _, he, fun v' w' h1 h2 => ⟨_, v', _, rfl, h1, h2⟩⟩
  · rw [htk] at he
    exact ⟨_, _, _, s, he, fun v' w' h1 h2 => ⟨v', rfl, h1, h2⟩⟩

set_option maxHeartbeats 4000000 in
set_option maxRecDepth 20000 in
theorem spec_x_name (g n cap i : Nat) (p E : Int) (ts : List Tok) (hn : ts.length = n) (tx : ByteArray) (tn tp : Int) (hi : i < n) (hc : n ≤ 1048576) (v : Value) (B : Nat) (l : List Nod) (w : World) (hown : ownNod w B v l) (hB : B ≤ w.heap.size) (hl : l.length ≤ 1048576) (hTA : TokAt w g ts) (hT : TokIn w g i ⟨3, tx, tn, tp⟩) (hnil : (tx.toList == [110, 105, 108]) = false) :
    Calls Tryd.prog 24 #[stV (some ⟨g, 0, none⟩) n cap i 0 p E, v] w fun e w' => XOut (some ⟨g, 0, none⟩) n cap p E B w v (nameX ts E i l) e w' := by
  have hi' : (i : Int) < n := by omega
  have HN : Hid (ts.length = n) := hn
  have HB : Hid (B ≤ w.heap.size) := hB
  have HL : Hid (l.length ≤ 1048576) := hl
  have t0 : w.cell? ⟨g, i * 4, none⟩ = some (.int .i64 3) := hT.c0
  have t1 : w.cell? ⟨g, i * 4 + 1, none⟩ = some (.string tx) := hT.c1
  have t2 : w.cell? ⟨g, i * 4 + 2, none⟩ = some (.int .i64 tn) := hT.c2
  have t3 : w.cell? ⟨g, i * 4 + 3, none⟩ = some (.int .i64 tp) := hT.c3
  have hg := cell_lt' t0
  obtain ⟨i0, hii, hz0, hz1, hz2⟩ := info_parts info_nod
  obtain ⟨W0, hW0⟩ : ∃ W0, (((w.alloc (.cells (stR (some ⟨g, 0, none⟩) n cap i 0 p E) 47)).alloc (.cells (stR none 0 0 0 0 0 0) 47)).alloc (.cells (tokR 3 tx tn tp) 52)) = W0 := ⟨_, rfl⟩
  have HW : Hid (_) := hW0
  have HX1 : Hid (XS w v B (some ⟨g, 0, none⟩) n cap E W0 v l i 0 p) := by
    rw [← hW0]
    exact (XS.start hown).alloc _
  have HTA : Hid (TokAt W0 g ts) := by
    rw [← hW0]
    exact hTA.below (below3 w _ _ _) hg
  clear hown hB hl hT hTA hW0 hn
  go_enter Tryd.func24, Tryd.ntmps24
  go_wp2_with fail
  rw [HW.out]
  refine (spec_nm _ g n cap i p E ts HN.out hc (fun _ => rfl) W0 HTA.out).mono ?_
  rintro e w1 ⟨he, b1⟩
  obtain ⟨i', c', q', s', rfl, hfin⟩ := nm_form (l := l) (B := B) (w := w) (v := v) he
  have HF : Hid (_) := hfin
  have HX2 : Hid (XS w v B (some ⟨g, 0, none⟩) n cap E (w1.alloc (.cells (stR (some ⟨g, 0, none⟩) n cap i' c' q' E) 47)) v l i 0 p) := (HX1.out.below b1).alloc _
  obtain ⟨W2, hW2⟩ : ∃ W2, w1.alloc (.cells (stR (some ⟨g, 0, none⟩) n cap i' c' q' E) 47) = W2 := ⟨_, rfl⟩
  have HW2 : Hid (_) := hW2
  have HS : Hid (W2.heap[w1.heap.size]? = some (.cells (stR (some ⟨g, 0, none⟩) n cap i' c' q' E) 47 (0, 0))) := by rw [← hW2]; exact heap_alloc_new w1 _
  have HZ : Hid (W2.heap.size = w1.heap.size + 1) := by
    show W2.heap.size = _
    rw [← hW2]; simp
  have hs1 : w.heap.size + 1 < w1.heap.size := (HX1.out.below b1).size
  have HVL : Hid (∀ k, v.ownBlock = some k → k < w.heap.size) := HX1.out.low
  rw [hW2] at HX2
  clear hfin he b1 HW HX1 t0 t1 t2 t3 HTA hW2
  go_wp2
  rw [HW2.out]
  obtain ⟨⟨p0, p1, p2, p3, p4, p5⟩, q0, q1, q2, q3, q4, q5⟩ := HX2.out.cells
  obtain ⟨s0, s1, s2, s3, s4, s5⟩ := st_row HS.out
  have z0 := HZ.out
  clear p0 p1 p2 p3 p4 p5
  go_region_law (refine step_append_at rfl (.tmp 87) (.tmp 90) 24 rfl B 55 i0 _ 7 72 Tryd.underlying24 hii hz0 hz1 hz2 rfl (by decide) v _ _ (by simp [Act.eval]) (HX2.out.drew.alloc _).own ⟨w1.heap.size + 1, 0, none⟩ 1 1 (nodCells ⟨1, 0, 0, 0, 0, s', ByteArray.empty⟩) (by simp [Act.eval]) rfl (nod_at (heap_new_at z0)) (nod_one _) (by decide) (by have := HL.out; unfold maxLen; omega) (by have := HL.out; omega) (by have := HB.out; simp <;> omega) ?_; intro v' w3 hown' hgr; have HH : Hid (_) := HX2.out.more hown' hgr; have HO : Hid (_) := hown'; have HGR : Hid (_) := hgr; obtain ⟨q0, q1, q2, q3, q4, q5⟩ := st_row HH.out.2.1; obtain ⟨s0, s1, s2, s3, s4, s5⟩ := st_row ((hgr.1.block w1.heap.size (by simp <;> omega) (fun e => by have := HVL.out _ e.symm; omega)).trans (((Below.refl _ W2.drew).alloc (Nat.le_refl _) _).block w1.heap.size (by show w1.heap.size < W2.heap.size; omega) |>.trans HS.out)); clear hown' hgr)
  all_goals
    go_wp2
    refine bodyPost_ret (results_row_tmp rfl _ _ (w.heap.size + 1) _ v' rfl (st_put HH.out.2.1 (some ⟨g, 0, none⟩) n cap i' c' q' E) rfl) rfl ?_
    obtain ⟨f1, f2⟩ := x_fin HH.out.2.2.1 HH.out.2.2.2 HX2.out.low (ownNod_next ⟨1, 0, 0, 0, 0, s', ByteArray.empty⟩ HO.out rfl rfl) (some ⟨g, 0, none⟩) n cap i' c' q' E
    exact HF.out v' _ f1 f2
end Go.Proofs.YtncoooimgeoihaaDoor
