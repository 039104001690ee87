/-
  Programs from texts, the specification's: every expression; Parse and Parses. Conditions: written at each theorem.
-/
import Derived.Test.YtncoooimgeoihaaDoorPc
import Derived.Test.YtncoooimgeoihaaDoorLr
import Derived.Test.YtncoooimgeoihaaDoorPp
namespace Go.Proofs.YtncoooimgeoihaaDoor
open Go.ChangeShapes Go.WideShapes Go.ChangeAt Go.RowKit
set_option linter.unusedVariables false

theorem tok_kinds {s : ByteArray} {t : Tok} (h : TokOk s t) : t.kind = 1 ∨ t.kind = 2 ∨ t.kind = 3 ∨ t.kind = 4 := by
  rcases h.1 with h | h | h | h
  · exact Or.inl h.1
  · exact Or.inr (Or.inl h.1)
  · exact Or.inr (Or.inr (Or.inl h.1))
  · exact Or.inr (Or.inr (Or.inr h.1))

theorem spec_expr (g cap : Nat) (ts : List Tok) (E : Int) (hc : ts.length ≤ 4000) (hk : ∀ i, i < ts.length → (ts.getD i noTok).kind = 1 ∨ (ts.getD i noTok).kind = 2 ∨ (ts.getD i noTok).kind = 3 ∨ (ts.getD i noTok).kind = 4) : ∀ f, ExprC g cap ts E f
  | 0 => fun i l v B p w hf hi _ _ _ _ _ => by omega
  | f + 1 => fun i l v B p w hf hi hl hown hB hT hgv => by
    rw [exprE]
    by_cases hlt : i < ts.length
    · rw [if_pos hlt]
      have hk0 := hk i hlt
      have hT0 := hT i hlt
      have hn : nameX ts E i l = (match nameE ts E i with | .ok (j, s) => .ok (j, l ++ [⟨1, 0, 0, 0, 0, s, ByteArray.empty⟩]) | .error e => .error e) := rfl
      have ho : openX ts E f i l = _ := rfl
      unfold openX at ho
      obtain ⟨t, ht⟩ : ∃ t, ts.getD i noTok = t := ⟨_, rfl⟩
      rw [ht] at hk0 hT0 ⊢
      obtain ⟨kd, tx, tn, tp⟩ := t
      simp only at hk0 ⊢
      rcases hk0 with rfl | rfl | rfl | rfl
      · rw [if_neg (by decide), if_neg (by decide), if_neg (by decide)]
        exact spec_x_open f g cap i p E ts (spec_expr g cap ts E hc hk f) hf tx tn tp hlt (by omega) v B l w hown hB hl hT hgv hT0
      · rw [if_neg (by decide), if_neg (by decide), if_pos rfl]
        exact spec_x_close g ts.length cap i p E tx tn tp hlt (by omega) v B l w hown hT0
      · rw [if_neg (by decide), if_pos rfl]
        by_cases hnil : tx.data.toList = [110, 105, 108]
        · rw [if_pos hnil]
          obtain rfl : tx = ⟨#[110, 105, 108]⟩ := data_ext hnil
          exact spec_x_nil g ts.length cap i p E tn tp hlt (by omega) v B l w hown hB (by omega) hT0
        · rw [if_neg hnil]
          refine spec_x_name g ts.length cap i p E ts rfl tx tn tp hlt (by omega) v B l w hown hB (by omega) hT hT0 ?_
          rw [beq_eq_false_iff_ne, Lib.toList_data]
          exact hnil
      · rw [if_pos rfl]
        exact spec_x_num g ts.length cap i p E tx tn tp hlt (by omega) v B l w hown hB (by omega) hT0
    · rw [if_neg hlt]
      exact spec_x_end _ ts.length cap i p E (by omega) v B l w hown

theorem spec_top (a : Option Addr) (g cap : Nat) (ts : List Tok) (E : Int) (hc : ts.length ≤ 4000) (ha : 0 < ts.length → a = some ⟨g, 0, none⟩) (hk : ∀ i, i < ts.length → (ts.getD i noTok).kind = 1 ∨ (ts.getD i noTok).kind = 2 ∨ (ts.getD i noTok).kind = 3 ∨ (ts.getD i noTok).kind = 4)
    (v : Value) (B : Nat) (w : World) (hown : ownNod w B v []) (hB : B ≤ w.heap.size) (hT : TokAt w g ts) (hgv : 0 < ts.length → v.ownBlock ≠ some g) :
    Calls Tryd.prog 24 #[stV a ts.length cap 0 0 0 E, v] w fun e w' => XOut a ts.length cap 0 E B w v (exprE ts E (ts.length + 1) 0 []) e w' := by
  by_cases h0 : 0 < ts.length
  · obtain rfl := ha h0
    exact spec_expr g cap ts E hc hk (ts.length + 1) 0 [] v B 0 w (by omega) (by omega) (by simp) hown hB hT (hgv h0)
  · rw [exprE, if_neg h0]
    exact spec_x_end a ts.length cap 0 0 E (by omega) v B [] w hown

/-- No nodes, beside a code. -/
theorem pe_none {s : ByteArray} {w X : World} {ts : List Tok} {n c q : Int} {N : Nat} (hx : Lexes s ts n) (hP : parseR ts n s.size = ([], c, q)) (hb : Below w.heap.size w X) (hN : X.heap.size = N) :
    ParseEnd s w.heap.size (.returned (.tuple #[.slice (some ⟨N, 0, none⟩) 0 0, .int .i64 c, .int .i64 q])) (X.alloc (.cells #[] 55)).drew ∧ Below w.heap.size w (X.alloc (.cells #[] 55)).drew := by
  subst hN
  exact ⟨⟨ts, n, _, hx, by rw [hP]; exact (ownNod_empty hb.size : ownNod (X.alloc (.cells #[] 55)) _ _ _), by rw [hP]⟩, (hb.alloc hb.size _).drew⟩

set_option maxHeartbeats 4000000 in
set_option maxRecDepth 20000 in
theorem spec_parse (s : ByteArray) (hs : s.size ≤ 1048576) (w : World) :
    Calls Tryd.prog 12 #[.string s] w fun e w' => ParseEnd s w.heap.size e w' ∧ Below w.heap.size w w' := by
  have HS : Hid (s.size ≤ 1048576) := hs
  clear hs
  go_enter Tryd.func12, Tryd.ntmps12
  go_wp2_with fail
  refine (lex_spec s w (by have := HS.out; unfold maxLen; omega)).mono ?_
  rintro e w1 ⟨⟨ts, n, v1, hx, ho1, rfl⟩, b1⟩
  have HX : Hid (Lexes s ts n) := hx
  have hlen := lexes_len hx
  have hsg := lexes_sign hx
  have s1 := b1.size
  have B1 : Hid (Below w.heap.size w w1) := b1
  obtain ⟨a1, g1, c1, sp1, rfl, ha1, hT1, hB1, hl1, hr1⟩ := own_form ho1
  have HT1 : Hid (TokAt w1 g1 ts) := hT1
  have HL1 : Hid (0 < ts.length → g1 < w1.heap.size) := hl1
  have HA1 : Hid (0 < ts.length → a1 = some ⟨g1, 0, none⟩) := ha1
  clear hx ho1 hT1 hl1 hr1 ha1 b1 hB1
  by_cases hn : 0 ≤ n
  · have HE : Hid (ownNod (w1.alloc (.cells #[] 55)) w.heap.size (.slice (some ⟨w1.heap.size, 0, none⟩) 0 0) []) := ownNod_empty s1
    have HB2 : Hid (Below w.heap.size w (w1.alloc (.cells #[] 55))) := B1.out.alloc s1 _
    have HP : Hid (parseR ts n s.size = ([], 1, n)) := by
      show parseR ts n s.size = _
      rw [parseR, if_pos hn]
    go_wp2
    go_ret3
    exact ⟨⟨ts, n, _, HX.out, by rw [HP.out]; exact HE.out, by rw [HP.out]; rfl⟩, HB2.out⟩
  · have HP : Hid (parseR ts n s.size = parseE ts s.size) := by
      show parseR ts n s.size = _
      rw [parseR, if_neg hn]
    have hn' : n < 0 := by omega
    have HT0 : Hid (TokAt (w1.alloc (.cells #[] 55)) g1 ts) := fun k hk => (HT1.out k hk).below ((Below.refl _ w1).alloc (Nat.le_refl _) _) (HL1.out (by omega))
    have HO0 : Hid (ownNod (w1.alloc (.cells #[] 55)) w.heap.size (.slice (some ⟨w1.heap.size, 0, none⟩) 0 0) []) := ownNod_empty s1
    go_wp2_with fail
    refine (spec_top a1 g1 c1 ts s.size hlen HA1.out (fun k hk => tok_kinds (lexes_at HX.out k hk)) _ w.heap.size _ HO0.out (by simp; omega) HT0.out (fun h e => by simp [Value.ownBlock] at e; have := HL1.out h; omega)).mono ?_
    rintro e w2 he
    obtain ⟨i', c', q', v', m, rfl, ho2, hg2, hcase⟩ := x_case (by omega) (by omega) (by simp) he
    have B2 : Hid (Below w.heap.size w w2) := (B1.out.alloc s1 _).trans (hg2.below (by simp; omega) (fun k hk => by simp [Value.ownBlock] at hk; omega))
    have HO2 : Hid (ownNod w2 w.heap.size v' m) := ho2
    have HT2 : Hid (TokAt w2 g1 ts) := fun k hk => by
      have hb : w2.heap[g1]? = (w1.alloc (.cells #[] 55)).heap[g1]? := hg2.1.block g1 (cell_lt' (HT0.out k hk).c0) (fun e => by simp [Value.ownBlock] at e; have := HL1.out (by omega); omega)
      exact ⟨(World.cell?_of_block hb).trans (HT0.out k hk).c0, (World.cell?_of_block hb).trans (HT0.out k hk).c1, (World.cell?_of_block hb).trans (HT0.out k hk).c2, (World.cell?_of_block hb).trans (HT0.out k hk).c3⟩
    obtain ⟨a2, g2, cap2, sp2, rfl, _⟩ := ownNod_form ho2
    have hm : (m.length : Int) ≤ 9223372036854775807 := by have := own_len ho2; omega
    have s2 : w1.heap.size ≤ w2.heap.size := by have := hg2.1.size; simp at this; omega
    clear he ho2 hg2 HT0 HO0 HT1 B1
    obtain ⟨W3, hW3⟩ : ∃ W3, w2.alloc (.cells (stR a1 ts.length c1 i' c' q' s.size) 47) = W3 := ⟨_, rfl⟩
    have HW3 : Hid (_) := hW3
    have B3 : Hid (Below w.heap.size w W3) := by rw [← hW3]; exact B2.out.alloc (by omega) _
    have R3 : Hid (W3.heap[w2.heap.size]? = some (.cells (stR a1 ts.length c1 i' c' q' s.size) 47 (0, 0))) := by rw [← hW3]; exact heap_alloc_new w2 _
    have HO3 : Hid (ownNod W3 w.heap.size (.slice a2 m.length cap2) m) := by rw [← hW3]; exact HO2.out.alloc _
    have HT3 : Hid (TokAt W3 g1 ts) := by rw [← hW3]; exact fun k hk => (HT2.out k hk).below ((Below.refl _ w2).alloc (Nat.le_refl _) _) (by have := HL1.out (by omega); omega)
    have s3 : w2.heap.size < W3.heap.size := by rw [← hW3]; simp
    clear hW3 HT2 HO2 B2
    obtain ⟨p0, p1, p2, p3, p4, p5⟩ := st_row R3.out
    rcases hcase with ⟨rfl, rfl, j, rfl, hj0, hj1, hml, hxe⟩ | ⟨hc0, hxe⟩
    · by_cases hjl : j < ts.length
      · have HP2 : Hid (parseR ts n s.size = ([], 4, (ts.getD j noTok).place)) := HP.out.trans (parse_more hxe hjl)
        obtain rfl := HA1.out (by omega)
        have t3 := (HT3.out j hjl).c3
        generalize (ts.getD j noTok).place = tp at t3 HP2
        have hjl' : (j : Int) < ts.length := by omega
        clear hxe HP
        go_wp2
        rw [HW3.out]
        go_region_law (refine step_call rfl 25 #[.tmp 37, .const (.int .i64 4), .tmp 43] #[47, 3, 3] rfl #[stV (some ⟨g1, 0, none⟩) ts.length c1 j 0 0 s.size, .int .i64 4, .int .i64 tp] (by simp [Act.eval]) Tryd.func25 fl_name fl_body _ (spec_fail _ ts.length c1 j 0 s.size 4 tp _) ?_; rintro e w4 ⟨rfl, b4⟩; have r4 := (b4.block w2.heap.size (by show w2.heap.size < W3.heap.size; omega)).trans R3.out; have s4 : w2.heap.size < w4.heap.size := (Array.getElem?_eq_some_iff.1 r4).1; have R4 : Hid (_) := r4; have B4 : Hid (Below w.heap.size w w4) := B3.out.drew.trans (b4.mono (by show w.heap.size ≤ W3.heap.size; omega)); clear p0 p1 p2 p3 p4 p5; obtain ⟨p0, p1, p2, p3, p4, p5⟩ := st_row r4; clear r4 b4; refine ⟨_, rfl, ?_⟩)
        all_goals
          go_wp2
          go_region
          all_goals
            go_wp2
            go_ret3
            exact pe_none HX.out HP2.out (below_put5 B4.out (by omega) _ _ _ _ _) (by simp [World.setCell])
      · by_cases h150 : 150 < m.length
        · have HP2 : Hid (parseR ts n s.size = ([], 5, 0)) := HP.out.trans (parse_great hxe hjl h150)
          have hjl' : ¬ (j : Int) < ts.length := by omega
          have h150' : (150 : Int) < m.length := by omega
          clear hxe HP
          go_wp2_with fail
          rw [HW3.out]
          refine (spec_fail a1 ts.length c1 j 0 s.size 5 0 W3).mono ?_
          rintro e w4 ⟨rfl, b4⟩
          have r4 := (b4.block w2.heap.size (by omega)).trans R3.out
          have s4 : w2.heap.size < w4.heap.size := (Array.getElem?_eq_some_iff.1 r4).1
          have B4 : Hid (Below w.heap.size w w4) := B3.out.trans (b4.mono (by omega))
          clear p0 p1 p2 p3 p4 p5
          obtain ⟨p0, p1, p2, p3, p4, p5⟩ := st_row r4
          clear r4 b4
          go_wp2
          go_region
          all_goals
            go_wp2
            go_ret3
            exact pe_none HX.out HP2.out (below_put5 B4.out (by omega) _ _ _ _ _) (by simp [World.setCell])
        · have HP2 : Hid (parseR ts n s.size = (m, 0, 0)) := HP.out.trans (parse_ok hxe hjl h150)
          have hjl' : ¬ (j : Int) < ts.length := by omega
          have h150' : ¬ (150 : Int) < m.length := by omega
          clear hxe HP
          go_wp2
          rw [HW3.out]
          go_ret3
          exact ⟨⟨ts, n, _, HX.out, by rw [HP2.out]; exact HO3.out, by rw [HP2.out]; rfl⟩, B3.out⟩
    · have HP2 : Hid (parseR ts n s.size = ([], c', q')) := HP.out.trans (parse_bad hxe)
      clear hxe HP
      go_wp2
      rw [HW3.out]
      go_region
      all_goals
        go_wp2
        go_ret3
        exact pe_none HX.out HP2.out B3.out rfl

theorem spec_parses (s : ByteArray) (hs : s.size ≤ 1048576) (w : World) :
    Calls Tryd.prog 16 #[.string s] w fun e w' => (∃ (ts : List Tok) (n : Int), Lexes s ts n ∧ e = .returned (.bool (decide ((parseR ts n s.size).2.1 = 0)))) ∧ Below w.heap.size w w' := by
  have HS : Hid (s.size ≤ 1048576) := hs
  clear hs
  go_enter Tryd.func16, Tryd.ntmps16
  go_wp2_with fail
  refine (spec_parse s HS.out w).mono ?_
  rintro e w1 ⟨⟨ts, n, v, hx, ho, rfl⟩, b1⟩
  have HX : Hid (_) := hx
  clear hx ho
  obtain ⟨⟨P0, P1, P2⟩, hP⟩ : ∃ P, parseR ts n s.size = P := ⟨_, rfl⟩
  have HP : Hid (_) := hP
  rw [hP]
  clear hP
  go_wp2
  go_ret
  refine ⟨⟨ts, n, HX.out, ?_⟩, b1⟩
  rw [HP.out]
  rfl
end Go.Proofs.YtncoooimgeoihaaDoor
