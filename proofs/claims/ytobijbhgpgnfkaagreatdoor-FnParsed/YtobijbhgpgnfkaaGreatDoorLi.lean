/-
  Lex as it landed: the tokens of every text, or the place of its first fault. Condition: the library's table and its two errors lie as its text lays them.
-/
import Derived.Test.YtobijbhgpgnfkaaGreatDoorTi
import Derived.Lib.OthersKept
import Derived.WalkMore
import Derived.Deep.LoopGhost
namespace Go.Proofs.YtobijbhgpgnfkaaGreatDoor
open Go.ChangeShapes Go.WideShapes Go.ChangeAt Go.RowKit
set_option linter.unusedVariables false

theorem info_tok : (Tryz.prog.info? 66).map (fun i => (i.zero, i.size, i.bytes)) = some (some (.agg #[.int .i64 0, .string ⟨#[]⟩, .int .i64 0, .int .i64 0]), 4, 40) := by kernel_rfl

/-- A slice of the call's own holds these tokens. -/
abbrev ownT (w : World) (base : Nat) (v : Value) (ts : List Tok) : Prop := w.ownsRow base 66 4 v ts.length (ts.flatMap tcells)

theorem own_moved {w : World} {B : Nat} {v : Value} {ts : List Tok} {k : Nat} {s : ByteArray} {pos : Nat} (h : ownT w B v ts) (hk : w.heap[k]? = some (.stringIter s pos)) (pos' : Nat) : ownT (w.iterAt k s pos') B v ts := by
  refine ⟨h.1, ?_⟩
  rcases h.2 with h0 | ⟨g, cap, cur, hv, hb, hg, rest⟩
  · exact .inl h0
  · refine .inr ⟨g, cap, cur, hv, hb, ?_, rest⟩
    rw [Lib.iterAt_other _ _ _ _ _ (fun e => by subst e; rw [hk] at hg; cases hg)]
    exact hg

theorem own_kept {w w' : World} {B N : Nat} {v : Value} {ts : List Tok} (h : ownT w B v ts) (hb : Below N w w') (hN : w.heap.size ≤ N) : ownT w' B v ts := by
  refine ⟨h.1, ?_⟩
  rcases h.2 with h0 | ⟨g, cap, cur, hv, hbg, hg, rest⟩
  · exact .inl h0
  · refine .inr ⟨g, cap, cur, hv, hbg, ?_, rest⟩
    have hlt : g < w.heap.size := (Array.getElem?_eq_some_iff.1 hg).1
    rw [hb.block g (by omega)]
    exact hg

theorem own_base {w : World} {B B' : Nat} {v : Value} {ts : List Tok} (h : ownT w B v ts) (hB : B' ≤ B) : ownT w B' v ts := by
  refine ⟨h.1, ?_⟩
  rcases h.2 with h0 | ⟨g, cap, cur, hv, hbg, rest⟩
  · exact .inl h0
  · exact .inr ⟨g, cap, cur, hv, by omega, rest⟩

theorem own_next {w : World} {B : Nat} {v : Value} {ts : List Tok} {n : Nat} {xs : List Value} (t : Tok) (h : w.ownsRow B 66 4 v n xs) (hn : n = ts.length + 1) (hx : xs = ts.flatMap tcells ++ tcells t) : ownT w B v (ts ++ [t]) := by
  subst hn hx
  show w.ownsRow B 66 4 v (ts ++ [t]).length ((ts ++ [t]).flatMap tcells)
  rw [List.length_append, List.flatMap_append]
  simpa using h

theorem reach_len {s : ByteArray} : ∀ {k i : Nat} {out : List Tok}, Reach s k i out → out.length ≤ i
  | 0, i, out, h => by obtain ⟨rfl, rfl⟩ := h; simp
  | k + 1, i, out, h => by
    obtain ⟨j, o, ts, hr, hs, rfl⟩ := h
    have h1 := reach_len hr
    have h2 := step_lt hs
    have h3 : ts.length ≤ 1 := by
      obtain ⟨_, hs⟩ := hs
      rcases hs with ⟨_, _, rfl⟩ | ⟨_, _, rfl⟩ | ⟨_, _, rfl⟩ | ⟨_, _, rfl⟩ | ⟨_, _, _, rfl⟩ | ⟨_, _, _, _, _, rfl⟩ <;> simp
    rw [List.length_append]
    omega

theorem new_cells {w : World} {N : Nat} (hN : w.heap.size = N) (k : Int) (s : ByteArray) (x y : Int) (e : TypeId) :
    ∀ j u, (tcells ⟨k, s, x, y⟩)[j]? = some u → (w.alloc (.cells #[.int .i64 k, .string s, .int .i64 x, .int .i64 y] e)).cell? ((⟨N, 0, none⟩ : Addr).add j) = some u := by
  subst hN
  intro j u hj
  have hl : j < 4 := by
    rcases Nat.lt_or_ge j 4 with h | h
    · exact h
    · rw [List.getElem?_eq_none (by simpa [tcells] using h)] at hj; cases hj
  rw [add_plain, cell_of_row _ _ _ _ _ _ (MapKept.heap_alloc w _).1]
  rcases (by omega : j = 0 ∨ j = 1 ∨ j = 2 ∨ j = 3) with rfl | rfl | rfl | rfl <;> exact hj

/-- What a call of Lex ends with. -/
def LexEnd (s : ByteArray) (B : Nat) (e : Ending) (w : World) : Prop := ∃ (ts : List Tok) (n : Int) (v : Value), Lexes s ts n ∧ ownT w B v ts ∧ e = .returned (.tuple #[v, .int .i64 n])

theorem lexEnd_bad {s : ByteArray} {B k i : Nat} {out : List Tok} {w : World} (hs : s.size ≤ 4000) (hr : Reach s k i out) (hb : Bad s i) : LexEnd s B (.returned (.tuple #[.slice none 0 0, .int .i64 i])) w :=
  ⟨[], i, _, Or.inr ⟨hs, k, i, out, hr, Or.inr ⟨hb, rfl, rfl⟩⟩, World.ownsRow_nil _ _ _ _, rfl⟩

theorem lexEnd_all {s : ByteArray} {B k i : Nat} {out : List Tok} {w : World} {v : Value} (hs : s.size ≤ 4000) (hr : Reach s k i out) (hi : s.size ≤ i) (ho : ownT w B v out) : LexEnd s B (.returned (.tuple #[v, .int .i64 (-1)])) w :=
  ⟨out, -1, v, Or.inr ⟨hs, k, i, out, hr, Or.inl ⟨hi, rfl, rfl⟩⟩, ho, rfl⟩

theorem reach_step {s : ByteArray} {k i j : Nat} {out ts : List Tok} (h : Reach s k i out) (hs : Step s i j ts) : Reach s (k + 1) j (out ++ ts) := ⟨i, out, ts, h, hs, rfl⟩

theorem impl_lex_long (s : ByteArray) (hs : 4000 < s.size) (w : World) :
    Calls Tryz.prog 13 #[.string s] w fun e w' => LexEnd s w.heap.size e w' ∧ Below w.heap.size w w' := by
  have hs' : (4000 : Int) < s.size := by omega
  go_enter Tryz.func13, Tryz.ntmps13
  go_wp2
  go_step3
  go_wp2
  rw [Exit.noGoto_ret]
  go_ret2
  exact ⟨⟨[], 4000, _, Or.inl ⟨hs, rfl, rfl⟩, World.ownsRow_nil _ _ _ _, rfl⟩, Below.refl _ _⟩

/-- The state of the range over the text. -/
def At (s : ByteArray) (w : World) (g : Nat) (out behind : Value) (wr : World) : Prop :=
  ∃ (k pos b : Nat) (ts : List Tok), behind = .int .i64 b ∧ wr.heap[w.heap.size]? = some (.stringIter s pos) ∧ pos + g = s.size ∧ b ≤ s.size ∧ Reach s k (max pos b) ts ∧
    (pos < b → (∀ j, pos ≤ j → j < b → bAt s j < 128) ∨ (b < s.size ∧ bAt s b < 128)) ∧ ownT wr (w.heap.size + 1) out ts ∧ Below w.heap.size w wr

set_option maxHeartbeats 4000000 in
set_option maxRecDepth 20000 in
theorem impl_lex (s : ByteArray) (hs : s.size ≤ 4000) (w : World) (hv : Vars w) :
    Calls Tryz.prog 13 #[.string s] w fun e w' => LexEnd s w.heap.size e w' ∧ Below w.heap.size w w' := by
  have HV : Hid (Vars w) := hv
  clear hv
  have hs' : (s.size : Int) ≤ 4000 := by omega
  go_enter Tryz.func13, Tryz.ntmps13
  go_wp2
  go_step3
  go_wp2
  go_step3
  go_wp2
  go_loopg [4, 5] s.size (fun g out b wr => At s w g out b wr)
  case atStart =>
    refine ⟨0, 0, 0, [], rfl, World.iter_heap w s 0, by omega, by omega, ⟨rfl, rfl⟩, fun h => by omega, World.ownsRow_nil _ _ _ _, (Below.refl _ w).alloc (Nat.le_refl _) _⟩
  case round =>
    obtain ⟨k, pos, b, ts, rfl, hit, hpos, hb, hreach, hguard, hown, hbel⟩ := hrel
    by_cases hp : pos < s.size
    · by_cases hpb : pos < b
      · have hnx : ∀ ty, (Instr.next (.pointer (some ⟨w.heap.size, 0, none⟩)) true ty).run Tryz.prog wr = _ := fun ty => Lib.run_next_any_at wr w.heap.size s pos ty hit hp
        have hw1 := width_pos s pos hp
        have hws := width_stop s pos b hpb hb (hguard hpb)
        have hit2 := Lib.iterAt_heap wr w.heap.size s pos (pos + (Utf8.decode s pos).2) hit
        have hbel2 := Lib.below_iterAt hbel (k := w.heap.size) (Nat.le_refl _) s (pos + (Utf8.decode s pos).2)
        have hown2 := own_moved hown hit (pos + (Utf8.decode s pos).2)
        have hpb' : (pos : Int) < b := by omega
        have HM : Hid (At s w (s.size - (pos + (Utf8.decode s pos).2)) _ (.int .i64 b) (wr.iterAt w.heap.size s (pos + (Utf8.decode s pos).2))) :=
          ⟨k, pos + (Utf8.decode s pos).2, b, ts, rfl, hit2, by omega, hb, by rw [Nat.max_eq_right (by omega)] at hreach ⊢; exact hreach, fun h => (hguard hpb).imp (fun q j h1 h2 => q j (by omega) h2) id, hown2, hbel2⟩
        clear hguard hown hown2 hbel hbel2 hit hit2 hreach
        go_wp2
        go_roundg (s.size - (pos + (Utf8.decode s pos).2))
        case rel => exact HM.out
        case measure => omega
      · have hmx : max pos b = pos := Nat.max_eq_left (by omega)
        rw [hmx] at hreach
        have hpb' : (b : Int) ≤ pos := by omega
        clear hmx
        by_cases h32 : bAt s pos = 32
        · have ha : (s[pos]'hp).toNat < 128 := by rw [bAt_in hp] at h32; omega
          have hnx : ∀ ty, (Instr.next (.pointer (some ⟨w.heap.size, 0, none⟩)) true ty).run Tryz.prog wr = _ := fun ty => Lib.run_next_ascii_at wr w.heap.size s pos ty hit hp ha
          have hit2 := Lib.iterAt_heap wr w.heap.size s pos (pos + 1) hit
          have hbel2 := Lib.below_iterAt hbel (k := w.heap.size) (Nat.le_refl _) s (pos + 1)
          have hown2 := own_moved hown hit (pos + 1)
          have hbb : (s[pos].toNat : Int) = 32 := by rw [bAt_in hp] at h32; omega
          have HS : Hid (Step s pos (pos + 1) []) := ⟨hp, Or.inl ⟨Or.inl h32, rfl, rfl⟩⟩
          have HM : Hid (At s w (s.size - (pos + 1)) _ (.int .i64 b) (wr.iterAt w.heap.size s (pos + 1))) :=
            ⟨k + 1, pos + 1, b, ts, rfl, hit2, by omega, hb, by rw [Nat.max_eq_left (by omega)]; have h := reach_step hreach HS.out; rwa [List.append_nil] at h, fun h => by omega, hown2, hbel2⟩
          clear h32 hown hown2 hbel hbel2 hit hit2 hreach hguard HS
          go_wp2
          go_roundg (s.size - (pos + 1))
          case rel => exact HM.out
          case measure => omega
        · by_cases h10 : bAt s pos = 10
          · have ha : (s[pos]'hp).toNat < 128 := by rw [bAt_in hp] at h10; omega
            have hnx : ∀ ty, (Instr.next (.pointer (some ⟨w.heap.size, 0, none⟩)) true ty).run Tryz.prog wr = _ := fun ty => Lib.run_next_ascii_at wr w.heap.size s pos ty hit hp ha
            have hit2 := Lib.iterAt_heap wr w.heap.size s pos (pos + 1) hit
            have hbel2 := Lib.below_iterAt hbel (k := w.heap.size) (Nat.le_refl _) s (pos + 1)
            have hown2 := own_moved hown hit (pos + 1)
            have hbb : (s[pos].toNat : Int) = 10 := by rw [bAt_in hp] at h10; omega
            have HS : Hid (Step s pos (pos + 1) []) := ⟨hp, Or.inl ⟨Or.inr h10, rfl, rfl⟩⟩
            have HM : Hid (At s w (s.size - (pos + 1)) _ (.int .i64 b) (wr.iterAt w.heap.size s (pos + 1))) :=
              ⟨k + 1, pos + 1, b, ts, rfl, hit2, by omega, hb, by rw [Nat.max_eq_left (by omega)]; have h := reach_step hreach HS.out; rwa [List.append_nil] at h, fun h => by omega, hown2, hbel2⟩
            clear h10 hown hown2 hbel hbel2 hit hit2 hreach hguard HS
            go_wp2
            go_roundg (s.size - (pos + 1))
            case rel => exact HM.out
            case measure => omega
          · by_cases h35 : bAt s pos = 35
            · have ha : (s[pos]'hp).toNat < 128 := by rw [bAt_in hp] at h35; omega
              have hbb : (s[pos].toNat : Int) = 35 := by rw [bAt_in hp] at h35; omega
              obtain ⟨W1, hW1⟩ : ∃ W1, wr.iterAt w.heap.size s (pos + 1) = W1 := ⟨_, rfl⟩
              have hnx : ∀ ty, (Instr.next (.pointer (some ⟨w.heap.size, 0, none⟩)) true ty).run Tryz.prog wr = .ok (.tuple #[.bool true, .int .i64 pos, .int .i32 (s[pos]'hp).toNat]) W1 := fun ty => by rw [← hW1]; exact Lib.run_next_ascii_at wr w.heap.size s pos ty hit hp ha
              have hit2 : W1.heap[w.heap.size]? = some (.stringIter s (pos + 1)) := by rw [← hW1]; exact Lib.iterAt_heap wr w.heap.size s pos (pos + 1) hit
              have hbel2 : Below w.heap.size w W1 := by rw [← hW1]; exact Lib.below_iterAt hbel (k := w.heap.size) (Nat.le_refl _) s (pos + 1)
              have hown2 : ownT W1 (w.heap.size + 1) u4 ts := by rw [← hW1]; exact own_moved hown hit (pos + 1)
              have HI : Hid (W1.heap[w.heap.size]? = some (.stringIter s (pos + 1))) := hit2
              have HO : Hid (ownT W1 (w.heap.size + 1) u4 ts) := hown2
              have HQ : Hid (Reach s k pos ts) := hreach
              have H35 : Hid (bAt s pos = 35) := h35
              clear hW1 hown hown2 hbel hit hit2 hreach hguard h35
              go_wp2
              clear hnx
              go_loopg [8] (s.size - pos) (fun g i wx => wx = W1 ∧ ∃ q : Nat, i = .int .i64 q ∧ pos ≤ q ∧ q + g = s.size ∧ (∀ j, pos ≤ j → j < q → inRem (bAt s j)))
              case atStart => exact ⟨rfl, pos, rfl, Nat.le_refl _, by omega, fun j h1 h2 => by omega⟩
              case round =>
                obtain ⟨rfl, q, rfl, hpq, hqg, hall⟩ := hrel
                by_cases hq : q < s.size
                · have hq' : (q : Int) < s.size := by omega
                  by_cases hnl : bAt s q = 10
                  · have hne : q ≠ pos := fun e => by rw [e] at hnl; have := H35.out; omega
                    have HS : Hid (Step s pos q []) := ⟨hp, Or.inr (Or.inl ⟨H35.out, ⟨hpq, by omega, hall, fun _ h => h hnl⟩, rfl⟩)⟩
                    have HM : Hid (At s w (s.size - (pos + 1)) _ (.int .i64 q) wr) :=
                      ⟨k + 1, pos + 1, q, ts, rfl, HI.out, by omega, by omega, by rw [Nat.max_eq_right (by omega)]; have h := reach_step HQ.out HS.out; rwa [List.append_nil] at h, fun h => Or.inr ⟨hq, by omega⟩, HO.out, hbel2⟩
                    have hnl' : (s[q].toNat : Int) = 10 := by rw [bAt_in hq] at hnl; omega
                    clear HS hall hnl hbel2 HI HO HQ
                    go_wp2
                    go_roundg (s.size - (pos + 1))
                    case rel => exact HM.out
                    case measure => omega
                  · have hnl' : ((s[q].toNat : Int) == 10) = false := by rw [bAt_in hq] at hnl; rw [beq_eq_false_iff_ne]; omega
                    have HA : Hid (∀ j, pos ≤ j → j < q + 1 → inRem (bAt s j)) := fun j h1 h2 => by
                      rcases Nat.lt_or_eq_of_le (Nat.le_of_lt_succ h2) with h | rfl
                      · exact hall j h1 h
                      · exact hnl
                    clear hall hnl
                    go_wp2
                    go_roundg (s.size - (q + 1))
                    case rel => exact ⟨rfl, q + 1, by go_num, by omega, by omega, HA.out⟩
                    case measure => omega
                · obtain rfl : q = s.size := by omega
                  have HS : Hid (Step s pos s.size []) := ⟨hp, Or.inr (Or.inl ⟨H35.out, ⟨hpq, Nat.le_refl _, hall, fun h => absurd h hq⟩, rfl⟩)⟩
                  have HF : Hid (LexEnd s w.heap.size (.returned (.tuple #[_, .int .i64 (-1)])) wr) := lexEnd_all hs (i := s.size) (by have h := reach_step HQ.out HS.out; rwa [List.append_nil] at h) (Nat.le_refl _) (own_base HO.out (Nat.le_succ _))
                  clear HS hall HI HO HQ
                  go_wp2
                  rw [Exit.noGoto_ret]
                  go_ret2
                  exact ⟨HF.out, hbel2⟩
            · obtain ⟨D, hD⟩ : ∃ D, (Utf8.decode s pos).1 = D := ⟨_, rfl⟩
              obtain ⟨W1, hW1⟩ : ∃ W1, wr.iterAt w.heap.size s (pos + (Utf8.decode s pos).2) = W1 := ⟨_, rfl⟩
              have hdn : D ≠ 32 ∧ D ≠ 10 ∧ D ≠ 35 := by
                by_cases ha : bAt s pos < 128
                · rw [bAt_in hp] at ha h32 h10 h35
                  rw [decode_ascii s pos hp ha] at hD
                  simp only at hD
                  omega
                · rw [bAt_in hp] at ha
                  have := (decode_high s pos hp (by omega)).1
                  omega
              have d1 : ((D : Int) == 32) = false := by rw [beq_eq_false_iff_ne]; omega
              have d2 : ((D : Int) == 10) = false := by rw [beq_eq_false_iff_ne]; omega
              have d3 : ((D : Int) == 35) = false := by rw [beq_eq_false_iff_ne]; omega
              have hnx : ∀ ty, (Instr.next (.pointer (some ⟨w.heap.size, 0, none⟩)) true ty).run Tryz.prog wr = .ok (.tuple #[.bool true, .int .i64 pos, .int .i32 D]) W1 := fun ty => by rw [← hW1, ← hD]; exact Lib.run_next_any_at wr w.heap.size s pos ty hit hp
              have hit2 : W1.heap[w.heap.size]? = some (.stringIter s (pos + (Utf8.decode s pos).2)) := by rw [← hW1]; exact Lib.iterAt_heap wr w.heap.size s pos _ hit
              have hbel2 : Below w.heap.size w W1 := by rw [← hW1]; exact Lib.below_iterAt hbel (k := w.heap.size) (Nat.le_refl _) s _
              have hown2 : ownT W1 (w.heap.size + 1) u4 ts := by rw [← hW1]; exact own_moved hown hit _
              have HI : Hid (W1.heap[w.heap.size]? = some (.stringIter s (pos + (Utf8.decode s pos).2))) := hit2
              have HO : Hid (ownT W1 (w.heap.size + 1) u4 ts) := hown2
              have HQ : Hid (Reach s k pos ts) := hreach
              have HN : Hid (bAt s pos ≠ 32 ∧ bAt s pos ≠ 10 ∧ bAt s pos ≠ 35) := ⟨h32, h10, h35⟩
              have hlen := reach_len hreach
              have hsz2 := hbel2.size
              have hlt2 : w.heap.size < W1.heap.size := (Array.getElem?_eq_some_iff.1 hit2).1
              clear hW1 hD hdn hown hown2 hbel hit hit2 hreach hguard h32 h10 h35
              go_wp2_with fail
              clear hnx
              refine (tk_any s pos hs hp HN.out W1 (HV.out.kept hbel2)).mono ?_
              rintro e W2 ⟨hend, hb2⟩
              have hsz3 := hb2.size
              have HI2 : Hid (W2.heap[w.heap.size]? = some (.stringIter s (pos + (Utf8.decode s pos).2))) := (hb2.block _ hlt2).trans HI.out
              have HO2 : Hid (ownT W2 (w.heap.size + 1) u4 ts) := own_kept HO.out hb2 (Nat.le_refl _)
              have hbel3 : Below w.heap.size w W2 := hbel2.trans (hb2.mono hsz2)
              clear HI HO hbel2 hb2
              rcases hend with ⟨⟨x0, x1, x2, x3⟩, j, hstep, htz, hlow, rfl⟩ | ⟨⟨x0, x1, x2, x3⟩, hbad, rfl⟩
              · have hw1 : pos + (Utf8.decode s pos).2 = pos + 1 := by
                  have h128 := hlow pos (Nat.le_refl _) (step_lt hstep)
                  rw [bAt_in hp] at h128
                  rw [decode_ascii s pos hp h128]
                have hpj := step_lt hstep
                have hjs := step_le hstep
                rw [hw1] at HI2
                simp only at htz
                have HS : Hid (Step s pos j [⟨x0, x1, x2, x3⟩]) := hstep
                have HL : Hid (∀ q, pos ≤ q → q < j → bAt s q < 128) := hlow
                have hjx : (pos : Int) + x1.size = j := by omega
                obtain ⟨i0, hi, hz0, hz1, hz2⟩ := info_parts info_tok
                clear hstep hlow hw1 htz
                unfold aggT
                go_wp2_with (at_builtin; refine wpList_append_own _ rfl _ _ 33 rfl (w.heap.size + 1) 66 i0 _ 4 40 Tryz.underlying33 hi hz0 hz1 hz2 rfl (by decide) _ _ _ rfl ((HO2.out.alloc _).alloc _) ⟨W2.heap.size + 1, 0, none⟩ 1 1 (tcells ⟨x0, x1, x2, x3⟩) rfl rfl ?c1 ?c2 ?c3 ?c4 ?c5 ?_)
                case c1 => exact new_cells (by simp) _ _ _ _ _
                case c2 => intro u hu; simp [tcells] at hu; rcases hu with rfl | rfl | rfl | rfl <;> rfl
                case c3 => unfold maxLen; omega
                case c4 => omega
                case c5 => simp; omega
                intro v' W3 hown' hgrow _
                have hO3 : ownT W3 (w.heap.size + 1) v' (ts ++ [⟨x0, x1, x2, x3⟩]) := own_next ⟨x0, x1, x2, x3⟩ hown' rfl rfl
                have hnb : ∀ q, u4.ownBlock = some q → w.heap.size + 1 ≤ q := fun q hq => (HO2.out.lt q hq).1
                have hI3 : W3.heap[w.heap.size]? = some (.stringIter s (pos + 1)) := by
                  rw [hgrow.block w.heap.size (by simp; omega) (fun e => by have := hnb _ e.symm; omega)]
                  rw [Below.heap_alloc _ _ _ (by simp; omega), Below.heap_alloc _ _ _ (by omega)]
                  exact HI2.out
                have hB3 : Below w.heap.size w W3 := ((hbel3.alloc (by omega) _).alloc (by simp; omega) _).grown hgrow (by simp; omega) (fun q hq => by have := hnb q hq; omega)
                have hT3 : W3.cell? ⟨W2.heap.size, 1, none⟩ = some (.string x1) := by
                  have hne : some W2.heap.size ≠ u4.ownBlock := fun e => by have := (HO2.out.lt _ e.symm).2; omega
                  rw [World.cell?_of_block (w := ((W2.alloc (.cells #[.int .i64 x0, .string x1, .int .i64 x2, .int .i64 x3] 66)).alloc (.cells #[.int .i64 x0, .string x1, .int .i64 x2, .int .i64 x3] 66))) (hgrow.block W2.heap.size (by simp; omega) hne)]
                  rw [cell_of_row _ W2.heap.size 1 #[.int .i64 x0, .string x1, .int .i64 x2, .int .i64 x3] 66 (0, 0) (heap_alloc2_old W2 _ _)]
                  rfl
                have HM : Hid (At s w (s.size - (pos + 1)) v' (.int .i64 j) W3) :=
                  ⟨k + 1, pos + 1, j, ts ++ [⟨x0, x1, x2, x3⟩], rfl, hI3, by omega, hjs, by rw [Nat.max_eq_right (by omega)]; exact reach_step HQ.out HS.out, fun _ => Or.inl (fun q h1 h2 => HL.out q (by omega) h2), hO3, hB3⟩
                clear hown' hgrow hO3 hI3 hB3 hnb HQ HS HL HI2 HO2 hbel3 hi hz0 hz1 hz2
                go_wp2
                go_roundg (s.size - (pos + 1))
                case rel => exact HM.out
                case measure => omega
              · have HF : Hid (LexEnd s w.heap.size (.returned (.tuple #[.slice none 0 0, .int .i64 pos])) (W2.alloc (.cells #[.int .i64 x0, .string x1, .int .i64 x2, .int .i64 x3] 66))) := lexEnd_bad hs HQ.out hbad
                clear hbad HQ HI2 HO2
                unfold aggT
                go_wp2
                rw [Exit.noGoto_ret]
                go_ret2
                exact ⟨HF.out, hbel3.alloc (by omega) _⟩
    · have hnx : ∀ ty, (Instr.next (.pointer (some ⟨w.heap.size, 0, none⟩)) true ty).run Tryz.prog wr = _ := fun ty => Lib.run_next_end_at wr w.heap.size s pos ty hit hp
      have HF : Hid (LexEnd s w.heap.size (.returned (.tuple #[_, .int .i64 (-1)])) wr) := lexEnd_all hs hreach (by omega) (own_base hown (Nat.le_succ _))
      clear hreach hguard hown hit
      go_wp2
      rw [Exit.noGoto_ret]
      go_ret2
      exact ⟨HF.out, hbel⟩
end Go.Proofs.YtobijbhgpgnfkaaGreatDoor
