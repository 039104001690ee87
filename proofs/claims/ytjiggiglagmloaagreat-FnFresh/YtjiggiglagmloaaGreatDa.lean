/-
  The draws of programs, and a place in them: what l6At and DrawClosed give. Conditions: written at each theorem.
-/
import Derived.Test.YtjiggiglagmloaaGreatGl
namespace Go.Proofs.YtjiggiglagmloaaGreat
open Go.ChangeShapes Go.WideShapes Go.ChangeAt Go.RowKit
set_option linter.unusedVariables false

theorem bent_of_draw {a : Option Addr} {len cap : Nat} {zs : List Int} {B most : Nat} {w : World} {e : Ending} {w' : World} (hm : most ≤ 1200) (h : DrawEnd a len cap zs B w most e w') : BentEnd w e w' ∧ Only B w w' ∧ ∃ s', CurAt a len cap zs B w' s' := by
  obtain ⟨v, l, s', rfl, ho, hp, hl, ht, hc, hn⟩ := h
  obtain ⟨a3, g3, c3, sp3, rfl, ha3, hA3, hge3, hlt3, hr3⟩ := ownNod_form ho
  obtain rfl := ha3 hp
  exact ⟨bent_end hA3 (by omega) ht, hn, s', hc⟩

theorem nodAt_only {a : Option Addr} {len cap : Nat} {zs : List Int} {B g : Nat} {w w' : World} {s : Nat × Int} {l : List Nod} (h : NodAt w g l) (hc : CurAt a len cap zs B w s) (hn : Only B w w') : NodAt w' g l := by
  refine nodAt_of_cells fun i j hi hj => ?_
  have h0 := cells_of_nodAt h 0 0 (by omega) (by omega)
  have hB : g ≠ B := fun e => by
    rw [e] at h0
    have := hc.cur.c0
    rw [show (⟨B, 0 * 7 + 0, none⟩ : Addr) = ⟨B, 0, none⟩ from rfl, this] at h0
    cases h0
  have hg : g < w.heap.size := h.lt (by omega)
  rw [hn.cell (p := ⟨g, i * 7 + j, none⟩) hg hB]
  exact cells_of_nodAt h i j hi hj

/-- What l6At ends with: some nodes, bent or not, and a place. -/
def AtEnd (B : Nat) (w : World) (e : Ending) (w' : World) : Prop :=
  ∃ (al : Option Addr) (g c : Nat) (l : List Nod) (k : Int), e = .returned (.tuple #[.slice al l.length c, .int .i64 k]) ∧ (0 < l.length → al = some ⟨g, 0, none⟩) ∧ NodAt w' g l ∧ l.length ≤ 1200 ∧ Trim l ∧ Only B w w'

set_option maxHeartbeats 8000000 in
set_option maxRecDepth 20000 in
theorem at_at (a : Option Addr) (len cap : Nat) (zs : List Int) (B : Nat) (w0 : World) (s : Nat × Int) (h : CurAt a len cap zs B w0 s) :
    Calls Tryz.prog 30 #[.pointer (some ⟨B, 0, none⟩)] w0 (AtEnd B w0) := by
  have C0 : Hid (CurAt a len cap zs B w0 s) := h
  clear h
  go_enter Tryz.func30, Tryz.ntmps30
  go_wp2_with fail
  refine (some_at a len cap zs B w0 s C0.out).mono ?_
  intro e w1 hde
  obtain ⟨⟨al, g, c, l, rfl, hal, hA, hl, hT⟩, n1, s1, c1⟩ := bent_of_draw (by decide) hde
  have A1 : Hid (NodAt w1 g l) := hA
  have T1 : Hid (Trim l) := hT
  have L1 : Hid (0 < l.length → al = some ⟨g, 0, none⟩) := hal
  have C1 : Hid (CurAt a len cap zs B w1 s1) := c1
  have N1 : Hid (Only B w0 w1) := n1
  clear hde hA hT hal c1 n1 C0
  go_wp2_with fail
  refine (once_some C1.out 8 (by omega)).mono ?_
  rintro e w2 ⟨bb, s2, rfl, c2, n2⟩
  have C2 : Hid (CurAt a len cap zs B w2 s2) := c2
  have N2 : Hid (Only B w0 w2) := N1.out.trans n2
  have A2 : Hid (NodAt w2 g l) := nodAt_only A1.out C1.out n2
  clear c2 n2 A1 C1 N1
  cases bb
  · go_wp2
    go_loopw [5] (fun i wr => ∃ (q : Nat) (s' : Nat × Int), q ≤ 3 ∧ i = .int .i64 q ∧ Hid (CurAt a len cap zs B wr s') ∧ Hid (NodAt wr g l) ∧ Hid (Only B w0 wr)) (fun i _ => 3 - (intOf i).toNat)
    case atStart => exact ⟨0, _, by omega, rfl, C2, A2, N2⟩
    case round =>
      clear C2 A2 N2
      obtain ⟨q, sq, hq, rfl, HC, HA, HN⟩ := hrel
      by_cases hin : q < 3
      · have hin' : (q : Int) < 3 := by omega
        by_cases hp : 0 < l.length
        · have hp' : (0 : Int) < l.length := by omega
          obtain rfl := L1.out hp
          go_wp2_with fail
          refine (below_some HC.out l.length (by omega) (by omega)).mono ?_
          rintro e w3 ⟨KK, s3, rfl, hK0, hK1, c3, n3⟩
          obtain ⟨K, rfl⟩ : ∃ K : Nat, KK = K := ⟨KK.toNat, by omega⟩
          have hK : K < l.length := by omega
          have C3 : Hid (CurAt a len cap zs B w3 s3) := c3
          have A3 : Hid (NodAt w3 g l) := nodAt_only HA.out HC.out n3
          have N3 : Hid (Only B w0 w3) := HN.out.trans n3
          have DD : Hid (AtEnd B w0 (.returned (.tuple #[.slice (some ⟨g, 0, none⟩) l.length c, .int .i64 K])) w3) := ⟨_, g, c, l, K, rfl, fun _ => rfl, A3.out, hl, T1.out, N3.out⟩
          have ck : w3.cell? ⟨g, K * 7, none⟩ = some (.int .i64 (l.getD K noNod).kind) := (A3.out K hK).c0
          generalize (l.getD K noNod).kind = kd at *
          clear c3 n3 HC HA HN
          by_cases hk : kd = 1
          · subst hk
            go_wp2
            go_ret2
            exact DD.out
          · clear DD
            go_wp2
            go_roundw
            case rel => exact ⟨q + 1, s3, by omega, by go_num, C3, A3, N3⟩
            case measure => simp [intOf]; omega
        · have hp' : ¬ (0 : Int) < l.length := by omega
          go_wp2_with fail
          refine (below_some HC.out ((l.length : Int) + 2) (by omega) (by omega)).mono ?_
          rintro e w3 ⟨KK, s3, rfl, hK0, hK1, c3, n3⟩
          have DD : Hid (AtEnd B w0 (.returned (.tuple #[.slice al l.length c, .int .i64 (KK - 1)])) w3) := ⟨al, g, c, l, KK - 1, rfl, L1.out, nodAt_only HA.out HC.out n3, hl, T1.out, HN.out.trans n3⟩
          clear c3 n3
          go_wp2
          go_ret2
          exact DD.out
      · obtain rfl : q = 3 := by omega
        go_wp2_with fail
        refine (below_some HC.out ((l.length : Int) + 2) (by omega) (by omega)).mono ?_
        rintro e w3 ⟨KK, s3, rfl, hK0, hK1, c3, n3⟩
        have DD : Hid (AtEnd B w0 (.returned (.tuple #[.slice al l.length c, .int .i64 (KK - 1)])) w3) := ⟨al, g, c, l, KK - 1, rfl, L1.out, nodAt_only HA.out HC.out n3, hl, T1.out, HN.out.trans n3⟩
        clear c3 n3
        go_wp2
        go_ret2
        exact DD.out
  · clear A2 L1 T1 hl
    go_wp2_with fail
    refine (bent_at a len cap zs B w2 s2 C2.out).mono ?_
    rintro e w4 ⟨⟨al, g, c, l, rfl, hal, hA, hl, hT⟩, n4, s4, c4⟩
    have A4 : Hid (NodAt w4 g l) := hA
    have T1 : Hid (Trim l) := hT
    have L1 : Hid (0 < l.length → al = some ⟨g, 0, none⟩) := hal
    have C4 : Hid (CurAt a len cap zs B w4 s4) := c4
    have N4 : Hid (Only B w0 w4) := N2.out.trans n4
    clear hA hT hal c4 n4 C2 N2
    go_wp2
    go_loopw [5] (fun i wr => ∃ (q : Nat) (s' : Nat × Int), q ≤ 3 ∧ i = .int .i64 q ∧ Hid (CurAt a len cap zs B wr s') ∧ Hid (NodAt wr g l) ∧ Hid (Only B w0 wr)) (fun i _ => 3 - (intOf i).toNat)
    case atStart => exact ⟨0, _, by omega, rfl, C4, A4, N4⟩
    case round =>
      clear C4 A4 N4
      obtain ⟨q, sq, hq, rfl, HC, HA, HN⟩ := hrel
      by_cases hin : q < 3
      · have hin' : (q : Int) < 3 := by omega
        by_cases hp : 0 < l.length
        · have hp' : (0 : Int) < l.length := by omega
          obtain rfl := L1.out hp
          go_wp2_with fail
          refine (below_some HC.out l.length (by omega) (by omega)).mono ?_
          rintro e w3 ⟨KK, s3, rfl, hK0, hK1, c3, n3⟩
          obtain ⟨K, rfl⟩ : ∃ K : Nat, KK = K := ⟨KK.toNat, by omega⟩
          have hK : K < l.length := by omega
          have C3 : Hid (CurAt a len cap zs B w3 s3) := c3
          have A3 : Hid (NodAt w3 g l) := nodAt_only HA.out HC.out n3
          have N3 : Hid (Only B w0 w3) := HN.out.trans n3
          have DD : Hid (AtEnd B w0 (.returned (.tuple #[.slice (some ⟨g, 0, none⟩) l.length c, .int .i64 K])) w3) := ⟨_, g, c, l, K, rfl, fun _ => rfl, A3.out, hl, T1.out, N3.out⟩
          have ck : w3.cell? ⟨g, K * 7, none⟩ = some (.int .i64 (l.getD K noNod).kind) := (A3.out K hK).c0
          generalize (l.getD K noNod).kind = kd at *
          clear c3 n3 HC HA HN
          by_cases hk : kd = 1
          · subst hk
            go_wp2
            go_ret2
            exact DD.out
          · clear DD
            go_wp2
            go_roundw
            case rel => exact ⟨q + 1, s3, by omega, by go_num, C3, A3, N3⟩
            case measure => simp [intOf]; omega
        · have hp' : ¬ (0 : Int) < l.length := by omega
          go_wp2_with fail
          refine (below_some HC.out ((l.length : Int) + 2) (by omega) (by omega)).mono ?_
          rintro e w3 ⟨KK, s3, rfl, hK0, hK1, c3, n3⟩
          have DD : Hid (AtEnd B w0 (.returned (.tuple #[.slice al l.length c, .int .i64 (KK - 1)])) w3) := ⟨al, g, c, l, KK - 1, rfl, L1.out, nodAt_only HA.out HC.out n3, hl, T1.out, HN.out.trans n3⟩
          clear c3 n3
          go_wp2
          go_ret2
          exact DD.out
      · obtain rfl : q = 3 := by omega
        go_wp2_with fail
        refine (below_some HC.out ((l.length : Int) + 2) (by omega) (by omega)).mono ?_
        rintro e w3 ⟨KK, s3, rfl, hK0, hK1, c3, n3⟩
        have DD : Hid (AtEnd B w0 (.returned (.tuple #[.slice al l.length c, .int .i64 (KK - 1)])) w3) := ⟨al, g, c, l, KK - 1, rfl, L1.out, nodAt_only HA.out HC.out n3, hl, T1.out, HN.out.trans n3⟩
        clear c3 n3
        go_wp2
        go_ret2
        exact DD.out

/-- What DrawClosed gives: some nodes, bent or not. -/
theorem draw_closed (a : Option Addr) (len cap : Nat) (zs : List Int) (w : World) (hrow : IsRow w a len cap zs) (hl : len ≤ 1048576) :
    Calls Tryz.prog 8 #[.slice a len cap] w fun e w' => BentEnd w e w' ∧ Below w.heap.size w w' := by
  have HN : Hid (Calls Tryz.prog 29 #[.slice a len cap] w fun e w' => e = .returned (.pointer (some ⟨w.heap.size, 0, none⟩)) ∧ CurAt a len cap zs w.heap.size w' (newS zs len) ∧ Below w.heap.size w w') := new_at a len cap zs w hrow hl
  clear hrow
  go_enter Tryz.func8, Tryz.ntmps8
  go_wp2_with fail
  refine Calls.mono HN.out ?_
  rintro e w1 ⟨rfl, c1, b1⟩
  have C1 : Hid (CurAt a len cap zs w.heap.size w1 (newS zs len)) := c1
  have B1 : Hid (Below w.heap.size w w1) := b1
  clear c1 b1 HN
  go_wp2_with fail
  refine (at_at a len cap zs w.heap.size w1 _ C1.out).mono ?_
  rintro e w2 ⟨al, g, c, l, k, rfl, hal, hA, hl2, hT, hn⟩
  have BB : Hid (BentEnd w (.returned (.slice al l.length c)) w2 ∧ Below w.heap.size w w2) := by
    refine ⟨⟨al, g, c, l, rfl, hal, hA, hl2, hT⟩, ?_⟩
    have hs := B1.out.size
    exact ⟨hn.os.trans B1.out.os, hn.tape.trans B1.out.tape, hn.output.trans B1.out.output, Nat.le_trans hs hn.size, fun k hk => (hn.block k (by omega) (by omega)).trans (B1.out.block k hk)⟩
  clear hn hA hT hal
  go_wp2
  go_ret
  exact BB.out

end Go.Proofs.YtjiggiglagmloaaGreat
