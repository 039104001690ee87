/-
  Reading as it landed: the forms without names. Conditions: written at each theorem.
-/
import Derived.Test.YtncoooimgeoihaaDoorRc
import Derived.Deep.LoopGhost
namespace Go.Proofs.YtncoooimgeoihaaDoor
open Go.ChangeShapes Go.WideShapes Go.ChangeAt Go.RowKit
set_option linter.unusedVariables false

def kidRow (ks : List Int) : Array Value := #[.int .i64 (ks.getD 0 0), .int .i64 (ks.getD 1 0), .int .i64 (ks.getD 2 0)]

theorem kidRow_next (ks : List Int) (x : Int) (h : ks.length < 3) : (kidRow ks).setIfInBounds ks.length (.int .i64 x) = kidRow (ks ++ [x]) := by
  match ks, h with
  | [], _ => rfl
  | [a], _ => rfl
  | [a, b], _ => rfl

theorem kidRow_node (K op : Int) (ks : List Int) (h : ks.length ≤ 3) : nodAgg (withKids ⟨K, 0, 0, 0, op, ByteArray.empty, ByteArray.empty⟩ ks) = .agg #[.int .i64 K, .int .i64 (ks.getD 0 0), .int .i64 (ks.getD 1 0), .int .i64 (ks.getD 2 0), .int .i64 op, .string ⟨#[]⟩, .string ⟨#[]⟩] := by
  match ks, h with
  | [], _ => rfl
  | [a], _ => rfl
  | [a, b], _ => rfl
  | [a, b, c], _ => rfl

theorem kid_cells {w : World} {g : Nat} {ks : List Int} {t : TypeId} (h : w.heap[g]? = some (.cells (kidRow ks) t (0, 0))) :
    w.cell? ⟨g, 0, none⟩ = some (.int .i64 (ks.getD 0 0)) ∧ w.cell? ⟨g, 1, none⟩ = some (.int .i64 (ks.getD 1 0)) ∧ w.cell? ⟨g, 2, none⟩ = some (.int .i64 (ks.getD 2 0)) ∧ ∀ j, w.frozen? ⟨g, j, none⟩ = false := by
  refine ⟨?_, ?_, ?_, fun j => frozen_of_row w g j _ _ h⟩ <;> rw [cell_of_row _ _ _ _ _ _ h] <;> rfl

/-- What stands ahead of a round: so many kids are read. -/
def KX (T : World → Prop) (R g fm : Nat) (ts : List Tok) (E : Int) (f : Nat) (w : World) (v : Value) (K op : Int) (n : Nat) (RA : Except Flt (Nat × Nod × List Nod × List Int)) (k : Nat) (W : World) : Prop :=
  ∃ (j : Nat) (vx : Value) (L : List Nod) (ks : List Int), ks.length = k ∧ FS T R g fm ts E w v W j vx L nodZ (kidRow ks) 55 105 ∧ ts.length + 1 ≤ j + f ∧ L.length ≤ j ∧ argsE ts E (exprE ts E f) (List.replicate (n - k) 101) j ⟨K, 0, 0, 0, op, ByteArray.empty, ByteArray.empty⟩ L ks = RA

set_option maxHeartbeats 2000000 in
set_option maxRecDepth 20000 in
theorem rd_readKids {T : World → Prop} {R g fm kb ob : Nat} {ts : List Tok} {E : Int} {f : Nat} {K op : Int} (hT : ∀ a b, T a → Below R a b → T b) (ih : ExprI T R g fm ts E f)
    (hcell : ∀ w, T w → w.cell? ⟨kb, 0, none⟩ = some (.int .i64 K) ∧ w.cell? ⟨ob, 0, none⟩ = some (.int .i64 op)) (hn3 : arN K ≤ 3) :
    FormI T R g fm ts E f 76 #[.pointer (some ⟨R, 0, none⟩), .pointer (some ⟨kb, 0, none⟩), .pointer (some ⟨ob, 0, none⟩)] K op (List.replicate (arN K) 101) := by
  intro w i v l h hf hl
  obtain ⟨RA, hRA⟩ : ∃ RA, argsE ts E (exprE ts E f) (List.replicate (arN K) 101) i ⟨K, 0, 0, 0, op, ByteArray.empty, ByteArray.empty⟩ l [] = RA := ⟨_, rfl⟩
  rw [hRA]
  have HT : Hid (∀ a b, T a → Below R a b → T b) := hT
  have IH : Hid (ExprI T R g fm ts E f) := ih
  have HCL : Hid (∀ w, T w → w.cell? ⟨kb, 0, none⟩ = some (.int .i64 K) ∧ w.cell? ⟨ob, 0, none⟩ = some (.int .i64 op)) := hcell
  have HV : Hid (∀ k, v.ownBlock = some k → R < k) := h.far
  have F0 : FS T R g fm ts E w v ((w.alloc (.cells nodZ 55)).alloc (.cells (kidRow []) 105)) i v l nodZ (kidRow []) 55 105 := FS.start hT h
  have HAR := impl_arity K
  have HAC : Hid (∀ w, Calls Tryd.prog 77 #[.int .i64 K] w fun e w' => e = .returned (.int .i64 (arN K : Nat)) ∧ w' = w) := HAR
  obtain ⟨c1', c2'⟩ := hcell _ F0.rs.tab
  have c1 : ((w.alloc (.cells nodZ 55)).alloc (.cells #[.int .i64 0, .int .i64 0, .int .i64 0] 105)).cell? ⟨kb, 0, none⟩ = some (.int .i64 K) := c1'
  clear c1' c2'
  generalize arN K = n at *
  have HX0 : Hid (KX T R g fm ts E f w v K op n RA 0 ((w.alloc (.cells nodZ 55)).alloc (.cells (kidRow []) 105))) := ⟨i, v, l, [], rfl, F0, hf, hl, by simpa using hRA⟩
  clear hRA hT ih hcell h hf hl HAR F0
  go_enter Tryd.func76, Tryd.ntmps76
  go_wp2_with fail
  refine (HAC.out _).mono ?_
  rintro e w1 ⟨rfl, rfl⟩
  clear c1 HAC
  go_wp2
  go_loopg [9] n (fun gk k wr => ∃ kk : Nat, kk ≤ n ∧ gk = n - kk ∧ k = .int .i64 kk ∧ Hid (KX T R g fm ts E f w v K op n RA kk wr))
  case atStart => exact ⟨0, by omega, by omega, rfl, HX0⟩
  case round =>
    clear HX0
    obtain ⟨kk, hkk, hgk, rfl, hkx⟩ := hrel
    have HGK : Hid (_) := hgk
    clear hgk
    obtain ⟨j, vx, L, ks, hks, hFS, hfj, hLj, hargs⟩ := hkx.out
    have HFS : Hid (FS T R g fm ts E w v wr j vx L nodZ (kidRow ks) 55 105) := hFS
    have HAR : Hid (argsE ts E (exprE ts E f) (List.replicate (n - kk) 101) j ⟨K, 0, 0, 0, op, ByteArray.empty, ByteArray.empty⟩ L ks = RA) := hargs
    have HKS : Hid (ks.length = kk) := hks
    clear hkx hFS hargs hks
    by_cases hin : kk < n
    · have hin' : (kk : Int) < n := by omega
      have hk3 : (kk : Int) < 3 := by omega
      go_wp2_with fail
      refine (IH.out _ _ _ _ HFS.out.rs hfj hLj).mono ?_
      rintro e w2 he
      have er : List.replicate (n - kk) (101 : UInt8) = 101 :: List.replicate (n - (kk + 1)) 101 := by
        have : n - kk = (n - (kk + 1)) + 1 := by omega
        rw [this, List.replicate_succ]
      have HA := HAR.out
      rw [er, argsE, if_neg (by decide)] at HA
      obtain ⟨j2, m2, v2, hx2, rfl, hr2, hm2⟩ | ⟨c2, q2, hx2, rfl, hb2⟩ := eout_case he
      · have G : Hid (FS T R g fm ts E w v w2 j2 v2 m2 nodZ (kidRow ks) 55 105) := HFS.out.call hr2 hm2
        obtain ⟨n0, n1, n2, n3⟩ := kid_cells G.out.nn
        rw [hx2] at HA
        obtain ⟨f1, f2, f3, f4⟩ := exprE_fair ts E f _ _ _ _ hx2
        have HKX : Hid (KX T R g fm ts E f w v K op n RA (kk + 1) (w2.setCell ⟨w.heap.size + 1, kk, none⟩ (.int .i64 ((m2.length : Int) - 1)))) := by
          have hset := G.out.setN HT.out kk (.int .i64 ((m2.length : Int) - 1))
          have e3 : (kidRow ks).setIfInBounds kk (.int .i64 ((m2.length : Int) - 1)) = kidRow (ks ++ [(m2.length : Int) - 1]) := by
            rw [← HKS.out]
            exact kidRow_next ks _ (by have := HKS.out; omega)
          rw [e3] at hset
          exact ⟨j2, v2, m2, _, by have := HKS.out; simp; omega, hset, by omega, by omega, HA⟩
        clear HA hx2 hr2 hm2 he er f1 f2 f3 f4
        rcases (by omega : kk = 0 ∨ kk = 1 ∨ kk = 2) with rfl | rfl | rfl
        · go_wp2
          go_roundg (n - (0 + 1))
          case rel => exact ⟨0 + 1, by omega, rfl, by go_num, HKX⟩
          case measure => have := HGK.out; omega
        · go_wp2
          go_roundg (n - (1 + 1))
          case rel => exact ⟨1 + 1, by omega, rfl, by go_num, HKX⟩
          case measure => have := HGK.out; omega
        · go_wp2
          go_roundg (n - (2 + 1))
          case rel => exact ⟨2 + 1, by omega, rfl, by go_num, HKX⟩
          case measure => have := HGK.out; omega
      · rw [hx2] at HA
        have HE : Hid (RA = .error (c2, q2)) := HA.symm
        have HB : Hid (Below R w w2) := (HFS.out.low HV.out).trans hb2
        clear HA he hx2 hb2 er
        go_wp2
        exact ⟨rfl, by rw [HE.out]; exact ⟨rfl, HB.out⟩⟩
    · obtain rfl : kk = n := by omega
      obtain ⟨c1, c2⟩ := HCL.out _ HFS.out.rs.tab
      obtain ⟨n0, n1, n2, n3⟩ := kid_cells HFS.out.nn
      obtain ⟨q0, q1, q2, q3, q4, q5, q6, q7⟩ := node_cells HFS.out.qq
      go_wp2
      have hfin := HFS.out.fin HT.out (.int .i64 K) (.int .i64 (ks.getD 0 0)) (.int .i64 (ks.getD 1 0)) (.int .i64 (ks.getD 2 0)) (.int .i64 op) (.string ⟨#[]⟩) (.string ⟨#[]⟩)
      refine bodyPost_ret (results_cell_row rfl _ _ w.heap.size 55 #[.int .i64 K, .int .i64 (ks.getD 0 0), .int .i64 (ks.getD 1 0), .int .i64 (ks.getD 2 0), .int .i64 op, .string ⟨#[]⟩, .string ⟨#[]⟩] (0, 0) _ rfl hfin.qq Tryd.underlying55 rfl (by kernel_rfl)) rfl ?_
      have hA := HAR.out
      rw [Nat.sub_self, List.replicate_zero, argsE] at hA
      rw [← hA]
      exact ⟨by rw [kidRow_node K op ks (by have := HKS.out; omega)], _, hfin.rs, hfin.mv⟩
end Go.Proofs.YtncoooimgeoihaaDoor
