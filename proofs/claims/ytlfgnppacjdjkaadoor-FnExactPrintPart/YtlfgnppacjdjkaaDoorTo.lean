/-
  Nodes as they landed: each tree of a program is laid out as its part; the part of a node. Conditions: written at each theorem.
-/
import Derived.Test.YtlfgnppacjdjkaaDoorTm
import Derived.Test.YtlfgnppacjdjkaaDoorTn
import Derived.Test.YtlfgnppacjdjkaaDoorTe
namespace Go.Proofs.YtlfgnppacjdjkaaDoor
open Go.ChangeShapes Go.WideShapes Go.ChangeAt Go.RowKit
set_option linter.unusedVariables false

theorem LayV.near {v : Value} {S S' : Nat → List Nod} (h : LayV v S) (e : ∀ n, n ≤ 1000 → S n = S' n) : LayV v S' := by
  obtain ⟨T, u, f, x, rfl, hn, hm, hf, hc⟩ := h
  refine ⟨T, u, f, x, rfl, hn, hm, hf, ?_⟩
  intro out v B w hown hB hlen
  have he := e out.length (by omega)
  rw [← he] at hlen ⊢
  exact hc out v B w hown hB hlen

theorem layV_0 (t : Nod) (s : Int) (hs : t.name.size ≤ 281474976710656) (ho : t.other.size ≤ 281474976710656) : LayV (treeV t s []) (seg0 t) := by
  have hm : ∀ w : World, (method 303 140 (.agg (spotL t s ++ []).toArray) "loop.example/g01292/impl.lay").run Tryd.prog w = .ok (155, .agg (spotL t s ++ []).toArray) w := fun w => by kernel_rfl
  have hn : ∀ w : World, (nilAhead 303 140 (.agg (spotL t s ++ []).toArray) "loop.example/g01292/impl.lay").run Tryd.prog w = .ok (some false) w := fun w => by kernel_rfl
  have e : treeV t s [] = .iface 140 (.agg (spotL t s ++ []).toArray) := by
    unfold treeV
    congr 1
  rw [e]
  exact ⟨_, _, _, _, rfl, hn, hm, Or.inl rfl, lay_leaf t s hs ho⟩

theorem layV_1 (t : Nod) (s : Int) (hs : t.name.size ≤ 281474976710656) (ho : t.other.size ≤ 281474976710656) {v0 : Value} {S0 : Nat → List Nod} (h0 : LayV v0 S0) : LayV (treeV t s [v0]) (seg1 t S0) := by
  obtain ⟨T0, u0, f0, y0, rfl, r0⟩ := h0
  exact ⟨142, .agg (spotL t s ++ [Value.iface T0 u0]).toArray, 157, .agg (spotL t s ++ [Value.iface T0 u0]).toArray, rfl, fun w => by kernel_rfl, fun w => by kernel_rfl, Or.inr (Or.inl rfl),
    lay_one t s hs ho ⟨T0, u0, f0, y0, rfl, r0⟩⟩

theorem layV_2 (t : Nod) (s : Int) (hs : t.name.size ≤ 281474976710656) (ho : t.other.size ≤ 281474976710656) {v0 v1 : Value} {S0 S1 : Nat → List Nod} (h0 : LayV v0 S0) (h1 : LayV v1 S1) : LayV (treeV t s [v0, v1]) (seg2 t S0 S1) := by
  obtain ⟨T0, u0, f0, y0, rfl, r0⟩ := h0
  obtain ⟨T1, u1, f1, y1, rfl, r1⟩ := h1
  exact ⟨144, .agg (spotL t s ++ [Value.iface T0 u0, Value.iface T1 u1]).toArray, 159, .agg (spotL t s ++ [Value.iface T0 u0, Value.iface T1 u1]).toArray, rfl, fun w => by kernel_rfl, fun w => by kernel_rfl, Or.inr (Or.inr (Or.inl rfl)),
    lay_two t s hs ho ⟨T0, u0, f0, y0, rfl, r0⟩ ⟨T1, u1, f1, y1, rfl, r1⟩⟩

theorem layV_3 (t : Nod) (s : Int) (hs : t.name.size ≤ 281474976710656) (ho : t.other.size ≤ 281474976710656) {v0 v1 v2 : Value} {S0 S1 S2 : Nat → List Nod} (h0 : LayV v0 S0) (h1 : LayV v1 S1) (h2 : LayV v2 S2) : LayV (treeV t s [v0, v1, v2]) (seg3 t S0 S1 S2) := by
  obtain ⟨T0, u0, f0, y0, rfl, r0⟩ := h0
  obtain ⟨T1, u1, f1, y1, rfl, r1⟩ := h1
  obtain ⟨T2, u2, f2, y2, rfl, r2⟩ := h2
  exact ⟨146, .agg (spotL t s ++ [Value.iface T0 u0, Value.iface T1 u1, Value.iface T2 u2]).toArray, 160, .agg (spotL t s ++ [Value.iface T0 u0, Value.iface T1 u1, Value.iface T2 u2]).toArray, rfl, fun w => by kernel_rfl, fun w => by kernel_rfl, Or.inr (Or.inr (Or.inr rfl)),
    lay_three t s hs ho ⟨T0, u0, f0, y0, rfl, r0⟩ ⟨T1, u1, f1, y1, rfl, r1⟩ ⟨T2, u2, f2, y2, rfl, r2⟩⟩

theorem wrap64_in {x : Int} (h1 : -9223372036854775808 ≤ x) (h2 : x ≤ 9223372036854775807) : wrap64 x = x := by
  unfold wrap64
  omega

theorem layV_all {ts : List Nod} {st : List Int} {vs : List Value} (hl : ts.length ≤ 150) (hS : startsF ts ts.length = some st) (hG : TreesG ts st vs ts.length) :
    ∀ (b j : Nat), j < b → j < ts.length → LayV (vs.getD j .nilIface) (partAt ts st j)
  | 0, j, hb, hj => by omega
  | b + 1, j, hb, hj => by
    obtain ⟨hf, hd⟩ := starts_at ts ts.length st hS j hj
    obtain ⟨hn, ho⟩ := fields_small hf
    have hn' : (ts.getD j noNod).name.size ≤ 281474976710656 := by omega
    have ho' : (ts.getD j noNod).other.size ≤ 281474976710656 := by omega
    have hrj := hG.r j hj
    rw [hG.v j hj]
    have har := arN_le (ts.getD j noNod).kind
    have hu : ∀ n, partAt ts st j n = ((ts.take (j + 1)).drop (st.getD j 0).toNat).map (shiftN ((n : Int) - st.getD j 0)) := fun n => rfl
    have hone := cut_one ts j hj
    obtain ⟨s, hs⟩ : ∃ s, st.getD j 0 = s := ⟨_, rfl⟩
    rw [hs] at hd hrj hu ⊢
    obtain ⟨t, ht⟩ : ∃ t, ts.getD j noNod = t := ⟨_, rfl⟩
    rw [ht] at hf hd hn' ho' har hone ⊢
    rcases (by omega : arN t.kind = 0 ∨ arN t.kind = 1 ∨ arN t.kind = 2 ∨ arN t.kind = 3) with ha | ha | ha | ha
    · rw [kidL_0 ha] at hd ⊢
      obtain rfl := down_nil hd
      refine (layV_0 t _ hn' ho').near (fun n hnn => ?_)
      rw [hu n, show ((j : Int)).toNat = j by omega, hone]
      simp [seg0, shiftN, ha]
    · rw [kidL_1 ha] at hd ⊢
      obtain ⟨e1, e2, e3⟩ := down_one hd
      obtain ⟨ja, hja⟩ := Int.eq_ofNat_of_zero_le e2
      have e4 := down_nil e3
      rw [hja, show ((ja : Int)).toNat = ja by omega] at e4
      have hrA := hG.r ja (by omega)
      have iA := layV_all hl hS hG b ja (by omega) (by omega)
      have lA := fun n => partAt_length ts st ja n (by omega) hrA
      have uA : ∀ n, partAt ts st ja n = ((ts.take (ja + 1)).drop (st.getD ja 0).toNat).map (shiftN ((n : Int) - st.getD ja 0)) := fun n => rfl
      have ek : kidV vs [t.a] = [vs.getD ja .nilIface] := by
        simp only [kidV, List.map_cons, List.map_nil, hja]
        rfl
      rw [ek]
      refine (layV_1 t s hn' ho' iA).near (fun n hnn => ?_)
      have c1 := cut_split ts s.toNat (ja + 1) (j + 1) (by omega) (by omega) (by omega)
      have ej : ja + 1 = j := by omega
      rw [hu n, c1, List.map_append]
      unfold seg1
      rw [lA n, uA n, e4]
      congr 1
      rw [ej, hone]
      simp only [List.map_cons, List.map_nil, shiftN, ha]
      rw [if_pos (by omega), if_neg (by omega), if_neg (by omega), wrap64_in (by omega) (by omega)]
      have ea : ((n + (j - s.toNat) : Nat) : Int) - 1 = t.a + ((n : Int) - s) := by omega
      rw [ea]
    · rw [kidL_2 ha] at hd ⊢
      rw [show [t.a, t.b].reverse = [t.b, t.a] from rfl] at hd
      obtain ⟨e1b, e2b, e3b⟩ := down_one hd
      obtain ⟨jb, hjb⟩ := Int.eq_ofNat_of_zero_le e2b
      rw [hjb, show ((jb : Int)).toNat = jb by omega] at e3b
      have hrb := hG.r jb (by omega)
      obtain ⟨e1a, e2a, e3a⟩ := down_one e3b
      obtain ⟨ja, hja⟩ := Int.eq_ofNat_of_zero_le e2a
      rw [hja, show ((ja : Int)).toNat = ja by omega] at e3a
      have hra := hG.r ja (by omega)
      have e4 := down_nil e3a
      have ia := layV_all hl hS hG b ja (by omega) (by omega)
      have la := fun n => partAt_length ts st ja n (by omega) hra
      have ua : ∀ n, partAt ts st ja n = ((ts.take (ja + 1)).drop (st.getD ja 0).toNat).map (shiftN ((n : Int) - st.getD ja 0)) := fun n => rfl
      have ib := layV_all hl hS hG b jb (by omega) (by omega)
      have lb := fun n => partAt_length ts st jb n (by omega) hrb
      have ub : ∀ n, partAt ts st jb n = ((ts.take (jb + 1)).drop (st.getD jb 0).toNat).map (shiftN ((n : Int) - st.getD jb 0)) := fun n => rfl
      have ek : kidV vs [t.a, t.b] = [vs.getD ja .nilIface, vs.getD jb .nilIface] := by
        simp only [kidV, List.map_cons, List.map_nil, hja, hjb]
        rfl
      rw [ek]
      refine (layV_2 t s hn' ho' ia ib).near (fun n hnn => ?_)
      rw [hu n]
      rw [cut_split ts s.toNat (ja + 1) (j + 1) (by omega) (by omega) (by omega), List.map_append]
      rw [cut_split ts (ja + 1) (jb + 1) (j + 1) (by omega) (by omega) (by omega), List.map_append]
      unfold seg2
      rw [la, lb]
      have pb : st.getD jb 0 = ((ja + 1 : Nat) : Int) := by omega
      rw [ua n, e4]
      rw [ub, pb]
      rw [show (((n + (ja + 1 - s.toNat) : Nat) : Int) - ((ja + 1 : Nat) : Int)) = (n : Int) - s by omega, show (((ja + 1 : Nat) : Int)).toNat = ja + 1 by omega]
      rw [show jb + 1 = j by omega, hone]
      simp only [List.map_cons, List.map_nil, shiftN, ha]
      rw [if_pos (by omega), if_pos (by omega), if_neg (by omega)]
      rw [wrap64_in (x := t.a + ((n : Int) - s)) (by omega) (by omega)]
      rw [wrap64_in (x := t.b + ((n : Int) - s)) (by omega) (by omega)]
      have fa : (((n + (ja + 1 - s.toNat) : Nat) : Int) - 1) = t.a + ((n : Int) - s) := by omega
      have fb : (((n + (ja + 1 - s.toNat) + (j - (ja + 1)) : Nat) : Int) - 1) = t.b + ((n : Int) - s) := by omega
      rw [fa, fb]
    · rw [kidL_3 ha] at hd ⊢
      rw [show [t.a, t.b, t.c].reverse = [t.c, t.b, t.a] from rfl] at hd
      obtain ⟨e1c, e2c, e3c⟩ := down_one hd
      obtain ⟨jc, hjc⟩ := Int.eq_ofNat_of_zero_le e2c
      rw [hjc, show ((jc : Int)).toNat = jc by omega] at e3c
      have hrc := hG.r jc (by omega)
      obtain ⟨e1b, e2b, e3b⟩ := down_one e3c
      obtain ⟨jb, hjb⟩ := Int.eq_ofNat_of_zero_le e2b
      rw [hjb, show ((jb : Int)).toNat = jb by omega] at e3b
      have hrb := hG.r jb (by omega)
      obtain ⟨e1a, e2a, e3a⟩ := down_one e3b
      obtain ⟨ja, hja⟩ := Int.eq_ofNat_of_zero_le e2a
      rw [hja, show ((ja : Int)).toNat = ja by omega] at e3a
      have hra := hG.r ja (by omega)
      have e4 := down_nil e3a
      have ia := layV_all hl hS hG b ja (by omega) (by omega)
      have la := fun n => partAt_length ts st ja n (by omega) hra
      have ua : ∀ n, partAt ts st ja n = ((ts.take (ja + 1)).drop (st.getD ja 0).toNat).map (shiftN ((n : Int) - st.getD ja 0)) := fun n => rfl
      have ib := layV_all hl hS hG b jb (by omega) (by omega)
      have lb := fun n => partAt_length ts st jb n (by omega) hrb
      have ub : ∀ n, partAt ts st jb n = ((ts.take (jb + 1)).drop (st.getD jb 0).toNat).map (shiftN ((n : Int) - st.getD jb 0)) := fun n => rfl
      have ic := layV_all hl hS hG b jc (by omega) (by omega)
      have lc := fun n => partAt_length ts st jc n (by omega) hrc
      have uc : ∀ n, partAt ts st jc n = ((ts.take (jc + 1)).drop (st.getD jc 0).toNat).map (shiftN ((n : Int) - st.getD jc 0)) := fun n => rfl
      have ek : kidV vs [t.a, t.b, t.c] = [vs.getD ja .nilIface, vs.getD jb .nilIface, vs.getD jc .nilIface] := by
        simp only [kidV, List.map_cons, List.map_nil, hja, hjb, hjc]
        rfl
      rw [ek]
      refine (layV_3 t s hn' ho' ia ib ic).near (fun n hnn => ?_)
      rw [hu n]
      rw [cut_split ts s.toNat (ja + 1) (j + 1) (by omega) (by omega) (by omega), List.map_append]
      rw [cut_split ts (ja + 1) (jb + 1) (j + 1) (by omega) (by omega) (by omega), List.map_append]
      rw [cut_split ts (jb + 1) (jc + 1) (j + 1) (by omega) (by omega) (by omega), List.map_append]
      unfold seg3
      rw [la, lb, lc]
      have pb : st.getD jb 0 = ((ja + 1 : Nat) : Int) := by omega
      have pc : st.getD jc 0 = ((jb + 1 : Nat) : Int) := by omega
      rw [ua n, e4]
      rw [ub, pb]
      rw [show (((n + (ja + 1 - s.toNat) : Nat) : Int) - ((ja + 1 : Nat) : Int)) = (n : Int) - s by omega, show (((ja + 1 : Nat) : Int)).toNat = ja + 1 by omega]
      rw [uc, pc]
      rw [show (((n + (ja + 1 - s.toNat) + (jb + 1 - (ja + 1)) : Nat) : Int) - ((jb + 1 : Nat) : Int)) = (n : Int) - s by omega, show (((jb + 1 : Nat) : Int)).toNat = jb + 1 by omega]
      rw [show jc + 1 = j by omega, hone]
      simp only [List.map_cons, List.map_nil, shiftN, ha]
      rw [if_pos (by omega), if_pos (by omega), if_pos (by omega)]
      rw [wrap64_in (x := t.a + ((n : Int) - s)) (by omega) (by omega)]
      rw [wrap64_in (x := t.b + ((n : Int) - s)) (by omega) (by omega)]
      rw [wrap64_in (x := t.c + ((n : Int) - s)) (by omega) (by omega)]
      have fa : (((n + (ja + 1 - s.toNat) : Nat) : Int) - 1) = t.a + ((n : Int) - s) := by omega
      have fb : (((n + (ja + 1 - s.toNat) + (jb + 1 - (ja + 1)) : Nat) : Int) - 1) = t.b + ((n : Int) - s) := by omega
      have fc : (((n + (ja + 1 - s.toNat) + (jb + 1 - (ja + 1)) + (j - (jb + 1)) : Nat) : Int) - 1) = t.c + ((n : Int) - s) := by omega
      rw [fa, fb, fc]
end Go.Proofs.YtlfgnppacjdjkaaDoor
