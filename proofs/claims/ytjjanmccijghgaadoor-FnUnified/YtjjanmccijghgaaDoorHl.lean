/-
  Types, the specification's: texts. Conditions: written at each theorem.
-/
import Derived.Test.YtjjanmccijghgaaDoorHh
import Derived.Test.YtjjanmccijghgaaDoorDs
import Derived.Lib.ItoaLen
namespace Go.Proofs.YtjjanmccijghgaaDoor
open Go.ChangeShapes Go.WideShapes Go.ChangeAt Go.RowKit
set_option linter.unusedVariables false

theorem joinB (a b : List UInt8) : (⟨a.toArray⟩ : ByteArray) ++ ⟨b.toArray⟩ = ⟨(a ++ b).toArray⟩ := by
  apply ByteArray.ext
  rw [ByteArray.data_append]
  simp

theorem sizeB (a : List UInt8) : (⟨a.toArray⟩ : ByteArray).size = a.length := by simp [ByteArray.size]

theorem Ok.form {ts : List Typ} {r : Nat → Nat} {ρ : Nat → Tr} (h : Ok ts r ρ) : ∀ (n i : Nat), r i < n → i < ts.length → ∀ x y, ρ i ≠ .append x y
  | 0, i, hn, _ => absurd hn (by omega)
  | n + 1, i, hn, hi => by
    intro x y e
    by_cases h0 : (ts.getD i noTyp).kind = 0
    · by_cases ha : 0 ≤ (ts.getD i noTyp).a
      · have h1 := h.rk i hi _ (kid_bound h0 ha)
        have h2 := (h.ent i hi).kids _ (kid_bound h0 ha)
        rw [h.bound hi h0 ha] at e
        exact h.form n _ (by omega) (by omega) x y e
      · rw [h.free i hi h0 (by omega)] at e
        cases e
    · rw [h.con hi h0] at e
      unfold rhsT at e
      split at e
      · cases e
      · split at e <;> cases e

theorem sho_k (k : Int) (t : Tr) (l : List Nat) (h : ∀ x y, t ≠ .append x y) : shoT k t l = shoT 0 t l := by
  cases t with
  | append x y => exact absurd rfl (h x y)
  | nest _ _ => rfl
  | tag _ _ => rfl
  | nil => rfl
  | line => rfl
  | align _ => rfl
  | text _ => rfl
  | group _ _ => rfl

theorem idx_le (v : Nat) : ∀ l : List Nat, idxT v l ≤ l.length
  | [] => Nat.le_refl _
  | x :: l => by
    rw [idxT]
    split
    · simp
    · have := idx_le v l
      simp
      omega

theorem idx_not (v : Nat) : ∀ l : List Nat, v ∉ l → idxT v l = l.length
  | [], _ => rfl
  | x :: l, h => by
    simp at h
    rw [idxT, if_neg (fun e => h.1 e.symm), idx_not v l h.2]
    rfl

theorem idx_at (v : Nat) : ∀ (l : List Nat) (q : Nat), q < l.length → l.getD q 0 = v → (∀ p, p < q → l.getD p 0 ≠ v) → idxT v l = q
  | [], q, h, _, _ => by simp at h
  | x :: l, 0, _, h, _ => by
    simp at h
    rw [idxT, if_pos h]
  | x :: l, q + 1, h, hv, hp => by
    have h0 := hp 0 (by omega)
    simp at h0
    rw [idxT, if_neg h0, idx_at v l q (by simpa using h) (by simpa using hv) (fun p h => by simpa using hp (p + 1) (by omega))]

theorem add_len (v : Nat) (l : List Nat) : (addT v l).length ≤ l.length + 1 := by
  unfold addT
  split <;> simp

theorem sho_names (k : Int) : ∀ (t : Tr) (l : List Nat), (shoT k t l).2.length ≤ l.length + sizeT t
  | .nest q f, l => by
    have := sho_names q f l
    rw [shoT, sizeT]
    simp only
    omega
  | .append a b, l => by
    have h1 := sho_names k a l
    have h2 := sho_names k b (shoT k a l).2
    rw [shoT, sizeT]
    simp only
    omega
  | .tag i _, l => add_len i l
  | .nil, l => by show l.length ≤ _; omega
  | .line, l => by show l.length ≤ _; omega
  | .align _, l => by show l.length ≤ _; omega
  | .text _, l => by show l.length ≤ _; omega
  | .group _ _, l => by show l.length ≤ _; omega

theorem sho_len (k : Int) : ∀ (t : Tr) (l : List Nat), l.length + sizeT t ≤ 1000000 → (shoT k t l).1.length + 4 ≤ 30 * sizeT t
  | .nest q f, l, h => by
    rw [sizeT] at h
    have h1 := sho_len q f l (by omega)
    have h2 : (preT q).length ≤ 5 := by
      unfold preT
      split
      · simp
      · split <;> simp
    rw [shoT, sizeT]
    simp
    omega
  | .append a b, l, h => by
    rw [sizeT] at h
    have h0 := sho_names k a l
    have p := sizeT_pos a
    have h1 := sho_len k a l (by omega)
    have h2 := sho_len k b (shoT k a l).2 (by omega)
    have h3 : (midT k).length ≤ 4 := by unfold midT; split <;> simp
    rw [shoT, sizeT]
    simp
    have p2 := sizeT_pos b
    omega
  | .tag i _, l, h => by
    have h1 := idx_le i l
    have h2 := Lib.itoa_length_le ((idxT i l : Nat) : Int) (by omega) (by rw [sizeT] at h; omega)
    rw [shoT, sizeT]
    simp
    omega
  | .nil, l, _ => by simp [shoT, sizeT]
  | .line, l, _ => by simp [shoT, sizeT]
  | .align _, l, _ => by simp [shoT, sizeT]
  | .text _, l, _ => by simp [shoT, sizeT]
  | .group _ _, l, _ => by simp [shoT, sizeT]

def natL (l : List Nat) : List Int := l.map (fun (n : Nat) => (n : Int))

theorem natL_length (l : List Nat) : (natL l).length = l.length := by simp [natL]

/-- What a call that shows a type ends with. -/
def ShoEnd (w : World) (t : Tr) (l : List Nat) (e : Ending) (w' : World) : Prop :=
  ∃ G c : Nat, e = .returned (.tuple #[.string ⟨(shoT 0 t l).1.toArray⟩, .slice (some ⟨G, 0, none⟩) (shoT 0 t l).2.length c]) ∧ IntAt w' G (natL (shoT 0 t l).2) ∧ (shoT 0 t l).2.length ≤ c ∧ Below w.heap.size w w'

theorem ShoEnd.mk {w w' : World} {t : Tr} {l l' : List Nat} {S : ByteArray} {G c : Nat} {e : Ending} (he : e = .returned (.tuple #[.string S, .slice (some ⟨G, 0, none⟩) l'.length c])) (hS : S = ⟨(shoT 0 t l).1.toArray⟩) (hl : (shoT 0 t l).2 = l') (hA : IntAt w' G (natL l')) (hc : l'.length ≤ c) (hb : Below w.heap.size w w') : ShoEnd w t l e w' := by
  subst hl hS
  exact ⟨G, c, he, hA, hc, hb⟩

theorem own_ints {w : World} {B : Nat} {v : Value} {st : List Int} {n : Nat} {xs : List Value} (h : w.ownsRow B 3 1 v n xs) (hn : n = st.length) (hx : xs = st.map (Value.int .i64)) (h0 : 0 < st.length) : ∃ g cap, v = .slice (some ⟨g, 0, none⟩) st.length cap ∧ IntAt w g st ∧ st.length ≤ cap := by
  subst hn hx
  rcases h.2 with ⟨rfl, hz⟩ | ⟨g, cap, cur, rfl, hb, hg, hn, hm, hs, ht⟩
  · omega
  · refine ⟨g, cap, rfl, fun i hi => ?_, hn⟩
    rw [cell_of_row _ _ _ _ _ _ hg, ← Array.getElem?_toList]
    have : (cur.toList.take (st.length * 1))[i]? = (st.map (Value.int .i64))[i]? := by rw [ht]
    rw [List.getElem?_take_of_lt (by omega)] at this
    rw [this]
    simp [List.getD, hi]

theorem info_int : (Tryd.prog.info? 3).map (fun i => (i.zero, i.size, i.bytes)) = some (some (.int .i64 0), 1, 8) := by kernel_rfl

theorem sho_two {k : Int} (h : k = 2 ∨ k = 3) (x y : Tr) (l : List Nat) (hx : ∀ p q, x ≠ .append p q) (hy : ∀ p q, y ≠ .append p q) :
    shoT 0 (.nest k (.append x y)) l = (40 :: ((shoT 0 x l).1 ++ (midT k ++ ((shoT 0 y (shoT 0 x l).2).1 ++ [41]))), (shoT 0 y (shoT 0 x l).2).2) := by
  rw [shoT, shoT, sho_k k x l hx, sho_k k y _ hy]
  rcases h with rfl | rfl <;> simp [preT]

theorem sho_one {k : Int} (x : Tr) (l : List Nat) (hx : ∀ p q, x ≠ .append p q) : shoT 0 (.nest k x) l = (40 :: (preT k ++ ((shoT 0 x l).1 ++ [41])), (shoT 0 x l).2) := by
  rw [shoT, sho_k k x l hx]

end Go.Proofs.YtjjanmccijghgaaDoor
