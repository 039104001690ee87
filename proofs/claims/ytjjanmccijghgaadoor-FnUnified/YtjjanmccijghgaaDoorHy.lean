/-
  The writer of types as it landed: types are written. Conditions: written at each theorem.
-/
import Derived.Test.YtjjanmccijghgaaDoorHv
import Derived.Test.YtjjanmccijghgaaDoorHm
import Derived.Test.YtjjanmccijghgaaDoorHk
namespace Go.Proofs.YtjjanmccijghgaaDoor
open Go.ChangeShapes Go.WideShapes Go.ChangeAt Go.RowKit
set_option linter.unusedVariables false

/-- What is known where a writer stands at a world behind w. -/
structure TS (B b : Nat) (bl : Nat → Nat) (ts : List Typ) (w : World) (bs : List UInt8) (l : List Nat) (w' : World) : Prop where
  tw : TW B b ts.length bs bl l w'
  shp : Shp w' bl ts
  bel : Below B w w'
  pow : ∀ w'', Below B w' w'' → PowIs w''
  size : B ≤ w'.heap.size

theorem TS.next {B b : Nat} {bl : Nat → Nat} {ts : List Typ} {w w1 w2 : World} {bs bs' : List UInt8} {l l' : List Nat} (h : TS B b bl ts w bs l w1) (hlt : ∀ i, i < ts.length → bl i < B) (ht : TW B b ts.length bs' bl l' w2) (hb : Below B w1 w2) : TS B b bl ts w bs' l' w2 :=
  ⟨ht, h.shp.keep hb hlt, h.bel.trans hb, fun w'' h2 => h.pow w'' (hb.trans h2), Nat.le_trans h.size hb.size⟩

theorem TS.byte {B b : Nat} {bl : Nat → Nat} {ts : List Typ} {w w1 : World} {bs : List UInt8} {l : List Nat} (c : UInt8) (n : Int) (hn : n = c.toNat) (h : TS B b bl ts w bs l w1) (hlt : ∀ i, i < ts.length → bl i < B) (hlen : bs.length ≤ 1000000) :
    Calls Tryd.prog 57 #[.pointer (some ⟨b, 0, none⟩), .int .u8 n] w1 fun e w' => e = .returned .nilIface ∧ TS B b bl ts w (bs ++ [c]) l w' := by
  subst hn
  refine (tw_byte c w1 h.tw hlen h.size).mono ?_
  rintro e w' ⟨rfl, ht, hb⟩
  exact ⟨rfl, h.next hlt ht hb⟩

theorem TS.text {B b : Nat} {bl : Nat → Nat} {ts : List Typ} {w w1 : World} {bs : List UInt8} {l : List Nat} (s : ByteArray) (h : TS B b bl ts w bs l w1) (hlt : ∀ i, i < ts.length → bl i < B) (hlen : bs.length ≤ 1000000) (hs : s.size ≤ 100) :
    Calls Tryd.prog 45 #[.pointer (some ⟨b, 0, none⟩), .string s] w1 fun e w' => e = .returned (.tuple #[.int .i64 s.size, .nilIface]) ∧ TS B b bl ts w (bs ++ s.data.toList) l w' := by
  refine (tw_text s w1 h.tw hlen hs h.size).mono ?_
  rintro e w' ⟨rfl, ht, hb⟩
  exact ⟨rfl, h.next hlt ht hb⟩

def WrOk (ts : List Typ) (r : Nat → Nat) (ρ : Nat → Tr) (B b : Nat) (bl : Nat → Nat) (K : Nat) : Prop :=
  ∀ (m : Nat) (bs : List UInt8) (l : List Nat) (w w1 : World), m < ts.length → r m < K → l.length + sizeT (ρ m) ≤ 900 → bs.length + 30 * sizeT (ρ m) ≤ 400000 → TS B b bl ts w bs l w1 →
    Calls Tryd.prog 34 #[.pointer (some ⟨b, 0, none⟩), shP bl m] w1 fun e w' => e = .returned (.tuple #[]) ∧ TS B b bl ts w (bs ++ (shoT 0 (ρ m) l).1) (shoT 0 (ρ m) l).2 w'

set_option maxHeartbeats 1000000 in
set_option maxRecDepth 20000 in
theorem impl_two {ts : List Typ} {r : Nat → Nat} {ρ : Nat → Tr} {B b : Nat} {bl : Nat → Nat} {K : Nat} (hlt : ∀ i, i < ts.length → bl i < B) (hW : WrOk ts r ρ B b bl K) (k : Int) (hk : k = 2 ∨ k = 3) (j m n : Nat) (M : ByteArray) (hM : M.data.toList = midT k) (hMs : M.size ≤ 100) (hj : j < ts.length)
    (hkid : kidZ (ts.getD j noTyp) = [(m : Int), (n : Int)]) (hm : m < ts.length) (hn : n < ts.length) (hrm : r m < K) (hrn : r n < K) (hfm : ∀ p q, ρ m ≠ .append p q) (hfn : ∀ p q, ρ n ≠ .append p q) (he : ρ j = .nest k (.append (ρ m) (ρ n)))
    (bs : List UInt8) (l : List Nat) (w w1 : World) (hll : l.length + sizeT (ρ j) ≤ 900) (hbs : bs.length + 30 * sizeT (ρ j) ≤ 400000) (hT : TS B b bl ts w bs l w1) :
    Calls Tryd.prog 46 #[.pointer (some ⟨b, 0, none⟩), shP bl j, .string M] w1 fun e w' => e = .returned (.tuple #[]) ∧ TS B b bl ts w (bs ++ (shoT 0 (ρ j) l).1) (shoT 0 (ρ j) l).2 w' := by
  have hsz : sizeT (ρ j) = 1 + (sizeT (ρ m) + sizeT (ρ n)) := by rw [he, sizeT, sizeT]
  have hsh := sho_two hk (ρ m) (ρ n) l hfm hfn
  rw [← he] at hsh
  have hln := sho_len 0 (ρ m) l (by omega)
  have hnm := sho_names 0 (ρ m) l
  have p1 := sizeT_pos (ρ m)
  have p2 := sizeT_pos (ρ n)
  have hmid : (midT k).length ≤ 4 := by unfold midT; split <;> simp
  have C1 := TS.byte 40 40 rfl hT hlt (by omega)
  have H2 : Hid (∀ w2, TS B b bl ts w (bs ++ [40]) l w2 → Calls Tryd.prog 34 #[.pointer (some ⟨b, 0, none⟩), shP bl m] w2 fun e w' => e = .returned (.tuple #[]) ∧ TS B b bl ts w ((bs ++ [40]) ++ (shoT 0 (ρ m) l).1) (shoT 0 (ρ m) l).2 w') := fun w2 h => hW m _ l w w2 hm hrm (by omega) (by simp; omega) h
  have H3 : Hid (∀ w2, TS B b bl ts w ((bs ++ [40]) ++ (shoT 0 (ρ m) l).1) (shoT 0 (ρ m) l).2 w2 → Calls Tryd.prog 45 #[.pointer (some ⟨b, 0, none⟩), .string M] w2 fun e w' => e = .returned (.tuple #[.int .i64 M.size, .nilIface]) ∧ TS B b bl ts w (((bs ++ [40]) ++ (shoT 0 (ρ m) l).1) ++ M.data.toList) (shoT 0 (ρ m) l).2 w') := fun w2 h => TS.text M h hlt (by simp; omega) hMs
  have H4 : Hid (∀ w2, TS B b bl ts w (((bs ++ [40]) ++ (shoT 0 (ρ m) l).1) ++ M.data.toList) (shoT 0 (ρ m) l).2 w2 → Calls Tryd.prog 34 #[.pointer (some ⟨b, 0, none⟩), shP bl n] w2 fun e w' => e = .returned (.tuple #[]) ∧ TS B b bl ts w ((((bs ++ [40]) ++ (shoT 0 (ρ m) l).1) ++ M.data.toList) ++ (shoT 0 (ρ n) (shoT 0 (ρ m) l).2).1) (shoT 0 (ρ n) (shoT 0 (ρ m) l).2).2 w') := fun w2 h => hW n _ _ w w2 hn hrn (by omega) (by rw [hM]; simp; omega) h
  have hln2 := sho_len 0 (ρ n) (shoT 0 (ρ m) l).2 (by omega)
  have H5 : Hid (∀ w2, TS B b bl ts w ((((bs ++ [40]) ++ (shoT 0 (ρ m) l).1) ++ M.data.toList) ++ (shoT 0 (ρ n) (shoT 0 (ρ m) l).2).1) (shoT 0 (ρ n) (shoT 0 (ρ m) l).2).2 w2 → Calls Tryd.prog 57 #[.pointer (some ⟨b, 0, none⟩), .int .u8 41] w2 fun e w' => e = .returned .nilIface ∧ TS B b bl ts w (bs ++ (shoT 0 (ρ j) l).1) (shoT 0 (ρ j) l).2 w') := fun w2 h => by
    have := TS.byte 41 41 rfl h hlt (by rw [hM]; simp; omega)
    have e1 : bs ++ (shoT 0 (ρ j) l).1 = (((((bs ++ [40]) ++ (shoT 0 (ρ m) l).1) ++ M.data.toList) ++ (shoT 0 (ρ n) (shoT 0 (ρ m) l).2).1) ++ [41]) := by rw [hsh, hM]; simp
    have e2 : (shoT 0 (ρ j) l).2 = (shoT 0 (ρ n) (shoT 0 (ρ m) l).2).2 := by rw [hsh]
    rw [e1, e2]
    exact this
  have HC : Hid (∀ w2, Shp w2 bl ts → w2.cell? ⟨bl j, 1, none⟩ = some (shP bl m) ∧ w2.cell? ⟨bl j, 2, none⟩ = some (shP bl n)) := fun w2 h => by
    obtain ⟨_, c1, c2, _⟩ := h.cells hj
    rw [hkid] at c1 c2
    exact ⟨by rw [c1]; rfl, by rw [c2]; rfl⟩
  generalize bs ++ (shoT 0 (ρ j) l).1 = R at *
  generalize (shoT 0 (ρ j) l).2 = L at *
  have HC1 : Hid (Calls _ _ _ _ _) := C1
  clear hsh hln hnm hln2 hsz hll hbs hW hlt hkid hfm hfn he C1 hT hmid p1 p2 hM hMs
  go_enter Tryd.func46, Tryd.ntmps46
  go_wp2_with fail
  refine HC1.out.mono ?_
  rintro e w2 ⟨rfl, h2⟩
  have T2 : Hid (TS B b bl ts w (bs ++ [40]) l w2) := h2
  obtain ⟨c1, _⟩ := HC.out w2 h2.shp
  clear h2
  go_wp2_with fail
  refine (H2.out w2 T2.out).mono ?_
  rintro e w3 ⟨rfl, h3⟩
  clear c1 T2 H2
  go_wp2_with fail
  refine (H3.out w3 h3).mono ?_
  rintro e w4 ⟨rfl, h4⟩
  obtain ⟨_, c2⟩ := HC.out w4 h4.shp
  clear H3 h3
  go_wp2_with fail
  refine (H4.out w4 h4).mono ?_
  rintro e w5 ⟨rfl, h5⟩
  clear c2 h4 H4
  go_wp2_with fail
  refine (H5.out w5 h5).mono ?_
  rintro e w6 ⟨rfl, h6⟩
  clear h5 H5
  go_wp2
  go_end0
  exact ⟨rfl, h6⟩

set_option maxHeartbeats 1000000 in
set_option maxRecDepth 20000 in
theorem impl_one {ts : List Typ} {r : Nat → Nat} {ρ : Nat → Tr} {B b : Nat} {bl : Nat → Nat} {K : Nat} (hlt : ∀ i, i < ts.length → bl i < B) (hW : WrOk ts r ρ B b bl K) (k : Int) (j m : Nat) (M : ByteArray) (hM : M.data.toList = preT k) (hMs : M.size ≤ 100) (hj : j < ts.length)
    (hkid : kidZ (ts.getD j noTyp) = [(m : Int)]) (hm : m < ts.length) (hrm : r m < K) (hfm : ∀ p q, ρ m ≠ .append p q) (he : ρ j = .nest k (ρ m))
    (bs : List UInt8) (l : List Nat) (w w1 : World) (hll : l.length + sizeT (ρ j) ≤ 900) (hbs : bs.length + 30 * sizeT (ρ j) ≤ 400000) (hT : TS B b bl ts w bs l w1) :
    Calls Tryd.prog 47 #[.pointer (some ⟨b, 0, none⟩), .string M, shP bl j] w1 fun e w' => e = .returned (.tuple #[]) ∧ TS B b bl ts w (bs ++ (shoT 0 (ρ j) l).1) (shoT 0 (ρ j) l).2 w' := by
  have hsz : sizeT (ρ j) = 1 + sizeT (ρ m) := by rw [he, sizeT]
  have hsh := sho_one (k := k) (ρ m) l hfm
  rw [← he] at hsh
  have hln := sho_len 0 (ρ m) l (by omega)
  have p1 := sizeT_pos (ρ m)
  have hmid : (preT k).length ≤ 5 := by
    unfold preT
    split
    · simp
    · split <;> simp
  have C1 := TS.byte 40 40 rfl hT hlt (by omega)
  have H2 : Hid (∀ w2, TS B b bl ts w (bs ++ [40]) l w2 → Calls Tryd.prog 45 #[.pointer (some ⟨b, 0, none⟩), .string M] w2 fun e w' => e = .returned (.tuple #[.int .i64 M.size, .nilIface]) ∧ TS B b bl ts w ((bs ++ [40]) ++ M.data.toList) l w') := fun w2 h => TS.text M h hlt (by simp; omega) hMs
  have H3 : Hid (∀ w2, TS B b bl ts w ((bs ++ [40]) ++ M.data.toList) l w2 → Calls Tryd.prog 34 #[.pointer (some ⟨b, 0, none⟩), shP bl m] w2 fun e w' => e = .returned (.tuple #[]) ∧ TS B b bl ts w (((bs ++ [40]) ++ M.data.toList) ++ (shoT 0 (ρ m) l).1) (shoT 0 (ρ m) l).2 w') := fun w2 h => hW m _ l w w2 hm hrm (by omega) (by rw [hM]; simp; omega) h
  have H5 : Hid (∀ w2, TS B b bl ts w (((bs ++ [40]) ++ M.data.toList) ++ (shoT 0 (ρ m) l).1) (shoT 0 (ρ m) l).2 w2 → Calls Tryd.prog 57 #[.pointer (some ⟨b, 0, none⟩), .int .u8 41] w2 fun e w' => e = .returned .nilIface ∧ TS B b bl ts w (bs ++ (shoT 0 (ρ j) l).1) (shoT 0 (ρ j) l).2 w') := fun w2 h => by
    have := TS.byte 41 41 rfl h hlt (by rw [hM]; simp; omega)
    have e1 : bs ++ (shoT 0 (ρ j) l).1 = (((bs ++ [40]) ++ M.data.toList) ++ (shoT 0 (ρ m) l).1) ++ [41] := by rw [hsh, hM]; simp
    have e2 : (shoT 0 (ρ j) l).2 = (shoT 0 (ρ m) l).2 := by rw [hsh]
    rw [e1, e2]
    exact this
  have HC : Hid (∀ w2, Shp w2 bl ts → w2.cell? ⟨bl j, 1, none⟩ = some (shP bl m)) := fun w2 h => by
    obtain ⟨_, c1, c2, _⟩ := h.cells hj
    rw [hkid] at c1
    rw [c1]
    rfl
  generalize bs ++ (shoT 0 (ρ j) l).1 = R at *
  generalize (shoT 0 (ρ j) l).2 = L at *
  have HC1 : Hid (Calls _ _ _ _ _) := C1
  clear hsh hln hsz hll hbs hW hlt hkid hfm he C1 hT hmid p1 hM hMs
  go_enter Tryd.func47, Tryd.ntmps47
  go_wp2_with fail
  refine HC1.out.mono ?_
  rintro e w2 ⟨rfl, h2⟩
  go_wp2_with fail
  refine (H2.out w2 h2).mono ?_
  rintro e w3 ⟨rfl, h3⟩
  have c1 := HC.out w3 h3.shp
  clear h2 H2
  go_wp2_with fail
  refine (H3.out w3 h3).mono ?_
  rintro e w5 ⟨rfl, h5⟩
  clear c1 h3 H3
  go_wp2_with fail
  refine (H5.out w5 h5).mono ?_
  rintro e w6 ⟨rfl, h6⟩
  clear h5 H5
  go_wp2
  go_end0
  exact ⟨rfl, h6⟩
end Go.Proofs.YtjjanmccijghgaaDoor
