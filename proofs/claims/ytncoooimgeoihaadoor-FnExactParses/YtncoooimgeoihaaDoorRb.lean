/-
  Reading as it landed: a name is taken. Conditions: written at each theorem.
-/
import Derived.Test.YtncoooimgeoihaaDoorRa
import Derived.Test.YtncoooimgeoihaaDoorIj
namespace Go.Proofs.YtncoooimgeoihaaDoor
open Go.ChangeShapes Go.WideShapes Go.ChangeAt Go.RowKit
set_option linter.unusedVariables false

theorem word_low {s : ByteArray} (h : isWordB s = true) : 0 < s.size ∧ s.size ≤ 8 ∧ lowA (bAt s 0) := by
  have h' := of_decide_eq_true h
  exact ⟨by omega, by omega, h'.2.2 0 (by omega)⟩

theorem no_word {s : ByteArray} (h : ¬ lowA (bAt s 0)) : isWordB s = false := by
  rw [Bool.eq_false_iff]
  intro hw
  exact h (word_low hw).2.2

theorem no_name {s : ByteArray} {t : Tok} (h : TokOk s t) (hk : ¬ t.kind = 3) : isNameB t.text = false := by
  have : isWordB t.text = false := by
    rcases h.1 with ⟨_, e⟩ | ⟨_, e⟩ | ⟨e, _⟩ | ⟨_, _, e⟩
    · rw [e]; exact no_word (by decide)
    · rw [e]; exact no_word (by decide)
    · exact absurd e hk
    · exact no_word (by unfold dig9 at e; omega)
  rw [isNameB, this]
  rfl

/-- A name, as it is taken of a text's tokens. -/
theorem nameE_is {s : ByteArray} {ts : List Tok} {E : Int} {i : Nat} (hi : i < ts.length) (h : TokOk s (ts.getD i noTok)) :
    nameE ts E i = if isNameB (ts.getD i noTok).text = true then .ok (i + 1, (ts.getD i noTok).text) else .error (3, (ts.getD i noTok).place) := by
  unfold nameE takeE
  by_cases hk : (ts.getD i noTok).kind = 3
  · have hw : isWordB (ts.getD i noTok).text = true := by
      rcases h.1 with ⟨e, _⟩ | ⟨e, _⟩ | ⟨_, e⟩ | ⟨e, _⟩
      · omega
      · omega
      · exact e
      · omega
    have hn : isNameB (ts.getD i noTok).text = !isKeyB (ts.getD i noTok).text := by rw [isNameB, hw]; rfl
    rw [if_pos hi, if_pos hk, hn]
    cases hb : isKeyB (ts.getD i noTok).text with
    | true => rw [if_pos ⟨hi, rfl⟩]; rfl
    | false => rw [if_neg (by simp)]; rfl
  · rw [if_pos hi, if_neg hk, no_name h hk]
    simp only [Bool.false_eq_true, if_false]
    by_cases hb : i < ts.length ∧ isKeyB (ts.getD i noTok).text = true
    · rw [if_pos hb]
    · rw [if_neg hb]

/-- What a name that is taken ends with. -/
def NOut (T : World → Prop) (R g fm : Nat) (ts : List Tok) (E : Int) (w : World) (v : Value) (l : List Nod) (r : Except Flt (Nat × ByteArray)) (e : Ending) (w' : World) : Prop := match r with
  | .ok (j, s) => e = .returned (.string s) ∧ RS T R g fm ts E w' j v l ∧ Moved R w w' v v
  | .error (c, q) => e = .panicked [fltV c q] ∧ Below R w w'

theorem rd_name_yes (t : Tok) (hs : t.text.size ≤ 4000) (hn : isNameB t.text = true) (w : World) :
    Calls Tryd.prog 88 #[tokA t] w fun e w' => e = .returned (.string t.text) ∧ Below w.heap.size w w' := by
  obtain ⟨kd, tx, tn, tp⟩ := t
  have HS : Hid (tx.size ≤ 4000) := hs
  have HN : Hid (isNameB tx = true) := hn
  clear hs hn
  go_enter Tryd.func88, Tryd.ntmps88
  go_wp2_with fail
  refine (impl_name tx (by have := HS.out; unfold maxLen; omega) _).mono ?_
  rintro e w1 ⟨rfl, rfl⟩
  rw [HN.out]
  go_wp2
  go_ret
  exact ⟨rfl, (Below.refl _ w).alloc (Nat.le_refl _) _⟩

theorem rd_name_no (t : Tok) (hs : t.text.size ≤ 4000) (hn : isNameB t.text = false) (w : World) :
    Calls Tryd.prog 88 #[tokA t] w fun e w' => e = .panicked [fltV 3 t.place] ∧ Below w.heap.size w w' := by
  obtain ⟨kd, tx, tn, tp⟩ := t
  have HS : Hid (tx.size ≤ 4000) := hs
  have HN : Hid (isNameB tx = false) := hn
  clear hs hn
  go_enter Tryd.func88, Tryd.ntmps88
  go_wp2_with fail
  refine (impl_name tx (by have := HS.out; unfold maxLen; omega) _).mono ?_
  rintro e w1 ⟨rfl, rfl⟩
  rw [HN.out]
  go_wp2
  exact ⟨rfl, rfl, (Below.refl _ w).alloc (Nat.le_refl _) _⟩

theorem rd_name {T : World → Prop} {R g fm : Nat} {ts : List Tok} {E : Int} {w : World} {i : Nat} {v : Value} {l : List Nod} {s : ByteArray} (hT : ∀ a b, T a → Below R a b → T b) (h : RS T R g fm ts E w i v l) (hc : ts.length ≤ 4000) (hs : s.size ≤ 4000) (hk : ∀ i, i < ts.length → TokOk s (ts.getD i noTok)) :
    Calls Tryd.prog 75 #[.pointer (some ⟨R, 0, none⟩)] w fun e w' => NOut T R g fm ts E w v l (nameE ts E i) e w' := by
  have HH : Hid (_) := h
  have HT : Hid (_) := hT
  by_cases hi : i < ts.length
  · have HK := hk i hi
    have hne := nameE_is (E := E) hi HK
    rw [hne]
    have hsz : (ts.getD i noTok).text.size ≤ 4000 := by have := HK.2.2.2; omega
    have HTK : Hid (Calls Tryd.prog 79 #[.pointer (some ⟨R, 0, none⟩)] w fun e w' => e = .returned (tokA (ts.getD i noTok)) ∧ RS T R g fm ts E w' (i + 1) v l ∧ Moved R w w' v v) := rd_take hT h hi hc
    clear HK hne h hT hk
    generalize ts.getD i noTok = t at *
    by_cases hn : isNameB t.text = true
    · have HC : Hid (∀ w, Calls Tryd.prog 88 #[tokA t] w fun e w' => e = .returned (.string t.text) ∧ Below w.heap.size w w') := rd_name_yes t hsz hn
      rw [if_pos hn]
      clear hn
      go_enter Tryd.func75, Tryd.ntmps75
      go_wp2_with fail
      refine HTK.out.mono ?_
      rintro e w1 ⟨rfl, hrs, hmv⟩
      have HRS : Hid (RS T R g fm ts E w1 (i + 1) v l) := hrs
      have HMV : Hid (Moved R w w1 v v) := hmv
      clear hrs hmv HTK
      go_wp2_with fail
      refine (HC.out w1).mono ?_
      rintro e w2 ⟨rfl, hb⟩
      have HB : Hid (Below w1.heap.size w1 w2) := hb
      clear hb
      go_wp2
      go_ret
      exact ⟨rfl, HRS.out.below HT.out HB.out, HMV.out.trans (Moved.of_below HB.out)⟩
    · have HC : Hid (∀ w, Calls Tryd.prog 88 #[tokA t] w fun e w' => e = .panicked [fltV 3 t.place] ∧ Below w.heap.size w w') := rd_name_no t hsz (by simpa using hn)
      rw [if_neg hn]
      clear hn
      go_enter Tryd.func75, Tryd.ntmps75
      go_wp2_with fail
      refine HTK.out.mono ?_
      rintro e w1 ⟨rfl, hrs, hmv⟩
      have HRS : Hid (RS T R g fm ts E w1 (i + 1) v l) := hrs
      have HMV : Hid (Moved R w w1 v v) := hmv
      clear hrs hmv HTK
      go_wp2_with fail
      refine (HC.out w1).mono ?_
      rintro e w2 ⟨rfl, hb⟩
      have HB : Hid (Below w1.heap.size w1 w2) := hb
      clear hb
      go_wp2
      exact ⟨rfl, rfl, (HMV.out.trans (Moved.of_below HB.out)).low HH.out.far HH.out.lt⟩
  · have hne : nameE ts E i = .error (2, E) := by
      unfold nameE takeE
      rw [if_neg (fun h => hi h.1), if_neg hi]
    rw [hne]
    have HTK : Hid (Calls Tryd.prog 79 #[.pointer (some ⟨R, 0, none⟩)] w fun e w' => e = .panicked [fltV 2 E] ∧ Below w.heap.size w w') := rd_take_end h hi
    clear hne h hT hk hi
    go_enter Tryd.func75, Tryd.ntmps75
    go_wp2_with fail
    refine HTK.out.mono ?_
    rintro e w1 ⟨rfl, hb⟩
    have HB : Hid (_) := hb
    clear hb
    go_wp2
    exact ⟨rfl, rfl, HB.out.mono (by have := HH.out.lt; omega)⟩
end Go.Proofs.YtncoooimgeoihaaDoor
