/-
  ReadDec as it landed, where the library's table of powers of ten and its two errors lie as its text lays them. Conditions: written at each theorem.
-/
import Derived.Test.YtobijbhgpgnfkaaGreatDoorRd
import Derived.Lib.AtoiErrMem
namespace Go.Proofs.YtobijbhgpgnfkaaGreatDoor
open Go.ChangeShapes Go.WideShapes Go.ChangeAt Go.RowKit
set_option linter.unusedVariables false

theorem rd_bad {l : List UInt8} (h : ∀ v, Lib.atoiAll l ≠ .ok v) : IsRd l 0 false :=
  Or.inr ⟨rfl, rfl, fun m h1 h2 he => h m (by rw [he]; exact atoi_itoa m (by omega) (by omega))⟩

theorem rd_far {l : List UInt8} {v : Int} (h : Lib.atoiAll l = .ok v) (hv : v < -999999999 ∨ 999999999 < v) : IsRd l 0 false :=
  Or.inr ⟨rfl, rfl, fun m h1 h2 he => by
    rw [he, atoi_itoa m (by omega) (by omega)] at h
    injection h with h
    omega⟩

theorem rd_other {l : List UInt8} {v : Int} (h : Lib.atoiAll l = .ok v) (hv : Lib.itoa v ≠ l) : IsRd l 0 false :=
  Or.inr ⟨rfl, rfl, fun m h1 h2 he => by
    have h' := h
    rw [he, atoi_itoa m (by omega) (by omega)] at h'
    injection h' with h'
    subst h'
    exact hv he.symm⟩

theorem impl_rd (s : ByteArray) (hs : s.size ≤ 1048576) (w : World) (hp : PowIs w) (ts tr : TypeId) (ps pr : Value)
    (hS : w.var? Tryz.prog "strconv.ErrSyntax" = some #[.iface ts ps]) (hR : w.var? Tryz.prog "strconv.ErrRange" = some #[.iface tr pr]) :
    Calls Tryz.prog 61 #[.string s] w fun e w' => RdEnd s.data.toList e ∧ Below w.heap.size w w' := by
  have hp' : Hid (PowIs w) := hp
  have hS' : Hid (w.var? Tryz.prog "strconv.ErrSyntax" = some #[.iface ts ps]) := hS
  have hR' : Hid (w.var? Tryz.prog "strconv.ErrRange" = some #[.iface tr pr]) := hR
  clear hp hS hR
  by_cases hok : ∃ v, Lib.atoiAll s.data.toList = .ok v
  · obtain ⟨v, hv⟩ := hok
    have HV : Hid (Lib.atoiAll s.data.toList = .ok v) := hv
    clear hv
    go_enter Tryz.func61, Tryz.ntmps61
    go_wp2_with fail
    refine (Tryz.strconv_Atoi_ok s (by omega) v HV.out w).mono ?_
    rintro e w1 ⟨rfl, hw1⟩
    have hb1 : Below w.heap.size w w1 := by
      rcases hw1 with rfl | ⟨t, rfl⟩
      · exact Below.refl _ _
      · exact Lib.bytesWorld_below w 5 t
    clear hw1
    by_cases hfar : v < -999999999 ∨ 999999999 < v
    · have hfin : Hid (IsRd s.data.toList 0 false) := rd_far HV.out hfar
      by_cases h1 : v < -999999999
      · go_wp2
        go_ret2
        exact ⟨rdEnd_mk hfin.out, hb1⟩
      · have h2 : 999999999 < v := by omega
        go_wp2
        go_ret2
        exact ⟨rdEnd_mk hfin.out, hb1⟩
    · have h1 : -999999999 ≤ v := by omega
      have h2 : v ≤ 999999999 := by omega
      clear hfar
      go_wp2_with fail
      refine (impl_dec v (by omega) (by omega) w1 (var_kept gPow hp'.out hb1)).mono ?_
      rintro e w2 ⟨rfl, hb2⟩
      have hb3 := hb1.trans (hb2.mono hb1.size)
      go_wp2
      · have hfin := rd_other HV.out (str_ne (by assumption : (!Lib.itoa v == s.toList) = true))
        go_ret2
        exact ⟨rdEnd_mk hfin, hb3⟩
      · have hfin : IsRd s.data.toList v true := Or.inl ⟨rfl, by omega, by omega, (str_eq (by assumption : (!Lib.itoa v == s.toList) = false)).symm⟩
        go_ret2
        exact ⟨rdEnd_mk hfin, hb3⟩
  · have hno : ∀ v, Lib.atoiAll s.data.toList ≠ .ok v := fun v h => hok ⟨v, h⟩
    have hfin : Hid (IsRd s.data.toList 0 false) := rd_bad hno
    have HNO : Hid (∀ v, Lib.atoiAll s.data.toList ≠ .ok v) := hno
    clear hno hok
    go_enter Tryz.func61, Tryz.ntmps61
    go_wp2_with fail
    refine (Tryz.strconv_Atoi_bad s (by omega) HNO.out ts tr ps pr w hS'.out hR'.out).mono ?_
    rintro e w1 ⟨⟨v, N, rfl⟩, hb1⟩
    go_wp2
    go_ret2
    exact ⟨rdEnd_mk hfin.out, hb1⟩
end Go.Proofs.YtobijbhgpgnfkaaGreatDoor
