/-
  Scopes: the nodes that bind, with their roles: the specification's and as it landed. Conditions: written at each theorem.
-/
import Derived.Test.YtcpafjpjfinbkaaTe
import Derived.Test.YtcpafjpjfinbkaaNt
import Derived.Test.YtcpafjpjfinbkaaBk
namespace Go.Proofs.Ytcpafjpjfinbkaa
open Go.ChangeShapes Go.WideShapes Go.ChangeAt Go.RowKit
set_option linter.unusedVariables false

/-- How many names a kind binds. -/
def rolK (k : Int) : Nat := if k = 1 then 0 else nmN k

theorem rolK_le (k : Int) : rolK k ≤ 2 := by
  unfold rolK nmN
  split
  · omega
  · split
    · omega
    · split <;> omega

/-- What a node binds. -/
def siteL (i : Nat) : Nat → List Bnd
  | 0 => []
  | r + 1 => siteL i r ++ [⟨i, r⟩]

/-- What the first k nodes bind. -/
def siteF (ts : List Nod) : Nat → List Bnd
  | 0 => []
  | k + 1 => siteF ts k ++ siteL k (rolK (ts.getD k noNod).kind)

def sitesB (ts : List Nod) : List Bnd := if nodesB ts = true then siteF ts ts.length else []

theorem siteL_length (i : Nat) : ∀ r, (siteL i r).length = r
  | 0 => rfl
  | r + 1 => by rw [siteL, List.length_append, siteL_length i r]; rfl

theorem siteF_length (ts : List Nod) : ∀ k, (siteF ts k).length ≤ 2 * k
  | 0 => Nat.le_refl _
  | k + 1 => by
    rw [siteF, List.length_append, siteL_length]
    have := siteF_length ts k
    have := rolK_le (ts.getD k noNod).kind
    omega

theorem sitesB_length (ts : List Nod) : (sitesB ts).length ≤ 300 := by
  unfold sitesB
  split
  · rename_i h
    obtain ⟨h1, h2, _⟩ := nodesB_starts h
    have := siteF_length ts ts.length
    omega
  · simp

theorem impl_roles (k : Int) (w : World) : Calls Try.prog 66 #[.int .i64 k] w fun e w' => e = .returned (.int .i64 (rolK k : Nat)) ∧ w' = w := by
  by_cases h : k = 1
  · subst h
    go_enter Try.func66, Try.ntmps66
    go_wp2
    go_ret
    exact ⟨rfl, rfl⟩
  · have HV : Hid (rolK k = nmN k) := by show rolK k = _; rw [rolK, if_neg h]
    go_enter Try.func66, Try.ntmps66
    go_wp2_with fail
    refine (impl_names k w).mono ?_
    rintro e w1 ⟨rfl, rfl⟩
    go_wp2
    go_ret
    exact ⟨by rw [HV.out] <;> rfl, rfl⟩

theorem siteL_one (i : Nat) (r : Nat) : siteL i (r + 1) = siteL i r ++ [⟨i, r⟩] := rfl

set_option maxHeartbeats 2000000 in
set_option maxRecDepth 20000 in
theorem impl_sites (a : Option Addr) (g cap : Nat) (ts : List Nod) (hne : 0 < ts.length → a = some ⟨g, 0, none⟩) (hl : ts.length ≤ 1048576)
    (hst : ∀ i, i < ts.length → (ts.getD i noNod).name.size ≤ maxLen ∧ (ts.getD i noNod).other.size ≤ maxLen) (w : World) (hA : NodAt w g ts) :
    Calls Try.prog 52 #[.slice a ts.length cap] w fun e w' => ∃ v, e = .returned v ∧ ownBnd w' w.heap.size v (sitesB ts) ∧ Below w.heap.size w w' := by
  have HA : Hid (NodAt w g ts) := hA
  have HT : Hid (∀ i, i < ts.length → (ts.getD i noNod).name.size ≤ maxLen ∧ (ts.getD i noNod).other.size ≤ maxLen) := hst
  clear hA hst
  by_cases hok : nodesB ts = true
  · have HB : Hid (sitesB ts = siteF ts ts.length) := by show sitesB ts = _; rw [sitesB, if_pos hok]
    have HO : Hid (nodesB ts = true) := hok
    obtain ⟨hl1, hl2, _⟩ := nodesB_starts hok
    clear hok
    obtain rfl := hne (by omega)
    obtain ⟨i0, hi, hz0, hz1, hz2⟩ := info_parts info_bnd
    go_enter Try.func52, Try.ntmps52
    go_wp2_with fail
    refine (impl_nodes _ g cap ts (fun _ => rfl) hl HT.out w HA.out).mono ?_
    rintro e w1 ⟨rfl, hb1⟩
    rw [HO.out]
    go_wp2
    go_loopw [3, 12] (fun out i wr => ∃ k : Nat, k ≤ ts.length ∧ i = .int .i64 k ∧ Hid (ownBnd wr w.heap.size out (siteF ts k)) ∧ Below w.heap.size w wr) (fun _ i _ => ts.length - (intOf i).toNat)
    case atStart => exact ⟨0, by omega, rfl, ⟨rfl, Or.inl ⟨rfl, rfl⟩⟩, hb1⟩
    case round =>
      obtain ⟨k, hk, rfl, HW, hbel⟩ := hrel
      have hsz := hbel.size
      by_cases hin : k < ts.length
      · have e1 : (k : Int) < ts.length := by omega
        have t := (HA.out.below hbel (fun h => HA.out.lt h)) k hin
        have HN : Hid (siteF ts (k + 1) = siteF ts k ++ siteL k (rolK (ts.getD k noNod).kind)) := rfl
        have HLK : Hid ((siteF ts k).length ≤ 2 * k) := siteF_length ts k
        obtain ⟨⟨x0, x1, x2, x3, x4, x5, x6⟩, hx⟩ : ∃ y, ts.getD k noNod = y := ⟨_, rfl⟩
        rw [hx] at t HN
        generalize siteF ts k = L at *
        have q0 : wr.cell? ⟨g, k * 7, none⟩ = some (.int .i64 x0) := t.c0
        have q1 : wr.cell? ⟨g, k * 7 + 1, none⟩ = some (.int .i64 x1) := t.c1
        have q2 : wr.cell? ⟨g, k * 7 + 2, none⟩ = some (.int .i64 x2) := t.c2
        have q3 : wr.cell? ⟨g, k * 7 + 3, none⟩ = some (.int .i64 x3) := t.c3
        have q4 : wr.cell? ⟨g, k * 7 + 4, none⟩ = some (.int .i64 x4) := t.c4
        have q5 : wr.cell? ⟨g, k * 7 + 5, none⟩ = some (.string x5) := t.c5
        have q6 : wr.cell? ⟨g, k * 7 + 6, none⟩ = some (.string x6) := t.c6
        clear t hx
        go_wp2_with fail
        refine (impl_roles x0 _).mono ?_
        rintro e w2 ⟨rfl, rfl⟩
        have hro := rolK_le x0
        clear q0 q1 q2 q3 q4 q5 q6
        have hbal : Below w.heap.size w (wr.alloc (.cells #[.int .i64 x0, .int .i64 x1, .int .i64 x2, .int .i64 x3, .int .i64 x4, .string x5, .string x6] 52)) := hbel.alloc (by omega) _
        have HW2 : Hid (ownBnd (wr.alloc (.cells #[.int .i64 x0, .int .i64 x1, .int .i64 x2, .int .i64 x3, .int .i64 x4, .string x5, .string x6] 52)) w.heap.size u3 L) := HW.out.alloc _
        generalize wr.alloc (.cells #[.int .i64 x0, .int .i64 x1, .int .i64 x2, .int .i64 x3, .int .i64 x4, .string x5, .string x6] 52) = wa at *
        generalize rolK x0 = ro at *
        clear HW hbel
        go_wp2
        go_loopw [3, 20] (fun out r wq => ∃ q : Nat, q ≤ ro ∧ r = .int .i64 q ∧ Hid (ownBnd wq w.heap.size out (L ++ siteL k q)) ∧ Below w.heap.size w wq) (fun _ r _ => ro - (intOf r).toNat)
        case atStart => exact ⟨0, by omega, rfl, by show ownBnd wa w.heap.size u3 (L ++ []); rw [List.append_nil]; exact HW2.out, hbal⟩
        case round =>
          obtain ⟨q, hq, rfl, HQ, hbq⟩ := hrel
          clear HW2 hbal
          have hsq := hbq.size
          have HLQ : Hid ((L ++ siteL k q).length ≤ 2 * k + 2) := by
            show (L ++ siteL k q).length ≤ _
            rw [List.length_append, siteL_length]
            have := HLK.out
            omega
          by_cases hqi : q < ro
          · have e2 : (q : Int) < ro := by omega
            have HNX : Hid (L ++ siteL k (q + 1) = (L ++ siteL k q) ++ [⟨k, q⟩]) := by show L ++ siteL k (q + 1) = _; rw [siteL_one, List.append_assoc]
            generalize L ++ siteL k q = M at *
            go_wp2_with (at_builtin; refine wpList_append_own _ rfl _ _ 60 rfl w.heap.size 30 i0 _ 2 16 Try.underlying60 hi hz0 hz1 hz2 rfl (by decide) _ _ _ rfl (HQ.out.alloc _) ⟨wr.heap.size, 0, none⟩ 1 1 (bndCells ⟨k, q⟩) rfl rfl ?a0 ?b0 ?c0 ?d0 ?e0 ?_)
            case a0 => exact bnd_new rfl _ _ _
            case b0 => exact bnd_one _
            case c0 => have := HLQ.out; unfold maxLen; omega
            case d0 => have := HLQ.out; omega
            case e0 => simp; omega
            intro v' W3 hown' hgrow _
            have HM : Hid (ownBnd W3 w.heap.size v' (L ++ siteL k (q + 1))) := by
              show ownBnd W3 w.heap.size v' (L ++ siteL k (q + 1))
              rw [HNX.out]
              exact ownBnd_next ⟨k, q⟩ hown' rfl rfl
            have hB3 : Below w.heap.size w W3 := (hbq.alloc (by omega) _).grown hgrow (by simp; omega) (fun q hq => (HQ.out.lt q hq).1)
            clear hown' hgrow HQ hbq
            go_wp2
            go_roundw
            case rel => exact ⟨q + 1, by omega, by go_num, HM, hB3⟩
            case measure => simp [intOf]; omega
          · obtain rfl : q = ro := by omega
            have HM : Hid (ownBnd wr w.heap.size u3 (siteF ts (k + 1))) := by
              show ownBnd wr w.heap.size u3 (siteF ts (k + 1))
              rw [HN.out]
              exact HQ.out
            clear HQ HN
            go_wp2
            go_roundw
            case rel => exact ⟨k + 1, by omega, by go_num, HM, hbq⟩
            case measure => simp [intOf]; omega
      · obtain rfl : k = ts.length := by omega
        go_wp2
        go_ret
        exact ⟨_, rfl, by rw [HB.out]; exact HW.out, hbel⟩
  · have HV : Hid (sitesB ts = []) := by show sitesB ts = []; rw [sitesB, if_neg hok]
    have HO : Hid (nodesB ts = false) := by show nodesB ts = false; simpa using hok
    clear hok
    go_enter Try.func52, Try.ntmps52
    go_wp2_with fail
    refine (impl_nodes _ g cap ts hne hl HT.out w HA.out).mono ?_
    rintro e w1 ⟨rfl, hb1⟩
    rw [HO.out]
    go_wp2
    go_ret
    exact ⟨_, rfl, by rw [HV.out]; exact ⟨rfl, Or.inl ⟨rfl, rfl⟩⟩, hb1⟩

theorem bnd_new2 {w : World} {x0 x1 y0 y1 : Int} {e : TypeId} :
    ∀ j u, (bndCells ⟨x0, x1⟩ ++ bndCells ⟨y0, y1⟩)[j]? = some u → (w.alloc (.cells #[.int .i64 x0, .int .i64 x1, .int .i64 y0, .int .i64 y1] e)).cell? ((⟨w.heap.size, 0, none⟩ : Addr).add j) = some u := by
  intro j u hu
  have h := (MapKept.heap_alloc w (.cells #[.int .i64 x0, .int .i64 x1, .int .i64 y0, .int .i64 y1] e)).1
  have hj : j < 4 := by
    have := (List.getElem?_eq_some_iff.1 hu).1
    simpa [bndCells] using this
  rw [show (⟨w.heap.size, 0, none⟩ : Addr).add j = ⟨w.heap.size, j, none⟩ by simp [Addr.add]; omega, cell_of_row _ _ _ _ _ _ h, ← hu]
  rcases (by omega : j = 0 ∨ j = 1 ∨ j = 2 ∨ j = 3) with rfl | rfl | rfl | rfl <;> rfl

theorem ownBnd_two {w : World} {B : Nat} {v : Value} {ts : List Bnd} {m : Nat} {xs : List Value} (s t : Bnd) (h : w.ownsRow B 30 2 v m xs) (hn : m = ts.length + 2) (hx : xs = ts.flatMap bndCells ++ (bndCells s ++ bndCells t)) : ownBnd w B v (ts ++ [s, t]) := by
  unfold ownBnd
  rw [hn, hx] at h
  have e1 : (ts ++ [s, t]).length = ts.length + 2 := by simp
  have e2 : (ts ++ [s, t]).flatMap bndCells = ts.flatMap bndCells ++ (bndCells s ++ bndCells t) := by simp
  rw [e1, e2]
  exact h

theorem rolK_no {k : Int} (h3 : ¬ k = 3) (h5 : ¬ k = 5) (h19 : ¬ k = 19) (h6 : ¬ k = 6) (h14 : ¬ k = 14) : rolK k = 0 := by
  unfold rolK nmN
  split
  · rfl
  · rename_i h1
    rw [if_neg (by omega), if_neg (by omega)]

end Go.Proofs.Ytcpafjpjfinbkaa
