/-
  Hex, Unhex and ReadVar as they landed. Conditions: written at each theorem.
-/
import Derived.Test.YtpjaiehkhbkgiacDoorIa
namespace Go.Proofs.YtpjaiehkhbkgiacDoor
open Go.ChangeShapes Go.WideShapes Go.ChangeAt Go.RowKit
set_option linter.unusedVariables false

theorem rm_made (n : Nat) : madeCells (Value.int .u8 0).cells (n * 1) = (rm [] n).toArray := by
  apply Array.ext
  · simp [madeCells, rm]
  · intro i h1 h2
    have e : i % 1 = 0 := by omega
    simp [madeCells, rm, Value.cells, e]

theorem rm_step2 (L : List Int) (m : Nat) (x y : Int) : splice (rm L (m + 2)) L.length [.int .u8 x, .int .u8 y] = rm (L ++ [x, y]) m := by
  simp [splice, rm, List.drop_append, List.replicate_succ]

/-- Two bytes, laid behind those that the room holds. -/
theorem put_two (g n c B : Nat) (L : List Int) (m : Nat) (x y : Int) (wr w0 : World) (hroom : wr.heap[g]? = some (.cells (rm L (m + 2)).toArray 5 (0, 0)))
    (hfit : L.length + 2 ≤ n) (hn : n ≤ L.length + (m + 2)) (hc : n ≤ c) (hmax : n ≤ maxLen) (hb : Below B w0 wr) (hBg : B ≤ g) (pl : Int) (hk : pl = (L.length : Nat)) :
    Calls Tryd.prog 19 #[.slice (some ⟨g, 0, none⟩) n c, .int .i64 pl, .slice (some ⟨wr.heap.size, 0, none⟩) 2 2] (wr.alloc (.cells #[.int .u8 x, .int .u8 y] 5)).drew fun e w' =>
      e = .returned (.int .i64 (pl + 2)) ∧ w'.heap[g]? = some (.cells (rm (L ++ [x, y]) m).toArray 5 (0, 0)) ∧ Below B w0 w' := by
  subst hk
  have hlt : g < wr.heap.size := (Array.getElem?_eq_some_iff.1 hroom).1
  have hBw : B ≤ wr.heap.size := by omega
  have h := put_any g n c L.length 2 wr.heap.size B (rm L (m + 2)) [.int .u8 x, .int .u8 y] (wr.alloc (.cells #[.int .u8 x, .int .u8 y] 5)).drew w0 (room_alloc hroom _) rfl
    (fun j v hj => by
      show (wr.alloc (.cells #[.int .u8 x, .int .u8 y] 5)).cell? ⟨wr.heap.size, j, none⟩ = some v
      rw [World.cell?_alloc_at _ _ _ _ rfl]
      simpa using hj) (by omega) hfit (by rw [rm_length]; exact hn) hc hmax (by simp [Value.oneCell']) (hb.alloc hBw _).drew hBg
  rw [rm_step2] at h
  exact h

theorem two_new (w : World) (x y : Value) (t : TypeId) : ∀ j u, [x, y][j]? = some u → (w.alloc (.cells #[x, y] t)).drew.cell? ((⟨w.heap.size, 0, none⟩ : Addr).add j) = some u := by
  intro j u hj
  show (w.alloc (.cells #[x, y] t)).cell? ((⟨w.heap.size, 0, none⟩ : Addr).add j) = some u
  match j, hj with
  | 0, hj => simp at hj; subst hj; simp [Addr.add, World.cell?_alloc_at _ _ _ _ rfl]
  | 1, hj => simp at hj; subst hj; simp [Addr.add, World.cell?_alloc_at _ _ _ _ rfl]

theorem ownB_drew {w : World} {base : Nat} {v : Value} {L : List Int} (h : ownB w base v L) : ownB w.drew base v L := h

theorem step_call {P : Program} {ops : Array Oper} {o : Oper} {a : Act} {w : World} {K : Act → World → Prop} {Q : Exit → Act → World → Prop} {E : Prop} (hg : o.guard = none)
    (f : FuncId) (xs : Array Operand) (ts : Array TypeId) (ho : o.op = .call { callee := .value (.func f), args := xs, argTypes := ts }) (vs : Array Value) (hv : xs.map a.eval = vs)
    {fn : Func} (hf : P.funcs[f]? = some fn) (hname : (fn.name == "runtime.NumGoroutine") = false) (hbody : fn.body.isNone = false)
    (S : Ending → World → Prop) (hc : Calls P f vs w S) (h : ∀ e w', S e w' → ∃ v, e = .returned v ∧ K (a.put o.dst v) w') :
    if Region.wanted o (yielded ops a.tmps) = true then Oper.wp P o a w K Q else E := by
  have hw : Region.wanted o (yielded ops a.tmps) = true := by simp [Region.wanted, hg]
  rw [if_pos hw]
  unfold Oper.wp
  have e : (execOp a.eval o).run P w = .ok (.enter f vs) w := by
    have hn : ¬ fn.name = "runtime.NumGoroutine" := by simpa using hname
    have hb : ¬ fn.body = none := fun h => by rw [h] at hbody; simp at hbody
    simp [execOp, ho, resolve, invoke, hv, Act.eval, Deferred.ofValue, callFunc, hf, hn, hb]
  rw [e, Oper.upon_enter]
  refine hc.mono ?_
  intro e w' hs
  obtain ⟨v, rfl, hk⟩ := h e w' hs
  exact hk

theorem step_append_own {P : Program} {ops : Array Oper} {o : Oper} {a : Act} {w : World} {K : Act → World → Prop} {Q : Exit → Act → World → Prop} {E : Prop} (hg : o.guard = none) (s x : Operand) (t : TypeId)
    (ho : o.op = .call { callee := .builtin .append, args := #[s, x], argTypes := #[t, t] })
    (base : Nat) (e : TypeId) (i : TypeInfo) (z : Value) (size bytes : Nat) (ht : P.underlying t = some (.slice e)) (hi : P.info? e = some i) (hz : i.zero = some z)
    (hsize : i.size = size) (hby : i.bytes = bytes) (hzs : z.cells.size = size) (hsz : 0 < size)
    (v : Value) (n : Nat) (xs : List Value) (hs : a.eval s = v) (hown : w.ownsRow base e size v n xs)
    (ad : Addr) (m c : Nat) (news : List Value) (hx : a.eval x = .slice (some ad) m c) (hl : news.length = m * size) (hnews : ∀ j u, news[j]? = some u → w.cell? (ad.add j) = some u) (h1 : ∀ u ∈ news, u.oneCell' = true)
    (h63 : n + m ≤ maxLen) (hbytes : (n + m) * bytes ≤ 140737488355328) (hbase : base ≤ w.heap.size)
    (h : ∀ v' w', w'.ownsRow base e size v' (n + m) (xs ++ news) → w.grownBy w' v.ownBlock → (v' = .slice none 0 0 ↔ v = .slice none 0 0 ∧ m = 0) → K (a.put o.dst v') w') :
    if Region.wanted o (yielded ops a.tmps) = true then Oper.wp P o a w K Q else E := by
  have hw : Region.wanted o (yielded ops a.tmps) = true := by simp [Region.wanted, hg]
  rw [if_pos hw]
  exact wp_append_own w s x t ho base e i z size bytes ht hi hz hsize hby hzs hsz v n xs hs hown ad m c news hx hl hnews h1 h63 hbytes hbase h

def hexd (k : Nat) : Nat := if k < 10 then 48 + k else 87 + k

theorem hex_at : ∀ k : Nat, ∀ h : k < (ByteArray.mk #[48, 49, 50, 51, 52, 53, 54, 55, 56, 57, 97, 98, 99, 100, 101, 102]).size, ((ByteArray.mk #[48, 49, 50, 51, 52, 53, 54, 55, 56, 57, 97, 98, 99, 100, 101, 102])[k]'h).toNat = hexd k := by
  decide

theorem wrapI (n : Int) (h : -9223372036854775808 ≤ n ∧ n ≤ 9223372036854775807) : IntKind.i64.wrap n = n := by rw [IntKind.wrap_i64]; omega

/-- The digits of the first k bytes. -/
def hx (s : ByteArray) : Nat → List Int
  | 0 => []
  | k + 1 => hx s k ++ [(hexd (byteAt s k / 16) : Int), (hexd (byteAt s k % 16) : Int)]

theorem hx_length (s : ByteArray) : ∀ k, (hx s k).length = 2 * k
  | 0 => rfl
  | k + 1 => by simp [hx, hx_length s k]; omega

theorem name19 : (Tryd.f19.name == "runtime.NumGoroutine") = false := by kernel_rfl

theorem body19 : Tryd.f19.body.isNone = false := by kernel_rfl

theorem impl_hex (s : ByteArray) (hs : s.size ≤ 1048576) (w : World) :
    Calls Tryd.prog 14 #[.string s] w fun e w' => e = .returned (.string (strOfNums (hx s s.size))) ∧ Below w.heap.size w w' := by
  obtain ⟨i0, hi, hz0, hz1, hz2⟩ := info_parts Tryd.info5
  have hmk := run_make (P := Tryd.prog) w 22 5 i0 (.int .u8 0) Tryd.underlying22 hi hz0 .i64 .i64 (2 * (s.size : Int)) (2 * (s.size : Int)) (by omega) (by omega) (by rw [hz2]; omega) (by omega)
  rw [hz1] at hmk
  have ez : (2 * (s.size : Int)).toNat = 2 * s.size := by omega
  rw [ez, rm_made] at hmk
  clear hi hz0 hz1 hz2 ez
  go_enter Tryd.func14, Tryd.ntmps14
  go_wp2
  go_loopw [4, 5] (fun a i wr => ∃ k : Nat, k ≤ s.size ∧ i = .int .i64 k ∧ a = .int .i64 (2 * k : Nat) ∧ Hid (wr.heap[w.heap.size]? = some (.cells (rm (hx s k) (2 * (s.size - k))).toArray 5 (0, 0))) ∧ Below w.heap.size w wr) (fun _ i _ => s.size - (intOf i).toNat)
  case atStart =>
    refine ⟨0, by omega, rfl, rfl, ?_, (Below.refl _ _).alloc (Nat.le_refl _) _⟩
    exact (MapKept.heap_alloc w _).1
  case round =>
    obtain ⟨k, hk, rfl, rfl, hroom, hbel⟩ := hrel
    clear hmk
    have hl := hx_length s k
    by_cases hks : k = s.size
    · have hc := rm_conv (hx s k) (2 * (s.size - k)) (2 * s.size) wr w.heap.size hroom.out
      subst hks
      rw [hl] at hc
      clear hl
      go_wp2
      go_ret
      exact ⟨rfl, hbel⟩
    · have hlt : k < s.size := by omega
      obtain ⟨b, hb, hb2⟩ : ∃ b : Nat, s[k].toNat = b ∧ b = byteAt s k := ⟨_, rfl, (byteAt_in hlt).symm⟩
      have hbl : b < 256 := by rw [hb2]; exact byteAt_lt s k
      have HB : Hid (b = byteAt s k) := hb2
      have HL : Hid ((hx s k).length = 2 * k) := hl
      clear hb2 hl
      have e1 : bits .and .u8 (b : Int) 15 = (b : Int) % 16 := by
        rw [u8_and _ _ (by omega) (by omega) (by omega) (by omega)]
        simp [nat_mask4]
      have p1 : 0 ≤ (b : Int) / 16 := by omega
      have p2 : (b : Int) / 16 < 16 := by omega
      have p3 : 0 ≤ (b : Int) % 16 := by omega
      have p4 : (b : Int) % 16 < 16 := by omega
      have p5 : ((b : Int) / 16).toNat = b / 16 := by omega
      have p6 : ((b : Int) % 16).toNat = b % 16 := by omega
      have d1 := hex_at (b / 16) (by show b / 16 < 16; omega)
      have d2 := hex_at (b % 16) (by show b % 16 < 16; omega)
      have hroom2 : Hid (wr.heap[w.heap.size]? = some (.cells (rm (hx s k) (2 * (s.size - (k + 1)) + 2)).toArray 5 (0, 0))) := by
        rw [show 2 * (s.size - (k + 1)) + 2 = 2 * (s.size - k) by omega]; exact hroom
      clear hroom
      go_wp2
      go_region_law (refine step_call rfl 19 #[.tmp 16, .tmp 17, .tmp 28] #[22, 3, 22] rfl #[.slice (some ⟨w.heap.size, 0, none⟩) (2 * s.size) (2 * s.size), .int .i64 (2 * (k : Int)), .slice (some ⟨wr.heap.size, 0, none⟩) 2 2] (by simp [Act.eval]) Tryd.func19 name19 body19 _ (put_two w.heap.size (2 * s.size) (2 * s.size) w.heap.size (hx s k) (2 * (s.size - (k + 1))) (hexd (b / 16) : Nat) (hexd (b % 16) : Nat) wr w hroom2.out (by rw [HL.out]; omega) (by rw [HL.out]; omega) (Nat.le_refl _) (by unfold maxLen; omega) hbel (Nat.le_refl _) (2 * (k : Int)) (by rw [HL.out]; omega)) ?_; rintro e w1 ⟨rfl, hr1, hb1⟩; refine ⟨_, rfl, ?_⟩)
      all_goals
        have hr2 : Hid (w1.heap[w.heap.size]? = some (.cells (rm (hx s (k + 1)) (2 * (s.size - (k + 1)))).toArray 5 (0, 0))) := by
          simp only [hx, ← HB.out]
          exact hr1
        clear hr1 hroom2 hbel HB HL
        go_wp2
        go_roundw
        case rel => exact ⟨k + 1, by omega, by go_num, by go_num, hr2, hb1⟩
        case measure => simp [intOf]; omega

/-- What a digit stands for; -1 where it is none. -/
def fh (b : Nat) : Int := if 48 ≤ b ∧ b ≤ 57 then (b : Int) - 48 else if 97 ≤ b ∧ b ≤ 102 then (b : Int) - 87 else -1

theorem fh_yes (k b : Nat) (hk : k < 16) (h : hexd k = b) : fh b = k := by
  subst h
  unfold hexd fh
  split <;> (repeat' split) <;> omega

theorem fh_range (b : Nat) : -1 ≤ fh b ∧ fh b ≤ 15 := by
  unfold fh
  (repeat' split) <;> omega

theorem hexd_lt (k : Nat) (h : k < 16) : hexd k < 256 := by unfold hexd; split <;> omega

theorem impl_fh (b : Nat) (hb : b < 256) (w : World) :
    Calls Tryd.prog 22 #[.int .u8 b] w fun e w' => e = .returned (.int .i64 (fh b)) ∧ w = w' := by
  by_cases h1 : (48 : Int) ≤ b ∧ (b : Int) ≤ 57
  · obtain ⟨h2, h3⟩ := h1
    have e : fh b = (b : Int) - 48 := by unfold fh; rw [if_pos (by omega)]
    rw [e]
    go_enter Tryd.func22, Tryd.ntmps22
    go_wp2
    go_ret
    exact ⟨rfl, rfl⟩
  · by_cases h4 : (97 : Int) ≤ b ∧ (b : Int) ≤ 102
    · obtain ⟨h2, h3⟩ := h4
      have e : fh b = (b : Int) - 87 := by unfold fh; rw [if_neg (by omega), if_pos (by omega)]
      rw [e]
      have h5 : ¬ ((b : Int) ≤ 57) := by omega
      go_enter Tryd.func22, Tryd.ntmps22
      go_wp2
      go_ret
      exact ⟨by simp; omega, rfl⟩
    · have e : fh b = -1 := by unfold fh; rw [if_neg (by omega), if_neg (by omega)]
      rw [e]
      go_enter Tryd.func22, Tryd.ntmps22
      go_wp2
      all_goals go_ret
      all_goals exact ⟨rfl, rfl⟩

/-- The bytes of the first k pairs of digits; none where one of them is no digit. -/
def uh (s : ByteArray) : Nat → Option (List Int)
  | 0 => some []
  | k + 1 => match uh s k with
    | none => none
    | some L => if fh (byteAt s (2 * k)) < 0 ∨ fh (byteAt s (2 * k + 1)) < 0 then none else some (L ++ [16 * fh (byteAt s (2 * k)) + fh (byteAt s (2 * k + 1))])

theorem uh_bad {s : ByteArray} {k : Nat} {L : List Int} (h : uh s k = some L) (hb : fh (byteAt s (2 * k)) < 0 ∨ fh (byteAt s (2 * k + 1)) < 0) : uh s (k + 1) = none := by
  simp only [uh, h]; rw [if_pos hb]

theorem uh_good {s : ByteArray} {k : Nat} {L : List Int} (h : uh s k = some L) (hb : ¬ (fh (byteAt s (2 * k)) < 0 ∨ fh (byteAt s (2 * k + 1)) < 0)) :
    uh s (k + 1) = some (L ++ [16 * fh (byteAt s (2 * k)) + fh (byteAt s (2 * k + 1))]) := by
  simp only [uh, h]; rw [if_neg hb]

theorem uh_none {s : ByteArray} {k : Nat} (h : uh s k = none) : ∀ d, uh s (k + d) = none
  | 0 => h
  | d + 1 => by
    have := uh_none h d
    rw [← Nat.add_assoc]
    simp only [uh, this]

theorem uh_length {s : ByteArray} : ∀ {k : Nat} {L : List Int}, uh s k = some L → L.length = k
  | 0, L, h => by simp [uh] at h; subst h; rfl
  | k + 1, L, h => by
    cases hk : uh s k with
    | none => simp only [uh, hk] at h; cases h
    | some M =>
      have := uh_length hk
      simp only [uh, hk] at h
      split at h
      · cases h
      · simp at h; subst h; simp [this]

def uhText (s : ByteArray) : ByteArray := match uh s (s.size / 2) with
  | none => ByteArray.empty
  | some L => strOfNums L

def uhOk (s : ByteArray) : Bool := (uh s (s.size / 2)).isSome

theorem uh_end {s : ByteArray} {L : List Int} (h : uh s (s.size / 2) = some L) : uhText s = strOfNums L ∧ uhOk s = true := by
  simp [uhText, uhOk, h]

theorem uh_fail {s : ByteArray} {k : Nat} (h : uh s k = none) (hk : k ≤ s.size / 2) : uhText s = ByteArray.empty ∧ uhOk s = false := by
  have := uh_none h (s.size / 2 - k)
  rw [show k + (s.size / 2 - k) = s.size / 2 by omega] at this
  simp [uhText, uhOk, this]

theorem impl_unhex_odd (s : ByteArray) (hs : s.size ≤ 1048576) (ho : (s.size : Int) % 2 = 1) (w : World) :
    Calls Tryd.prog 13 #[.string s] w fun e w' => e = .returned (.tuple #[.string ByteArray.empty, .bool false]) ∧ Below w.heap.size w w' := by
  go_enter Tryd.func13, Tryd.ntmps13
  go_wp2
  go_ret2
  exact ⟨rfl, Below.refl _ _⟩

theorem name22 : (Tryd.f22.name == "runtime.NumGoroutine") = false := by kernel_rfl

theorem body22 : Tryd.f22.body.isNone = false := by kernel_rfl

theorem or16 (x y : Int) (hx : 0 ≤ x) (hx2 : x ≤ 15) (hy : 0 ≤ y) (hy2 : y ≤ 15) : bits .or .i64 (x * 16) y = 16 * x + y := by
  obtain ⟨X, rfl⟩ := Int.eq_ofNat_of_zero_le hx
  obtain ⟨Y, rfl⟩ := Int.eq_ofNat_of_zero_le hy
  have h := or_join 4 (X * 16) Y (by omega) (by omega) (by omega)
  have e : ((X : Int) * 16) = ((X * 16 : Nat) : Int) := by omega
  rw [e, h]
  omega

theorem put_one_drew (g n c B : Nat) (L : List Int) (m : Nat) (x : Int) (wr w0 : World) (hroom : wr.heap[g]? = some (.cells (rm L (m + 1)).toArray 5 (0, 0)))
    (hfit : L.length + 1 ≤ n) (hn : n ≤ L.length + (m + 1)) (hc : n ≤ c) (hmax : n ≤ maxLen) (hb : Below B w0 wr) (hBg : B ≤ g) (k : Nat) (hk : L.length = k) :
    Calls Tryd.prog 19 #[.slice (some ⟨g, 0, none⟩) n c, .int .i64 (k : Nat), .slice (some ⟨wr.heap.size, 0, none⟩) 1 1] (wr.alloc (.cells #[.int .u8 x] 5)).drew fun e w' =>
      e = .returned (.int .i64 (k + 1 : Nat)) ∧ w'.heap[g]? = some (.cells (rm (L ++ [x]) m).toArray 5 (0, 0)) ∧ Below B w0 w' := by
  subst hk
  exact put_one g n c B L m x wr.drew w0 hroom hfit hn hc hmax hb.drew hBg

set_option maxRecDepth 20000 in
theorem impl_unhex (s : ByteArray) (hs : s.size ≤ 1048576) (ho : (s.size : Int) % 2 = 0) (w : World) :
    Calls Tryd.prog 13 #[.string s] w fun e w' => e = .returned (.tuple #[.string (uhText s), .bool (uhOk s)]) ∧ Below w.heap.size w w' := by
  obtain ⟨i0, hi, hz0, hz1, hz2⟩ := info_parts Tryd.info5
  have hmk := run_make (P := Tryd.prog) w 22 5 i0 (.int .u8 0) Tryd.underlying22 hi hz0 .i64 .i64 ((s.size : Int) / 2) ((s.size : Int) / 2) (by omega) (by omega) (by rw [hz2]; omega) (by omega)
  rw [hz1] at hmk
  have ez : ((s.size : Int) / 2).toNat = s.size / 2 := by omega
  rw [ez, rm_made] at hmk
  clear hi hz0 hz1 hz2 ez
  go_enter Tryd.func13, Tryd.ntmps13
  go_wp2
  have he : s.size % 2 < 1 := by omega
  clear ho
  go_loopw [5, 6] (fun a i wr => ∃ (k : Nat) (L : List Int), 2 * k ≤ s.size ∧ i = .int .i64 (2 * k : Nat) ∧ a = .int .i64 (k : Nat) ∧ Hid (uh s k = some L) ∧ Hid (wr.heap[w.heap.size]? = some (.cells (rm L (s.size / 2 - k)).toArray 5 (0, 0))) ∧ Below w.heap.size w wr) (fun _ i _ => s.size - (intOf i).toNat)
  case atStart =>
    refine ⟨0, [], by omega, rfl, rfl, rfl, ?_, (Below.refl _ _).alloc (Nat.le_refl _) _⟩
    exact (MapKept.heap_alloc w _).1
  case round =>
    obtain ⟨k, L, hk, rfl, rfl, hu, hroom, hbel⟩ := hrel
    clear hmk
    have hL : L.length = k := uh_length hu.out
    by_cases hks : 2 * k = s.size
    · have hk2 : s.size / 2 = k := by omega
      have hc := rm_conv L (s.size / 2 - k) (s.size / 2) wr w.heap.size hroom.out
      rw [hL] at hc
      have hc2 := hc
      rw [hk2] at hc2
      have E : Hid (uhText s = strOfNums L ∧ uhOk s = true) := uh_end (by rw [hk2]; exact hu)
      clear hroom hL hc
      go_wp2
      rw [E.out.1, E.out.2]
      go_ret2
      exact ⟨rfl, hbel⟩
    · have hlt : 2 * k + 1 < s.size := by omega
      have h0 : 2 * k < s.size := by omega
      obtain ⟨b, hb, hb2⟩ : ∃ b : Nat, s[2 * k].toNat = b ∧ b = byteAt s (2 * k) := ⟨_, rfl, (byteAt_in h0).symm⟩
      obtain ⟨c, hc, hc2⟩ : ∃ c : Nat, s[2 * k + 1].toNat = c ∧ c = byteAt s (2 * k + 1) := ⟨_, rfl, (byteAt_in hlt).symm⟩
      have hbl : b < 256 := by rw [hb2]; exact byteAt_lt s _
      have hcl : c < 256 := by rw [hc2]; exact byteAt_lt s _
      have HB : Hid (b = byteAt s (2 * k)) := hb2
      have HC : Hid (c = byteAt s (2 * k + 1)) := hc2
      clear hb2 hc2
      have rb := fh_range b
      have rc := fh_range c
      have e1 : IntKind.i64.wrap (2 * (k : Int) + 1) = 2 * (k : Int) + 1 := wrapI _ (by omega)
      have e2 : (2 * (k : Int) + 1).toNat = 2 * k + 1 := by omega
      have e3 : (2 * (k : Int)).toNat = 2 * k := by omega
      have p1 : 0 ≤ 2 * (k : Int) := by omega
      have p2 : 2 * (k : Int) < s.size := by omega
      have p3 : 0 ≤ 2 * (k : Int) + 1 := by omega
      have p4 : 2 * (k : Int) + 1 < s.size := by omega
      go_wp2
      go_region_law (first | (refine step_call rfl 22 #[.tmp 25] #[5] rfl #[.int .u8 (b : Int)] (by simp [Act.eval]) Tryd.func22 name22 body22 _ (impl_fh b hbl _) ?_; rintro e w' ⟨rfl, rfl⟩; refine ⟨_, rfl, ?_⟩) | (refine step_call rfl 22 #[.tmp 30] #[5] rfl #[.int .u8 (c : Int)] (by simp [Act.eval]) Tryd.func22 name22 body22 _ (impl_fh c hcl _) ?_; rintro e w' ⟨rfl, rfl⟩; refine ⟨_, rfl, ?_⟩))
      all_goals
        by_cases hbad : fh b < 0 ∨ fh c < 0
        · have E : Hid (uhText s = ByteArray.empty ∧ uhOk s = false) := uh_fail (uh_bad hu.out (by rw [← HB.out, ← HC.out]; exact hbad)) (by omega)
          by_cases h1 : fh b < 0
          · go_wp2
            rw [E.out.1, E.out.2]
            go_ret2
            exact ⟨rfl, hbel.drew⟩
          · have h2 : fh c < 0 := by omega
            go_wp2
            rw [E.out.1, E.out.2]
            go_ret2
            exact ⟨rfl, hbel.drew⟩
        · have h1 : 0 ≤ fh b := by omega
          have h2 : 0 ≤ fh c := by omega
          have h3 : fh b ≤ 15 := rb.2
          have h4 : fh c ≤ 15 := rc.2
          have E : Hid (uh s (k + 1) = some (L ++ [16 * fh b + fh c])) := by
            have := uh_good hu.out (by rw [← HB.out, ← HC.out]; exact hbad)
            rw [← HB.out, ← HC.out] at this
            exact this
          have eo := or16 (fh b) (fh c) h1 h3 h2 h4
          have hroom2 : Hid (wr.heap[w.heap.size]? = some (.cells (rm L (s.size / 2 - (k + 1) + 1)).toArray 5 (0, 0))) := by
            rw [show s.size / 2 - (k + 1) + 1 = s.size / 2 - k by omega]; exact hroom
          have HL : Hid (L.length = k) := hL
          clear hbad hroom hL
          go_wp2_with fail
          refine (put_one_drew w.heap.size (s.size / 2) (s.size / 2) w.heap.size L (s.size / 2 - (k + 1)) (16 * fh b + fh c) wr w hroom2.out (by rw [HL.out]; omega) (by rw [HL.out]; omega) (Nat.le_refl _) (by unfold maxLen; omega) hbel (Nat.le_refl _) k HL.out).mono ?_
          rintro e w1 ⟨rfl, hr1, hb1⟩
          have hr2 : Hid (w1.heap[w.heap.size]? = some (.cells (rm (L ++ [16 * fh b + fh c]) (s.size / 2 - (k + 1))).toArray 5 (0, 0))) := hr1
          clear hr1 hroom2 hbel HB HC HL hu eo
          go_wp2
          go_roundw
          case rel => exact ⟨k + 1, L ++ [16 * fh b + fh c], by omega, by go_num, by go_num, E, hr2, hb1⟩
          case measure => simp [intOf]; omega

theorem vr_nonlast : ∀ (n i : Nat), i + 1 < (vr n).length → 128 ≤ (vr n).getD i 0 := by
  intro n
  induction n using Nat.strongRecOn with
  | ind n ih =>
    intro i hi
    by_cases h : n < 128
    · rw [vr_small h] at hi; simp at hi
    · rw [vr_big h] at hi ⊢
      cases i with
      | zero => simp; omega
      | succ i =>
        simp only [List.getD_cons_succ]
        exact ih (n / 128) (by omega) i (by simpa using hi)

theorem vr_last : ∀ (n : Nat), (vr n).getD ((vr n).length - 1) 0 < 128 ∧ (0 < n → 0 < (vr n).getD ((vr n).length - 1) 0) := by
  intro n
  induction n using Nat.strongRecOn with
  | ind n ih =>
    by_cases h : n < 128
    · rw [vr_small h]; simp; omega
    · rw [vr_big h]
      have hp := vr_pos (n / 128)
      obtain ⟨m, hm⟩ : ∃ m, (vr (n / 128)).length = m + 1 := ⟨(vr (n / 128)).length - 1, by omega⟩
      have := ih (n / 128) (by omega)
      rw [hm] at this
      simp only [List.length_cons, hm, Nat.add_sub_cancel, List.getD_cons_succ] at this ⊢
      exact ⟨this.1, fun _ => this.2 (by omega)⟩

theorem vr_one (n : Nat) (h : 1 < (vr n).length) : 128 ≤ n := by
  by_cases hs : n < 128
  · rw [vr_small hs] at h; simp at h
  · omega

/-- The m bytes from j on. -/
def bs (s : ByteArray) : Nat → Nat → List Int
  | _, 0 => []
  | j, m + 1 => (byteAt s j : Int) :: bs s (j + 1) m

/-- What they say: seven bits a byte, the least first. -/
def val (s : ByteArray) : Nat → Nat → Nat
  | _, 0 => 0
  | j, m + 1 => byteAt s j % 128 + 128 * val s (j + 1) m

theorem bs_length (s : ByteArray) : ∀ j m, (bs s j m).length = m
  | _, 0 => rfl
  | j, m + 1 => by simp [bs, bs_length s (j + 1) m]

theorem bs_get (s : ByteArray) : ∀ j m i, i < m → (bs s j m).getD i 0 = (byteAt s (j + i) : Int)
  | j, m + 1, 0, _ => by simp [bs]
  | j, m + 1, i + 1, h => by
    simp only [bs, List.getD_cons_succ]
    rw [bs_get s (j + 1) m i (by omega), show j + 1 + i = j + (i + 1) by omega]

theorem val_lt (s : ByteArray) : ∀ j m, val s j m < 128 ^ m
  | _, 0 => by simp [val]
  | j, m + 1 => by
    have := val_lt s (j + 1) m
    simp only [val, Nat.pow_succ]
    have h2 : byteAt s j % 128 < 128 := Nat.mod_lt _ (by omega)
    omega

theorem val_snoc (s : ByteArray) : ∀ j m, val s j (m + 1) = val s j m + byteAt s (j + m) % 128 * 128 ^ m
  | j, 0 => by simp [val]
  | j, m + 1 => by
    rw [val, val_snoc s (j + 1) m]
    simp only [val, Nat.pow_succ]
    rw [show j + 1 + m = j + (m + 1) by omega]
    generalize byteAt s (j + (m + 1)) % 128 = x
    generalize val s (j + 1) m = y
    generalize 128 ^ m = z
    rw [Nat.mul_add, Nat.add_assoc, Nat.mul_comm 128 (x * z), Nat.mul_assoc]

/-- The first k bytes are the Var of a number. -/
def goodAt (s : ByteArray) (k : Nat) : Prop := (∀ i, i + 1 < k → 128 ≤ byteAt s i) ∧ byteAt s (k - 1) < 128 ∧ (k = 1 ∨ byteAt s (k - 1) ≠ 0)

theorem good_vr (s : ByteArray) : ∀ (m j : Nat), (∀ i, i < m → 128 ≤ byteAt s (j + i)) → byteAt s (j + m) < 128 → byteAt s (j + m) ≠ 0 → vr (val s j (m + 1)) = bs s j (m + 1) ∧ 0 < val s j (m + 1)
  | 0, j, _, h1, h2 => by
    have e : val s j 1 = byteAt s j := by simp only [val]; simp at h1; omega
    rw [e]
    simp only [Nat.add_zero] at h1 h2
    exact ⟨by rw [vr_small h1]; simp [bs], by omega⟩
  | m + 1, j, h, h1, h2 => by
    have ih := good_vr s m (j + 1) (fun i hi => by rw [show j + 1 + i = j + (i + 1) by omega]; exact h _ (by omega)) (by rw [show j + 1 + m = j + (m + 1) by omega]; exact h1) (by rw [show j + 1 + m = j + (m + 1) by omega]; exact h2)
    have hb := h 0 (by omega)
    have hl := byteAt_lt s j
    simp only [Nat.add_zero] at hb
    have e : val s j (m + 1 + 1) = byteAt s j % 128 + 128 * val s (j + 1) (m + 1) := rfl
    have hbig : ¬ val s j (m + 1 + 1) < 128 := by rw [e]; omega
    refine ⟨?_, by omega⟩
    rw [vr_big hbig, e]
    have e1 : (byteAt s j % 128 + 128 * val s (j + 1) (m + 1)) / 128 = val s (j + 1) (m + 1) := by omega
    have e2 : 128 + (byteAt s j % 128 + 128 * val s (j + 1) (m + 1)) % 128 = byteAt s j := by omega
    rw [e1, e2, ih.1]
    rfl

theorem vr_iff (s : ByteArray) (k : Nat) (hk : 1 ≤ k) : vr (val s 0 k) = bs s 0 k ↔ goodAt s k := by
  obtain ⟨m, rfl⟩ : ∃ m, k = m + 1 := ⟨k - 1, by omega⟩
  constructor
  · intro h
    have hl : (vr (val s 0 (m + 1))).length = m + 1 := by rw [h, bs_length]
    refine ⟨fun i hi => ?_, ?_, ?_⟩
    · have := vr_nonlast (val s 0 (m + 1)) i (by rw [hl]; omega)
      rw [h, bs_get _ _ _ _ (by omega)] at this
      simp at this
      omega
    · have := (vr_last (val s 0 (m + 1))).1
      rw [hl, h, bs_get _ _ _ _ (by omega)] at this
      simp at this ⊢
      omega
    · by_cases hm : m = 0
      · left; omega
      · right
        have h1 := vr_one (val s 0 (m + 1)) (by rw [hl]; omega)
        have := (vr_last (val s 0 (m + 1))).2 (by omega)
        rw [hl, h, bs_get _ _ _ _ (by omega)] at this
        simp at this ⊢
        omega
  · rintro ⟨h1, h2, h3⟩
    by_cases hz : byteAt s m = 0
    · have hm : m = 0 := by
        rcases h3 with h | h
        · omega
        · exact absurd hz (by simpa using h)
      subst hm
      simp [val, bs, hz, vr_small]
    · exact (good_vr s m 0 (fun i hi => by simpa using h1 i (by omega)) (by simpa using h2) (by simpa using hz)).1

theorem good_one {s : ByteArray} {k k' : Nat} (h : goodAt s k) (h' : goodAt s k') (hk : 1 ≤ k) (hk' : 1 ≤ k') : k = k' := by
  rcases Nat.lt_trichotomy k k' with hl | he | hl
  · have := h'.1 (k - 1) (by omega)
    have := h.2.1
    omega
  · exact he
  · have := h.1 (k' - 1) (by omega)
    have := h'.2.1
    omega

/-- What ReadVar answers. -/
def IsRv (s : ByteArray) (n k : Nat) : Prop := (n = 0 ∧ k = 0 ∧ ∀ j, 1 ≤ j → j ≤ 7 → j ≤ s.size → ¬ goodAt s j) ∨ (1 ≤ k ∧ k ≤ 7 ∧ k ≤ s.size ∧ goodAt s k ∧ n = val s 0 k)

theorem isRv_one {s : ByteArray} {n k n' k' : Nat} (h : IsRv s n k) (h' : IsRv s n' k') : n = n' ∧ k = k' := by
  rcases h with ⟨rfl, rfl, h⟩ | ⟨h1, h7, hl, hg, rfl⟩ <;> rcases h' with ⟨rfl, rfl, h'⟩ | ⟨h1', h7', hl', hg', rfl⟩
  · exact ⟨rfl, rfl⟩
  · exact absurd hg' (h _ h1' h7' hl')
  · exact absurd hg (h' _ h1 h7 hl)
  · have := good_one hg hg' h1 h1'
    subst this
    exact ⟨rfl, rfl⟩

theorem val_lt49 (s : ByteArray) (j m : Nat) (h : m ≤ 7) : val s j m ≤ 562949953421311 := by
  have h1 := val_lt s j m
  have h2 : 128 ^ m ≤ 128 ^ 7 := Nat.pow_le_pow_right (by omega) h
  omega

theorem val_lt42 (s : ByteArray) (j m : Nat) (h : m ≤ 6) : val s j m < 4398046511104 := by
  have h1 := val_lt s j m
  have h2 : 128 ^ m ≤ 128 ^ 6 := Nat.pow_le_pow_right (by omega) h
  omega

def u8 (n : Int) : UInt8 := UInt8.ofNat n.toNat

theorem u8_inj {a b : Int} (ha : 0 ≤ a ∧ a < 256) (hb : 0 ≤ b ∧ b < 256) (h : u8 a = u8 b) : a = b := by
  have := congrArg UInt8.toNat h
  simp only [u8, UInt8.toNat_ofNat'] at this
  omega

theorem map_inj : ∀ (L M : List Int), (∀ x ∈ L, 0 ≤ x ∧ x < 256) → (∀ x ∈ M, 0 ≤ x ∧ x < 256) → L.map u8 = M.map u8 → L = M
  | [], [], _, _, _ => rfl
  | [], _ :: _, _, _, h => by simp at h
  | _ :: _, [], _, _, h => by simp at h
  | a :: L, b :: M, hL, hM, h => by
    simp only [List.map_cons, List.cons.injEq] at h
    rw [u8_inj (hL a (by simp)) (hM b (by simp)) h.1, map_inj L M (fun x hx => hL x (by simp [hx])) (fun x hx => hM x (by simp [hx])) h.2]

theorem vr_bytes : ∀ (n : Nat), ∀ x ∈ vr n, 0 ≤ x ∧ x < 256 := by
  intro n
  induction n using Nat.strongRecOn with
  | ind n ih =>
    by_cases h : n < 128
    · rw [vr_small h]; simp; omega
    · rw [vr_big h]
      intro x hx
      simp only [List.mem_cons] at hx
      rcases hx with rfl | hx
      · omega
      · exact ih (n / 128) (by omega) x hx

theorem bs_bytes (s : ByteArray) : ∀ j m, ∀ x ∈ bs s j m, 0 ≤ x ∧ x < 256
  | _, 0, x, hx => by simp [bs] at hx
  | j, m + 1, x, hx => by
    simp only [bs, List.mem_cons] at hx
    rcases hx with rfl | hx
    · have := byteAt_lt s j; omega
    · exact bs_bytes s (j + 1) m x hx

theorem bs_take (s : ByteArray) : ∀ (m j : Nat), j + m ≤ s.size → (bs s j m).map u8 = (s.data.toList.drop j).take m
  | 0, j, _ => by simp [bs]
  | m + 1, j, h => by
    have hj : j < s.data.toList.length := by simp only [Array.length_toList]; show j < s.size; omega
    rw [List.drop_eq_getElem_cons hj, List.take_succ_cons, ← bs_take s m (j + 1) (by omega)]
    simp only [bs, List.map_cons, List.cons.injEq, and_true]
    rw [byteAt_in (by omega)]
    simp [u8]
    rfl

theorem cmp_var (s : ByteArray) (k n : Nat) (hk : k ≤ s.size) : ((strOfNums (vr n)).toList == (s.extract 0 k).toList) = true ↔ vr n = bs s 0 k := by
  rw [beq_iff_eq, Lib.toList_data, Lib.toList_data, strOfNums_data, Lib.extract_data]
  have e := bs_take s k 0 (by omega)
  rw [Nat.sub_zero, ← e]
  constructor
  · exact fun h => map_inj _ _ (vr_bytes n) (bs_bytes s 0 k) h
  · intro h; rw [h]; rfl

theorem pow7 (k : Nat) : (2 : Nat) ^ (7 * k) = 128 ^ k := by
  rw [Nat.pow_mul]

theorem or_val (s : ByteArray) (k b : Nat) (hk : k ≤ 6) (hb : b = byteAt s k) :
    bits .or .i64 ((val s 0 k : Nat) : Int) (wrap64 ((b : Int) % 128 * 2 ^ (7 * k))) = ((val s 0 (k + 1) : Nat) : Int) := by
  have h1 := val_lt s 0 k
  have h2 : 128 ^ k ≤ 128 ^ 6 := Nat.pow_le_pow_right (by omega) hk
  have h3 : b % 128 * 128 ^ k ≤ 127 * 128 ^ 6 := Nat.mul_le_mul (by omega) h2
  have e : (b : Int) % 128 * 2 ^ (7 * k) = ((b % 128 * 128 ^ k : Nat) : Int) := by
    rw [← pow7]
    simp
  rw [e, wrap64_nat _ (by omega)]
  have c : bits .or .i64 ((val s 0 k : Nat) : Int) ((b % 128 * 128 ^ k : Nat) : Int) = bits .or .i64 ((b % 128 * 128 ^ k : Nat) : Int) ((val s 0 k : Nat) : Int) := by
    simp only [bits, BitVec.or_comm]
  rw [c, or_join (7 * k) _ _ (by rw [pow7]; exact Nat.mul_mod_left _ _) (by rw [pow7]; exact h1) (by omega), val_snoc, Nat.zero_add, ← hb]
  omega

set_option maxRecDepth 20000 in
theorem impl_rv (s : ByteArray) (hs : s.size ≤ 1048576) (w : World) :
    Calls Tryd.prog 8 #[.string s] w fun e w' => (∃ n k : Nat, IsRv s n k ∧ e = .returned (.tuple #[.int .i64 n, .int .i64 k])) ∧ w = w' := by
  go_enter Tryd.func8, Tryd.ntmps8
  go_wp2
  go_loop [4, 5] (fun n i => ∃ k : Nat, k ≤ 7 ∧ k ≤ s.size ∧ i = .int .i64 k ∧ n = .int .i64 (val s 0 k : Nat) ∧ Hid (∀ j, j < k → 128 ≤ byteAt s j)) (fun _ i => 8 - (intOf i).toNat)
  case atStart => exact ⟨0, by omega, by omega, rfl, rfl, fun j h => by omega⟩
  case round =>
    obtain ⟨k, h7, hl, rfl, rfl, hno⟩ := hrel
    by_cases hin : k < 7 ∧ k < s.size
    · obtain ⟨hk7, hks⟩ := hin
      have hk7' : (k : Int) < 7 := by omega
      have hks' : (k : Int) < s.size := by omega
      obtain ⟨b, hb, hb2⟩ : ∃ b : Nat, s[k].toNat = b ∧ b = byteAt s k := ⟨_, rfl, (byteAt_in hks).symm⟩
      have hbl : b < 256 := by rw [hb2]; exact byteAt_lt s _
      have e1 : bits .and .u8 (b : Int) 127 = (b : Int) % 128 := by
        rw [u8_and _ _ (by omega) (by omega) (by omega) (by omega)]
        simp [nat_mask7]
      have eo := or_val s k b (by omega) hb2
      have HB : Hid (b = byteAt s k) := hb2
      clear hb2
      generalize val s 0 k = q at *
      generalize hv : val s 0 (k + 1) = v at *
      have HV : Hid (val s 0 (k + 1) = v) := hv
      clear hv
      go_wp2
      · have hbig : (127 : Int) < b := by assumption
        have hno2 : Hid (∀ j, j < k + 1 → 128 ≤ byteAt s j) := by
          intro j hj
          by_cases hjk : j = k
          · rw [hjk, ← HB.out]; omega
          · exact hno.out j (by omega)
        go_round
        case rel => exact ⟨k + 1, by omega, by omega, by go_num, by rw [HV.out], hno2⟩
        case measure => simp [intOf]; omega
      · have hb0 : b = 0 := by assumption
        have hk0 : 0 < k := by assumption
        have hfin : IsRv s 0 0 := Or.inl ⟨rfl, rfl, fun j hj1 hj7 hjl hg => by
          have hz : byteAt s k = 0 := by rw [← HB.out]; exact hb0
          rcases Nat.lt_trichotomy j (k + 1) with hl2 | he | hl2
          · have h1 := hno.out (j - 1) (by omega)
            have h2 := hg.2.1
            omega
          · subst he
            have h3 := hg.2.2
            simp only [Nat.add_sub_cancel] at h3
            omega
          · have h4 := hg.1 k (by omega)
            omega⟩
        go_ret2
        exact ⟨⟨0, 0, hfin, rfl⟩, rfl⟩
      · have hb0 : b = 0 := by assumption
        have hk0 : ¬ 0 < k := by assumption
        obtain rfl : k = 0 := by omega
        have hg : goodAt s 1 := ⟨fun i hi => by omega, by show byteAt s 0 < 128; rw [← HB.out]; omega, Or.inl rfl⟩
        go_ret2
        exact ⟨⟨v, 1, Or.inr ⟨by omega, by omega, by omega, hg, HV.out.symm⟩, rfl⟩, rfl⟩
      · have hb0 : ¬ b = 0 := by assumption
        have hb127 : (b : Int) ≤ 127 := by assumption
        have hg : goodAt s (k + 1) := ⟨fun i hi => hno.out i (by omega), by show byteAt s k < 128; rw [← HB.out]; omega, Or.inr (by show byteAt s k ≠ 0; rw [← HB.out]; omega)⟩
        go_ret2
        exact ⟨⟨v, k + 1, Or.inr ⟨by omega, by omega, by omega, hg, HV.out.symm⟩, rfl⟩, rfl⟩
    · have hfin : Hid (IsRv s 0 0) := Or.inl ⟨rfl, rfl, fun j hj1 hj7 hjl hg => by
        have h1 := hno.out (j - 1) (by omega)
        have h2 := hg.2.1
        omega⟩
      by_cases hks : (k : Int) < s.size
      · have h7 : ¬ ((k : Int) < 7) := by omega
        go_wp2
        go_ret2
        exact ⟨⟨0, 0, hfin.out, rfl⟩, rfl⟩
      · go_wp2
        go_ret2
        exact ⟨⟨0, 0, hfin.out, rfl⟩, rfl⟩
end Go.Proofs.YtpjaiehkhbkgiacDoor
