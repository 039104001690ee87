/-
  Slices of bytes that a call makes by itself: what they hold, what they read as when made into a text, what put does to a room; and two steps of a statement whose order is open: a call by what is known of it, an append to a slice of the call's own. Conditions: written at each theorem.
-/
import Derived.Test.YtpjaiehkhbkgiajBase
import Derived.Laws.CopyOwn
import Derived.Laws.OwnMore
import Derived.WalkSpells
import Derived.Deep.RegionLaw
namespace Go.Proofs.Ytpjaiehkhbkgiaj
open Go.ChangeShapes Go.WideShapes Go.ChangeAt Go.RowKit
set_option linter.unusedVariables false

theorem info5 : (Try.prog.info? 5).map (·.size) = some 1 := by kernel_rfl

theorem put_any (g n c k m b B : Nat) (cur cs : List Value) (w w0 : World) (hg : w.heap[g]? = some (.cells cur.toArray 5 (0, 0))) (hm : cs.length = m)
    (hsrc : ∀ j v, cs[j]? = some v → w.cell? ⟨b, j, none⟩ = some v) (hpos : 0 < m) (hfit : k + m ≤ n) (hn : n ≤ cur.length) (hc : n ≤ c) (hmax : n ≤ maxLen)
    (h1 : ∀ v ∈ cs, v.oneCell' = true) (hb : Below B w0 w) (hBg : B ≤ g) :
    Calls Try.prog 14 #[.slice (some ⟨g, 0, none⟩) n c, .int .i64 (k : Nat), .slice (some ⟨b, 0, none⟩) m m] w fun e w' =>
      e = .returned (.int .i64 (k + m : Nat)) ∧ w'.heap[g]? = some (.cells (splice cur k cs).toArray 5 (0, 0)) ∧ Below B w0 w' := by
  unfold maxLen at hmax
  have hg' : Hid (w.heap[g]? = some (.cells cur.toArray 5 (0, 0))) := hg
  have hsrc' : Hid (∀ j v, cs[j]? = some v → w.cell? ⟨b, j, none⟩ = some v) := hsrc
  have hm' : Hid (cs.length = m) := hm
  have h1' : Hid (∀ v ∈ cs, v.oneCell' = true) := h1
  have hb' : Hid (Below B w0 w) := hb
  clear hg hsrc hm h1 hb
  go_enter Try.func14, Try.ntmps14
  go_wp2_with (refine wpList_copy_splice rfl (.tmp 10) (.tmp 11) 29 29 rfl 5 Try.underlying29 info5 _ _ _ _ _ _ rfl rfl g k cur 5 hg'.out cs ?c1 ?c2 ?c3 h1'.out B w0 hb'.out hBg ?_)
  case c1 => rw [hm'.out]; exact (Nat.min_eq_left (by omega)).symm
  case c2 => intro _ j v hj; exact hsrc'.out j v hj
  case c3 => rw [hm'.out]; omega
  intro w' hg2 hb2
  rw [hm'.out]
  go_wp2
  go_ret
  exact ⟨by simp, hg2.out, hb2⟩

theorem room_alloc {wr : World} {g : Nat} {x : Obj} (h : wr.heap[g]? = some x) (o : Obj) : (wr.alloc o).heap[g]? = some x := by
  rw [Below.heap_alloc wr o g (Array.getElem?_eq_some_iff.1 h).1]; exact h

theorem room_cell {wr : World} {g : Nat} {cs : List Value} {t : TypeId} (h : wr.heap[g]? = some (.cells cs.toArray t (0, 0))) (i : Nat) : wr.cell? ⟨g, i, none⟩ = cs[i]? := by
  simp [World.cell?, h]


theorem Try.info5 : (Try.prog.info? 5).map (fun i => (i.zero, i.size, i.bytes)) = some (some (.int .u8 0), 1, 1) := by kernel_rfl


/-- Bytes that a slice of the call's own holds. -/
abbrev ownB (w : World) (base : Nat) (v : Value) (L : List Int) : Prop := w.ownsRow base 5 1 v L.length (L.map (Value.int .u8))

theorem conv_own {w : World} {base : Nat} {v : Value} {L : List Int} (h : ownB w base v L) : (convert 29 9 v).run Try.prog w = .ok (.string (strOfNums L)) w := by
  obtain ⟨_, hc⟩ := h
  rcases hc with ⟨rfl, hn⟩ | ⟨g, cap, cur, rfl, hb, hg, hn, hm, hs, hx⟩
  · obtain rfl : L = [] := List.length_eq_zero_iff.1 hn
    exact run_convert_bytes_nil w 29 5 Try.underlying29 Try.underlying5 0 0 9 Try.underlying9
  · refine run_convert_bytes_arg w 29 5 Try.underlying29 Try.underlying5 g 0 L.length cap L rfl (fun i hi => ?_) 9 Try.underlying9
    have e : (cur.toList.take (L.length * 1))[i]? = (L.map (Value.int .u8))[i]? := by rw [hx]
    rw [List.getElem?_take_of_lt (by omega), List.getElem?_map, List.getElem?_eq_getElem hi] at e
    simp only [World.cell?, hg]
    simp [List.getElem?_eq_getElem hi] at e ⊢
    simpa using e


/-- A room of m places more than the bytes that were laid into it. -/
def rm (L : List Int) (m : Nat) : List Value := L.map (Value.int .u8) ++ List.replicate m (.int .u8 0)

theorem rm_length (L : List Int) (m : Nat) : (rm L m).length = L.length + m := by simp [rm]

theorem rm_step (L : List Int) (m : Nat) (x : Int) : splice (rm L (m + 1)) L.length [.int .u8 x] = rm (L ++ [x]) m := by
  simp [splice, rm, List.drop_append, List.replicate_succ]

theorem rm_conv (L : List Int) (m c : Nat) (wr : World) (g : Nat) (h : wr.heap[g]? = some (.cells (rm L m).toArray 5 (0, 0))) :
    (convert 29 9 (.slice (some ⟨g, 0, none⟩) L.length c)).run Try.prog wr = .ok (.string (strOfNums L)) wr := by
  refine run_convert_bytes_arg _ 29 5 Try.underlying29 Try.underlying5 g 0 L.length c _ rfl (fun i hi => ?_) 9 Try.underlying9
  rw [room_cell h, Nat.zero_add, rm, List.getElem?_append_left (by simpa using hi)]
  simp [List.getElem?_eq_getElem hi]

/-- One byte, laid behind those that the room holds. -/
theorem put_one (g n c B : Nat) (L : List Int) (m : Nat) (x : Int) (wr w0 : World) (hroom : wr.heap[g]? = some (.cells (rm L (m + 1)).toArray 5 (0, 0)))
    (hfit : L.length + 1 ≤ n) (hn : n ≤ L.length + (m + 1)) (hc : n ≤ c) (hmax : n ≤ maxLen) (hb : Below B w0 wr) (hBg : B ≤ g) :
    Calls Try.prog 14 #[.slice (some ⟨g, 0, none⟩) n c, .int .i64 (L.length : Nat), .slice (some ⟨wr.heap.size, 0, none⟩) 1 1] (wr.alloc (.cells #[.int .u8 x] 5)) fun e w' =>
      e = .returned (.int .i64 (L.length + 1 : Nat)) ∧ w'.heap[g]? = some (.cells (rm (L ++ [x]) m).toArray 5 (0, 0)) ∧ Below B w0 w' := by
  have hlt : g < wr.heap.size := (Array.getElem?_eq_some_iff.1 hroom).1
  have h := put_any g n c L.length 1 wr.heap.size B (rm L (m + 1)) [.int .u8 x] (wr.alloc (.cells #[.int .u8 x] 5)) w0 (room_alloc hroom _) rfl
    (fun j v hj => by
      obtain rfl : j = 0 := by
        rcases j with _ | j
        · rfl
        · simp at hj
      rw [World.cell?_alloc_at _ _ _ _ rfl]
      simpa using hj) (by omega) hfit (by rw [rm_length]; exact hn) hc hmax (by simp [Value.oneCell']) (hb.alloc (by omega) _) hBg
  rw [rm_step] at h
  exact h


theorem rm_made (n : Nat) : madeCells (Value.int .u8 0).cells (n * 1) = (rm [] n).toArray := by
  apply Array.ext
  · simp [madeCells, rm]
  · intro i h1 h2
    have e : i % 1 = 0 := by omega
    simp [madeCells, rm, Value.cells, e]

theorem rm_step2 (L : List Int) (m : Nat) (x y : Int) : splice (rm L (m + 2)) L.length [.int .u8 x, .int .u8 y] = rm (L ++ [x, y]) m := by
  simp [splice, rm, List.drop_append, List.replicate_succ]

/-- Two bytes, laid behind those that the room holds. -/
theorem put_two (g n c B : Nat) (L : List Int) (m : Nat) (x y : Int) (wr w0 : World) (hroom : wr.heap[g]? = some (.cells (rm L (m + 2)).toArray 5 (0, 0)))
    (hfit : L.length + 2 ≤ n) (hn : n ≤ L.length + (m + 2)) (hc : n ≤ c) (hmax : n ≤ maxLen) (hb : Below B w0 wr) (hBg : B ≤ g) (pl : Int) (hk : pl = (L.length : Nat)) :
    Calls Try.prog 14 #[.slice (some ⟨g, 0, none⟩) n c, .int .i64 pl, .slice (some ⟨wr.heap.size, 0, none⟩) 2 2] (wr.alloc (.cells #[.int .u8 x, .int .u8 y] 5)).drew fun e w' =>
      e = .returned (.int .i64 (pl + 2)) ∧ w'.heap[g]? = some (.cells (rm (L ++ [x, y]) m).toArray 5 (0, 0)) ∧ Below B w0 w' := by
  subst hk
  have hlt : g < wr.heap.size := (Array.getElem?_eq_some_iff.1 hroom).1
  have hBw : B ≤ wr.heap.size := by omega
  have h := put_any g n c L.length 2 wr.heap.size B (rm L (m + 2)) [.int .u8 x, .int .u8 y] (wr.alloc (.cells #[.int .u8 x, .int .u8 y] 5)).drew w0 (room_alloc hroom _) rfl
    (fun j v hj => by
      show (wr.alloc (.cells #[.int .u8 x, .int .u8 y] 5)).cell? ⟨wr.heap.size, j, none⟩ = some v
      rw [World.cell?_alloc_at _ _ _ _ rfl]
      simpa using hj) (by omega) hfit (by rw [rm_length]; exact hn) hc hmax (by simp [Value.oneCell']) (hb.alloc hBw _).drew hBg
  rw [rm_step2] at h
  exact h

theorem two_new (w : World) (x y : Value) (t : TypeId) : ∀ j u, [x, y][j]? = some u → (w.alloc (.cells #[x, y] t)).drew.cell? ((⟨w.heap.size, 0, none⟩ : Addr).add j) = some u := by
  intro j u hj
  show (w.alloc (.cells #[x, y] t)).cell? ((⟨w.heap.size, 0, none⟩ : Addr).add j) = some u
  match j, hj with
  | 0, hj => simp at hj; subst hj; simp [Addr.add, World.cell?_alloc_at _ _ _ _ rfl]
  | 1, hj => simp at hj; subst hj; simp [Addr.add, World.cell?_alloc_at _ _ _ _ rfl]

theorem ownB_drew {w : World} {base : Nat} {v : Value} {L : List Int} (h : ownB w base v L) : ownB w.drew base v L := h

theorem step_call {P : Program} {ops : Array Oper} {o : Oper} {a : Act} {w : World} {K : Act → World → Prop} {Q : Exit → Act → World → Prop} {E : Prop} (hg : o.guard = none)
    (f : FuncId) (xs : Array Operand) (ts : Array TypeId) (ho : o.op = .call { callee := .value (.func f), args := xs, argTypes := ts }) (vs : Array Value) (hv : xs.map a.eval = vs)
    {fn : Func} (hf : P.funcs[f]? = some fn) (hname : (fn.name == "runtime.NumGoroutine") = false) (hbody : fn.body.isNone = false)
    (S : Ending → World → Prop) (hc : Calls P f vs w S) (h : ∀ e w', S e w' → ∃ v, e = .returned v ∧ K (a.put o.dst v) w') :
    if Region.wanted o (yielded ops a.tmps) = true then Oper.wp P o a w K Q else E := by
  have hw : Region.wanted o (yielded ops a.tmps) = true := by simp [Region.wanted, hg]
  rw [if_pos hw]
  unfold Oper.wp
  have e : (execOp a.eval o).run P w = .ok (.enter f vs) w := by
    have hn : ¬ fn.name = "runtime.NumGoroutine" := by simpa using hname
    have hb : ¬ fn.body = none := fun h => by rw [h] at hbody; simp at hbody
    simp [execOp, ho, resolve, invoke, hv, Act.eval, Deferred.ofValue, callFunc, hf, hn, hb]
  rw [e, Oper.upon_enter]
  refine hc.mono ?_
  intro e w' hs
  obtain ⟨v, rfl, hk⟩ := h e w' hs
  exact hk

theorem step_append_own {P : Program} {ops : Array Oper} {o : Oper} {a : Act} {w : World} {K : Act → World → Prop} {Q : Exit → Act → World → Prop} {E : Prop} (hg : o.guard = none) (s x : Operand) (t : TypeId)
    (ho : o.op = .call { callee := .builtin .append, args := #[s, x], argTypes := #[t, t] })
    (base : Nat) (e : TypeId) (i : TypeInfo) (z : Value) (size bytes : Nat) (ht : P.underlying t = some (.slice e)) (hi : P.info? e = some i) (hz : i.zero = some z)
    (hsize : i.size = size) (hby : i.bytes = bytes) (hzs : z.cells.size = size) (hsz : 0 < size)
    (v : Value) (n : Nat) (xs : List Value) (hs : a.eval s = v) (hown : w.ownsRow base e size v n xs)
    (ad : Addr) (m c : Nat) (news : List Value) (hx : a.eval x = .slice (some ad) m c) (hl : news.length = m * size) (hnews : ∀ j u, news[j]? = some u → w.cell? (ad.add j) = some u) (h1 : ∀ u ∈ news, u.oneCell' = true)
    (h63 : n + m ≤ maxLen) (hbytes : (n + m) * bytes ≤ 140737488355328) (hbase : base ≤ w.heap.size)
    (h : ∀ v' w', w'.ownsRow base e size v' (n + m) (xs ++ news) → w.grownBy w' v.ownBlock → (v' = .slice none 0 0 ↔ v = .slice none 0 0 ∧ m = 0) → K (a.put o.dst v') w') :
    if Region.wanted o (yielded ops a.tmps) = true then Oper.wp P o a w K Q else E := by
  have hw : Region.wanted o (yielded ops a.tmps) = true := by simp [Region.wanted, hg]
  rw [if_pos hw]
  exact wp_append_own w s x t ho base e i z size bytes ht hi hz hsize hby hzs hsz v n xs hs hown ad m c news hx hl hnews h1 h63 hbytes hbase h
end Go.Proofs.Ytpjaiehkhbkgiaj
