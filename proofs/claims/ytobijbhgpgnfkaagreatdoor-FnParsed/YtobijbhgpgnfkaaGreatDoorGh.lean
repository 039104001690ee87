/-
  The draws of programs: a program, and how deep it goes. Conditions: written at each theorem.
-/
import Derived.Test.YtobijbhgpgnfkaaGreatDoorGg
import Derived.Test.YtobijbhgpgnfkaaGreatDoorSt
namespace Go.Proofs.YtobijbhgpgnfkaaGreatDoor
open Go.ChangeShapes Go.WideShapes Go.ChangeAt Go.RowKit
set_option linter.unusedVariables false

theorem mu_cases {ty deep : Int} {f : Nat} (h : mu ty deep ≤ f + 1) : (ty = 0 ∧ deep ≤ 0) ∨ (deep ≤ 0 ∧ ty ≠ 0) ∨ (1 ≤ deep ∧ deep ≤ f) := by
  unfold mu at h
  by_cases h0 : deep ≤ 0
  · rw [if_pos h0] at h
    by_cases ht : ty = 0
    · exact Or.inl ⟨ht, h0⟩
    · exact Or.inr (Or.inl ⟨h0, ht⟩)
  · rw [if_neg h0] at h
    exact Or.inr (Or.inr ⟨by omega, by omega⟩)

theorem pow_facts1 (f : Nat) : 1 ≤ 4 ^ f := Nat.one_le_pow _ _ (by omega)

theorem mu_zero {deep : Int} (h : deep ≤ 0) : mu 0 deep = 0 := by
  unfold mu
  rw [if_pos h, if_pos rfl]

theorem ownS_kept {w w' : World} {B N : Nat} {v : Value} {ns : List ByteArray} (h : ownS w B v ns) (hb : Below N w w') (hN : w.heap.size ≤ N := by exact Nat.le_refl _) : ownS w' B v ns := by
  refine ⟨h.1, ?_⟩
  rcases h.2 with h0 | ⟨g, cap, cur, hv, hbg, hg, rest⟩
  · exact .inl h0
  · exact .inr ⟨g, cap, cur, hv, hbg, (hb.block g (Nat.lt_of_lt_of_le (Array.getElem?_eq_some_iff.1 hg).1 hN)).trans hg, rest⟩

theorem pick_cap {a : Option Addr} {len cap : Nat} {zs : List Int} {B : Nat} {w : World} {s : Nat × Int} (h : CurAt a len cap zs B w s) (ls : List ByteArray) (Lb n cp : Nat) (hnl : ls.length = n) (hn : 0 < n) (hn2 : n ≤ 100) (hL : Lb < w.heap.size) (hLB : Lb ≠ B)
    (hcell : ∀ j, j < n → w.cell? ⟨Lb, j, none⟩ = some (.string (ls.getD j ByteArray.empty))) :
    Calls Tryz.prog 34 #[.pointer (some ⟨B, 0, none⟩), .slice (some ⟨Lb, 0, none⟩) n cp] w fun e w' =>
      ∃ (S : ByteArray) (s' : Nat × Int), S ∈ ls ∧ e = .returned (.string S) ∧ CurAt a len cap zs B w' s' ∧ Only B w w' := by
  have H : Hid (CurAt a len cap zs B w s) := h
  have HL : Hid (∀ j, j < n → w.cell? ⟨Lb, j, none⟩ = some (.string (ls.getD j ByteArray.empty))) := hcell
  have HN : Hid (ls.length = n) := hnl
  have hr := belowV_range (zs := zs) (len := len) (n : Int) s (by omega)
  clear h hcell hnl
  go_enter Tryz.func34, Tryz.ntmps34
  go_wp2_with fail
  refine (below_at H.out (n : Int) (by omega)).mono ?_
  rintro e w1 ⟨rfl, c1, b1⟩
  obtain ⟨k, hk⟩ := Int.eq_ofNat_of_zero_le hr.1
  have hkl : k < n := by omega
  have C1 : Hid (CurAt a len cap zs B w1 (belowV zs len n s).2) := c1
  have hc : w1.cell? ⟨Lb, k, none⟩ = some (.string (ls.getD k ByteArray.empty)) := (b1.cell (p := ⟨Lb, k, none⟩) hL hLB).trans (HL.out k hkl)
  have HM : Hid (ls.getD k ByteArray.empty ∈ ls) := by
    show ls.getD k ByteArray.empty ∈ ls
    have hkk : k < ls.length := by rw [HN.out]; exact hkl
    rw [List.getD, List.getElem?_eq_getElem hkk]
    exact List.getElem_mem hkk
  generalize ls.getD k ByteArray.empty = S at *
  clear c1 H HL hr
  rw [hk]
  clear hk
  go_wp2
  go_ret
  exact ⟨S, _, HM.out, rfl, C1.out, b1⟩

/-- The names that fit, so far. -/
def FitAt (B : Nat) (w : World) (m : Nat) (v : Value) (wr : World) : Prop := ∃ (g c : Nat) (fs : List ByteArray), v = .slice (some ⟨g, 0, none⟩) fs.length c ∧ ownS wr w.heap.size v fs ∧ fs.length ≤ m ∧ (∀ t ∈ fs, Fit9 t) ∧ Below w.heap.size w wr

set_option maxHeartbeats 16000000 in
set_option maxRecDepth 20000 in
theorem gen_all (f mm : Nat) (a : Option Addr) (len cap : Nat) (zs : List Int) (B : Nat) (w0 : World) (s : Nat × Int) (ty deep : Int) (nv tv : Value) (n : Nat) (h : CurAt a len cap zs B w0 s)
    (hcase : (ty = 0 ∧ deep ≤ 0 ∧ mm = 1) ∨ (mm = 4 ^ (f + 1) ∧ GenC f ∧ ((deep ≤ 0 ∧ ty ≠ 0) ∨ (1 ≤ deep ∧ deep ≤ f)))) (hlo0 : (ty = 0 ∧ deep ≤ 0) ∨ 2 * (f : Int) + 2 ≤ deep + 1000) (hhi : deep ≤ 100) (hn60 : n ≤ 60) (hnf0 : (ty = 0 ∧ deep ≤ 0) ∨ n + 2 * f + 2 ≤ 60) (hf : f ≤ 6) (hs : Strs B w0 nv n) (hi : Ints B w0 tv n) :
    Calls Tryz.prog 96 #[.pointer (some ⟨B, 0, none⟩), .int .i64 ty, .int .i64 deep, nv, tv] w0 (DrawEnd a len cap zs B w0 mm) := by
  obtain ⟨gn, cn, rfl⟩ := (show ∃ g c, nv = .slice (some ⟨g, 0, none⟩) n c by obtain ⟨g, c, k, h1, _⟩ := hs; exact ⟨g, c, h1⟩)
  obtain ⟨gt, ct, rfl⟩ := (show ∃ g c, tv = .slice (some ⟨g, 0, none⟩) n c by obtain ⟨g, c, k, h1, _⟩ := hi; exact ⟨g, c, h1⟩)
  have HCS : Hid ((ty = 0 ∧ deep ≤ 0 ∧ mm = 1) ∨ (mm = 4 ^ (f + 1) ∧ GenC f ∧ ((deep ≤ 0 ∧ ty ≠ 0) ∨ (1 ≤ deep ∧ deep ≤ f)))) := hcase
  have C0 : Hid (CurAt a len cap zs B w0 s) := h
  have S0 : Hid (Strs B w0 (.slice (some ⟨gn, 0, none⟩) n cn) n) := hs
  have I0 : Hid (Ints B w0 (.slice (some ⟨gt, 0, none⟩) n ct) n) := hi
  have N0 : Hid (Only B w0 w0) := Only.refl B w0
  have hBw : B < w0.heap.size := h.size
  have HP : Hid (4 * 4 ^ f = 4 ^ (f + 1) ∧ 1 ≤ 4 ^ f ∧ 4 ^ f ≤ 4096) := pow_facts hf
  obtain ⟨ns, hnl, hgB, hgw, hnz, hnc⟩ := hs.cells
  obtain ⟨is, hil, hiB, hiw, hic⟩ := hi.cells
  have HNC : Hid (∀ j, j < n → w0.cell? ⟨gn, j, none⟩ = some (.string (ns.getD j ByteArray.empty))) := hnc
  have HNZ : Hid (∀ j, j < n → Fit9 (ns.getD j ByteArray.empty)) := hnz
  have HIC : Hid (∀ j, j < n → w0.cell? ⟨gt, j, none⟩ = some (.int .i64 (is.getD j 0))) := hic
  have F0 : Hid (FitAt B w0 0 (.slice (some ⟨w0.heap.size, 0, none⟩) 0 0) (w0.alloc (.cells #[] 9))) := ⟨_, _, [], rfl, str_empty, Nat.le_refl _, by simp, (Below.refl _ w0).alloc (Nat.le_refl _) _⟩
  have HLO : Hid ((ty = 0 ∧ deep ≤ 0) ∨ 2 * (f : Int) + 2 ≤ deep + 1000) := hlo0
  have HNF : Hid ((ty = 0 ∧ deep ≤ 0) ∨ n + 2 * f + 2 ≤ 60) := hnf0
  clear hcase h hs hi hnz hnc hic hnl hil hlo0 hnf0
  go_enter Tryz.func96, Tryz.ntmps96
  go_wp2
  go_loopw [11, 12] (fun v i wr => ∃ q : Nat, q ≤ n ∧ i = .int .i64 q ∧ Hid (FitAt B w0 q v wr)) (fun _ i _ => n - (intOf i).toNat)
  case atStart => exact ⟨0, by omega, rfl, F0⟩
  case round =>
    clear F0
    obtain ⟨q, hq, rfl, hF⟩ := hrel
    obtain ⟨wo, hwo⟩ : ∃ wo, wo = wr := ⟨_, rfl⟩
    subst hwo
    obtain ⟨gf, cf, fs, rfl, hfo, hfl, hfz, hbel⟩ := hF.out
    have HFO : Hid (ownS wo w0.heap.size (.slice (some ⟨gf, 0, none⟩) fs.length cf) fs) := hfo
    have HFZ : Hid (∀ t ∈ fs, Fit9 t) := hfz
    have HB : Hid (Below w0.heap.size w0 wo) := hbel
    have hsz := hbel.size
    clear hfo hfz hF
    by_cases hin : q < n
    · have hin' : (q : Int) < n := by omega
      clear hbel
      go_wp2
      go_loopw [13, 14] (fun b k wr => ∃ (bb : Bool) (p : Nat), q + 1 ≤ p ∧ p ≤ n ∧ b = .bool bb ∧ k = .int .i64 p ∧ Hid (Below wo.heap.size wo wr)) (fun _ k _ => n - (intOf k).toNat)
      case atStart => exact ⟨true, q + 1, by omega, by omega, rfl, by go_num, Below.refl _ _⟩
      case round =>
        obtain ⟨bb, p, hp1, hp2, rfl, rfl, hX⟩ := hrel
        have hxs := hX.out.size
        have HBX : Hid (Below w0.heap.size w0 wr) := HB.out.trans (hX.out.mono hsz)
        by_cases hpn : p < n
        · have hpn' : (p : Int) < n := by omega
          have x1 : wr.cell? ⟨gn, p, none⟩ = some (.string (ns.getD p ByteArray.empty)) := (HBX.out.cell (p := ⟨gn, p, none⟩) hgw).trans (HNC.out p hpn)
          have x2 : wr.cell? ⟨gn, q, none⟩ = some (.string (ns.getD q ByteArray.empty)) := (HBX.out.cell (p := ⟨gn, q, none⟩) hgw).trans (HNC.out q hin)
          generalize ns.getD p ByteArray.empty = sp at *
          generalize ns.getD q ByteArray.empty = sq at *
          cases bb
          · go_wp2
            go_quiet (fail)
            go_wp2
            go_roundw
            case rel => exact ⟨_, p + 1, by omega, by omega, rfl, by go_num, below_drew_n hX.out _⟩
            case measure => simp [intOf]; omega
          · go_wp2
            go_quiet (fail)
            go_wp2
            go_roundw
            case rel => exact ⟨_, p + 1, by omega, by omega, rfl, by go_num, below_drew_n hX.out _⟩
            case measure => simp [intOf]; omega
        · obtain rfl : p = n := by omega
          have x2 : wr.cell? ⟨gn, q, none⟩ = some (.string (ns.getD q ByteArray.empty)) := (HBX.out.cell (p := ⟨gn, q, none⟩) hgw).trans (HNC.out q hin)
          have x3 : wr.cell? ⟨gt, q, none⟩ = some (.int .i64 (is.getD q 0)) := (HBX.out.cell (p := ⟨gt, q, none⟩) hiw).trans (HIC.out q hin)
          have hsq := HNZ.out q hin
          have HFO2 : Hid (ownS wr w0.heap.size (.slice (some ⟨gf, 0, none⟩) fs.length cf) fs) := ownS_kept HFO.out hX.out
          generalize ns.getD q ByteArray.empty = sq at *
          generalize is.getD q 0 = tq at *
          have HNO : Hid (FitAt B w0 (q + 1) (.slice (some ⟨gf, 0, none⟩) fs.length cf) wr) := ⟨gf, cf, fs, rfl, HFO2.out, by omega, HFZ.out, HBX.out⟩
          have hwz := HBX.out.size
          clear hX
          cases bb
          · go_wp2
            go_roundw
            case rel => exact ⟨q + 1, by omega, by go_num, HNO⟩
            case measure => simp [intOf]; omega
          · by_cases hty : tq = ty
            · subst hty
              go_wp2_with (at_builtin; refine grow_str _ rfl _ _ rfl w0.heap.size _ fs rfl (World.ownsRow.alloc HFO2.out _) (by intro e; cases e) wr.heap.size 1 1 [sq] rfl rfl (row_new wr [sq] 9 _ rfl) (fs.length + 1) rfl (by omega) (by simp; omega) ?_)
              intro g2 c2 w2 o2 b2
              have HNX : Hid (FitAt B w0 (q + 1) (.slice (some ⟨g2, 0, none⟩) (fs.length + 1) c2) w2) := by
                refine ⟨g2, c2, fs ++ [sq], by simp, o2, by simp; omega, ?_, (HBX.out.alloc (by omega) _).trans b2⟩
                intro t ht
                rcases List.mem_append.1 ht with h | h
                · exact HFZ.out t h
                · rw [List.mem_singleton.1 h]; exact hsq
              clear o2 b2
              go_wp2
              go_roundw
              case rel => exact ⟨q + 1, by omega, by go_num, HNX⟩
              case measure => simp [intOf]; omega
            · have hty' : (tq == ty) = false := by simpa using hty
              clear hty
              go_wp2
              go_roundw
              case rel => exact ⟨q + 1, by omega, by go_num, HNO⟩
              case measure => simp [intOf]; omega
    · obtain rfl : q = n := by omega
      obtain ⟨w1, hw1⟩ : ∃ w1, w1 = wo := ⟨_, rfl⟩
      subst hw1
      have N1 : Hid (Only B w0 w1) := Only.of_below hbel
      have C1 : Hid (CurAt a len cap zs B w1 s) := curAt_below C0.out hbel hBw
      have S1 : Hid (Strs B w1 (.slice (some ⟨gn, 0, none⟩) q cn) q) := S0.out.only N1.out
      have I1 : Hid (Ints B w1 (.slice (some ⟨gt, 0, none⟩) q ct) q) := I0.out.only N1.out
      have E1xf : Hid (Strs B w1 (.slice (some ⟨gf, 0, none⟩) fs.length cf) fs.length) := ownS.strs HFO.out rfl hBw HFZ.out
      clear HFO HFZ HB hbel HNC HNZ HIC C0 S0 I0 N0 hsz
      have hfn : fs.length ≤ 60 := by omega
      generalize fs.length = fl at *
      rcases HCS.out with ⟨rfl, hd0, rfl⟩ | ⟨rfl, hG, hd⟩
      · have hMM : 1 ≤ 1 := Nat.le_refl 1
        by_cases hfl : fl = 0
        · subst hfl
          go_wp2_with fail
          refine (pick_text (curAt_alloc C1.out _) [⟨#[120]⟩, ⟨#[121]⟩, ⟨#[122]⟩, ⟨#[102]⟩, ⟨#[103]⟩] w1.heap.size 5 rfl (by omega) (by omega) (by simp) (by have := C1.out.size; omega) (row_new w1 [⟨#[120]⟩, ⟨#[121]⟩, ⟨#[122]⟩, ⟨#[102]⟩, ⟨#[103]⟩] 9 _ rfl)).mono ?_
          rintro e w2 ⟨X, s2, hm2, rfl, c2, no2⟩
          have n2 : Only B w1 w2 := (only_alloc w1 _).trans no2
          have hzX : Fit9 X := (by decide : ∀ t ∈ ([⟨#[120]⟩, ⟨#[121]⟩, ⟨#[122]⟩, ⟨#[102]⟩, ⟨#[103]⟩] : List ByteArray), Fit9 t) X hm2
          have C2 : Hid (CurAt a len cap zs B w2 s2) := c2
          have N2 : Hid (Only B w0 w2) := N1.out.trans n2
          have S2 : Hid (Strs B w2 (.slice (some ⟨gn, 0, none⟩) q cn) q) := S1.out.only n2
          have I2 : Hid (Ints B w2 (.slice (some ⟨gt, 0, none⟩) q ct) q) := I1.out.only n2
          clear c2 n2 no2 hm2
          go_wp2_with fail
          refine (below_some C2.out 50 (by omega) (by omega)).mono ?_
          rintro e w3 ⟨Z, s3, rfl, hr3, hq3, c3, n3⟩
          have C3 : Hid (CurAt a len cap zs B w3 s3) := c3
          have N3 : Hid (Only B w0 w3) := N2.out.trans n3
          have S3 : Hid (Strs B w3 (.slice (some ⟨gn, 0, none⟩) q cn) q) := S2.out.only n3
          have I3 : Hid (Ints B w3 (.slice (some ⟨gt, 0, none⟩) q ct) q) := I2.out.only n3
          clear c3 n3
          go_wp2_with fail
          refine (pick_int (curAt_alloc C3.out _) [0, 1, 2, 3, 7, 65535, Z] w3.heap.size 7 rfl (by omega) (by omega) (by simp) (by have := C3.out.size; omega) (row_ints w3 [0, 1, 2, 3, 7, 65535, Z] 3 _ rfl)).mono ?_
          rintro e w4 ⟨V, s4, hm4, rfl, c4, no4⟩
          have D : Hid (DrawEnd a len cap zs B w0 1 (.returned (.slice (some ⟨w4.heap.size, 0, none⟩) 1 1)) (w4.alloc (.cells #[.int .i64 2, .int .i64 0, .int .i64 0, .int .i64 0, .int .i64 V, .string ⟨#[]⟩, .string ⟨#[]⟩] 58))) := one_end ⟨2, 0, 0, 0, V, ⟨#[]⟩, ⟨#[]⟩⟩ (N3.out.trans ((only_alloc w3 _).trans no4)) c4 hMM (trim_node (by decide) (by decide))
          clear c4 no4 hm4
          go_wp2_with fail
          refine (int_at V w4).mono ?_
          rintro e we ⟨rfl, rfl⟩
          go_wp2
          go_ret
          exact D.out
        · have hfl2 : (0 : Int) < fl := by omega
          obtain ⟨vs, hvl, hvB, hvw, hvz, hvc⟩ := E1xf.out.cells
          have HVC : Hid (_) := hvc
          have HVZ : Hid (∀ t ∈ vs, Fit9 t) := sizes_mem hvl hvz
          clear hvc hvz
          go_wp2_with fail
          refine (pick_cap C1.out vs gf fl cf hvl (by omega) (by omega) hvw hvB HVC.out).mono ?_
          rintro e w2 ⟨V, s2, hm2, rfl, c2, n2⟩
          have hzV : Fit9 V := HVZ.out V hm2
          have D : Hid (DrawEnd a len cap zs B w0 1 (.returned (.slice (some ⟨w2.heap.size, 0, none⟩) 1 1)) (w2.alloc (.cells #[.int .i64 1, .int .i64 0, .int .i64 0, .int .i64 0, .int .i64 0, .string V, .string ⟨#[]⟩] 58))) := one_end ⟨1, 0, 0, 0, 0, V, ⟨#[]⟩⟩ (N1.out.trans n2) c2 hMM (trim_node hzV (by decide))
          clear c2 n2 hm2 HVC HVZ
          go_wp2_with fail
          refine (var_at V w2).mono ?_
          rintro e we ⟨rfl, rfl⟩
          go_wp2
          go_ret
          exact D.out
      · have HG : Hid (GenC f) := hG
        have hPP := HP.out
        have hMM : 1 ≤ 4 ^ (f + 1) := by omega
        clear hG hPP
        rcases hd with ⟨hd0, hty0⟩ | ⟨hd1, hdf⟩
        · have hlo1 := HLO.out
          have hlo : 2 * (f : Int) + 2 ≤ deep + 1000 := by omega
          have hnf1 := HNF.out
          have hnf : q + 2 * f + 2 ≤ 60 := by omega
          clear hlo1 HLO hnf1 HNF
          by_cases hfl : fl = 0
          · subst hfl
            have g0 : (ty == 0) = false := by simpa using hty0
            go_wp2_with fail
            refine (pick_text (curAt_alloc C1.out _) [⟨#[120]⟩, ⟨#[121]⟩, ⟨#[122]⟩, ⟨#[102]⟩, ⟨#[103]⟩] w1.heap.size 5 rfl (by omega) (by omega) (by simp) (by have := C1.out.size; omega) (row_new w1 [⟨#[120]⟩, ⟨#[121]⟩, ⟨#[122]⟩, ⟨#[102]⟩, ⟨#[103]⟩] 9 _ rfl)).mono ?_
            rintro e w2 ⟨X, s2, hm2, rfl, c2, no2⟩
            have n2 : Only B w1 w2 := (only_alloc w1 _).trans no2
            have hzX : Fit9 X := (by decide : ∀ t ∈ ([⟨#[120]⟩, ⟨#[121]⟩, ⟨#[122]⟩, ⟨#[102]⟩, ⟨#[103]⟩] : List ByteArray), Fit9 t) X hm2
            have C2 : Hid (CurAt a len cap zs B w2 s2) := c2
            have N2 : Hid (Only B w0 w2) := N1.out.trans n2
            have S2 : Hid (Strs B w2 (.slice (some ⟨gn, 0, none⟩) q cn) q) := S1.out.only n2
            have I2 : Hid (Ints B w2 (.slice (some ⟨gt, 0, none⟩) q ct) q) := I1.out.only n2
            clear c2 n2 no2 hm2
            by_cases ht1 : ty = 1
            · subst ht1
              obtain ⟨ns3, hl3, hgB3, hgw3, hz3, hcc3⟩ := S2.out.cells
              have HZ3 : Hid (∀ t ∈ ns3, Fit9 t) := sizes_mem hl3 hz3
              have HCC3 : Hid (_) := hcc3
              have hBw3 := C2.out.size
              clear hcc3 hz3
              go_wp2_with (at_builtin; refine grow_str _ rfl _ _ rfl w2.heap.size _ [] rfl str_empty (by intro e; cases e) gn (q) cn ns3 rfl hl3 (fun q hq => old_cell hgw3 (HCC3.out q hq) _) (q) (by simp) (by omega) (by simp) ?_)
              intro gg3 cc3 u3 oo3 bb3
              have zz3 := bb3.size
              have OO3 : Hid (ownS u3 w2.heap.size (.slice (some ⟨gg3, 0, none⟩) (q) cc3) ns3) := oo3
              have BB3 : Hid (Below w2.heap.size w2 u3) := ((Below.refl _ w2).alloc (Nat.le_refl _) _).trans bb3
              have hu3 : w2.heap.size < u3.heap.size := by simp at zz3; omega
              clear oo3 bb3 zz3
              go_wp2_with (at_builtin; refine grow_str _ rfl _ _ rfl w2.heap.size _ ns3 rfl (World.ownsRow.alloc OO3.out _) (by intro e; cases e) u3.heap.size 1 1 [X] rfl rfl (row_new u3 [X] 9 _ rfl) (q + 1) (by rw [hl3]) (by omega) (by simp; omega) ?_)
              intro hh3 kk3 w3 pp3 dd3
              have eb3 : Below w2.heap.size w2 w3 := (BB3.out.alloc (by omega) _).trans dd3
              have n3 : Only B w2 w3 := Only.of_below eb3
              have C3 : Hid (CurAt a len cap zs B w3 _) := curAt_below C2.out eb3 hBw3
              have N3 : Hid (Only B w0 w3) := N2.out.trans n3
              have S3 : Hid (Strs B w3 (.slice (some ⟨gn, 0, none⟩) q cn) q) := S2.out.only n3
              have I3 : Hid (Ints B w3 (.slice (some ⟨gt, 0, none⟩) q ct) q) := I2.out.only n3
              have E3xa : Hid (Strs B w3 (.slice (some ⟨hh3, 0, none⟩) (q + 1) kk3) (q + 1)) := ownS.strs pp3 (by simp [hl3]) hBw3 (by intro t ht; rcases List.mem_append.1 ht with ht | ht; exact HZ3.out t ht; simp at ht; subst ht; exact hzX)
              clear n3 eb3 pp3 dd3 OO3 BB3 HCC3 HZ3
              obtain ⟨ns4, hl4, hgB4, hgw4, hcc4⟩ := I3.out.cells
              have HCC4 : Hid (_) := hcc4
              have hBw4 := C3.out.size
              clear hcc4
              go_wp2_with (at_builtin; refine grow_num _ rfl _ _ rfl w3.heap.size _ [] rfl num_empty (by intro e; cases e) gt (q) ct ns4 rfl hl4 (fun q hq => old_cell hgw4 (HCC4.out q hq) _) (q) (by simp) (by omega) (by simp) ?_)
              intro gg4 cc4 u4 oo4 bb4
              have zz4 := bb4.size
              have OO4 : Hid (ownN u4 w3.heap.size (.slice (some ⟨gg4, 0, none⟩) (q) cc4) ns4) := oo4
              have BB4 : Hid (Below w3.heap.size w3 u4) := ((Below.refl _ w3).alloc (Nat.le_refl _) _).trans bb4
              have hu4 : w3.heap.size < u4.heap.size := by simp at zz4; omega
              clear oo4 bb4 zz4
              go_wp2_with (at_builtin; refine grow_num _ rfl _ _ rfl w3.heap.size _ ns4 rfl (World.ownsRow.alloc OO4.out _) (by intro e; cases e) u4.heap.size 1 1 [0] rfl rfl (row_ints u4 [0] 3 _ rfl) (q + 1) (by rw [hl4]) (by omega) (by simp; omega) ?_)
              intro hh4 kk4 w4 pp4 dd4
              have eb4 : Below w3.heap.size w3 w4 := (BB4.out.alloc (by omega) _).trans dd4
              have n4 : Only B w3 w4 := Only.of_below eb4
              have C4 : Hid (CurAt a len cap zs B w4 _) := curAt_below C3.out eb4 hBw4
              have N4 : Hid (Only B w0 w4) := N3.out.trans n4
              have S4 : Hid (Strs B w4 (.slice (some ⟨gn, 0, none⟩) q cn) q) := S3.out.only n4
              have I4 : Hid (Ints B w4 (.slice (some ⟨gt, 0, none⟩) q ct) q) := I3.out.only n4
              have E4xa : Hid (Strs B w4 (.slice (some ⟨hh3, 0, none⟩) (q + 1) kk3) (q + 1)) := E3xa.out.only n4
              have E4xb : Hid (Ints B w4 (.slice (some ⟨hh4, 0, none⟩) (q + 1) kk4) (q + 1)) := ownN.ints pp4 (by simp [hl4]) hBw4
              clear n4 eb4 pp4 dd4 OO4 BB4 HCC4
              go_wp2_with fail
              refine (HG.out a len cap zs B w4 _ 0 (deep - 1) (.slice (some ⟨hh3, 0, none⟩) (q + 1) kk3) (.slice (some ⟨hh4, 0, none⟩) (q + 1) kk4) (q + 1) C4.out (by rw [mu_zero (by omega)]; omega) (by omega) (by omega) (by omega) (by omega) E4xa.out E4xb.out).mono ?_
              rintro e w5 ⟨v5, l5, s5, rfl, o5, p5, m5, t5, c5, n5⟩
              obtain ⟨b5, g5, k5, sp5, rfl, -⟩ := ownNod_form o5
              have O5x5 : Hid (ownNod w5 w0.heap.size (.slice b5 l5.length k5) l5) := ownNod_base o5 N4.out.grow
              have T5 : Hid (Trim l5) := t5
              have C5 : Hid (CurAt a len cap zs B w5 s5) := c5
              have N5 : Hid (Only B w0 w5) := N4.out.trans n5
              have S5 : Hid (Strs B w5 (.slice (some ⟨gn, 0, none⟩) q cn) q) := S4.out.only n5
              have I5 : Hid (Ints B w5 (.slice (some ⟨gt, 0, none⟩) q ct) q) := I4.out.only n5
              have E5xa : Hid (Strs B w5 (.slice (some ⟨hh3, 0, none⟩) (q + 1) kk3) (q + 1)) := E4xa.out.only n5
              have E5xb : Hid (Ints B w5 (.slice (some ⟨hh4, 0, none⟩) (q + 1) kk4) (q + 1)) := E4xb.out.only n5
              clear c5 n5 o5 t5
              have hP := HP.out
              go_wp2_with fail
              refine (make1 ⟨3, 0, 0, 0, 0, X, ⟨#[]⟩⟩ (trim_node (hzX) (by decide)) w5 w0.heap.size (.slice b5 l5.length k5) l5 O5x5.out p5 T5.out (by omega)).mono ?_
              rintro e we ⟨ve, le, rfl, oe, qe, te, be⟩
              have D : Hid (DrawEnd a len cap zs B w0 (4 ^ (f + 1)) (.returned ve) we) := draw_end N5.out C5.out be oe (by omega) (by omega) te
              clear be oe te
              go_wp2
              go_ret
              exact D.out
            have g1 : (ty == 1) = false := by simpa using ht1
            by_cases ht2 : ty = 2
            · subst ht2
              go_wp2_with fail
              refine (HG.out a len cap zs B w2 _ 0 (deep - 1) (.slice (some ⟨gn, 0, none⟩) q cn) (.slice (some ⟨gt, 0, none⟩) q ct) (q) C2.out (by rw [mu_zero (by omega)]; omega) (by omega) (by omega) (by omega) (by omega) S2.out I2.out).mono ?_
              rintro e w3 ⟨v3, l3, s3, rfl, o3, p3, m3, t3, c3, n3⟩
              obtain ⟨b3, g3, k3, sp3, rfl, -⟩ := ownNod_form o3
              have O3x3 : Hid (ownNod w3 w0.heap.size (.slice b3 l3.length k3) l3) := ownNod_base o3 N2.out.grow
              have T3 : Hid (Trim l3) := t3
              have C3 : Hid (CurAt a len cap zs B w3 s3) := c3
              have N3 : Hid (Only B w0 w3) := N2.out.trans n3
              have S3 : Hid (Strs B w3 (.slice (some ⟨gn, 0, none⟩) q cn) q) := S2.out.only n3
              have I3 : Hid (Ints B w3 (.slice (some ⟨gt, 0, none⟩) q ct) q) := I2.out.only n3
              clear c3 n3 o3 t3
              go_wp2_with fail
              refine (HG.out a len cap zs B w3 _ 0 (deep - 2) (.slice (some ⟨gn, 0, none⟩) q cn) (.slice (some ⟨gt, 0, none⟩) q ct) (q) C3.out (by rw [mu_zero (by omega)]; omega) (by omega) (by omega) (by omega) (by omega) S3.out I3.out).mono ?_
              rintro e w4 ⟨v4, l4, s4, rfl, o4, p4, m4, t4, c4, n4⟩
              obtain ⟨b4, g4, k4, sp4, rfl, -⟩ := ownNod_form o4
              have O4x4 : Hid (ownNod w4 w0.heap.size (.slice b4 l4.length k4) l4) := ownNod_base o4 N3.out.grow
              have T4 : Hid (Trim l4) := t4
              have C4 : Hid (CurAt a len cap zs B w4 s4) := c4
              have N4 : Hid (Only B w0 w4) := N3.out.trans n4
              have S4 : Hid (Strs B w4 (.slice (some ⟨gn, 0, none⟩) q cn) q) := S3.out.only n4
              have I4 : Hid (Ints B w4 (.slice (some ⟨gt, 0, none⟩) q ct) q) := I3.out.only n4
              have O4x3 : Hid (ownNod w4 w0.heap.size (.slice b3 l3.length k3) l3) := ownNod_only O3x3.out n4 hBw
              clear c4 n4 o4 t4
              have hP := HP.out
              go_wp2_with fail
              refine (make2 ⟨9, 0, 0, 0, 0, ⟨#[]⟩, ⟨#[]⟩⟩ (trim_node (by decide) (by decide)) w4 w0.heap.size (.slice b3 l3.length k3) (.slice b4 l4.length k4) l3 l4 O4x3.out O4x4.out p3 p4 T3.out T4.out (by omega)).mono ?_
              rintro e we ⟨ve, le, rfl, oe, qe, te, be⟩
              have D : Hid (DrawEnd a len cap zs B w0 (4 ^ (f + 1)) (.returned ve) we) := draw_end N4.out C4.out be oe (by omega) (by omega) te
              clear be oe te
              go_wp2
              go_ret
              exact D.out
            have g2 : (ty == 2) = false := by simpa using ht2
            by_cases ht3 : ty = 3
            · subst ht3
              have D : Hid (DrawEnd a len cap zs B w0 (4 ^ (f + 1)) (.returned (.slice (some ⟨w2.heap.size, 0, none⟩) 1 1)) (w2.alloc (.cells #[.int .i64 12, .int .i64 0, .int .i64 0, .int .i64 0, .int .i64 0, .string ⟨#[]⟩, .string ⟨#[]⟩] 58))) := one_end ⟨12, 0, 0, 0, 0, ⟨#[]⟩, ⟨#[]⟩⟩ N2.out C2.out hMM (trim_node (by decide) (by decide))
              go_wp2
              go_ret
              exact D.out
            have g3 : (ty == 3) = false := by simpa using ht3
            clear ht1 ht2 ht3 hty0
            go_wp2_with fail
            refine (HG.out a len cap zs B w2 _ 0 (deep - 1) (.slice (some ⟨gn, 0, none⟩) q cn) (.slice (some ⟨gt, 0, none⟩) q ct) (q) C2.out (by rw [mu_zero (by omega)]; omega) (by omega) (by omega) (by omega) (by omega) S2.out I2.out).mono ?_
            rintro e w3 ⟨v3, l3, s3, rfl, o3, p3, m3, t3, c3, n3⟩
            obtain ⟨b3, g3, k3, sp3, rfl, -⟩ := ownNod_form o3
            have O3x3 : Hid (ownNod w3 w0.heap.size (.slice b3 l3.length k3) l3) := ownNod_base o3 N2.out.grow
            have T3 : Hid (Trim l3) := t3
            have C3 : Hid (CurAt a len cap zs B w3 s3) := c3
            have N3 : Hid (Only B w0 w3) := N2.out.trans n3
            have S3 : Hid (Strs B w3 (.slice (some ⟨gn, 0, none⟩) q cn) q) := S2.out.only n3
            have I3 : Hid (Ints B w3 (.slice (some ⟨gt, 0, none⟩) q ct) q) := I2.out.only n3
            clear c3 n3 o3 t3
            have hP := HP.out
            go_wp2_with fail
            refine (make1 ⟨15, 0, 0, 0, 0, ⟨#[]⟩, ⟨#[]⟩⟩ (trim_node (by decide) (by decide)) w3 w0.heap.size (.slice b3 l3.length k3) l3 O3x3.out p3 T3.out (by omega)).mono ?_
            rintro e we ⟨ve, le, rfl, oe, qe, te, be⟩
            have D : Hid (DrawEnd a len cap zs B w0 (4 ^ (f + 1)) (.returned ve) we) := draw_end N3.out C3.out be oe (by omega) (by omega) te
            clear be oe te
            go_wp2
            go_ret
            exact D.out
          · have hfl2 : (0 : Int) < fl := by omega
            obtain ⟨vs, hvl, hvB, hvw, hvz, hvc⟩ := E1xf.out.cells
            have HVC : Hid (_) := hvc
            have HVZ : Hid (∀ t ∈ vs, Fit9 t) := sizes_mem hvl hvz
            clear hvc hvz
            go_wp2_with fail
            refine (pick_cap C1.out vs gf fl cf hvl (by omega) (by omega) hvw hvB HVC.out).mono ?_
            rintro e w2 ⟨V, s2, hm2, rfl, c2, n2⟩
            have hzV : Fit9 V := HVZ.out V hm2
            have D : Hid (DrawEnd a len cap zs B w0 (4 ^ (f + 1)) (.returned (.slice (some ⟨w2.heap.size, 0, none⟩) 1 1)) (w2.alloc (.cells #[.int .i64 1, .int .i64 0, .int .i64 0, .int .i64 0, .int .i64 0, .string V, .string ⟨#[]⟩] 58))) := one_end ⟨1, 0, 0, 0, 0, V, ⟨#[]⟩⟩ (N1.out.trans n2) c2 hMM (trim_node hzV (by decide))
            clear c2 n2 hm2 HVC HVZ
            go_wp2_with fail
            refine (var_at V w2).mono ?_
            rintro e we ⟨rfl, rfl⟩
            go_wp2
            go_ret
            exact D.out
        · have hlo1 := HLO.out
          have hlo : 2 * (f : Int) + 2 ≤ deep + 1000 := by omega
          have hnf1 := HNF.out
          have hnf : q + 2 * f + 2 ≤ 60 := by omega
          clear hlo1 HLO hnf1 HNF
          have hdp : (0 : Int) < deep := by omega
          have hdn : ¬ deep ≤ 0 := by omega
          by_cases hfl : fl = 0
          · subst hfl
            go_wp2_with fail
            refine (once_some C1.out 3 (by omega)).mono ?_
            rintro e w2 ⟨ba, s2, rfl, c2, n2⟩
            have C2 : Hid (CurAt a len cap zs B w2 s2) := c2
            have N2 : Hid (Only B w0 w2) := N1.out.trans n2
            have S2 : Hid (Strs B w2 (.slice (some ⟨gn, 0, none⟩) q cn) q) := S1.out.only n2
            have I2 : Hid (Ints B w2 (.slice (some ⟨gt, 0, none⟩) q ct) q) := I1.out.only n2
            clear c2 n2
            cases ba
            · go_wp2_with fail
              refine (pick_text (curAt_alloc C2.out _) [⟨#[120]⟩, ⟨#[121]⟩, ⟨#[122]⟩, ⟨#[102]⟩, ⟨#[103]⟩] w2.heap.size 5 rfl (by omega) (by omega) (by simp) (by have := C2.out.size; omega) (row_new w2 [⟨#[120]⟩, ⟨#[121]⟩, ⟨#[122]⟩, ⟨#[102]⟩, ⟨#[103]⟩] 9 _ rfl)).mono ?_
              rintro e w3 ⟨X, s3, hm3, rfl, c3, no3⟩
              have n3 : Only B w2 w3 := (only_alloc w2 _).trans no3
              have hzX : Fit9 X := (by decide : ∀ t ∈ ([⟨#[120]⟩, ⟨#[121]⟩, ⟨#[122]⟩, ⟨#[102]⟩, ⟨#[103]⟩] : List ByteArray), Fit9 t) X hm3
              have C3 : Hid (CurAt a len cap zs B w3 s3) := c3
              have N3 : Hid (Only B w0 w3) := N2.out.trans n3
              have S3 : Hid (Strs B w3 (.slice (some ⟨gn, 0, none⟩) q cn) q) := S2.out.only n3
              have I3 : Hid (Ints B w3 (.slice (some ⟨gt, 0, none⟩) q ct) q) := I2.out.only n3
              clear c3 n3 no3 hm3
              by_cases ht0 : ty = 0
              · subst ht0
                go_wp2_with fail
                refine (once_some C3.out 4 (by omega)).mono ?_
                rintro e w4 ⟨bn, s4, rfl, c4, n4⟩
                have C4 : Hid (CurAt a len cap zs B w4 s4) := c4
                have N4 : Hid (Only B w0 w4) := N3.out.trans n4
                have S4 : Hid (Strs B w4 (.slice (some ⟨gn, 0, none⟩) q cn) q) := S3.out.only n4
                have I4 : Hid (Ints B w4 (.slice (some ⟨gt, 0, none⟩) q ct) q) := I3.out.only n4
                clear c4 n4
                cases bn
                · go_wp2_with fail
                  refine (num_at f HG.out a len cap zs B w4 _ deep (.slice (some ⟨gn, 0, none⟩) q cn) (.slice (some ⟨gt, 0, none⟩) q ct) q C4.out hd1 hdf (by omega) (by omega) (by omega) (by omega) S4.out I4.out).mono ?_
                  intro e we hde
                  have D : Hid (DrawEnd a len cap zs B w0 (4 ^ (f + 1)) e we) := hde.more N4.out (Nat.le_refl _)
                  obtain ⟨ve, le, se, rfl, -⟩ := hde
                  go_wp2
                  go_ret
                  exact D.out
                · go_wp2_with fail
                  refine (below_some C4.out 50 (by omega) (by omega)).mono ?_
                  rintro e w5 ⟨Z, s5, rfl, hr5, hq5, c5, n5⟩
                  have C5 : Hid (CurAt a len cap zs B w5 s5) := c5
                  have N5 : Hid (Only B w0 w5) := N4.out.trans n5
                  have S5 : Hid (Strs B w5 (.slice (some ⟨gn, 0, none⟩) q cn) q) := S4.out.only n5
                  have I5 : Hid (Ints B w5 (.slice (some ⟨gt, 0, none⟩) q ct) q) := I4.out.only n5
                  clear c5 n5
                  go_wp2_with fail
                  refine (pick_int (curAt_alloc C5.out _) [0, 1, 2, 3, 7, 65535, Z] w5.heap.size 7 rfl (by omega) (by omega) (by simp) (by have := C5.out.size; omega) (row_ints w5 [0, 1, 2, 3, 7, 65535, Z] 3 _ rfl)).mono ?_
                  rintro e w6 ⟨V, s6, hm6, rfl, c6, no6⟩
                  have D : Hid (DrawEnd a len cap zs B w0 (4 ^ (f + 1)) (.returned (.slice (some ⟨w6.heap.size, 0, none⟩) 1 1)) (w6.alloc (.cells #[.int .i64 2, .int .i64 0, .int .i64 0, .int .i64 0, .int .i64 V, .string ⟨#[]⟩, .string ⟨#[]⟩] 58))) := one_end ⟨2, 0, 0, 0, V, ⟨#[]⟩, ⟨#[]⟩⟩ (N5.out.trans ((only_alloc w5 _).trans no6)) c6 hMM (trim_node (by decide) (by decide))
                  clear c6 no6 hm6
                  go_wp2_with fail
                  refine (int_at V w6).mono ?_
                  rintro e we ⟨rfl, rfl⟩
                  go_wp2
                  go_ret
                  exact D.out
              have g0 : (ty == 0) = false := by simpa using ht0
              by_cases ht1 : ty = 1
              · subst ht1
                obtain ⟨ns4, hl4, hgB4, hgw4, hz4, hcc4⟩ := S3.out.cells
                have HZ4 : Hid (∀ t ∈ ns4, Fit9 t) := sizes_mem hl4 hz4
                have HCC4 : Hid (_) := hcc4
                have hBw4 := C3.out.size
                clear hcc4 hz4
                go_wp2_with (at_builtin; refine grow_str _ rfl _ _ rfl w3.heap.size _ [] rfl str_empty (by intro e; cases e) gn (q) cn ns4 rfl hl4 (fun q hq => old_cell hgw4 (HCC4.out q hq) _) (q) (by simp) (by omega) (by simp) ?_)
                intro gg4 cc4 u4 oo4 bb4
                have zz4 := bb4.size
                have OO4 : Hid (ownS u4 w3.heap.size (.slice (some ⟨gg4, 0, none⟩) (q) cc4) ns4) := oo4
                have BB4 : Hid (Below w3.heap.size w3 u4) := ((Below.refl _ w3).alloc (Nat.le_refl _) _).trans bb4
                have hu4 : w3.heap.size < u4.heap.size := by simp at zz4; omega
                clear oo4 bb4 zz4
                go_wp2_with (at_builtin; refine grow_str _ rfl _ _ rfl w3.heap.size _ ns4 rfl (World.ownsRow.alloc OO4.out _) (by intro e; cases e) u4.heap.size 1 1 [X] rfl rfl (row_new u4 [X] 9 _ rfl) (q + 1) (by rw [hl4]) (by omega) (by simp; omega) ?_)
                intro hh4 kk4 w4 pp4 dd4
                have eb4 : Below w3.heap.size w3 w4 := (BB4.out.alloc (by omega) _).trans dd4
                have n4 : Only B w3 w4 := Only.of_below eb4
                have C4 : Hid (CurAt a len cap zs B w4 _) := curAt_below C3.out eb4 hBw4
                have N4 : Hid (Only B w0 w4) := N3.out.trans n4
                have S4 : Hid (Strs B w4 (.slice (some ⟨gn, 0, none⟩) q cn) q) := S3.out.only n4
                have I4 : Hid (Ints B w4 (.slice (some ⟨gt, 0, none⟩) q ct) q) := I3.out.only n4
                have E4xa : Hid (Strs B w4 (.slice (some ⟨hh4, 0, none⟩) (q + 1) kk4) (q + 1)) := ownS.strs pp4 (by simp [hl4]) hBw4 (by intro t ht; rcases List.mem_append.1 ht with ht | ht; exact HZ4.out t ht; simp at ht; subst ht; exact hzX)
                clear n4 eb4 pp4 dd4 OO4 BB4 HCC4 HZ4
                obtain ⟨ns5, hl5, hgB5, hgw5, hcc5⟩ := I4.out.cells
                have HCC5 : Hid (_) := hcc5
                have hBw5 := C4.out.size
                clear hcc5
                go_wp2_with (at_builtin; refine grow_num _ rfl _ _ rfl w4.heap.size _ [] rfl num_empty (by intro e; cases e) gt (q) ct ns5 rfl hl5 (fun q hq => old_cell hgw5 (HCC5.out q hq) _) (q) (by simp) (by omega) (by simp) ?_)
                intro gg5 cc5 u5 oo5 bb5
                have zz5 := bb5.size
                have OO5 : Hid (ownN u5 w4.heap.size (.slice (some ⟨gg5, 0, none⟩) (q) cc5) ns5) := oo5
                have BB5 : Hid (Below w4.heap.size w4 u5) := ((Below.refl _ w4).alloc (Nat.le_refl _) _).trans bb5
                have hu5 : w4.heap.size < u5.heap.size := by simp at zz5; omega
                clear oo5 bb5 zz5
                go_wp2_with (at_builtin; refine grow_num _ rfl _ _ rfl w4.heap.size _ ns5 rfl (World.ownsRow.alloc OO5.out _) (by intro e; cases e) u5.heap.size 1 1 [0] rfl rfl (row_ints u5 [0] 3 _ rfl) (q + 1) (by rw [hl5]) (by omega) (by simp; omega) ?_)
                intro hh5 kk5 w5 pp5 dd5
                have eb5 : Below w4.heap.size w4 w5 := (BB5.out.alloc (by omega) _).trans dd5
                have n5 : Only B w4 w5 := Only.of_below eb5
                have C5 : Hid (CurAt a len cap zs B w5 _) := curAt_below C4.out eb5 hBw5
                have N5 : Hid (Only B w0 w5) := N4.out.trans n5
                have S5 : Hid (Strs B w5 (.slice (some ⟨gn, 0, none⟩) q cn) q) := S4.out.only n5
                have I5 : Hid (Ints B w5 (.slice (some ⟨gt, 0, none⟩) q ct) q) := I4.out.only n5
                have E5xa : Hid (Strs B w5 (.slice (some ⟨hh4, 0, none⟩) (q + 1) kk4) (q + 1)) := E4xa.out.only n5
                have E5xb : Hid (Ints B w5 (.slice (some ⟨hh5, 0, none⟩) (q + 1) kk5) (q + 1)) := ownN.ints pp5 (by simp [hl5]) hBw5
                clear n5 eb5 pp5 dd5 OO5 BB5 HCC5
                go_wp2_with fail
                refine (HG.out a len cap zs B w5 _ 0 (deep - 1) (.slice (some ⟨hh4, 0, none⟩) (q + 1) kk4) (.slice (some ⟨hh5, 0, none⟩) (q + 1) kk5) (q + 1) C5.out (mu_less1 0 hd1 hdf) (by omega) (by omega) (by omega) (by omega) E5xa.out E5xb.out).mono ?_
                rintro e w6 ⟨v6, l6, s6, rfl, o6, p6, m6, t6, c6, n6⟩
                obtain ⟨b6, g6, k6, sp6, rfl, -⟩ := ownNod_form o6
                have O6x6 : Hid (ownNod w6 w0.heap.size (.slice b6 l6.length k6) l6) := ownNod_base o6 N5.out.grow
                have T6 : Hid (Trim l6) := t6
                have C6 : Hid (CurAt a len cap zs B w6 s6) := c6
                have N6 : Hid (Only B w0 w6) := N5.out.trans n6
                have S6 : Hid (Strs B w6 (.slice (some ⟨gn, 0, none⟩) q cn) q) := S5.out.only n6
                have I6 : Hid (Ints B w6 (.slice (some ⟨gt, 0, none⟩) q ct) q) := I5.out.only n6
                have E6xa : Hid (Strs B w6 (.slice (some ⟨hh4, 0, none⟩) (q + 1) kk4) (q + 1)) := E5xa.out.only n6
                have E6xb : Hid (Ints B w6 (.slice (some ⟨hh5, 0, none⟩) (q + 1) kk5) (q + 1)) := E5xb.out.only n6
                clear c6 n6 o6 t6
                have hP := HP.out
                go_wp2_with fail
                refine (make1 ⟨3, 0, 0, 0, 0, X, ⟨#[]⟩⟩ (trim_node (hzX) (by decide)) w6 w0.heap.size (.slice b6 l6.length k6) l6 O6x6.out p6 T6.out (by omega)).mono ?_
                rintro e we ⟨ve, le, rfl, oe, qe, te, be⟩
                have D : Hid (DrawEnd a len cap zs B w0 (4 ^ (f + 1)) (.returned ve) we) := draw_end N6.out C6.out be oe (by omega) (by omega) te
                clear be oe te
                go_wp2
                go_ret
                exact D.out
              have g1 : (ty == 1) = false := by simpa using ht1
              by_cases ht2 : ty = 2
              · subst ht2
                go_wp2_with fail
                refine (HG.out a len cap zs B w3 _ 0 (deep - 1) (.slice (some ⟨gn, 0, none⟩) q cn) (.slice (some ⟨gt, 0, none⟩) q ct) (q) C3.out (mu_less1 0 hd1 hdf) (by omega) (by omega) (by omega) (by omega) S3.out I3.out).mono ?_
                rintro e w4 ⟨v4, l4, s4, rfl, o4, p4, m4, t4, c4, n4⟩
                obtain ⟨b4, g4, k4, sp4, rfl, -⟩ := ownNod_form o4
                have O4x4 : Hid (ownNod w4 w0.heap.size (.slice b4 l4.length k4) l4) := ownNod_base o4 N3.out.grow
                have T4 : Hid (Trim l4) := t4
                have C4 : Hid (CurAt a len cap zs B w4 s4) := c4
                have N4 : Hid (Only B w0 w4) := N3.out.trans n4
                have S4 : Hid (Strs B w4 (.slice (some ⟨gn, 0, none⟩) q cn) q) := S3.out.only n4
                have I4 : Hid (Ints B w4 (.slice (some ⟨gt, 0, none⟩) q ct) q) := I3.out.only n4
                clear c4 n4 o4 t4
                go_wp2_with fail
                refine (HG.out a len cap zs B w4 _ 0 (deep - 2) (.slice (some ⟨gn, 0, none⟩) q cn) (.slice (some ⟨gt, 0, none⟩) q ct) (q) C4.out (mu_less2 0 hd1 hdf) (by omega) (by omega) (by omega) (by omega) S4.out I4.out).mono ?_
                rintro e w5 ⟨v5, l5, s5, rfl, o5, p5, m5, t5, c5, n5⟩
                obtain ⟨b5, g5, k5, sp5, rfl, -⟩ := ownNod_form o5
                have O5x5 : Hid (ownNod w5 w0.heap.size (.slice b5 l5.length k5) l5) := ownNod_base o5 N4.out.grow
                have T5 : Hid (Trim l5) := t5
                have C5 : Hid (CurAt a len cap zs B w5 s5) := c5
                have N5 : Hid (Only B w0 w5) := N4.out.trans n5
                have S5 : Hid (Strs B w5 (.slice (some ⟨gn, 0, none⟩) q cn) q) := S4.out.only n5
                have I5 : Hid (Ints B w5 (.slice (some ⟨gt, 0, none⟩) q ct) q) := I4.out.only n5
                have O5x4 : Hid (ownNod w5 w0.heap.size (.slice b4 l4.length k4) l4) := ownNod_only O4x4.out n5 hBw
                clear c5 n5 o5 t5
                have hP := HP.out
                go_wp2_with fail
                refine (make2 ⟨9, 0, 0, 0, 0, ⟨#[]⟩, ⟨#[]⟩⟩ (trim_node (by decide) (by decide)) w5 w0.heap.size (.slice b4 l4.length k4) (.slice b5 l5.length k5) l4 l5 O5x4.out O5x5.out p4 p5 T4.out T5.out (by omega)).mono ?_
                rintro e we ⟨ve, le, rfl, oe, qe, te, be⟩
                have D : Hid (DrawEnd a len cap zs B w0 (4 ^ (f + 1)) (.returned ve) we) := draw_end N5.out C5.out be oe (by omega) (by omega) te
                clear be oe te
                go_wp2
                go_ret
                exact D.out
              have g2 : (ty == 2) = false := by simpa using ht2
              by_cases ht3 : ty = 3
              · subst ht3
                go_wp2_with fail
                refine (once_some C3.out 3 (by omega)).mono ?_
                rintro e w4 ⟨bq, s4, rfl, c4, n4⟩
                have C4 : Hid (CurAt a len cap zs B w4 s4) := c4
                have N4 : Hid (Only B w0 w4) := N3.out.trans n4
                have S4 : Hid (Strs B w4 (.slice (some ⟨gn, 0, none⟩) q cn) q) := S3.out.only n4
                have I4 : Hid (Ints B w4 (.slice (some ⟨gt, 0, none⟩) q ct) q) := I3.out.only n4
                clear c4 n4
                cases bq
                · go_wp2_with fail
                  refine (HG.out a len cap zs B w4 _ 0 (deep - 2) (.slice (some ⟨gn, 0, none⟩) q cn) (.slice (some ⟨gt, 0, none⟩) q ct) (q) C4.out (mu_less2 0 hd1 hdf) (by omega) (by omega) (by omega) (by omega) S4.out I4.out).mono ?_
                  rintro e w5 ⟨v5, l5, s5, rfl, o5, p5, m5, t5, c5, n5⟩
                  obtain ⟨b5, g5, k5, sp5, rfl, -⟩ := ownNod_form o5
                  have O5x5 : Hid (ownNod w5 w0.heap.size (.slice b5 l5.length k5) l5) := ownNod_base o5 N4.out.grow
                  have T5 : Hid (Trim l5) := t5
                  have C5 : Hid (CurAt a len cap zs B w5 s5) := c5
                  have N5 : Hid (Only B w0 w5) := N4.out.trans n5
                  have S5 : Hid (Strs B w5 (.slice (some ⟨gn, 0, none⟩) q cn) q) := S4.out.only n5
                  have I5 : Hid (Ints B w5 (.slice (some ⟨gt, 0, none⟩) q ct) q) := I4.out.only n5
                  clear c5 n5 o5 t5
                  go_wp2_with fail
                  refine (HG.out a len cap zs B w5 _ 3 (deep - 1) (.slice (some ⟨gn, 0, none⟩) q cn) (.slice (some ⟨gt, 0, none⟩) q ct) (q) C5.out (mu_less1 3 hd1 hdf) (by omega) (by omega) (by omega) (by omega) S5.out I5.out).mono ?_
                  rintro e w6 ⟨v6, l6, s6, rfl, o6, p6, m6, t6, c6, n6⟩
                  obtain ⟨b6, g6, k6, sp6, rfl, -⟩ := ownNod_form o6
                  have O6x6 : Hid (ownNod w6 w0.heap.size (.slice b6 l6.length k6) l6) := ownNod_base o6 N5.out.grow
                  have T6 : Hid (Trim l6) := t6
                  have C6 : Hid (CurAt a len cap zs B w6 s6) := c6
                  have N6 : Hid (Only B w0 w6) := N5.out.trans n6
                  have S6 : Hid (Strs B w6 (.slice (some ⟨gn, 0, none⟩) q cn) q) := S5.out.only n6
                  have I6 : Hid (Ints B w6 (.slice (some ⟨gt, 0, none⟩) q ct) q) := I5.out.only n6
                  have O6x5 : Hid (ownNod w6 w0.heap.size (.slice b5 l5.length k5) l5) := ownNod_only O5x5.out n6 hBw
                  clear c6 n6 o6 t6
                  have hP := HP.out
                  go_wp2_with fail
                  refine (make2 ⟨13, 0, 0, 0, 0, ⟨#[]⟩, ⟨#[]⟩⟩ (trim_node (by decide) (by decide)) w6 w0.heap.size (.slice b5 l5.length k5) (.slice b6 l6.length k6) l5 l6 O6x5.out O6x6.out p5 p6 T5.out T6.out (by omega)).mono ?_
                  rintro e we ⟨ve, le, rfl, oe, qe, te, be⟩
                  have D : Hid (DrawEnd a len cap zs B w0 (4 ^ (f + 1)) (.returned ve) we) := draw_end N6.out C6.out be oe (by omega) (by omega) te
                  clear be oe te
                  go_wp2
                  go_ret
                  exact D.out
                · have D : Hid (DrawEnd a len cap zs B w0 (4 ^ (f + 1)) (.returned (.slice (some ⟨w4.heap.size, 0, none⟩) 1 1)) (w4.alloc (.cells #[.int .i64 12, .int .i64 0, .int .i64 0, .int .i64 0, .int .i64 0, .string ⟨#[]⟩, .string ⟨#[]⟩] 58))) := one_end ⟨12, 0, 0, 0, 0, ⟨#[]⟩, ⟨#[]⟩⟩ N4.out C4.out hMM (trim_node (by decide) (by decide))
                  go_wp2
                  go_ret
                  exact D.out
              have g3 : (ty == 3) = false := by simpa using ht3
              clear ht0 ht1 ht2 ht3
              go_wp2_with fail
              refine (HG.out a len cap zs B w3 _ 0 (deep - 1) (.slice (some ⟨gn, 0, none⟩) q cn) (.slice (some ⟨gt, 0, none⟩) q ct) (q) C3.out (mu_less1 0 hd1 hdf) (by omega) (by omega) (by omega) (by omega) S3.out I3.out).mono ?_
              rintro e w4 ⟨v4, l4, s4, rfl, o4, p4, m4, t4, c4, n4⟩
              obtain ⟨b4, g4, k4, sp4, rfl, -⟩ := ownNod_form o4
              have O4x4 : Hid (ownNod w4 w0.heap.size (.slice b4 l4.length k4) l4) := ownNod_base o4 N3.out.grow
              have T4 : Hid (Trim l4) := t4
              have C4 : Hid (CurAt a len cap zs B w4 s4) := c4
              have N4 : Hid (Only B w0 w4) := N3.out.trans n4
              have S4 : Hid (Strs B w4 (.slice (some ⟨gn, 0, none⟩) q cn) q) := S3.out.only n4
              have I4 : Hid (Ints B w4 (.slice (some ⟨gt, 0, none⟩) q ct) q) := I3.out.only n4
              clear c4 n4 o4 t4
              have hP := HP.out
              go_wp2_with fail
              refine (make1 ⟨15, 0, 0, 0, 0, ⟨#[]⟩, ⟨#[]⟩⟩ (trim_node (by decide) (by decide)) w4 w0.heap.size (.slice b4 l4.length k4) l4 O4x4.out p4 T4.out (by omega)).mono ?_
              rintro e we ⟨ve, le, rfl, oe, qe, te, be⟩
              have D : Hid (DrawEnd a len cap zs B w0 (4 ^ (f + 1)) (.returned ve) we) := draw_end N4.out C4.out be oe (by omega) (by omega) te
              clear be oe te
              go_wp2
              go_ret
              exact D.out
            · go_wp2_with fail
              refine (any_at f HG.out a len cap zs B w2 _ ty deep (.slice (some ⟨gn, 0, none⟩) q cn) (.slice (some ⟨gt, 0, none⟩) q ct) q C2.out hd1 hdf (by omega) (by omega) (by omega) (by omega) S2.out I2.out).mono ?_
              intro e we hde
              have D : Hid (DrawEnd a len cap zs B w0 (4 ^ (f + 1)) e we) := hde.more N2.out (Nat.le_refl _)
              obtain ⟨ve, le, se, rfl, -⟩ := hde
              go_wp2
              go_ret
              exact D.out
          · have hfl2 : (0 : Int) < fl := by omega
            go_wp2_with fail
            refine (once_some C1.out 3 (by omega)).mono ?_
            rintro e w2 ⟨bv, s2, rfl, c2, n2⟩
            have C2 : Hid (CurAt a len cap zs B w2 s2) := c2
            have N2 : Hid (Only B w0 w2) := N1.out.trans n2
            have S2 : Hid (Strs B w2 (.slice (some ⟨gn, 0, none⟩) q cn) q) := S1.out.only n2
            have I2 : Hid (Ints B w2 (.slice (some ⟨gt, 0, none⟩) q ct) q) := I1.out.only n2
            have E2xf : Hid (Strs B w2 (.slice (some ⟨gf, 0, none⟩) fl cf) (fl)) := E1xf.out.only n2
            clear c2 n2
            cases bv
            · go_wp2_with fail
              refine (once_some C2.out 3 (by omega)).mono ?_
              rintro e w3 ⟨ba, s3, rfl, c3, n3⟩
              have C3 : Hid (CurAt a len cap zs B w3 s3) := c3
              have N3 : Hid (Only B w0 w3) := N2.out.trans n3
              have S3 : Hid (Strs B w3 (.slice (some ⟨gn, 0, none⟩) q cn) q) := S2.out.only n3
              have I3 : Hid (Ints B w3 (.slice (some ⟨gt, 0, none⟩) q ct) q) := I2.out.only n3
              have E3xf : Hid (Strs B w3 (.slice (some ⟨gf, 0, none⟩) fl cf) (fl)) := E2xf.out.only n3
              clear c3 n3
              cases ba
              · go_wp2_with fail
                refine (pick_text (curAt_alloc C3.out _) [⟨#[120]⟩, ⟨#[121]⟩, ⟨#[122]⟩, ⟨#[102]⟩, ⟨#[103]⟩] w3.heap.size 5 rfl (by omega) (by omega) (by simp) (by have := C3.out.size; omega) (row_new w3 [⟨#[120]⟩, ⟨#[121]⟩, ⟨#[122]⟩, ⟨#[102]⟩, ⟨#[103]⟩] 9 _ rfl)).mono ?_
                rintro e w4 ⟨X, s4, hm4, rfl, c4, no4⟩
                have n4 : Only B w3 w4 := (only_alloc w3 _).trans no4
                have hzX : Fit9 X := (by decide : ∀ t ∈ ([⟨#[120]⟩, ⟨#[121]⟩, ⟨#[122]⟩, ⟨#[102]⟩, ⟨#[103]⟩] : List ByteArray), Fit9 t) X hm4
                have C4 : Hid (CurAt a len cap zs B w4 s4) := c4
                have N4 : Hid (Only B w0 w4) := N3.out.trans n4
                have S4 : Hid (Strs B w4 (.slice (some ⟨gn, 0, none⟩) q cn) q) := S3.out.only n4
                have I4 : Hid (Ints B w4 (.slice (some ⟨gt, 0, none⟩) q ct) q) := I3.out.only n4
                have E4xf : Hid (Strs B w4 (.slice (some ⟨gf, 0, none⟩) fl cf) (fl)) := E3xf.out.only n4
                clear c4 n4 no4 hm4
                by_cases ht0 : ty = 0
                · subst ht0
                  go_wp2_with fail
                  refine (once_some C4.out 4 (by omega)).mono ?_
                  rintro e w5 ⟨bn, s5, rfl, c5, n5⟩
                  have C5 : Hid (CurAt a len cap zs B w5 s5) := c5
                  have N5 : Hid (Only B w0 w5) := N4.out.trans n5
                  have S5 : Hid (Strs B w5 (.slice (some ⟨gn, 0, none⟩) q cn) q) := S4.out.only n5
                  have I5 : Hid (Ints B w5 (.slice (some ⟨gt, 0, none⟩) q ct) q) := I4.out.only n5
                  have E5xf : Hid (Strs B w5 (.slice (some ⟨gf, 0, none⟩) fl cf) (fl)) := E4xf.out.only n5
                  clear c5 n5
                  cases bn
                  · go_wp2_with fail
                    refine (num_at f HG.out a len cap zs B w5 _ deep (.slice (some ⟨gn, 0, none⟩) q cn) (.slice (some ⟨gt, 0, none⟩) q ct) q C5.out hd1 hdf (by omega) (by omega) (by omega) (by omega) S5.out I5.out).mono ?_
                    intro e we hde
                    have D : Hid (DrawEnd a len cap zs B w0 (4 ^ (f + 1)) e we) := hde.more N5.out (Nat.le_refl _)
                    obtain ⟨ve, le, se, rfl, -⟩ := hde
                    go_wp2
                    go_ret
                    exact D.out
                  · go_wp2_with fail
                    refine (below_some C5.out 50 (by omega) (by omega)).mono ?_
                    rintro e w6 ⟨Z, s6, rfl, hr6, hq6, c6, n6⟩
                    have C6 : Hid (CurAt a len cap zs B w6 s6) := c6
                    have N6 : Hid (Only B w0 w6) := N5.out.trans n6
                    have S6 : Hid (Strs B w6 (.slice (some ⟨gn, 0, none⟩) q cn) q) := S5.out.only n6
                    have I6 : Hid (Ints B w6 (.slice (some ⟨gt, 0, none⟩) q ct) q) := I5.out.only n6
                    have E6xf : Hid (Strs B w6 (.slice (some ⟨gf, 0, none⟩) fl cf) (fl)) := E5xf.out.only n6
                    clear c6 n6
                    go_wp2_with fail
                    refine (pick_int (curAt_alloc C6.out _) [0, 1, 2, 3, 7, 65535, Z] w6.heap.size 7 rfl (by omega) (by omega) (by simp) (by have := C6.out.size; omega) (row_ints w6 [0, 1, 2, 3, 7, 65535, Z] 3 _ rfl)).mono ?_
                    rintro e w7 ⟨V, s7, hm7, rfl, c7, no7⟩
                    have D : Hid (DrawEnd a len cap zs B w0 (4 ^ (f + 1)) (.returned (.slice (some ⟨w7.heap.size, 0, none⟩) 1 1)) (w7.alloc (.cells #[.int .i64 2, .int .i64 0, .int .i64 0, .int .i64 0, .int .i64 V, .string ⟨#[]⟩, .string ⟨#[]⟩] 58))) := one_end ⟨2, 0, 0, 0, V, ⟨#[]⟩, ⟨#[]⟩⟩ (N6.out.trans ((only_alloc w6 _).trans no7)) c7 hMM (trim_node (by decide) (by decide))
                    clear c7 no7 hm7
                    go_wp2_with fail
                    refine (int_at V w7).mono ?_
                    rintro e we ⟨rfl, rfl⟩
                    go_wp2
                    go_ret
                    exact D.out
                have g0 : (ty == 0) = false := by simpa using ht0
                by_cases ht1 : ty = 1
                · subst ht1
                  obtain ⟨ns5, hl5, hgB5, hgw5, hz5, hcc5⟩ := S4.out.cells
                  have HZ5 : Hid (∀ t ∈ ns5, Fit9 t) := sizes_mem hl5 hz5
                  have HCC5 : Hid (_) := hcc5
                  have hBw5 := C4.out.size
                  clear hcc5 hz5
                  go_wp2_with (at_builtin; refine grow_str _ rfl _ _ rfl w4.heap.size _ [] rfl str_empty (by intro e; cases e) gn (q) cn ns5 rfl hl5 (fun q hq => old_cell hgw5 (HCC5.out q hq) _) (q) (by simp) (by omega) (by simp) ?_)
                  intro gg5 cc5 u5 oo5 bb5
                  have zz5 := bb5.size
                  have OO5 : Hid (ownS u5 w4.heap.size (.slice (some ⟨gg5, 0, none⟩) (q) cc5) ns5) := oo5
                  have BB5 : Hid (Below w4.heap.size w4 u5) := ((Below.refl _ w4).alloc (Nat.le_refl _) _).trans bb5
                  have hu5 : w4.heap.size < u5.heap.size := by simp at zz5; omega
                  clear oo5 bb5 zz5
                  go_wp2_with (at_builtin; refine grow_str _ rfl _ _ rfl w4.heap.size _ ns5 rfl (World.ownsRow.alloc OO5.out _) (by intro e; cases e) u5.heap.size 1 1 [X] rfl rfl (row_new u5 [X] 9 _ rfl) (q + 1) (by rw [hl5]) (by omega) (by simp; omega) ?_)
                  intro hh5 kk5 w5 pp5 dd5
                  have eb5 : Below w4.heap.size w4 w5 := (BB5.out.alloc (by omega) _).trans dd5
                  have n5 : Only B w4 w5 := Only.of_below eb5
                  have C5 : Hid (CurAt a len cap zs B w5 _) := curAt_below C4.out eb5 hBw5
                  have N5 : Hid (Only B w0 w5) := N4.out.trans n5
                  have S5 : Hid (Strs B w5 (.slice (some ⟨gn, 0, none⟩) q cn) q) := S4.out.only n5
                  have I5 : Hid (Ints B w5 (.slice (some ⟨gt, 0, none⟩) q ct) q) := I4.out.only n5
                  have E5xf : Hid (Strs B w5 (.slice (some ⟨gf, 0, none⟩) fl cf) (fl)) := E4xf.out.only n5
                  have E5xa : Hid (Strs B w5 (.slice (some ⟨hh5, 0, none⟩) (q + 1) kk5) (q + 1)) := ownS.strs pp5 (by simp [hl5]) hBw5 (by intro t ht; rcases List.mem_append.1 ht with ht | ht; exact HZ5.out t ht; simp at ht; subst ht; exact hzX)
                  clear n5 eb5 pp5 dd5 OO5 BB5 HCC5 HZ5
                  obtain ⟨ns6, hl6, hgB6, hgw6, hcc6⟩ := I5.out.cells
                  have HCC6 : Hid (_) := hcc6
                  have hBw6 := C5.out.size
                  clear hcc6
                  go_wp2_with (at_builtin; refine grow_num _ rfl _ _ rfl w5.heap.size _ [] rfl num_empty (by intro e; cases e) gt (q) ct ns6 rfl hl6 (fun q hq => old_cell hgw6 (HCC6.out q hq) _) (q) (by simp) (by omega) (by simp) ?_)
                  intro gg6 cc6 u6 oo6 bb6
                  have zz6 := bb6.size
                  have OO6 : Hid (ownN u6 w5.heap.size (.slice (some ⟨gg6, 0, none⟩) (q) cc6) ns6) := oo6
                  have BB6 : Hid (Below w5.heap.size w5 u6) := ((Below.refl _ w5).alloc (Nat.le_refl _) _).trans bb6
                  have hu6 : w5.heap.size < u6.heap.size := by simp at zz6; omega
                  clear oo6 bb6 zz6
                  go_wp2_with (at_builtin; refine grow_num _ rfl _ _ rfl w5.heap.size _ ns6 rfl (World.ownsRow.alloc OO6.out _) (by intro e; cases e) u6.heap.size 1 1 [0] rfl rfl (row_ints u6 [0] 3 _ rfl) (q + 1) (by rw [hl6]) (by omega) (by simp; omega) ?_)
                  intro hh6 kk6 w6 pp6 dd6
                  have eb6 : Below w5.heap.size w5 w6 := (BB6.out.alloc (by omega) _).trans dd6
                  have n6 : Only B w5 w6 := Only.of_below eb6
                  have C6 : Hid (CurAt a len cap zs B w6 _) := curAt_below C5.out eb6 hBw6
                  have N6 : Hid (Only B w0 w6) := N5.out.trans n6
                  have S6 : Hid (Strs B w6 (.slice (some ⟨gn, 0, none⟩) q cn) q) := S5.out.only n6
                  have I6 : Hid (Ints B w6 (.slice (some ⟨gt, 0, none⟩) q ct) q) := I5.out.only n6
                  have E6xf : Hid (Strs B w6 (.slice (some ⟨gf, 0, none⟩) fl cf) (fl)) := E5xf.out.only n6
                  have E6xa : Hid (Strs B w6 (.slice (some ⟨hh5, 0, none⟩) (q + 1) kk5) (q + 1)) := E5xa.out.only n6
                  have E6xb : Hid (Ints B w6 (.slice (some ⟨hh6, 0, none⟩) (q + 1) kk6) (q + 1)) := ownN.ints pp6 (by simp [hl6]) hBw6
                  clear n6 eb6 pp6 dd6 OO6 BB6 HCC6
                  go_wp2_with fail
                  refine (HG.out a len cap zs B w6 _ 0 (deep - 1) (.slice (some ⟨hh5, 0, none⟩) (q + 1) kk5) (.slice (some ⟨hh6, 0, none⟩) (q + 1) kk6) (q + 1) C6.out (mu_less1 0 hd1 hdf) (by omega) (by omega) (by omega) (by omega) E6xa.out E6xb.out).mono ?_
                  rintro e w7 ⟨v7, l7, s7, rfl, o7, p7, m7, t7, c7, n7⟩
                  obtain ⟨b7, g7, k7, sp7, rfl, -⟩ := ownNod_form o7
                  have O7x7 : Hid (ownNod w7 w0.heap.size (.slice b7 l7.length k7) l7) := ownNod_base o7 N6.out.grow
                  have T7 : Hid (Trim l7) := t7
                  have C7 : Hid (CurAt a len cap zs B w7 s7) := c7
                  have N7 : Hid (Only B w0 w7) := N6.out.trans n7
                  have S7 : Hid (Strs B w7 (.slice (some ⟨gn, 0, none⟩) q cn) q) := S6.out.only n7
                  have I7 : Hid (Ints B w7 (.slice (some ⟨gt, 0, none⟩) q ct) q) := I6.out.only n7
                  have E7xf : Hid (Strs B w7 (.slice (some ⟨gf, 0, none⟩) fl cf) (fl)) := E6xf.out.only n7
                  have E7xa : Hid (Strs B w7 (.slice (some ⟨hh5, 0, none⟩) (q + 1) kk5) (q + 1)) := E6xa.out.only n7
                  have E7xb : Hid (Ints B w7 (.slice (some ⟨hh6, 0, none⟩) (q + 1) kk6) (q + 1)) := E6xb.out.only n7
                  clear c7 n7 o7 t7
                  have hP := HP.out
                  go_wp2_with fail
                  refine (make1 ⟨3, 0, 0, 0, 0, X, ⟨#[]⟩⟩ (trim_node (hzX) (by decide)) w7 w0.heap.size (.slice b7 l7.length k7) l7 O7x7.out p7 T7.out (by omega)).mono ?_
                  rintro e we ⟨ve, le, rfl, oe, qe, te, be⟩
                  have D : Hid (DrawEnd a len cap zs B w0 (4 ^ (f + 1)) (.returned ve) we) := draw_end N7.out C7.out be oe (by omega) (by omega) te
                  clear be oe te
                  go_wp2
                  go_ret
                  exact D.out
                have g1 : (ty == 1) = false := by simpa using ht1
                by_cases ht2 : ty = 2
                · subst ht2
                  go_wp2_with fail
                  refine (HG.out a len cap zs B w4 _ 0 (deep - 1) (.slice (some ⟨gn, 0, none⟩) q cn) (.slice (some ⟨gt, 0, none⟩) q ct) (q) C4.out (mu_less1 0 hd1 hdf) (by omega) (by omega) (by omega) (by omega) S4.out I4.out).mono ?_
                  rintro e w5 ⟨v5, l5, s5, rfl, o5, p5, m5, t5, c5, n5⟩
                  obtain ⟨b5, g5, k5, sp5, rfl, -⟩ := ownNod_form o5
                  have O5x5 : Hid (ownNod w5 w0.heap.size (.slice b5 l5.length k5) l5) := ownNod_base o5 N4.out.grow
                  have T5 : Hid (Trim l5) := t5
                  have C5 : Hid (CurAt a len cap zs B w5 s5) := c5
                  have N5 : Hid (Only B w0 w5) := N4.out.trans n5
                  have S5 : Hid (Strs B w5 (.slice (some ⟨gn, 0, none⟩) q cn) q) := S4.out.only n5
                  have I5 : Hid (Ints B w5 (.slice (some ⟨gt, 0, none⟩) q ct) q) := I4.out.only n5
                  have E5xf : Hid (Strs B w5 (.slice (some ⟨gf, 0, none⟩) fl cf) (fl)) := E4xf.out.only n5
                  clear c5 n5 o5 t5
                  go_wp2_with fail
                  refine (HG.out a len cap zs B w5 _ 0 (deep - 2) (.slice (some ⟨gn, 0, none⟩) q cn) (.slice (some ⟨gt, 0, none⟩) q ct) (q) C5.out (mu_less2 0 hd1 hdf) (by omega) (by omega) (by omega) (by omega) S5.out I5.out).mono ?_
                  rintro e w6 ⟨v6, l6, s6, rfl, o6, p6, m6, t6, c6, n6⟩
                  obtain ⟨b6, g6, k6, sp6, rfl, -⟩ := ownNod_form o6
                  have O6x6 : Hid (ownNod w6 w0.heap.size (.slice b6 l6.length k6) l6) := ownNod_base o6 N5.out.grow
                  have T6 : Hid (Trim l6) := t6
                  have C6 : Hid (CurAt a len cap zs B w6 s6) := c6
                  have N6 : Hid (Only B w0 w6) := N5.out.trans n6
                  have S6 : Hid (Strs B w6 (.slice (some ⟨gn, 0, none⟩) q cn) q) := S5.out.only n6
                  have I6 : Hid (Ints B w6 (.slice (some ⟨gt, 0, none⟩) q ct) q) := I5.out.only n6
                  have O6x5 : Hid (ownNod w6 w0.heap.size (.slice b5 l5.length k5) l5) := ownNod_only O5x5.out n6 hBw
                  have E6xf : Hid (Strs B w6 (.slice (some ⟨gf, 0, none⟩) fl cf) (fl)) := E5xf.out.only n6
                  clear c6 n6 o6 t6
                  have hP := HP.out
                  go_wp2_with fail
                  refine (make2 ⟨9, 0, 0, 0, 0, ⟨#[]⟩, ⟨#[]⟩⟩ (trim_node (by decide) (by decide)) w6 w0.heap.size (.slice b5 l5.length k5) (.slice b6 l6.length k6) l5 l6 O6x5.out O6x6.out p5 p6 T5.out T6.out (by omega)).mono ?_
                  rintro e we ⟨ve, le, rfl, oe, qe, te, be⟩
                  have D : Hid (DrawEnd a len cap zs B w0 (4 ^ (f + 1)) (.returned ve) we) := draw_end N6.out C6.out be oe (by omega) (by omega) te
                  clear be oe te
                  go_wp2
                  go_ret
                  exact D.out
                have g2 : (ty == 2) = false := by simpa using ht2
                by_cases ht3 : ty = 3
                · subst ht3
                  go_wp2_with fail
                  refine (once_some C4.out 3 (by omega)).mono ?_
                  rintro e w5 ⟨bq, s5, rfl, c5, n5⟩
                  have C5 : Hid (CurAt a len cap zs B w5 s5) := c5
                  have N5 : Hid (Only B w0 w5) := N4.out.trans n5
                  have S5 : Hid (Strs B w5 (.slice (some ⟨gn, 0, none⟩) q cn) q) := S4.out.only n5
                  have I5 : Hid (Ints B w5 (.slice (some ⟨gt, 0, none⟩) q ct) q) := I4.out.only n5
                  have E5xf : Hid (Strs B w5 (.slice (some ⟨gf, 0, none⟩) fl cf) (fl)) := E4xf.out.only n5
                  clear c5 n5
                  cases bq
                  · go_wp2_with fail
                    refine (HG.out a len cap zs B w5 _ 0 (deep - 2) (.slice (some ⟨gn, 0, none⟩) q cn) (.slice (some ⟨gt, 0, none⟩) q ct) (q) C5.out (mu_less2 0 hd1 hdf) (by omega) (by omega) (by omega) (by omega) S5.out I5.out).mono ?_
                    rintro e w6 ⟨v6, l6, s6, rfl, o6, p6, m6, t6, c6, n6⟩
                    obtain ⟨b6, g6, k6, sp6, rfl, -⟩ := ownNod_form o6
                    have O6x6 : Hid (ownNod w6 w0.heap.size (.slice b6 l6.length k6) l6) := ownNod_base o6 N5.out.grow
                    have T6 : Hid (Trim l6) := t6
                    have C6 : Hid (CurAt a len cap zs B w6 s6) := c6
                    have N6 : Hid (Only B w0 w6) := N5.out.trans n6
                    have S6 : Hid (Strs B w6 (.slice (some ⟨gn, 0, none⟩) q cn) q) := S5.out.only n6
                    have I6 : Hid (Ints B w6 (.slice (some ⟨gt, 0, none⟩) q ct) q) := I5.out.only n6
                    have E6xf : Hid (Strs B w6 (.slice (some ⟨gf, 0, none⟩) fl cf) (fl)) := E5xf.out.only n6
                    clear c6 n6 o6 t6
                    go_wp2_with fail
                    refine (HG.out a len cap zs B w6 _ 3 (deep - 1) (.slice (some ⟨gn, 0, none⟩) q cn) (.slice (some ⟨gt, 0, none⟩) q ct) (q) C6.out (mu_less1 3 hd1 hdf) (by omega) (by omega) (by omega) (by omega) S6.out I6.out).mono ?_
                    rintro e w7 ⟨v7, l7, s7, rfl, o7, p7, m7, t7, c7, n7⟩
                    obtain ⟨b7, g7, k7, sp7, rfl, -⟩ := ownNod_form o7
                    have O7x7 : Hid (ownNod w7 w0.heap.size (.slice b7 l7.length k7) l7) := ownNod_base o7 N6.out.grow
                    have T7 : Hid (Trim l7) := t7
                    have C7 : Hid (CurAt a len cap zs B w7 s7) := c7
                    have N7 : Hid (Only B w0 w7) := N6.out.trans n7
                    have S7 : Hid (Strs B w7 (.slice (some ⟨gn, 0, none⟩) q cn) q) := S6.out.only n7
                    have I7 : Hid (Ints B w7 (.slice (some ⟨gt, 0, none⟩) q ct) q) := I6.out.only n7
                    have O7x6 : Hid (ownNod w7 w0.heap.size (.slice b6 l6.length k6) l6) := ownNod_only O6x6.out n7 hBw
                    have E7xf : Hid (Strs B w7 (.slice (some ⟨gf, 0, none⟩) fl cf) (fl)) := E6xf.out.only n7
                    clear c7 n7 o7 t7
                    have hP := HP.out
                    go_wp2_with fail
                    refine (make2 ⟨13, 0, 0, 0, 0, ⟨#[]⟩, ⟨#[]⟩⟩ (trim_node (by decide) (by decide)) w7 w0.heap.size (.slice b6 l6.length k6) (.slice b7 l7.length k7) l6 l7 O7x6.out O7x7.out p6 p7 T6.out T7.out (by omega)).mono ?_
                    rintro e we ⟨ve, le, rfl, oe, qe, te, be⟩
                    have D : Hid (DrawEnd a len cap zs B w0 (4 ^ (f + 1)) (.returned ve) we) := draw_end N7.out C7.out be oe (by omega) (by omega) te
                    clear be oe te
                    go_wp2
                    go_ret
                    exact D.out
                  · have D : Hid (DrawEnd a len cap zs B w0 (4 ^ (f + 1)) (.returned (.slice (some ⟨w5.heap.size, 0, none⟩) 1 1)) (w5.alloc (.cells #[.int .i64 12, .int .i64 0, .int .i64 0, .int .i64 0, .int .i64 0, .string ⟨#[]⟩, .string ⟨#[]⟩] 58))) := one_end ⟨12, 0, 0, 0, 0, ⟨#[]⟩, ⟨#[]⟩⟩ N5.out C5.out hMM (trim_node (by decide) (by decide))
                    go_wp2
                    go_ret
                    exact D.out
                have g3 : (ty == 3) = false := by simpa using ht3
                clear ht0 ht1 ht2 ht3
                go_wp2_with fail
                refine (HG.out a len cap zs B w4 _ 0 (deep - 1) (.slice (some ⟨gn, 0, none⟩) q cn) (.slice (some ⟨gt, 0, none⟩) q ct) (q) C4.out (mu_less1 0 hd1 hdf) (by omega) (by omega) (by omega) (by omega) S4.out I4.out).mono ?_
                rintro e w5 ⟨v5, l5, s5, rfl, o5, p5, m5, t5, c5, n5⟩
                obtain ⟨b5, g5, k5, sp5, rfl, -⟩ := ownNod_form o5
                have O5x5 : Hid (ownNod w5 w0.heap.size (.slice b5 l5.length k5) l5) := ownNod_base o5 N4.out.grow
                have T5 : Hid (Trim l5) := t5
                have C5 : Hid (CurAt a len cap zs B w5 s5) := c5
                have N5 : Hid (Only B w0 w5) := N4.out.trans n5
                have S5 : Hid (Strs B w5 (.slice (some ⟨gn, 0, none⟩) q cn) q) := S4.out.only n5
                have I5 : Hid (Ints B w5 (.slice (some ⟨gt, 0, none⟩) q ct) q) := I4.out.only n5
                have E5xf : Hid (Strs B w5 (.slice (some ⟨gf, 0, none⟩) fl cf) (fl)) := E4xf.out.only n5
                clear c5 n5 o5 t5
                have hP := HP.out
                go_wp2_with fail
                refine (make1 ⟨15, 0, 0, 0, 0, ⟨#[]⟩, ⟨#[]⟩⟩ (trim_node (by decide) (by decide)) w5 w0.heap.size (.slice b5 l5.length k5) l5 O5x5.out p5 T5.out (by omega)).mono ?_
                rintro e we ⟨ve, le, rfl, oe, qe, te, be⟩
                have D : Hid (DrawEnd a len cap zs B w0 (4 ^ (f + 1)) (.returned ve) we) := draw_end N5.out C5.out be oe (by omega) (by omega) te
                clear be oe te
                go_wp2
                go_ret
                exact D.out
              · go_wp2_with fail
                refine (any_at f HG.out a len cap zs B w3 _ ty deep (.slice (some ⟨gn, 0, none⟩) q cn) (.slice (some ⟨gt, 0, none⟩) q ct) q C3.out hd1 hdf (by omega) (by omega) (by omega) (by omega) S3.out I3.out).mono ?_
                intro e we hde
                have D : Hid (DrawEnd a len cap zs B w0 (4 ^ (f + 1)) e we) := hde.more N3.out (Nat.le_refl _)
                obtain ⟨ve, le, se, rfl, -⟩ := hde
                go_wp2
                go_ret
                exact D.out
            · obtain ⟨vs, hvl, hvB, hvw, hvz, hvc⟩ := E2xf.out.cells
              have HVC : Hid (_) := hvc
              have HVZ : Hid (∀ t ∈ vs, Fit9 t) := sizes_mem hvl hvz
              clear hvc hvz
              go_wp2_with fail
              refine (pick_cap C2.out vs gf fl cf hvl (by omega) (by omega) hvw hvB HVC.out).mono ?_
              rintro e w3 ⟨V, s3, hm3, rfl, c3, n3⟩
              have hzV : Fit9 V := HVZ.out V hm3
              have D : Hid (DrawEnd a len cap zs B w0 (4 ^ (f + 1)) (.returned (.slice (some ⟨w3.heap.size, 0, none⟩) 1 1)) (w3.alloc (.cells #[.int .i64 1, .int .i64 0, .int .i64 0, .int .i64 0, .int .i64 0, .string V, .string ⟨#[]⟩] 58))) := one_end ⟨1, 0, 0, 0, 0, V, ⟨#[]⟩⟩ (N2.out.trans n3) c3 hMM (trim_node hzV (by decide))
              clear c3 n3 hm3 HVC HVZ
              go_wp2_with fail
              refine (var_at V w3).mono ?_
              rintro e we ⟨rfl, rfl⟩
              go_wp2
              go_ret
              exact D.out

/-- Every draw of a program comes to its end. -/
theorem gen_ok : ∀ f : Nat, GenC f
  | 0 => by
    intro a len cap zs B w s ty deep nv tv n h hm h1 h2 h3 h4 hs hi
    have : ty = 0 ∧ deep ≤ 0 := by
      unfold mu at hm
      split at hm
      · split at hm
        · rename_i x y; exact ⟨y, x⟩
        · omega
      · omega
    exact gen_all 0 1 a len cap zs B w s ty deep nv tv n h (Or.inl ⟨this.1, this.2, rfl⟩) (Or.inl this) h2 (by omega) (Or.inl this) (by omega) hs hi
  | f + 1 => by
    intro a len cap zs B w s ty deep nv tv n h hm h1 h2 h3 h4 hs hi
    rcases mu_cases hm with h | h5 | h5
    · rename_i hc
      refine (gen_all f 1 a len cap zs B w s ty deep nv tv n hc (Or.inl ⟨h.1, h.2, rfl⟩) (Or.inl h) h2 (by omega) (Or.inl h) (by omega) hs hi).mono ?_
      intro e w' hd
      exact hd.more (Only.refl B w) (pow_facts1 (f + 1))
    · exact gen_all f (4 ^ (f + 1)) a len cap zs B w s ty deep nv tv n h (Or.inr ⟨rfl, gen_ok f, Or.inl h5⟩) (Or.inr (by omega)) h2 (by omega) (Or.inr (by omega)) (by omega) hs hi
    · exact gen_all f (4 ^ (f + 1)) a len cap zs B w s ty deep nv tv n h (Or.inr ⟨rfl, gen_ok f, Or.inr h5⟩) (Or.inr (by omega)) h2 (by omega) (Or.inr (by omega)) (by omega) hs hi
end Go.Proofs.YtobijbhgpgnfkaaGreatDoor
