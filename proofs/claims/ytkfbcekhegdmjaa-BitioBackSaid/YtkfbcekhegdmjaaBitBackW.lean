/- The walk of the law BitioBack. -/
import Derived.Test.YtkfbcekhegdmjaaBitBackW1
namespace Go.Proofs.Ytkfbcekhegdmjaa
open Go.RowKit Go

theorem elemPcs : Try.prog.underlying 22 = some (.slice (Try.prog.elem 22)) := by kernel_rfl
theorem sizePcs (w : World) : (sizeOf (Try.prog.elem 22)).run Try.prog w = .ok 3 w := by kernel_rfl
theorem slice_pcs (a : Option Addr) (n cap c : Nat) (hc : c ≤ cap) (w : World) :
    (Instr.sliceAt 22 (.slice a n cap) none (some (.int .i64 (c : Int))) none).run Try.prog w = .ok (.slice a c cap) w := by
  rw [run_sliceAt_slice w _ _ _ _ _ elemPcs, run_slice_h w _ a n cap elemPcs .i64 c (by omega) (by omega), sizePcs]
  cases a <;> simp [Result.andThen, sliced, Addr.add]
theorem Pcs.take {w : World} {a : Option Addr} {n cap : Nat} {V N : Nat → Int} {A : Nat → Bool} (h : Pcs w a n cap V N A) (m : Nat) (hm : m ≤ n) : Pcs w a m cap V N A :=
  ⟨Nat.le_trans hm h.le, h.none, fun i hi => h.at_ i (Nat.lt_of_lt_of_le hi hm), h.v, h.n⟩

theorem Bit.wrap32' (a : Nat) (h : a < 4294967296) : IntKind.u32.wrap (a : Int) = (a : Int) := by rw [IntKind.wrap_u32]; omega
set_option maxRecDepth 100000 in
set_option maxHeartbeats 4000000 in
theorem back_core (a : Option Addr) (m m0 cap : Nat) (PV PN : Nat → Int) (PA : Nat → Bool) (w : World) (hP : Pcs w a m cap PV PN PA) (hm : (300 < m0 ∧ m = 300 ∧ m ≤ cap) ∨ (m0 ≤ 300 ∧ m = m0))
    (NB PL SZ VB : Nat → Nat) (h0 : NB 0 = 0 ∧ VB 0 = 0) (hpl : ∀ i, PL i = if PA i = true then NB i + (8 - NB i % 8) % 8 else NB i) (hsz : ∀ i, SZ i ≤ 32 ∧ PN i % 33 = (SZ i : Int)) (hnb : ∀ i, NB (i + 1) = PL i + SZ i) (hvb : ∀ i, VB (i + 1) = VB i + (PV i).toNat % 2 ^ SZ i * 2 ^ PL i)
    (hbd : ∀ i, i ≤ m → NB i ≤ 100000) (hmo : ∀ i, i ≤ m → NB i ≤ NB m) (hgot : ∀ i, i < m → VB m / 2 ^ PL i % 2 ^ SZ i = (PV i).toNat % 2 ^ SZ i) (hlt : VB m < 2 ^ NB m) :
    Calls Try.prog 7 #[.slice a m0 cap] w fun e w' => e = .returned (.bool true) ∧ Below w.heap.size w w' := by
  have HP := Lib.hid hP; clear hP
  have H0 := Lib.hid h0; clear h0
  have HPL := Lib.hid hpl; clear hpl
  have HSZ := Lib.hid hsz; clear hsz
  have HNB := Lib.hid hnb; clear hnb
  have HVB := Lib.hid hvb; clear hvb
  have HBD := Lib.hid hbd; clear hbd
  have HMO := Lib.hid hmo; clear hmo
  have HGOT := Lib.hid hgot; clear hgot
  have HLT := Lib.hid hlt; clear hlt
  have HMM : Hid (m ≤ 300) := by rcases hm with ⟨_, h, _⟩ | ⟨h, h'⟩ <;> (show m ≤ 300; omega)
  have HAW := Lib.hid (awake_any w)
  have HS : Hid ((300 < m0 ∧ m = 300 ∧ m ≤ cap) ∨ (m0 ≤ 300 ∧ m = m0)) := hm
  clear hm
  have hi0 := info_parts infoI
  obtain ⟨i0, hi, hz0, hz1, hz2⟩ := hi0
  rcases HS.out with ⟨q1, q2, q3⟩ | ⟨q1, q2⟩
  case' inl =>
    have hd : decide ((300 : Int) < (m0 : Int)) = true := decide_eq_true (by omega)
    have hsl : ∀ wx, (Instr.sliceAt 22 (.slice a m0 cap) none (some (.int .i64 300)) none).run Try.prog wx = .ok (.slice a m cap) wx := fun wx => by
      rw [q2]; exact slice_pcs a m0 cap 300 (by omega) wx
    clear q1 q2 q3
  case' inr =>
    subst q2
    have hd : decide ((300 : Int) < (m : Int)) = false := decide_eq_false (by omega)
    clear q1
  all_goals
    clear HS
    go_enter Try.func7, Try.ntmps7
    go_wp2_with fail
    refine HAW.out.mono ?_
    rintro e w1 ⟨rfl, hb1⟩
    have HB1 := Lib.hid hb1; clear hb1 HAW
    go_wp2_with fail
    refine (WS.new w w1 HB1.out).mono ?_
    rintro e w2 ⟨rfl, h2⟩
    have HW2 : Hid (BW w w2 w1.heap.size (NB 0) (VB 0) (.slice none 0 0) 0 PL) := by
      rw [H0.out.1, H0.out.2]
      exact ⟨h2.bel, h2.lo, h2.wr, World.ownsRow_nil _ _ _ _⟩
    clear h2 HB1
    generalize w1.heap.size = g at *
    go_wp2_with fail
    go_loopw [4, 5] (fun v4 v5 wr => ∃ i : Nat, i ≤ m ∧ v5 = .int .i64 (i : Int) ∧ BW w wr g (NB i) (VB i) v4 i PL) (fun _ v5 _ => (m - intOf v5).toNat)
    case atStart => exact ⟨0, by omega, rfl, HW2.out⟩
    case round =>
      clear HW2
      obtain ⟨i, him, rfl, hbw⟩ := hrel
      have HBW := Lib.hid hbw; clear hbw
      by_cases hlt : i < m
      · obtain ⟨s, o, rfl, hsw, k0, k1, k2⟩ := HP.out.at_ i hlt
        have HK0 : Hid (∀ wx, Below w.heap.size w wx → wx.cell? ⟨s, o + i * 3, none⟩ = some (.int .u32 (PV i))) := fun wx hb => (hb.cell (by exact hsw)).trans k0
        have HK1 : Hid (∀ wx, Below w.heap.size w wx → wx.cell? ⟨s, o + i * 3 + 1, none⟩ = some (.int .i64 (PN i))) := fun wx hb => (hb.cell (by exact hsw)).trans k1
        have HK2 : Hid (∀ wx, Below w.heap.size w wx → wx.cell? ⟨s, o + i * 3 + 2, none⟩ = some (.bool (PA i))) := fun wx hb => (hb.cell (by exact hsw)).trans k2
        have hi00 : (0 : Int) ≤ (i : Int) := by omega
        have hi3 : i ≤ 300 := by have := HMM.out; omega
        have himI : (i : Int) < (m : Int) := by omega
        have hdm : decide (i < m) = true := decide_eq_true hlt
        clear k0 k1 k2 hsw
        have q2 := HK2.out wr HBW.out.bel
        have HLA : Hid (∀ wx vp, BW w wx g (PL i) (VB i) vp i PL → Calls Try.prog 14 #[.pointer (some ⟨g, 0, none⟩)] wx fun e w' => e = .returned (.int .i64 ((PL i : Nat) : Int)) ∧ Hid (BW w w' g (PL i) (VB i) vp i PL)) := fun wx vp h => h.len (by have h1 := HBD.out (i + 1) hlt; have := HNB.out i; omega)
        have HAL : Hid (PA i = true → ∀ wx vp, BW w wx g (NB i) (VB i) vp i PL → Calls Try.prog 10 #[.pointer (some ⟨g, 0, none⟩)] wx fun e w' => e = .returned (.tuple #[]) ∧ Hid (BW w w' g (PL i) (VB i) vp i PL)) := fun hA wx vp h => by
          have e1 := HPL.out i
          rw [if_pos hA] at e1
          rw [e1]
          exact h.align (by have h1 := HBD.out i him; omega)
        have HNA : Hid (PA i = false → NB i = PL i) := fun hA => by
          have e1 := HPL.out i
          rw [if_neg (by rw [hA]; decide)] at e1
          exact e1.symm
        have HPK : Hid (∀ wx, Calls Try.prog 32 #[.int .i64 (PN i), .int .i64 33] wx fun e w' => e = .returned (.int .i64 ((SZ i : Nat) : Int)) ∧ w' = wx) := fun wx => by
          have := pick_any (PN i) 33 wx (HP.out.n i).1 (HP.out.n i).2 (by omega) (by omega)
          rw [(HSZ.out i).2] at this
          exact this
        have HPUT : Hid (∀ wx vp, BW w wx g (PL i) (VB i) vp (i + 1) PL → Calls Try.prog 12 #[.pointer (some ⟨g, 0, none⟩), .int .u32 (PV i), .int .i64 ((SZ i : Nat) : Int)] wx fun e w' => e = .returned (.bool true) ∧ Hid (BW w w' g (NB (i + 1)) (VB (i + 1)) vp (i + 1) PL)) := fun wx vp h => by
          have hv := HP.out.v i
          have := h.put (PV i).toNat (SZ i) (by omega) (HSZ.out i).1 (by have h1 := HBD.out (i + 1) hlt; have := HNB.out i; omega)
          rw [show (((PV i).toNat : Nat) : Int) = PV i by omega] at this
          rw [HNB.out, HVB.out]
          exact this
        have HOWN : Hid (∀ wx vp vp' w7 o, BW w wx g (PL i) (VB i) vp i PL → w7.ownsRow w.heap.size 3 1 vp' (i + 1) (pls PL i ++ [.int .i64 ((PL i : Nat) : Int)]) → (wx.alloc o).grownBy w7 vp.ownBlock → Hid (BW w w7 g (PL i) (VB i) vp' (i + 1) PL)) := fun wx vp vp' w7 o h h1 h2 => h.note h1 h2
        generalize PN i = pn at *
        generalize PV i = pv at *
        generalize PL i = pl at *
        generalize SZ i = sz at *
        rcases hA : PA i with _ | _
        case' false =>
          rw [hA] at q2
          have e1 := HNA.out hA
          rw [e1] at HBW
          clear hA HNA HAL e1
          go_wp2_with fail
          refine (HLA.out _ _ HBW.out).mono ?_
          rintro e w6 ⟨rfl, h6⟩
          clear HLA HBW
        case' true =>
          rw [hA] at q2
          have HAL := Lib.hid (HAL.out hA)
          clear hA HNA
          go_wp2_with fail
          refine (HAL.out _ _ HBW.out).mono ?_
          rintro e w5 ⟨rfl, h5⟩
          clear HAL HBW q2
          go_wp2_with fail
          refine (HLA.out _ _ h5.out).mono ?_
          rintro e w6 ⟨rfl, h6⟩
          clear HLA h5
        all_goals
          go_wp2_with (first | (at_builtin; refine wpList_append_own _ rfl (.tmp 35) (.tmp 38) 59 rfl w.heap.size 3 i0 _ 1 8 (by kernel_rfl) hi hz0 hz1 hz2 rfl (by decide) u4 _ _ rfl (h6.out.own.alloc _) ⟨w6.heap.size, 0, none⟩ 1 1 [.int .i64 (pl : Int)] rfl rfl (one_int _ _) (by simp [Value.oneCell']) (by simp only [maxLen]; omega) (by omega) (by have := h6.out.bel.size; simp; omega) ?_; intro vp7 w7 ho7 hg7 _; have H7 := HOWN.out _ _ _ _ _ h6.out ho7 hg7; clear ho7 hg7 HOWN h6))
          have k0 := HK0.out w7 H7.out.bel
          have k1 := HK1.out w7 H7.out.bel
          refine wp_region_still_tail 12 (by kernel_rfl) (by kernel_rfl) ?_
          simp only [List.take_succ_cons, List.take_zero, List.drop_succ_cons, List.drop_zero]
          repeat still_step
          still_call (HPK.out _)
          repeat still_step
          try refine wpStill_nil ?_
          change wpList _ _ _ _ _ w7.drew
          clear k0 k1 HPK
          go_wp2_with fail
          refine (HPUT.out _ _ (H7.out.drawn ⟨1, rfl⟩)).mono ?_
          rintro e w8 ⟨rfl, h8⟩
          clear HPUT
          go_wp2
          exact ⟨⟨i + 1, by omega, by go_num, h8.out⟩, by simp [intOf]; omega⟩
      · obtain rfl : i = m := by omega
        have HTU := Lib.hid (HBW.out.turn (by have := HBD.out i (Nat.le_refl _); omega) HLT.out)
        have hL0 : Hid ((NB i + 7) / 8 ≤ 100000 ∧ NB i ≤ 8 * ((NB i + 7) / 8) ∧ 8 * ((NB i + 7) / 8) < NB i + 8) := by
          have := HBD.out i (Nat.le_refl _)
          exact ⟨by omega, by omega, by omega⟩
        clear HBW
        generalize (NB i + 7) / 8 = L at *
        generalize VB i = VV at *
        generalize hNM : NB i = NM at *
        have HNM := Lib.hid hNM; clear hNM
        clear HVB
        have hdm : decide (i < i) = false := decide_eq_false (by omega)
        go_wp2_with fail
        refine HTU.out.mono ?_
        rintro e w9 ⟨G0, rfl, h9⟩
        clear HTU
        go_wp2_with fail
        refine h9.out.mono ?_
        rintro e w10 ⟨gr, rfl, h10⟩
        clear h9
        obtain ⟨G, hbk⟩ := h10.out
        have HBK := Lib.hid hbk; clear hbk h10 hdm
        go_wp2_with fail
        go_loopw [7] (fun v7 wr => ∃ j : Nat, j ≤ i ∧ v7 = .int .i64 (j : Int) ∧ BK w wr gr (NB j) L VV G u4 i PL) (fun v7 _ => (i - intOf v7).toNat)
        case atStart => exact ⟨0, by omega, rfl, by rw [H0.out.1]; exact HBK.out⟩
        case round =>
          clear HBK
          obtain ⟨j, hj, rfl, hbk⟩ := hrel
          have HBK := Lib.hid hbk; clear hbk
          by_cases hlj : j < i
          · obtain ⟨s, o, rfl, hsw, k0, k1, k2⟩ := HP.out.at_ j hlj
            have HK0 : Hid (∀ wx, Below w.heap.size w wx → wx.cell? ⟨s, o + j * 3, none⟩ = some (.int .u32 (PV j))) := fun wx hb => (hb.cell (by exact hsw)).trans k0
            have k1' := (HBK.out.bel.cell (p := ⟨s, o + j * 3 + 1, none⟩) (by exact hsw)).trans k1
            have HK2 : Hid (∀ wx, Below w.heap.size w wx → wx.cell? ⟨s, o + j * 3 + 2, none⟩ = some (.bool (PA j))) := fun wx hb => (hb.cell (by exact hsw)).trans k2
            obtain ⟨gp, cp, hvp⟩ : ∃ gp cp, u4 = .slice (some ⟨gp, 0, none⟩) i cp := by
              rcases HBK.out.own.2 with ⟨_, h⟩ | ⟨gg, cap, cur, h, _⟩
              · omega
              · exact ⟨gg, cap, h⟩
            subst hvp
            have HCP : Hid (∀ wx q, BK w wx gr q L VV G (.slice (some ⟨gp, 0, none⟩) i cp) i PL → wx.cell? ⟨gp, j, none⟩ = some (.int .i64 ((PL j : Nat) : Int))) := fun wx q h => (h.own.cellAt j (by omega)).trans (pls_get _ _ _ hlj)
            have hj0 : (0 : Int) ≤ (j : Int) := by omega
            have hjI : (j : Int) < (i : Int) := by omega
            have hdj : decide (j < i) = true := decide_eq_true hlj
            have hj3 : j ≤ 300 := by have := HMM.out; omega
            clear k0 k1 k2 hsw
            have HPK : Hid (∀ wx, Calls Try.prog 32 #[.int .i64 (PN j), .int .i64 33] wx fun e w' => e = .returned (.int .i64 ((SZ j : Nat) : Int)) ∧ w' = wx) := fun wx => by
              have := pick_any (PN j) 33 wx (HP.out.n j).1 (HP.out.n j).2 (by omega) (by omega)
              rw [(HSZ.out j).2] at this
              exact this
            have HAL : Hid (PA j = true → ∀ wx, BK w wx gr (NB j) L VV G (.slice (some ⟨gp, 0, none⟩) i cp) i PL → Calls Try.prog 25 #[.pointer (some ⟨gr, 0, none⟩)] wx fun e w' => e = .returned (.tuple #[]) ∧ Hid (BK w w' gr (PL j) L VV G (.slice (some ⟨gp, 0, none⟩) i cp) i PL)) := fun hA wx h => by
              have e1 := HPL.out j
              rw [if_pos hA] at e1
              rw [e1]
              exact h.align (by have h1 := hL0.out.1; omega)
            have HNA : Hid (PA j = false → NB j = PL j) := fun hA => by
              have e1 := HPL.out j
              rw [if_neg (by rw [hA]; decide)] at e1
              exact e1.symm
            have HAT : Hid (∀ wx wy, BK w wx gr (PL j) L VV G (.slice (some ⟨gp, 0, none⟩) i cp) i PL → Drawn wx wy → Calls Try.prog 29 #[.pointer (some ⟨gr, 0, none⟩)] wy fun e w' => e = .returned (.int .i64 ((PL j : Nat) : Int)) ∧ ∃ m, w' = wx.drewN m) := fun wx wy h hd => by
              refine (at_any gr (PL j) L VV G wy (h.rd.drawn hd)).mono fun _ _ ⟨he, hw⟩ => ⟨he, ?_⟩
              subst hw
              exact hd
            have HGT : Hid (∀ wx, BK w wx gr (PL j) L VV G (.slice (some ⟨gp, 0, none⟩) i cp) i PL → Calls Try.prog 27 #[.pointer (some ⟨gr, 0, none⟩), .int .i64 ((SZ j : Nat) : Int)] wx fun e w' => e = .returned (.tuple #[.int .u32 (((PV j).toNat % 2 ^ SZ j : Nat) : Int), .bool true]) ∧ Hid (BK w w' gr (NB (j + 1)) L VV G (.slice (some ⟨gp, 0, none⟩) i cp) i PL)) := fun wx h => by
              have h1 := HMO.out (j + 1) hlj
              have h2 := hL0.out
              have h3 := HNM.out
              rw [HNB.out] at h1
              have := h.get (SZ j) (by omega) (HSZ.out j).1 (by omega)
              rw [HGOT.out j hlj] at this
              rw [HNB.out]
              exact this
            have HV : Hid (0 ≤ PV j ∧ PV j < 4294967296) := HP.out.v j
            have hand : bits BinOp.and IntKind.u64 (PV j) (IntKind.u64.wrap (IntKind.u64.wrap (2 ^ SZ j) - 1)) = (((PV j).toNat % 2 ^ SZ j : Nat) : Int) := by
              have h1 := HV.out
              have h2 := (HSZ.out j).1
              have h3 := Bit.and64 (PV j).toNat (SZ j) (by omega) (by omega)
              rw [show (((PV j).toNat : Nat) : Int) = PV j by omega] at h3
              have e : ((2 : Int) ^ SZ j) = ((2 ^ SZ j : Nat) : Int) := by push_cast; rfl
              have h4 := Bit.pow40 (k := SZ j) (by omega)
              have h5 := Nat.two_pow_pos (SZ j)
              rw [e, Bit.wrap64 _ (by omega), show (((2 ^ SZ j : Nat) : Int) - 1) = ((2 ^ SZ j - 1 : Nat) : Int) from by omega, Bit.wrap64 _ (by omega), h3]
            have hzb : (PV j).toNat % 2 ^ SZ j < 4294967296 := Nat.lt_of_le_of_lt (Nat.mod_le _ _) (by have := HV.out; omega)
            have hszI : ((SZ j : Nat) : Int) ≤ 32 := by have := (HSZ.out j).1; omega
            have hpvw : IntKind.u64.wrap (PV j) = PV j := by have := HV.out; rw [IntKind.wrap_u64]; omega
            generalize (PV j).toNat % 2 ^ SZ j = z at *
            have hzw : IntKind.u32.wrap (z : Int) = (z : Int) := Bit.wrap32' z hzb
            generalize PN j = pn at *
            generalize PV j = pv at *
            generalize PL j = pl at *
            generalize SZ j = sz at *
            have HAND := Lib.hid hand; clear hand
            have hszw : IntKind.u64.wrap (sz : Int) = (sz : Int) := Bit.wrap64 _ (by omega)
            go_wp2_with fail
            refine (HPK.out _).mono ?_
            rintro e w11 ⟨rfl, rfl⟩
            clear HPK k1'
            have q2 := HK2.out w11 HBK.out.bel
            rcases hA : PA j with _ | _
            case' false =>
              rw [hA] at q2
              have e1 := HNA.out hA
              rw [e1] at HBK
              clear hA HNA HAL e1
              obtain ⟨w12, h12, hrw⟩ : ∃ w12, Hid (BK w w12 gr pl L VV G (.slice (some ⟨gp, 0, none⟩) i cp) i PL) ∧ w12 = w11 := ⟨w11, HBK, rfl⟩
              subst hrw
              go_wp2_with fail
            case' true =>
              rw [hA] at q2
              have HAL := Lib.hid (HAL.out hA)
              clear hA HNA
              go_wp2_with fail
              refine (HAL.out _ HBK.out).mono ?_
              rintro e w12 ⟨rfl, h12⟩
              clear HAL
              go_wp2_with fail
            all_goals
              clear HBK q2
              have kp := HCP.out w12 _ h12.out
              go_quiet ((go_at_call 29; exact HAT.out _ _ h12.out ⟨_, rfl⟩))
              have h13 := Lib.hid (h12.out.drawn (w' := w12.drewN nq) ⟨nq, rfl⟩)
              clear kp h12
              generalize w12.drewN nq = w13 at *
              go_wp2_with fail
              refine (HGT.out _ h13.out).mono ?_
              rintro e w14 ⟨rfl, h14⟩
              have k0 := HK0.out w14 h14.out.bel
              have hand := HAND.out
              clear h13 HGT HAT
              go_wp2
              exact ⟨⟨j + 1, by omega, by go_num, h14.out⟩, by simp [intOf]; omega⟩
          · obtain rfl : j = i := by omega
            rw [HNM.out] at HBK
            have HLF := Lib.hid (HBK.out.left (by have := hL0.out.1; omega))
            obtain ⟨rs, hrs⟩ : ∃ rs, 8 * L - NM = rs := ⟨_, rfl⟩
            have hrs8 : (rs : Int) < 8 := by have := hL0.out; omega
            have HGR : Hid (∀ wx, BK w wx gr NM L VV G u4 j PL → Calls Try.prog 27 #[.pointer (some ⟨gr, 0, none⟩), .int .i64 (rs : Int)] wx fun e w' => e = .returned (.tuple #[.int .u32 0, .bool true]) ∧ Hid (BK w w' gr (NM + rs) L VV G u4 j PL)) := fun wx h => by
              have h1 := hL0.out
              have := h.get rs (by omega) (by omega) (by omega)
              rw [Nat.div_eq_of_lt HLT.out, Nat.zero_mod] at this
              exact this
            rw [hrs] at HLF
            have hdj : decide (j < j) = false := decide_eq_false (by omega)
            clear hrs HBK
            go_wp2_with fail
            refine HLF.out.mono ?_
            rintro e w15 ⟨rfl, h15⟩
            have H15 := Lib.hid h15; clear h15 HLF
            go_wp2_with fail
            refine (HGR.out _ H15.out).mono ?_
            rintro e w16 ⟨rfl, h16⟩
            clear HGR H15
            have hrs0 : (0 : Int) ≤ (rs : Int) := by omega
            go_wp2
            go_ret
            exact ⟨rfl, h16.out.bel⟩
theorem back_walk (a : Option Addr) (m cap : Nat) (PV PN : Nat → Int) (PA : Nat → Bool) (w : World) (hP : Pcs w a m cap PV PN PA) :
    Calls Try.prog 7 #[.slice a m cap] w fun e w' => e = .returned (.bool true) ∧ Below w.heap.size w w' := by
  obtain ⟨m', hle, hm⟩ : ∃ m', m' ≤ m ∧ ((300 < m ∧ m' = 300 ∧ m' ≤ cap) ∨ (m ≤ 300 ∧ m' = m)) := by
    have := hP.le
    by_cases h : 300 < m
    · exact ⟨300, by omega, .inl ⟨h, rfl, by omega⟩⟩
    · exact ⟨m, Nat.le_refl _, .inr ⟨by omega, rfl⟩⟩
  have h3 : m' ≤ 300 := by omega
  refine back_core a m' m cap PV PN PA w (hP.take m' hle) hm (Back.nb PN PA) (Back.pl PN PA) (Back.sz PN) (Back.vb PV PN PA) ⟨rfl, rfl⟩ (fun _ => rfl) (fun i => ⟨Back.sz_le PN i, by unfold Back.sz; omega⟩) (fun _ => rfl) (fun _ => rfl) (fun i hi => ?_) (fun i hi => ?_) (fun i hi => Back.got PV PN PA m' i hi) (Back.vb_lt PV PN PA m')
  · have := Back.nb_le PN PA i; omega
  · have := Back.nb_mono PN PA i (m' - i)
    rwa [show i + (m' - i) = m' by omega] at this
end Go.Proofs.Ytkfbcekhegdmjaa
