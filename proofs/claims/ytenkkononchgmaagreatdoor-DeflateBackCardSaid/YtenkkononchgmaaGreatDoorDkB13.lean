/- Laid together: InfBare InfBlock. -/
import Derived.Test.YtenkkononchgmaaGreatDoorDkB12

namespace Go.Proofs.YtenkkononchgmaaGreatDoor
open Go.RowKit Go

set_option maxRecDepth 100000 in
theorem ralign_any (g p L V G : Nat) (w : World) (h : Rd w g p L V G) (hL : L ≤ 1000000000) :
   Calls Tryz.prog 32 #[.pointer (some ⟨g, 0, none⟩)] w fun e w' => e = .returned (.tuple #[]) ∧ Rd w' g (p + (8 - p % 8) % 8) L V G ∧ w.grownBy w' (some g) := by
 have c0 : w.cell? ⟨g, 0, none⟩ = some (.pointer (some ⟨g, 0, none⟩)) := (cell_of_row _ _ _ _ _ _ h.row).trans rfl
 have c2 : w.cell? ⟨g, 2, none⟩ = some (.int .i64 (p : Int)) := (cell_of_row _ _ _ _ _ _ h.row).trans rfl
 have f2 : w.frozen? ⟨g, 2, none⟩ = false := frozen_of_row _ _ _ _ _ h.row
 have hp := h.le
 have HTW := Lib.hid (fun wx => toWhole_any p wx (by omega))
 have hpI : (p : Int) ≤ 8000000000 := by omega
 have hqI : (((8 - p % 8) % 8 : Nat) : Int) < 8 := by omega
 have HS : Hid (∀ wx, Drawn w wx → Rd (wx.setCell ⟨g, 2, none⟩ (.int .i64 ((p : Int) + (((8 - p % 8) % 8 : Nat) : Int)))) g (p + (8 - p % 8) % 8) L V G ∧ w.grownBy (wx.setCell ⟨g, 2, none⟩ (.int .i64 ((p : Int) + (((8 - p % 8) % 8 : Nat) : Int)))) (some g)) := by
   intro wx hd
   have := h.moved hd (q := p + (8 - p % 8) % 8) (by omega)
   rw [Int.natCast_add] at this
   exact ⟨this, gb_setCell (hd.grown _) _⟩
 clear h hp hL
 generalize (8 - p % 8) % 8 = q at *
 go_enter Tryz.func32, Tryz.ntmps32
 go_wp2_with fail
 refine (rmade_yes g _ c0).mono ?_
 rintro e w' ⟨rfl, rfl⟩
 go_wp2_with fail
 refine wp_region_still_tail 12 (by kernel_rfl) (by kernel_rfl) ?_
 simp only [List.take_succ_cons, List.take_zero, List.drop_succ_cons, List.drop_zero]
 repeat still_step
 still_call (still_of (HTW.out _))
 repeat still_step
 try refine wpStill_nil ?_
 change wpList _ _ _ _ _ w.drew
 have HS1 := Lib.hid (HS.out w.drew ((Drawn.refl _).drewN 1)); clear HS
 go_wp2
 go_returns
 exact ⟨rfl, HS1.out⟩
end Go.Proofs.YtenkkononchgmaaGreatDoor

/- The walk of the program's bare. -/
namespace Go.Proofs.YtenkkononchgmaaGreatDoor
open Go.RowKit Go

theorem Inf.xor16 (m : Nat) (hm : m < 65536) : bits BinOp.xor IntKind.u16 65535 (m : Int) = ((65535 - m : Nat) : Int) := by
 have e : bits BinOp.xor IntKind.u16 65535 (m : Int) = IntKind.u16.wrap (((BitVec.ofInt 16 65535) ^^^ (BitVec.ofInt 16 (m : Int))).toNat : Int) := rfl
 rw [e, show BitVec.ofInt 16 65535 = BitVec.allOnes 16 from by decide, BitVec.allOnes_xor, BitVec.toNat_not, BitVec.toNat_ofInt, IntKind.wrap_u16]
 have e1 : ((m : Int) % ((2 ^ 16 : Nat) : Int)).toNat = m := by omega
 rw [e1]
 omega
theorem Inf.stored_bad {V N M p : Nat} {T : List Int} (h : ¬ (Inf.up p + 32 ≤ N ∧ Inf.num V (Inf.up p) 16 + Inf.num V (Inf.up p + 16) 16 = 65535 ∧ Inf.up p + 32 + 8 * Inf.num V (Inf.up p) 16 ≤ N)) : Inf.stored V N M p T = .err 4 := by
 unfold Inf.stored; rw [if_neg h]
theorem Inf.stored_long {V N M p : Nat} {T : List Int} (h : Inf.up p + 32 ≤ N ∧ Inf.num V (Inf.up p) 16 + Inf.num V (Inf.up p + 16) 16 = 65535 ∧ Inf.up p + 32 + 8 * Inf.num V (Inf.up p) 16 ≤ N) (h2 : M < T.length + Inf.num V (Inf.up p) 16) : Inf.stored V N M p T = .err 3 := by
 unfold Inf.stored; rw [if_pos h, if_pos h2]
theorem Inf.stored_ok {V N M p : Nat} {T : List Int} (h : Inf.up p + 32 ≤ N ∧ Inf.num V (Inf.up p) 16 + Inf.num V (Inf.up p + 16) 16 = 65535 ∧ Inf.up p + 32 + 8 * Inf.num V (Inf.up p) 16 ≤ N) (h2 : T.length + Inf.num V (Inf.up p) 16 ≤ M) : Inf.stored V N M p T = .ok (Inf.up p + 32 + 8 * Inf.num V (Inf.up p) 16) (T ++ Inf.byts V (Inf.up p + 32) (Inf.num V (Inf.up p) 16)) := by
 unfold Inf.stored; rw [if_pos h, if_neg (by omega)]

set_option maxRecDepth 100000 in
set_option maxHeartbeats 8000000 in
theorem bare_any (w0 w : World) (g r L V p : Nat) (T : List Int) (vt : Value) (M : Nat) (fl fd : Value) (h : Sx w0 w g r L V p T vt M fl fd) (hL : L ≤ 1000000) (hT : T.length ≤ M) (hM : M ≤ 65536) :
   Calls Tryz.prog 81 #[.pointer (some ⟨g, 0, none⟩)] w fun e w' => ReO w0 w g r L V M fl fd (Inf.stored V (8 * L) M p T) e w' := by
 obtain ⟨ST, hst⟩ : ∃ ST, ST = Inf.stored V (8 * L) M p T := ⟨_, rfl⟩
 rw [← hst]
 have HST := Lib.hid hst
 have HL := Lib.hid hL
 have HM := Lib.hid hM
 have HT := Lib.hid hT
 have HH := Lib.hid h
 have c0 := h.c0
 have HAL := Lib.hid (ralign_any r p L V w0.heap.size w h.rd (by omega))
 obtain ⟨u, hu⟩ : ∃ u, u = Inf.up p := ⟨_, rfl⟩
 rw [show p + (8 - p % 8) % 8 = u by rw [hu]; rfl] at HAL
 have hu8 : u ≤ 8 * L := by have := h.rd.le; rw [hu]; unfold Inf.up; omega
 have HU := Lib.hid hu
 clear h hst hL hT hM hu
 go_enter Tryz.func81, Tryz.ntmps81
 go_wp2_with fail
 refine HAL.out.mono ?_
 rintro e w1 ⟨rfl, h1, h2⟩
 have K0 := Lib.hid (HH.out.go h1 h2)
 clear h1 h2 HAL c0
 have c0 := K0.out.1.c0
 by_cases hbit : u + 32 ≤ 8 * L
 · have HG := Lib.hid (sget_any 32 w0 w1 g r L V u T vt M fl fd K0.out.1 HL.out (by omega) hbit)
   obtain ⟨X, hX⟩ : ∃ X, X = Inf.num V u 32 := ⟨_, rfl⟩
   have b0 := Inf.num_lt V u 32
   have e1 : X % 2 ^ 16 = Inf.num V u 16 := by rw [hX]; exact Inf.num_first V u 32 16 (by omega)
   have e2 : X / 2 ^ 16 = Inf.num V (u + 16) 16 := by rw [hX]; exact Inf.num_last V u 32 16 (by omega)
   rw [← hX] at HG b0
   obtain ⟨n, hn⟩ : ∃ n, n = Inf.num V u 16 := ⟨_, rfl⟩
   obtain ⟨m, hm⟩ : ∃ m, m = Inf.num V (u + 16) 16 := ⟨_, rfl⟩
   have n6 : n < 65536 := by rw [hn]; exact Inf.num_lt V u 16
   have m6 : m < 65536 := by rw [hm]; exact Inf.num_lt V (u + 16) 16
   rw [← hn] at e1
   rw [← hm] at e2
   have a1 : IntKind.u16.wrap (X : Int) = (n : Int) := by rw [IntKind.wrap_u16]; omega
   have a2 : (X : Int) / 65536 = (m : Int) := by rw [← e2]; rfl
   have a3 : IntKind.u16.wrap (m : Int) = (m : Int) := by rw [IntKind.wrap_u16]; omega
   obtain ⟨t, ht⟩ : ∃ t, t = 65535 - m := ⟨_, rfl⟩
   have a4 : bits BinOp.xor IntKind.u16 65535 (m : Int) = (t : Int) := by
     have h := Inf.xor16 m m6
     rw [← ht] at h
     exact h
   have a5 : IntKind.u16.signed = false := rfl
   have a6 : IntKind.u16.max = 65535 := rfl
   have HN := Lib.hid hn
   have HMM := Lib.hid hm
   have HNB : Hid (n < 65536 ∧ m < 65536 ∧ t < 65536) := ⟨n6, m6, by omega⟩
   have HBIT := Lib.hid hbit
   clear hX b0 e1 e2 hn hm hbit n6 m6
   go_wp2_with fail
   refine HG.out.mono ?_
   rintro e w2 ⟨rfl, h1, h2⟩
   have K1 := Lib.hid h1
   have K2 := Lib.hid (K0.out.2.trans h2)
   clear h1 h2 HG c0 K0
   have c0 := K1.out.c0
   by_cases hturn : n = t
   · have hne : ((n : Int) != (t : Int)) = false := by simp; omega
     have hnI : (n : Int) ≤ 70000 := by have := HNB.out; omega
     have HTURN : Hid (Inf.num V u 16 + Inf.num V (u + 16) 16 = 65535) := by unfold Hid; rw [← HN.out, ← HMM.out]; have := HNB.out; omega
     have HLEFT := Lib.hid (left_any r (u + 32) L V w0.heap.size w2 K1.out.rd (by have := HL.out; omega))
     obtain ⟨lf, hlf⟩ : ∃ lf, lf = 8 * L - (u + 32) := ⟨_, rfl⟩
     rw [← hlf] at HLEFT
     have hlf6 : lf ≤ 8000000 := by have := HL.out; omega
     have hlfI : (lf : Int) ≤ 8000000 := by omega
     obtain ⟨n8, hn8⟩ : ∃ n8, n8 = 8 * n := ⟨_, rfl⟩
     have hn8I : 8 * (n : Int) = (n8 : Int) := by omega
     have hnw : IntKind.i64.wrap (n : Int) = (n : Int) := by rw [IntKind.wrap_i64]; omega
     have HLF := Lib.hid hlf
     have HN8 := Lib.hid hn8
     by_cases hfit : lf < n8
     · have hd : decide (lf < n8) = true := decide_eq_true hfit
       have hd2 : decide ((lf : Int) < (n8 : Int)) = true := decide_eq_true (by omega)
       have HE : Hid (ST = .err 4) := HST.out.trans (Inf.stored_bad (by
         rintro ⟨a, b, c⟩
         rw [← HU.out, ← HN.out] at c
         have := HLF.out; have := HN8.out; omega))
       clear hfit hturn ht hlf hn8 hu8
       go_wp2_with fail
       refine HLEFT.out.mono ?_
       rintro e w3 ⟨rfl, h1⟩
       have K3 := Lib.hid (K1.out.drawn h1).bel
       clear h1 HLEFT c0
       go_wp2
       go_ret
       exact .inl ⟨4, HE.out, by decide, rfl, K3.out⟩
     · have hd : decide (lf < n8) = false := decide_eq_false hfit
       have hd2 : decide ((lf : Int) < (n8 : Int)) = false := decide_eq_false (by omega)
       have HOK : Hid (Inf.up p + 32 ≤ 8 * L ∧ Inf.num V (Inf.up p) 16 + Inf.num V (Inf.up p + 16) 16 = 65535 ∧ Inf.up p + 32 + 8 * Inf.num V (Inf.up p) 16 ≤ 8 * L) := by
         unfold Hid
         rw [← HU.out]
         refine ⟨HBIT.out, HTURN.out, ?_⟩
         rw [← HN.out]
         have := HBIT.out; omega
       clear hfit hturn ht hlf hn8 hu8
       go_wp2_with fail
       refine HLEFT.out.mono ?_
       rintro e w3 ⟨rfl, h1⟩
       have K3 := Lib.hid (K1.out.drawn h1)
       have K4 := Lib.hid (K2.out.trans (Ks.drawn h1))
       clear h1 HLEFT c0 K1 K2
       have HRM := Lib.hid (room_any n w0 w3 g r L V (u + 32) T vt M fl fd K3.out (by have := HNB.out; omega) (by have := HT.out; have := HM.out; omega) HM.out)
       by_cases hrm : (n : Int) ≤ (M : Int) - (T.length : Int)
       · have hr2 : decide ((n : Int) ≤ (M : Int) - (T.length : Int)) = true := decide_eq_true hrm
         rw [hr2] at HRM
         have HGO : Hid (ST = .ok (u + 32 + 8 * n) (T ++ Inf.byts V (u + 32) n) ∧ T.length + n ≤ M) := by
           have h1 := Inf.stored_ok (V := V) (N := 8 * L) (M := M) (p := p) (T := T) HOK.out (by rw [← HU.out, ← HN.out]; omega)
           rw [← HU.out, ← HN.out] at h1
           exact ⟨HST.out.trans h1, by omega⟩
         clear hrm hr2
         go_wp2_with fail
         refine HRM.out.mono ?_
         rintro e w4 ⟨rfl, h1⟩
         have K5 := Lib.hid (K3.out.drawn h1)
         have K6 := Lib.hid (K4.out.trans (Ks.drawn h1))
         clear h1 HRM K3 K4
         go_wp2_with fail
         have HFITS : Hid (u + 32 + 8 * n ≤ 8 * L) := by
           have h1 := HOK.out.2.2
           rw [← HU.out, ← HN.out] at h1
           exact h1
         clear a1 a2 a3 a4 hn8I hnw hd hd2 hlf6 hlfI hne
         go_loopw [52] (fun v52 wr => ∃ (i : Nat) (vi : Value), i ≤ n ∧ v52 = .int .u16 (i : Int) ∧ Sx w0 wr g r L V (u + 32 + 8 * i) (T ++ Inf.byts V (u + 32) i) vi M fl fd ∧ Ks w wr) (fun v52 _ => (n - intOf v52).toNat)
         case atStart => exact ⟨0, vt, by omega, rfl, by simpa [Inf.byts] using K5.out, K6.out⟩
         case round =>
           clear K5 K6
           obtain ⟨i, vi, hi, rfl, hs, hk⟩ := hrel
           obtain ⟨ai, ci, rfl⟩ := hs.form
           have HS := Lib.hid hs
           have HK := Lib.hid hk
           have c0 := hs.c0
           have HBL : Hid ((T ++ Inf.byts V (u + 32) i).length ≤ M) := by unfold Hid; rw [List.length_append, Inf.byts_length]; have := HGO.out.2; omega
           clear hs hk
           by_cases hlt : i < n
           · have hd1 : decide (i < n) = true := decide_eq_true hlt
             have hd2 : decide ((i : Int) < (n : Int)) = true := decide_eq_true (by omega)
             have HG := Lib.hid (sget_any 8 w0 wr g r L V (u + 32 + 8 * i) _ _ M fl fd HS.out HL.out (by omega) (by have := HFITS.out; omega))
             obtain ⟨c, hc⟩ : ∃ c, c = Inf.num V (u + 32 + 8 * i) 8 := ⟨_, rfl⟩
             have c6 : c < 256 := by rw [hc]; exact Inf.num_lt V _ 8
             have hcw : IntKind.u8.wrap (c : Int) = (c : Int) := by rw [IntKind.wrap_u8]; omega
             have HNX : Hid (T ++ Inf.byts V (u + 32) (i + 1) = T ++ Inf.byts V (u + 32) i ++ [(c : Int)] ∧ u + 32 + 8 * (i + 1) = u + 32 + 8 * i + 8) := by
               unfold Hid
               rw [Inf.byts_succ, ← hc, List.append_assoc]
               exact ⟨rfl, by omega⟩
             rw [← hc] at HG
             obtain ⟨i1, hi1⟩ : ∃ i1, i1 = i + 1 := ⟨_, rfl⟩
             have hi1I : (i : Int) + 1 = (i1 : Int) := by omega
             have hi1w : IntKind.u16.wrap (i1 : Int) = (i1 : Int) := by rw [IntKind.wrap_u16]; have := HNB.out; omega
             have HI1 := Lib.hid hi1
             have HLT := Lib.hid hlt
             clear hc hi1 hlt c6
             go_wp2_with fail
             refine HG.out.mono ?_
             rintro e w5 ⟨rfl, h1, h2⟩
             have K1 := Lib.hid h1
             have K2 := Lib.hid (HK.out.trans h2)
             clear h1 h2 HG c0 HS HK
             have HS2 := Lib.hid (K1.out.later ((Below.refl _ _).alloc (Nat.le_refl _) (.cells #[.int .u8 (c : Int)] 5)))
             have HK2 := Lib.hid (K2.out.trans (Ks.below ((Below.refl _ _).alloc (Nat.le_refl _) (.cells #[.int .u8 (c : Int)] 5))))
             have c1 := K1.out.c1
             generalize T ++ Inf.byts V (u + 32) i = Ti at *
             have hown := HS2.out.txt
             have hszr := HS2.out.rd.row
             go_wp2_with (first | (at_builtin; refine wpList_append_bytes rfl (.tmp 66) (.tmp 69) rfl (w0.heap.size + 1) _ Ti.length (k8 Ti) rfl hown (.slice (some ⟨w5.heap.size, 0, none⟩) 1 1) [(c : Int)] (fun _ => True) rfl (one_bytes _ _) (fun n c h => by cases h) (by have := HBL.out; have := HM.out; simp; omega) (by have := Inf.lt_some hszr; have := HS2.out.rlo; omega) ?_; intro v' w7 ho7 hg7; obtain ⟨a7, c7, rfl⟩ := own_form ho7.out; obtain ⟨⟨u7, k1⟩, k2, k3, k4⟩ := HS2.out.app ho7.out hg7.out; have HY := Lib.hid k3; have HYK := Lib.hid k4; clear k3 k4 ho7 hg7))
             refine ⟨⟨i1, .slice a7 (Ti.length + 1) c7, by have := HLT.out; have := HI1.out; omega, rfl, ?_, HK2.out.trans HYK.out⟩, by have := HLT.out; have := HI1.out; simp [intOf]; omega⟩
             rw [HI1.out, HNX.out.1, HNX.out.2]
             exact HY.out
           · obtain rfl : i = n := by omega
             have hd1 : decide (i < i) = false := decide_eq_false (by omega)
             have hd2 : decide ((i : Int) < (i : Int)) = false := decide_eq_false (by omega)
             clear hlt
             go_wp2
             go_ret
             exact .inr ⟨_, _, _, HGO.out.1, HBL.out, rfl, HS.out, HK.out⟩
       · have hr2 : decide ((n : Int) ≤ (M : Int) - (T.length : Int)) = false := decide_eq_false hrm
         rw [hr2] at HRM
         have HE : Hid (ST = .err 3) := HST.out.trans (Inf.stored_long HOK.out (by rw [← HU.out, ← HN.out]; omega))
         clear hrm hr2
         go_wp2_with fail
         refine HRM.out.mono ?_
         rintro e w4 ⟨rfl, h1⟩
         have K5 := Lib.hid (K3.out.drawn h1).bel
         clear h1 HRM
         go_wp2
         go_ret
         exact .inl ⟨3, HE.out, by decide, rfl, K5.out⟩
   · have hne : ((n : Int) != (t : Int)) = true := by simp; omega
     have HE : Hid (ST = .err 4) := HST.out.trans (Inf.stored_bad (by
       rintro ⟨a, b, c⟩
       rw [← HU.out, ← HN.out, ← HMM.out] at b
       have := HNB.out; omega))
     have K3 := Lib.hid K1.out.bel
     clear hturn ht hu8
     go_wp2
     go_ret
     exact .inl ⟨4, HE.out, by decide, rfl, K3.out⟩
 · have HG := Lib.hid (sget_no 32 w0 w1 g r L V u T vt M fl fd K0.out.1 HL.out (by omega))
   have HE : Hid (ST = .err 4) := HST.out.trans (Inf.stored_bad (by rintro ⟨a, -⟩; rw [← HU.out] at a; omega))
   clear hbit
   go_wp2_with fail
   refine HG.out.mono ?_
   rintro e w2 ⟨rfl, h1⟩
   have K1 := Lib.hid (K0.out.1.drawn h1).bel
   clear h1 HG c0
   go_wp2
   go_ret
   exact .inl ⟨4, HE.out, by decide, rfl, K1.out⟩
end Go.Proofs.YtenkkononchgmaaGreatDoor

namespace Go.Proofs.YtenkkononchgmaaGreatDoor
open Go.RowKit Go

theorem Inf.and1 (a : Nat) (ha : a < 4294967296) : bits BinOp.and IntKind.u32 (a : Int) 1 = ((a % 2 : Nat) : Int) := by
 have e : bits BinOp.and IntKind.u32 (a : Int) 1 = IntKind.u32.wrap (((BitVec.ofInt 32 (a : Int)) &&& (BitVec.ofInt 32 1)).toNat : Int) := rfl
 rw [e, BitVec.toNat_and, BitVec.toNat_ofInt]
 have e1 : ((a : Int) % ((2 ^ 32 : Nat) : Int)).toNat = a := by omega
 rw [e1, show (BitVec.ofInt 32 1).toNat = 2 ^ 1 - 1 from by decide, Nat.and_two_pow_sub_one_eq_mod, IntKind.wrap_u32]
 omega
theorem Inf.coded_le {x y : List Nat} {V N M p q : Nat} {T U : List Int} (h : Inf.runs (Inf.cstep x y V N M) p T = .ok q U) : p ≤ q := by
 refine Inf.runs_le (fun p a q b h => Nat.le_of_lt (Inf.cstep_on h).1) (fun p a q b h => ?_) h
 rcases Inf.sy_cases x V N p with e | ⟨k, i, h1, e⟩
 · rw [Inf.cstep_none e] at h; cases h
 · have hl := Inf.sy_lt e
   rcases Nat.lt_trichotomy i 256 with c | c | c
   · rcases Nat.lt_or_ge a.length M with d | d
     · rw [Inf.cstep_go e c d] at h; cases h
     · rw [Inf.cstep_long e c d] at h; cases h
   · subst c; rw [Inf.cstep_end e] at h; cases h; omega
   · rw [Inf.cstep_match e c] at h
     unfold Inf.mstep Inf.mfar at h
     split at h
     · cases h
     · split at h
       · cases h
       · split at h
         · cases h
         · split at h
           · cases h
           · split at h <;> cases h
def BlO (w0 : World) (g r L V M p : Nat) (b : Bool) (st : Inf.R (List Int)) (e : Ending) (w' : World) : Prop :=
 (∃ (k : Int) (b' : Bool), st = .err k ∧ ¬ k = 0 ∧ e = .returned (.tuple #[.bool b', .int .i64 k]) ∧ Below w0.heap.size w0 w') ∨
 (∃ q U vt' fl' fd', st = .ok q U ∧ U.length ≤ M ∧ p + 3 ≤ q ∧ e = .returned (.tuple #[.bool b, .int .i64 0]) ∧ Sx w0 w' g r L V q U vt' M fl' fd' ∧ Fx w' fl' fd')

set_option maxRecDepth 100000 in
set_option maxHeartbeats 8000000 in
theorem block_few (w0 w : World) (g r L V p : Nat) (T : List Int) (vt : Value) (M : Nat) (fl fd : Value) (h : Sx w0 w g r L V p T vt M fl fd) (hL : L ≤ 1000000) (hfew : 8 * L < p + 3) :
   Calls Tryz.prog 31 #[.pointer (some ⟨g, 0, none⟩)] w fun e w' => e = .returned (.tuple #[.bool false, .int .i64 4]) ∧ Below w0.heap.size w0 w' := by
 have c0 := h.c0
 have HG := Lib.hid (sget_no 3 w0 w g r L V p T vt M fl fd h hL hfew)
 have HH := Lib.hid h
 clear h hL hfew
 go_enter Tryz.func31, Tryz.ntmps31
 go_wp2_with fail
 refine HG.out.mono ?_
 rintro e w1 ⟨rfl, h1⟩
 have K := Lib.hid (HH.out.drawn h1).bel
 clear h1 HG c0 HH
 go_wp2
 go_ret2
 exact ⟨rfl, K.out⟩
set_option maxRecDepth 100000 in
set_option maxHeartbeats 8000000 in
theorem block_any (HOC : OwnC) (w0 w : World) (g r L V p : Nat) (T : List Int) (vt : Value) (M : Nat) (fl fd : Value) (h : Sx w0 w g r L V p T vt M fl fd) (hf : Fx w fl fd) (hL : L ≤ 1000000) (hT : T.length ≤ M) (hM : M ≤ 65536) (hfew : p + 3 ≤ 8 * L) :
   Calls Tryz.prog 31 #[.pointer (some ⟨g, 0, none⟩)] w fun e w' => BlO w0 g r L V M p (decide (Inf.num V p 1 = 1)) (Inf.block V (8 * L) M (Inf.num V (p + 1) 2) (p + 3) T) e w' := by
 have c0 := h.c0
 have HG := Lib.hid (sget_any 3 w0 w g r L V p T vt M fl fd h hL (by omega) hfew)
 have HL := Lib.hid hL
 have HT := Lib.hid hT
 have HM := Lib.hid hM
 have HF := Lib.hid hf
 obtain ⟨X, hX⟩ : ∃ X, X = Inf.num V p 3 := ⟨_, rfl⟩
 obtain ⟨b, hb⟩ : ∃ b, b = Inf.num V p 1 := ⟨_, rfl⟩
 obtain ⟨k, hk⟩ : ∃ k, k = Inf.num V (p + 1) 2 := ⟨_, rfl⟩
 have x0 : X < 8 := by rw [hX]; exact Inf.num_lt V p 3
 have e1 : X % 2 = b := by rw [hX, hb]; exact Inf.num_first V p 3 1 (by omega)
 have e2 : X / 2 = k := by rw [hX, hk]; exact Inf.num_last V p 3 1 (by omega)
 rw [← hX] at HG
 rw [← hb, ← hk]
 have a1 : bits BinOp.and IntKind.u32 (X : Int) 1 = (b : Int) := by rw [Inf.and1 X (by omega), e1]
 have a2 : (X : Int) / 2 = (k : Int) := by omega
 have a3 : ((b : Int) == 1) = decide (b = 1) := by
   by_cases e : b = 1
   · subst e; rfl
   · rw [decide_eq_false e]; simp; omega
 obtain ⟨bb, hbb⟩ : ∃ bb, bb = decide (b = 1) := ⟨_, rfl⟩
 rw [← hbb] at a3 ⊢
 have k4 : k < 4 := by omega
 clear h hf hL hT hM hfew hX hb hk x0 e1 e2 hbb
 rcases (by omega : k = 0 ∨ k = 1 ∨ k = 2 ∨ k = 3) with rfl | rfl | rfl | rfl
 · rw [show Inf.block V (8 * L) M 0 (p + 3) T = Inf.stored V (8 * L) M (p + 3) T from rfl]
   clear k4
   go_enter Tryz.func31, Tryz.ntmps31
   go_wp2_with fail
   refine HG.out.mono ?_
   rintro e w1 ⟨rfl, h1, h2⟩
   have HB := Lib.hid (bare_any w0 w1 g r L V (p + 3) T vt M fl fd h1 HL.out HT.out HM.out)
   have HF1 := Lib.hid (HF.out.ks h2)
   clear h1 h2 HG c0
   go_wp2_with fail
   refine HB.out.mono ?_
   rintro e w2 (⟨k, h1, h2, rfl, h3⟩ | ⟨q, U, v, h1, h2, rfl, h3, h4⟩)
   · have K1 := Lib.hid h1
     have K2 := Lib.hid h2
     have K3 := Lib.hid h3
     clear h1 h2 h3 HB
     go_wp2
     go_ret2
     exact .inl ⟨k, _, K1.out, K2.out, rfl, K3.out⟩
   · have K1 := Lib.hid h1
     have K2 := Lib.hid h2
     have K3 := Lib.hid h3
     have K4 := Lib.hid (HF1.out.ks h4)
     have K5 : Hid (p + 3 ≤ q) := by
       unfold Inf.stored at h1
       split at h1
       · split at h1
         · cases h1
         · cases h1; unfold Hid Inf.up; omega
       · cases h1
     clear h1 h2 h3 h4 HB
     go_wp2
     go_ret2
     exact .inr ⟨q, U, v, fl, fd, K1.out, K2.out, K5.out, rfl, K3.out, K4.out⟩
 · have hcd : Inf.block V (8 * L) M 1 (p + 3) T = Inf.runs (Inf.cstep Inf.fixl Inf.fixd V (8 * L) M) (p + 3) T := by
     show Inf.coded Inf.fixl Inf.fixd V (8 * L) M (p + 3) T = _
     rw [Inf.coded, if_pos ⟨Inf.mk_fixl, Inf.mk_fixd⟩]
   rw [hcd]
   clear k4 hcd
   go_enter Tryz.func31, Tryz.ntmps31
   go_wp2_with fail
   refine HG.out.mono ?_
   rintro e w1 ⟨rfl, h1, h2⟩
   have HB := Lib.hid (fixedCodes_any w0 w1 g r L V (p + 3) T vt M fl fd h1 (HF.out.ks h2))
   clear h1 h2 HG c0
   go_wp2_with fail
   refine HB.out.mono ?_
   rintro e w2 ⟨A, B, rfl, h1, h2, h3, h4⟩
   have HSY := Lib.hid (symbols_any Inf.fixl Inf.fixd A B w0 w2 g r L V (p + 3) T vt M _ _ h3 HL.out Inf.mk_fixl Inf.mk_fixd h1 h2 HT.out HM.out)
   have HF2 : Hid (Fx w2 (.pointer (some ⟨A, 0, none⟩)) (.pointer (some ⟨B, 0, none⟩))) := .inr ⟨A, B, rfl, rfl, h1, h2⟩
   clear h1 h2 h3 h4 HB
   go_wp2_with fail
   refine HSY.out.mono ?_
   rintro e w3 (⟨k, h1, h2, rfl, h3⟩ | ⟨q, U, v, h1, h2, rfl, h3, h4⟩)
   · have K1 := Lib.hid h1
     have K2 := Lib.hid h2
     have K3 := Lib.hid h3
     clear h1 h2 h3 HSY
     go_wp2
     go_ret2
     exact .inl ⟨k, _, K1.out, K2.out, rfl, K3.out⟩
   · have K1 := Lib.hid h1
     have K2 := Lib.hid h2
     have K3 := Lib.hid h3
     have K4 := Lib.hid (HF2.out.ks h4)
     have K5 := Lib.hid (Inf.coded_le h1)
     clear h1 h2 h3 h4 HSY
     go_wp2
     go_ret2
     exact .inr ⟨q, U, v, _, _, K1.out, K2.out, K5.out, rfl, K3.out, K4.out⟩
 · rw [show Inf.block V (8 * L) M 2 (p + 3) T = Inf.dynamic V (8 * L) M (p + 3) T from rfl]
   clear k4
   obtain ⟨RD, hrd⟩ : ∃ RD, RD = Inf.dynamic V (8 * L) M (p + 3) T := ⟨_, rfl⟩
   rw [← hrd]
   have HRD := Lib.hid hrd
   have HOCH := Lib.hid HOC
   clear hrd HOC
   go_enter Tryz.func31, Tryz.ntmps31
   go_wp2_with fail
   refine HG.out.mono ?_
   rintro e w1 ⟨rfl, h1, h2⟩
   have HB := Lib.hid (HOCH.out w0 w1 g r L V (p + 3) T vt M fl fd h1 HL.out)
   have HF1 := Lib.hid (HF.out.ks h2)
   clear h1 h2 HG c0 HF HOCH
   go_wp2_with fail
   refine HB.out.mono ?_
   rintro e w2 (⟨h1, ⟨A, B, rfl⟩, h2⟩ | ⟨x, y, q, A, B, h1, h2, h3, rfl, h4, h5, h6, h7, h8⟩)
   · have HE : Hid (RD = .err 4) := HRD.out.trans h1
     have K1 : Hid (Below w0.heap.size w0 (w2.alloc (.cells #[.pointer A, .pointer B] 85))) := h2.alloc h2.size _
     clear h1 h2 HB
     go_wp2
     go_ret2
     exact .inl ⟨4, false, HE.out, by decide, rfl, K1.out⟩
   · have HE : Hid (RD = Inf.runs (Inf.cstep x y V (8 * L) M) q T) := HRD.out.trans h1
     have hb2 : Below w2.heap.size w2 (w2.alloc (.cells #[.pointer (some ⟨A, 0, none⟩), .pointer (some ⟨B, 0, none⟩)] 85)) := (Below.refl _ _).alloc (Nat.le_refl _) _
     have HSY := Lib.hid (symbols_any x y A B w0 _ g r L V q T vt M fl fd (h6.later hb2) HL.out h2 h3 (h4.ks (Ks.below hb2)) (h5.ks (Ks.below hb2)) HT.out HM.out)
     have HF2 := Lib.hid ((HF1.out.ks h7).ks (Ks.below hb2))
     have HPQ := Lib.hid h8
     clear h1 h2 h3 h4 h5 h6 h7 h8 HB hb2
     go_wp2_with fail
     refine HSY.out.mono ?_
     rintro e w3 (⟨k, h1, h2, rfl, h3⟩ | ⟨q2, U, v, h1, h2, rfl, h3, h4⟩)
     · have K1 := Lib.hid (HE.out.trans h1)
       have K2 := Lib.hid h2
       have K3 := Lib.hid h3
       clear h1 h2 h3 HSY
       go_wp2
       go_ret2
       exact .inl ⟨k, _, K1.out, K2.out, rfl, K3.out⟩
     · have K1 := Lib.hid (HE.out.trans h1)
       have K2 := Lib.hid h2
       have K3 := Lib.hid h3
       have K4 := Lib.hid (HF2.out.ks h4)
       have K5 : Hid (p + 3 ≤ q2) := Nat.le_trans HPQ.out (Inf.coded_le h1)
       clear h1 h2 h3 h4 HSY
       go_wp2
       go_ret2
       exact .inr ⟨q2, U, v, fl, fd, K1.out, K2.out, K5.out, rfl, K3.out, K4.out⟩
 · rw [show Inf.block V (8 * L) M 3 (p + 3) T = .err 4 from rfl]
   clear k4
   go_enter Tryz.func31, Tryz.ntmps31
   go_wp2_with fail
   refine HG.out.mono ?_
   rintro e w1 ⟨rfl, h1, h2⟩
   have K := Lib.hid h1.bel
   clear h1 h2 HG c0
   go_wp2
   go_ret2
   exact .inl ⟨4, false, rfl, by decide, rfl, K.out⟩
end Go.Proofs.YtenkkononchgmaaGreatDoor
