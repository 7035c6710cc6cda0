/- Laid together: HufNextQ HufApart HufPref. -/
import Derived.Test.YtenkkononchgmaaGreatDoorDkB02

namespace Go.Proofs.YtenkkononchgmaaGreatDoor
open Go.RowKit Go

inductive Huf.NextQ (C : Nat → Nat) (l : List Nat) (V L p : Nat) : Int → Bool → Nat → Prop
 | found (k s : Nat) (h1 : 1 ≤ k) (h2 : k ≤ 15) (h3 : p + k ≤ 8 * L) (h4 : Huf.No C V p k) (h5 : Huf.fst C k ≤ Huf.vl V p k) (h6 : Huf.vl V p k < Huf.fst C k + C k) (h7 : l[Huf.tot C k + (Huf.vl V p k - Huf.fst C k)]? = some s) : NextQ C l V L p (s : Nat) true (p + k)
 | short (k : Nat) (h2 : k ≤ 14) (h3 : p + k = 8 * L) (h4 : Huf.No C V p (k + 1)) (h5 : Huf.tot C (k + 1) < Huf.tot C 16) : NextQ C l V L p 0 false (p + k)
 | none (k : Nat) (h2 : k ≤ 15) (h3 : p + k ≤ 8 * L) (h4 : Huf.No C V p (k + 1)) (h5 : Huf.tot C (k + 1) = Huf.tot C 16) (h6 : k = 0 ∨ Huf.tot C k < Huf.tot C 16) : NextQ C l V L p 0 false (p + k)

set_option maxRecDepth 100000 in
set_option maxHeartbeats 4000000 in
theorem nextq_any (D : Nat) (C : Nat → Nat) (l : List Nat) (g p L V G : Nat) (w : World) (hd : DcR w D C l) (hr : Rd w g p L V G) (hL : L ≤ 1000000000) (hC : ∀ k, C k ≤ 288) (hC0 : C 0 = 0) (hl : l.length = Huf.tot C 16) :
   Calls Tryz.prog 127 #[.pointer (some ⟨D, 0, none⟩), .pointer (some ⟨g, 0, none⟩)] w fun e w' => ∃ s ok q, e = .returned (.tuple #[.int .i64 s, .bool ok]) ∧ Huf.NextQ C l V L p s ok q ∧ Rd w' g q L V G ∧ w.grownBy w' (some g) ∧ DcR w' D C l := by
 have HD : Hid (DcR w D C l) := hd
 have HR : Hid (Rd w g p L V G) := hr
 have HL := Lib.hid hL
 have HC := Lib.hid hC
 have HC0 := Lib.hid hC0
 have HLL := Lib.hid hl
 have hmade := dmade_yes D w (by obtain ⟨v, base, h1, h2⟩ := hd.d; exact h1.c0)
 clear hd hr hL hC hC0 hl
 go_enter Tryz.func127, Tryz.ntmps127
 go_wp2_with fail
 refine hmade.mono ?_
 rintro e w' ⟨rfl, rfl⟩
 clear hmade
 go_wp2_with fail
 go_loopw [6, 7, 8, 9] (fun v6 v7 v8 v9 wr => ∃ k k1 c f t : Nat, (k ≤ 15 ∧ k1 = k + 1 ∧ c = Huf.vl V p k ∧ f = Huf.fst C k + C k ∧ t = Huf.tot C k1) ∧ v6 = .int .i64 (c : Int) ∧ v7 = .int .i64 (f : Int) ∧ v8 = .int .i64 (t : Int) ∧ v9 = .int .i64 (k1 : Int) ∧ p + k ≤ 8 * L ∧ (Huf.No C V p k1 ∧ (k = 0 ∨ Huf.tot C k < Huf.tot C 16)) ∧ Rd wr g (p + k) L V G ∧ w.grownBy wr (some g) ∧ DcR wr D C l) (fun _ _ _ v9 _ => (20 - intOf v9).toNat)
 case atStart => exact ⟨0, 1, 0, 0, 0, ⟨by omega, rfl, rfl, by rw [Huf.fst, HC0.out], by rw [Huf.tot, Huf.tot, HC0.out]⟩, rfl, rfl, rfl, rfl, by have := HR.out.le; omega, ⟨fun j h1 h2 => by omega, .inl rfl⟩, HR.out, gb_refl _ _, HD.out⟩
 case round =>
   clear HD HR
   obtain ⟨k, k1, c, f, t, hq, rfl, rfl, rfl, rfl, hpk, hno, hr, hg, hd⟩ := hrel
   have HQ := Lib.hid hq; clear hq
   have HR := Lib.hid hr; clear hr
   have HG := Lib.hid hg; clear hg
   have HD := Lib.hid hd; clear hd
   have HNO := Lib.hid hno.1
   have HNZ := Lib.hid hno.2; clear hno
   have HPK := Lib.hid hpk; clear hpk
   obtain ⟨v, base, hd1, hv1⟩ := HD.out.d
   have HD1 := Lib.hid hd1; clear hd1
   have HV1 := Lib.hid hv1; clear hv1
   obtain ⟨va, vc, rfl⟩ := own_form HV1.out
   have c17 := HD1.out.c17
   rw [HLL.out] at c17
   obtain ⟨T, hT⟩ : ∃ T, T = Huf.tot C 16 := ⟨_, rfl⟩
   rw [← hT] at c17
   have HT := Lib.hid hT; clear hT
   have t6 : (t : Int) ≤ 10000 := by
     obtain ⟨q0, q1, q2, q3, q4⟩ := HQ.out
     have := Huf.tot_le C 288 HC.out k1; omega
   have T6 : (T : Int) ≤ 10000 := by have := HT.out; have := Huf.tot_le C 288 HC.out 16; omega
   have k6 : (k1 : Int) ≤ 16 := by obtain ⟨q0, q1, q2, q3, q4⟩ := HQ.out; omega
   by_cases hlt : t < T
   · have hdc : decide (t < T) = true := decide_eq_true hlt
     have hk14 : k ≤ 14 := by
       obtain ⟨q0, q1, q2, q3, q4⟩ := HQ.out
       apply Classical.byContradiction; intro hc
       obtain rfl : k = 15 := by omega
       have : t = T := by rw [q4, HT.out, q1]
       omega
     rcases Nat.lt_or_ge (p + k) (8 * L) with hbit | hbit
     · have HX := get_any g (p + k) L V G 1 wr HR.out HL.out (by omega) (by omega)
       have HBT := Lib.hid hbit; clear hbit
       obtain ⟨b, hb⟩ : ∃ b, b = V / 2 ^ (p + k) % 2 := ⟨_, rfl⟩
       have hb2 : b < 2 := by omega
       rw [Nat.pow_one, ← hb] at HX
       -- the letters of the next round
       obtain ⟨k2, hk2⟩ : ∃ x, x = k1 + 1 := ⟨_, rfl⟩
       obtain ⟨c', hc'⟩ : ∃ x, x = Huf.vl V p k1 := ⟨_, rfl⟩
       obtain ⟨f', hf'⟩ : ∃ x, x = Huf.fst C k1 := ⟨_, rfl⟩
       obtain ⟨n1, hn1⟩ : ∃ x, x = C k1 := ⟨_, rfl⟩
       obtain ⟨t', ht'⟩ : ∃ x, x = Huf.tot C k2 := ⟨_, rfl⟩
       obtain ⟨f2, hf2⟩ : ∃ x, x = Huf.fst C k1 + C k1 := ⟨_, rfl⟩
       have hfacts : (c' = 2 * c + b ∧ c < 16384) ∧ (f' = f * 2 ∧ f ≤ 20000000) ∧ f' ≤ c' ∧ n1 ≤ 288 ∧ t' = t + n1 ∧ t' ≤ T ∧ f2 = f' + n1 := by
         obtain ⟨q0, q1, q2, q3, q4⟩ := HQ.out
         have a1 : c' = 2 * c + b := by rw [hc', q1, Huf.vl, q2, hb]
         have c2 := Huf.vl_lt V p k
         have c3 : 2 ^ k ≤ 2 ^ 14 := Nat.pow_le_pow_right (by omega) hk14
         have f1 := Huf.fst_le C 288 HC.out k
         have f2' : 2 ^ (k + 1) ≤ 2 ^ 15 := Nat.pow_le_pow_right (by omega) (by omega)
         have f3 : 288 * 2 ^ (k + 1) ≤ 288 * 2 ^ 15 := Nat.mul_le_mul_left _ f2'
         have f4 := HC.out k
         have a2 : f' = f * 2 := by rw [hf', q1, Huf.fst, q3]; omega
         have a3 : f' ≤ c' := by
           rw [a1, a2]
           rcases Nat.eq_zero_or_pos k with h0 | h0
           · rw [h0, Huf.fst, HC0.out] at q3; omega
           · have := HNO.out k h0 (by omega); omega
         have a4 : t' = t + n1 := by rw [ht', hk2, Huf.tot, q4, hn1]
         have a5 : t' ≤ T := by
           have := Huf.tot_mono C k2 (16 - k2)
           rw [show k2 + (16 - k2) = 16 by omega, ← ht', ← HT.out] at this; exact this
         exact ⟨⟨a1, by omega⟩, ⟨a2, by omega⟩, a3, by rw [hn1]; exact HC.out _, a4, a5, by rw [hf2, hf', hn1]⟩
       have HF := Lib.hid hfacts
       have hor := Huf.or1 c b (by omega) hb2
       rw [← hfacts.1.1] at hor
       have v6 : (c : Int) ≤ 20000 := by omega
       have v7 : (c' : Int) ≤ 40001 := by omega
       have F6 : (f : Int) ≤ 20000000 := by omega
       have F7 : (f : Int) * 2 = (f' : Int) := by omega
       have F76 : (f' : Int) ≤ 40000000 := by omega
       have hb6 : (b : Int) ≤ 1 := by omega
       have ck6 : (n1 : Int) ≤ 288 := by omega
       obtain ⟨pl, hpl⟩ : ∃ x, x = c' - f' := ⟨_, rfl⟩
       have hplI : (c' : Int) - (f' : Int) = (pl : Int) := by omega
       have pl6 : (pl : Int) ≤ 40001 := by omega
       have HPL := Lib.hid hpl
       have hsum : (t : Int) + (n1 : Int) = (t' : Int) := by omega
       have t6' : (t' : Int) ≤ 10000 := by omega
       have hsum2 : (f' : Int) + (n1 : Int) = (f2 : Int) := by omega
       have f26 : (f2 : Int) ≤ 50000000 := by omega
       have hkk : (k1 : Int) + 1 = (k2 : Int) := by omega
       have HK : Hid (k2 = k1 + 1 ∧ k1 = k + 1 ∧ k ≤ 14) := by obtain ⟨q0, q1, q2, q3, q4⟩ := HQ.out; exact ⟨hk2, q1, hk14⟩
       have HE : Hid (c' = Huf.vl V p k1 ∧ f' = Huf.fst C k1 ∧ n1 = C k1 ∧ t' = Huf.tot C k2 ∧ f2 = Huf.fst C k1 + C k1 ∧ t = Huf.tot C k1) := ⟨hc', hf', hn1, ht', hf2, HQ.out.2.2.2.2⟩
       have hkI : (k1 : Int) < 16 := by have := HK.out; omega
       have hk16 : k1 < 16 := by omega
       have hk2I : (k2 : Int) ≤ 17 := by have := HK.out; omega
       clear hb hk2 hc' hf' hn1 ht' hf2 hfacts hpl hk14
       go_wp2_with fail
       refine HX.mono ?_
       rintro e w5 ⟨rfl, hr5, hg5⟩
       have HR5 : Hid (Rd w5 g (p + k1) L V G) := by have := HK.out.2.1; rw [this, ← Nat.add_assoc]; exact hr5
       have HG5 : Hid (w.grownBy w5 (some g)) := gb_trans HG.out hg5
       have HD5 : Hid (DcR w5 D C l) := HD.out.step HR.out hg5
       have hdd := HD1.out.stepR HR.out hg5
       have HV5 := Lib.hid (own_stepR HV1.out HR.out hg5)
       have c17' := hdd.c17
       rw [HLL.out, ← HT.out] at c17'
       have ck := hdd.ck (k := k1) hk16
       rw [← HE.out.2.2.1] at ck
       clear hdd hr5 hg5 HR HG HD HD1 HV1 c17 HX
       by_cases hpc : pl < n1
       · have hdp : decide (pl < n1) = true := decide_eq_true hpc
         have HFF := HF.out
         obtain ⟨ix, hix⟩ : ∃ ix, ix = t + pl := ⟨_, rfl⟩
         have hlen : ix < T := by omega
         obtain ⟨ss, hs⟩ : ∃ ss, l[ix]? = some ss := ⟨_, List.getElem?_eq_getElem (by rw [HLL.out, ← HT.out]; exact hlen)⟩
         obtain ⟨bb, cc, hve, -, -⟩ := HV5.out.form (by rw [HLL.out, ← HT.out]; omega)
         simp only [Value.slice.injEq] at hve
         obtain ⟨rfl, -, rfl⟩ := hve
         have hcell := HV5.out.cellAt ix (by rw [HLL.out, ← HT.out]; omega)
         rw [nv_get _ _ _ hs] at hcell
         have HFD : Hid (Huf.NextQ C l V L p (ss : Nat) true (p + k1)) := by
           obtain ⟨z1, z2, z3, z4, z5, z6⟩ := HE.out
           have hk := HK.out
           have hp := HPL.out
           refine .found k1 ss (by omega) (by omega) (by have := HBT.out; omega) HNO.out (by omega) (by omega) ?_
           rw [← z1, ← z2, ← z6, ← hp, ← hix]; exact hs
         have hixI : (t : Int) + (pl : Int) = (ix : Int) := by omega
         have ix6 : (ix : Int) < (T : Int) := by omega
         have ix7 : (ix : Int) ≤ 10000 := by omega
         clear hs hix hlen hpc hlt hsum hsum2 HFF
         go_wp2
         go_returns
         exact ⟨ss, true, p + k1, rfl, HFD.out, HR5.out, HG5.out, HD5.out⟩
       · have hdp : decide (pl < n1) = false := decide_eq_false hpc
         have HNO2 : Hid (Huf.No C V p k2) := fun j h1 h2 => by
           obtain ⟨z1, z2, z3, z4, z5, z6⟩ := HE.out
           have hk := HK.out
           have hp := HPL.out
           have hf := HF.out
           rcases Nat.lt_or_ge j k1 with hj | hj
           · exact HNO.out j h1 hj
           · obtain rfl : j = k1 := by omega
             omega
         have HNZ2 : Hid (k1 = 0 ∨ Huf.tot C k1 < Huf.tot C 16) := .inr (by obtain ⟨z1, z2, z3, z4, z5, z6⟩ := HE.out; rw [← z6, ← HT.out]; exact hlt)
         clear hpc hlt
         go_wp2
         have hk := HK.out
         have hbt := HBT.out
         obtain ⟨z1, z2, z3, z4, z5, z6⟩ := HE.out
         exact ⟨⟨k1, k2, c', f2, t', ⟨by omega, by omega, z1, z5, z4⟩, rfl, rfl, rfl, rfl, by omega, ⟨HNO2.out, HNZ2.out⟩, HR5.out, HG5.out, HD5.out⟩, by simp [intOf]; omega⟩
     · have HX := get_bad g (p + k) L V G 1 wr HR.out HL.out (by right; right; omega)
       have HBE : Hid (p + k = 8 * L) := by have := HPK.out; show _ = _; omega
       have HSH : Hid (Huf.NextQ C l V L p 0 false (p + k)) := by
         obtain ⟨q0, q1, q2, q3, q4⟩ := HQ.out
         exact .short k hk14 HBE.out (by rw [← q1]; exact HNO.out) (by rw [← q1, ← q4, ← HT.out]; exact hlt)
       clear hbit
       go_wp2_with fail
       with_reducible refine HX.mono ?_
       rintro e w5 ⟨rfl, hdr⟩
       have HE : Hid (Rd w5 g (p + k) L V G ∧ w.grownBy w5 (some g) ∧ DcR w5 D C l) := ⟨HR.out.drawn hdr, gb_trans HG.out (hdr.grown _), HD.out.step HR.out (hdr.grown _)⟩
       clear hdr HX HR HG HD
       go_wp2
       go_returns
       exact ⟨0, false, p + k, rfl, HSH.out, HE.out⟩
   · have HSH : Hid (Huf.NextQ C l V L p 0 false (p + k)) := by
       obtain ⟨q0, q1, q2, q3, q4⟩ := HQ.out
       refine .none k q0 HPK.out (by rw [← q1]; exact HNO.out) ?_ HNZ.out
       have := Huf.tot_mono C (k + 1) (15 - k)
       rw [show k + 1 + (15 - k) = 16 by omega, ← q1, ← q4, ← HT.out] at this
       rw [← q1, ← q4, ← HT.out]; omega
     have hdc : decide (t < T) = false := decide_eq_false hlt
     go_wp2
     go_returns
     exact ⟨0, false, p + k, rfl, HSH.out, HR.out, HG.out, HD.out⟩
end Go.Proofs.YtenkkononchgmaaGreatDoor

namespace Go.Proofs.YtenkkononchgmaaGreatDoor

theorem Huf.fst_far (C : Nat → Nat) (a : Nat) : ∀ d, 2 ^ (d + 1) * (Huf.fst C a + C a) ≤ Huf.fst C (a + (d + 1))
 | 0 => by rw [← Nat.add_assoc, Huf.fst]; exact Nat.le_refl _
 | d + 1 => by
   have h := Huf.fst_far C a d
   rw [← Nat.add_assoc, Huf.fst, Nat.pow_succ]
   have : 2 ^ (d + 1) * 2 * (Huf.fst C a + C a) = 2 * (2 ^ (d + 1) * (Huf.fst C a + C a)) := by
     rw [Nat.mul_comm (2 ^ (d + 1)) 2, Nat.mul_assoc]
   omega
theorem Huf.code_lt (L : Nat → Int) (n i : Nat) (hi : i < n) (h : 0 < L i) : Huf.code L n i < Huf.fst (Huf.cnt L n) (L i).toNat + Huf.cnt L n (L i).toNat := by
 rw [Huf.code, if_pos h]
 have := Huf.cnt_lt L (k := (L i).toNat) hi (by omega) (by omega)
 omega
theorem Huf.code_same (L : Nat → Int) (n i k : Nat) (h : 0 < L i) (e : L i = L k) (hik : i < k) : Huf.code L n i < Huf.code L n k := by
 rw [Huf.code, Huf.code, if_pos h, if_pos (by omega), ← e]
 have := Huf.cnt_lt L (k := (L i).toNat) hik (by omega) (by omega)
 omega
end Go.Proofs.YtenkkononchgmaaGreatDoor

namespace Go.Proofs.YtenkkononchgmaaGreatDoor

def Huf.Beg (L : Nat → Int) (n V p k : Nat) : Prop := ∃ i, i < n ∧ 0 < L i ∧ (k : Int) ≤ L i ∧ Huf.code L n i / 2 ^ ((L i).toNat - k) = Huf.vl V p k
def Huf.Hit (L : Nat → Int) (n V p k i : Nat) : Prop := i < n ∧ 0 < k ∧ L i = (k : Int) ∧ Huf.code L n i = Huf.vl V p k
inductive Huf.Tells (L : Nat → Int) (n V p m : Nat) : Int → Nat → Bool → Prop
 | found (k i : Nat) (h1 : k ≤ m) (h2 : ∀ j, j ≤ k → Huf.Beg L n V p j) (h3 : ∀ j, j < k → ∀ t, ¬ Huf.Hit L n V p j t) (h4 : Huf.Hit L n V p k i) : Tells L n V p m (i : Nat) k true
 | short (h2 : ∀ j, j ≤ m → Huf.Beg L n V p j) (h3 : ∀ j, j ≤ m → ∀ t, ¬ Huf.Hit L n V p j t) : Tells L n V p m 0 m false
 | none (k : Nat) (h1 : k ≤ m) (h2 : ∀ j, j < k → Huf.Beg L n V p j) (h3 : ∀ j, j < k → ∀ t, ¬ Huf.Hit L n V p j t) (h4 : ¬ Huf.Beg L n V p k) : Tells L n V p m 0 k false

theorem Huf.vl_div (V p : Nat) (j : Nat) : ∀ d, Huf.vl V p (j + d) / 2 ^ d = Huf.vl V p j
 | 0 => by simp
 | d + 1 => by
   have h := Huf.vl_div V p j d
   rw [← Nat.add_assoc, Huf.vl, Nat.pow_succ', ← Nat.div_div_eq_div_mul, show (2 * Huf.vl V p (j + d) + V / 2 ^ (p + (j + d)) % 2) / 2 = Huf.vl V p (j + d) by omega]
   exact h
theorem Huf.hit_same {L : Nat → Int} {n V p k i t : Nat} (h : Huf.Hit L n V p k i) (h' : Huf.Hit L n V p k t) : i = t := by
 obtain ⟨a1, a2, a3, a4⟩ := h
 obtain ⟨b1, b2, b3, b4⟩ := h'
 rcases Nat.lt_trichotomy i t with c | c | c
 · have := Huf.code_same L n i t (by omega) (by omega) c; omega
 · exact c
 · have := Huf.code_same L n t i (by omega) (by omega) c; omega
theorem Huf.hit_beg {L : Nat → Int} {n V p k i : Nat} (h : Huf.Hit L n V p k i) (j : Nat) (hj : j ≤ k) : Huf.Beg L n V p j := by
 obtain ⟨a1, a2, a3, a4⟩ := h
 refine ⟨i, a1, by omega, by omega, ?_⟩
 have := Huf.vl_div V p j (k - j)
 rw [show j + (k - j) = k by omega] at this
 rw [a4, a3]
 exact this
theorem Huf.no_hit {L : Nat → Int} {n V p k : Nat} (h : Huf.No (Huf.cnt L n) V p k) (j : Nat) (hj : j < k) (t : Nat) : ¬ Huf.Hit L n V p j t := by
 rintro ⟨a1, a2, a3, a4⟩
 have h1 := h j a2 hj
 have h2 := Huf.code_lt L n t a1 (by omega)
 rw [a3, Int.toNat_natCast] at h2
 omega
theorem Huf.fst_take (C : Nat → Nat) (h0 : C 0 = 0) : ∀ k, k ≤ 15 → Huf.fst C k * 2 ^ (15 - k) = Huf.take C k
 | 0, _ => by rw [Huf.fst, Huf.take, Nat.zero_mul]
 | k + 1, hk => by
   have h := Huf.fst_take C h0 k (by omega)
   rw [Huf.fst, Huf.take, ← h, ← Nat.add_mul, show 15 - k = (15 - (k + 1)) + 1 by omega, Nat.pow_succ, Nat.mul_comm 2, Nat.mul_assoc, Nat.mul_comm 2]
theorem Huf.whole {C : Nat → Nat} (h0 : C 0 = 0) (h : Huf.take C 16 = 32768) : Huf.fst C 15 + C 15 = 32768 := by
 have h1 := Huf.fst_take C h0 15 (Nat.le_refl _)
 rw [Huf.take] at h
 simp at h h1
 omega
theorem Huf.long {L : Nat → Int} {n V p k : Nat} (hw : Huf.take (Huf.cnt L n) 16 = 32768) (hk : k ≤ 14) (hno : Huf.No (Huf.cnt L n) V p (k + 1)) : Huf.Beg L n V p k := by
 have h15 := Huf.whole (Huf.cnt_zero L n) hw
 have hv := Huf.vl_lt V p k
 have key : ∀ d, 1 ≤ d → k + d ≤ 15 → (Huf.fst (Huf.cnt L n) (k + d) ≤ Huf.vl V p k * 2 ^ d) → (∃ i, i < n ∧ 0 < L i ∧ (k : Int) ≤ L i ∧ Huf.code L n i / 2 ^ ((L i).toNat - k) = Huf.vl V p k) ∨ (Huf.fst (Huf.cnt L n) (k + d) + Huf.cnt L n (k + d) ≤ Huf.vl V p k * 2 ^ d) := by
   intro d hd hkd hf
   rcases Nat.lt_or_ge (Huf.vl V p k * 2 ^ d) (Huf.fst (Huf.cnt L n) (k + d) + Huf.cnt L n (k + d)) with c | c
   · left
     obtain ⟨i, h1, h2, h3, h4, _⟩ := Huf.row_of L (k := k + d) (p := Huf.vl V p k * 2 ^ d - Huf.fst (Huf.cnt L n) (k + d)) (n := n) (by omega)
     refine ⟨i, h1, by omega, by omega, ?_⟩
     have hc : Huf.code L n i = Huf.vl V p k * 2 ^ d := by
       rw [Huf.code, if_pos (by omega), h3, Int.toNat_natCast, h4]; omega
     rw [hc, h3, Int.toNat_natCast, Nat.add_sub_cancel_left]
     exact Nat.mul_div_cancel _ (Nat.two_pow_pos _)
   · exact .inr c
 have all : ∀ d, 1 ≤ d → k + d ≤ 15 → (∃ i, i < n ∧ 0 < L i ∧ (k : Int) ≤ L i ∧ Huf.code L n i / 2 ^ ((L i).toNat - k) = Huf.vl V p k) ∨ (Huf.fst (Huf.cnt L n) (k + d) + Huf.cnt L n (k + d) ≤ Huf.vl V p k * 2 ^ d) := by
   intro d hd
   induction d with
   | zero => omega
   | succ d ih =>
     intro hkd
     by_cases e : d = 0
     · subst e
       refine key 1 (by omega) hkd ?_
       have h1 : Huf.fst (Huf.cnt L n) k + Huf.cnt L n k ≤ Huf.vl V p k := by
         by_cases z : k = 0
         · subst z; rw [Huf.fst, Huf.cnt_zero]; omega
         · exact hno k (by omega) (by omega)
       rw [Huf.fst]; simp; omega
     · rcases ih (by omega) (by omega) with h | h
       · exact .inl h
       · refine key (d + 1) (by omega) hkd ?_
         rw [← Nat.add_assoc, Huf.fst, Nat.pow_succ, ← Nat.mul_assoc]
         omega
 rcases all (15 - k) (by omega) (by omega) with h | h
 · exact h
 · rw [show k + (15 - k) = 15 by omega, h15] at h
   have h2 : Huf.vl V p k * 2 ^ (15 - k) < 2 ^ k * 2 ^ (15 - k) := Nat.mul_lt_mul_of_pos_right hv (Nat.two_pow_pos _)
   rw [← Nat.pow_add, show k + (15 - k) = 15 by omega] at h2
   omega
theorem Huf.tot_up (C : Nat → Nat) {a b : Nat} (h : a ≤ b) : Huf.tot C a ≤ Huf.tot C b := by
 have := Huf.tot_mono C a (b - a)
 rwa [show a + (b - a) = b by omega] at this
theorem Huf.take_end (C : Nat → Nat) (k : Nat) : ∀ d, Huf.tot C (k + d) = Huf.tot C k → Huf.take C (k + d) = Huf.take C k
 | 0, _ => rfl
 | d + 1, h => by
   have h1 := Huf.tot_mono C k d
   rw [← Nat.add_assoc, Huf.tot] at h
   rw [← Nat.add_assoc, Huf.take, Huf.take_end C k d (by omega), show C (k + d) = 0 by omega]; omega
theorem Huf.in_tot {L : Nat → Int} {n i l : Nat} (hi : i < n) (hl : L i = (l : Int)) (h0 : 0 < l) : Huf.tot (Huf.cnt L n) l + 1 ≤ Huf.tot (Huf.cnt L n) (l + 1) := by
 have := Huf.cnt_lt L hi h0 hl
 rw [Huf.tot]; omega
theorem Huf.tot2 (L : Nat → Int) (n : Nat) : Huf.tot (Huf.cnt L n) 2 = Huf.cnt L n 1 ∧ Huf.tot (Huf.cnt L n) 1 = 0 := by
 have := Huf.cnt_zero L n
 constructor
 · rw [Huf.tot, Huf.tot, Huf.tot]; omega
 · rw [Huf.tot, Huf.tot]; omega
theorem Huf.No.less {C : Nat → Nat} {V p k j : Nat} (h : Huf.No C V p k) (hj : j ≤ k) : Huf.No C V p j := fun t h1 h2 => h t h1 (by omega)
theorem Huf.one_beg {L : Nat → Int} {n V p : Nat} (h : 0 < Huf.cnt L n 1) : Huf.Beg L n V p 0 := by
 obtain ⟨i, h1, h2, h3, h4, _⟩ := Huf.row_of L h
 refine ⟨i, h1, by omega, by omega, ?_⟩
 have hc : Huf.code L n i = 0 := by
   rw [Huf.code, if_pos (by omega), h3]
   show Huf.fst (Huf.cnt L n) 1 + Huf.cnt L i 1 = 0
   rw [h4, Huf.fst, Huf.fst, Huf.cnt_zero]
 rw [hc, Nat.zero_div]; rfl
theorem Huf.agree {L : Nat → Int} {n V Lb p q : Nat} {s : Int} {ok : Bool} (hm : Huf.Makes L n) (h : Huf.NextQ (Huf.cnt L n) (Huf.syms L n 16) V Lb p s ok q) : ∃ k, q = p + k ∧ Huf.Tells L n V p (8 * Lb - p) s k ok := by
 have hkind : Huf.tot (Huf.cnt L n) 16 = 0 ∨ Huf.take (Huf.cnt L n) 16 = 32768 ∨ (Huf.tot (Huf.cnt L n) 16 = 1 ∧ Huf.cnt L n 1 = 1) := by
   have := hm.2
   unfold Huf.mk at this
   simp only [Bool.or_eq_true, Bool.and_eq_true, decide_eq_true_eq] at this
   rcases this with (h | h) | h
   · exact .inl h
   · exact .inr (.inl h)
   · exact .inr (.inr h)
 have ht2 := Huf.tot2 L n
 cases h with
 | found k t h1 h2 h3 h4 h5 h6 h7 =>
   obtain ⟨i, g1, g2, g3, g4, g5⟩ := Huf.row_of L (k := k) (p := Huf.vl V p k - Huf.fst (Huf.cnt L n) k) (n := n) (by omega)
   have g6 := Huf.syms_get L n (k := k) (K := 16) (p := Huf.vl V p k - Huf.fst (Huf.cnt L n) k) (i := i) (by omega) (by omega) g5
   rw [h7] at g6
   simp only [Option.some.injEq] at g6
   subst g6
   have hit : Huf.Hit L n V p k t := ⟨g1, g2, g3, by rw [Huf.code, if_pos (by omega), g3, Int.toNat_natCast, g4]; omega⟩
   exact ⟨k, rfl, .found k t (by omega) (fun j hj => Huf.hit_beg hit j hj) (fun j hj => Huf.no_hit h4 j hj) hit⟩
 | short k h2 h3 h4 h5 =>
   refine ⟨k, rfl, ?_⟩
   rw [show 8 * Lb - p = k by omega]
   refine .short (fun j hj => ?_) (fun j hj => Huf.no_hit h4 j (by omega))
   rcases hkind with c | c | c
   · omega
   · exact Huf.long c (by omega) (h4.less (by omega))
   · have hk0 : k = 0 := by
       apply Classical.byContradiction; intro hne
       have := Huf.tot_up (Huf.cnt L n) (a := 2) (b := k + 1) (by omega)
       omega
     obtain rfl : j = 0 := by omega
     exact Huf.one_beg (by omega)
 | none k h2 h3 h4 h5 h6 =>
   refine ⟨k, rfl, ?_⟩
   rcases hkind with c | c | c
   · have hk0 : k = 0 := by omega
     subst hk0
     refine .none 0 (by omega) (fun j hj => by omega) (fun j hj => by omega) ?_
     rintro ⟨i, g1, g2, g3, g4⟩
     have hl := (hm.1.2 i g1).2
     have := Huf.in_tot (L := L) (n := n) (l := (L i).toNat) g1 (by omega) (by omega)
     have := Huf.tot_up (Huf.cnt L n) (a := (L i).toNat + 1) (b := 16) (by omega)
     omega
   · exfalso
     have hv := Huf.vl_lt V p k
     have e := Huf.take_end (Huf.cnt L n) (k + 1) (15 - k) (by rw [show k + 1 + (15 - k) = 16 by omega]; exact h5.symm)
     rw [show k + 1 + (15 - k) = 16 by omega, c] at e
     have hfk : Huf.fst (Huf.cnt L n) k + Huf.cnt L n k = 2 ^ k := by
       have h0 := Huf.fst_take (Huf.cnt L n) (Huf.cnt_zero L n) k h2
       rw [Huf.take, ← h0, ← Nat.add_mul] at e
       have hp : 2 ^ k * 2 ^ (15 - k) = 32768 := by rw [← Nat.pow_add, show k + (15 - k) = 15 by omega]
       exact (Nat.mul_right_cancel (Nat.two_pow_pos (15 - k)) (hp.trans e)).symm
     by_cases z : k = 0
     · subst z; rw [Huf.fst, Huf.cnt_zero] at hfk; omega
     · have := h4 k (by omega) (by omega); omega
   · have hk1 : k = 1 := by
       rcases h6 with z | z
       · subst z
         have h5 : Huf.tot (Huf.cnt L n) 1 = Huf.tot (Huf.cnt L n) 16 := h5
         omega
       · apply Classical.byContradiction; intro hne
         rcases Nat.lt_or_ge k 1 with y | y
         · obtain rfl : k = 0 := by omega
           have h5 : Huf.tot (Huf.cnt L n) 1 = Huf.tot (Huf.cnt L n) 16 := h5
           omega
         · have := Huf.tot_up (Huf.cnt L n) (a := 2) (b := k) (by omega)
           omega
     subst hk1
     refine .none 1 (by omega) (fun j hj => ?_) (fun j hj => Huf.no_hit h4 j (by omega)) ?_
     · obtain rfl : j = 0 := by omega
       exact Huf.one_beg (by omega)
     · rintro ⟨i, g1, g2, g3, g4⟩
       have hl := (hm.1.2 i g1).2
       have hin := Huf.in_tot (L := L) (n := n) (l := (L i).toNat) g1 (by omega) (by omega)
       have hup := Huf.tot_up (Huf.cnt L n) (a := (L i).toNat + 1) (b := 16) (by omega)
       have hl1 : L i = 1 := by
         apply Classical.byContradiction; intro hne
         have := Huf.tot_up (Huf.cnt L n) (a := 2) (b := (L i).toNat) (by omega)
         omega
       have hno := h4 1 (by omega) (by omega)
       have hlt := Huf.code_lt L n i g1 (by omega)
       rw [hl1] at g4 hlt
       simp at g4 hlt
       omega
end Go.Proofs.YtenkkononchgmaaGreatDoor
