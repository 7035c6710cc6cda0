/- The walk of huff's Next, once more: where no code is, no longer one was looked for. -/
import Derived.Test.YteajjanjkhhgdaaDoorHmCode
namespace Go.Proofs.YteajjanjkhhgdaaDoor
open Go.RowKit Go

/-- what Next tells, and where the reader stands then -/
inductive Huf.NextQ (C : Nat → Nat) (l : List Nat) (V L p : Nat) : Int → Bool → Nat → Prop
  | found (k s : Nat) (h1 : 1 ≤ k) (h2 : k ≤ 15) (h3 : p + k ≤ 8 * L) (h4 : Huf.No C V p k) (h5 : Huf.fst C k ≤ Huf.vl V p k) (h6 : Huf.vl V p k < Huf.fst C k + C k) (h7 : l[Huf.tot C k + (Huf.vl V p k - Huf.fst C k)]? = some s) : NextQ C l V L p (s : Nat) true (p + k)
  | short (k : Nat) (h2 : k ≤ 14) (h3 : p + k = 8 * L) (h4 : Huf.No C V p (k + 1)) (h5 : Huf.tot C (k + 1) < Huf.tot C 16) : NextQ C l V L p 0 false (p + k)
  | none (k : Nat) (h2 : k ≤ 15) (h3 : p + k ≤ 8 * L) (h4 : Huf.No C V p (k + 1)) (h5 : Huf.tot C (k + 1) = Huf.tot C 16) (h6 : k = 0 ∨ Huf.tot C k < Huf.tot C 16) : NextQ C l V L p 0 false (p + k)

set_option maxRecDepth 100000 in
set_option maxHeartbeats 4000000 in
theorem nextq_any (D : Nat) (C : Nat → Nat) (l : List Nat) (g p L V G : Nat) (w : World) (hd : DcR w D C l) (hr : Rd w g p L V G) (hL : L ≤ 1000000000) (hC : ∀ k, C k ≤ 288) (hC0 : C 0 = 0) (hl : l.length = Huf.tot C 16) :
    Calls Tryd.prog 123 #[.pointer (some ⟨D, 0, none⟩), .pointer (some ⟨g, 0, none⟩)] w fun e w' => ∃ s ok q, e = .returned (.tuple #[.int .i64 s, .bool ok]) ∧ Huf.NextQ C l V L p s ok q ∧ Rd w' g q L V G ∧ w.grownBy w' (some g) ∧ DcR w' D C l := by
  have HD : Hid (DcR w D C l) := hd
  have HR : Hid (Rd w g p L V G) := hr
  have HL := Lib.hid hL
  have HC := Lib.hid hC
  have HC0 := Lib.hid hC0
  have HLL := Lib.hid hl
  have hmade := dmade_yes D w (by obtain ⟨v, base, h1, h2⟩ := hd.d; exact h1.c0)
  clear hd hr hL hC hC0 hl
  go_enter Tryd.func123, Tryd.ntmps123
  go_wp2_with fail
  refine hmade.mono ?_
  rintro e w' ⟨rfl, rfl⟩
  clear hmade
  go_wp2_with fail
  go_loopw [6, 7, 8, 9] (fun v6 v7 v8 v9 wr => ∃ k k1 c f t : Nat, (k ≤ 15 ∧ k1 = k + 1 ∧ c = Huf.vl V p k ∧ f = Huf.fst C k + C k ∧ t = Huf.tot C k1) ∧ v6 = .int .i64 (c : Int) ∧ v7 = .int .i64 (f : Int) ∧ v8 = .int .i64 (t : Int) ∧ v9 = .int .i64 (k1 : Int) ∧ p + k ≤ 8 * L ∧ (Huf.No C V p k1 ∧ (k = 0 ∨ Huf.tot C k < Huf.tot C 16)) ∧ Rd wr g (p + k) L V G ∧ w.grownBy wr (some g) ∧ DcR wr D C l) (fun _ _ _ v9 _ => (20 - intOf v9).toNat)
  case atStart => exact ⟨0, 1, 0, 0, 0, ⟨by omega, rfl, rfl, by rw [Huf.fst, HC0.out], by rw [Huf.tot, Huf.tot, HC0.out]⟩, rfl, rfl, rfl, rfl, by have := HR.out.le; omega, ⟨fun j h1 h2 => by omega, .inl rfl⟩, HR.out, gb_refl _ _, HD.out⟩
  case round =>
    clear HD HR
    obtain ⟨k, k1, c, f, t, hq, rfl, rfl, rfl, rfl, hpk, hno, hr, hg, hd⟩ := hrel
    have HQ := Lib.hid hq; clear hq
    have HR := Lib.hid hr; clear hr
    have HG := Lib.hid hg; clear hg
    have HD := Lib.hid hd; clear hd
    have HNO := Lib.hid hno.1
    have HNZ := Lib.hid hno.2; clear hno
    have HPK := Lib.hid hpk; clear hpk
    obtain ⟨v, base, hd1, hv1⟩ := HD.out.d
    have HD1 := Lib.hid hd1; clear hd1
    have HV1 := Lib.hid hv1; clear hv1
    obtain ⟨va, vc, rfl⟩ := own_form HV1.out
    have c17 := HD1.out.c17
    rw [HLL.out] at c17
    obtain ⟨T, hT⟩ : ∃ T, T = Huf.tot C 16 := ⟨_, rfl⟩
    rw [← hT] at c17
    have HT := Lib.hid hT; clear hT
    have t6 : (t : Int) ≤ 10000 := by
      obtain ⟨q0, q1, q2, q3, q4⟩ := HQ.out
      have := Huf.tot_le C 288 HC.out k1; omega
    have T6 : (T : Int) ≤ 10000 := by have := HT.out; have := Huf.tot_le C 288 HC.out 16; omega
    have k6 : (k1 : Int) ≤ 16 := by obtain ⟨q0, q1, q2, q3, q4⟩ := HQ.out; omega
    by_cases hlt : t < T
    · have hdc : decide (t < T) = true := decide_eq_true hlt
      have hk14 : k ≤ 14 := by
        obtain ⟨q0, q1, q2, q3, q4⟩ := HQ.out
        apply Classical.byContradiction; intro hc
        obtain rfl : k = 15 := by omega
        have : t = T := by rw [q4, HT.out, q1]
        omega
      rcases Nat.lt_or_ge (p + k) (8 * L) with hbit | hbit
      · have HX := get_any g (p + k) L V G 1 wr HR.out HL.out (by omega) (by omega)
        have HBT := Lib.hid hbit; clear hbit
        obtain ⟨b, hb⟩ : ∃ b, b = V / 2 ^ (p + k) % 2 := ⟨_, rfl⟩
        have hb2 : b < 2 := by omega
        rw [Nat.pow_one, ← hb] at HX
        -- the letters of the next round
        obtain ⟨k2, hk2⟩ : ∃ x, x = k1 + 1 := ⟨_, rfl⟩
        obtain ⟨c', hc'⟩ : ∃ x, x = Huf.vl V p k1 := ⟨_, rfl⟩
        obtain ⟨f', hf'⟩ : ∃ x, x = Huf.fst C k1 := ⟨_, rfl⟩
        obtain ⟨n1, hn1⟩ : ∃ x, x = C k1 := ⟨_, rfl⟩
        obtain ⟨t', ht'⟩ : ∃ x, x = Huf.tot C k2 := ⟨_, rfl⟩
        obtain ⟨f2, hf2⟩ : ∃ x, x = Huf.fst C k1 + C k1 := ⟨_, rfl⟩
        have hfacts : (c' = 2 * c + b ∧ c < 16384) ∧ (f' = f * 2 ∧ f ≤ 20000000) ∧ f' ≤ c' ∧ n1 ≤ 288 ∧ t' = t + n1 ∧ t' ≤ T ∧ f2 = f' + n1 := by
          obtain ⟨q0, q1, q2, q3, q4⟩ := HQ.out
          have a1 : c' = 2 * c + b := by rw [hc', q1, Huf.vl, q2, hb]
          have c2 := Huf.vl_lt V p k
          have c3 : 2 ^ k ≤ 2 ^ 14 := Nat.pow_le_pow_right (by omega) hk14
          have f1 := Huf.fst_le C 288 HC.out k
          have f2' : 2 ^ (k + 1) ≤ 2 ^ 15 := Nat.pow_le_pow_right (by omega) (by omega)
          have f3 : 288 * 2 ^ (k + 1) ≤ 288 * 2 ^ 15 := Nat.mul_le_mul_left _ f2'
          have f4 := HC.out k
          have a2 : f' = f * 2 := by rw [hf', q1, Huf.fst, q3]; omega
          have a3 : f' ≤ c' := by
            rw [a1, a2]
            rcases Nat.eq_zero_or_pos k with h0 | h0
            · rw [h0, Huf.fst, HC0.out] at q3; omega
            · have := HNO.out k h0 (by omega); omega
          have a4 : t' = t + n1 := by rw [ht', hk2, Huf.tot, q4, hn1]
          have a5 : t' ≤ T := by
            have := Huf.tot_mono C k2 (16 - k2)
            rw [show k2 + (16 - k2) = 16 by omega, ← ht', ← HT.out] at this; exact this
          exact ⟨⟨a1, by omega⟩, ⟨a2, by omega⟩, a3, by rw [hn1]; exact HC.out _, a4, a5, by rw [hf2, hf', hn1]⟩
        have HF := Lib.hid hfacts
        have hor := Huf.or1 c b (by omega) hb2
        rw [← hfacts.1.1] at hor
        have v6 : (c : Int) ≤ 20000 := by omega
        have v7 : (c' : Int) ≤ 40001 := by omega
        have F6 : (f : Int) ≤ 20000000 := by omega
        have F7 : (f : Int) * 2 = (f' : Int) := by omega
        have F76 : (f' : Int) ≤ 40000000 := by omega
        have hb6 : (b : Int) ≤ 1 := by omega
        have ck6 : (n1 : Int) ≤ 288 := by omega
        obtain ⟨pl, hpl⟩ : ∃ x, x = c' - f' := ⟨_, rfl⟩
        have hplI : (c' : Int) - (f' : Int) = (pl : Int) := by omega
        have pl6 : (pl : Int) ≤ 40001 := by omega
        have HPL := Lib.hid hpl
        have hsum : (t : Int) + (n1 : Int) = (t' : Int) := by omega
        have t6' : (t' : Int) ≤ 10000 := by omega
        have hsum2 : (f' : Int) + (n1 : Int) = (f2 : Int) := by omega
        have f26 : (f2 : Int) ≤ 50000000 := by omega
        have hkk : (k1 : Int) + 1 = (k2 : Int) := by omega
        have HK : Hid (k2 = k1 + 1 ∧ k1 = k + 1 ∧ k ≤ 14) := by obtain ⟨q0, q1, q2, q3, q4⟩ := HQ.out; exact ⟨hk2, q1, hk14⟩
        have HE : Hid (c' = Huf.vl V p k1 ∧ f' = Huf.fst C k1 ∧ n1 = C k1 ∧ t' = Huf.tot C k2 ∧ f2 = Huf.fst C k1 + C k1 ∧ t = Huf.tot C k1) := ⟨hc', hf', hn1, ht', hf2, HQ.out.2.2.2.2⟩
        have hkI : (k1 : Int) < 16 := by have := HK.out; omega
        have hk16 : k1 < 16 := by omega
        have hk2I : (k2 : Int) ≤ 17 := by have := HK.out; omega
        clear hb hk2 hc' hf' hn1 ht' hf2 hfacts hpl hk14
        go_wp2_with fail
        refine HX.mono ?_
        rintro e w5 ⟨rfl, hr5, hg5⟩
        have HR5 : Hid (Rd w5 g (p + k1) L V G) := by have := HK.out.2.1; rw [this, ← Nat.add_assoc]; exact hr5
        have HG5 : Hid (w.grownBy w5 (some g)) := gb_trans HG.out hg5
        have HD5 : Hid (DcR w5 D C l) := HD.out.step HR.out hg5
        have hdd := HD1.out.stepR HR.out hg5
        have HV5 := Lib.hid (own_stepR HV1.out HR.out hg5)
        have c17' := hdd.c17
        rw [HLL.out, ← HT.out] at c17'
        have ck := hdd.ck (k := k1) hk16
        rw [← HE.out.2.2.1] at ck
        clear hdd hr5 hg5 HR HG HD HD1 HV1 c17 HX
        by_cases hpc : pl < n1
        · have hdp : decide (pl < n1) = true := decide_eq_true hpc
          have HFF := HF.out
          obtain ⟨ix, hix⟩ : ∃ ix, ix = t + pl := ⟨_, rfl⟩
          have hlen : ix < T := by omega
          obtain ⟨ss, hs⟩ : ∃ ss, l[ix]? = some ss := ⟨_, List.getElem?_eq_getElem (by rw [HLL.out, ← HT.out]; exact hlen)⟩
          obtain ⟨bb, cc, hve, -, -⟩ := HV5.out.form (by rw [HLL.out, ← HT.out]; omega)
          simp only [Value.slice.injEq] at hve
          obtain ⟨rfl, -, rfl⟩ := hve
          have hcell := HV5.out.cellAt ix (by rw [HLL.out, ← HT.out]; omega)
          rw [nv_get _ _ _ hs] at hcell
          have HFD : Hid (Huf.NextQ C l V L p (ss : Nat) true (p + k1)) := by
            obtain ⟨z1, z2, z3, z4, z5, z6⟩ := HE.out
            have hk := HK.out
            have hp := HPL.out
            refine .found k1 ss (by omega) (by omega) (by have := HBT.out; omega) HNO.out (by omega) (by omega) ?_
            rw [← z1, ← z2, ← z6, ← hp, ← hix]; exact hs
          have hixI : (t : Int) + (pl : Int) = (ix : Int) := by omega
          have ix6 : (ix : Int) < (T : Int) := by omega
          have ix7 : (ix : Int) ≤ 10000 := by omega
          clear hs hix hlen hpc hlt hsum hsum2 HFF
          go_wp2
          go_returns
          exact ⟨ss, true, p + k1, rfl, HFD.out, HR5.out, HG5.out, HD5.out⟩
        · have hdp : decide (pl < n1) = false := decide_eq_false hpc
          have HNO2 : Hid (Huf.No C V p k2) := fun j h1 h2 => by
            obtain ⟨z1, z2, z3, z4, z5, z6⟩ := HE.out
            have hk := HK.out
            have hp := HPL.out
            have hf := HF.out
            rcases Nat.lt_or_ge j k1 with hj | hj
            · exact HNO.out j h1 hj
            · obtain rfl : j = k1 := by omega
              omega
          have HNZ2 : Hid (k1 = 0 ∨ Huf.tot C k1 < Huf.tot C 16) := .inr (by obtain ⟨z1, z2, z3, z4, z5, z6⟩ := HE.out; rw [← z6, ← HT.out]; exact hlt)
          clear hpc hlt
          go_wp2
          have hk := HK.out
          have hbt := HBT.out
          obtain ⟨z1, z2, z3, z4, z5, z6⟩ := HE.out
          exact ⟨⟨k1, k2, c', f2, t', ⟨by omega, by omega, z1, z5, z4⟩, rfl, rfl, rfl, rfl, by omega, ⟨HNO2.out, HNZ2.out⟩, HR5.out, HG5.out, HD5.out⟩, by simp [intOf]; omega⟩
      · have HX := get_bad g (p + k) L V G 1 wr HR.out HL.out (by right; right; omega)
        have HBE : Hid (p + k = 8 * L) := by have := HPK.out; show _ = _; omega
        have HSH : Hid (Huf.NextQ C l V L p 0 false (p + k)) := by
          obtain ⟨q0, q1, q2, q3, q4⟩ := HQ.out
          exact .short k hk14 HBE.out (by rw [← q1]; exact HNO.out) (by rw [← q1, ← q4, ← HT.out]; exact hlt)
        clear hbit
        go_wp2_with fail
        with_reducible refine HX.mono ?_
        rintro e w5 ⟨rfl, hdr⟩
        have HE : Hid (Rd w5 g (p + k) L V G ∧ w.grownBy w5 (some g) ∧ DcR w5 D C l) := ⟨HR.out.drawn hdr, gb_trans HG.out (hdr.grown _), HD.out.step HR.out (hdr.grown _)⟩
        clear hdr HX HR HG HD
        go_wp2
        go_returns
        exact ⟨0, false, p + k, rfl, HSH.out, HE.out⟩
    · have HSH : Hid (Huf.NextQ C l V L p 0 false (p + k)) := by
        obtain ⟨q0, q1, q2, q3, q4⟩ := HQ.out
        refine .none k q0 HPK.out (by rw [← q1]; exact HNO.out) ?_ HNZ.out
        have := Huf.tot_mono C (k + 1) (15 - k)
        rw [show k + 1 + (15 - k) = 16 by omega, ← q1, ← q4, ← HT.out] at this
        rw [← q1, ← q4, ← HT.out]; omega
      have hdc : decide (t < T) = false := decide_eq_false hlt
      go_wp2
      go_returns
      exact ⟨0, false, p + k, rfl, HSH.out, HR.out, HG.out, HD.out⟩
end Go.Proofs.YteajjanjkhhgdaaDoor
