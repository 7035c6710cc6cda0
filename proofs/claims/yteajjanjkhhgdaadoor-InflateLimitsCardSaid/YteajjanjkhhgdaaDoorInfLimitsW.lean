/- The walk of InflateLimits. -/
import Derived.Test.YteajjanjkhhgdaaDoorInfLawS
namespace Go.Proofs.YteajjanjkhhgdaaDoor
open Go.RowKit Go

set_option maxRecDepth 100000 in
set_option maxHeartbeats 4000000 in
theorem ilimits_walk (a : Option Addr) (n cap : Nat) (B : List Int) (m : Int) (w : World) (hT : Tabs w) (hn : n = B.length) (hB : BytesIn w (.slice a n cap) B (fun _ => True)) (hb : ∀ x ∈ B, 0 ≤ x ∧ x < 256) (_hna : a = none → cap = 0) (_hl : n ≤ 140737488351232) (_hm0 : -9223372036854775808 ≤ m) (_hm1 : m ≤ 9223372036854775807) :
    Calls Tryd.prog 5 #[.slice a n cap, .int .i64 m] w fun e w' => e = .returned (.bool true) ∧ Below w.heap.size w w' := by
  have HAW := Lib.hid (awake_any w hT)
  have HT := Lib.hid hT
  have HN := Lib.hid hn
  have HB := Lib.hid hB
  have HBB := Lib.hid hb
  by_cases hl : 1500 < n
  · have d1 : decide (1500 < (n : Int)) = true := decide_eq_true (by omega)
    clear hT hn hB hb _hna hl _hl _hm0 _hm1
    go_enter Tryd.func5, Tryd.ntmps5
    go_wp2_with fail
    refine HAW.out.mono ?_
    rintro e w1 ⟨rfl, h1⟩
    have K := Lib.hid h1
    clear h1 HAW
    go_wp2
    go_ret
    exact ⟨rfl, K.out⟩
  · have d1 : decide (1500 < (n : Int)) = false := decide_eq_false (by omega)
    have HNL : Hid (n ≤ 1500) := by unfold Hid; omega
    have HM0 := Lib.hid _hm0
    have HM1 := Lib.hid _hm1
    obtain ⟨p, hp⟩ : ∃ p : Nat, m % 9 = (p : Int) := ⟨(m % 9).toNat, by omega⟩
    have hp9 : (p : Int) < 9 := by omega
    have HPK := Lib.hid (fun wx => pick_any m 9 wx _hm0 _hm1 (by omega) (by omega))
    rw [hp] at HPK
    obtain ⟨m1, hm1⟩ : ∃ m1 : Int, -1 - (p : Int) = m1 := ⟨_, rfl⟩
    obtain ⟨m2, hm2⟩ : ∃ m2 : Int, 65537 + (p : Int) = m2 := ⟨_, rfl⟩
    have HN1 := Lib.hid (fun wx => inflate_no a n cap m1 wx (.inl (by omega)))
    have HN2 := Lib.hid (fun wx => inflate_no a n cap m2 wx (.inr (by omega)))
    clear hT hn hB hb _hna hl _hl _hm0 _hm1 hp
    go_enter Tryd.func5, Tryd.ntmps5
    go_wp2_with fail
    refine HAW.out.mono ?_
    rintro e w1 ⟨rfl, h1⟩
    have B1 := Lib.hid h1
    clear h1 HAW
    go_wp2_with fail
    refine (HPK.out _).mono ?_
    rintro e w2 ⟨rfl, rfl⟩
    go_wp2_with fail
    refine (HN1.out _).mono ?_
    rintro e w3 ⟨rfl, rfl⟩
    go_wp2_with fail
    refine (HPK.out _).mono ?_
    rintro e w4 ⟨rfl, rfl⟩
    go_wp2_with fail
    refine (HN2.out _).mono ?_
    rintro e w5 ⟨rfl, rfl⟩
    have HRF := Lib.hid (fun (wz : World) (hb : Below w.heap.size w wz) => rinflate_any B a n cap 6000 wz HN.out (later_bytes hb HB.out) HBB.out (by have := HNL.out; omega) (by omega))
    clear HPK HN1 HN2 hm1 hm2 hp9
    go_wp2_with fail
    refine (HRF.out _ B1.out).mono ?_
    rintro e w6 ⟨h1, ⟨k, h2, h3, rfl⟩ | ⟨q, T, vt, h2, h3, rfl, h5⟩⟩
    · have B6 : Hid (Below w.heap.size w w6) := B1.out.trans (h1.mono B1.out.size)
      have hk : (k != 0) = true := by simpa using h3
      clear h1 h2 h3 HRF
      go_wp2
      go_ret
      exact ⟨rfl, B6.out⟩
    · obtain ⟨a6, c6, rfl⟩ := own_slice h5
      have B6 : Hid (Below w.heap.size w w6) := B1.out.trans (h1.mono B1.out.size)
      have O6 := Lib.hid h5
      have HI := Lib.hid h2
      have HTL := Lib.hid h3
      obtain ⟨t, ht⟩ : ∃ t, t = T.length := ⟨_, rfl⟩
      have HTE := Lib.hid ht
      have HPG := Lib.hid (told_pg_ok (M := T.length) HN.out HBB.out (by have := HNL.out; omega) (by omega) ((Inf.inflate_lim h2 T.length).trans (if_pos (Nat.le_refl _))) w6 a cap (HT.out.later B6.out (Nat.le_refl _)) (later_bytes B6.out HB.out))
      have HLS := Lib.hid (fun (wz : World) (hb : Below w.heap.size w wz) (r : Nat) (hr : r < T.length) => told_pg_err (M := r) HN.out HBB.out (by have := HNL.out; omega) (by omega) ((Inf.inflate_lim h2 r).trans (if_neg (by omega))) wz a cap (HT.out.later hb (Nat.le_refl _)) (later_bytes hb HB.out))
      clear h1 h2 h3 h5 HRF B1
      go_wp2_with fail
      refine HPG.out.mono ?_
      rintro e w7 ⟨h1, a7, c7, rfl, h2⟩
      have B7 : Hid (Below w.heap.size w w7) := B6.out.trans (h1.mono B6.out.size)
      have HSM := Lib.hid (same_any T a6 T.length c6 a7 c7 w7 rfl (by have := HTL.out; omega) (own_in (own_past O6.out h1)) (own_in h2))
      clear h1 h2 HPG B6
      go_wp2_with fail
      refine HSM.out.mono ?_
      rintro e w8 ⟨rfl, h1⟩
      have B8 : Hid (Below w.heap.size w w8) := B7.out.trans (h1.below _)
      clear h1 HSM B7
      rw [← ht]
      clear ht
      by_cases h0 : t = 0
      · subst h0
        go_wp2
        go_ret
        exact ⟨rfl, B8.out⟩
      · have e0 : ((t : Int) == 0) = false := by simp; omega
        have HPK := Lib.hid (pick_any m (t : Int) w8 HM0.out HM1.out (by omega) (by have := HTL.out; have := HTE.out; omega))
        obtain ⟨r, hr⟩ : ∃ r : Nat, m % (t : Int) = (r : Int) := ⟨(m % (t : Int)).toNat, by have := Int.emod_nonneg m (show (t : Int) ≠ 0 by omega); omega⟩
        have hrt : r < t := by have := Int.emod_lt_of_pos m (show (0 : Int) < (t : Int) by omega); omega
        rw [hr] at HPK
        have HR := Lib.hid (HLS.out _ B8.out r (by have := HTE.out; omega))
        clear hr hrt h0
        go_wp2_with fail
        refine HPK.out.mono ?_
        rintro e w9 ⟨rfl, rfl⟩
        go_wp2_with fail
        refine HR.out.mono ?_
        rintro e w10 ⟨h1, a9, c9, rfl, h2⟩
        have B10 : Hid (Below w.heap.size w w10) := B8.out.trans (h1.mono B8.out.size)
        clear h1 h2 HPK HR
        go_wp2
        go_ret
        exact ⟨rfl, B10.out⟩
end Go.Proofs.YteajjanjkhhgdaaDoor
