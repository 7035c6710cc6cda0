/- The walk of InflateReads. -/
import Derived.Test.YteajjanjkhhgdaaDoorInfLawS
namespace Go.Proofs.YteajjanjkhhgdaaDoor
open Go.RowKit Go

set_option maxRecDepth 100000 in
set_option maxHeartbeats 4000000 in
theorem ireads_walk (a : Option Addr) (n cap : Nat) (B : List Int) (m : Int) (w : World) (hT : Tabs w) (hn : n = B.length) (hB : BytesIn w (.slice a n cap) B (fun _ => True)) (hb : ∀ x ∈ B, 0 ≤ x ∧ x < 256) (hna : a = none → cap = 0) (_hl : n ≤ 140737488351232) (_hm0 : -9223372036854775808 ≤ m) (_hm1 : m ≤ 9223372036854775807) :
    Calls Tryd.prog 3 #[.slice a n cap, .int .i64 m] w fun e w' => e = .returned (.bool true) ∧ Below w.heap.size w w' := by
  have HAW := Lib.hid (awake_any w hT)
  have HT := Lib.hid hT
  have HN := Lib.hid hn
  have HB := Lib.hid hB
  have HNA := Lib.hid hna
  by_cases hl : 1500 < n
  · have d1 : decide (1500 < (n : Int)) = true := decide_eq_true (by omega)
    clear hT hn hB hb hna hl _hl _hm0 _hm1
    go_enter Tryd.func3, Tryd.ntmps3
    go_wp2_with fail
    refine HAW.out.mono ?_
    rintro e w1 ⟨rfl, h1⟩
    have K := Lib.hid h1
    clear h1 HAW
    go_wp2
    go_ret
    exact ⟨rfl, K.out⟩
  · have d1 : decide (1500 < (n : Int)) = false := decide_eq_false (by omega)
    by_cases hm : 6000 < m ∧ m ≤ 65536
    · have d2 : decide (6000 < m) = true := decide_eq_true hm.1
      have d3 : decide (m ≤ 65536) = true := decide_eq_true hm.2
      clear hT hn hB hb hna hl _hl _hm0 _hm1 hm
      go_enter Tryd.func3, Tryd.ntmps3
      go_wp2_with fail
      refine HAW.out.mono ?_
      rintro e w1 ⟨rfl, h1⟩
      have K := Lib.hid h1
      clear h1 HAW
      go_wp2
      go_ret
      exact ⟨rfl, K.out⟩
    · obtain ⟨T, qi, ki, htel⟩ := tel_any B n m hn hb (by omega)
      have HTEL := Lib.hid htel
      have HNL : Hid (n ≤ 1500) := by unfold Hid; omega
      rcases (by omega : m ≤ 6000 ∨ 65536 < m) with c | c
      case' inl =>
        have d2 : decide (6000 < m) = false := decide_eq_false (by omega)
      case' inr =>
        have d2 : decide (6000 < m) = true := decide_eq_true (by omega)
        have d3 : decide (m ≤ 65536) = false := decide_eq_false (by omega)
      all_goals
        clear hT hn hB hb hna hl htel _hl _hm0 _hm1 hm c
        go_enter Tryd.func3, Tryd.ntmps3
        go_wp2_with fail
        refine HAW.out.mono ?_
        rintro e w1 ⟨rfl, h1⟩
        have B1 := Lib.hid h1
        have HLN := Lib.hid (lent_n B a n cap w1 HN.out (later_bytes h1 HB.out) HNA.out (by have := HNL.out; omega))
        clear h1 HAW
        go_wp2_with fail
        refine HLN.out.mono ?_
        rintro e w2 ⟨g, cp, rfl, h1, h2, h3⟩
        have B2 : Hid (Below w.heap.size w w2) := B1.out.trans (h3.mono B1.out.size)
        have L2 := Lib.hid h1
        have HPG := Lib.hid (HTEL.out.pg w2 _ cp (HT.out.later B2.out (Nat.le_refl _)) h1.all)
        have HG : Hid (g < w2.heap.size) := by obtain ⟨_, _, _, _, _, h, _⟩ := h1.blk; exact lt_of_block h
        clear h1 h2 h3 HLN B1
        go_wp2_with fail
        refine HPG.out.mono ?_
        rintro e w3 ⟨h1, a3, c3, rfl, h2⟩
        have B3 : Hid (Below w.heap.size w w3) := B2.out.trans (h1.mono B2.out.size)
        have L3 := Lib.hid (L2.out.keep (h1.block _ HG.out))
        have O3 := Lib.hid h2
        have HRF := Lib.hid (HTEL.out.rf w3 a cap (later_bytes B3.out HB.out))
        have HG3 : Hid (g < w3.heap.size) := Nat.lt_of_lt_of_le HG.out h1.size
        clear h1 h2 HPG L2 B2 HG
        go_wp2_with fail
        refine HRF.out.mono ?_
        rintro e w4 ⟨h1, a4, c4, rfl, h2⟩
        have B4 : Hid (Below w.heap.size w w4) := B3.out.trans (h1.mono B3.out.size)
        have L4 := Lib.hid (L3.out.keep (h1.block _ HG3.out))
        have HSM := Lib.hid (same_any T a3 T.length c3 a4 c4 w4 rfl (by have := HTEL.out.len; omega) (own_in (own_past O3.out h1)) (own_in h2))
        have HG4 : Hid (g < w4.heap.size) := Nat.lt_of_lt_of_le HG3.out h1.size
        clear h1 h2 HRF L3 B3 O3 HG3
        go_wp2_with fail
        refine HSM.out.mono ?_
        rintro e w5 ⟨rfl, h1⟩
        have B5 : Hid (Below w.heap.size w w5) := B4.out.trans (h1.below _)
        have HKP := Lib.hid (kept_any B g _ a n cap w5 HN.out (later_bytes B5.out HB.out) (by have := HNL.out; omega) (L4.out.keep (by rw [h1.heap])))
        clear h1 HSM L4 B4
        go_wp2_with fail
        refine HKP.out.mono ?_
        rintro e w6 ⟨rfl, h1⟩
        have B6 : Hid (Below w.heap.size w w6) := B5.out.trans (h1.below _)
        clear h1 HKP
        go_wp2
        go_ret
        exact ⟨rfl, B6.out⟩
end Go.Proofs.YteajjanjkhhgdaaDoor
