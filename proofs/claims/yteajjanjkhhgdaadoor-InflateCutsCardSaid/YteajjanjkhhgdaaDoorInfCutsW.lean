/- The walk of InflateCuts. -/
import Derived.Test.YteajjanjkhhgdaaDoorInfLawS
import Derived.Test.YteajjanjkhhgdaaDoorIkCopy
namespace Go.Proofs.YteajjanjkhhgdaaDoor
open Go.RowKit Go

theorem Inf.xor8 (x y : Int) : ∃ z : Nat, z < 256 ∧ bits BinOp.xor IntKind.u8 x y = (z : Int) := by
  have e : bits BinOp.xor IntKind.u8 x y = IntKind.u8.wrap (((BitVec.ofInt 8 x) ^^^ (BitVec.ofInt 8 y)).toNat : Int) := rfl
  rw [e, IntKind.wrap_u8]
  exact ⟨((((BitVec.ofInt 8 x) ^^^ (BitVec.ofInt 8 y)).toNat : Int) % 256).toNat, by omega, by omega⟩
theorem byts_set {B : List Int} (hb : ∀ x ∈ B, 0 ≤ x ∧ x < 256) (j : Nat) {z : Int} (hz : 0 ≤ z ∧ z < 256) : ∀ x ∈ B.set j z, 0 ≤ x ∧ x < 256 := fun x hx => by
  rcases List.mem_or_eq_of_mem_set hx with h | h
  · exact hb x h
  · rw [h]; exact hz
theorem own_set8 {w : World} {base n j : Nat} {s cp : Nat} {B : List Int} (h : w.ownsRow base 5 1 (.slice (some ⟨s, 0, none⟩) n cp) n (k8 B)) (z : Int) : (w.setCell ⟨s, j, none⟩ (.int .u8 z)).ownsRow base 5 1 (.slice (some ⟨s, 0, none⟩) n cp) n (k8 (B.set j z)) := by
  have hl : B.length = n := by have := h.1; rw [k8_length] at this; omega
  refine ⟨by rw [k8_length, List.length_set, hl]; omega, ?_⟩
  rcases h.2 with ⟨e, h0⟩ | ⟨b, cap, cur, e, q1, q2, q3, q4, q5, q6⟩
  · cases e
  · cases e
    refine .inr ⟨s, cp, cur.setIfInBounds j (.int .u8 z), rfl, q1, (heap_setCell_same _ _ _ _ _ _ q2).trans rfl, q3, q4, by rw [Array.size_setIfInBounds]; exact q5, ?_⟩
    rw [Array.toList_setIfInBounds, List.take_set, q6]
    simp [k8, List.map_set]
theorem own_cell8 {w : World} {base n j : Nat} {s cp : Nat} {B : List Int} (h : w.ownsRow base 5 1 (.slice (some ⟨s, 0, none⟩) n cp) n (k8 B)) (hj : j < n) : w.cell? ⟨s, j, none⟩ = some (.int .u8 (B.getD j 0)) ∧ w.frozen? ⟨s, j, none⟩ = false := by
  have hl : B.length = n := by have := h.1; rw [k8_length] at this; omega
  rcases h.2 with ⟨e, h0⟩ | ⟨b, cap, cur, e, q1, q2, q3, q4, q5, q6⟩
  · cases e
  · cases e
    refine ⟨?_, frozen_of_row _ _ _ _ _ q2⟩
    rw [cell_of_row _ _ _ _ _ _ q2]
    have := k8_get B j (by omega)
    rw [← q6, List.getElem?_take, if_pos (by omega), Array.getElem?_toList] at this
    exact this

set_option maxRecDepth 100000 in
set_option maxHeartbeats 4000000 in
theorem icuts_walk (a : Option Addr) (n cap : Nat) (B : List Int) (m by_ : Int) (w : World) (hT : Tabs w) (hn : n = B.length) (hB : BytesIn w (.slice a n cap) B (fun _ => True)) (hb : ∀ x ∈ B, 0 ≤ x ∧ x < 256) (hna : a = none → cap = 0) (_hl : n ≤ 140737488351232) (_hm0 : -9223372036854775808 ≤ m) (_hm1 : m ≤ 9223372036854775807) (_hy0 : 0 ≤ by_) (_hy1 : by_ < 256) :
    Calls Tryd.prog 4 #[.slice a n cap, .int .i64 m, .int .u8 by_] w fun e w' => e = .returned (.bool true) ∧ Below w.heap.size w w' := by
  have HAW := Lib.hid (awake_any w hT)
  have HT := Lib.hid hT
  have HN := Lib.hid hn
  have HB := Lib.hid hB
  have HBB := Lib.hid hb
  have HNA := Lib.hid hna
  by_cases hl : 120 < n
  · have d1 : decide (120 < (n : Int)) = true := decide_eq_true (by omega)
    clear hT hn hB hb hna hl _hl _hm0 _hm1 _hy0 _hy1
    go_enter Tryd.func4, Tryd.ntmps4
    go_wp2_with fail
    refine HAW.out.mono ?_
    rintro e w1 ⟨rfl, h1⟩
    have K := Lib.hid h1
    clear h1 HAW
    go_wp2
    go_ret
    exact ⟨rfl, K.out⟩
  · have d1 : decide (120 < (n : Int)) = false := decide_eq_false (by omega)
    have HNL : Hid (n ≤ 120) := by unfold Hid; omega
    have HM0 := Lib.hid _hm0
    have HM1 := Lib.hid _hm1
    clear hT hn hB hb hna hl _hl _hm0 _hm1 _hy0 _hy1
    go_enter Tryd.func4, Tryd.ntmps4
    go_wp2_with fail
    refine HAW.out.mono ?_
    rintro e w1 ⟨rfl, h1⟩
    have B1 := Lib.hid h1
    have HCP := Lib.hid (copy_any B a n cap w1 HN.out (later_bytes h1 HB.out) HNA.out (by have := HNL.out; omega))
    clear h1 HAW
    go_wp2_with fail
    refine HCP.out.mono ?_
    rintro e w2 ⟨v, rfl, h1, h2⟩
    obtain ⟨ao, co, rfl⟩ := own_slice h1
    rw [← HN.out] at h1 ⊢
    have B2 : Hid (Below w.heap.size w w2) := B1.out.trans (h2.mono B1.out.size)
    have O2 := Lib.hid h1
    have Z1 : Hid (w.heap.size ≤ w1.heap.size) := B1.out.size
    clear h1 h2 HCP B1
    by_cases h0 : 0 < n
    case' pos =>
      have d2 : decide (0 < n) = true := decide_eq_true h0
      have d2' : decide ((0 : Int) < (n : Int)) = true := decide_eq_true (by omega)
      obtain ⟨s, rfl⟩ : ∃ s, ao = some ⟨s, 0, none⟩ := by
        rcases O2.out.2 with ⟨e, h⟩ | ⟨s, cap, cur, e, _⟩
        · omega
        · cases e; exact ⟨s, rfl⟩
      have HPK := Lib.hid (pick_any m (n : Int) w2 HM0.out HM1.out (by omega) (by have := HNL.out; omega))
      obtain ⟨j, hj⟩ : ∃ j : Nat, m % (n : Int) = (j : Int) := ⟨(m % (n : Int)).toNat, by have := Int.emod_nonneg m (show (n : Int) ≠ 0 by omega); omega⟩
      have hjn : j < n := by have := Int.emod_lt_of_pos m (show (0 : Int) < (n : Int) by omega); omega
      rw [hj] at HPK
      obtain ⟨z, hz, hx⟩ := Inf.xor8 (B.getD j 0) by_
      obtain ⟨c1, c2⟩ := own_cell8 O2.out hjn
      generalize B.getD j 0 = x0 at *
      have hjI : (j : Int) < (n : Int) := by omega
      have OS := Lib.hid (own_set8 (j := j) O2.out (z : Int))
      have HBY := Lib.hid (byts_set HBB.out j (z := (z : Int)) (by omega))
      have HSB : Hid (Below w.heap.size w (w2.setCell ⟨s, j, none⟩ (.int .u8 (z : Int)))) := B2.out.setCell (show w.heap.size ≤ s from by have := (O2.out.lt s rfl).1; have := Z1.out; omega) _
      have HLN : Hid (n = (B.set j (z : Int)).length) := by unfold Hid; rw [List.length_set]; exact HN.out
      clear hj hz O2 B2 h0
      go_wp2_with fail
      refine HPK.out.mono ?_
      rintro e w3 ⟨rfl, rfl⟩
      clear HPK
      go_wp2_with fail
      generalize B.set j (z : Int) = D at *
      generalize w3.setCell ⟨s, j, none⟩ (.int .u8 (z : Int)) = wd at *
      clear c1 c2 hx d2 d2' hjn hjI
    case' neg =>
      have d2 : decide (0 < n) = false := decide_eq_false h0
      have d2' : decide ((0 : Int) < (n : Int)) = false := decide_eq_false (by omega)
      have HLN := Lib.hid HN.out
      have HBY := Lib.hid HBB.out
      have OS := Lib.hid O2.out
      have HSB := Lib.hid B2.out
      clear h0 O2 B2
      go_wp2_with fail
      generalize B = D at *
      generalize w2 = wd at *
      clear d2 d2'
    all_goals
      have hOS := OS.out
      rw [HLN.out] at hOS
      have HW := Lib.hid (own_in hOS)
      clear hOS
      have HCO : Hid (n ≤ co) := by
        obtain ⟨_, _, e, h, _⟩ := HW.out
        cases e
        have := HLN.out
        unfold Hid; omega
      have HTD := Lib.hid (HT.out.later HSB.out (Nat.le_refl _))
      clear OS
      go_loopw [8, 9, 10, 11, 12, 13, 14] (fun v8 _ _ _ _ _ _ wr => ∃ i : Nat, i ≤ n + 1 ∧ v8 = .int .i64 (i : Int) ∧ Below wd.heap.size wd wr) (fun v8 _ _ _ _ _ _ _ => (n + 1 - intOf v8).toNat)
      case atStart => exact ⟨0, by omega, rfl, Below.refl _ _⟩
      case round =>
        obtain ⟨i, hi, rfl, hbw⟩ := hrel
        have BW := Lib.hid hbw
        clear hbw
        by_cases hlt : i ≤ n
        · have d3 : decide (i ≤ n) = true := decide_eq_true hlt
          have d3' : decide ((i : Int) ≤ (n : Int)) = true := decide_eq_true (by omega)
          have HI : Hid (i ≤ n) := hlt
          obtain ⟨T, qi, ki, htel⟩ := tel_any (D.take i) i 3000 (by rw [List.length_take, ← HLN.out]; omega) (fun x hx => HBY.out x (List.mem_of_mem_take hx)) (by have := HNL.out; omega)
          have HTEL := Lib.hid htel
          have hto := fun a => slice_to a n co i (by have := HCO.out; omega)
          have HPG := Lib.hid (HTEL.out.pg wr _ co (HTD.out.later BW.out (Nat.le_refl _)) ((later_bytes BW.out HW.out).take i (by rw [← HLN.out]; exact hlt)))
          have hiI : (i : Int) ≤ 120 := by have := HNL.out; omega
          clear hlt hi htel
          go_wp2_with fail
          refine HPG.out.mono ?_
          rintro e w4 ⟨h1, a4, c4, rfl, h2⟩
          have B4 : Hid (Below wd.heap.size wd w4) := BW.out.trans (h1.mono BW.out.size)
          have O4 := Lib.hid h2
          have HRF := Lib.hid (HTEL.out.rf w4 _ co ((later_bytes B4.out HW.out).take i (by rw [← HLN.out]; exact HI.out)))
          clear h1 h2 HPG
          go_wp2_with fail
          refine HRF.out.mono ?_
          rintro e w5 ⟨h1, a5, c5, rfl, h2⟩
          have B5 : Hid (Below wd.heap.size wd w5) := B4.out.trans (h1.mono B4.out.size)
          have HSM := Lib.hid (same_any T a4 T.length c4 a5 c5 w5 rfl (by have := HTEL.out.len; omega) (own_in (own_past O4.out h1)) (own_in h2))
          clear h1 h2 HRF B4 O4
          go_wp2_with fail
          refine HSM.out.mono ?_
          rintro e w6 ⟨rfl, h1⟩
          have B6 : Hid (Below wd.heap.size wd w6) := B5.out.trans (h1.below _)
          clear h1 HSM B5 hto
          go_wp2
          exact ⟨⟨i + 1, by have := HI.out; omega, by go_num, B6.out⟩, by have := HI.out; simp [intOf]; omega⟩
        · have d3 : decide (i ≤ n) = false := decide_eq_false hlt
          have d3' : decide ((i : Int) ≤ (n : Int)) = false := decide_eq_false (by omega)
          clear hlt hi
          go_wp2
          go_ret
          exact ⟨rfl, HSB.out.trans (BW.out.mono HSB.out.size)⟩
end Go.Proofs.YteajjanjkhhgdaaDoor
