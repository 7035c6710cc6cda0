/- The walk of the law HuffLengths. -/
import Derived.Test.YtfbcmjgiejjpmaaRefLeast
import Derived.Test.YtfbcmjgiejjpmaaRefMakes
import Derived.Test.YtfbcmjgiejjpmaaKitSameI
namespace Go.Proofs.Ytfbcmjgiejjpmaa
open Go.RowKit Go

set_option maxRecDepth 100000 in
set_option maxHeartbeats 4000000 in
theorem lengths_walk (a : Option Addr) (n cap : Nat) (F : Nat → Int) (most : Int) (w : World) (hI : Ints w a n cap F) (_hb : ∀ i, -9223372036854775808 ≤ F i ∧ F i ≤ 9223372036854775807) (hn : a = none → cap = 0) (hc : cap ≤ 9223372036854775807)
    (_hm0 : -9223372036854775808 ≤ most) (_hm1 : most ≤ 9223372036854775807) :
    Calls Try.prog 4 #[.slice a n cap, .int .i64 most] w fun e w' => e = .returned (.bool true) ∧ Below w.heap.size w w' := by
  have HAW := Lib.hid (awake_any w)
  have HI : Hid (Ints w a n cap F) := hI
  have HN : Hid ((a = none → cap = 0) ∧ cap ≤ 9223372036854775807) := ⟨hn, hc⟩
  clear hI _hb hn hc
  go_enter Try.func4, Try.ntmps4
  go_wp2_with fail
  refine HAW.out.mono ?_
  rintro e w1 ⟨rfl, hb1⟩
  have HB1 := Lib.hid hb1
  clear hb1 HAW
  by_cases h300 : 300 < n
  · have hd : decide (300 < n) = true := decide_eq_true h300
    go_wp2
    go_returns
    exact ⟨rfl, HB1.out⟩
  · have hd : decide (300 < n) = false := decide_eq_false h300
    have hnI : (n : Int) ≤ 300 := by omega
    have hn3 : n ≤ 300 := by omega
    have HLT := lentI_any (lst F n) a n cap w1 (lst_length F n).symm ((HI.out.later HB1.out).list HN.out.2) HN.out.1 (by omega)
    go_wp2_with fail
    refine HLT.mono ?_
    rintro e w2 ⟨v, g, rfl, hv, hg, hb2⟩
    have HB2 : Hid (Below w.heap.size w w2) := HB1.out.trans (hb2.mono HB1.out.size)
    have HV := Lib.hid hv
    obtain ⟨a2, cap2, rfl, hi2⟩ := hv.ints.ints
    clear HLT hb2 HB1 hv hg
    have HLN := lengths_any a2 n cap2 F most w2 hi2 (by omega)
    clear hi2
    go_wp2_with fail
    refine HLN.mono ?_
    rintro e w3 ⟨hb3, hr⟩
    have HB3 : Hid (Below w.heap.size w w3) := HB2.out.trans (hb3.mono HB2.out.size)
    have HV3 : Hid (LentI w3 (.slice a2 n cap2) (lst F n) (Kit.mk 1) g) := HV.out.below hb3
    have HI3 : Hid (Ints w3 a n cap F) := HI.out.later HB3.out
    clear HLN hb3 HB2 HV HI
    have HKP := keptI_any (lst F n) g (.slice a2 n cap2) a n cap w3 (lst_length F n).symm (HI3.out.list HN.out.2) (by omega) HV3.out
    clear HV3 HN
    rcases hr with ⟨hask, G, d, hlo, rfl, hrow, hmade⟩ | ⟨hno, rfl⟩
    · have HAS := Lib.hid hask; clear hask
      have HMD := Lib.hid hmade; clear hmade
      have HR := Lib.hid hrow; clear hrow hlo
      go_wp2_with fail
      refine HKP.mono ?_
      rintro e w4 ⟨rfl, hd4⟩
      have HB4 : Hid (Below w.heap.size w w4) := HB3.out.trans (hd4.below _)
      have HI4 : Hid (Ints w4 a n cap F) := HI3.out.drawn hd4
      have HD4 : Hid (Ints w4 (some ⟨G, 0, none⟩) n n (fun i => (d i : Nat))) := (ki_ints HR.out).drawn hd4
      have HASK := refAsked_any a n cap F most w4 HI4.out (by omega)
      clear HKP hd4 HB3 HI3 HR
      go_wp2_with fail
      refine HASK.mono ?_
      rintro e w5 ⟨rfl, hr⟩
      clear HASK
      rcases hr with ⟨_, rfl⟩ | ⟨hno, _⟩
      · have HGD := Lib.hid (HMD.out.good HAS.out)
        have HMK := refMakes_any (some ⟨G, 0, none⟩) n n (fun i => (d i : Nat)) w5 HD4.out (by omega)
        have hnn : ((n : Int) == (n : Int)) = true := by simp
        go_wp2_with fail
        refine HMK.mono ?_
        rintro e w6 ⟨rfl, hr⟩
        clear HMK hnn
        rcases hr with ⟨_, rfl⟩ | ⟨hno, _⟩
        · have HRK : Hid (Hul.Reck F n most) := HAS.out.1
          obtain ⟨K, rfl⟩ : ∃ K : Nat, most = (K : Int) := ⟨most.toNat, by have := HRK.out.2.1; omega⟩
          go_wp2_with fail
          go_loopw [8] (fun v8 wr => ∃ i : Nat, i ≤ n ∧ v8 = .int .i64 (i : Int) ∧ Drawn w6 wr) (fun v8 _ => (n - intOf v8).toNat)
          case atStart => exact ⟨0, by omega, rfl, Drawn.refl _⟩
          case round =>
            obtain ⟨i, hi, rfl, hdr⟩ := hrel
            have HDR := Lib.hid hdr; clear hdr
            by_cases hin : i < n
            · have hdi : decide (i < n) = true := decide_eq_true hin
              obtain ⟨s, o, rfl, _, c1⟩ := (HI4.out.drawn HDR.out).at_ hin
              obtain ⟨s2, o2, he, _, c2⟩ := (HD4.out.drawn HDR.out).at_ hin
              simp only [Option.some.injEq, Addr.mk.injEq, and_true] at he
              obtain ⟨rfl, rfl⟩ := he
              rw [Nat.zero_add] at c2
              have hle := HGD.out.le i hin
              have hz := HGD.out.zero i hin
              generalize F i = x at *
              generalize d i = k at *
              have hi0 : (0 : Int) ≤ (i : Int) := by omega
              have hiI : (i : Int) < (n : Int) := by omega
              have q1 : decide (K < k) = false := decide_eq_false (by omega)
              by_cases hk : k = 0
              · have hx := hz.1 hk
                subst hk
                subst hx
                clear hz hle
                go_wp2_with fail
                go_quiet (fail)
                go_wp2
                exact ⟨⟨i + 1, by omega, by go_num, HDR.out.drewN _⟩, by simp [intOf]; omega⟩
              · have q2 : ((k : Int) == 0) = false := by simp; omega
                have q3 : (x == 0) = false := by simp; exact fun h => hk (hz.2 h)
                clear hz hle
                go_wp2_with fail
                go_quiet (fail)
                go_wp2
                exact ⟨⟨i + 1, by omega, by go_num, HDR.out.drewN _⟩, by simp [intOf]; omega⟩
            · obtain rfl : i = n := by omega
              have hdi : decide (i < i) = false := decide_eq_false (by omega)
              obtain ⟨m, y, R, hs, hl, he⟩ := HMD.out
              have hK := HRK.out.2.2.1
              have hK1 := HRK.out.2.1
              have hcost := Hul.cost_made HAS.out hs hl he
              have hpm := HAS.out.2
              rw [Int.toNat_natCast] at hl hcost hpm
              have HC1 := refCost_any a i cap F (some ⟨G, 0, none⟩) i d wr (HI4.out.drawn HDR.out) (HD4.out.drawn HDR.out) hn3 HRK.out.2.2.2 (fun j hj => by have := HGD.out.le j hj; omega)
              rw [hcost] at HC1
              have HC2 : Hid (∀ wx, Drawn w6 wx → Calls Try.prog 21 #[.slice a i cap, .int .i64 (K : Int)] wx fun e w' => e = .returned (.int .i64 (sm (fun t => (R (K - 1) t).1.toNat) (max (2 * m - 2) m) : Nat)) ∧ Below w.heap.size w w') := fun wx hdx =>
                (refLeast_any a i cap F K m y R wx (HI4.out.drawn hdx) hn3 HRK.out.2.2.2 hs hl (by rw [hs.len]; exact hpm) (by omega) (by omega)).mono fun e w' ⟨h1, h2⟩ => ⟨h1, by
                  have c := HB4.out.trans (hdx.below _)
                  exact c.trans (h2.mono c.size)⟩
              clear hs hl he hcost hpm
              generalize sm (fun t => (R (K - 1) t).1.toNat) (max (2 * m - 2) m) = cst at *
              have hcc : ((cst : Int) == (cst : Int)) = true := by simp
              go_wp2_with fail
              refine HC1.mono ?_
              rintro e w7 ⟨rfl, hd7⟩
              go_wp2_with fail
              refine (HC2.out _ (by obtain ⟨q, rfl⟩ := hd7; exact HDR.out.drewN q)).mono ?_
              rintro e w8 ⟨rfl, hb8⟩
              have HB8 := Lib.hid hb8
              clear hd7 hb8 HC1 HC2
              go_wp2
              go_returns
              exact ⟨rfl, HB8.out⟩
        · exact absurd HGD.out.makes hno
      · exact absurd HAS.out hno
    · have HNO := Lib.hid hno; clear hno
      go_wp2_with fail
      refine HKP.mono ?_
      rintro e w4 ⟨rfl, hd4⟩
      have HB4 : Hid (Below w.heap.size w w4) := HB3.out.trans (hd4.below _)
      have HASK := refAsked_any a n cap F most w4 (HI3.out.drawn hd4) (by omega)
      go_wp2_with fail
      refine HASK.mono ?_
      rintro e w5 ⟨rfl, hr⟩
      rcases hr with ⟨hy, _⟩ | ⟨_, rfl⟩
      · exact absurd hy HNO.out
      · go_wp2
        go_returns
        exact ⟨rfl, HB4.out⟩
end Go.Proofs.Ytfbcmjgiejjpmaa
