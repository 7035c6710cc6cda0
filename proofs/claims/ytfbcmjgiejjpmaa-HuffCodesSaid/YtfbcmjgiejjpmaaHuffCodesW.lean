/- The walk of the law HuffCodes. -/
import Derived.Test.YtfbcmjgiejjpmaaHmLenB
import Derived.Test.YtfbcmjgiejjpmaaRefCodes
import Derived.Test.YtfbcmjgiejjpmaaKitSameI
namespace Go.Proofs.Ytfbcmjgiejjpmaa
open Go.RowKit Go

/-- nothing of w2 has changed in wx -/
structure Cow (w w2 wx : World) : Prop where
  bel : Below w2.heap.size w2 wx
  all : Below w.heap.size w wx
theorem Cow.drew {w w2 wx : World} (h : Cow w w2 wx) : Cow w w2 wx.drew := ⟨h.bel.drew, h.all.drew⟩
theorem Cow.later {w w2 wx w' : World} (h : Cow w w2 wx) (hb : Below wx.heap.size wx w') : Cow w w2 w' := ⟨h.bel.trans (hb.mono h.bel.size), h.all.trans (hb.mono h.all.size)⟩
theorem Cow.drawn {w w2 wx w' : World} (h : Cow w w2 wx) (hb : Drawn wx w') : Cow w w2 w' := h.later (hb.below _)

set_option maxRecDepth 100000 in
set_option maxHeartbeats 4000000 in
theorem codes_walk (a : Option Addr) (n cap : Nat) (L : Nat → Int) (w : World) (hI : Ints w a n cap L) (_hb : ∀ i, -9223372036854775808 ≤ L i ∧ L i ≤ 9223372036854775807) (hn : a = none → cap = 0) (hc : cap ≤ 9223372036854775807) :
    Calls Try.prog 3 #[.slice a n cap] w fun e w' => e = .returned (.bool true) ∧ Below w.heap.size w w' := by
  have HAW := Lib.hid (awake_any w)
  have HI : Hid (Ints w a n cap L) := hI
  have HN : Hid ((a = none → cap = 0) ∧ cap ≤ 9223372036854775807) := ⟨hn, hc⟩
  clear hI _hb hn hc
  go_enter Try.func3, Try.ntmps3
  go_wp2_with fail
  refine HAW.out.mono ?_
  rintro e w1 ⟨rfl, hb1⟩
  have HB1 := Lib.hid hb1
  clear hb1 HAW
  by_cases h400 : 400 < n
  · have hd : decide (400 < n) = true := decide_eq_true h400
    go_wp2
    go_returns
    exact ⟨rfl, HB1.out⟩
  · have hd : decide (400 < n) = false := decide_eq_false h400
    have H4 : Hid (n ≤ 400) := by show _ ≤ _; omega
    have hnI : (n : Int) ≤ 400 := by omega
    have HLT := lentI_any (lst L n) a n cap w1 (lst_length L n).symm ((HI.out.later HB1.out).list HN.out.2) HN.out.1 (by omega)
    go_wp2_with fail
    refine HLT.mono ?_
    rintro e w2 ⟨v, g, rfl, hv, hg, hb2⟩
    have HB2 : Hid (Below w.heap.size w w2) := HB1.out.trans (hb2.mono HB1.out.size)
    have HV := Lib.hid hv
    obtain ⟨a2, cap2, rfl, hi2⟩ := hv.ints.ints
    clear HLT hb2 HB1 hv hg
    have HCD := codes_any a2 n cap2 L w2 hi2 (by omega)
    clear hi2
    go_wp2_with fail
    refine HCD.mono ?_
    rintro e w3 ⟨hb3, hr⟩
    have HB3 : Hid (Below w.heap.size w w3) := HB2.out.trans (hb3.mono HB2.out.size)
    have HV3 : Hid (LentI w3 (.slice a2 n cap2) (lst L n) (Kit.mk 1) g) := HV.out.below hb3
    clear HCD hb3 HB2 HV
    rcases hr with ⟨hm, G, hlo, hrow, rfl⟩ | ⟨hno, rfl⟩
    · have HM := Lib.hid hm; clear hm
      have HR := Lib.hid hrow; clear hrow hlo
      have HRC := refCodes_any a n cap L w3 (HI.out.later HB3.out) (by omega)
      go_wp2_with fail
      refine HRC.mono ?_
      rintro e w4 ⟨hb4, hr⟩
      clear HRC
      rcases hr with ⟨_, G2, hlo2, hrow2, rfl⟩ | ⟨hno, _⟩
      · have HB4 : Hid (Below w.heap.size w w4) := HB3.out.trans (hb4.mono HB3.out.size)
        have HI4 : Hid (Ints w4 a n cap L) := HI.out.later HB4.out
        have HV4 : Hid (LentI w4 (.slice a2 n cap2) (lst L n) (Kit.mk 1) g) := HV3.out.below hb4
        have hG : w4.heap[G]? = _ := (hb4.block G (lt_of_block HR.out)).trans HR.out
        have F1 : Hid (∀ wi, Cow w w4 wi → Calls Try.prog 14 #[.slice (some ⟨G, 0, none⟩) n n, .slice (some ⟨G2, 0, none⟩) n n] wi fun e w' => e = .returned (.bool true) ∧ Cow w w4 w') := fun wi h =>
          (sameI_any _ _ n n _ n wi (by have := H4.out; omega) ((ki_ints hG).later h.bel) ((ki_ints hrow2).later h.bel)).mono fun e w' ⟨he, hd⟩ => ⟨he, h.drawn hd⟩
        have F2 : Hid (∀ wi, Cow w w4 wi → Calls Try.prog 15 #[.slice a2 n cap2, .slice a n cap] wi fun e w' => e = .returned (.bool true) ∧ Cow w w4 w') := fun wi h =>
          (keptI_any _ g _ a n cap wi (lst_length L n).symm ((HI4.out.later h.bel).list HN.out.2) (by have := H4.out; omega) (HV4.out.below h.bel)).mono fun e w' ⟨he, hd⟩ => ⟨he, h.drawn hd⟩
        have F3 : Hid (∀ wi, Cow w w4 wi → Calls Try.prog 16 #[.slice a n cap] wi fun e w' => ∃ D, e = .returned (.pointer (some ⟨D, 0, none⟩)) ∧ Cow w w4 w') := fun wi h =>
          (new_any a n cap L wi (HI4.out.later h.bel) (by have := H4.out; omega)).mono fun e w' ⟨hb, hr⟩ => by
            rcases hr with ⟨_, D, _, he⟩ | ⟨hno, _⟩
            · exact ⟨D, he, h.later hb⟩
            · exact absurd HM.out hno
        have hco : Cow w w4 w4 := ⟨Below.refl _ _, HB4.out⟩
        clear hG hrow2 hlo2 hb4 HB3 HB4 HI HI4 HV3 HV4 HR HM HN
        go_wp2_with fail
        refine (F1.out _ hco).mono ?_
        rintro e w5 ⟨rfl, h5⟩
        go_wp2_with fail
        refine (F2.out _ h5).mono ?_
        rintro e w6 ⟨rfl, h6⟩
        go_wp2_with fail
        refine (F3.out _ h6).mono ?_
        rintro e w7 ⟨D, rfl, h7⟩
        have H7 := Lib.hid h7
        clear h7 h6 h5 F1 F2 F3
        go_wp2
        go_returns
        exact ⟨rfl, H7.out.all⟩
      · exact absurd HM.out hno
    · have HNO := Lib.hid hno; clear hno
      have HRC := refCodes_any a n cap L w3 (HI.out.later HB3.out) (by omega)
      go_wp2_with fail
      refine HRC.mono ?_
      rintro e w4 ⟨hb4, hr⟩
      clear HRC
      rcases hr with ⟨hm, _⟩ | ⟨_, rfl⟩
      · exact absurd hm HNO.out
      · have HB4 : Hid (Below w.heap.size w w4) := HB3.out.trans (hb4.mono HB3.out.size)
        have HI4 : Hid (Ints w4 a n cap L) := HI.out.later HB4.out
        have HV4 : Hid (LentI w4 (.slice a2 n cap2) (lst L n) (Kit.mk 1) g) := HV3.out.below hb4
        have F1 : Hid (∀ wi, Cow w w4 wi → Calls Try.prog 14 #[.slice none 0 0, .slice none 0 0] wi fun e w' => e = .returned (.bool true) ∧ Cow w w4 w') := fun wi h =>
          (sameI_any L none 0 0 none 0 wi (by omega) ⟨Nat.le_refl _, fun h => by omega⟩ ⟨Nat.le_refl _, fun h => by omega⟩).mono fun e w' ⟨he, hd⟩ => ⟨he, h.drawn hd⟩
        have F2 : Hid (∀ wi, Cow w w4 wi → Calls Try.prog 15 #[.slice a2 n cap2, .slice a n cap] wi fun e w' => e = .returned (.bool true) ∧ Cow w w4 w') := fun wi h =>
          (keptI_any _ g _ a n cap wi (lst_length L n).symm ((HI4.out.later h.bel).list HN.out.2) (by have := H4.out; omega) (HV4.out.below h.bel)).mono fun e w' ⟨he, hd⟩ => ⟨he, h.drawn hd⟩
        have F3 : Hid (∀ wi, Cow w w4 wi → Calls Try.prog 16 #[.slice a n cap] wi fun e w' => e = .returned (.pointer none) ∧ Cow w w4 w') := fun wi h =>
          (new_any a n cap L wi (HI4.out.later h.bel) (by have := H4.out; omega)).mono fun e w' ⟨hb, hr⟩ => by
            rcases hr with ⟨hm, _⟩ | ⟨_, he⟩
            · exact absurd hm HNO.out
            · exact ⟨he, h.later hb⟩
        have hco : Cow w w4 w4 := ⟨Below.refl _ _, HB4.out⟩
        clear hb4 HB3 HB4 HI HI4 HV3 HV4 HNO HN
        go_wp2_with fail
        refine (F1.out _ hco).mono ?_
        rintro e w5 ⟨rfl, h5⟩
        go_wp2_with fail
        refine (F2.out _ h5).mono ?_
        rintro e w6 ⟨rfl, h6⟩
        go_wp2_with fail
        refine (F3.out _ h6).mono ?_
        rintro e w7 ⟨rfl, h7⟩
        have H7 := Lib.hid h7
        clear h7 h6 h5 F1 F2 F3
        go_wp2
        go_returns
        exact ⟨rfl, H7.out.all⟩
end Go.Proofs.Ytfbcmjgiejjpmaa
