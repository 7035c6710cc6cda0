/- The walk of the law HuffTurned. -/
import Derived.Test.YtfbcmjgiejjpmaaHufApp
import Derived.Test.YtfbcmjgiejjpmaaHufReadS
namespace Go.Proofs.Ytfbcmjgiejjpmaa
open Go.RowKit Go

set_option maxRecDepth 100000 in
set_option maxHeartbeats 4000000 in
theorem turned_walk (a : Option Addr) (n cap : Nat) (F : Nat → Int) (most k : Int) (w : World) (hI : Ints w a n cap F) (_hb : ∀ i, -9223372036854775808 ≤ F i ∧ F i ≤ 9223372036854775807) (_hn : a = none → cap = 0)
    (_hm0 : -9223372036854775808 ≤ most) (_hm1 : most ≤ 9223372036854775807) (hk0 : -9223372036854775808 ≤ k) (hk1 : k ≤ 9223372036854775807) :
    Calls Try.prog 9 #[.slice a n cap, .int .i64 most, .int .i64 k] w fun e w' => e = .returned (.bool true) ∧ Below w.heap.size w w' := by
  have HAW := Lib.hid (awake_any w)
  have HI : Hid (Ints w a n cap F) := hI
  have HKB : Hid (-9223372036854775808 ≤ k ∧ k ≤ 9223372036854775807) := ⟨hk0, hk1⟩
  clear hI _hb _hn hk0 hk1
  go_enter Try.func9, Try.ntmps9
  go_wp2_with fail
  refine HAW.out.mono ?_
  rintro e w1 ⟨rfl, hb1⟩
  have HB1 := Lib.hid hb1
  clear hb1 HAW
  by_cases h300 : 300 < n
  · have hd : decide (300 < n) = true := decide_eq_true h300
    go_wp2
    go_returns
    exact ⟨rfl, HB1.out⟩
  · have hd : decide (300 < n) = false := decide_eq_false h300
    have hnI : (n : Int) ≤ 300 := by omega
    by_cases hn0 : n = 0
    · subst hn0
      go_wp2
      go_returns
      exact ⟨rfl, HB1.out⟩
    · have hnz : ((n : Int) == 0) = false := by simp; omega
      have HASK := refAsked_any a n cap F most w1 (HI.out.later HB1.out) (by omega)
      go_wp2_with fail
      refine HASK.mono ?_
      rintro e w2 ⟨rfl, hr⟩
      clear HASK
      rcases hr with ⟨hask, rfl⟩ | ⟨_, rfl⟩
      · have HAS := Lib.hid hask; clear hask
        have HI2 : Hid (Ints w2 a n cap F) := HI.out.later HB1.out
        obtain ⟨kk, hkk⟩ : ∃ s : Nat, k % (n : Int) = (s : Int) := ⟨(k % (n : Int)).toNat, by have := Int.emod_nonneg k (b := (n : Int)) (by omega); omega⟩
        have hkn : kk < n := by have := Int.emod_lt_of_pos k (b := (n : Int)) (by omega); omega
        have HPK := pick_any k n w2 HKB.out.1 HKB.out.2 (by omega) (by omega)
        rw [hkk] at HPK
        clear hkk
        obtain ⟨s, o, rfl, _, _⟩ := HI2.out.at_ hkn
        have s1 : ∀ wx, (Instr.sliceAt 22 (.slice (some ⟨s, o, none⟩) n cap) (some (.int .i64 (kk : Int))) none none).run Try.prog wx = .ok (.slice (some ⟨s, o + kk, none⟩) (n - kk) (cap - kk)) wx := fun wx => by
          rw [slice_ints_from _ _ _ _ (by omega), if_neg (by have := HI2.out.le; omega), Option.map_some, Addr.add_mid]
        have s2 := slice_ints (some ⟨s, o, none⟩) n cap kk (by have := HI2.out.le; omega)
        have HF1 : Hid (Ints w2 (some ⟨s, o + kk, none⟩) (n - kk) (cap - kk) (fun j => F (kk + j))) := by
          have := HI2.out.from kk (by omega)
          rw [if_neg (by have := HI2.out.le; omega), Option.map_some, Addr.add_mid] at this
          exact this
        have HF2 : Hid (Ints w2 (some ⟨s, o, none⟩) kk cap F) := ⟨by have := HI2.out.le; omega, fun h => by
          obtain ⟨s', o', e, q1, q2⟩ := HI2.out.ad (by omega)
          exact ⟨s', o', e, q1, fun j hj => q2 j (by omega)⟩⟩
        have HT0 : Hid (Tow w w2 w2) := ⟨Below.refl _ _, HB1.out⟩
        have hkI : (kk : Int) < (n : Int) := by omega
        have hkI0 : (0 : Int) ≤ (kk : Int) := by omega
        go_wp2_with fail
        refine HPK.mono ?_
        rintro e wy ⟨rfl, rfl⟩
        clear HPK
        have ht0 := HT0.out.drew
        go_wp2_with fail
        go_region_held3 (fun wx => Tow w wy wx) (first | assumption | (refine Tow.drew ?_; assumption) | (refine Tow.drew (Tow.alloc ?_ _); assumption) | (refine Tow.alloc ?_ _; assumption)) ((first | (refine step_append_ints _ (by rfl) (.tmp 35) (.tmp 38) (by rfl) wy.heap.size (.slice (some ⟨wy.heap.size, 0, none⟩) 0 0) 0 [] (by rfl) (by exact ⟨rfl, .inr ⟨_, 0, #[], rfl, Nat.le_refl _, heap_alloc_new wy _, Nat.le_refl _, by simp [maxLen], rfl, rfl⟩⟩) s (o + kk) (n - kk) (cap - kk) (fun j => F (kk + j)) (by rfl) (HF1.out.later (Tow.bel (w := w) (by assumption))) (by omega) (Tow.bel (w := w) (w2 := wy) (by assumption)).size ?_; intro v5 w5 ho5 hg5; have ht5 := Tow.app (w := w) (w2 := wy) (by assumption) HB1.out.size (by exact ⟨rfl, .inr ⟨_, 0, #[], rfl, Nat.le_refl _, heap_alloc_new wy _, Nat.le_refl _, by simp [maxLen], rfl, rfl⟩⟩) hg5.out) | (refine step_append_ints _ (by rfl) (.tmp 39) (.tmp 42) (by rfl) wy.heap.size v5 (0 + (n - kk)) ([] ++ kc (fun j => F (kk + j)) (n - kk)) (by rfl) ho5.out s o kk cap F (by rfl) (HF2.out.later (Tow.bel (w := w) (by assumption))) (by omega) (Tow.bel (w := w) (w2 := wy) (by assumption)).size ?_; intro v6 w6 ho6 hg6; have ht6 := Tow.app (w := w) (w2 := wy) (by assumption) HB1.out.size ho5.out hg6.out)))
        have e6 : 0 + (n - kk) + kk = n := by omega
        have ho7 := ho6.out
        rw [e6] at ho7
        obtain ⟨a8, c8, rfl, hi8⟩ := own_kc ho7 (by omega)
        have HI8 : Hid (Ints w6 a8 n c8 (trn F n kk)) := hi8
        have HT6 : Hid (Tow w w6 w6 ∧ Tow w wy w6) := ⟨⟨Below.refl _ _, ht6.all⟩, ht6⟩
        clear ho7 hi8 ho6 ho5 hg5 hg6 e6 HF1 HF2 s1 s2
        have HASR : Hid (Hul.Asked (trn F n kk) n most) := trn_asked (by omega) HAS.out
        have HL1 : Hid (∀ wx, Tow w w6 wx → Calls Try.prog 17 #[.slice (some ⟨s, o, none⟩) n cap, .int .i64 most] wx fun e w' => ∃ G d, e = .returned (.tuple #[.slice (some ⟨G, 0, none⟩) n n, .int .i64 0]) ∧ Tow w w6 w' ∧ Ints w' (some ⟨G, 0, none⟩) n n (fun i => (d i : Nat)) ∧ Hul.Made F n most d) := fun wx h =>
          (lengths_any _ n cap F most wx ((HI2.out.later HT6.out.2.bel).later h.bel) (by omega)).mono fun e w' ⟨hb, hr⟩ => by
            rcases hr with ⟨_, G, d, _, he, hrow, hmade⟩ | ⟨hno, _⟩
            · exact ⟨G, d, he, h.later hb, ki_ints hrow, hmade⟩
            · exact absurd HAS.out hno
        have HL2 : Hid (∀ wx, Tow w w6 wx → Calls Try.prog 17 #[.slice a8 n c8, .int .i64 most] wx fun e w' => ∃ G d, e = .returned (.tuple #[.slice (some ⟨G, 0, none⟩) n n, .int .i64 0]) ∧ Tow w w6 w' ∧ Below wx.heap.size wx w' ∧ Ints w' (some ⟨G, 0, none⟩) n n (fun i => (d i : Nat)) ∧ Hul.Made (trn F n kk) n most d) := fun wx h =>
          (lengths_any _ n c8 (trn F n kk) most wx (HI8.out.later h.bel) (by omega)).mono fun e w' ⟨hb, hr⟩ => by
            rcases hr with ⟨_, G, d, _, he, hrow, hmade⟩ | ⟨hno, _⟩
            · exact ⟨G, d, he, h.later hb, hb, ki_ints hrow, hmade⟩
            · exact absurd HASR.out hno
        have ht60 := HT6.out.1
        have ht61 := ht60.drew
        go_wp2_with fail
        refine (HL1.out _ (by assumption)).mono ?_
        rintro e w7 ⟨Ga, da, rfl, ht7, hia, hma⟩
        go_wp2_with fail
        refine (HL2.out _ ht7).mono ?_
        rintro e w8 ⟨Gb, db, rfl, ht8, hb8, hib, hmb⟩
        have HT8 := Lib.hid ht8
        have HIA := Lib.hid (hia.later hb8)
        have HIB := Lib.hid hib
        have HGA := Lib.hid (hma.good HAS.out)
        have HGB := Lib.hid (hmb.good HASR.out)
        have HCE : Hid (Hul.cost F da n = Hul.cost (trn F n kk) db n) := Hul.cost_same HAS.out HASR.out hma hmb (trn_perm F n kk (by omega))
        have HI9 : Hid (Ints w8 (some ⟨s, o, none⟩) n cap F) := (HI2.out.later HT6.out.2.bel).later ht8.bel
        have HI10 : Hid (Ints w8 a8 n c8 (trn F n kk)) := HI8.out.later ht8.bel
        have hm15 : ∀ d G, Hul.Good G n most d → ∀ i, i < n → d i ≤ 15 := fun d G h i hi => by
          have h1 := h.le i hi
          have h2 := HAS.out.1.2.2.1
          omega
        have HC1 := refCost_any (some ⟨s, o, none⟩) n cap F (some ⟨Ga, 0, none⟩) n da w8 HI9.out HIA.out (by omega) HAS.out.1.2.2.2 (hm15 da F HGA.out)
        have HC2 : Hid (∀ wx, Drawn w8 wx → Calls Try.prog 20 #[.slice a8 n c8, .slice (some ⟨Gb, 0, none⟩) n n] wx fun e w' => e = .returned (.int .i64 (Hul.cost F da n : Nat)) ∧ Drawn w8 w') := fun wx hd => by
          rw [HCE.out]
          exact (refCost_any a8 n c8 (trn F n kk) (some ⟨Gb, 0, none⟩) n db wx (HI10.out.drawn hd) (HIB.out.drawn hd) (by omega) HASR.out.1.2.2.2 (hm15 db _ HGB.out)).mono fun e w' ⟨he, hd'⟩ => ⟨he, by obtain ⟨q, rfl⟩ := hd'; exact hd.drewN q⟩
        clear hm15 ht7 ht8 hb8 hia hib hma hmb HL1 HL2 ht60 ht61
        generalize Hul.cost F da n = cst at *
        have hcc : ((cst : Int) == (cst : Int)) = true := by simp
        go_wp2_with fail
        refine HC1.mono ?_
        rintro e w9 ⟨rfl, hd9⟩
        go_wp2_with fail
        refine (HC2.out _ hd9).mono ?_
        rintro e w10 ⟨rfl, hd10⟩
        have HD10 := Lib.hid hd10
        clear hd9 hd10 HC1 HC2 hcc
        go_wp2_with fail
        go_loopw [13] (fun v13 wr => ∃ i : Nat, i ≤ n ∧ v13 = .int .i64 (i : Int) ∧ Drawn w8 wr) (fun v13 _ => (n - intOf v13).toNat)
        case atStart => exact ⟨0, by omega, rfl, HD10.out⟩
        case round =>
          clear HD10
          obtain ⟨i, hi, rfl, hdr⟩ := hrel
          have HD := Lib.hid hdr; clear hdr
          by_cases hin : i < n
          · have hdi : decide (i < n) = true := decide_eq_true hin
            go_wp2_with fail
            generalize wr = wo at *
            go_loopw [14] (fun v14 wr => ∃ j : Nat, j ≤ n ∧ v14 = .int .i64 (j : Int) ∧ Drawn w8 wr) (fun v14 _ => (n - intOf v14).toNat)
            case atStart => exact ⟨0, by omega, rfl, HD.out⟩
            case round =>
              clear HD
              obtain ⟨j, hj, rfl, hdr⟩ := hrel
              have HD := Lib.hid hdr; clear hdr
              by_cases hjn : j < n
              · have hdj : decide (j < n) = true := decide_eq_true hjn
                obtain ⟨s', o', he, _, c1⟩ := HI9.out.at_ hin
                obtain ⟨s'', o'', he2, _, c2⟩ := HI9.out.at_ hjn
                obtain ⟨b3, o3, he3, _, c3⟩ := HIA.out.at_ hin
                obtain ⟨b4, o4, he4, _, c4⟩ := HIA.out.at_ hjn
                simp only [Option.some.injEq, Addr.mk.injEq, and_true] at he he2 he3 he4
                obtain ⟨rfl, rfl⟩ := he
                obtain ⟨rfl, rfl⟩ := he2
                obtain ⟨rfl, rfl⟩ := he3
                obtain ⟨rfl, rfl⟩ := he4
                rw [← HD.out.cell] at c1 c2 c3 c4
                rw [Nat.zero_add] at c3 c4
                have HDN : Hid (0 < F j → F j < F i → da i ≤ da j) := HGA.out.down i j hin hjn
                generalize F i = fi at *
                generalize F j = fj at *
                generalize da i = di at *
                generalize da j = dj at *
                have hi0 : (0 : Int) ≤ (i : Int) := by omega
                have hj0 : (0 : Int) ≤ (j : Int) := by omega
                have hiI : (i : Int) < (n : Int) := by omega
                have hjI : (j : Int) < (n : Int) := by omega
                by_cases q1 : fj < fi
                · have d1 : decide (fj < fi) = true := decide_eq_true q1
                  by_cases q2 : 0 < fj
                  · have d2 : decide (0 < fj) = true := decide_eq_true q2
                    have d3 : decide (dj < di) = false := decide_eq_false (by have := HDN.out q2 q1; omega)
                    go_wp2_with fail
                    go_quiet (fail)
                    go_wp2
                    exact ⟨⟨j + 1, by omega, by go_num, HD.out.drewN _⟩, by simp [intOf]; omega⟩
                  · have d2 : decide (0 < fj) = false := decide_eq_false q2
                    go_wp2_with fail
                    go_quiet (fail)
                    go_wp2
                    exact ⟨⟨j + 1, by omega, by go_num, HD.out.drewN _⟩, by simp [intOf]; omega⟩
                · have d1 : decide (fj < fi) = false := decide_eq_false q1
                  go_wp2_with fail
                  go_quiet (fail)
                  go_wp2
                  exact ⟨⟨j + 1, by omega, by go_num, HD.out.drewN _⟩, by simp [intOf]; omega⟩
              · obtain rfl : j = n := by omega
                have hdj : decide (j < j) = false := decide_eq_false (by omega)
                go_wp2
                exact ⟨⟨i + 1, by omega, by go_num, HD.out⟩, by simp [intOf]; omega⟩
          · obtain rfl : i = n := by omega
            have hdi : decide (i < i) = false := decide_eq_false (by omega)
            have HE : Hid (Below w.heap.size w wr) := HT8.out.all.trans (HD.out.below _)
            go_wp2
            go_returns
            exact ⟨rfl, HE.out⟩
      · go_wp2
        go_returns
        exact ⟨rfl, HB1.out⟩
end Go.Proofs.Ytfbcmjgiejjpmaa
