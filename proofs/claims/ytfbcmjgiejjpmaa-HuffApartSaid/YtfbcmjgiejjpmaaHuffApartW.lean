/- The walk of the law HuffApart. -/
import Derived.Test.YtfbcmjgiejjpmaaHmLenB
import Derived.Test.YtfbcmjgiejjpmaaHufApart
namespace Go.Proofs.Ytfbcmjgiejjpmaa
open Go.RowKit Go

set_option maxRecDepth 100000 in
set_option maxHeartbeats 4000000 in
theorem apart_walk (a : Option Addr) (n cap : Nat) (L : Nat → Int) (w : World) (hI : Ints w a n cap L) (_hb : ∀ i, -9223372036854775808 ≤ L i ∧ L i ≤ 9223372036854775807) (_hn : a = none → cap = 0) :
    Calls Try.prog 8 #[.slice a n cap] w fun e w' => e = .returned (.bool true) ∧ Below w.heap.size w w' := by
  have HAW := Lib.hid (awake_any w)
  have HI : Hid (Ints w a n cap L) := hI
  clear hI _hb _hn
  go_enter Try.func8, Try.ntmps8
  go_wp2_with fail
  refine HAW.out.mono ?_
  rintro e w1 ⟨rfl, hb1⟩
  have HB1 := Lib.hid hb1
  clear hb1 HAW
  by_cases h300 : 300 < n
  · have hd : decide (300 < n) = true := decide_eq_true h300
    go_wp2
    go_returns
    exact ⟨rfl, HB1.out⟩
  · have hd : decide (300 < n) = false := decide_eq_false h300
    have H3 : Hid (n ≤ 300) := by show _ ≤ _; omega
    have hnI : (n : Int) ≤ 300 := by omega
    have HCD := codes_any a n cap L w1 (HI.out.later HB1.out) (by omega)
    go_wp2_with fail
    refine HCD.mono ?_
    rintro e w2 ⟨hb2, hr⟩
    have HB2 : Hid (Below w.heap.size w w2) := HB1.out.trans (hb2.mono HB1.out.size)
    have HI2 : Hid (Ints w2 a n cap L) := HI.out.later HB2.out
    clear HCD hb2 HB1 HI
    rcases hr with ⟨hm, G, hlo, hrow, rfl⟩ | ⟨hno, rfl⟩
    · have HM := Lib.hid hm; clear hm
      have HR := Lib.hid hrow; clear hrow hlo
      go_wp2_with fail
      go_loopw [5] (fun v5 wr => ∃ i : Nat, i ≤ n ∧ v5 = .int .i64 (i : Int) ∧ Drawn w2 wr) (fun v5 _ => (n - intOf v5).toNat)
      case atStart => exact ⟨0, by omega, rfl, Drawn.refl _⟩
      case round =>
        obtain ⟨i, hi, rfl, hdr⟩ := hrel
        have HD := Lib.hid hdr; clear hdr
        by_cases hin : i < n
        · have hdi : decide (i < n) = true := decide_eq_true hin
          go_wp2_with fail
          generalize wr = wo at *
          go_loopw [6] (fun v6 wr => ∃ k : Nat, k ≤ n ∧ v6 = .int .i64 (k : Int) ∧ Drawn w2 wr) (fun v6 _ => (n - intOf v6).toNat)
          case atStart => exact ⟨0, by omega, rfl, HD.out⟩
          case round =>
            clear HD
            obtain ⟨k, hk, rfl, hdr⟩ := hrel
            have HD := Lib.hid hdr; clear hdr
            by_cases hkn : k < n
            · have hdk : decide (k < n) = true := decide_eq_true hkn
              obtain ⟨s, o, rfl, hsz, c1⟩ := HI2.out.at_ hin
              obtain ⟨s', o', he, _, c2⟩ := HI2.out.at_ hkn
              obtain ⟨rfl, rfl⟩ : s' = s ∧ o' = o := by
                injection he with he
                injection he with h1 h2
                exact ⟨h1.symm, h2.symm⟩
              have c3 := ki_cell HR.out i hin
              have c4 := ki_cell HR.out k hkn
              rw [← HD.out.cell] at c1 c2 c3 c4
              have hLi := HM.out.1.2 i hin
              have hLk := HM.out.1.2 k hkn
              obtain ⟨li, hli⟩ : ∃ li : Nat, L i = (li : Int) := ⟨(L i).toNat, by omega⟩
              obtain ⟨lk, hlk⟩ : ∃ lk : Nat, L k = (lk : Int) := ⟨(L k).toNat, by omega⟩
              have hci := Huf.code_le L n i HM.out.1 hin
              have hck := Huf.code_le L n k HM.out.1 hkn
              have HF1 : Hid (0 < li → li = lk → i < k → Huf.code L n i < Huf.code L n k) := fun h1 h2 h3 => Huf.code_same L n i k (by omega) (by omega) h3
              have HF2 : Hid (0 < li → li = lk → k < i → Huf.code L n k < Huf.code L n i) := fun h1 h2 h3 => Huf.code_same L n k i (by omega) (by omega) h3
              have HF3 : Hid (0 < li → li < lk → Huf.code L n i < Huf.code L n k / 2 ^ (lk - li)) := fun h1 h2 => by
                have := Huf.code_far L n i k hin (by omega) (by omega)
                rw [hli, hlk] at this
                simpa using this
              rw [hli] at c1 hLi
              rw [hlk] at c2 hLk
              clear hli hlk he
              generalize Huf.code L n i = ci at *
              generalize Huf.code L n k = ck at *
              have ci6 : (ci : Int) ≤ 40000000 := by omega
              have ck6 : (ck : Int) ≤ 40000000 := by omega
              have li6 : (li : Int) ≤ 15 := by omega
              have lk6 : (lk : Int) ≤ 15 := by omega
              have hi0 : (0 : Int) ≤ (i : Int) := by omega
              have hk0 : (0 : Int) ≤ (k : Int) := by omega
              have hiI : (i : Int) < (n : Int) := by omega
              have hkI : (k : Int) < (n : Int) := by omega
              by_cases eik : i = k
              · subst eik
                have q0 : ((i : Int) == (i : Int)) = true := by simp
                go_wp2_with fail
                go_quiet (fail)
                go_wp2
                exact ⟨⟨i + 1, by omega, by go_num, HD.out.drewN _⟩, by simp [intOf]; omega⟩
              · have q0 : ((i : Int) == (k : Int)) = false := by simp; omega
                by_cases eli : li = 0
                · subst eli
                  go_wp2_with fail
                  go_quiet (fail)
                  go_wp2
                  exact ⟨⟨k + 1, by omega, by go_num, HD.out.drewN _⟩, by simp [intOf]; omega⟩
                · have q1 : ((li : Int) == 0) = false := by simp; omega
                  by_cases elk : lk = 0
                  · subst elk
                    go_wp2_with fail
                    go_quiet (fail)
                    go_wp2
                    exact ⟨⟨k + 1, by omega, by go_num, HD.out.drewN _⟩, by simp [intOf]; omega⟩
                  · have q2 : ((lk : Int) == 0) = false := by simp; omega
                    by_cases elt : lk < li
                    · have q3 : decide (lk < li) = true := decide_eq_true elt
                      go_wp2_with fail
                      go_quiet (fail)
                      go_wp2
                      exact ⟨⟨k + 1, by omega, by go_num, HD.out.drewN _⟩, by simp [intOf]; omega⟩
                    · have q3 : decide (lk < li) = false := decide_eq_false elt
                      go_wp2_with fail
                      go_quiet (fail)
                      obtain ⟨sh, hsh⟩ : ∃ sh, sh = lk - li := ⟨_, rfl⟩
                      obtain ⟨v, hv⟩ : ∃ v, v = ck / 2 ^ (lk - li) := ⟨_, rfl⟩
                      have hshI : (lk : Int) - (li : Int) = (sh : Int) := by omega
                      have HV : Hid (v = ck / 2 ^ (lk - li)) := hv
                      have sh6 : (sh : Int) ≤ 15 := by omega
                      rw [← hv] at HF3
                      have hvI : (ck : Int) / 2 ^ sh = (v : Int) := by rw [hv, hsh]; simp
                      clear hv hsh
                      have w1 : IntKind.i64.wrap (sh : Int) = (sh : Int) := IntWalk.i64_in _ (by omega)
                      go_wp2_with fail
                      go_quiet (fail)
                      try rw [hvI]
                      clear hshI w1 sh6 hvI
                      by_cases ell : li = lk
                      · subst ell
                        have q5 : ((li : Int) == (li : Int)) = true := by simp
                        have q6 : decide (li < li) = false := decide_eq_false (by omega)
                        obtain rfl : v = ck := by have := HV.out; simpa using this
                        by_cases elik : i < k
                        · have hcc := HF1.out (by omega) rfl elik
                          have q4 : ((v : Int) == (ci : Int)) = false := by simp; omega
                          have q7 : decide (ci < v) = true := decide_eq_true hcc
                          have q8 : decide (i < k) = true := decide_eq_true elik
                          go_wp2_with fail
                          go_quiet (fail)
                          go_wp2
                          exact ⟨⟨k + 1, by omega, by go_num, HD.out.drewN _⟩, by simp [intOf]; omega⟩
                        · have hcc := HF2.out (by omega) rfl (by omega)
                          have q4 : ((v : Int) == (ci : Int)) = false := by simp; omega
                          have q7 : decide (ci < v) = false := decide_eq_false (by omega)
                          have q8 : decide (i < k) = false := decide_eq_false elik
                          go_wp2_with fail
                          go_quiet (fail)
                          go_wp2
                          exact ⟨⟨k + 1, by omega, by go_num, HD.out.drewN _⟩, by simp [intOf]; omega⟩
                      · have hcc := HF3.out (by omega) (by omega)
                        have q5 : ((li : Int) == (lk : Int)) = false := by simp; omega
                        have q6 : decide (li < lk) = true := decide_eq_true (by omega)
                        have q4 : ((v : Int) == (ci : Int)) = false := by simp; omega
                        have q7 : decide (v < ci) = false := decide_eq_false (by omega)
                        go_wp2_with fail
                        go_quiet (fail)
                        go_wp2
                        exact ⟨⟨k + 1, by omega, by go_num, HD.out.drewN _⟩, by simp [intOf]; omega⟩
            · obtain rfl : k = n := by omega
              have hdk : decide (k < k) = false := decide_eq_false (by omega)
              go_wp2
              exact ⟨⟨i + 1, by omega, by go_num, HD.out⟩, by simp [intOf]; omega⟩
        · obtain rfl : i = n := by omega
          have hdi : decide (i < i) = false := decide_eq_false (by omega)
          go_wp2
          go_returns
          exact ⟨rfl, HB2.out.trans (HD.out.below _)⟩
    · go_wp2
      go_returns
      exact ⟨rfl, HB2.out⟩
end Go.Proofs.Ytfbcmjgiejjpmaa
