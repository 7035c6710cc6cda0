/- The walk of the document's begins. -/
import Derived.Test.YtfbcmjgiejjpmaaHufPref
import Derived.Test.YtfbcmjgiejjpmaaRefCodes
import Derived.BigQuiet
import Derived.Deep.QuietTactic
namespace Go.Proofs.Ytfbcmjgiejjpmaa
open Go.RowKit Go

set_option maxRecDepth 100000 in
set_option maxHeartbeats 4000000 in
theorem begins_any (V p k v : Nat) (hv : v = Huf.vl V p k) (a : Option Addr) (n cap : Nat) (L : Nat → Int) (a2 : Option Addr) (cap2 : Nat) (w : World) (hM : Huf.Makes L n) (hI : Ints w a n cap L) (hC : Ints w a2 n cap2 (fun t => (Huf.code L n t : Nat))) (hk : k ≤ 16) :
    Calls Try.prog 42 #[.slice a n cap, .slice a2 n cap2, .int .i64 (v : Int), .int .i64 (k : Int)] w fun e w' => Drawn w w' ∧ ((Huf.Beg L n V p k ∧ e = .returned (.bool true)) ∨ (¬ Huf.Beg L n V p k ∧ e = .returned (.bool false))) := by
  have HI : Hid (Ints w a n cap L) := hI
  have HC : Hid (Ints w a2 n cap2 (fun t => (Huf.code L n t : Nat))) := hC
  have HM : Hid (Huf.Makes L n) := hM
  have HV := Lib.hid hv
  have hnI : (n : Int) ≤ 288 := by have := hM.1.1; omega
  have k6 : (k : Int) ≤ 16 := by omega
  clear hI hC hM hv
  go_enter Try.func42, Try.ntmps42
  go_wp2_with fail
  go_loopw [9] (fun v9 wr => ∃ i : Nat, i ≤ n ∧ v9 = .int .i64 (i : Int) ∧ Drawn w wr ∧ ∀ t, t < i → ¬ (0 < L t ∧ (k : Int) ≤ L t ∧ Huf.code L n t / 2 ^ ((L t).toNat - k) = v)) (fun v9 _ => (n - intOf v9).toNat)
  case atStart => exact ⟨0, by omega, rfl, Drawn.refl _, fun t ht => by omega⟩
  case round =>
    obtain ⟨i, hi, rfl, hdr, hno⟩ := hrel
    have HD := Lib.hid hdr; clear hdr
    have HNO := Lib.hid hno; clear hno
    by_cases hin : i < n
    · have hdi : decide (i < n) = true := decide_eq_true hin
      obtain ⟨s, o, rfl, hsz, c1⟩ := HI.out.at_ hin
      obtain ⟨s2, o2, rfl, hsz2, c2⟩ := HC.out.at_ hin
      rw [← HD.out.cell] at c1 c2
      have hLi := HM.out.1.2 i hin
      obtain ⟨li, hli⟩ : ∃ li : Nat, L i = (li : Int) := ⟨(L i).toNat, by omega⟩
      have hci := Huf.code_le L n i HM.out.1 hin
      have HNX : Hid (¬ (0 < li ∧ k ≤ li ∧ Huf.code L n i / 2 ^ (li - k) = v) → ∀ t, t < i + 1 → ¬ (0 < L t ∧ (k : Int) ≤ L t ∧ Huf.code L n t / 2 ^ ((L t).toNat - k) = v)) := fun h t ht => by
        rcases Nat.lt_or_ge t i with c | c
        · exact HNO.out t c
        · obtain rfl : t = i := by omega
          rintro ⟨q1, q2, q3⟩
          rw [hli] at q1 q2 q3
          exact h ⟨by omega, by omega, by simpa using q3⟩
      have HYES : Hid (0 < li → k ≤ li → Huf.code L n i / 2 ^ (li - k) = v → Huf.Beg L n V p k) := fun q1 q2 q3 => ⟨i, hin, by omega, by omega, by rw [hli, ← HV.out]; simpa using q3⟩
      rw [hli] at c1 hLi
      clear hli
      generalize Huf.code L n i = ci at *
      have ci6 : (ci : Int) ≤ 40000000 := by omega
      have li6 : (li : Int) ≤ 15 := by omega
      have hi0 : (0 : Int) ≤ (i : Int) := by omega
      have hiI : (i : Int) < (n : Int) := by omega
      by_cases hl0 : 0 < li
      · have q1 : decide (0 < li) = true := decide_eq_true hl0
        by_cases hkl : k ≤ li
        · have q2 : decide (k ≤ li) = true := decide_eq_true hkl
          obtain ⟨sh, hsh⟩ : ∃ sh, sh = li - k := ⟨_, rfl⟩
          obtain ⟨x, hx⟩ : ∃ x, x = ci / 2 ^ (li - k) := ⟨_, rfl⟩
          have hshI : (li : Int) - (k : Int) = (sh : Int) := by omega
          have sh6 : (sh : Int) ≤ 15 := by omega
          have w1 : IntKind.i64.wrap (sh : Int) = (sh : Int) := IntWalk.i64_in _ (by omega)
          rw [← hx] at HNX HYES
          have hvI : (ci : Int) / 2 ^ sh = (x : Int) := by rw [hx, hsh]; simp
          clear hx hsh
          by_cases hxv : x = v
          · subst hxv
            have q3 : ((x : Int) == (x : Int)) = true := by simp
            go_wp2_with fail
            go_quiet (fail)
            go_wp2
            go_returns
            exact ⟨HD.out.drewN _, .inl ⟨HYES.out hl0 hkl trivial, rfl⟩⟩
          · have q3 : ((x : Int) == (v : Int)) = false := by simp; omega
            go_wp2_with fail
            go_quiet (fail)
            go_wp2
            exact ⟨⟨i + 1, by omega, by go_num, HD.out.drewN _, HNX.out fun h => hxv h.2.2⟩, by simp [intOf]; omega⟩
        · have q2 : decide (k ≤ li) = false := decide_eq_false hkl
          go_wp2_with fail
          go_quiet (fail)
          go_wp2
          exact ⟨⟨i + 1, by omega, by go_num, HD.out.drewN _, HNX.out fun h => hkl h.2.1⟩, by simp [intOf]; omega⟩
      · have q1 : decide (0 < li) = false := decide_eq_false hl0
        go_wp2_with fail
        go_quiet (fail)
        go_wp2
        exact ⟨⟨i + 1, by omega, by go_num, HD.out.drewN _, HNX.out fun h => hl0 h.1⟩, by simp [intOf]; omega⟩
    · obtain rfl : i = n := by omega
      have hdi : decide (i < i) = false := decide_eq_false (by omega)
      have HEND : Hid (¬ Huf.Beg L i V p k) := by
        rintro ⟨t, h1, h2, h3, h4⟩
        exact HNO.out t h1 ⟨h2, h3, by rw [h4, ← HV.out]⟩
      go_wp2
      go_returns
      exact ⟨HD.out, .inr ⟨HEND.out, rfl⟩⟩
end Go.Proofs.Ytfbcmjgiejjpmaa
