/- The walk of write: a code, its highest bit first. -/
import Derived.Test.YtfbcmjgiejjpmaaHufBackS
namespace Go.Proofs.Ytfbcmjgiejjpmaa
open Go.RowKit Go

set_option maxRecDepth 100000 in
set_option maxHeartbeats 4000000 in
theorem write_any (w0 : World) (g N V c d : Nat) (vp : Value) (l : List Nat) (w : World) (h : Bkw w0 w g N V vp l) (hd : d ≤ 15) (hc : c < 65536) (hN : N ≤ 1000000) (hcd : c / 2 ^ d = 0) :
    Calls Try.prog 28 #[.pointer (some ⟨g, 0, none⟩), .int .i64 (c : Int), .int .i64 (d : Int)] w fun e w' => e = .returned (.tuple #[]) ∧ ∃ V', V' % 2 ^ N = V % 2 ^ N ∧ Huf.vl V' N d = c ∧ Bkw w0 w' g (N + d) V' vp l := by
  have H0 := Lib.hid h
  have HCD := Lib.hid hcd
  have HN := Lib.hid hN
  have HD := Lib.hid hd
  have HC := Lib.hid hc
  have d6 : (d : Int) ≤ 15 := by omega
  have c6 : (c : Int) < 65536 := by omega
  clear h hcd hN hd hc
  go_enter Try.func28, Try.ntmps28
  go_wp2_with fail
  go_loopw [6] (fun v6 wr => ∃ (k t V' : Nat) (z : Int), k + t = d ∧ z = (k : Int) - 1 ∧ v6 = .int .i64 z ∧ V' % 2 ^ N = V % 2 ^ N ∧ Huf.vl V' N t = c / 2 ^ k ∧ Bkw w0 wr g (N + t) V' vp l) (fun v6 _ => (intOf v6 + 1).toNat)
  case atStart => exact ⟨d, 0, V, _, by omega, rfl, rfl, rfl, HCD.out.symm, H0.out⟩
  case round =>
    obtain ⟨k, t, V', z, hkt, hz, rfl, hm, hv, hs⟩ := hrel
    have HS := Lib.hid hs; clear hs
    have HM := Lib.hid hm; clear hm
    have HV := Lib.hid hv; clear hv
    by_cases hk : 0 < k
    · obtain ⟨j, rfl⟩ : ∃ j, k = j + 1 := ⟨k - 1, by omega⟩
      obtain rfl : z = (j : Int) := by omega
      clear hz
      have hdz : decide ((0 : Int) ≤ (j : Int)) = true := decide_eq_true (by omega)
      have j6 : (j : Int) ≤ 14 := by omega
      obtain ⟨x, hx⟩ : ∃ x, x = c / 2 ^ j := ⟨_, rfl⟩
      have hxI : (c : Int) / 2 ^ j = (x : Int) := by rw [hx]; simp
      have hx5 : x < 65536 := by rw [hx]; exact Nat.lt_of_le_of_lt (Nat.div_le_self _ _) HC.out
      have x6 : (x : Int) < 65536 := by omega
      have hand := Bit.and32_1 x (by omega)
      have HPUT := HS.out.put (x % 2) 1 (by omega) (by omega) (by have := HN.out; have := HD.out; omega)
      have HNX : Hid ((V' + x % 2 % 2 ^ 1 * 2 ^ (N + t)) % 2 ^ N = V % 2 ^ N ∧ Huf.vl (V' + x % 2 % 2 ^ 1 * 2 ^ (N + t)) N (t + 1) = c / 2 ^ j) := by
        obtain ⟨q1, q2⟩ := Huf.vl_put (b := x % 2 % 2 ^ 1) HS.out.lt (by omega)
        refine ⟨q1.trans HM.out, ?_⟩
        rw [q2, HV.out, Nat.pow_succ, ← Nat.div_div_eq_div_mul, ← hx]
        simp
        omega
      generalize V' + x % 2 % 2 ^ 1 * 2 ^ (N + t) = V2 at *
      generalize x % 2 = b at *
      clear hx hk
      go_wp2_with fail
      refine HPUT.mono ?_
      rintro e w5 ⟨rfl, hs5⟩
      have HS5 := Lib.hid hs5; clear hs5 HPUT HS
      go_wp2
      exact ⟨⟨j, t + 1, V2, _, by omega, by rfl, by go_num, HNX.out.1, HNX.out.2, HS5.out⟩, by simp [intOf]⟩
    · obtain rfl : k = 0 := by omega
      obtain rfl : t = d := by omega
      have HE : Hid (Huf.vl V' N t = c) := by show _ = _; have := HV.out; simpa using this
      obtain rfl : z = -1 := by omega
      have hdz : decide ((0 : Int) ≤ -1) = false := rfl
      clear hz hk
      go_wp2
      go_returns
      exact ⟨rfl, V', HM.out, HE.out, HS.out⟩
end Go.Proofs.Ytfbcmjgiejjpmaa
