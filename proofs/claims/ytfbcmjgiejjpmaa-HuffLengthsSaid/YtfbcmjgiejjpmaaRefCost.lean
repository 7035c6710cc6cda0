/- The walk of the document's Cost. -/
import Derived.Test.YtfbcmjgiejjpmaaHulRot
import Derived.BigQuiet
import Derived.Deep.QuietTactic
namespace Go.Proofs.Ytfbcmjgiejjpmaa
open Go.RowKit Go

set_option maxRecDepth 100000 in
set_option maxHeartbeats 4000000 in
theorem refCost_any (a : Option Addr) (n cap : Nat) (F : Nat → Int) (a2 : Option Addr) (cap2 : Nat) (d : Nat → Nat) (w : World) (hI : Ints w a n cap F) (hD : Ints w a2 n cap2 (fun i => (d i : Nat))) (hn : n ≤ 300) (hF : ∀ i, i < n → 0 ≤ F i ∧ F i ≤ 1048576) (hd : ∀ i, i < n → d i ≤ 15) :
    Calls Try.prog 20 #[.slice a n cap, .slice a2 n cap2] w fun e w' => e = .returned (.int .i64 (Hul.cost F d n : Nat)) ∧ Drawn w w' := by
  have HI := Lib.hid hI
  have HD := Lib.hid hD
  have HF := Lib.hid hF
  have HD15 := Lib.hid hd
  have hnI : (n : Int) ≤ 300 := by omega
  have HN := Lib.hid hn
  clear hI hD hn hF hd
  go_enter Try.func20, Try.ntmps20
  go_wp2_with fail
  go_loopw [5, 6] (fun v5 v6 wr => ∃ i c : Nat, i ≤ n ∧ c = Hul.cost F d i ∧ v5 = .int .i64 (c : Int) ∧ v6 = .int .i64 (i : Int) ∧ Drawn w wr) (fun _ v6 _ => (n - intOf v6).toNat)
  case atStart => exact ⟨0, 0, by omega, rfl, rfl, rfl, Drawn.refl _⟩
  case round =>
    obtain ⟨i, c, hi, hc, rfl, rfl, hdr⟩ := hrel
    have HR := Lib.hid hdr; clear hdr
    have HC := Lib.hid hc
    have hcb : c ≤ 1048576 * 15 * i := by rw [hc]; exact Hul.cost_bound (fun j hj => ⟨by have := HF.out j hj; omega, HD15.out j hj⟩) i hi
    have c6 : (c : Int) ≤ 5000000000 := by omega
    clear hc hcb
    by_cases hlt : i < n
    · have hdi : decide (i < n) = true := decide_eq_true hlt
      obtain ⟨s, o, rfl, _, c1⟩ := HI.out.at_ hlt
      obtain ⟨s2, o2, rfl, _, c2⟩ := HD.out.at_ hlt
      rw [← HR.out.cell] at c1 c2
      have hFi := HF.out i hlt
      obtain ⟨x, hx⟩ : ∃ x : Nat, F i = (x : Int) := ⟨(F i).toNat, by omega⟩
      have hdi15 := HD15.out i hlt
      obtain ⟨y, hy⟩ : ∃ y, y = d i := ⟨_, rfl⟩
      obtain ⟨p, hp⟩ : ∃ p, p = x * y := ⟨_, rfl⟩
      obtain ⟨q, hq⟩ : ∃ q, q = c + p := ⟨_, rfl⟩
      have HNX : Hid (q = Hul.cost F d (i + 1)) := by
        show _ = Hul.cost F d i + (F i).toNat * d i
        rw [← HC.out, hx, Int.toNat_natCast, ← hy, ← hp, hq]
      have hpb : p ≤ 1048576 * 15 := by rw [hp]; exact Nat.mul_le_mul (by omega) (by omega)
      rw [hx] at c1
      rw [← hy] at c2
      have hpI : (x : Int) * (y : Int) = (p : Int) := by rw [hp]; simp
      have hqI : (c : Int) + (p : Int) = (q : Int) := by omega
      have wp1 : IntKind.i64.wrap (p : Int) = (p : Int) := IntWalk.i64_in _ (by omega)
      have wq1 : IntKind.i64.wrap (q : Int) = (q : Int) := IntWalk.i64_in _ (by omega)
      have hi0 : (0 : Int) ≤ (i : Int) := by omega
      have hiI : (i : Int) < (n : Int) := by omega
      clear hx hy hp hq hpb hFi hdi15
      go_wp2_with fail
      go_quiet (fail)
      go_wp2
      exact ⟨⟨i + 1, q, by omega, HNX.out, by first | rfl | go_num, by go_num, HR.out.drewN _⟩, by simp [intOf]; omega⟩
    · obtain rfl : i = n := by omega
      have hdi : decide (i < i) = false := decide_eq_false (by omega)
      go_wp2
      go_returns
      exact ⟨by rw [← HC.out]; rfl, HR.out⟩
end Go.Proofs.Ytfbcmjgiejjpmaa
