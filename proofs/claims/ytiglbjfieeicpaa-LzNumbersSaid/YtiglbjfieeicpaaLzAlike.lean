/- The walk of Parse's closure: how many bytes are alike. -/
import Derived.Test.YtiglbjfieeicpaaLzExpS
import Derived.IntWalk
namespace Go.Proofs.Ytiglbjfieeicpaa
open Go.RowKit Go

set_option maxRecDepth 100000 in
set_option maxHeartbeats 4000000 in
theorem alike_any (b : List Int) (a : Option Addr) (n cap f t g : Nat) (w : World) (hn : n = b.length) (hl : n ≤ 65536) (hB : BytesIn w (.slice a n cap) b (fun _ => True)) (hft : f < t) (htn : t ≤ n)
    (hg : w.heap[g]? = some (.cells #[.slice a n cap] 25 (0, 0))) :
    Calls Try.prog 34 #[.int .i64 (f : Nat), .int .i64 (t : Nat), .pointer (some ⟨g, 0, none⟩)] w fun e w' => e = .returned (.int .i64 (Lz.alk b f t 258 0 : Nat)) ∧ Drawn w w' := by
  have HN := Lib.hid hn; clear hn
  have HP : Hid (∀ i j, i < n → j < n → ∃ s o, a = some ⟨s, o, none⟩ ∧ w.cell? ⟨s, o + i, none⟩ = some (.int .u8 (b.getD i 0)) ∧ w.cell? ⟨s, o + j, none⟩ = some (.int .u8 (b.getD j 0))) := by
    intro i j hi hj
    obtain ⟨a', cap', e, -, -, h⟩ := hB
    cases e
    have := HN.out
    obtain ⟨s, o, e, -, hs, hc⟩ := h (by omega)
    exact ⟨s, o, e, hc i (by omega), hc j (by omega)⟩
  clear hB
  have hgc : w.cell? ⟨g, 0, none⟩ = some (.slice a n cap) := by rw [cell_of_row _ _ _ _ _ _ hg]; rfl
  clear hg
  obtain ⟨R, hR⟩ : ∃ R, R = Lz.alk b f t 258 0 := ⟨_, rfl⟩
  rw [← hR]
  have HR := Lib.hid hR; clear hR
  go_enter Try.func34, Try.ntmps34
  go_wp2_with fail
  go_loopw [6] (fun v6 wr => ∃ i : Nat, i ≤ 258 ∧ v6 = .int .i64 (i : Int) ∧ R = Lz.alk b f t (258 - i) i ∧ Drawn w wr) (fun v6 _ => (258 - intOf v6).toNat)
  case atStart => exact ⟨0, by omega, rfl, HR.out, Drawn.refl _⟩
  case round =>
    obtain ⟨i, hi, rfl, hRi, hd⟩ := hrel
    have HD := Lib.hid hd; clear hd
    have HI := Lib.hid hi
    have hgc' : wr.cell? ⟨g, 0, none⟩ = some (.slice a n cap) := (HD.out.cell _).trans hgc
    by_cases hlt : i < 258
    · have hd1 : decide ((i : Int) < 258) = true := by simp; omega
      have HST : Hid (R = if t + i < b.length ∧ b.getD (f + i) 0 = b.getD (t + i) 0 then Lz.alk b f t (258 - (i + 1)) (i + 1) else i) := by
        unfold Hid
        rw [hRi, show 258 - i = (258 - (i + 1)) + 1 from by omega, Lz.alk]
      have HLT := Lib.hid hlt
      clear hRi hi hlt
      obtain ⟨q, hq⟩ : ∃ q, q = t + i := ⟨_, rfl⟩
      obtain ⟨p, hp⟩ : ∃ p, p = f + i := ⟨_, rfl⟩
      rw [← hq, ← hp] at HST
      have hq1 : (t : Int) + (i : Int) = (q : Int) := by omega
      have hp1 : (f : Int) + (i : Int) = (p : Int) := by omega
      have hwq : IntKind.i64.wrap (q : Int) = (q : Int) := IntWalk.i64_in _ (by have := HLT.out; omega)
      have hwp : IntKind.i64.wrap (p : Int) = (p : Int) := IntWalk.i64_in _ (by have := HLT.out; omega)
      by_cases hqn : q < n
      · have hdq : decide (q < n) = true := decide_eq_true hqn
        have hpn : p < n := by omega
        obtain ⟨s, o, rfl, c1, c2⟩ := HP.out p q hpn hqn
        rw [← HD.out.cell] at c1 c2
        obtain ⟨x, hx⟩ : ∃ x, x = b.getD p 0 := ⟨_, rfl⟩
        obtain ⟨y, hy⟩ : ∃ y, y = b.getD q 0 := ⟨_, rfl⟩
        rw [← hx] at c1 HST
        rw [← hy] at c2 HST
        have hdp : decide (p < n) = true := decide_eq_true hpn
        clear hx hy hp hq
        by_cases hxy : x = y
        · have hxy' : (x == y) = true := by simpa using hxy
          have HE : Hid (R = Lz.alk b f t (258 - (i + 1)) (i + 1)) := by
            have := HST.out
            rwa [if_pos ⟨by have := HN.out; omega, hxy⟩] at this
          clear hxy HST
          go_wp2_with fail
          go_quiet (fail)
          go_wp2
          go_roundw
          case rel => exact ⟨i + 1, by have := HLT.out; omega, by congr 1, HE.out, HD.out.drewN _⟩
          case measure => have := HLT.out; simp [intOf]; omega
        · have hxy' : (x == y) = false := by simpa using hxy
          have HE : Hid (R = i) := by
            have := HST.out
            rwa [if_neg (fun h => hxy h.2)] at this
          clear hxy HST
          go_wp2_with fail
          go_quiet (fail)
          go_wp2
          go_returns
          exact ⟨by rw [HE.out]; rfl, HD.out.drewN _⟩
      · have hdq : decide (q < n) = false := decide_eq_false hqn
        have HE : Hid (R = i) := by
          have := HST.out
          rwa [if_neg (fun h => by have := HN.out; omega)] at this
        clear HST hq hp hqn
        go_wp2_with fail
        go_quiet (fail)
        go_wp2
        go_returns
        exact ⟨by rw [HE.out]; rfl, HD.out.drewN _⟩
    · obtain rfl : i = 258 := by omega
      have HE : Hid (R = 258) := hRi
      clear hRi hi hlt
      go_wp2_with fail
      go_quiet (fail)
      go_wp2
      go_returns
      exact ⟨by rw [HE.out]; rfl, HD.out.drewN _⟩
end Go.Proofs.Ytiglbjfieeicpaa
