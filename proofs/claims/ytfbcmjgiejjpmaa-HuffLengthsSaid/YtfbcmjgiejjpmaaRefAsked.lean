/- The walk of the document's Asked. -/
import Derived.Test.YtfbcmjgiejjpmaaHmLenB
namespace Go.Proofs.Ytfbcmjgiejjpmaa
open Go.RowKit Go

theorem Hul.pos_more (F : Nat → Int) (i : Nat) : ∀ d, (Hul.pos F i).length ≤ (Hul.pos F (i + d)).length
  | 0 => Nat.le_refl _
  | d + 1 => by
    have := Hul.pos_more F i d
    rw [← Nat.add_assoc, Hul.pos, List.length_append]; omega

set_option maxRecDepth 100000 in
set_option maxHeartbeats 4000000 in
theorem refAsked_any (a : Option Addr) (n cap : Nat) (F : Nat → Int) (most : Int) (w : World) (hI : Ints w a n cap F) (hn : n ≤ 1000000) :
    Calls Try.prog 18 #[.slice a n cap, .int .i64 most] w fun e w' => w' = w ∧ ((Hul.Asked F n most ∧ e = .returned (.bool true)) ∨ (¬ Hul.Asked F n most ∧ e = .returned (.bool false))) := by
  have HI : Hid (Ints w a n cap F) := hI
  have n6 : (n : Int) ≤ 1000000 := by omega
  clear hI hn
  go_enter Try.func18, Try.ntmps18
  by_cases h1 : 288 < n
  · have d1 : decide (288 < n) = true := decide_eq_true h1
    have HNO : Hid (¬ Hul.Asked F n most) := fun h => by have := h.1.1; omega
    go_wp2
    go_returns
    exact ⟨rfl, .inr ⟨HNO.out, rfl⟩⟩
  · have d1 : decide (288 < n) = false := decide_eq_false h1
    have H1 : Hid (n ≤ 288) := by show _ ≤ _; omega
    by_cases h2 : most < 1
    · have d2 : decide (most < 1) = true := decide_eq_true h2
      have HNO : Hid (¬ Hul.Asked F n most) := fun h => by have := h.1.2.1; omega
      go_wp2
      go_returns
      exact ⟨rfl, .inr ⟨HNO.out, rfl⟩⟩
    · have d2 : decide (most < 1) = false := decide_eq_false h2
      by_cases h3 : 15 < most
      · have d3 : decide (15 < most) = true := decide_eq_true h3
        have HNO : Hid (¬ Hul.Asked F n most) := fun h => by have := h.1.2.2.1; omega
        go_wp2
        go_returns
        exact ⟨rfl, .inr ⟨HNO.out, rfl⟩⟩
      · have d3 : decide (15 < most) = false := decide_eq_false h3
        obtain ⟨K, rfl⟩ : ∃ K : Nat, most = (K : Int) := ⟨most.toNat, by omega⟩
        have HK : Hid (1 ≤ K ∧ K ≤ 15) := by show _ ∧ _; omega
        go_wp2_with fail
        go_loopw [5, 6] (fun v5 v6 wr => ∃ (i : Nat), i ≤ n ∧ v5 = .int .i64 ((Hul.pos F i).length : Int) ∧ v6 = .int .i64 (i : Int) ∧ wr = w ∧ ∀ j, j < i → 0 ≤ F j ∧ F j ≤ 1048576) (fun _ v6 _ => (n - intOf v6).toNat)
        case atStart => exact ⟨0, by omega, rfl, rfl, rfl, fun j hj => by omega⟩
        case round =>
          obtain ⟨i, hi, rfl, rfl, rfl, hok⟩ := hrel
          have HOK := Lib.hid hok; clear hok
          obtain ⟨c, hc⟩ : ∃ c, c = (Hul.pos F i).length := ⟨_, rfl⟩
          have hcle := Hul.pos_length F i
          rw [← hc]
          have HC := Lib.hid hc
          have c6 : (c : Int) ≤ 1000000 := by omega
          clear hc hcle
          by_cases hlt : i < n
          · have hdi : decide (i < n) = true := decide_eq_true hlt
            obtain ⟨s, ofs, rfl, hsz, hcell⟩ := HI.out.at_ hlt
            obtain ⟨x, hx⟩ : ∃ x, x = F i := ⟨_, rfl⟩
            rw [← hx] at hcell
            have HX := Lib.hid hx; clear hx
            have hiI : (i : Int) < (n : Int) := by omega
            by_cases hx0 : x < 0
            · have e1 : decide (x < 0) = true := decide_eq_true hx0
              have HNO : Hid (¬ Hul.Asked F n K) := fun h => by have := (h.1.2.2.2 i hlt).1; rw [← HX.out] at this; omega
              go_wp2
              go_returns
              exact ⟨rfl, .inr ⟨HNO.out, rfl⟩⟩
            · have e1 : decide (x < 0) = false := decide_eq_false hx0
              by_cases hx1 : 1048576 < x
              · have e2 : decide (1048576 < x) = true := decide_eq_true hx1
                have HNO : Hid (¬ Hul.Asked F n K) := fun h => by have := (h.1.2.2.2 i hlt).2; rw [← HX.out] at this; omega
                go_wp2
                go_returns
                exact ⟨rfl, .inr ⟨HNO.out, rfl⟩⟩
              · have e2 : decide (1048576 < x) = false := decide_eq_false hx1
                have HOK2 : Hid (∀ j, j < i + 1 → 0 ≤ F j ∧ F j ≤ 1048576) := fun j hj => by
                  rcases Nat.lt_or_ge j i with q | q
                  · exact HOK.out j q
                  · obtain rfl : j = i := by omega
                    rw [← HX.out]; omega
                by_cases hp : 0 < x
                · have e3 : decide (0 < x) = true := decide_eq_true hp
                  have HL : Hid ((Hul.pos F (i + 1)).length = c + 1) := by show _ = _; rw [Hul.pos, if_pos (by rw [← HX.out]; exact hp), List.length_append, HC.out]; rfl
                  go_wp2
                  exact ⟨⟨i + 1, by omega, by rw [HL.out]; go_num, by go_num, trivial, HOK2.out⟩, by simp [intOf]; omega⟩
                · have e3 : decide (0 < x) = false := decide_eq_false hp
                  have HL : Hid ((Hul.pos F (i + 1)).length = c) := by show _ = _; rw [Hul.pos, if_neg (by rw [← HX.out]; exact hp), List.append_nil, HC.out]
                  go_wp2
                  exact ⟨⟨i + 1, by omega, by rw [HL.out], by go_num, trivial, HOK2.out⟩, by simp [intOf]; omega⟩
          · obtain rfl : i = n := by omega
            have hdi : decide (i < i) = false := decide_eq_false (by omega)
            obtain ⟨v, hv⟩ : ∃ v, v = 2 ^ K := ⟨_, rfl⟩
            have hvI : (2 : Int) ^ K = (v : Int) := by rw [hv]; simp
            have HKK := HK.out
            have v6 : (v : Int) ≤ 32768 := by
              have : 2 ^ K ≤ 2 ^ 15 := Nat.pow_le_pow_right (by omega) HKK.2
              omega
            have K6 : (K : Int) ≤ 15 := by omega
            have HAS : Hid (Hul.Asked F i K ↔ c ≤ v) := by
              show _ ↔ _
              unfold Hul.Asked
              rw [← HC.out, Int.toNat_natCast, ← hv]
              exact ⟨fun h => h.2, fun h => ⟨⟨H1.out, by omega, by omega, HOK.out⟩, h⟩⟩
            clear hv HKK
            by_cases hcv : c ≤ v
            · have q : decide (c ≤ v) = true := decide_eq_true hcv
              go_wp2
              go_returns
              exact ⟨rfl, .inl ⟨HAS.out.2 hcv, by simp⟩⟩
            · have q : decide (c ≤ v) = false := decide_eq_false hcv
              go_wp2
              go_returns
              exact ⟨rfl, .inr ⟨fun h => hcv (HAS.out.1 h), by simp⟩⟩
end Go.Proofs.Ytfbcmjgiejjpmaa
