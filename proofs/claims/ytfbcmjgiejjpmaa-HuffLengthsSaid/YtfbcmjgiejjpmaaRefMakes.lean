/- The walk of the document's own Makes. -/
import Derived.Test.YtfbcmjgiejjpmaaHmCode
import Derived.Test.YtfbcmjgiejjpmaaHmLenA
namespace Go.Proofs.Ytfbcmjgiejjpmaa
open Go.RowKit Go

theorem Ref.tot_next (L : Nat → Int) (i : Nat) (h : 0 ≤ L i ∧ L i ≤ 15) : Huf.tot (Huf.cnt L (i + 1)) 16 = Huf.tot (Huf.cnt L i) 16 + if 0 < L i then 1 else 0 := by
  by_cases c : 0 < L i
  · rw [if_pos c, Huf.tot_step (Huf.cnt L i) (Huf.cnt L (i + 1)) (L i).toNat (fun k hk => by rw [Huf.cnt, if_neg (by omega)]; omega) (by rw [Huf.cnt, if_pos (by omega)]), if_pos (by omega)]
  · rw [if_neg c, Huf.tot_same (Huf.cnt L i) (Huf.cnt L (i + 1)) (fun k => by rw [Huf.cnt, if_neg (by omega)]; omega)]; omega
theorem Ref.take_next (L : Nat → Int) (i : Nat) (h : 0 ≤ L i ∧ L i ≤ 15) : Huf.take (Huf.cnt L (i + 1)) 16 = Huf.take (Huf.cnt L i) 16 + if 0 < L i then 2 ^ (15 - (L i).toNat) else 0 := by
  by_cases c : 0 < L i
  · rw [if_pos c, Huf.take_step (Huf.cnt L i) (Huf.cnt L (i + 1)) (L i).toNat (fun k hk => by rw [Huf.cnt, if_neg (by omega)]; omega) (by rw [Huf.cnt, if_pos (by omega)]), if_pos (by omega)]
  · rw [if_neg c, Huf.take_same (Huf.cnt L i) (Huf.cnt L (i + 1)) (fun k => by rw [Huf.cnt, if_neg (by omega)]; omega)]; omega
theorem Ref.cnt1_le (C : Nat → Nat) : C 1 ≤ Huf.tot C 16 := by simp [Huf.tot]; omega
theorem Ref.zero (L : Nat → Int) : Huf.tot (Huf.cnt L 0) 16 = 0 ∧ Huf.take (Huf.cnt L 0) 16 = 0 := by
  have h1 : ∀ K, Huf.tot (Huf.cnt L 0) K = 0 := fun K => by
    induction K with
    | zero => rfl
    | succ K ih => rw [Huf.tot, ih]; rfl
  have h2 : ∀ K, Huf.take (Huf.cnt L 0) K = 0 := fun K => by
    induction K with
    | zero => rfl
    | succ K ih => rw [Huf.take, ih]; simp [Huf.cnt]
  exact ⟨h1 16, h2 16⟩
/-- what Makes holds of behind i of them -/
structure Ref.MkS (L : Nat → Int) (i t k : Nat) (o : Bool) : Prop where
  et : t = Huf.tot (Huf.cnt L i) 16
  ek : k = Huf.take (Huf.cnt L i) 16
  eo : t = 1 → (o = true ↔ Huf.cnt L i 1 = 1)
  eok : ∀ j, j < i → 0 ≤ L j ∧ L j ≤ 15
theorem Ref.MkS.zero' {L : Nat → Int} {i t k : Nat} {o : Bool} (h : Ref.MkS L i t k o) (hl : L i = 0) : Ref.MkS L (i + 1) t k o := by
  have e : ∀ j, Huf.cnt L (i + 1) j = Huf.cnt L i j := fun j => by rw [Huf.cnt, if_neg (by omega)]; omega
  refine ⟨?_, ?_, fun h1 => by rw [e]; exact h.eo h1, fun j hj => ?_⟩
  · rw [Ref.tot_next L i (by omega), if_neg (by omega), ← h.et]; omega
  · rw [Ref.take_next L i (by omega), if_neg (by omega), ← h.ek]; omega
  · rcases Nat.lt_or_ge j i with c | c
    · exact h.eok j c
    · obtain rfl : j = i := by omega
      omega
theorem Ref.MkS.some {L : Nat → Int} {i t k l : Nat} {o : Bool} (h : Ref.MkS L i t k o) (hl : L i = (l : Int)) (h0 : 0 < l) (h15 : l ≤ 15) : Ref.MkS L (i + 1) (t + 1) (k + 2 ^ (15 - l)) (decide (l = 1)) := by
  refine ⟨?_, ?_, fun h1 => ?_, fun j hj => ?_⟩
  · rw [Ref.tot_next L i (by omega), if_pos (by omega), ← h.et]
  · rw [Ref.take_next L i (by omega), if_pos (by omega), ← h.ek, hl]; rfl
  · have h2 := Ref.cnt1_le (Huf.cnt L i)
    have h3 := h.et
    rw [Huf.cnt]
    by_cases c : l = 1
    · rw [if_pos (by omega)]; simp [c]; omega
    · rw [if_neg (by omega)]; simp [c]; omega
  · rcases Nat.lt_or_ge j i with c | c
    · exact h.eok j c
    · obtain rfl : j = i := by omega
      omega

set_option maxRecDepth 100000 in
set_option maxHeartbeats 4000000 in
theorem refMakes_any (a : Option Addr) (n cap : Nat) (L : Nat → Int) (w : World) (hI : Ints w a n cap L) (hn : n ≤ 1000000) :
    Calls Try.prog 19 #[.slice a n cap] w fun e w' => w' = w ∧ ((Huf.Makes L n ∧ e = .returned (.bool true)) ∨ (¬ Huf.Makes L n ∧ e = .returned (.bool false))) := by
  have HI : Hid (Ints w a n cap L) := hI
  have n6 : (n : Int) ≤ 1000000 := by omega
  clear hI hn
  go_enter Try.func19, Try.ntmps19
  by_cases h1 : 288 < n
  · have d1 : decide (288 < n) = true := decide_eq_true h1
    have HNO : Hid (¬ Huf.Makes L n) := fun h => by have := h.1.1; omega
    go_wp2
    go_returns
    exact ⟨rfl, .inr ⟨HNO.out, rfl⟩⟩
  · have d1 : decide (288 < n) = false := decide_eq_false h1
    have H1 : Hid (n ≤ 288) := by show _ ≤ _; omega
    go_wp2_with fail
    go_loopw [3, 4, 5, 6] (fun v3 v4 v5 v6 wr => ∃ (i t k : Nat) (o : Bool), i ≤ n ∧ v3 = .int .i64 (t : Int) ∧ v4 = .int .i64 (k : Int) ∧ v5 = .bool o ∧ v6 = .int .i64 (i : Int) ∧ wr = w ∧ Ref.MkS L i t k o) (fun _ _ _ v6 _ => (n - intOf v6).toNat)
    case atStart => exact ⟨0, 0, 0, false, by omega, rfl, rfl, rfl, rfl, rfl, ⟨(Ref.zero L).1.symm, (Ref.zero L).2.symm, fun h => by omega, fun j hj => by omega⟩⟩
    case round =>
      obtain ⟨i, t, k, o, hi, rfl, rfl, rfl, rfl, rfl, hs⟩ := hrel
      have HS : Hid (Ref.MkS L i t k o) := hs
      have t6 : (t : Int) ≤ 1000000 := by
        have := Huf.tot_cnt L i hs.eok
        have := hs.et
        omega
      have k6 : (k : Int) ≤ 151000000 := by
        have h1 := hs.ek
        have h2 := Huf.take_le (Huf.cnt L i) 288 (fun j => by have := Huf.cnt_le L j i; have := H1.out; omega) 16
        omega
      clear hs
      by_cases hlt : i < n
      · have hdi : decide (i < n) = true := decide_eq_true hlt
        obtain ⟨s, ofs, rfl, hsz, hc⟩ := HI.out.at_ hlt
        obtain ⟨x, hx⟩ : ∃ x, x = L i := ⟨_, rfl⟩
        rw [← hx] at hc
        have HX := Lib.hid hx; clear hx
        have hiI : (i : Int) < (n : Int) := by omega
        by_cases hx0 : x < 0
        · have e1 : decide (x < 0) = true := decide_eq_true hx0
          have HNO : Hid (¬ Huf.Makes L n) := fun h => by have := (h.1.2 i hlt).1; rw [← HX.out] at this; omega
          go_wp2
          go_returns
          exact ⟨rfl, .inr ⟨HNO.out, rfl⟩⟩
        · have e1 : decide (x < 0) = false := decide_eq_false hx0
          by_cases hx1 : 15 < x
          · have e2 : decide (15 < x) = true := decide_eq_true hx1
            have HNO : Hid (¬ Huf.Makes L n) := fun h => by have := (h.1.2 i hlt).2; rw [← HX.out] at this; omega
            go_wp2
            go_returns
            exact ⟨rfl, .inr ⟨HNO.out, rfl⟩⟩
          · have e2 : decide (15 < x) = false := decide_eq_false hx1
            obtain ⟨l, rfl⟩ : ∃ l : Nat, x = (l : Int) := ⟨x.toNat, by omega⟩
            by_cases hl0 : 0 < l
            · have e3 : decide (0 < l) = true := decide_eq_true hl0
              have hl15 : l ≤ 15 := by omega
              have HNX : Hid (Ref.MkS L (i + 1) (t + 1) (k + 2 ^ (15 - l)) (decide (l = 1))) := HS.out.some HX.out.symm hl0 hl15
              obtain ⟨sh, hsh⟩ : ∃ sh, sh = 15 - l := ⟨_, rfl⟩
              obtain ⟨v, hv⟩ : ∃ v, v = 2 ^ (15 - l) := ⟨_, rfl⟩
              rw [← hv] at HNX
              have hshI : 15 - (l : Int) = (sh : Int) := by omega
              have hvI : (2 : Int) ^ sh = (v : Int) := by rw [hv, hsh]; simp
              have v6 : (v : Int) ≤ 32768 := by
                have : 2 ^ (15 - l) ≤ 2 ^ 15 := Nat.pow_le_pow_right (by omega) (by omega)
                omega
              have sh6 : (sh : Int) ≤ 15 := by omega
              have hl0I : (0 : Int) < (l : Int) := by omega
              have HB : Hid (((l : Int) == 1) = decide (l = 1)) := by show _ = _; rw [Bool.eq_iff_iff]; simp; omega
              clear hsh hv
              go_wp2
              exact ⟨⟨i + 1, t + 1, k + v, decide (l = 1), by omega, by go_num, by go_num, by rw [← HB.out], by go_num, trivial, HNX.out⟩, by simp [intOf]; omega⟩
            · have e3 : decide (0 < l) = false := decide_eq_false hl0
              obtain rfl : l = 0 := by omega
              have HNX : Hid (Ref.MkS L (i + 1) t k o) := HS.out.zero' HX.out.symm
              go_wp2
              exact ⟨⟨i + 1, t, k, o, by omega, rfl, rfl, rfl, by go_num, trivial, HNX.out⟩, by simp [intOf]; omega⟩
      · obtain rfl : i = n := by omega
        have hdi : decide (i < i) = false := decide_eq_false (by omega)
        have HMK : Hid (Huf.Makes L i ↔ (t = 0 ∨ k = 32768 ∨ (t = 1 ∧ o = true))) := by
          have hs := HS.out
          show _ ↔ _
          unfold Huf.Makes Huf.mk Huf.ok
          rw [← hs.et, ← hs.ek]
          simp only [Bool.or_eq_true, Bool.and_eq_true, decide_eq_true_eq]
          constructor
          · rintro ⟨_, (h | h) | ⟨h, h2⟩⟩
            · exact .inl h
            · exact .inr (.inl h)
            · exact .inr (.inr ⟨h, (hs.eo h).2 h2⟩)
          · intro h
            refine ⟨⟨H1.out, hs.eok⟩, ?_⟩
            rcases h with h | h | ⟨h, h2⟩
            · exact .inl (.inl h)
            · exact .inl (.inr h)
            · exact .inr ⟨h, (hs.eo h).1 h2⟩
        clear HS
        by_cases q1 : t = 0
        · have HY : Hid (Huf.Makes L i) := HMK.out.2 (.inl q1)
          clear HMK
          subst q1
          have e1 : ((0 : Int) == 0) = true := rfl
          go_wp2
          go_returns
          exact ⟨rfl, .inl ⟨HY.out, rfl⟩⟩
        · have e1 : ((t : Int) == 0) = false := by simp; omega
          have q1I : ¬ (t : Int) = 0 := by omega
          by_cases q2 : k = 32768
          · have e2 : ((k : Int) == 32768) = true := by simp; omega
            have HY : Hid (Huf.Makes L i) := HMK.out.2 (.inr (.inl q2))
            clear HMK
            subst q2
            go_wp2
            go_returns
            exact ⟨rfl, .inl ⟨HY.out, rfl⟩⟩
          · have e2 : ((k : Int) == 32768) = false := by simp; omega
            have q2I : ¬ (k : Int) = 32768 := by omega
            by_cases q3 : t = 1
            · cases o with
              | true =>
                have HY : Hid (Huf.Makes L i) := HMK.out.2 (.inr (.inr ⟨q3, rfl⟩))
                clear HMK
                subst q3
                go_wp2
                go_returns
                exact ⟨rfl, .inl ⟨HY.out, rfl⟩⟩
              | false =>
                have HY : Hid (¬ Huf.Makes L i) := fun h => by
                  rcases HMK.out.1 h with h | h | ⟨_, h⟩
                  · exact q1 h
                  · exact q2 h
                  · cases h
                clear HMK
                subst q3
                go_wp2
                go_returns
                exact ⟨rfl, .inr ⟨HY.out, rfl⟩⟩
            · have e3 : ((t : Int) == 1) = false := by simp; omega
              have q3I : ¬ (t : Int) = 1 := by omega
              have HY : Hid (¬ Huf.Makes L i) := fun h => by
                rcases HMK.out.1 h with h | h | ⟨h, _⟩
                · exact q1 h
                · exact q2 h
                · exact q3 h
              clear HMK
              go_wp2
              go_returns
              exact ⟨rfl, .inr ⟨HY.out, rfl⟩⟩
end Go.Proofs.Ytfbcmjgiejjpmaa
