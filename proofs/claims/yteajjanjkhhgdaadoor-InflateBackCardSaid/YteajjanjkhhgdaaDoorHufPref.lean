/- What a decoder tells is what the document tells. No program is named here. -/
import Derived.Test.YteajjanjkhhgdaaDoorHufNextQ
import Derived.Test.YteajjanjkhhgdaaDoorHufApart
namespace Go.Proofs.YteajjanjkhhgdaaDoor

/-- so many bits begin a code -/
def Huf.Beg (L : Nat → Int) (n V p k : Nat) : Prop := ∃ i, i < n ∧ 0 < L i ∧ (k : Int) ≤ L i ∧ Huf.code L n i / 2 ^ ((L i).toNat - k) = Huf.vl V p k
/-- so many bits are this symbol's code -/
def Huf.Hit (L : Nat → Int) (n V p k i : Nat) : Prop := i < n ∧ 0 < k ∧ L i = (k : Int) ∧ Huf.code L n i = Huf.vl V p k
/-- what the document tells -/
inductive Huf.Tells (L : Nat → Int) (n V p m : Nat) : Int → Nat → Bool → Prop
  | found (k i : Nat) (h1 : k ≤ m) (h2 : ∀ j, j ≤ k → Huf.Beg L n V p j) (h3 : ∀ j, j < k → ∀ t, ¬ Huf.Hit L n V p j t) (h4 : Huf.Hit L n V p k i) : Tells L n V p m (i : Nat) k true
  | short (h2 : ∀ j, j ≤ m → Huf.Beg L n V p j) (h3 : ∀ j, j ≤ m → ∀ t, ¬ Huf.Hit L n V p j t) : Tells L n V p m 0 m false
  | none (k : Nat) (h1 : k ≤ m) (h2 : ∀ j, j < k → Huf.Beg L n V p j) (h3 : ∀ j, j < k → ∀ t, ¬ Huf.Hit L n V p j t) (h4 : ¬ Huf.Beg L n V p k) : Tells L n V p m 0 k false

theorem Huf.vl_div (V p : Nat) (j : Nat) : ∀ d, Huf.vl V p (j + d) / 2 ^ d = Huf.vl V p j
  | 0 => by simp
  | d + 1 => by
    have h := Huf.vl_div V p j d
    rw [← Nat.add_assoc, Huf.vl, Nat.pow_succ', ← Nat.div_div_eq_div_mul, show (2 * Huf.vl V p (j + d) + V / 2 ^ (p + (j + d)) % 2) / 2 = Huf.vl V p (j + d) by omega]
    exact h
theorem Huf.hit_same {L : Nat → Int} {n V p k i t : Nat} (h : Huf.Hit L n V p k i) (h' : Huf.Hit L n V p k t) : i = t := by
  obtain ⟨a1, a2, a3, a4⟩ := h
  obtain ⟨b1, b2, b3, b4⟩ := h'
  rcases Nat.lt_trichotomy i t with c | c | c
  · have := Huf.code_same L n i t (by omega) (by omega) c; omega
  · exact c
  · have := Huf.code_same L n t i (by omega) (by omega) c; omega
theorem Huf.hit_beg {L : Nat → Int} {n V p k i : Nat} (h : Huf.Hit L n V p k i) (j : Nat) (hj : j ≤ k) : Huf.Beg L n V p j := by
  obtain ⟨a1, a2, a3, a4⟩ := h
  refine ⟨i, a1, by omega, by omega, ?_⟩
  have := Huf.vl_div V p j (k - j)
  rw [show j + (k - j) = k by omega] at this
  rw [a4, a3]
  exact this
theorem Huf.tells_one {L : Nat → Int} {n V p m : Nat} {s t : Int} {k q : Nat} {a b : Bool} (h : Huf.Tells L n V p m s k a) (h' : Huf.Tells L n V p m t q b) : s = t ∧ k = q ∧ a = b := by
  cases h with
  | found k i h1 h2 h3 h4 =>
    cases h' with
    | found _ i' g1 g2 g3 g4 =>
      rcases Nat.lt_trichotomy k q with c | c | c
      · exact absurd h4 (g3 k c i)
      · subst c; rw [Huf.hit_same h4 g4]; exact ⟨rfl, rfl, rfl⟩
      · exact absurd g4 (h3 q c i')
    | short g2 g3 => exact absurd h4 (g3 k h1 i)
    | none _ g1 g2 g3 g4 =>
      rcases Nat.lt_or_ge k q with c | c
      · exact absurd h4 (g3 k c i)
      · exact absurd (h2 _ c) g4
  | short h2 h3 =>
    cases h' with
    | found _ i' g1 g2 g3 g4 => exact absurd g4 (h3 _ g1 _)
    | short g2 g3 => exact ⟨rfl, rfl, rfl⟩
    | none _ g1 g2 g3 g4 => exact absurd (h2 _ g1) g4
  | none k h1 h2 h3 h4 =>
    cases h' with
    | found _ i' g1 g2 g3 g4 =>
      rcases Nat.lt_or_ge q k with c | c
      · exact absurd g4 (h3 _ c _)
      · exact absurd (g2 _ c) h4
    | short g2 g3 => exact absurd (g2 _ h1) h4
    | none _ g1 g2 g3 g4 =>
      rcases Nat.lt_trichotomy k q with c | c | c
      · exact absurd (g2 _ c) h4
      · subst c; exact ⟨rfl, rfl, rfl⟩
      · exact absurd (h2 _ c) g4
theorem Huf.no_hit {L : Nat → Int} {n V p k : Nat} (h : Huf.No (Huf.cnt L n) V p k) (j : Nat) (hj : j < k) (t : Nat) : ¬ Huf.Hit L n V p j t := by
  rintro ⟨a1, a2, a3, a4⟩
  have h1 := h j a2 hj
  have h2 := Huf.code_lt L n t a1 (by omega)
  rw [a3, Int.toNat_natCast] at h2
  omega
/-- what the shorter ones take is where the next ones begin -/
theorem Huf.fst_take (C : Nat → Nat) (h0 : C 0 = 0) : ∀ k, k ≤ 15 → Huf.fst C k * 2 ^ (15 - k) = Huf.take C k
  | 0, _ => by rw [Huf.fst, Huf.take, Nat.zero_mul]
  | k + 1, hk => by
    have h := Huf.fst_take C h0 k (by omega)
    rw [Huf.fst, Huf.take, ← h, ← Nat.add_mul, show 15 - k = (15 - (k + 1)) + 1 by omega, Nat.pow_succ, Nat.mul_comm 2, Nat.mul_assoc, Nat.mul_comm 2]
theorem Huf.whole {C : Nat → Nat} (h0 : C 0 = 0) (h : Huf.take C 16 = 32768) : Huf.fst C 15 + C 15 = 32768 := by
  have h1 := Huf.fst_take C h0 15 (Nat.le_refl _)
  rw [Huf.take] at h
  simp at h h1
  omega
/-- in a whole code bits that are none begin a longer one -/
theorem Huf.long {L : Nat → Int} {n V p k : Nat} (hw : Huf.take (Huf.cnt L n) 16 = 32768) (hk : k ≤ 14) (hno : Huf.No (Huf.cnt L n) V p (k + 1)) : Huf.Beg L n V p k := by
  have h15 := Huf.whole (Huf.cnt_zero L n) hw
  have hv := Huf.vl_lt V p k
  have key : ∀ d, 1 ≤ d → k + d ≤ 15 → (Huf.fst (Huf.cnt L n) (k + d) ≤ Huf.vl V p k * 2 ^ d) → (∃ i, i < n ∧ 0 < L i ∧ (k : Int) ≤ L i ∧ Huf.code L n i / 2 ^ ((L i).toNat - k) = Huf.vl V p k) ∨ (Huf.fst (Huf.cnt L n) (k + d) + Huf.cnt L n (k + d) ≤ Huf.vl V p k * 2 ^ d) := by
    intro d hd hkd hf
    rcases Nat.lt_or_ge (Huf.vl V p k * 2 ^ d) (Huf.fst (Huf.cnt L n) (k + d) + Huf.cnt L n (k + d)) with c | c
    · left
      obtain ⟨i, h1, h2, h3, h4, _⟩ := Huf.row_of L (k := k + d) (p := Huf.vl V p k * 2 ^ d - Huf.fst (Huf.cnt L n) (k + d)) (n := n) (by omega)
      refine ⟨i, h1, by omega, by omega, ?_⟩
      have hc : Huf.code L n i = Huf.vl V p k * 2 ^ d := by
        rw [Huf.code, if_pos (by omega), h3, Int.toNat_natCast, h4]; omega
      rw [hc, h3, Int.toNat_natCast, Nat.add_sub_cancel_left]
      exact Nat.mul_div_cancel _ (Nat.two_pow_pos _)
    · exact .inr c
  have all : ∀ d, 1 ≤ d → k + d ≤ 15 → (∃ i, i < n ∧ 0 < L i ∧ (k : Int) ≤ L i ∧ Huf.code L n i / 2 ^ ((L i).toNat - k) = Huf.vl V p k) ∨ (Huf.fst (Huf.cnt L n) (k + d) + Huf.cnt L n (k + d) ≤ Huf.vl V p k * 2 ^ d) := by
    intro d hd
    induction d with
    | zero => omega
    | succ d ih =>
      intro hkd
      by_cases e : d = 0
      · subst e
        refine key 1 (by omega) hkd ?_
        have h1 : Huf.fst (Huf.cnt L n) k + Huf.cnt L n k ≤ Huf.vl V p k := by
          by_cases z : k = 0
          · subst z; rw [Huf.fst, Huf.cnt_zero]; omega
          · exact hno k (by omega) (by omega)
        rw [Huf.fst]; simp; omega
      · rcases ih (by omega) (by omega) with h | h
        · exact .inl h
        · refine key (d + 1) (by omega) hkd ?_
          rw [← Nat.add_assoc, Huf.fst, Nat.pow_succ, ← Nat.mul_assoc]
          omega
  rcases all (15 - k) (by omega) (by omega) with h | h
  · exact h
  · rw [show k + (15 - k) = 15 by omega, h15] at h
    have h2 : Huf.vl V p k * 2 ^ (15 - k) < 2 ^ k * 2 ^ (15 - k) := Nat.mul_lt_mul_of_pos_right hv (Nat.two_pow_pos _)
    rw [← Nat.pow_add, show k + (15 - k) = 15 by omega] at h2
    omega
theorem Huf.tot_up (C : Nat → Nat) {a b : Nat} (h : a ≤ b) : Huf.tot C a ≤ Huf.tot C b := by
  have := Huf.tot_mono C a (b - a)
  rwa [show a + (b - a) = b by omega] at this
theorem Huf.take_end (C : Nat → Nat) (k : Nat) : ∀ d, Huf.tot C (k + d) = Huf.tot C k → Huf.take C (k + d) = Huf.take C k
  | 0, _ => rfl
  | d + 1, h => by
    have h1 := Huf.tot_mono C k d
    rw [← Nat.add_assoc, Huf.tot] at h
    rw [← Nat.add_assoc, Huf.take, Huf.take_end C k d (by omega), show C (k + d) = 0 by omega]; omega
/-- a symbol that has a length is counted there -/
theorem Huf.in_tot {L : Nat → Int} {n i l : Nat} (hi : i < n) (hl : L i = (l : Int)) (h0 : 0 < l) : Huf.tot (Huf.cnt L n) l + 1 ≤ Huf.tot (Huf.cnt L n) (l + 1) := by
  have := Huf.cnt_lt L hi h0 hl
  rw [Huf.tot]; omega
theorem Huf.tot2 (L : Nat → Int) (n : Nat) : Huf.tot (Huf.cnt L n) 2 = Huf.cnt L n 1 ∧ Huf.tot (Huf.cnt L n) 1 = 0 := by
  have := Huf.cnt_zero L n
  constructor
  · rw [Huf.tot, Huf.tot, Huf.tot]; omega
  · rw [Huf.tot, Huf.tot]; omega
theorem Huf.No.less {C : Nat → Nat} {V p k j : Nat} (h : Huf.No C V p k) (hj : j ≤ k) : Huf.No C V p j := fun t h1 h2 => h t h1 (by omega)
/-- one code alone begins with nothing -/
theorem Huf.one_beg {L : Nat → Int} {n V p : Nat} (h : 0 < Huf.cnt L n 1) : Huf.Beg L n V p 0 := by
  obtain ⟨i, h1, h2, h3, h4, _⟩ := Huf.row_of L h
  refine ⟨i, h1, by omega, by omega, ?_⟩
  have hc : Huf.code L n i = 0 := by
    rw [Huf.code, if_pos (by omega), h3]
    show Huf.fst (Huf.cnt L n) 1 + Huf.cnt L i 1 = 0
    rw [h4, Huf.fst, Huf.fst, Huf.cnt_zero]
  rw [hc, Nat.zero_div]; rfl
theorem Huf.agree {L : Nat → Int} {n V Lb p q : Nat} {s : Int} {ok : Bool} (hm : Huf.Makes L n) (h : Huf.NextQ (Huf.cnt L n) (Huf.syms L n 16) V Lb p s ok q) : ∃ k, q = p + k ∧ Huf.Tells L n V p (8 * Lb - p) s k ok := by
  have hkind : Huf.tot (Huf.cnt L n) 16 = 0 ∨ Huf.take (Huf.cnt L n) 16 = 32768 ∨ (Huf.tot (Huf.cnt L n) 16 = 1 ∧ Huf.cnt L n 1 = 1) := by
    have := hm.2
    unfold Huf.mk at this
    simp only [Bool.or_eq_true, Bool.and_eq_true, decide_eq_true_eq] at this
    rcases this with (h | h) | h
    · exact .inl h
    · exact .inr (.inl h)
    · exact .inr (.inr h)
  have ht2 := Huf.tot2 L n
  cases h with
  | found k t h1 h2 h3 h4 h5 h6 h7 =>
    obtain ⟨i, g1, g2, g3, g4, g5⟩ := Huf.row_of L (k := k) (p := Huf.vl V p k - Huf.fst (Huf.cnt L n) k) (n := n) (by omega)
    have g6 := Huf.syms_get L n (k := k) (K := 16) (p := Huf.vl V p k - Huf.fst (Huf.cnt L n) k) (i := i) (by omega) (by omega) g5
    rw [h7] at g6
    simp only [Option.some.injEq] at g6
    subst g6
    have hit : Huf.Hit L n V p k t := ⟨g1, g2, g3, by rw [Huf.code, if_pos (by omega), g3, Int.toNat_natCast, g4]; omega⟩
    exact ⟨k, rfl, .found k t (by omega) (fun j hj => Huf.hit_beg hit j hj) (fun j hj => Huf.no_hit h4 j hj) hit⟩
  | short k h2 h3 h4 h5 =>
    refine ⟨k, rfl, ?_⟩
    rw [show 8 * Lb - p = k by omega]
    refine .short (fun j hj => ?_) (fun j hj => Huf.no_hit h4 j (by omega))
    rcases hkind with c | c | c
    · omega
    · exact Huf.long c (by omega) (h4.less (by omega))
    · have hk0 : k = 0 := by
        apply Classical.byContradiction; intro hne
        have := Huf.tot_up (Huf.cnt L n) (a := 2) (b := k + 1) (by omega)
        omega
      obtain rfl : j = 0 := by omega
      exact Huf.one_beg (by omega)
  | none k h2 h3 h4 h5 h6 =>
    refine ⟨k, rfl, ?_⟩
    rcases hkind with c | c | c
    · have hk0 : k = 0 := by omega
      subst hk0
      refine .none 0 (by omega) (fun j hj => by omega) (fun j hj => by omega) ?_
      rintro ⟨i, g1, g2, g3, g4⟩
      have hl := (hm.1.2 i g1).2
      have := Huf.in_tot (L := L) (n := n) (l := (L i).toNat) g1 (by omega) (by omega)
      have := Huf.tot_up (Huf.cnt L n) (a := (L i).toNat + 1) (b := 16) (by omega)
      omega
    · exfalso
      have hv := Huf.vl_lt V p k
      have e := Huf.take_end (Huf.cnt L n) (k + 1) (15 - k) (by rw [show k + 1 + (15 - k) = 16 by omega]; exact h5.symm)
      rw [show k + 1 + (15 - k) = 16 by omega, c] at e
      have hfk : Huf.fst (Huf.cnt L n) k + Huf.cnt L n k = 2 ^ k := by
        have h0 := Huf.fst_take (Huf.cnt L n) (Huf.cnt_zero L n) k h2
        rw [Huf.take, ← h0, ← Nat.add_mul] at e
        have hp : 2 ^ k * 2 ^ (15 - k) = 32768 := by rw [← Nat.pow_add, show k + (15 - k) = 15 by omega]
        exact (Nat.mul_right_cancel (Nat.two_pow_pos (15 - k)) (hp.trans e)).symm
      by_cases z : k = 0
      · subst z; rw [Huf.fst, Huf.cnt_zero] at hfk; omega
      · have := h4 k (by omega) (by omega); omega
    · have hk1 : k = 1 := by
        rcases h6 with z | z
        · subst z
          have h5 : Huf.tot (Huf.cnt L n) 1 = Huf.tot (Huf.cnt L n) 16 := h5
          omega
        · apply Classical.byContradiction; intro hne
          rcases Nat.lt_or_ge k 1 with y | y
          · obtain rfl : k = 0 := by omega
            have h5 : Huf.tot (Huf.cnt L n) 1 = Huf.tot (Huf.cnt L n) 16 := h5
            omega
          · have := Huf.tot_up (Huf.cnt L n) (a := 2) (b := k) (by omega)
            omega
      subst hk1
      refine .none 1 (by omega) (fun j hj => ?_) (fun j hj => Huf.no_hit h4 j (by omega)) ?_
      · obtain rfl : j = 0 := by omega
        exact Huf.one_beg (by omega)
      · rintro ⟨i, g1, g2, g3, g4⟩
        have hl := (hm.1.2 i g1).2
        have hin := Huf.in_tot (L := L) (n := n) (l := (L i).toNat) g1 (by omega) (by omega)
        have hup := Huf.tot_up (Huf.cnt L n) (a := (L i).toNat + 1) (b := 16) (by omega)
        have hl1 : L i = 1 := by
          apply Classical.byContradiction; intro hne
          have := Huf.tot_up (Huf.cnt L n) (a := 2) (b := (L i).toNat) (by omega)
          omega
        have hno := h4 1 (by omega) (by omega)
        have hlt := Huf.code_lt L n i g1 (by omega)
        rw [hl1] at g4 hlt
        simp at g4 hlt
        omega
end Go.Proofs.YteajjanjkhhgdaaDoor
