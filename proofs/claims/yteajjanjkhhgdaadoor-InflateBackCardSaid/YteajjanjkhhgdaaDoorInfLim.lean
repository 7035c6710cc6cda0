/- With another limit a stream ends as it did, or in the limit's error. No program is named here. -/
import Derived.Test.YteajjanjkhhgdaaDoorInfPgO
namespace Go.Proofs.YteajjanjkhhgdaaDoor

theorem Inf.runs_ok {α : Type} {f : Nat → α → Inf.St α} {p q : Nat} {a b : α} (h : Inf.runs f p a = .ok q b) : Inf.Run f p a (.ok q b) := by
  by_cases hx : ∃ r, Inf.Run f p a r
  · obtain ⟨r, hr⟩ := hx
    rw [hr.eq] at h
    rw [← h]; exact hr
  · unfold Inf.runs at h
    rw [dif_neg hx] at h
    cases h
/-- what another limit makes of a step -/
structure Inf.LimS (M : Nat) (s1 s2 : Inf.St (List Int)) : Prop where
  go : ∀ q U, s1 = .go q U → s2 = if U.length ≤ M then .go q U else .fin (.err 3)
  fin : ∀ q U, s1 = .fin (.ok q U) → s2 = if U.length ≤ M then .fin (.ok q U) else .fin (.err 3)
/-- texts grow -/
def Inf.Gro (f : Nat → List Int → Inf.St (List Int)) : Prop := ∀ p T q U, (f p T = .go q U ∨ f p T = .fin (.ok q U)) → T.length ≤ U.length
theorem Inf.Gro.run {f : Nat → List Int → Inf.St (List Int)} (hg : Inf.Gro f) {p : Nat} {T : List Int} {r : Inf.R (List Int)} (h : Inf.Run f p T r) : ∀ q U, r = .ok q U → T.length ≤ U.length := by
  induction h with
  | fin h => exact fun q U e => hg _ _ q U (.inr (by rw [h, e]))
  | go h _ ih => exact fun q U e => Nat.le_trans (hg _ _ _ _ (.inl h)) (ih q U e)
theorem Inf.lim_run {f1 f2 : Nat → List Int → Inf.St (List Int)} {M : Nat} (hg : Inf.Gro f1) (hs : ∀ p T, T.length ≤ M → Inf.LimS M (f1 p T) (f2 p T)) {p : Nat} {T : List Int} {r : Inf.R (List Int)} (h : Inf.Run f1 p T r) :
    T.length ≤ M → ∀ q U, r = .ok q U → Inf.runs f2 p T = if U.length ≤ M then .ok q U else .err 3 := by
  induction h with
  | fin h =>
    intro hT q U e
    have h1 := (hs _ _ hT).fin q U (by rw [h, e])
    by_cases c : U.length ≤ M
    · rw [if_pos c] at h1 ⊢; exact Inf.runs_fin h1
    · rw [if_neg c] at h1 ⊢; exact Inf.runs_fin h1
  | @go p q1 a b r h h2 ih =>
    intro hT q U e
    have h1 := (hs _ _ hT).go _ _ h
    by_cases c : b.length ≤ M
    · rw [if_pos c] at h1
      rw [Inf.runs_go h1]
      exact ih c q U e
    · rw [if_neg c] at h1
      have := hg.run h2 q U e
      rw [if_neg (by omega)]
      exact Inf.runs_fin h1
theorem Inf.cstep_gro (x y : List Nat) (V N M : Nat) : Inf.Gro (Inf.cstep x y V N M) := by
  intro p T q U h
  rcases Inf.sy_cases x V N p with e | ⟨k, i, h1, e⟩
  · rw [Inf.cstep_none e] at h; rcases h with h | h <;> cases h
  · rcases Nat.lt_trichotomy i 256 with c | c | c
    · rcases Nat.lt_or_ge T.length M with d | d
      · rw [Inf.cstep_go e c d] at h
        rcases h with h | h
        · cases h; simp
        · cases h
      · rw [Inf.cstep_long e c d] at h; rcases h with h | h <;> cases h
    · subst c
      rw [Inf.cstep_end e] at h
      rcases h with h | h
      · cases h
      · cases h; exact Nat.le_refl _
    · rw [Inf.cstep_match e c] at h
      unfold Inf.mstep Inf.mfar at h
      split at h
      · rcases h with h | h <;> cases h
      · split at h
        · rcases h with h | h <;> cases h
        · split at h
          · rcases h with h | h <;> cases h
          · split at h
            · rcases h with h | h <;> cases h
            · split at h
              · rcases h with h | h <;> cases h
              · rcases h with h | h
                · cases h; rw [Lz.rep_length]; omega
                · cases h
theorem Inf.cstep_lim (x y : List Nat) (V N M1 M : Nat) (p : Nat) (T : List Int) (hT : T.length ≤ M) : Inf.LimS M (Inf.cstep x y V N M1 p T) (Inf.cstep x y V N M p T) := by
  rcases Inf.sy_cases x V N p with e | ⟨k, i, h1, e⟩
  · rw [Inf.cstep_none e]
    exact ⟨fun q U h => (by cases h), fun q U h => (by cases h)⟩
  · rcases Nat.lt_trichotomy i 256 with c | c | c
    · rcases Nat.lt_or_ge T.length M1 with d | d
      · rw [Inf.cstep_go e c d]
        refine ⟨fun q U h => ?_, fun q U h => by cases h⟩
        cases h
        rw [List.length_append]
        rcases Nat.lt_or_ge T.length M with f | f
        · rw [if_pos (by simp; omega), Inf.cstep_go e c f]
        · rw [if_neg (by simp; omega), Inf.cstep_long e c f]
      · rw [Inf.cstep_long e c d]
        exact ⟨fun q U h => (by cases h), fun q U h => (by cases h)⟩
    · subst c
      rw [Inf.cstep_end e, Inf.cstep_end e]
      refine ⟨fun q U h => (by cases h), fun q U h => ?_⟩
      cases h
      rw [if_pos hT]
    · rw [Inf.cstep_match e c, Inf.cstep_match e c]
      unfold Inf.mstep Inf.mfar
      split
      · exact ⟨fun q U h => (by cases h), fun q U h => (by cases h)⟩
      · split
        · exact ⟨fun q U h => (by cases h), fun q U h => (by cases h)⟩
        · split
          · exact ⟨fun q U h => (by cases h), fun q U h => (by cases h)⟩
          · split
            · exact ⟨fun q U h => (by cases h), fun q U h => (by cases h)⟩
            · split
              · exact ⟨fun q U h => (by cases h), fun q U h => (by cases h)⟩
              · refine ⟨fun q U h => ?_, fun q U h => by cases h⟩
                cases h
                rw [Lz.rep_length]
                split <;> split <;> first | rfl | omega
/-- what another limit makes of an end -/
def Inf.Lim (M : Nat) (T : List Int) (r1 r2 : Inf.R (List Int)) : Prop := ∀ q U, r1 = .ok q U → T.length ≤ U.length ∧ r2 = if U.length ≤ M then .ok q U else .err 3
theorem Inf.coded_lim (x y : List Nat) (V N M1 M p : Nat) (T : List Int) (hT : T.length ≤ M) : Inf.Lim M T (Inf.coded x y V N M1 p T) (Inf.coded x y V N M p T) := by
  intro q U h
  unfold Inf.coded at h ⊢
  by_cases c : Inf.Mk x ∧ Inf.Mk y
  · rw [if_pos c] at h ⊢
    have hr := Inf.runs_ok h
    exact ⟨(Inf.cstep_gro x y V N M1).run hr q U rfl, Inf.lim_run (Inf.cstep_gro x y V N M1) (Inf.cstep_lim x y V N M1 M) hr hT q U rfl⟩
  · rw [if_neg c] at h; cases h
theorem Inf.stored_lim (V N M1 M p : Nat) (T : List Int) : Inf.Lim M T (Inf.stored V N M1 p T) (Inf.stored V N M p T) := by
  intro q U h
  unfold Inf.stored at h ⊢
  split at h
  · rename_i c
    rw [if_pos c]
    split at h
    · cases h
    · cases h
      rw [List.length_append, Inf.byts_length]
      refine ⟨by omega, ?_⟩
      split <;> split <;> first | rfl | omega
  · cases h
theorem Inf.dynamic_lim (V N M1 M p : Nat) (T : List Int) (hT : T.length ≤ M) : Inf.Lim M T (Inf.dynamic V N M1 p T) (Inf.dynamic V N M p T) := by
  intro q U h
  unfold Inf.dynamic at h ⊢
  split at h
  · cases h
  · rename_i c1
    rw [if_neg c1]
    split at h
    · cases h
    · rename_i c2
      rw [if_neg c2]
      split at h
      · cases h
      · rename_i q1 A e
        first | rw [e] | skip
        try dsimp only
        split at h
        · cases h
        · rename_i c3
          rw [if_neg c3]
          exact Inf.coded_lim _ _ V N M1 M q1 T hT q U h
theorem Inf.block_lim (V N M1 M k p : Nat) (T : List Int) (hT : T.length ≤ M) : Inf.Lim M T (Inf.block V N M1 k p T) (Inf.block V N M k p T) := by
  unfold Inf.block
  split
  · exact Inf.stored_lim V N M1 M p T
  · split
    · exact Inf.coded_lim _ _ V N M1 M p T hT
    · split
      · exact Inf.dynamic_lim V N M1 M p T hT
      · exact fun q U h => by cases h
theorem Inf.block_gro (V N M k p : Nat) (T : List Int) (q : Nat) (U : List Int) (h : Inf.block V N M k p T = .ok q U) : T.length ≤ U.length := by
  exact (Inf.block_lim V N M T.length k p T (Nat.le_refl _) q U h).1
theorem Inf.bstep_lim (V N M1 M : Nat) (p : Nat) (T : List Int) (hT : T.length ≤ M) : Inf.LimS M (Inf.bstep V N M1 p T) (Inf.bstep V N M p T) := by
  unfold Inf.bstep
  by_cases c : N < p + 3
  · rw [if_pos c, if_pos c]
    exact ⟨fun q U h => (by cases h), fun q U h => (by cases h)⟩
  · rw [if_neg c, if_neg c]
    have hb := Inf.block_lim V N M1 M (Inf.num V (p + 1) 2) (p + 3) T hT
    cases hbl : Inf.block V N M1 (Inf.num V (p + 1) 2) (p + 3) T with
    | err k => exact ⟨fun q U h => (by cases h), fun q U h => (by cases h)⟩
    | ok q0 U0 =>
      have h2 := (hb q0 U0 hbl).2
      rw [h2]
      dsimp only
      by_cases d : Inf.num V p 1 = 1
      · rw [if_pos d]
        refine ⟨fun q U h => (by cases h), fun q U h => ?_⟩
        cases h
        by_cases f : U0.length ≤ M
        · rw [if_pos f, if_pos f]; dsimp only; rw [if_pos d]
        · rw [if_neg f, if_neg f]
      · rw [if_neg d]
        refine ⟨fun q U h => ?_, fun q U h => by cases h⟩
        cases h
        by_cases f : U0.length ≤ M
        · rw [if_pos f, if_pos f]; dsimp only; rw [if_neg d]
        · rw [if_neg f, if_neg f]
theorem Inf.bstep_gro (V N M : Nat) : Inf.Gro (Inf.bstep V N M) := by
  intro p T q U h
  have hb := fun q U => Inf.block_gro V N M (Inf.num V (p + 1) 2) (p + 3) T q U
  unfold Inf.bstep at h
  split at h
  · rcases h with h | h <;> cases h
  · split at h
    · rcases h with h | h <;> cases h
    · rename_i q0 U0 e
      split at h
      · rcases h with h | h
        · cases h
        · cases h; exact hb _ _ e
      · rcases h with h | h
        · cases h; exact hb _ _ e
        · cases h
theorem Inf.inflate_lim {V N M1 q : Nat} {T : List Int} (h : Inf.inflate V N M1 = .ok q T) (M : Nat) : Inf.inflate V N M = if T.length ≤ M then .ok q T else .err 3 :=
  Inf.lim_run (Inf.bstep_gro V N M1) (Inf.bstep_lim V N M1 M) (Inf.runs_ok h) (Nat.zero_le _) q T rfl
end Go.Proofs.YteajjanjkhhgdaaDoor
