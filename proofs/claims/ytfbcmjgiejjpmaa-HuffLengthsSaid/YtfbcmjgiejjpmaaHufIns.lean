/- Sorting by insertion; merging; of naturals in lists. -/
import Derived.Test.YtfbcmjgiejjpmaaHufReadS
import Derived.Test.YtfbcmjgiejjpmaaHulRot
namespace Go.Proofs.Ytfbcmjgiejjpmaa
open Go.RowKit Go

theorem own_set {w : World} {base g c n j x : Nat} {l : List Nat} (h : w.ownsRow base 3 1 (.slice (some ⟨g, 0, none⟩) n c) n (nv l)) (_hj : j < n) :
    (w.setCell ⟨g, j, none⟩ (.int .i64 (x : Nat))).ownsRow base 3 1 (.slice (some ⟨g, 0, none⟩) n c) n (nv (l.set j x)) := by
  rcases h.2 with ⟨h0, _⟩ | ⟨g', c', cur, h0, hb, hg, h3, h4, h5, h6⟩
  · cases h0
  · simp only [Value.slice.injEq, Option.some.injEq, Addr.mk.injEq, and_true, true_and] at h0
    obtain ⟨rfl, rfl⟩ := h0
    have hl := h.1
    refine ⟨by rw [nv_length, List.length_set]; rw [nv_length] at hl; exact hl, .inr ⟨g, c, _, rfl, hb, heap_setCell_same _ _ j _ _ _ hg, h3, h4, by simpa using h5, ?_⟩⟩
    rw [Nat.mul_one] at h6 ⊢
    have e : nv (l.set j x) = (nv l).set j (.int .i64 (x : Nat)) := by simp [nv, List.map_set]
    rw [e, ← h6]
    simp [List.take_set]
theorem Grw.set {w0 w : World} {g c n j x : Nat} {l : List Nat} (h : Grw w0 w l (.slice (some ⟨g, 0, none⟩) n c)) (hn : l.length = n) (hj : j < n) : Grw w0 (w.setCell ⟨g, j, none⟩ (.int .i64 (x : Nat))) (l.set j x) (.slice (some ⟨g, 0, none⟩) n c) := by
  have ho := h.own
  rw [hn] at ho
  refine ⟨below_of_gb h.bel (gb_setCell (gb_refl _ _) _) (ho.lt g rfl).1 h.bel.size, ?_⟩
  rw [List.length_set, hn]
  exact own_set ho hj
theorem Grw.row {w0 w : World} {n : Nat} {a : Option Addr} {c : Nat} {l : List Nat} (h : Grw w0 w l (.slice a n c)) (hn : l.length = n) (h0 : 0 < n) : ∃ g, a = some ⟨g, 0, none⟩ ∧ (∀ j x, l[j]? = some x → w.cell? ⟨g, j, none⟩ = some (.int .i64 (x : Nat))) ∧ ∀ j, w.frozen? ⟨g, j, none⟩ = false := by
  have ho := h.own
  rw [hn] at ho
  obtain ⟨g, c', e, _, _⟩ := ho.form h0
  simp only [Value.slice.injEq, true_and] at e
  obtain ⟨rfl, rfl⟩ := e
  refine ⟨g, rfl, fun j x hj => ?_, fun j => ho.frozenAt _⟩
  rw [ho.cellAt j (by have := (List.getElem?_eq_some_iff.1 hj).1; omega)]
  exact nv_get l j x hj

/-- a row into which a number is let in at k -/
structure Ins (l0 lc : List Nat) (k x : Nat) : Prop where
  len : lc.length = l0.length + 1
  le : k ≤ l0.length
  lo : ∀ t, t < k → lc[t]? = l0[t]?
  hi : ∀ t, k ≤ t → t < l0.length → lc[t + 1]? = l0[t]?
  up : ∀ t y, k ≤ t → l0[t]? = some y → x < y
theorem Ins.start (l0 : List Nat) (x : Nat) : Ins l0 (l0 ++ [0]) l0.length x :=
  ⟨by simp, Nat.le_refl _, fun t ht => List.getElem?_append_left ht, fun t h1 h2 => by omega, fun t y h1 h2 => by have := (List.getElem?_eq_some_iff.1 h2).1; omega⟩
theorem Ins.step {l0 lc : List Nat} {k x y : Nat} (h : Ins l0 lc (k + 1) x) (hy : l0[k]? = some y) (hx : x < y) : Ins l0 (lc.set (k + 1) y) k x := by
  have hl := h.len
  have hle := h.le
  refine ⟨by rw [List.length_set, hl], by omega, fun t ht => ?_, fun t h1 h2 => ?_, fun t z h1 h2 => ?_⟩
  · rw [List.getElem?_set_ne (by omega)]; exact h.lo t (by omega)
  · by_cases e : t = k
    · subst e; rw [List.getElem?_set_self (by omega), hy]
    · rw [List.getElem?_set_ne (by omega)]; exact h.hi t (by omega) h2
  · by_cases e : t = k
    · subst e; rw [hy] at h2; simp only [Option.some.injEq] at h2; omega
    · exact h.up t z (by omega) h2
theorem Ins.done {l0 lc : List Nat} {k x : Nat} (h : Ins l0 lc k x) (hs : l0.Pairwise (· ≤ ·)) (hk : ∀ y, 0 < k → l0[k - 1]? = some y → y ≤ x) : (lc.set k x).Perm (x :: l0) ∧ (lc.set k x).Pairwise (· ≤ ·) := by
  have hl := h.len
  have hle := h.le
  have e : lc.set k x = l0.take k ++ x :: l0.drop k := by
    refine List.ext_getElem? fun t => ?_
    rcases Nat.lt_trichotomy t k with c | c | c
    · rw [List.getElem?_set_ne (by omega), h.lo t c, List.getElem?_append_left (by rw [List.length_take]; omega), List.getElem?_take_of_lt c]
    · subst c; rw [List.getElem?_set_self (by omega), List.getElem?_append_right (by rw [List.length_take]; omega), List.length_take, Nat.min_eq_left hle, Nat.sub_self]; rfl
    · obtain ⟨s, rfl⟩ : ∃ s, t = s + 1 := ⟨t - 1, by omega⟩
      rw [List.getElem?_set_ne (by omega), List.getElem?_append_right (by rw [List.length_take]; omega), List.length_take, Nat.min_eq_left hle, show s + 1 - k = (s - k) + 1 by omega, List.getElem?_cons_succ, List.getElem?_drop, show k + (s - k) = s by omega]
      rcases Nat.lt_or_ge s l0.length with q | q
      · exact h.hi s (by omega) q
      · rw [List.getElem?_eq_none (by omega), List.getElem?_eq_none (by omega)]
  rw [e]
  refine ⟨?_, ?_⟩
  · refine List.perm_middle.trans (List.Perm.cons x ?_)
    rw [List.take_append_drop]
  · rw [List.pairwise_append]
    have htd := hs
    rw [← List.take_append_drop k l0, List.pairwise_append] at htd
    have hbig : ∀ y ∈ l0.drop k, x ≤ y := fun y hy => by
      obtain ⟨i, hi⟩ := List.mem_iff_getElem?.1 hy
      rw [List.getElem?_drop] at hi
      exact Nat.le_of_lt (h.up (k + i) y (by omega) hi)
    have hsml : ∀ y ∈ l0.take k, y ≤ x := fun y hy => by
      obtain ⟨i, hi⟩ := List.mem_iff_getElem?.1 hy
      have hik : i < k := by
        have := (List.getElem?_eq_some_iff.1 hi).1
        rw [List.length_take] at this; omega
      rw [List.getElem?_take_of_lt hik] at hi
      obtain ⟨z, hz⟩ : ∃ z, l0[k - 1]? = some z := ⟨_, List.getElem?_eq_getElem (by omega)⟩
      have h1 := hk z (by omega) hz
      rcases Nat.lt_or_ge i (k - 1) with q | q
      · have := List.pairwise_iff_getElem.1 hs i (k - 1) (by omega) (by omega) q
        rw [List.getElem?_eq_getElem (by omega)] at hi hz
        simp only [Option.some.injEq] at hi hz
        omega
      · obtain rfl : i = k - 1 := by omega
        rw [hz] at hi; simp only [Option.some.injEq] at hi; omega
    refine ⟨htd.1, List.pairwise_cons.2 ⟨hbig, htd.2.1⟩, fun y hy z hz => ?_⟩
    rcases List.mem_cons.1 hz with rfl | q
    · exact hsml y hy
    · exact Nat.le_trans (hsml y hy) (hbig z q)

/-- two sorted rows, merged so far -/
structure Mrg (o p : Nat → Nat) (m q a b : Nat) (X : List Nat) : Prop where
  len : X.length = a + b
  perm : X.Perm ((List.range a).map o ++ (List.range b).map p)
  up : X.Pairwise (· ≤ ·)
  lo : ∀ x ∈ X, ∀ t, a ≤ t → t < m → x ≤ o t
  lp : ∀ x ∈ X, ∀ t, b ≤ t → t < q → x ≤ p t
theorem Mrg.start (o p : Nat → Nat) (m q : Nat) : Mrg o p m q 0 0 [] :=
  ⟨rfl, List.Perm.refl _, List.Pairwise.nil, (fun x hx => by cases hx), (fun x hx => by cases hx)⟩
theorem Mrg.left {o p : Nat → Nat} {m q a b : Nat} {X : List Nat} (h : Mrg o p m q a b X) (ho : ∀ s t, s ≤ t → t < m → o s ≤ o t) (hp : ∀ s t, s ≤ t → t < q → p s ≤ p t) (ha : a < m) (hc : b < q → o a ≤ p b) : Mrg o p m q (a + 1) b (X ++ [o a]) := by
  refine ⟨by simp [h.len]; omega, ?_, ?_, fun x hx t h1 h2 => ?_, fun x hx t h1 h2 => ?_⟩
  · rw [List.range_succ, List.map_append, List.append_assoc]
    have := h.perm.append_right [o a]
    rw [List.append_assoc] at this
    refine this.trans (List.Perm.append_left _ ?_)
    exact List.perm_append_comm
  · rw [List.pairwise_append]
    refine ⟨h.up, List.pairwise_singleton _ _, fun x hx y hy => ?_⟩
    simp only [List.mem_singleton] at hy
    subst hy; exact h.lo x hx a (Nat.le_refl _) ha
  · rcases List.mem_append.1 hx with q1 | q1
    · exact h.lo x q1 t (by omega) h2
    · simp only [List.mem_singleton] at q1; subst q1; exact ho a t (by omega) h2
  · rcases List.mem_append.1 hx with q1 | q1
    · exact h.lp x q1 t h1 h2
    · simp only [List.mem_singleton] at q1; subst q1; exact Nat.le_trans (hc (by omega)) (hp b t h1 h2)
theorem Mrg.right {o p : Nat → Nat} {m q a b : Nat} {X : List Nat} (h : Mrg o p m q a b X) (ho : ∀ s t, s ≤ t → t < m → o s ≤ o t) (hp : ∀ s t, s ≤ t → t < q → p s ≤ p t) (hb : b < q) (hc : a < m → p b ≤ o a) : Mrg o p m q a (b + 1) (X ++ [p b]) := by
  refine ⟨by simp [h.len]; omega, ?_, ?_, fun x hx t h1 h2 => ?_, fun x hx t h1 h2 => ?_⟩
  · rw [List.range_succ (n := b), List.map_append, ← List.append_assoc]
    exact h.perm.append_right [p b]
  · rw [List.pairwise_append]
    refine ⟨h.up, List.pairwise_singleton _ _, fun x hx y hy => ?_⟩
    simp only [List.mem_singleton] at hy
    subst hy; exact h.lp x hx b (Nat.le_refl _) hb
  · rcases List.mem_append.1 hx with q1 | q1
    · exact h.lo x q1 t h1 h2
    · simp only [List.mem_singleton] at q1; subst q1; exact Nat.le_trans (hc (by omega)) (ho a t h1 h2)
  · rcases List.mem_append.1 hx with q1 | q1
    · exact h.lp x q1 t (by omega) h2
    · simp only [List.mem_singleton] at q1; subst q1; exact hp b t (by omega) h2
end Go.Proofs.Ytfbcmjgiejjpmaa
