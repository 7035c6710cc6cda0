/- A writer's bytes are read; what was written is told symbol by symbol. -/
import Derived.Test.YtfbcmjgiejjpmaaHufBackS
namespace Go.Proofs.Ytfbcmjgiejjpmaa
open Go.RowKit Go

theorem Huf.take_up (C : Nat → Nat) (k : Nat) : ∀ d, Huf.take C k ≤ Huf.take C (k + d)
  | 0 => Nat.le_refl _
  | d + 1 => Nat.le_trans (Huf.take_up C k d) (Nat.le_add_right _ _)
/-- a code has no more bits than its length -/
theorem Huf.code_small {L : Nat → Int} {n i : Nat} (hm : Huf.Makes L n) (hi : i < n) (h : 0 < L i) : Huf.code L n i < 2 ^ (L i).toNat := by
  have hl := (hm.1.2 i hi).2
  have hlt := Huf.code_lt L n i hi h
  have hc0 := Huf.cnt_zero L n
  obtain ⟨k, hk⟩ : ∃ k, k = (L i).toNat := ⟨_, rfl⟩
  rw [← hk] at hlt ⊢
  have hin := Huf.in_tot (L := L) (n := n) (i := i) (l := k) hi (by omega) (by omega)
  have hup := Huf.tot_up (Huf.cnt L n) (a := k + 1) (b := 16) (by omega)
  have ht2 := Huf.tot2 L n
  have := hm.2
  unfold Huf.mk at this
  simp only [Bool.or_eq_true, Bool.and_eq_true, decide_eq_true_eq] at this
  rcases this with (c | c) | c
  · omega
  · have h1 := Huf.fst_take (Huf.cnt L n) hc0 k (by omega)
    have h2 := Huf.take_up (Huf.cnt L n) (k + 1) (15 - k)
    rw [show k + 1 + (15 - k) = 16 by omega, c, Huf.take, ← h1, ← Nat.add_mul] at h2
    have hp : 2 ^ k * 2 ^ (15 - k) = 32768 := by rw [← Nat.pow_add, show k + (15 - k) = 15 by omega]
    rw [← hp] at h2
    exact Nat.lt_of_lt_of_le hlt (Nat.le_of_mul_le_mul_right h2 (Nat.two_pow_pos _))
  · have hk1 : k = 1 := by
      apply Classical.byContradiction; intro hne
      have := Huf.tot_up (Huf.cnt L n) (a := 2) (b := k) (by omega)
      omega
    subst hk1
    have e : Huf.fst (Huf.cnt L n) 1 = 0 := by rw [Huf.fst, Huf.fst, hc0]
    rw [e] at hlt
    simp; omega

/-- the symbol whose code stands next is told -/
theorem Huf.next_is {L : Nat → Int} {n V Lb p q k i : Nat} {s : Int} {ok : Bool} (hm : Huf.Makes L n) (hi : i < n) (hk : 0 < k) (hl : L i = (k : Int)) (hv : Huf.vl V p k = Huf.code L n i) (hb : p + k ≤ 8 * Lb) (h : Huf.NextQ (Huf.cnt L n) (Huf.syms L n 16) V Lb p s ok q) : s = (i : Nat) ∧ ok = true ∧ q = p + k := by
  obtain ⟨k', hq, ht⟩ := Huf.agree hm h
  have hit : Huf.Hit L n V p k i := ⟨hi, hk, hl, hv.symm⟩
  have ht' : Huf.Tells L n V p (8 * Lb - p) (i : Nat) k true := .found k i (by omega) (fun j hj => Huf.hit_beg hit j hj) (fun j hj t => by
    refine Huf.no_hit (k := k) (fun j h1 h2 => ?_) j hj t
    rw [← Huf.vl_div V p j (k - j), show j + (k - j) = k by omega, hv]
    obtain ⟨e, he⟩ : ∃ e, k = j + (e + 1) := ⟨k - j - 1, by omega⟩
    have h3 := Huf.fst_far (Huf.cnt L n) j e
    have h4 : Huf.fst (Huf.cnt L n) k ≤ Huf.code L n i := by rw [Huf.code, if_pos (by omega), hl, Int.toNat_natCast]; omega
    rw [Nat.le_div_iff_mul_le (Nat.two_pow_pos _), Nat.mul_comm, show k - j = e + 1 by omega]
    rw [← he] at h3
    omega) hit
  obtain ⟨r1, r2, r3⟩ := Huf.tells_one ht ht'
  exact ⟨r1, r3, by omega⟩

/-- what a writer's Bytes, and a reader of them, return -/
theorem Bkw.turn {w0 w : World} {g N V : Nat} {vp : Value} {l : List Nat} {D : Nat} {C : Nat → Nat} {ls : List Nat} (h : Bkw w0 w g N V vp l) (hn : N ≤ 1000000) (hd : DcR w0 D C ls) :
    Calls Try.prog 29 #[.pointer (some ⟨g, 0, none⟩)] w fun e w' => ∃ G0, e = .returned (.slice (some ⟨G0, 0, none⟩) ((N + 7) / 8) ((N + 7) / 8)) ∧
      Hid (Calls Try.prog 22 #[.slice (some ⟨G0, 0, none⟩) ((N + 7) / 8) ((N + 7) / 8)] w' fun e w'' => ∃ gr, e = .returned (.pointer (some ⟨gr, 0, none⟩)) ∧ Hid (∃ G, Rds w0 w'' gr D 0 ((N + 7) / 8) V G C ls w0.heap.size vp l)) := by
  obtain ⟨v, hv⟩ := h.wr
  refine (wbytes_any g N V v w hv (by omega)).mono ?_
  rintro e w' ⟨he, h1, h2⟩
  refine ⟨_, he, ?_⟩
  have hb : Byt w' w.heap.size V ((N + 7) / 8) := h1
  refine (rnew_any (Bit.by V ((N + 7) / 8)) _ _ ((N + 7) / 8) w' (by rw [Bit.by_length]) ((hb.bytes (by omega)).mono (Nat.le_refl _) (fun _ _ _ => trivial) (fun _ _ _ _ => rfl)) (Bit.by_bd _ _) (by omega)).mono ?_
  rintro e w'' ⟨he2, h3, h4⟩
  have hV8 : V < 2 ^ (8 * ((N + 7) / 8)) := Nat.lt_of_lt_of_le h.lt (Nat.pow_le_pow_right (by omega) (by omega))
  rw [Bit.val_by _ _ hV8] at h3
  have c1 : Below w0.heap.size w0 w' := h.bel.trans (h2.mono h.bel.size)
  have c2 := c1.trans (h4.mono c1.size)
  exact ⟨_, he2, _, c2, by have := c1.size; omega, h3, hd.later c2, own_later (own_later h.own h2) h4⟩
end Go.Proofs.Ytfbcmjgiejjpmaa
