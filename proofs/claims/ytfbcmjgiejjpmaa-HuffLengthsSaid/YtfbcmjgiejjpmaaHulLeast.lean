/- The document's least cost, without a program: its rows are the levels. -/
import Derived.Test.YtfbcmjgiejjpmaaRefLight
namespace Go.Proofs.Ytfbcmjgiejjpmaa
open Go.RowKit Go

theorem Hul.Sym.list {F : Nat → Int} {n m : Nat} {y : Nat → Nat} (h : Hul.Sym F n m y) {l : List Nat} (hp : l.Perm ((Hul.pos F n).map fun i => (F i).toNat)) (hs : l.Pairwise (· ≤ ·)) : l = (List.range m).map fun t => (F (y t)).toNat := by
  have h1 := h.perm
  rw [← Hul.pos_map] at h1
  have h2 := h1.map Int.toNat
  rw [List.map_map, List.map_map] at h2
  refine List.Perm.eq_of_pairwise (le := fun a b : Nat => a ≤ b) (fun a c _ _ x1 x2 => Nat.le_antisymm x1 x2) hs ?_ (hp.trans h2.symm)
  rw [List.pairwise_map]
  refine List.Pairwise.imp_of_mem (fun {s t} _ ht hst => ?_) List.pairwise_lt_range
  have := h.up s t (by omega) (List.mem_range.1 ht)
  omega
/-- how long the row behind d rounds is, and what it holds -/
def LL (m : Nat) : Nat → Nat
  | 0 => 0
  | d + 1 => Hul.ln m d
def SS (R : Nat → Nat → Int × Bool) : Nat → Nat → Nat
  | 0, _ => 0
  | d + 1, t => (R d t).1.toNat
/-- each two of them -/
def PP (R : Nat → Nat → Int × Bool) (d i : Nat) : Nat := SS R d (2 * i) + SS R d (2 * i + 1)
section
variable {O : Nat → Int} {m K : Nat} {R : Nat → Nat → Int × Bool}
theorem LL_ln (m d : Nat) : Hul.ln m d = m + LL m d / 2 := by cases d <;> rw [LL, Hul.ln]; rfl
theorem SS_up (h : Hul.Lev O m R K) {d : Nat} (hd : d ≤ K) : ∀ s t, s ≤ t → t < LL m d → SS R d s ≤ SS R d t := by
  intro s t hst ht
  cases d with
  | zero => exact Nat.le_refl _
  | succ d =>
    have := (h d (by omega)).2 s t (Nat.zero_le _) hst ht
    show (R d s).1.toNat ≤ (R d t).1.toNat
    have h2 : (R d s).1 ≤ (R d t).1 := this
    omega
theorem PP_up (h : Hul.Lev O m R K) {d : Nat} (hd : d ≤ K) : ∀ s t, s ≤ t → t < LL m d / 2 → PP R d s ≤ PP R d t := fun s t hst ht =>
  Nat.add_le_add (SS_up h hd (2 * s) (2 * t) (by omega) (by omega)) (SS_up h hd (2 * s + 1) (2 * t + 1) (by omega) (by omega))
theorem SS_bd (h : Hul.Lev O m R K) (hO : ∀ t, t < m → 0 ≤ O t ∧ O t ≤ 1048576) (hK : K ≤ 15) {d : Nat} (hd : d ≤ K) : ∀ t, t < LL m d → SS R d t ≤ 34359738368 := by
  intro t ht
  cases d with
  | zero => exact Nat.zero_le _
  | succ d =>
    have h1 := h.bd hO d (by omega) t ht
    have h2 : (2 : Int) ^ d ≤ 2 ^ 15 := by
      have : 2 ^ d ≤ 2 ^ 15 := Nat.pow_le_pow_right (by omega) (by omega)
      exact_mod_cast this
    show (R d t).1.toNat ≤ _
    omega
theorem Mrg.level (h : Hul.Lev O m R K) (hO : ∀ t, t < m → 0 ≤ O t ∧ O t ≤ 1048576) {d : Nat} (hd : d < K) {X : List Nat} (hX : Mrg (fun t => (O t).toNat) (PP R d) m (LL m d / 2) m (LL m d / 2) X) : X = (List.range (Hul.ln m d)).map (SS R (d + 1)) := by
  have hp := ((h d hd).1.perm.map fun p => p.1.toNat)
  rw [List.map_map, List.map_map] at hp
  have hb : (List.range (Hul.ln m d)).map ((fun p : Int × Bool => p.1.toNat) ∘ Hul.base O m R d) = (List.range m).map (fun t => (O t).toNat) ++ (List.range (LL m d / 2)).map (PP R d) := by
    rw [LL_ln]
    refine range_two _ _ _ _ _ (fun t ht => ?_) (fun t ht => ?_)
    · show (Hul.base O m R d t).1.toNat = _
      cases d <;> rw [Hul.base, if_pos ht]
    · show (Hul.base O m R d (m + t)).1.toNat = _
      cases d with
      | zero => rw [LL] at ht; omega
      | succ d =>
        rw [Hul.base, if_neg (by omega), Nat.add_sub_cancel_left]
        have hbd := h.bd hO d (by omega)
        rw [LL] at ht
        have b1 := hbd (2 * t) (by omega)
        have b2 := hbd (2 * t + 1) (by omega)
        show ((R d (2 * t)).1 + (R d (2 * t + 1)).1).toNat = (R d (2 * t)).1.toNat + (R d (2 * t + 1)).1.toNat
        omega
  rw [hb] at hp
  refine List.Perm.eq_of_pairwise (le := fun a b : Nat => a ≤ b) (fun a c _ _ x1 x2 => Nat.le_antisymm x1 x2) hX.up ?_ (hX.perm.trans hp.symm)
  rw [List.pairwise_map]
  refine List.Pairwise.imp_of_mem (fun {s t} _ ht hst => ?_) List.pairwise_lt_range
  exact SS_up h (d := d + 1) hd s t (by omega) (List.mem_range.1 ht)
/-- few symbols -/
theorem Hul.Lev.few (h : Hul.Lev O m R K) (hO : Up O 0 m) (hO0 : ∀ t, t < m → 0 ≤ O t ∧ O t ≤ 1048576) (hK : 1 ≤ K) (hm : m < 2) : sm (fun t => (R (K - 1) t).1.toNat) (max (2 * m - 2) m) = sm (fun t => (O t).toNat) m := by
  have hln : ∀ j, Hul.ln m j = m := fun j => by
    induction j with
    | zero => rfl
    | succ j ih => rw [Hul.ln, ih]; omega
  obtain ⟨j, hj⟩ : ∃ j, K - 1 = j := ⟨_, rfl⟩
  have h2 := h.al (j := j) (by omega)
  have r := h.row hO hO0 (j := j) (w := m) (by omega) (by rw [hln]; exact Nat.le_refl _)
  rw [hln] at h2
  rw [hj, show max (2 * m - 2) m = m by omega, r]
  cases j with
  | zero => show sm _ (Hul.al (R 0) m) + 0 = _; rw [h2, Nat.add_zero]
  | succ j => show sm _ (Hul.al (R (j + 1)) m) + sm _ (2 * (m - Hul.al (R (j + 1)) m)) = _; rw [h2, Nat.sub_self]; rfl
theorem sm_bound {f : Nat → Nat} {M : Nat} : ∀ n, (∀ t, t < n → f t ≤ M) → sm f n ≤ M * n
  | 0, _ => Nat.zero_le _
  | n + 1, h => by
    have h1 := sm_bound n (fun t ht => h t (by omega))
    have h2 := h n (by omega)
    rw [sm, Nat.mul_succ]; omega
end
end Go.Proofs.Ytfbcmjgiejjpmaa
