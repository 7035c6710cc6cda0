/- The cost of lengths, as a sum over the symbols; weights in another order. No program is named here. -/
import Derived.Test.YtfbcmjgiejjpmaaHulCost
namespace Go.Proofs.Ytfbcmjgiejjpmaa

theorem Hul.pos_map (F : Nat → Int) : ∀ n, (Hul.pos F n).map F = ((List.range n).map F).filter (fun x => decide (0 < x))
  | 0 => rfl
  | n + 1 => by
    rw [Hul.pos, List.map_append, Hul.pos_map F n, List.range_succ, List.map_append, List.filter_append]
    by_cases c : 0 < F n
    · rw [if_pos c]; simp [c]
    · rw [if_neg c]; simp [c]
theorem Hul.Sym.perm {F : Nat → Int} {n m : Nat} {y : Nat → Nat} (h : Hul.Sym F n m y) : ((List.range m).map fun t => F (y t)).Perm (((List.range n).map F).filter (fun x => decide (0 < x))) := by
  rw [← Hul.pos_map]
  have nd : ((List.range m).map y).Nodup := by
    rw [List.nodup_iff_pairwise_ne, List.pairwise_map]
    refine List.Pairwise.imp_of_mem (fun {s t} hs ht hst he => ?_) List.pairwise_lt_range
    have := h.inj s t (List.mem_range.1 hs) (List.mem_range.1 ht) he
    omega
  have hp : ((List.range m).map y).Perm (Hul.pos F n) := by
    refine (List.perm_ext_iff_of_nodup nd (Hul.pos_nodup F n)).2 fun i => ?_
    rw [List.mem_map, Hul.pos_mem]
    constructor
    · rintro ⟨t, ht, rfl⟩; exact h.mem t (List.mem_range.1 ht)
    · rintro ⟨h1, h2⟩
      obtain ⟨t, ht, e⟩ := h.all i h1 h2
      exact ⟨t, List.mem_range.2 ht, e⟩
  have := hp.map F
  rw [List.map_map] at this
  exact this
/-- weights of one bag, in any order, come to the same row -/
theorem Hul.Sym.same {F F' : Nat → Int} {n n' m m' : Nat} {y y' : Nat → Nat} (h : Hul.Sym F n m y) (h' : Hul.Sym F' n' m' y') (hp : ((List.range n).map F).Perm ((List.range n').map F')) : m = m' ∧ ∀ t, t < m → F (y t) = F' (y' t) := by
  have hq := (h.perm.trans (hp.filter _)).trans h'.perm.symm
  have hm : m = m' := by have := hq.length_eq; simpa using this
  subst hm
  refine ⟨rfl, fun t ht => ?_⟩
  have e := List.Perm.eq_of_pairwise (le := fun a b : Int => a ≤ b) (fun a c _ _ x1 x2 => Int.le_antisymm x1 x2)
    (by rw [List.pairwise_map]; exact up_pairwise (f := fun t => F (y t)) fun i j _ hij hj => h.up i j hij hj)
    (by rw [List.pairwise_map]; exact up_pairwise (f := fun t => F' (y' t)) fun i j _ hij hj => h'.up i j hij hj) hq
  have := congrArg (fun l => l[t]?) e
  simpa [List.getElem?_map, List.getElem?_range ht] using this
/-- what all that comes takes -/
def Hul.cost (F : Nat → Int) (len : Nat → Nat) (n : Nat) : Nat := sm (fun i => (F i).toNat * len i) n
theorem Hul.cost_made {F : Nat → Int} {n m : Nat} {most : Int} {len : Nat → Nat} {y : Nat → Nat} {R : Nat → Nat → Int × Bool} (ha : Hul.Asked F n most) (hs : Hul.Sym F n m y) (hl : Hul.Lev (fun t => F (y t)) m R most.toNat)
    (he : ∀ i, i < n → len i = Hul.len y (Hul.A R most.toNat m) most.toNat i) : Hul.cost F len n = sm (fun t => (R (most.toNat - 1) t).1.toNat) (max (2 * m - 2) m) := by
  obtain ⟨hrk, hpm⟩ := ha
  obtain ⟨K, rfl⟩ : ∃ K : Nat, most = (K : Int) := ⟨most.toNat, by have := hrk.2.1; omega⟩
  rw [show ((K : Int)).toNat = K by omega] at hl he hpm ⊢
  rw [← hs.len] at hpm
  have hK1 : 1 ≤ K := by have := hrk.2.1; omega
  have hO : Up (fun t => F (y t)) 0 m := fun i j _ hij hj => hs.up i j hij hj
  have hO0 : ∀ t, t < m → 0 ≤ F (y t) ∧ F (y t) ≤ 1048576 := fun t ht => hrk.2.2.2 _ (hs.mem t ht).1
  rw [hl.top hO hO0 hpm hK1]
  have hA : ∀ j, j < K → Hul.A R K m j ≤ m := fun j hj => hl.A_le hpm hK1 hj
  have e1 : Hul.cost F len n = sm (fun i => if 0 < F i then (F i).toNat * len i else 0) n := sm_congr fun i hi => by
    by_cases c : 0 < F i
    · rw [if_pos c]
    · rw [if_neg c, show (F i).toNat = 0 by omega, Nat.zero_mul]
  rw [e1, hs.sum fun i => (F i).toNat * len i]
  have e2 : sm (fun t => (F (y t)).toNat * len (y t)) m = sm (fun t => sm (fun j => if t < Hul.A R K m j then (F (y t)).toNat else 0) K) m := sm_congr fun t ht => by
    rw [he _ (hs.mem t ht).1, Hul.len_y hs.inj ht K hA, Nat.mul_comm, ← sm_mul]
    exact sm_congr fun j hj => by split <;> simp
  rw [e2, sm_swap]
  exact sm_congr fun j hj => sm_cut _ _ _ (hA j hj)
/-- lengths of the same weights in another order cost as much -/
theorem Hul.cost_same {F F' : Nat → Int} {n n' : Nat} {most : Int} {len len' : Nat → Nat} (ha : Hul.Asked F n most) (ha' : Hul.Asked F' n' most) (h : Hul.Made F n most len) (h' : Hul.Made F' n' most len') (hp : ((List.range n).map F).Perm ((List.range n').map F')) : Hul.cost F len n = Hul.cost F' len' n' := by
  obtain ⟨m, y, R, hs, hl, he⟩ := h
  obtain ⟨m', y', R', hs', hl', he'⟩ := h'
  obtain ⟨rfl, hO⟩ := hs.same hs' hp
  rw [Hul.cost_made ha hs hl he, Hul.cost_made ha' hs' hl' he']
  obtain ⟨hrk, hpm⟩ := ha
  have hK1 : 1 ≤ most.toNat := by have := hrk.2.1; omega
  refine sm_congr fun t ht => ?_
  have hln := Hul.ln_top (m := m) (K := most.toNat) (by rw [hs.len]; exact hpm) hK1
  rw [hl.same hl' hO (most.toNat - 1) (by omega) t (by omega)]
/-- a row turned by k -/
def trn (F : Nat → Int) (n k t : Nat) : Int := if t < n - k then F (k + t) else F (t - (n - k))
theorem trn_perm (F : Nat → Int) (n k : Nat) (hk : k ≤ n) : ((List.range n).map F).Perm ((List.range n).map (trn F n k)) := by
  have e1 : (List.range n).map F = (List.range k).map F ++ (List.range (n - k)).map (fun t => F (k + t)) := by
    have := range_two F (fun t => F (k + t)) k (n - k) F (fun _ _ => rfl) (fun _ _ => rfl)
    rwa [show k + (n - k) = n by omega] at this
  have e2 : (List.range n).map (trn F n k) = (List.range (n - k)).map (fun t => F (k + t)) ++ (List.range k).map F := by
    have := range_two (fun t => F (k + t)) F (n - k) k (trn F n k) (fun t ht => if_pos ht) (fun t ht => by rw [trn, if_neg (by omega), Nat.add_sub_cancel_left])
    rwa [show n - k + k = n by omega] at this
  rw [e1, e2]
  exact List.perm_append_comm
theorem trn_mem (F : Nat → Int) (n k t : Nat) (hk : k ≤ n) (ht : t < n) : ∃ i, i < n ∧ trn F n k t = F i := by
  unfold trn
  split
  · exact ⟨k + t, by omega, rfl⟩
  · exact ⟨t - (n - k), by omega, rfl⟩
theorem trn_asked {F : Nat → Int} {n k : Nat} {most : Int} (hk : k ≤ n) (h : Hul.Asked F n most) : Hul.Asked (trn F n k) n most := by
  obtain ⟨⟨h1, h2, h3, h4⟩, h5⟩ := h
  refine ⟨⟨h1, h2, h3, fun t ht => ?_⟩, ?_⟩
  · obtain ⟨i, hi, e⟩ := trn_mem F n k t hk ht
    rw [e]; exact h4 i hi
  · have e : ∀ G : Nat → Int, (Hul.pos G n).length = (((List.range n).map G).filter (fun x => decide (0 < x))).length := fun G => by rw [← Hul.pos_map, List.length_map]
    rw [e, ← ((trn_perm F n k hk).filter _).length_eq, ← e]; exact h5
theorem Hul.cost_bound {F : Nat → Int} {n : Nat} {len : Nat → Nat} {A M : Nat} (h : ∀ i, i < n → (F i).toNat ≤ A ∧ len i ≤ M) : ∀ i, i ≤ n → Hul.cost F len i ≤ A * M * i
  | 0, _ => Nat.zero_le _
  | i + 1, hi => by
    have h1 := Hul.cost_bound h i (by omega)
    have h2 := h i (by omega)
    have h3 : (F i).toNat * len i ≤ A * M := Nat.mul_le_mul h2.1 h2.2
    show Hul.cost F len i + (F i).toNat * len i ≤ _
    rw [Nat.mul_succ]; omega
end Go.Proofs.Ytfbcmjgiejjpmaa
