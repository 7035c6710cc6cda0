/- What lengths cost is what the wanted packages of the top level weigh. No program is named here. -/
import Derived.Test.YtfbcmjgiejjpmaaHmLenB
namespace Go.Proofs.Ytfbcmjgiejjpmaa

theorem sm_list (f : Nat → Nat) : ∀ a, ((List.range a).map f).sum = sm f a
  | 0 => rfl
  | a + 1 => by rw [List.range_succ, List.map_append, List.sum_append_nat, sm_list f a, sm]; simp
theorem take_range_map {α : Type} (f : Nat → α) {w N : Nat} (h : w ≤ N) : ((List.range N).map f).take w = (List.range w).map f := by
  rw [← List.map_take, List.take_range, Nat.min_eq_left h]
theorem range_two {α : Type} (f g : Nat → α) (m q : Nat) (b : Nat → α) (h1 : ∀ t, t < m → b t = f t) (h2 : ∀ t, t < q → b (m + t) = g t) : (List.range (m + q)).map b = (List.range m).map f ++ (List.range q).map g := by
  rw [List.range_add, List.map_append, List.map_map]
  congr 1
  · exact List.map_congr_left fun t ht => h1 t (List.mem_range.1 ht)
  · exact List.map_congr_left fun t ht => h2 t (List.mem_range.1 ht)
theorem up_pairwise {f : Nat → Int} {N : Nat} (h : Up f 0 N) : (List.range N).Pairwise fun s t => f s ≤ f t :=
  List.Pairwise.imp_of_mem (fun {s t} _ ht hst => h s t (Nat.zero_le _) (by omega) (List.mem_range.1 ht)) List.pairwise_lt_range

/-- the first w of a level, split: so many of the lightest own ones, so many of the lightest pairs -/
theorem Hul.row_sum {O : Nat → Int} {m q : Nat} {b R R' : Nat → Int × Bool} (hb : ∀ t, t < m → b t = (O t, true)) (hq : ∀ t, t < q → b (m + t) = Hul.two' R' t) (hp : Pm 0 (m + q) b R) (hu : Up (fun t => (R t).1) 0 (m + q))
    (hO : Up O 0 m) (hR : Up (fun t => (R' t).1) 0 (2 * q)) (h0 : ∀ t, t < 2 * q → 0 ≤ (R' t).1) {w : Nat} (hw : w ≤ m + q) :
    sm (fun t => (R t).1.toNat) w = sm (fun t => (O t).toNat) (Hul.al R w) + sm (fun t => (R' t).1.toNat) (2 * (w - Hul.al R w)) := by
  have hperm := hp.perm
  rw [range_two (fun t => (O t, true)) (Hul.two' R') m q b hb hq] at hperm
  have hsort : ((List.range (m + q)).map R).Pairwise fun a b => a.1 ≤ b.1 := by
    rw [List.pairwise_map]; exact up_pairwise hu
  have f1 : ((List.range m).map fun t => (O t, true)).filter (fun p => p.2) = (List.range m).map fun t => (O t, true) := by
    rw [List.filter_eq_self]; intro p hp; obtain ⟨t, _, rfl⟩ := List.mem_map.1 hp; rfl
  have f2 : ((List.range q).map (Hul.two' R')).filter (fun p => p.2) = [] := by
    rw [List.filter_eq_nil_iff]; intro p hp; obtain ⟨t, _, rfl⟩ := List.mem_map.1 hp; simp [Hul.two']
  have f3 : ((List.range m).map fun t => (O t, true)).filter (fun p => !p.2) = [] := by
    rw [List.filter_eq_nil_iff]; intro p hp; obtain ⟨t, _, rfl⟩ := List.mem_map.1 hp; simp
  have f4 : ((List.range q).map (Hul.two' R')).filter (fun p => !p.2) = (List.range q).map (Hul.two' R') := by
    rw [List.filter_eq_self]; intro p hp; obtain ⟨t, _, rfl⟩ := List.mem_map.1 hp; rfl
  have g1 : ((List.range (m + q)).map R).filter (fun p => p.2) = (List.range m).map fun t => (O t, true) := by
    have h := hperm.filter (fun p => p.2)
    rw [List.filter_append, f1, f2, List.append_nil] at h
    refine List.Perm.eq_of_pairwise (le := fun a b => a.1 ≤ b.1) (fun a c ha hc h1 h2 => ?_) (hsort.filter _) ?_ h
    · have e1 : a.2 = true := (List.mem_filter.1 ha).2
      obtain ⟨t, _, rfl⟩ := List.mem_map.1 hc
      exact Prod.ext (Int.le_antisymm h1 h2) e1
    · rw [List.pairwise_map]; exact up_pairwise hO
  have g2 : ((List.range (m + q)).map R).filter (fun p => !p.2) = (List.range q).map (Hul.two' R') := by
    have h := hperm.filter (fun p => !p.2)
    rw [List.filter_append, f3, f4, List.nil_append] at h
    refine List.Perm.eq_of_pairwise (le := fun a b => a.1 ≤ b.1) (fun a c ha hc h1 h2 => ?_) (hsort.filter _) ?_ h
    · have e1 : (!a.2) = true := (List.mem_filter.1 ha).2
      obtain ⟨t, _, rfl⟩ := List.mem_map.1 hc
      exact Prod.ext (Int.le_antisymm h1 h2) (by simpa [Hul.two'] using e1)
    · rw [List.pairwise_map]
      refine List.Pairwise.imp_of_mem (fun {s t} _ ht hst => ?_) List.pairwise_lt_range
      have ht' := List.mem_range.1 ht
      have h1 := hR (2 * s) (2 * t) (Nat.zero_le _) (by omega) (by omega)
      have h2 := hR (2 * s + 1) (2 * t + 1) (Nat.zero_le _) (by omega) (by omega)
      show (R' (2 * s)).1 + (R' (2 * s + 1)).1 ≤ (R' (2 * t)).1 + (R' (2 * t + 1)).1
      exact Int.add_le_add h1 h2
  have hpre : ((List.range w).map R) <+: ((List.range (m + q)).map R) := by
    rw [← take_range_map R hw]; exact List.take_prefix _ _
  have p1 := List.prefix_iff_eq_take.1 (hpre.filter (fun p => p.2))
  have p2 := List.prefix_iff_eq_take.1 (hpre.filter (fun p => !p.2))
  have l1 : (((List.range w).map R).filter (fun p => p.2)).length = Hul.al R w := by rw [Hul.al_count, List.countP_eq_length_filter]
  have lsum := (List.filter_append_perm (fun p : Int × Bool => p.2) ((List.range w).map R)).length_eq
  rw [List.length_append, l1, List.length_map, List.length_range] at lsum
  have l2 : (((List.range w).map R).filter (fun p => !p.2)).length = w - Hul.al R w := by omega
  have q1 := hpre.filter (fun p => p.2) |>.length_le
  have q2 := hpre.filter (fun p => !p.2) |>.length_le
  rw [l1, g1, List.length_map, List.length_range] at q1
  rw [l2, g2, List.length_map, List.length_range] at q2
  rw [l1, g1, take_range_map _ q1] at p1
  rw [l2, g2, take_range_map _ q2] at p2
  have hs := ((List.filter_append_perm (fun p : Int × Bool => p.2) ((List.range w).map R)).map fun p => p.1.toNat).sum_nat
  rw [List.map_append, List.sum_append_nat, p1, p2, List.map_map, List.map_map, List.map_map, sm_list, sm_list, sm_list] at hs
  have e2 : ∀ c, c ≤ q → sm ((fun p : Int × Bool => p.1.toNat) ∘ Hul.two' R') c = sm (fun t => (R' t).1.toNat) (2 * c) := fun c => by
    induction c with
    | zero => intro _; rfl
    | succ c ih =>
      intro hc
      rw [sm, ih (by omega), show 2 * (c + 1) = 2 * c + 1 + 1 by omega, sm, sm]
      have h1 := h0 (2 * c) (by omega)
      have h2 := h0 (2 * c + 1) (by omega)
      show _ + ((R' (2 * c)).1 + (R' (2 * c + 1)).1).toNat = _
      omega
  rw [e2 _ q2] at hs
  exact hs.symm

/-- sorted rows of the same weights are the same -/
theorem Hul.two_rows {N : Nat} {b b' R R' : Nat → Int × Bool} (hp : Pm 0 N b R) (hu : Up (fun t => (R t).1) 0 N) (hp' : Pm 0 N b' R') (hu' : Up (fun t => (R' t).1) 0 N) (e : ∀ t, t < N → (b t).1 = (b' t).1) : ∀ t, t < N → (R t).1 = (R' t).1 := by
  have h1 := hp.perm.map Prod.fst
  have h2 := hp'.perm.map Prod.fst
  rw [List.map_map, List.map_map] at h1 h2
  have eb : (List.range N).map (Prod.fst ∘ b) = (List.range N).map (Prod.fst ∘ b') := List.map_congr_left fun t ht => e t (List.mem_range.1 ht)
  rw [eb] at h1
  have h := List.Perm.eq_of_pairwise (le := fun a b : Int => a ≤ b) (fun a c _ _ x1 x2 => Int.le_antisymm x1 x2) (by rw [List.pairwise_map]; exact up_pairwise hu) (by rw [List.pairwise_map]; exact up_pairwise hu') (h1.trans h2.symm)
  intro t ht
  have := congrArg (fun l => l[t]?) h
  simpa [List.getElem?_map, List.getElem?_range ht] using this

/-- the sum of the first of a row is the row's own matter -/
theorem sm_cut (f : Nat → Nat) (a : Nat) : ∀ m, a ≤ m → sm (fun t => if t < a then f t else 0) m = sm f a
  | 0, h => by obtain rfl : a = 0 := by omega
               rfl
  | m + 1, h => by
    rw [sm]
    by_cases e : a = m + 1
    · subst e
      rw [if_pos (by omega), sm]
      congr 1
      exact sm_congr fun i hi => if_pos (by omega)
    · rw [if_neg (by omega), sm_cut f a m (by omega)]; rfl

section
variable {O : Nat → Int} {m K : Nat} {R : Nat → Nat → Int × Bool}
theorem Hul.Lev.row (h : Hul.Lev O m R K) (hO : Up O 0 m) (hO0 : ∀ t, t < m → 0 ≤ O t ∧ O t ≤ 1048576) {j w : Nat} (hj : j < K) (hw : w ≤ Hul.ln m j) :
    sm (fun t => (R j t).1.toNat) w = sm (fun t => (O t).toNat) (Hul.al (R j) w) + (match j with | 0 => 0 | j + 1 => sm (fun t => (R j t).1.toNat) (2 * (w - Hul.al (R (j + 1)) w))) := by
  cases j with
  | zero =>
    have hal := h.al_le hj hw
    rw [Hul.ln] at hal
    have := Hul.row_sum (O := O) (m := m) (q := 0) (b := Hul.base O m R 0) (R := R 0) (R' := fun _ => (0, false)) (fun t ht => by rw [Hul.base, if_pos ht]) (fun t ht => by omega) (h 0 hj).1 (h 0 hj).2 hO (fun _ _ _ _ h => by omega) (fun t ht => by omega) hw
    rw [this, show 2 * (w - Hul.al (R 0) w) = 0 by omega]
    rfl
  | succ j =>
    have hbd := h.bd hO0 j (by omega)
    refine Hul.row_sum (O := O) (m := m) (q := Hul.ln m j / 2) (b := Hul.base O m R (j + 1)) (R := R (j + 1)) (R' := R j) (fun t ht => by rw [Hul.base, if_pos ht]) (fun t ht => by rw [Hul.base, if_neg (by omega), Nat.add_sub_cancel_left]) (h (j + 1) hj).1 (h (j + 1) hj).2 hO ((h j (by omega)).2.less (Nat.le_refl _) (by omega)) (fun t ht => (hbd t (by omega)).1) hw
/-- what lengths cost -/
theorem Hul.Lev.top (h : Hul.Lev O m R K) (hO : Up O 0 m) (hO0 : ∀ t, t < m → 0 ≤ O t ∧ O t ≤ 1048576) (hm : m ≤ 2 ^ K) (hK : 1 ≤ K) : sm (fun t => (R (K - 1) t).1.toNat) (max (2 * m - 2) m) = sm (fun j => sm (fun t => (O t).toNat) (Hul.A R K m j)) K := by
  have step : ∀ d j, j + d + 1 = K → sm (fun t => (R d t).1.toNat) (Hul.W R K m j) + sm (fun i => sm (fun t => (O t).toNat) (Hul.A R K m i)) j = sm (fun i => sm (fun t => (O t).toNat) (Hul.A R K m i)) K := by
    intro d
    induction d with
    | zero =>
      intro j hj
      have hw := h.W_le hm hK j (by omega)
      rw [show K - 1 - j = 0 by omega] at hw
      rw [h.row hO hO0 (j := 0) (by omega) hw]
      obtain rfl : K = j + 1 := by omega
      rw [sm, Hul.A, show j + 1 - 1 - j = 0 by omega]
      show _ + 0 + _ = _
      omega
    | succ d ih =>
      intro j hj
      have hw := h.W_le hm hK j (by omega)
      rw [show K - 1 - j = d + 1 by omega] at hw
      rw [h.row hO hO0 (j := d + 1) (by omega) hw]
      have := ih (j + 1) (by omega)
      rw [Hul.W, sm, Hul.A, show K - 1 - j = d + 1 by omega] at this
      show _ + sm (fun t => (R d t).1.toNat) _ + _ = _
      omega
  have := step (K - 1) 0 (by omega)
  rw [Hul.W] at this
  exact this
/-- the weights of the levels are but the weights' -/
theorem Hul.Lev.same {O' : Nat → Int} {R' : Nat → Nat → Int × Bool} (h : Hul.Lev O m R K) (h' : Hul.Lev O' m R' K) (e : ∀ t, t < m → O t = O' t) : ∀ j, j < K → ∀ t, t < Hul.ln m j → (R j t).1 = (R' j t).1 := by
  intro j
  induction j with
  | zero =>
    intro hj t ht
    have key := Hul.two_rows (h 0 hj).1 (h 0 hj).2 (h' 0 hj).1 (h' 0 hj).2 (fun s hs => by
      have hs' : s < m := hs
      rw [Hul.base, Hul.base, if_pos hs', if_pos hs']; exact e s hs')
    exact key t ht
  | succ j ih =>
    intro hj t ht
    have ih := ih (by omega)
    have key := Hul.two_rows (h (j + 1) hj).1 (h (j + 1) hj).2 (h' (j + 1) hj).1 (h' (j + 1) hj).2 (fun s hs => by
      rw [Hul.base, Hul.base]
      by_cases c : s < m
      · rw [if_pos c, if_pos c]; exact e s c
      · rw [if_neg c, if_neg c]
        rw [Hul.ln] at hs
        show (R j (2 * (s - m))).1 + (R j (2 * (s - m) + 1)).1 = (R' j (2 * (s - m))).1 + (R' j (2 * (s - m) + 1)).1
        rw [ih _ (by omega), ih _ (by omega)])
    exact key t ht
end
end Go.Proofs.Ytfbcmjgiejjpmaa
