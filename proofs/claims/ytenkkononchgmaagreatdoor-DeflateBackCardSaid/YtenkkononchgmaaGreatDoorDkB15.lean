/- Laid together: HmSortA. -/
import Derived.Test.YtenkkononchgmaaGreatDoorDkB01
import Derived.Shelf.SlSortCmp.QuietGrown

namespace Go.Proofs.YtenkkononchgmaaGreatDoor

def Pm {α : Type} (a b : Nat) (d d' : Nat → α) : Prop :=
 ∃ σ τ : Nat → Nat, (∀ t, σ (τ t) = t) ∧ (∀ t, τ (σ t) = t) ∧ (∀ t, (t < a ∨ b ≤ t) → σ t = t) ∧ ∀ t, d' t = d (σ t)
theorem Pm.refl {α : Type} (a b : Nat) (d : Nat → α) : Pm a b d d := ⟨id, id, fun _ => rfl, fun _ => rfl, fun _ _ => rfl, fun _ => rfl⟩
theorem Pm.trans {α : Type} {a b : Nat} {d d' d'' : Nat → α} (h : Pm a b d d') (k : Pm a b d' d'') : Pm a b d d'' := by
 obtain ⟨s, t, h1, h2, h3, h4⟩ := h
 obtain ⟨u, v, k1, k2, k3, k4⟩ := k
 exact ⟨fun x => s (u x), fun x => v (t x), fun x => by simp only [k1, h1], fun x => by simp only [k2, h2], fun x hx => by simp only [k3 x hx, h3 x hx], fun x => by rw [k4, h4]⟩
theorem Pm.wide {α : Type} {a b a' b' : Nat} {d d' : Nat → α} (h : Pm a b d d') (ha : a' ≤ a) (hb : b ≤ b') : Pm a' b' d d' := by
 obtain ⟨s, t, h1, h2, h3, h4⟩ := h
 exact ⟨s, t, h1, h2, fun x hx => h3 x (by omega), h4⟩
theorem Pm.out {α : Type} {a b : Nat} {d d' : Nat → α} (h : Pm a b d d') (t : Nat) (ht : t < a ∨ b ≤ t) : d' t = d t := by
 obtain ⟨s, _, _, _, h3, h4⟩ := h
 rw [h4, h3 t ht]
theorem Pm.inn {α : Type} {a b : Nat} {d d' : Nat → α} (h : Pm a b d d') (t : Nat) (h1 : a ≤ t) (h2 : t < b) : ∃ s, a ≤ s ∧ s < b ∧ d' t = d s := by
 obtain ⟨s, u, k1, k2, k3, k4⟩ := h
 refine ⟨s t, ?_, ?_, k4 t⟩
 · apply Classical.byContradiction; intro hc
   have := k3 (s t) (Or.inl (by omega))
   have h5 : u (s (s t)) = u (s t) := by rw [this]
   rw [k2, k2] at h5; omega
 · apply Classical.byContradiction; intro hc
   have := k3 (s t) (Or.inr (by omega))
   have h5 : u (s (s t)) = u (s t) := by rw [this]
   rw [k2, k2] at h5; omega
theorem Pm.perm {α : Type} {n : Nat} {d d' : Nat → α} (h : Pm 0 n d d') : ((List.range n).map d').Perm ((List.range n).map d) := by
 have hi := h
 obtain ⟨s, t, h1, h2, h3, h4⟩ := h
 have e : (List.range n).map d' = ((List.range n).map s).map d := by rw [List.map_map]; exact List.map_congr_left fun x _ => h4 x
 rw [e]
 refine List.Perm.map d ?_
 have low : ∀ x, x < n → s x < n := fun x hx => by
   apply Classical.byContradiction; intro hc
   have := h3 (s x) (Or.inr (by omega))
   have h5 : t (s (s x)) = t (s x) := by rw [this]
   rw [h2, h2] at h5; omega
 have tlow : ∀ x, x < n → t x < n := fun x hx => by
   apply Classical.byContradiction; intro hc
   have := h3 (t x) (Or.inr (by omega))
   rw [h1] at this; omega
 have nd : ((List.range n).map s).Nodup := by
   rw [List.nodup_iff_pairwise_ne, List.pairwise_map]
   exact List.Pairwise.imp (fun {x y} hxy he => by
     have : t (s x) = t (s y) := by rw [he]
     rw [h2, h2] at this; omega) List.pairwise_lt_range
 have nr : (List.range n).Nodup := List.nodup_range
 refine (List.perm_ext_iff_of_nodup nd nr).2 fun x => ?_
 rw [List.mem_map, List.mem_range]
 constructor
 · rintro ⟨y, hy, rfl⟩
   exact low y (List.mem_range.1 hy)
 · intro hx
   exact ⟨t x, List.mem_range.2 (tlow x hx), h1 x⟩

def swf {α : Type} (d : Nat → α) (i j : Nat) : Nat → α := fun t => if t = i then d j else if t = j then d i else d t
theorem swf_pm {α : Type} (d : Nat → α) {a b i j : Nat} (hi : a ≤ i ∧ i < b) (hj : a ≤ j ∧ j < b) : Pm a b d (swf d i j) := by
 refine ⟨fun t => if t = i then j else if t = j then i else t, fun t => if t = i then j else if t = j then i else t, ?_, ?_, ?_, ?_⟩
 · intro t; simp only; split <;> (try split) <;> (try split) <;> (try split) <;> omega
 · intro t; simp only; split <;> (try split) <;> (try split) <;> (try split) <;> omega
 · intro t ht; simp only; split <;> (try split) <;> omega
 · intro t; unfold swf; simp only; split
   · rfl
   · split <;> rfl

def swr {α : Type} (d : Nat → α) (x y l : Nat) : Nat → α := fun t => if x ≤ t ∧ t < x + l then d (t - x + y) else if y ≤ t ∧ t < y + l then d (t - y + x) else d t
theorem swr_zero {α : Type} (d : Nat → α) (x y : Nat) : swr d x y 0 = d := by
 funext t; unfold swr; rw [if_neg (by omega), if_neg (by omega)]
theorem swr_succ {α : Type} (d : Nat → α) (x y l : Nat) (h : x + l < y) : swf (swr d x y l) (x + l) (y + l) = swr d x y (l + 1) := by
 funext t
 show (if t = x + l then (if x ≤ y + l ∧ y + l < x + l then d (y + l - x + y) else if y ≤ y + l ∧ y + l < y + l then d (y + l - y + x) else d (y + l)) else if t = y + l then (if x ≤ x + l ∧ x + l < x + l then d (x + l - x + y) else if y ≤ x + l ∧ x + l < y + l then d (x + l - y + x) else d (x + l)) else (if x ≤ t ∧ t < x + l then d (t - x + y) else if y ≤ t ∧ t < y + l then d (t - y + x) else d t)) = (if x ≤ t ∧ t < x + (l + 1) then d (t - x + y) else if y ≤ t ∧ t < y + (l + 1) then d (t - y + x) else d t)
 repeat' split
 all_goals first | rfl | (exfalso; omega) | (congr 1; omega)
def rot {α : Type} (d : Nat → α) (a m b : Nat) : Nat → α := fun t => if a ≤ t ∧ t < a + (b - m) then d (t - a + m) else if a + (b - m) ≤ t ∧ t < b then d (t - (b - m)) else d t
theorem rot_pm {α : Type} (d : Nat → α) {a m b : Nat} (h1 : a ≤ m) (h2 : m ≤ b) : Pm a b d (rot d a m b) := by
 refine ⟨fun t => if a ≤ t ∧ t < a + (b - m) then t - a + m else if a + (b - m) ≤ t ∧ t < b then t - (b - m) else t, fun t => if a ≤ t ∧ t < m then t + (b - m) else if m ≤ t ∧ t < b then t - (m - a) else t, ?_, ?_, ?_, ?_⟩
 · intro t; simp only; split <;> (try split) <;> (try split) <;> (try split) <;> omega
 · intro t; simp only; split <;> (try split) <;> (try split) <;> (try split) <;> omega
 · intro t ht; simp only; split <;> (try split) <;> omega
 · intro t; unfold rot; simp only; split
   · rfl
   · split <;> rfl
theorem rot_start {α : Type} (d : Nat → α) (m b : Nat) (h : m ≤ b) : rot d m m b = d := by
 funext t; unfold rot; split
 · congr 1; omega
 · rw [if_neg (by omega)]
theorem rot_end {α : Type} (d : Nat → α) (a m : Nat) : rot d a m m = d := by
 funext t; unfold rot; repeat' split
 all_goals first | rfl | (exfalso; omega) | (congr 1; omega)
theorem rot_left {α : Type} (d : Nat → α) (m i j : Nat) (hi : i ≤ m) (h : j < i) : rot (swr d (m - i) m j) (m - (i - j)) m (m + j) = rot d (m - i) m (m + j) := by
 funext t; unfold rot swr; repeat' split
 all_goals first | rfl | (exfalso; omega) | (congr 1; omega)
theorem rot_right {α : Type} (d : Nat → α) (m i j : Nat) (hi : i ≤ m) (h : i < j) : rot (swr d (m - i) (m + j - i) i) (m - i) m (m + j - i) = rot d (m - i) m (m + j) := by
 funext t; unfold rot swr; repeat' split
 all_goals first | rfl | (exfalso; omega) | (congr 1; omega)
theorem rot_same {α : Type} (d : Nat → α) (m i : Nat) (hi : i ≤ m) : swr d (m - i) m i = rot d (m - i) m (m + i) := by
 funext t; unfold rot swr; repeat' split
 all_goals first | rfl | (exfalso; omega) | (congr 1; omega)

def shr {α : Type} (d : Nat → α) (i k : Nat) : Nat → α := fun t => if t = i then d k else if i < t ∧ t ≤ k then d (t - 1) else d t
theorem shr_zero {α : Type} (d : Nat → α) (k : Nat) : shr d k k = d := by
 funext t; unfold shr; repeat' split
 all_goals first | rfl | (exfalso; omega) | (congr 1; omega)
theorem shr_succ {α : Type} (d : Nat → α) (i k : Nat) (h : i + 1 ≤ k) : swf (shr d (i + 1) k) (i + 1) i = shr d i k := by
 funext t; unfold swf shr; repeat' split
 all_goals first | rfl | (exfalso; omega) | (congr 1; omega)
theorem shr_pm {α : Type} (d : Nat → α) {a b i k : Nat} (ha : a ≤ i) (hk : i ≤ k) (hb : k < b) : Pm a b d (shr d i k) := by
 obtain ⟨n, rfl⟩ : ∃ n, k = i + n := ⟨k - i, by omega⟩
 induction n generalizing i with
 | zero => rw [Nat.add_zero, shr_zero]; exact Pm.refl _ _ _
 | succ n ih =>
   rw [← shr_succ d i _ (by omega)]
   have := ih (i := i + 1) (by omega) (by omega) (by omega)
   rw [show i + 1 + n = i + (n + 1) by omega] at this
   exact this.trans (swf_pm _ ⟨by omega, by omega⟩ ⟨by omega, by omega⟩)
def shl {α : Type} (d : Nat → α) (a k : Nat) : Nat → α := fun t => if t = k then d a else if a ≤ t ∧ t < k then d (t + 1) else d t
theorem shl_zero {α : Type} (d : Nat → α) (a : Nat) : shl d a a = d := by
 funext t; unfold shl; repeat' split
 all_goals first | rfl | (exfalso; omega) | (congr 1; omega)
theorem shl_succ {α : Type} (d : Nat → α) (a k : Nat) (h : a ≤ k) : swf (shl d a k) k (k + 1) = shl d a (k + 1) := by
 funext t; unfold swf shl; repeat' split
 all_goals first | rfl | (exfalso; omega) | (congr 1; omega)
theorem shl_pm {α : Type} (d : Nat → α) {a b i k : Nat} (ha : a ≤ i) (hk : i ≤ k) (hb : k < b) : Pm a b d (shl d i k) := by
 obtain ⟨n, rfl⟩ : ∃ n, k = i + n := ⟨k - i, by omega⟩
 induction n with
 | zero => rw [Nat.add_zero, shl_zero]; exact Pm.refl _ _ _
 | succ n ih =>
   rw [← Nat.add_assoc, ← shl_succ d i _ (by omega)]
   exact (ih (by omega) (by omega)).trans (swf_pm _ ⟨by omega, by omega⟩ ⟨by omega, by omega⟩)

def Up (f : Nat → Int) (a b : Nat) : Prop := ∀ i j, a ≤ i → i ≤ j → j < b → f i ≤ f j
theorem Up.one (f : Nat → Int) (a : Nat) : Up f a (a + 1) := fun i j x1 x2 x3 => by
 obtain rfl : i = j := by omega
 exact Int.le_refl _
theorem Up.less {f : Nat → Int} {a b a' b' : Nat} (h : Up f a b) (ha : a ≤ a') (hb : b' ≤ b) : Up f a' b' := fun i j hi hj hk => h i j (by omega) hj (by omega)
theorem Up.keep {α : Type} {key : α → Int} {d d' : Nat → α} {x y a b : Nat} (h : Up (fun t => key (d t)) a b) (hp : Pm x y d d') (ho : b ≤ x ∨ y ≤ a) : Up (fun t => key (d' t)) a b := fun i j hi hj hk => by
 have := h i j hi hj hk
 simp only at this ⊢
 rw [hp.out i (by omega), hp.out j (by omega)]; exact this
theorem Up.ins {α : Type} (key : α → Int) (d : Nat → α) {a i k : Nat} (h : Up (fun t => key (d t)) a k) (hi : a ≤ i) (hik : i ≤ k) (hl : ∀ t, a ≤ t → t < i → key (d t) ≤ key (d k)) (hr : ∀ t, i ≤ t → t < k → key (d k) ≤ key (d t)) :
   Up (fun t => key (shr d i k t)) a (k + 1) := by
 have at_ : ∀ t, a ≤ t → t < k + 1 → (t < i ∧ shr d i k t = d t) ∨ (t = i ∧ shr d i k t = d k) ∨ (i < t ∧ shr d i k t = d (t - 1)) := fun t h1 h2 => by
   unfold shr
   by_cases e : t = i
   · right; left; exact ⟨e, if_pos e⟩
   · rw [if_neg e]
     by_cases e2 : i < t
     · right; right; exact ⟨e2, if_pos (by omega)⟩
     · left; exact ⟨by omega, if_neg (by omega)⟩
 intro s t h1 h2 h3
 show key (shr d i k s) ≤ key (shr d i k t)
 rcases at_ s h1 (by omega) with ⟨q1, e1⟩ | ⟨q1, e1⟩ | ⟨q1, e1⟩ <;> rcases at_ t (by omega) h3 with ⟨q2, e2⟩ | ⟨q2, e2⟩ | ⟨q2, e2⟩ <;> rw [e1, e2]
 · exact h s t h1 h2 (by omega)
 · exact hl s h1 q1
 · exact h s (t - 1) h1 (by omega) (by omega)
 · omega
 · exact Int.le_refl _
 · exact hr (t - 1) (by omega) (by omega)
 · omega
 · omega
 · exact h (s - 1) (t - 1) (by omega) (by omega) (by omega)
theorem Up.insl {α : Type} (key : α → Int) (d : Nat → α) {a k b : Nat} (h : Up (fun t => key (d t)) (a + 1) b) (hk : a ≤ k) (hb : k < b) (hl : ∀ t, a < t → t ≤ k → key (d t) ≤ key (d a)) (hr : ∀ t, k < t → t < b → key (d a) ≤ key (d t)) :
   Up (fun t => key (shl d a k t)) a b := by
 have at_ : ∀ t, a ≤ t → t < b → (t < k ∧ shl d a k t = d (t + 1)) ∨ (t = k ∧ shl d a k t = d a) ∨ (k < t ∧ shl d a k t = d t) := fun t h1 h2 => by
   unfold shl
   by_cases e : t = k
   · right; left; exact ⟨e, if_pos e⟩
   · rw [if_neg e]
     by_cases e2 : t < k
     · left; exact ⟨e2, if_pos (by omega)⟩
     · right; right; exact ⟨by omega, if_neg (by omega)⟩
 intro s t h1 h2 h3
 show key (shl d a k s) ≤ key (shl d a k t)
 rcases at_ s h1 (by omega) with ⟨q1, e1⟩ | ⟨q1, e1⟩ | ⟨q1, e1⟩ <;> rcases at_ t (by omega) h3 with ⟨q2, e2⟩ | ⟨q2, e2⟩ | ⟨q2, e2⟩ <;> rw [e1, e2]
 · exact h (s + 1) (t + 1) (by omega) (by omega) (by omega)
 · exact hl (s + 1) (by omega) (by omega)
 · exact h (s + 1) t (by omega) (by omega) h3
 · omega
 · exact Int.le_refl _
 · exact hr t q2 h3
 · omega
 · omega
 · exact h s t (by omega) h2 h3

theorem sym_half {α : Type} (key : α → Int) (d : Nat → α) (a m b mid s : Nat) (h1 : a < m) (h2 : m < b) (hmid : mid = (a + b) / 2) (hl : Up (fun t => key (d t)) a m) (hr : Up (fun t => key (d t)) m b)
   (hs : (mid < m ∧ mid + m - b ≤ s ∧ s ≤ mid) ∨ (m ≤ mid ∧ a ≤ s ∧ s ≤ m))
   (hlo : ∀ c, (if mid < m then mid + m - b else a) ≤ c → c < s → key (d c) ≤ key (d (mid + m - 1 - c)))
   (hhi : ∀ c, s ≤ c → c < (if mid < m then mid else m) → key (d (mid + m - 1 - c)) < key (d c)) :
   a ≤ s ∧ s ≤ m ∧ s ≤ mid ∧ m ≤ mid + m - s ∧ mid ≤ mid + m - s ∧ mid + m - s ≤ b ∧
   Up (fun t => key (rot d s m (mid + m - s) t)) a s ∧ Up (fun t => key (rot d s m (mid + m - s) t)) s mid ∧
   Up (fun t => key (rot d s m (mid + m - s) t)) mid (mid + m - s) ∧ Up (fun t => key (rot d s m (mid + m - s) t)) (mid + m - s) b ∧
   (∀ x y, a ≤ x → x < mid → mid ≤ y → y < b → key (rot d s m (mid + m - s) x) ≤ key (rot d s m (mid + m - s) y)) := by
 have q1 : a ≤ s := by omega
 have q2 : s ≤ m := by omega
 have q3 : s ≤ mid := by omega
 have q4 : mid + m - s ≤ b := by omega
 have at_ : ∀ t, a ≤ t → t < b → (t < s ∧ rot d s m (mid + m - s) t = d t) ∨ (s ≤ t ∧ t < mid ∧ rot d s m (mid + m - s) t = d (t - s + m)) ∨ (mid ≤ t ∧ t < mid + m - s ∧ rot d s m (mid + m - s) t = d (t - (mid - s))) ∨ (mid + m - s ≤ t ∧ rot d s m (mid + m - s) t = d t) := fun t k1 k2 => by
   unfold rot
   by_cases c1 : s ≤ t ∧ t < s + (mid + m - s - m)
   · right; left; exact ⟨c1.1, by omega, if_pos c1⟩
   · rw [if_neg c1]
     by_cases c2 : s + (mid + m - s - m) ≤ t ∧ t < mid + m - s
     · right; right; left; refine ⟨by omega, c2.2, ?_⟩
       rw [if_pos c2]; congr 1; omega
     · rw [if_neg c2]
       by_cases c3 : t < s
       · exact .inl ⟨c3, rfl⟩
       · right; right; right; exact ⟨by omega, rfl⟩
 refine ⟨q1, q2, q3, by omega, by omega, q4, ?_, ?_, ?_, ?_, ?_⟩
 · intro i j x1 x2 x3
   show key (rot d s m (mid + m - s) i) ≤ key (rot d s m (mid + m - s) j)
   rcases at_ i x1 (by omega) with ⟨_, e1⟩ | ⟨_, _, e1⟩ | ⟨_, _, e1⟩ | ⟨_, e1⟩ <;> rcases at_ j (by omega) (by omega) with ⟨_, e2⟩ | ⟨_, _, e2⟩ | ⟨_, _, e2⟩ | ⟨_, e2⟩ <;> rw [e1, e2] <;> first | omega | exact hl i j x1 x2 (by omega)
 · intro i j x1 x2 x3
   show key (rot d s m (mid + m - s) i) ≤ key (rot d s m (mid + m - s) j)
   rcases at_ i (by omega) (by omega) with ⟨_, e1⟩ | ⟨_, _, e1⟩ | ⟨_, _, e1⟩ | ⟨_, e1⟩ <;> rcases at_ j (by omega) (by omega) with ⟨_, e2⟩ | ⟨_, _, e2⟩ | ⟨_, _, e2⟩ | ⟨_, e2⟩ <;> rw [e1, e2] <;> first | omega | exact hr _ _ (by omega) (by omega) (by omega)
 · intro i j x1 x2 x3
   show key (rot d s m (mid + m - s) i) ≤ key (rot d s m (mid + m - s) j)
   rcases at_ i (by omega) (by omega) with ⟨_, e1⟩ | ⟨_, _, e1⟩ | ⟨_, _, e1⟩ | ⟨_, e1⟩ <;> rcases at_ j (by omega) (by omega) with ⟨_, e2⟩ | ⟨_, _, e2⟩ | ⟨_, _, e2⟩ | ⟨_, e2⟩ <;> rw [e1, e2] <;> first | omega | exact hl _ _ (by omega) (by omega) (by omega)
 · intro i j x1 x2 x3
   show key (rot d s m (mid + m - s) i) ≤ key (rot d s m (mid + m - s) j)
   rcases at_ i (by omega) (by omega) with ⟨_, e1⟩ | ⟨_, _, e1⟩ | ⟨_, _, e1⟩ | ⟨_, e1⟩ <;> rcases at_ j (by omega) (by omega) with ⟨_, e2⟩ | ⟨_, _, e2⟩ | ⟨_, _, e2⟩ | ⟨_, e2⟩ <;> rw [e1, e2] <;> first | omega | exact hr _ _ (by omega) (by omega) (by omega)
 · intro x y x1 x2 x3 x4
   -- the left half's last ones against the right half's first ones
   have A : s < m → mid + m - s < b → a < s → key (d (s - 1)) ≤ key (d (mid + m - s)) := fun _ k2 k3 => by
     have := hlo (s - 1) (by split <;> omega) (by omega)
     rw [show mid + m - 1 - (s - 1) = mid + m - s by omega] at this; exact this
   have A' : mid + m - s < b → a < s → key (d (s - 1)) ≤ key (d (mid + m - s)) := fun k2 k3 => by
     have := hlo (s - 1) (by split <;> omega) (by omega)
     rw [show mid + m - 1 - (s - 1) = mid + m - s by omega] at this; exact this
   have B : s < mid → s < m → key (d (mid + m - s - 1)) ≤ key (d s) := fun k1 k2 => by
     have := hhi s (Nat.le_refl _) (by split <;> omega)
     rw [show mid + m - 1 - s = mid + m - s - 1 by omega] at this; omega
   rcases at_ x x1 (by omega) with ⟨p1, e1⟩ | ⟨p1, p1', e1⟩ | ⟨p1, p1', e1⟩ | ⟨p1, e1⟩ <;> rcases at_ y (by omega) x4 with ⟨p2, e2⟩ | ⟨p2, p2', e2⟩ | ⟨p2, p2', e2⟩ | ⟨p2, e2⟩ <;> rw [e1, e2]
   · omega
   · omega
   · exact hl _ _ x1 (by omega) (by omega)
   · have u1 := hl x (s - 1) x1 (by omega) (by omega)
     have u2 := A' (by omega) (by omega)
     have u3 := hr (mid + m - s) y (by omega) p2 x4
     simp only at u1 u3; omega
   · omega
   · omega
   · have u1 := hr (x - s + m) (mid + m - s - 1) (by omega) (by omega) (by omega)
     have u2 := B (by omega) (by omega)
     have u3 := hl s (y - (mid - s)) q1 (by omega) (by omega)
     simp only at u1 u3; omega
   · exact hr _ _ (by omega) (by omega) x4
   all_goals omega
theorem Up.join {α : Type} {key : α → Int} {d d1 d2 : Nat → α} {a mid b : Nat} (hx : ∀ x y, a ≤ x → x < mid → mid ≤ y → y < b → key (d x) ≤ key (d y)) (p1 : Pm a mid d d1) (p2 : Pm mid b d1 d2)
   (u1 : Up (fun t => key (d1 t)) a mid) (u2 : Up (fun t => key (d2 t)) mid b) : Up (fun t => key (d2 t)) a b := by
 intro i j h1 h2 h3
 show key (d2 i) ≤ key (d2 j)
 by_cases c1 : j < mid
 · rw [p2.out i (by omega), p2.out j (by omega)]; exact u1 i j h1 h2 c1
 · by_cases c2 : i < mid
   · obtain ⟨x, y1, y2, y3⟩ := p1.inn i h1 c2
     obtain ⟨z, z1, z2, z3⟩ := p2.inn j (by omega) h3
     rw [p2.out i (by omega), y3, z3, p1.out z (by omega)]
     exact hx x z y1 y2 z1 z2
   · exact u2 i j (by omega) h2 h3

def Bl (f : Nat → Int) (bs a n : Nat) : Prop := ∀ q i j, a + q * bs ≤ i → i ≤ j → j < a + q * bs + bs → j < n → f i ≤ f j
def Bd (f : Nat → Int) (bs a : Nat) : Prop := ∀ q, q * bs + bs ≤ a → Up f (q * bs) (q * bs + bs)
theorem Bd.add {f : Nat → Int} {bs k : Nat} (hb : 0 < bs) (h : Bd f bs (k * bs)) (hu : Up f (k * bs) (k * bs + bs)) : Bd f bs ((k + 1) * bs) := by
 intro q hq
 rw [Nat.add_mul, Nat.one_mul] at hq
 have hle : q * bs ≤ k * bs := by omega
 have : q ≤ k := Nat.le_of_mul_le_mul_right hle hb
 rcases Nat.lt_or_eq_of_le this with hlt | rfl
 · refine h q ?_
   have := Nat.mul_le_mul_right bs (show q + 1 ≤ k from hlt)
   rw [Nat.add_mul, Nat.one_mul] at this; exact this
 · exact hu
theorem Bd.whole {f : Nat → Int} {bs k n : Nat} (h : Bd f bs (k * bs)) (hu : Up f (k * bs) n) : Bl f bs 0 n := by
 intro q i j h1 h2 h3 h4
 rw [Nat.zero_add] at h1 h3
 by_cases c : q * bs + bs ≤ k * bs
 · exact h q c i j h1 h2 h3
 · have : k ≤ q := by
     apply Classical.byContradiction; intro hc
     have := Nat.mul_le_mul_right bs (show q + 1 ≤ k by omega)
     rw [Nat.add_mul, Nat.one_mul] at this; omega
   have := Nat.mul_le_mul_right bs this
   exact hu i j (by omega) h2 h4
theorem Bl.first {f : Nat → Int} {bs a n : Nat} (h : Bl f bs a n) : Up f a (min (a + bs) n) := fun i j h1 h2 h3 => h 0 i j (by omega) h2 (by omega) (by omega)
theorem Bl.second {f : Nat → Int} {bs a n : Nat} (h : Bl f bs a n) : Up f (a + bs) (min (a + bs + bs) n) := fun i j h1 h2 h3 => h 1 i j (by omega) h2 (by omega) (by omega)
theorem Bl.next {f : Nat → Int} {bs a n : Nat} (h : Bl f bs a n) : Bl f bs (a + 2 * bs) n := fun q i j h1 h2 h3 h4 => by
 refine h (q + 2) i j ?_ h2 ?_ h4 <;> rw [Nat.add_mul] <;> omega
theorem Bl.keep {α : Type} {key : α → Int} {d d' : Nat → α} {bs a n x y : Nat} (h : Bl (fun t => key (d t)) bs a n) (hp : Pm x y d d') (ho : y ≤ a) : Bl (fun t => key (d' t)) bs a n := fun q i j h1 h2 h3 h4 => by
 have := h q i j h1 h2 h3 h4
 simp only at this ⊢
 have : a ≤ i := Nat.le_trans (Nat.le_add_right _ _) h1
 rw [hp.out i (by omega), hp.out j (by omega)]; assumption
theorem Bd.keep {α : Type} {key : α → Int} {d d' : Nat → α} {bs a x y : Nat} (h : Bd (fun t => key (d t)) bs a) (hp : Pm x y d d') (ho : a ≤ x) : Bd (fun t => key (d' t)) bs a := fun q hq => (h q hq).keep hp (by omega)
end Go.Proofs.YtenkkononchgmaaGreatDoor

/- A row of numbers that is sorted in place: its cells, an exchange, what a comparison leaves. -/
namespace Go.Proofs.YtenkkononchgmaaGreatDoor
open Go.RowKit Go Go.Sort

theorem wn {x : Int} {n : Nat} (h : x = (n : Int)) (hn : n ≤ 1000000000000) : IntKind.i64.wrap x = (n : Int) := by rw [h, IntKind.wrap_i64]; omega
def cmpv (x y : Int) : Int := if x < y then -1 else if y < x then 1 else 0
theorem cmpv_lt (x y : Int) : (cmpv x y < 0) = (x < y) := by unfold cmpv; split <;> (try split) <;> simp <;> omega

structure RI (ok : Int → Prop) (w0 w : World) (g n : Nat) (d : Nat → Int) : Prop where
 gr : w0.grownBy w (some g)
 lt : g < w.heap.size
 cl : ∀ i, i < n → w.cell? ⟨g, i, none⟩ = some (.int .i64 (d i)) ∧ w.frozen? ⟨g, i, none⟩ = false
 ok : ∀ i, i < n → ok (d i)
theorem gb_grow {a w : World} {r : Option Nat} (h : a.grownBy w r) (os : Array Obj) : a.grownBy (grow w os) r :=
 ⟨h.os, h.tape, h.output, by rw [size_grow]; have := h.size; omega, fun k hk hr => by
   have h1 := h.block k hk hr
   have h2 := h.size
   rw [← h1]
   show (w.heap ++ os)[k]? = w.heap[k]?
   rw [Array.getElem?_append_left (by omega)]⟩
theorem RI.grown {ok : Int → Prop} {w0 w : World} {g n : Nat} {d : Nat → Int} (h : RI ok w0 w g n d) (m : Nat) (os : Array Obj) : RI ok w0 (grow (w.drewN m) os) g n d :=
 ⟨gb_grow (gb_drewN h.gr m) os, by rw [size_grow]; have := h.lt; show g < w.heap.size + _; omega, fun i hi => ⟨by rw [cell?_grow _ _ _ (by exact h.lt)]; exact (h.cl i hi).1, by rw [frozen?_grow _ _ _ (by exact h.lt)]; exact (h.cl i hi).2⟩, h.ok⟩
theorem RI.drew {ok : Int → Prop} {w0 w : World} {g n : Nat} {d : Nat → Int} (h : RI ok w0 w g n d) : RI ok w0 w.drew g n d := ⟨gb_drew h.gr, h.lt, h.cl, h.ok⟩
theorem RI.c2 {ok : Int → Prop} {w0 w : World} {g n : Nat} {d : Nat → Int} (h : RI ok w0 w g n d) {i j : Nat} (hi : i < n) (hj : j < n) (v : Value) : ∃ u, (w.setCell ⟨g, i, none⟩ v).cell? ⟨g, j, none⟩ = some u := by
 by_cases e : i = j
 · subst e; exact ⟨v, World.cell?_setCell_same _ _ _ (h.cl i hi).1⟩
 · exact ⟨_, (World.cell?_setCell_other _ _ _ _ (by intro e'; simp only [Addr.mk.injEq] at e'; omega)).trans (h.cl j hj).1⟩
theorem RI.swapped {ok : Int → Prop} {w0 w : World} {g n : Nat} {d : Nat → Int} (h : RI ok w0 w g n d) {i j : Nat} (hi : i < n) (hj : j < n) :
   RI ok w0 ((w.setCell ⟨g, i, none⟩ (.int .i64 (d j))).setCell ⟨g, j, none⟩ (.int .i64 (d i))).drew g n (swf d i j) := by
 refine ⟨gb_drew (gb_setCell (gb_setCell h.gr _) _), by simpa using h.lt, fun t ht => ⟨?_, ?_⟩, fun t ht => ?_⟩
 · show ((w.setCell ⟨g, i, none⟩ (.int .i64 (d j))).setCell ⟨g, j, none⟩ (.int .i64 (d i))).cell? ⟨g, t, none⟩ = some (.int .i64 (swf d i j t))
   unfold swf
   by_cases e2 : t = j
   · subst e2
     obtain ⟨u, hu⟩ := h.c2 hi hj (.int .i64 (d t))
     rw [World.cell?_setCell_same _ _ _ hu]
     by_cases e1 : t = i
     · rw [if_pos e1, e1]
     · rw [if_neg e1, if_pos rfl]
   · rw [World.cell?_setCell_other _ _ _ _ (by intro e'; simp only [Addr.mk.injEq] at e'; omega)]
     by_cases e1 : t = i
     · subst e1; rw [if_pos rfl, World.cell?_setCell_same _ _ _ (h.cl t ht).1]
     · rw [if_neg e1, if_neg e2, World.cell?_setCell_other _ _ _ _ (by intro e'; simp only [Addr.mk.injEq] at e'; omega)]; exact (h.cl t ht).1
 · show ((w.setCell ⟨g, i, none⟩ (.int .i64 (d j))).setCell ⟨g, j, none⟩ (.int .i64 (d i))).frozen? ⟨g, t, none⟩ = false
   rw [World.frozen?_setCell, World.frozen?_setCell]; exact (h.cl t ht).2
 · unfold swf; split
   · exact h.ok j hj
   · split
     · exact h.ok i hi
     · exact h.ok t ht

def CmpI (ok : Int → Prop) (key : Int → Int) (w0 : World) (g B : Nat) : Prop :=
 ∀ (w : World) (x y : Int), w0.grownBy w (some g) → ok x → ok y → Calls Tryz.prog 162 #[.int .i64 x, .int .i64 y, .pointer (some ⟨B, 0, none⟩)] w fun e w' => e = .returned (.int .i64 (cmpv (key x) (key y))) ∧ ∃ m os, w' = grow (w.drewN m) os
theorem RI.cmp {ok : Int → Prop} {key : Int → Int} {w0 w : World} {g n B : Nat} {d : Nat → Int} (h : RI ok w0 w g n d) (hC : CmpI ok key w0 g B) {i j : Nat} (hi : i < n) (hj : j < n) (m : Nat) (os : Array Obj) :
   Calls Tryz.prog 162 #[.int .i64 (d i), .int .i64 (d j), .pointer (some ⟨B, 0, none⟩)] (grow (w.drewN m) os) fun e w' => e = .returned (.int .i64 (cmpv (key (d i)) (key (d j)))) ∧ ∃ p : GrownBy, w' = grow (w.drewN p.n) p.os :=
 Calls.grown_of (hC _ _ _ (h.grown m os).gr (h.ok i hi) (h.ok j hj))
theorem RI.ld {ok : Int → Prop} {w0 w : World} {g n : Nat} {d : Nat → Int} (h : RI ok w0 w g n d) {i : Nat} (hi : i < n) (m : Nat) (os : Array Obj) : (grow (w.drewN m) os).cell? ⟨g, i, none⟩ = some (.int .i64 (d i)) := ((h.grown m os).cl i hi).1

set_option maxRecDepth 100000 in
set_option maxHeartbeats 4000000 in
theorem swapRangeI (ok : Int → Prop) (w0 : World) (g N cap a b n : Nat) (f : Value) (d : Nat → Int) (w : World) (hR : RI ok w0 w g N d) (hN : N ≤ 1000000) (hc : N ≤ cap) (h1 : a + n ≤ b) (h2 : b + n ≤ N) :
   Calls Tryz.prog 178 #[.slice (some ⟨g, 0, none⟩) N cap, .int .i64 a, .int .i64 b, .int .i64 n, f] w fun e w' => e = .returned (.tuple #[]) ∧ RI ok w0 w' g N (swr d a b n) := by
 have H0 : Hid (RI ok w0 w g N (swr d a b 0)) := by rw [swr_zero]; exact hR
 clear hR
 have HN := Lib.hid hN
 have HC := Lib.hid hc
 have HA := Lib.hid h1
 have HB := Lib.hid h2
 clear hN hc h1 h2
 go_enter Tryz.func178, Tryz.ntmps178
 go_wp2_with fail
 go_loopw [10] (fun v10 wr => ∃ i : Nat, i ≤ n ∧ v10 = .int .i64 (i : Int) ∧ RI ok w0 wr g N (swr d a b i)) (fun v10 _ => (n - intOf v10).toNat)
 case atStart => exact ⟨0, by omega, rfl, H0.out⟩
 case round =>
   clear H0
   obtain ⟨i, hi, rfl, hr⟩ := hrel
   have HR := Lib.hid hr; clear hr
   by_cases hlt : i < n
   · have hdi : decide (i < n) = true := decide_eq_true hlt
     obtain ⟨x, hx⟩ : ∃ x, x = a + i := ⟨_, rfl⟩
     obtain ⟨y, hy⟩ : ∃ y, y = b + i := ⟨_, rfl⟩
     have hxN : x < N := by have := HA.out; have := HB.out; omega
     have hyN : y < N := by have := HA.out; have := HB.out; omega
     have c1 := (HR.out.cl x hxN).1
     have c2 := (HR.out.cl y hyN).1
     have f1 := (HR.out.cl x hxN).2
     have f2 := (HR.out.cl y hyN).2
     obtain ⟨u, c3⟩ := HR.out.c2 hxN hyN (.int .i64 (swr d a b i y))
     have HS : Hid (RI ok w0 ((wr.setCell ⟨g, x, none⟩ (.int .i64 (swr d a b i y))).setCell ⟨g, y, none⟩ (.int .i64 (swr d a b i x))).drew g N (swr d a b (i + 1))) := by
       have := HR.out.swapped hxN hyN
       rw [hx, hy, swr_succ d a b i (by have := HA.out; omega)] at this
       rw [hx, hy]; exact this
     have w1 : IntKind.i64.wrap ((a : Int) + (i : Int)) = (x : Int) := by have := HN.out; rw [IntKind.wrap_i64]; omega
     have w2 : IntKind.i64.wrap ((b : Int) + (i : Int)) = (y : Int) := by have := HN.out; rw [IntKind.wrap_i64]; omega
     have p1 : (x : Int) < (N : Int) := by omega
     have p2 : (y : Int) < (N : Int) := by omega
     have p3 : (0 : Int) ≤ (x : Int) := by omega
     have p4 : (0 : Int) ≤ (y : Int) := by omega
     have hiI : (i : Int) < 1000000 := by have := HN.out; have := HA.out; have := HB.out; omega
     clear hx hy hxN hyN HR
     generalize swr d a b i x = X at *
     generalize swr d a b i y = Y at *
     go_wp2_with fail
     go_big_region
     go_wp2
     exact ⟨⟨i + 1, by omega, by go_num, HS.out⟩, by simp [intOf]; omega⟩
   · obtain rfl : i = n := by omega
     have hdi : decide (i < i) = false := decide_eq_false (by omega)
     go_wp2
     go_returns
     exact ⟨rfl, HR.out⟩
end Go.Proofs.YtenkkononchgmaaGreatDoor

/- A row of packs that is sorted in place. -/
namespace Go.Proofs.YtenkkononchgmaaGreatDoor
open Go.RowKit Go Go.Sort

def pk (x : Int × Bool) : Value := .agg #[.int .i64 x.1, .bool x.2]
structure RP (w0 w : World) (g n : Nat) (d : Nat → Int × Bool) : Prop where
 gr : w0.grownBy w (some g)
 lt : g < w.heap.size
 c1 : ∀ i, i < n → w.cell? ⟨g, i * 2, none⟩ = some (.int .i64 (d i).1) ∧ w.frozen? ⟨g, i * 2, none⟩ = false
 c2 : ∀ i, i < n → w.cell? ⟨g, i * 2 + 1, none⟩ = some (.bool (d i).2) ∧ w.frozen? ⟨g, i * 2 + 1, none⟩ = false
theorem RP.grown {w0 w : World} {g n : Nat} {d : Nat → Int × Bool} (h : RP w0 w g n d) (m : Nat) (os : Array Obj) : RP w0 (grow (w.drewN m) os) g n d :=
 ⟨gb_grow (gb_drewN h.gr m) os, by rw [size_grow]; have := h.lt; show g < w.heap.size + _; omega, fun i hi => ⟨by rw [cell?_grow _ _ _ (by exact h.lt)]; exact (h.c1 i hi).1, by rw [frozen?_grow _ _ _ (by exact h.lt)]; exact (h.c1 i hi).2⟩,
   fun i hi => ⟨by rw [cell?_grow _ _ _ (by exact h.lt)]; exact (h.c2 i hi).1, by rw [frozen?_grow _ _ _ (by exact h.lt)]; exact (h.c2 i hi).2⟩⟩
theorem RP.drew {w0 w : World} {g n : Nat} {d : Nat → Int × Bool} (h : RP w0 w g n d) : RP w0 w.drew g n d := ⟨gb_drew h.gr, h.lt, h.c1, h.c2⟩
theorem RP.set {w0 w : World} {g n : Nat} {d : Nat → Int × Bool} (h : RP w0 w g n d) {i : Nat} (hi : i < n) (x : Int × Bool) :
   RP w0 ((w.setCell ⟨g, i * 2, none⟩ (.int .i64 x.1)).setCell ⟨g, i * 2 + 1, none⟩ (.bool x.2)) g n (fun t => if t = i then x else d t) := by
 refine ⟨gb_setCell (gb_setCell h.gr _) _, by simpa using h.lt, fun t ht => ⟨?_, ?_⟩, fun t ht => ⟨?_, ?_⟩⟩
 · rw [World.cell?_setCell_other _ _ _ _ (by intro e'; simp only [Addr.mk.injEq] at e'; omega)]
   by_cases e : t = i
   · subst e; rw [World.cell?_setCell_same _ _ _ (h.c1 t ht).1]; simp
   · rw [World.cell?_setCell_other _ _ _ _ (by intro e'; simp only [Addr.mk.injEq] at e'; omega), (h.c1 t ht).1]; simp [e]
 · rw [World.frozen?_setCell, World.frozen?_setCell]; exact (h.c1 t ht).2
 · by_cases e : t = i
   · subst e
     rw [World.cell?_setCell_same _ _ _ (u := .bool (d t).2) (by rw [World.cell?_setCell_other _ _ _ _ (by intro e'; simp only [Addr.mk.injEq] at e'; omega)]; exact (h.c2 t ht).1)]; simp
   · rw [World.cell?_setCell_other _ _ _ _ (by intro e'; simp only [Addr.mk.injEq] at e'; omega), World.cell?_setCell_other _ _ _ _ (by intro e'; simp only [Addr.mk.injEq] at e'; omega), (h.c2 t ht).1]; simp [e]
 · rw [World.frozen?_setCell, World.frozen?_setCell]; exact (h.c2 t ht).2
theorem RP.swapped {w0 w : World} {g n : Nat} {d : Nat → Int × Bool} (h : RP w0 w g n d) {i j : Nat} (hi : i < n) (hj : j < n) :
   RP w0 ((((w.setCell ⟨g, i * 2, none⟩ (.int .i64 (d j).1)).setCell ⟨g, i * 2 + 1, none⟩ (.bool (d j).2)).setCell ⟨g, j * 2, none⟩ (.int .i64 (d i).1)).setCell ⟨g, j * 2 + 1, none⟩ (.bool (d i).2)) g n (swf d i j) := by
 have := (h.set hi (d j)).set hj (d i)
 refine ⟨this.gr, this.lt, fun t ht => ?_, fun t ht => ?_⟩
 · have h1 := this.c1 t ht
   have e : (if t = j then d i else if t = i then d j else d t) = swf d i j t := by
     unfold swf; split
     · subst t; split
       · rename_i e; rw [e]
       · rfl
     · rfl
   rw [← e]; exact h1
 · have h1 := this.c2 t ht
   have e : (if t = j then d i else if t = i then d j else d t) = swf d i j t := by
     unfold swf; split
     · subst t; split
       · rename_i e; rw [e]
       · rfl
     · rfl
   rw [← e]; exact h1

theorem RP.ld1 {w0 w : World} {g n : Nat} {d : Nat → Int × Bool} (h : RP w0 w g n d) {i : Nat} (hi : i < n) (m : Nat) (os : Array Obj) : (grow (w.drewN m) os).cell? ⟨g, i * 2, none⟩ = some (.int .i64 (d i).1) := ((h.grown m os).c1 i hi).1
theorem RP.ld2 {w0 w : World} {g n : Nat} {d : Nat → Int × Bool} (h : RP w0 w g n d) {i : Nat} (hi : i < n) (m : Nat) (os : Array Obj) : (grow (w.drewN m) os).cell? ⟨g, i * 2 + 1, none⟩ = some (.bool (d i).2) := ((h.grown m os).c2 i hi).1

set_option maxRecDepth 100000 in
set_option maxHeartbeats 4000000 in
theorem swapRangeP (w0 : World) (g N cap a b n : Nat) (f : Value) (d : Nat → Int × Bool) (w : World) (hR : RP w0 w g N d) (hN : N ≤ 1000000) (hc : N ≤ cap) (h1 : a + n ≤ b) (h2 : b + n ≤ N) :
   Calls Tryz.prog 179 #[.slice (some ⟨g, 0, none⟩) N cap, .int .i64 a, .int .i64 b, .int .i64 n, f] w fun e w' => e = .returned (.tuple #[]) ∧ RP w0 w' g N (swr d a b n) := by
 have H0 : Hid (RP w0 w g N (swr d a b 0)) := by rw [swr_zero]; exact hR
 clear hR
 have HN := Lib.hid hN
 have HC := Lib.hid hc
 have HA := Lib.hid h1
 have HB := Lib.hid h2
 clear hN hc h1 h2
 go_enter Tryz.func179, Tryz.ntmps179
 go_wp2_with fail
 go_loopw [10] (fun v10 wr => ∃ i : Nat, i ≤ n ∧ v10 = .int .i64 (i : Int) ∧ RP w0 wr g N (swr d a b i)) (fun v10 _ => (n - intOf v10).toNat)
 case atStart => exact ⟨0, by omega, rfl, H0.out⟩
 case round =>
   clear H0
   obtain ⟨i, hi, rfl, hr⟩ := hrel
   have HR := Lib.hid hr; clear hr
   by_cases hlt : i < n
   · have hdi : decide (i < n) = true := decide_eq_true hlt
     obtain ⟨x, hx⟩ : ∃ x, x = a + i := ⟨_, rfl⟩
     obtain ⟨y, hy⟩ : ∃ y, y = b + i := ⟨_, rfl⟩
     have hxN : x < N := by have := HA.out; have := HB.out; omega
     have hyN : y < N := by have := HA.out; have := HB.out; omega
     have c1 := (HR.out.c1 x hxN).1
     have c2 := (HR.out.c1 y hyN).1
     have c3 := (HR.out.c2 x hxN).1
     have c4 := (HR.out.c2 y hyN).1
     have f1 := (HR.out.c1 x hxN).2
     have f2 := (HR.out.c1 y hyN).2
     have f3 := (HR.out.c2 x hxN).2
     have f4 := (HR.out.c2 y hyN).2
     have HS : Hid (RP w0 ((((wr.setCell ⟨g, x * 2, none⟩ (.int .i64 (swr d a b i y).1)).setCell ⟨g, x * 2 + 1, none⟩ (.bool (swr d a b i y).2)).setCell ⟨g, y * 2, none⟩ (.int .i64 (swr d a b i x).1)).setCell ⟨g, y * 2 + 1, none⟩ (.bool (swr d a b i x).2)) g N (swr d a b (i + 1))) := by
       have := HR.out.swapped hxN hyN
       rw [hx, hy, swr_succ d a b i (by have := HA.out; omega)] at this
       rw [hx, hy]; exact this
     have w1 : IntKind.i64.wrap ((a : Int) + (i : Int)) = (x : Int) := by have := HN.out; rw [IntKind.wrap_i64]; omega
     have w2 : IntKind.i64.wrap ((b : Int) + (i : Int)) = (y : Int) := by have := HN.out; rw [IntKind.wrap_i64]; omega
     have p1 : (x : Int) < (N : Int) := by omega
     have p2 : (y : Int) < (N : Int) := by omega
     have p3 : (0 : Int) ≤ (x : Int) := by omega
     have p4 : (0 : Int) ≤ (y : Int) := by omega
     have hiI : (i : Int) < 1000000 := by have := HN.out; have := HA.out; have := HB.out; omega
     have hne : x ≠ y := by have := HA.out; omega
     clear hx hy hxN hyN HR
     generalize swr d a b i x = X at *
     generalize swr d a b i y = Y at *
     go_wp2_with fail
     go_big_region
     go_wp2
     exact ⟨⟨i + 1, by omega, by go_num, HS.out.drew⟩, by simp [intOf]; omega⟩
   · obtain rfl : i = n := by omega
     have hdi : decide (i < i) = false := decide_eq_false (by omega)
     go_wp2
     go_returns
     exact ⟨rfl, HR.out⟩
end Go.Proofs.YtenkkononchgmaaGreatDoor

/- The walks of cmp.Compare and of the comparison of packs. -/
namespace Go.Proofs.YtenkkononchgmaaGreatDoor
open Go.RowKit Go Go.Sort

set_option maxRecDepth 100000 in
set_option maxHeartbeats 1000000 in
theorem isNaN_any (x : Int) (w : World) : Calls Tryz.prog 170 #[.int .i64 x] w fun e w' => e = .returned (.bool false) ∧ w' = w := by
 go_enter Tryz.func170, Tryz.ntmps170
 go_wp2
 go_returns
 exact ⟨by simp, rfl⟩
set_option maxRecDepth 100000 in
set_option maxHeartbeats 1000000 in
theorem compare_any (x y : Int) (w : World) : Calls Tryz.prog 163 #[.int .i64 x, .int .i64 y] w fun e w' => e = .returned (.int .i64 (cmpv x y)) ∧ w' = w := by
 obtain ⟨c, hc⟩ : ∃ c, c = cmpv x y := ⟨_, rfl⟩
 rw [← hc]
 have HC := Lib.hid hc
 clear hc
 go_enter Tryz.func163, Tryz.ntmps163
 go_wp2_with fail
 refine (isNaN_any _ _).mono ?_
 rintro e w' ⟨rfl, rfl⟩
 go_wp2_with fail
 refine (isNaN_any _ _).mono ?_
 rintro e w' ⟨rfl, rfl⟩
 by_cases h1 : x < y
 · have E1 : Hid (c = -1) := by show _ = _; rw [HC.out]; unfold cmpv; rw [if_pos h1]
   have d1 : decide (x < y) = true := decide_eq_true h1
   go_wp2
   go_returns
   exact ⟨by rw [E1.out]; rfl, rfl⟩
 · by_cases h2 : y < x
   · have E1 : Hid (c = 1) := by show _ = _; rw [HC.out]; unfold cmpv; rw [if_neg h1, if_pos h2]
     have d1 : decide (x < y) = false := decide_eq_false h1
     have d2 : decide (y < x) = true := decide_eq_true h2
     go_wp2
     go_returns
     exact ⟨by rw [E1.out]; rfl, rfl⟩
   · have E1 : Hid (c = 0) := by show _ = _; rw [HC.out]; unfold cmpv; rw [if_neg h1, if_neg h2]
     have d1 : decide (x < y) = false := decide_eq_false h1
     have d2 : decide (y < x) = false := decide_eq_false h2
     go_wp2
     go_returns
     exact ⟨by rw [E1.out]; rfl, rfl⟩
set_option maxRecDepth 100000 in
set_option maxHeartbeats 1000000 in
theorem cmpP (x y : Int × Bool) (w : World) : Calls Tryz.prog 167 #[.agg #[.int .i64 x.1, .bool x.2], .agg #[.int .i64 y.1, .bool y.2]] w fun e w' => e = .returned (.int .i64 (cmpv x.1 y.1)) ∧ ∃ m os, w' = grow (w.drewN m) os := by
 go_enter Tryz.func167, Tryz.ntmps167
 go_wp2_with fail
 refine (compare_any _ _ _).mono ?_
 rintro e w' ⟨rfl, rfl⟩
 go_wp2
 go_returns
 exact ⟨rfl, 0, _, by rw [alloc_eq_grow, alloc_eq_grow, grow_grow]; rfl⟩
theorem RP.cmp {w0 w : World} {g n : Nat} {d : Nat → Int × Bool} (_ : RP w0 w g n d) (i j : Nat) (m : Nat) (os : Array Obj) :
   Calls Tryz.prog 167 #[.agg #[.int .i64 (d i).1, .bool (d i).2], .agg #[.int .i64 (d j).1, .bool (d j).2]] (grow (w.drewN m) os) fun e w' => e = .returned (.int .i64 (cmpv (d i).1 (d j).1)) ∧ ∃ p : GrownBy, w' = grow (w.drewN p.n) p.os :=
 Calls.grown_of (cmpP _ _ _)
end Go.Proofs.YtenkkononchgmaaGreatDoor

/- The walk of the insertion sort. -/
namespace Go.Proofs.YtenkkononchgmaaGreatDoor
open Go.RowKit Go Go.Sort

set_option maxRecDepth 100000 in
set_option maxHeartbeats 4000000 in
theorem insertionI (ok : Int → Prop) (key : Int → Int) (B : Nat) (w0 : World) (g N cap a b : Nat) (d : Nat → Int) (w : World) (hC : CmpI ok key w0 g B) (hR : RI ok w0 w g N d) (hN : N ≤ 1000000) (hc : N ≤ cap) (h1 : a ≤ b) (h2 : b ≤ N) :
   Calls Tryz.prog 172 #[.slice (some ⟨g, 0, none⟩) N cap, .int .i64 a, .int .i64 b, (Value.func (.func 162) #[] #[.pointer (some ⟨B, 0, none⟩)])] w fun e w' => e = .returned (.tuple #[]) ∧ ∃ d' : Nat → Int, RI ok w0 w' g N d' ∧ Pm a b d d' ∧ Up (fun t => key (d' t)) a b := by
 have H0 : Hid (RI ok w0 w g N d) := hR
 have HN := Lib.hid hN
 have HC := Lib.hid hc
 have HA := Lib.hid h1
 have HB := Lib.hid h2
 have HCM : Hid (CmpI ok key w0 g B) := hC
 clear hC
 have mixed : Tryz.prog.follows .mixedOrders = true := by kernel_rfl
 have a6 : (a : Int) ≤ 1000000 := by omega
 have b6 : (b : Int) ≤ 1000000 := by omega
 clear hR hN hc h1 h2
 go_enter Tryz.func172, Tryz.ntmps172
 go_wp2_with fail
 go_loopw [8] (fun v8 wr => ∃ (i : Nat) (dk : Nat → Int), v8 = .int .i64 (i : Int) ∧ a + 1 ≤ i ∧ i ≤ b + 1 ∧ RI ok w0 wr g N dk ∧ Pm a b d dk ∧ Up (fun t => key (dk t)) a i) (fun v8 _ => (b + 1 - intOf v8).toNat)
 case atStart =>
   have := HA.out
   exact ⟨a + 1, d, by go_num, by omega, by omega, H0.out, Pm.refl _ _ _, Up.one _ _⟩
 case round =>
   clear H0
   obtain ⟨i, dk, rfl, hai, hib, hr, hpm, hup⟩ := hrel
   have HR := Lib.hid hr; clear hr
   have HP := Lib.hid hpm; clear hpm
   have HU := Lib.hid hup; clear hup
   by_cases hlt : i < b
   · have hdi : decide (i < b) = true := decide_eq_true hlt
     go_wp2_with fail
     generalize wr = wo at *
     go_loopw [9] (fun v9 wr => ∃ j : Nat, v9 = .int .i64 (j : Int) ∧ a ≤ j ∧ j ≤ i ∧ RI ok w0 wr g N (shr dk j i) ∧ ∀ t, j ≤ t → t < i → key (dk i) ≤ key (dk t)) (fun v9 _ => (intOf v9).toNat)
     case atStart => exact ⟨i, rfl, by omega, Nat.le_refl _, by rw [shr_zero]; exact HR.out, fun t x1 x2 => by omega⟩
     case round =>
       clear HR
       obtain ⟨j, rfl, haj, hji, hr, hge⟩ := hrel
       have HR := Lib.hid hr; clear hr
       have HG := Lib.hid hge; clear hge
       have hjN : j < N := by have := HB.out; omega
       have j6 : (j : Int) < 1000000 := by have := HN.out; omega
       have i6 : (i : Int) < 1000000 := by have := HN.out; have := HB.out; omega
       have HOUT : Hid ((j = a ∨ (a < j ∧ key (dk (j - 1)) ≤ key (dk i))) → Pm a b d (shr dk j i) ∧ Up (fun t => key (shr dk j i t)) a (i + 1)) := fun hs =>
         ⟨HP.out.trans (shr_pm dk haj hji hlt), Up.ins key dk HU.out haj hji (fun t x1 x2 => by
           rcases hs with hs | ⟨_, hs⟩
           · omega
           · have := HU.out t (j - 1) x1 (by omega) (by omega)
             simp only at this; omega) HG.out⟩
       by_cases hja : a < j
       · obtain ⟨q, hq⟩ : ∃ q, j = q + 1 := ⟨j - 1, by omega⟩
         have hqN : q < N := by omega
         have hvj : shr dk j i j = dk i := by unfold shr; rw [if_pos rfl]
         have hvq : shr dk j i q = dk q := by unfold shr; rw [if_neg (by omega), if_neg (by omega)]
         have hdj' : (a : Int) < (j : Int) := by omega
         have hdj'' : decide (a < j) = true := decide_eq_true hja
         have s1 : ((j : Int) - 1) = (q : Int) := by omega
         have s2 : IntKind.i64.wrap (q : Int) = (q : Int) := wn rfl (by omega)
         have q6 : (q : Int) < 1000000 := by omega
         have p1 : (j : Int) < (N : Int) := by omega
         have p2 : (q : Int) < (N : Int) := by omega
         have p3 : (0 : Int) ≤ (j : Int) := by omega
         have p4 : (0 : Int) ≤ (q : Int) := by omega
         have HQ : Hid (q + 1 = j) := hq.symm
         have l1 := HR.out.ld hjN
         have l2 := HR.out.ld hqN
         have hcm := HR.out.cmp HCM.out hjN hqN
         rw [hvj] at l1
         rw [hvq] at l2
         rw [hvj, hvq] at hcm
         have HV : Hid (shr dk j i j = dk i ∧ shr dk j i q = dk q) := ⟨hvj, hvq⟩
         have HX : Hid (dk (j - 1) = dk q) := by show _ = _; rw [hq]; rfl
         have HGR : Hid (∀ m os, RI ok w0 (grow (wr.drewN m) os) g N (shr dk j i)) := fun m os => HR.out.grown m os
         clear hvj hvq hq HR
         obtain ⟨x, hx⟩ : ∃ x, x = dk i := ⟨_, rfl⟩
         obtain ⟨y, hy⟩ : ∃ y, y = dk q := ⟨_, rfl⟩
         rw [← hx, ← hy] at hcm
         rw [← hx] at l1 
         rw [← hy] at l2 
         have HXY : Hid (x = dk i ∧ y = dk q) := ⟨hx, hy⟩
         clear hx hy
         by_cases hlv : key (x) < key (y)
         · have hd1 : decide (cmpv (key (x)) (key (y)) < 0) = true := decide_eq_true (by rw [cmpv_lt]; exact hlv)
           generalize cmpv (key (x)) (key (y)) = cv at hcm hd1
           go_wp2_with fail
           go_quiet_grown (first | (go_at_call 162; refine hcm _ _))
           go_wp2_with fail
           have HR : Hid (RI ok w0 (grow (wr.drewN nq) osq) g N (shr dk j i)) := HGR.out _ _
           clear l1 l2 hcm HGR 
           generalize grow (wr.drewN nq) osq = w2 at *
           have c1 := (HR.out.cl j hjN).1
           have c2 := (HR.out.cl q hqN).1
           have f1 := (HR.out.cl j hjN).2
           have f2 := (HR.out.cl q hqN).2
           obtain ⟨u, c3⟩ := HR.out.c2 hjN hqN (.int .i64 (shr dk j i q))
           have hsw := HR.out.swapped hjN hqN
           have HS : Hid (shr dk q i = swf (shr dk j i) j q) := by
             show _ = _
             have e := HQ.out
             subst e
             rw [shr_succ dk q i hji]
           have HSW := Lib.hid hsw
           clear hsw HR
           generalize shr dk j i j = X at *
           generalize shr dk j i q = Y at *
           go_big_region
           go_wp2
           have e := HQ.out
           refine ⟨⟨q, rfl, by omega, by omega, ?_, fun t x1 x2 => ?_⟩, by simp [intOf]; omega⟩
           · rw [HS.out]; exact HSW.out
           · by_cases e1 : t = q
             · obtain ⟨z1, z2⟩ := HXY.out
               rw [e1, ← z1, ← z2]; omega
             · exact HG.out t (by omega) x2
         · have hd1 : decide (cmpv (key (x)) (key (y)) < 0) = false := decide_eq_false (by rw [cmpv_lt]; exact hlv)
           generalize cmpv (key (x)) (key (y)) = cv at hcm hd1
           have HPU := HOUT.out (Or.inr ⟨hja, by rw [HX.out]; obtain ⟨z1, z2⟩ := HXY.out; rw [← z1, ← z2]; omega⟩)
           have HPU2 := Lib.hid HPU
           clear HPU HOUT
           go_wp2_with fail
           go_quiet_grown (first | (go_at_call 162; refine hcm _ _))
           have HR : Hid (RI ok w0 (grow (wr.drewN nq) osq) g N (shr dk j i)) := HGR.out _ _
           clear l1 l2 hcm HGR 
           generalize grow (wr.drewN nq) osq = w2 at *
           go_wp2
           exact ⟨⟨i + 1, _, by go_num, by omega, by omega, HR.out, HPU2.out.1, HPU2.out.2⟩, by simp [intOf]; omega⟩
       · obtain rfl : j = a := by omega
         have hdj' : ¬ (j : Int) < (j : Int) := by omega
         have hdj'' : decide (j < j) = false := decide_eq_false (by omega)
         have HPU := HOUT.out (Or.inl rfl)
         have HPU2 := Lib.hid HPU
         have HR2 : Hid (RI ok w0 wr.drew g N (shr dk j i)) := HR.out.drew
         clear HPU HOUT HR
         go_wp2_with fail
         go_big_region
         generalize wr.drew = w2 at *
         go_wp2
         exact ⟨⟨i + 1, _, by go_num, by omega, by omega, HR2.out, HPU2.out.1, HPU2.out.2⟩, by simp [intOf]; omega⟩
   · have hdi : decide (i < b) = false := decide_eq_false hlt
     have HE : Hid (∃ d' : Nat → Int, RI ok w0 wr g N d' ∧ Pm a b d d' ∧ Up (fun t => key (d' t)) a b) := ⟨dk, HR.out, HP.out, HU.out.less (Nat.le_refl _) (by omega)⟩
     go_wp2
     go_returns
     exact ⟨rfl, HE.out⟩
end Go.Proofs.YtenkkononchgmaaGreatDoor

/- The walk of the insertion sort. -/
namespace Go.Proofs.YtenkkononchgmaaGreatDoor
open Go.RowKit Go Go.Sort

set_option maxRecDepth 100000 in
set_option maxHeartbeats 4000000 in
theorem insertionP (w0 : World) (g N cap a b : Nat) (d : Nat → (Int × Bool)) (w : World) (hR : RP w0 w g N d) (hN : N ≤ 1000000) (hc : N ≤ cap) (h1 : a ≤ b) (h2 : b ≤ N) :
   Calls Tryz.prog 174 #[.slice (some ⟨g, 0, none⟩) N cap, .int .i64 a, .int .i64 b, (Value.func (.func 167) #[] #[])] w fun e w' => e = .returned (.tuple #[]) ∧ ∃ d' : Nat → (Int × Bool), RP w0 w' g N d' ∧ Pm a b d d' ∧ Up (fun t => (d' t).1) a b := by
 have H0 : Hid (RP w0 w g N d) := hR
 have HN := Lib.hid hN
 have HC := Lib.hid hc
 have HA := Lib.hid h1
 have HB := Lib.hid h2
 have mixed : Tryz.prog.follows .mixedOrders = true := by kernel_rfl
 have a6 : (a : Int) ≤ 1000000 := by omega
 have b6 : (b : Int) ≤ 1000000 := by omega
 clear hR hN hc h1 h2
 go_enter Tryz.func174, Tryz.ntmps174
 go_wp2_with fail
 go_loopw [8] (fun v8 wr => ∃ (i : Nat) (dk : Nat → (Int × Bool)), v8 = .int .i64 (i : Int) ∧ a + 1 ≤ i ∧ i ≤ b + 1 ∧ RP w0 wr g N dk ∧ Pm a b d dk ∧ Up (fun t => (dk t).1) a i) (fun v8 _ => (b + 1 - intOf v8).toNat)
 case atStart =>
   have := HA.out
   exact ⟨a + 1, d, by go_num, by omega, by omega, H0.out, Pm.refl _ _ _, Up.one _ _⟩
 case round =>
   clear H0
   obtain ⟨i, dk, rfl, hai, hib, hr, hpm, hup⟩ := hrel
   have HR := Lib.hid hr; clear hr
   have HP := Lib.hid hpm; clear hpm
   have HU := Lib.hid hup; clear hup
   by_cases hlt : i < b
   · have hdi : decide (i < b) = true := decide_eq_true hlt
     go_wp2_with fail
     generalize wr = wo at *
     go_loopw [9] (fun v9 wr => ∃ j : Nat, v9 = .int .i64 (j : Int) ∧ a ≤ j ∧ j ≤ i ∧ RP w0 wr g N (shr dk j i) ∧ ∀ t, j ≤ t → t < i → (dk i).1 ≤ (dk t).1) (fun v9 _ => (intOf v9).toNat)
     case atStart => exact ⟨i, rfl, by omega, Nat.le_refl _, by rw [shr_zero]; exact HR.out, fun t x1 x2 => by omega⟩
     case round =>
       clear HR
       obtain ⟨j, rfl, haj, hji, hr, hge⟩ := hrel
       have HR := Lib.hid hr; clear hr
       have HG := Lib.hid hge; clear hge
       have hjN : j < N := by have := HB.out; omega
       have j6 : (j : Int) < 1000000 := by have := HN.out; omega
       have i6 : (i : Int) < 1000000 := by have := HN.out; have := HB.out; omega
       have HOUT : Hid ((j = a ∨ (a < j ∧ (dk (j - 1)).1 ≤ (dk i).1)) → Pm a b d (shr dk j i) ∧ Up (fun t => (shr dk j i t).1) a (i + 1)) := fun hs =>
         ⟨HP.out.trans (shr_pm dk haj hji hlt), Up.ins Prod.fst dk HU.out haj hji (fun t x1 x2 => by
           rcases hs with hs | ⟨_, hs⟩
           · omega
           · have := HU.out t (j - 1) x1 (by omega) (by omega)
             simp only at this; omega) HG.out⟩
       by_cases hja : a < j
       · obtain ⟨q, hq⟩ : ∃ q, j = q + 1 := ⟨j - 1, by omega⟩
         have hqN : q < N := by omega
         have hvj : shr dk j i j = dk i := by unfold shr; rw [if_pos rfl]
         have hvq : shr dk j i q = dk q := by unfold shr; rw [if_neg (by omega), if_neg (by omega)]
         have hdj' : (a : Int) < (j : Int) := by omega
         have hdj'' : decide (a < j) = true := decide_eq_true hja
         have s1 : ((j : Int) - 1) = (q : Int) := by omega
         have s2 : IntKind.i64.wrap (q : Int) = (q : Int) := wn rfl (by omega)
         have q6 : (q : Int) < 1000000 := by omega
         have p1 : (j : Int) < (N : Int) := by omega
         have p2 : (q : Int) < (N : Int) := by omega
         have p3 : (0 : Int) ≤ (j : Int) := by omega
         have p4 : (0 : Int) ≤ (q : Int) := by omega
         have HQ : Hid (q + 1 = j) := hq.symm
         have l1 := HR.out.ld1 hjN
         have l2 := HR.out.ld1 hqN
         have l3 := HR.out.ld2 hjN
         have l4 := HR.out.ld2 hqN
         have hcm := HR.out.cmp j q
         rw [hvj] at l1 l3
         rw [hvq] at l2 l4
         rw [hvj, hvq] at hcm
         have HV : Hid (shr dk j i j = dk i ∧ shr dk j i q = dk q) := ⟨hvj, hvq⟩
         have HX : Hid (dk (j - 1) = dk q) := by show _ = _; rw [hq]; rfl
         have HGR : Hid (∀ m os, RP w0 (grow (wr.drewN m) os) g N (shr dk j i)) := fun m os => HR.out.grown m os
         clear hvj hvq hq HR
         obtain ⟨x, hx⟩ : ∃ x, x = dk i := ⟨_, rfl⟩
         obtain ⟨y, hy⟩ : ∃ y, y = dk q := ⟨_, rfl⟩
         rw [← hx, ← hy] at hcm
         rw [← hx] at l1 l3
         rw [← hy] at l2 l4
         have HXY : Hid (x = dk i ∧ y = dk q) := ⟨hx, hy⟩
         clear hx hy
         by_cases hlv : (x).1 < (y).1
         · have hd1 : decide (cmpv ((x).1) ((y).1) < 0) = true := decide_eq_true (by rw [cmpv_lt]; exact hlv)
           generalize cmpv ((x).1) ((y).1) = cv at hcm hd1
           go_wp2_with fail
           go_quiet_grown (first | (go_at_call 167; refine hcm _ _))
           go_wp2_with fail
           have HR : Hid (RP w0 (grow (wr.drewN nq) osq) g N (shr dk j i)) := HGR.out _ _
           clear l1 l2 hcm HGR l3 l4
           generalize grow (wr.drewN nq) osq = w2 at *
           have c1 := (HR.out.c1 j hjN).1
           have c2 := (HR.out.c1 q hqN).1
           have c3 := (HR.out.c2 j hjN).1
           have c4 := (HR.out.c2 q hqN).1
           have f1 := (HR.out.c1 j hjN).2
           have f2 := (HR.out.c1 q hqN).2
           have f3 := (HR.out.c2 j hjN).2
           have f4 := (HR.out.c2 q hqN).2
           have hne : j ≠ q := by have := HQ.out; omega
           have hsw := HR.out.swapped hjN hqN
           have HS : Hid (shr dk q i = swf (shr dk j i) j q) := by
             show _ = _
             have e := HQ.out
             subst e
             rw [shr_succ dk q i hji]
           have HSW := Lib.hid hsw
           clear hsw HR
           generalize shr dk j i j = X at *
           generalize shr dk j i q = Y at *
           go_big_region
           go_wp2
           have e := HQ.out
           refine ⟨⟨q, rfl, by omega, by omega, ?_, fun t x1 x2 => ?_⟩, by simp [intOf]; omega⟩
           · rw [HS.out]; exact HSW.out.drew
           · by_cases e1 : t = q
             · obtain ⟨z1, z2⟩ := HXY.out
               rw [e1, ← z1, ← z2]; omega
             · exact HG.out t (by omega) x2
         · have hd1 : decide (cmpv ((x).1) ((y).1) < 0) = false := decide_eq_false (by rw [cmpv_lt]; exact hlv)
           generalize cmpv ((x).1) ((y).1) = cv at hcm hd1
           have HPU := HOUT.out (Or.inr ⟨hja, by rw [HX.out]; obtain ⟨z1, z2⟩ := HXY.out; rw [← z1, ← z2]; omega⟩)
           have HPU2 := Lib.hid HPU
           clear HPU HOUT
           go_wp2_with fail
           go_quiet_grown (first | (go_at_call 167; refine hcm _ _))
           have HR : Hid (RP w0 (grow (wr.drewN nq) osq) g N (shr dk j i)) := HGR.out _ _
           clear l1 l2 hcm HGR l3 l4
           generalize grow (wr.drewN nq) osq = w2 at *
           go_wp2
           exact ⟨⟨i + 1, _, by go_num, by omega, by omega, HR.out, HPU2.out.1, HPU2.out.2⟩, by simp [intOf]; omega⟩
       · obtain rfl : j = a := by omega
         have hdj' : ¬ (j : Int) < (j : Int) := by omega
         have hdj'' : decide (j < j) = false := decide_eq_false (by omega)
         have HPU := HOUT.out (Or.inl rfl)
         have HPU2 := Lib.hid HPU
         have HR2 : Hid (RP w0 wr.drew g N (shr dk j i)) := HR.out.drew
         clear HPU HOUT HR
         go_wp2_with fail
         go_big_region
         generalize wr.drew = w2 at *
         go_wp2
         exact ⟨⟨i + 1, _, by go_num, by omega, by omega, HR2.out, HPU2.out.1, HPU2.out.2⟩, by simp [intOf]; omega⟩
   · have hdi : decide (i < b) = false := decide_eq_false hlt
     have HE : Hid (∃ d' : Nat → (Int × Bool), RP w0 wr g N d' ∧ Pm a b d d' ∧ Up (fun t => (d' t).1) a b) := ⟨dk, HR.out, HP.out, HU.out.less (Nat.le_refl _) (by omega)⟩
     go_wp2
     go_returns
     exact ⟨rfl, HE.out⟩
end Go.Proofs.YtenkkononchgmaaGreatDoor

/- The walk of the stable sort where there is nothing. -/
namespace Go.Proofs.YtenkkononchgmaaGreatDoor
open Go.RowKit Go Go.Sort

set_option maxRecDepth 100000 in
set_option maxHeartbeats 1000000 in
theorem insNilI (a : Option Addr) (cap : Nat) (f : Value) (w : World) :
   Calls Tryz.prog 172 #[.slice a 0 cap, .int .i64 0, .int .i64 0, f] w fun e w' => e = .returned (.tuple #[]) ∧ w' = w := by
 go_enter Tryz.func172, Tryz.ntmps172
 go_wp2_with fail
 go_loopw [8] (fun v8 wr => v8 = .int .i64 1 ∧ wr = w) (fun _ _ => 0)
 case atStart => exact ⟨rfl, rfl⟩
 case round =>
   obtain ⟨rfl, rfl⟩ := hrel
   go_wp2
   go_returns
   exact ⟨rfl, rfl⟩
set_option maxRecDepth 100000 in
set_option maxHeartbeats 1000000 in
theorem stabNilI (a : Option Addr) (cap : Nat) (f : Value) (w : World) :
   Calls Tryz.prog 169 #[.slice a 0 cap, .int .i64 0, f] w fun e w' => e = .returned (.tuple #[]) ∧ w' = w := by
 go_enter Tryz.func169, Tryz.ntmps169
 go_wp2_with fail
 go_loopw [7, 8] (fun v7 v8 wr => v7 = .int .i64 0 ∧ v8 = .int .i64 20 ∧ wr = w) (fun _ _ _ => 0)
 case atStart => exact ⟨rfl, rfl, rfl⟩
 case round =>
   obtain ⟨rfl, rfl, rfl⟩ := hrel
   go_wp2_with fail
   with_reducible refine (insNilI a cap f _).mono ?_
   rintro e w1 ⟨rfl, rfl⟩
   go_wp2_with fail
   go_loopw [6] (fun v6 wr => v6 = .int .i64 20 ∧ wr = w1) (fun _ _ => 0)
   case atStart => exact ⟨rfl, rfl⟩
   case round =>
     obtain ⟨rfl, rfl⟩ := hrel
     go_wp2
     go_returns
     exact ⟨rfl, rfl⟩
set_option maxRecDepth 100000 in
set_option maxHeartbeats 1000000 in
theorem sortNilI (a : Option Addr) (cap : Nat) (f : Value) (w : World) :
   Calls Tryz.prog 161 #[.slice a 0 cap, f] w fun e w' => e = .returned (.tuple #[]) ∧ w' = w := by
 go_enter Tryz.func161, Tryz.ntmps161
 go_wp2_with fail
 with_reducible refine (stabNilI a cap f _).mono ?_
 rintro e w1 ⟨rfl, rfl⟩
 go_wp2
 go_returns
 exact ⟨rfl, rfl⟩
end Go.Proofs.YtenkkononchgmaaGreatDoor

/- The walk of the stable sort where there is nothing. -/
namespace Go.Proofs.YtenkkononchgmaaGreatDoor
open Go.RowKit Go Go.Sort

end Go.Proofs.YtenkkononchgmaaGreatDoor

/- The walk of the rotation. -/
namespace Go.Proofs.YtenkkononchgmaaGreatDoor
open Go.RowKit Go Go.Sort

set_option maxRecDepth 100000 in
set_option maxHeartbeats 4000000 in
theorem rotateI (ok : Int → Prop) (w0 : World) (g N cap a m b : Nat) (f : Value) (d : Nat → Int) (w : World) (hR : RI ok w0 w g N d) (hN : N ≤ 1000000) (hc : N ≤ cap) (h1 : a < m) (h2 : m < b) (h3 : b ≤ N) :
   Calls Tryz.prog 176 #[.slice (some ⟨g, 0, none⟩) N cap, .int .i64 a, .int .i64 m, .int .i64 b, f] w fun e w' => e = .returned (.tuple #[]) ∧ RI ok w0 w' g N (rot d a m b) := by
 have H0 : Hid (RI ok w0 w g N d) := hR
 have HN := Lib.hid hN
 have HC := Lib.hid hc
 have HA := Lib.hid h1
 have HM := Lib.hid h2
 have HB := Lib.hid h3
 have e1 : IntKind.i64.wrap ((m : Int) - (a : Int)) = ((m - a : Nat) : Int) := by rw [IntKind.wrap_i64]; omega
 have e2 : IntKind.i64.wrap ((b : Int) - (m : Int)) = ((b - m : Nat) : Int) := by rw [IntKind.wrap_i64]; omega
 clear hR hN hc h1 h2 h3
 obtain ⟨D, hD⟩ : ∃ D, D = rot d a m b := ⟨_, rfl⟩
 rw [← hD]
 have HD : Hid (D = rot d a m b) := hD
 clear hD
 obtain ⟨p, hp⟩ : ∃ p, p = m - a := ⟨_, rfl⟩
 obtain ⟨q, hq⟩ : ∃ q, q = b - m := ⟨_, rfl⟩
 rw [← hp] at e1
 rw [← hq] at e2
 have HP : Hid (p = m - a ∧ q = b - m) := ⟨hp, hq⟩
 clear hp hq
 have e1' : ((m : Int) - (a : Int)) = (p : Int) := by have := HP.out; have := HA.out; omega
 have e2' : ((b : Int) - (m : Int)) = (q : Int) := by have := HP.out; have := HM.out; omega
 have hp6 : (p : Int) ≤ 1000000 := by have := HP.out; have := HN.out; have := HM.out; have := HB.out; omega
 have hq6 : (q : Int) ≤ 1000000 := by have := HP.out; have := HN.out; have := HM.out; have := HB.out; omega
 go_enter Tryz.func176, Tryz.ntmps176
 go_wp2_with fail
 clear e1 e2 e1' e2' hp6 hq6
 go_loopw [10, 11] (fun v10 v11 wr => ∃ (i j : Nat) (dk : Nat → Int), v10 = .int .i64 (i : Int) ∧ v11 = .int .i64 (j : Int) ∧ 0 < i ∧ 0 < j ∧ i ≤ m ∧ m + j ≤ N ∧ RI ok w0 wr g N dk ∧ rot dk (m - i) m (m + j) = D) (fun v10 v11 _ => (intOf v10 + intOf v11).toNat)
 case atStart =>
   have h0 := HP.out
   have h1 := HA.out
   have h2 := HM.out
   have h3 := HB.out
   refine ⟨p, q, d, rfl, rfl, by omega, by omega, by omega, by omega, H0.out, ?_⟩
   rw [HD.out]; congr 1 <;> omega
 case round =>
   clear H0 HD HP
   obtain ⟨i, j, dk, rfl, rfl, hi, hj, him, hjm, hr, he⟩ := hrel
   have HR := Lib.hid hr; clear hr
   have HE := Lib.hid he; clear he
   have HI : Hid (0 < i ∧ 0 < j ∧ i ≤ m ∧ m + j ≤ N) := ⟨hi, hj, him, hjm⟩
   have n1 : (m : Int) ≤ 1000000 := by have := HN.out; omega
   have s1 : IntKind.i64.wrap ((m : Int) - (i : Int)) = ((m - i : Nat) : Int) := by rw [IntKind.wrap_i64]; omega
   have s1' : ((m : Int) - (i : Int)) = ((m - i : Nat) : Int) := by omega
   by_cases hne : i = j
   · subst hne
     have HX := swapRangeI ok w0 g N cap (m - i) m i f dk wr HR.out HN.out HC.out (by omega) (by omega)
     rw [rot_same dk m i him, HE.out] at HX
     generalize m - i = mi at *
     have hb : ((i : Int) == (i : Int)) = true := by simp
     go_wp2_with fail
     with_reducible refine HX.mono ?_
     rintro e w' ⟨rfl, h⟩
     go_wp2
     go_returns
     exact ⟨rfl, h⟩
   · have hb : ((i : Int) == (j : Int)) = false := by simp; omega
     have hb' : ¬ ((i : Int) = (j : Int)) := by omega
     by_cases hgt : j < i
     · have HX := swapRangeI ok w0 g N cap (m - i) m j f dk wr HR.out HN.out HC.out (by omega) (by omega)
       have HF := (rot_left dk m i j him hgt).trans HE.out
       have hd1 : decide (j < i) = true := decide_eq_true hgt
       have s2 : IntKind.i64.wrap ((i : Int) - (j : Int)) = ((i - j : Nat) : Int) := by rw [IntKind.wrap_i64]; omega
       have s2' : ((i : Int) - (j : Int)) = ((i - j : Nat) : Int) := by omega
       have HQ := Lib.hid HF; clear HF
       have HG := Lib.hid hgt; clear hgt
       clear hi hj him hjm
       generalize m - i = mi at *
       generalize i - j = ij at *
       go_wp2_with fail
       with_reducible refine HX.mono ?_
       rintro e w' ⟨rfl, h⟩
       have HH := Lib.hid h; clear h
       go_wp2
       have := HI.out
       have := HG.out
       have hij : ij = i - j := by omega
       refine ⟨⟨ij, j, _, rfl, rfl, by omega, by omega, by omega, by omega, HH.out, ?_⟩, by simp [intOf]; omega⟩
       exact HQ.out
     · have hlt : i < j := by omega
       have HX := swapRangeI ok w0 g N cap (m - i) (m + j - i) i f dk wr HR.out HN.out HC.out (by omega) (by omega)
       have HF := (rot_right dk m i j him hlt).trans HE.out
       have hd1 : decide (j < i) = false := decide_eq_false (by omega)
       have s2' : ((j : Int) - (i : Int)) = ((j - i : Nat) : Int) := by omega
       have j6 : (j : Int) ≤ 1000000 := by have := HN.out; omega
       have b3 : ((m + j : Nat) : Int) ≤ 1000000 := by have := HN.out; omega
       have b4 : ((m + j - i : Nat) : Int) ≤ 1000000 := by have := HN.out; omega
       have s3' : ((m : Int) + (j : Int)) = ((m + j : Nat) : Int) := by omega
       have s4' : (((m + j : Nat) : Int) - (i : Int)) = ((m + j - i : Nat) : Int) := by omega
       have HQ : Hid (rot (swr dk (m - i) (m + j - i) i) (m - i) m (m + (j - i)) = D) := by
         rw [show m + (j - i) = m + j - i by omega]; exact HF
       clear HF
       have HG := Lib.hid hlt; clear hlt hgt
       obtain ⟨mi, hmi⟩ : ∃ x, x = m - i := ⟨_, rfl⟩
       obtain ⟨ji, hji⟩ : ∃ x, x = j - i := ⟨_, rfl⟩
       obtain ⟨mj, hmj⟩ : ∃ x, x = m + j := ⟨_, rfl⟩
       obtain ⟨mji, hmji⟩ : ∃ x, x = m + j - i := ⟨_, rfl⟩
       rw [← hmi] at s1 s1' HX
       rw [← hmji] at b4 s4' HX
       rw [← hmj] at b3 s3' s4'
       rw [← hji] at s2'
       have HV : Hid (mi = m - i ∧ ji = j - i ∧ mji = m + j - i) := ⟨hmi, hji, hmji⟩
       clear hmi hji hmj hmji hi hj him hjm hne hb'
       go_wp2_with fail
       with_reducible refine HX.mono ?_
       rintro e w' ⟨rfl, h⟩
       have HH := Lib.hid h; clear h
       go_wp2
       have := HI.out
       have := HG.out
       obtain ⟨v1, v2, v3⟩ := HV.out
       subst v1 v2 v3
       refine ⟨⟨i, j - i, _, rfl, rfl, by omega, by omega, by omega, by omega, HH.out, ?_⟩, by simp [intOf]; omega⟩
       exact HQ.out
end Go.Proofs.YtenkkononchgmaaGreatDoor

/- The walk of the rotation. -/
namespace Go.Proofs.YtenkkononchgmaaGreatDoor
open Go.RowKit Go Go.Sort

set_option maxRecDepth 100000 in
set_option maxHeartbeats 4000000 in
theorem rotateP (w0 : World) (g N cap a m b : Nat) (f : Value) (d : Nat → Int × Bool) (w : World) (hR : RP w0 w g N d) (hN : N ≤ 1000000) (hc : N ≤ cap) (h1 : a < m) (h2 : m < b) (h3 : b ≤ N) :
   Calls Tryz.prog 177 #[.slice (some ⟨g, 0, none⟩) N cap, .int .i64 a, .int .i64 m, .int .i64 b, f] w fun e w' => e = .returned (.tuple #[]) ∧ RP w0 w' g N (rot d a m b) := by
 have H0 : Hid (RP w0 w g N d) := hR
 have HN := Lib.hid hN
 have HC := Lib.hid hc
 have HA := Lib.hid h1
 have HM := Lib.hid h2
 have HB := Lib.hid h3
 have e1 : IntKind.i64.wrap ((m : Int) - (a : Int)) = ((m - a : Nat) : Int) := by rw [IntKind.wrap_i64]; omega
 have e2 : IntKind.i64.wrap ((b : Int) - (m : Int)) = ((b - m : Nat) : Int) := by rw [IntKind.wrap_i64]; omega
 clear hR hN hc h1 h2 h3
 obtain ⟨D, hD⟩ : ∃ D, D = rot d a m b := ⟨_, rfl⟩
 rw [← hD]
 have HD : Hid (D = rot d a m b) := hD
 clear hD
 obtain ⟨p, hp⟩ : ∃ p, p = m - a := ⟨_, rfl⟩
 obtain ⟨q, hq⟩ : ∃ q, q = b - m := ⟨_, rfl⟩
 rw [← hp] at e1
 rw [← hq] at e2
 have HP : Hid (p = m - a ∧ q = b - m) := ⟨hp, hq⟩
 clear hp hq
 have e1' : ((m : Int) - (a : Int)) = (p : Int) := by have := HP.out; have := HA.out; omega
 have e2' : ((b : Int) - (m : Int)) = (q : Int) := by have := HP.out; have := HM.out; omega
 have hp6 : (p : Int) ≤ 1000000 := by have := HP.out; have := HN.out; have := HM.out; have := HB.out; omega
 have hq6 : (q : Int) ≤ 1000000 := by have := HP.out; have := HN.out; have := HM.out; have := HB.out; omega
 go_enter Tryz.func177, Tryz.ntmps177
 go_wp2_with fail
 clear e1 e2 e1' e2' hp6 hq6
 go_loopw [10, 11] (fun v10 v11 wr => ∃ (i j : Nat) (dk : Nat → Int × Bool), v10 = .int .i64 (i : Int) ∧ v11 = .int .i64 (j : Int) ∧ 0 < i ∧ 0 < j ∧ i ≤ m ∧ m + j ≤ N ∧ RP w0 wr g N dk ∧ rot dk (m - i) m (m + j) = D) (fun v10 v11 _ => (intOf v10 + intOf v11).toNat)
 case atStart =>
   have h0 := HP.out
   have h1 := HA.out
   have h2 := HM.out
   have h3 := HB.out
   refine ⟨p, q, d, rfl, rfl, by omega, by omega, by omega, by omega, H0.out, ?_⟩
   rw [HD.out]; congr 1 <;> omega
 case round =>
   clear H0 HD HP
   obtain ⟨i, j, dk, rfl, rfl, hi, hj, him, hjm, hr, he⟩ := hrel
   have HR := Lib.hid hr; clear hr
   have HE := Lib.hid he; clear he
   have HI : Hid (0 < i ∧ 0 < j ∧ i ≤ m ∧ m + j ≤ N) := ⟨hi, hj, him, hjm⟩
   have n1 : (m : Int) ≤ 1000000 := by have := HN.out; omega
   have s1 : IntKind.i64.wrap ((m : Int) - (i : Int)) = ((m - i : Nat) : Int) := by rw [IntKind.wrap_i64]; omega
   have s1' : ((m : Int) - (i : Int)) = ((m - i : Nat) : Int) := by omega
   by_cases hne : i = j
   · subst hne
     have HX := swapRangeP w0 g N cap (m - i) m i f dk wr HR.out HN.out HC.out (by omega) (by omega)
     rw [rot_same dk m i him, HE.out] at HX
     generalize m - i = mi at *
     have hb : ((i : Int) == (i : Int)) = true := by simp
     go_wp2_with fail
     with_reducible refine HX.mono ?_
     rintro e w' ⟨rfl, h⟩
     go_wp2
     go_returns
     exact ⟨rfl, h⟩
   · have hb : ((i : Int) == (j : Int)) = false := by simp; omega
     have hb' : ¬ ((i : Int) = (j : Int)) := by omega
     by_cases hgt : j < i
     · have HX := swapRangeP w0 g N cap (m - i) m j f dk wr HR.out HN.out HC.out (by omega) (by omega)
       have HF := (rot_left dk m i j him hgt).trans HE.out
       have hd1 : decide (j < i) = true := decide_eq_true hgt
       have s2 : IntKind.i64.wrap ((i : Int) - (j : Int)) = ((i - j : Nat) : Int) := by rw [IntKind.wrap_i64]; omega
       have s2' : ((i : Int) - (j : Int)) = ((i - j : Nat) : Int) := by omega
       have HQ := Lib.hid HF; clear HF
       have HG := Lib.hid hgt; clear hgt
       clear hi hj him hjm
       generalize m - i = mi at *
       generalize i - j = ij at *
       go_wp2_with fail
       with_reducible refine HX.mono ?_
       rintro e w' ⟨rfl, h⟩
       have HH := Lib.hid h; clear h
       go_wp2
       have := HI.out
       have := HG.out
       have hij : ij = i - j := by omega
       refine ⟨⟨ij, j, _, rfl, rfl, by omega, by omega, by omega, by omega, HH.out, ?_⟩, by simp [intOf]; omega⟩
       exact HQ.out
     · have hlt : i < j := by omega
       have HX := swapRangeP w0 g N cap (m - i) (m + j - i) i f dk wr HR.out HN.out HC.out (by omega) (by omega)
       have HF := (rot_right dk m i j him hlt).trans HE.out
       have hd1 : decide (j < i) = false := decide_eq_false (by omega)
       have s2' : ((j : Int) - (i : Int)) = ((j - i : Nat) : Int) := by omega
       have j6 : (j : Int) ≤ 1000000 := by have := HN.out; omega
       have b3 : ((m + j : Nat) : Int) ≤ 1000000 := by have := HN.out; omega
       have b4 : ((m + j - i : Nat) : Int) ≤ 1000000 := by have := HN.out; omega
       have s3' : ((m : Int) + (j : Int)) = ((m + j : Nat) : Int) := by omega
       have s4' : (((m + j : Nat) : Int) - (i : Int)) = ((m + j - i : Nat) : Int) := by omega
       have HQ : Hid (rot (swr dk (m - i) (m + j - i) i) (m - i) m (m + (j - i)) = D) := by
         rw [show m + (j - i) = m + j - i by omega]; exact HF
       clear HF
       have HG := Lib.hid hlt; clear hlt hgt
       obtain ⟨mi, hmi⟩ : ∃ x, x = m - i := ⟨_, rfl⟩
       obtain ⟨ji, hji⟩ : ∃ x, x = j - i := ⟨_, rfl⟩
       obtain ⟨mj, hmj⟩ : ∃ x, x = m + j := ⟨_, rfl⟩
       obtain ⟨mji, hmji⟩ : ∃ x, x = m + j - i := ⟨_, rfl⟩
       rw [← hmi] at s1 s1' HX
       rw [← hmji] at b4 s4' HX
       rw [← hmj] at b3 s3' s4'
       rw [← hji] at s2'
       have HV : Hid (mi = m - i ∧ ji = j - i ∧ mji = m + j - i) := ⟨hmi, hji, hmji⟩
       clear hmi hji hmj hmji hi hj him hjm hne hb'
       go_wp2_with fail
       with_reducible refine HX.mono ?_
       rintro e w' ⟨rfl, h⟩
       have HH := Lib.hid h; clear h
       go_wp2
       have := HI.out
       have := HG.out
       obtain ⟨v1, v2, v3⟩ := HV.out
       subst v1 v2 v3
       refine ⟨⟨i, j - i, _, rfl, rfl, by omega, by omega, by omega, by omega, HH.out, ?_⟩, by simp [intOf]; omega⟩
       exact HQ.out
end Go.Proofs.YtenkkononchgmaaGreatDoor
