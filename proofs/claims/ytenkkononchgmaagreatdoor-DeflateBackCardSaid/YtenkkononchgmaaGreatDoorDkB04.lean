/- Laid together: LzSpec InfSpec InfNext. -/
import Derived.Test.YtenkkononchgmaaGreatDoorDkB03

namespace Go.Proofs.YtenkkononchgmaaGreatDoor
namespace Lz

structure Pc where
 c : Int
 n : Int
 d : Int
def Pc.isB (p : Pc) : Prop := p.n = 0 ∧ p.d = 0
def Pc.isM (p : Pc) : Prop := p.c = 0 ∧ 3 ≤ p.n ∧ p.n ≤ 258 ∧ 1 ≤ p.d ∧ p.d ≤ 32768
instance (p : Pc) : Decidable p.isB := by unfold Pc.isB; infer_instance
instance (p : Pc) : Decidable p.isM := by unfold Pc.isM; infer_instance
def rep (s : List Int) (d : Nat) : Nat → List Int
 | 0 => s
 | k + 1 => rep s d k ++ [(rep s d k).getD ((rep s d k).length - d) 0]
theorem rep_length (s : List Int) (d : Nat) : ∀ k, (rep s d k).length = s.length + k
 | 0 => rfl
 | k + 1 => by rw [rep, List.length_append, rep_length s d k]; simp; omega
def fit (L : Nat) (p : Pc) : Prop := (p.isB ∨ p.isM) ∧ p.d ≤ L ∧ (L : Int) + max p.n 1 ≤ 65536
instance (L : Nat) (p : Pc) : Decidable (fit L p) := by unfold fit; infer_instance
def one (s : List Int) (p : Pc) : List Int := if p.n = 0 then s ++ [p.c] else rep s p.d.toNat p.n.toNat
def ex : List Int → List Pc → Option (List Int)
 | s, [] => some s
 | s, p :: r => if fit s.length p then ex (one s p) r else none
theorem take_one {α : Type} [Inhabited α] (l : List α) (k : Nat) (hk : k < l.length) : l.take (k + 1) = l.take k ++ [l[k]] := by
 rw [List.take_add_one, List.getElem?_eq_getElem hk]; rfl
instance : Inhabited Pc := ⟨⟨0, 0, 0⟩⟩
def Byt (s : List Int) : Prop := ∀ x ∈ s, 0 ≤ x ∧ x < 256
theorem byt_getD {s : List Int} (h : Byt s) (j : Nat) : 0 ≤ s.getD j 0 ∧ s.getD j 0 < 256 := by
 by_cases hj : j < s.length
 · rw [List.getD_eq_getElem?_getD, List.getElem?_eq_getElem hj]
   exact h _ (List.getElem_mem hj)
 · rw [List.getD_eq_getElem?_getD, List.getElem?_eq_none (by omega)]
   decide
/-! What the program tells of bytes. -/
def lastb (b : List Int) (x : Int × Int × Int) : Nat → Int
 | 0 => -1
 | j + 1 => if (b.getD j 0, b.getD (j + 1) 0, b.getD (j + 2) 0) = x then (j : Int) else lastb b x j
def thr (b : List Int) (j : Nat) : Int × Int × Int := (b.getD j 0, b.getD (j + 1) 0, b.getD (j + 2) 0)
def ahd (b : List Int) (j : Nat) : Int := if j + 3 ≤ b.length then lastb b (thr b j) j else -1
theorem lastb_cases (b : List Int) (x : Int × Int × Int) : ∀ j, lastb b x j = -1 ∨ ∃ i, i < j ∧ lastb b x j = (i : Int) ∧ thr b i = x
 | 0 => Or.inl rfl
 | j + 1 => by
   rw [lastb]
   by_cases h : (b.getD j 0, b.getD (j + 1) 0, b.getD (j + 2) 0) = x
   · rw [if_pos h]; exact Or.inr ⟨j, by omega, rfl, h⟩
   · rw [if_neg h]
     rcases lastb_cases b x j with h1 | ⟨i, hi, h1, h2⟩
     · exact Or.inl h1
     · exact Or.inr ⟨i, by omega, h1, h2⟩
theorem ahd_cases (b : List Int) (j : Nat) : ahd b j = -1 ∨ ∃ i, i < j ∧ ahd b j = (i : Int) ∧ thr b i = thr b j ∧ j + 3 ≤ b.length := by
 unfold ahd
 by_cases h : j + 3 ≤ b.length
 · rw [if_pos h]
   rcases lastb_cases b (thr b j) j with h1 | ⟨i, hi, h1, h2⟩
   · exact Or.inl h1
   · exact Or.inr ⟨i, hi, h1, h2, h⟩
 · rw [if_neg h]; exact Or.inl rfl
def alk (b : List Int) (f a : Nat) : Nat → Nat → Nat
 | 0, n => n
 | k + 1, n => if a + n < b.length ∧ b.getD (f + n) 0 = b.getD (a + n) 0 then alk b f a k (n + 1) else n
theorem alk_spec (b : List Int) (f a : Nat) : ∀ k n, (∀ i, i < n → b.getD (f + i) 0 = b.getD (a + i) 0) → (n = 0 ∨ a + n ≤ b.length) →
   n ≤ alk b f a k n ∧ alk b f a k n ≤ n + k ∧ (∀ i, i < alk b f a k n → b.getD (f + i) 0 = b.getD (a + i) 0) ∧ (alk b f a k n = 0 ∨ a + alk b f a k n ≤ b.length)
     ∧ (alk b f a k n = n + k ∨ ¬ (a + alk b f a k n < b.length ∧ b.getD (f + alk b f a k n) 0 = b.getD (a + alk b f a k n) 0))
 | 0, n, h, h0 => ⟨Nat.le_refl _, Nat.le_refl _, h, h0, Or.inl rfl⟩
 | k + 1, n, h, h0 => by
   rw [alk]
   by_cases hc : a + n < b.length ∧ b.getD (f + n) 0 = b.getD (a + n) 0
   · rw [if_pos hc]
     obtain ⟨h1, h2, h3, h4, h5⟩ := alk_spec b f a k (n + 1) (fun i hi => by
       by_cases hin : i = n
       · rw [hin]; exact hc.2
       · exact h i (by omega)) (Or.inr (by omega))
     exact ⟨by omega, by omega, h3, h4, by rcases h5 with h5 | h5; · exact Or.inl (by omega)
                                           · exact Or.inr h5⟩
   · rw [if_neg hc]
     exact ⟨Nat.le_refl _, by omega, h, h0, Or.inr hc⟩
def lgo (b : List Int) (at_ : Nat) : Nat → Nat → Nat × Nat → Nat × Nat
 | 0, _, best => best
 | k + 1, f, best => if ahd b f = -1 ∨ (at_ : Int) - ahd b f > 32768 then best else
     lgo b at_ k (ahd b f).toNat (if alk b (ahd b f).toNat at_ 258 0 > best.1 then (alk b (ahd b f).toNat at_ 258 0, at_ - (ahd b f).toNat) else best)
def lng (b : List Int) (at_ : Nat) : Nat × Nat := lgo b at_ 16 at_ (0, 0)
structure Good (b : List Int) (at_ : Nat) (m : Nat × Nat) : Prop where
 lo : 3 ≤ m.1
 hi : m.1 ≤ 258
 d1 : 1 ≤ m.2
 d2 : m.2 ≤ at_
 d3 : m.2 ≤ 32768
 le : at_ + m.1 ≤ b.length
 same : ∀ k, k < m.1 → b.getD (at_ + k) 0 = b.getD (at_ + k - m.2) 0
theorem lgo_good (b : List Int) (at_ : Nat) : ∀ (k f : Nat) (best : Nat × Nat), f ≤ at_ → (f = at_ ∨ at_ + 3 ≤ b.length) → thr b f = thr b at_ → (best = (0, 0) ∨ Good b at_ best) →
   (lgo b at_ k f best = (0, 0) ∨ Good b at_ (lgo b at_ k f best)) ∧ best.1 ≤ (lgo b at_ k f best).1
 | 0, _, best, _, _, _, h => ⟨h, Nat.le_refl _⟩
 | k + 1, f, best, hf, h30, ht, h => by
   rw [lgo]
   rcases ahd_cases b f with h1 | ⟨i, hi, h1, h2, h3⟩
   · rw [if_pos (Or.inl h1)]; exact ⟨h, Nat.le_refl _⟩
   · rw [h1]
     by_cases hw : (i : Int) = -1 ∨ (at_ : Int) - (i : Int) > 32768
     · rw [if_pos hw]; exact ⟨h, Nat.le_refl _⟩
     · rw [if_neg hw]
       simp only [Int.toNat_natCast]
       have hti : thr b i = thr b at_ := h2.trans ht
       have h4 : at_ + 3 ≤ b.length := by omega
       have hla : ∀ n, alk b i at_ 258 0 = n → n > best.1 → Good b at_ (n, at_ - i) := by
         intro n hn hb
         obtain ⟨-, a2, a3, a4, a5⟩ := alk_spec b i at_ 258 0 (fun j hj => absurd hj (by omega)) (Or.inl rfl)
         rw [hn] at a2 a3 a4 a5
         have e := hti
         unfold thr at e
         injection e with e0 e1
         injection e1 with e1 e2
         have hle : at_ + n ≤ b.length := by rcases a4 with a4 | a4 <;> omega
         have hat : 3 ≤ n := by
           rcases a5 with a5 | a5
           · omega
           · by_cases hlt : at_ + n < b.length
             · have hne : ¬ b.getD (i + n) 0 = b.getD (at_ + n) 0 := fun he => a5 ⟨hlt, he⟩
               by_cases hn3 : 3 ≤ n
               · exact hn3
               · exfalso
                 have : n = 0 ∨ n = 1 ∨ n = 2 := by omega
                 rcases this with rfl | rfl | rfl
                 · exact hne e0
                 · exact hne e1
                 · exact hne e2
             · omega
         refine ⟨hat, by omega, by show 1 ≤ at_ - i; omega, by show at_ - i ≤ at_; omega, by show at_ - i ≤ 32768; omega, hle, fun j hj => ?_⟩
         show b.getD (at_ + j) 0 = b.getD (at_ + j - (at_ - i)) 0
         rw [show at_ + j - (at_ - i) = i + j from by omega]
         exact (a3 j hj).symm
       have hh := lgo_good b at_ k i (if alk b i at_ 258 0 > best.1 then (alk b i at_ 258 0, at_ - i) else best) (by omega) (Or.inr h4) hti (by
         by_cases hb : alk b i at_ 258 0 > best.1
         · rw [if_pos hb]; exact Or.inr (hla _ rfl hb)
         · rw [if_neg hb]; exact h)
       refine ⟨hh.1, Nat.le_trans ?_ hh.2⟩
       by_cases hb : alk b i at_ 258 0 > best.1
       · rw [if_pos hb]; show best.1 ≤ alk b i at_ 258 0; omega
       · rw [if_neg hb]; exact Nat.le_refl _
theorem lng_good (b : List Int) (at_ : Nat) : lng b at_ = (0, 0) ∨ Good b at_ (lng b at_) := (lgo_good b at_ 16 at_ (0, 0) (Nat.le_refl _) (Or.inl rfl) rfl (Or.inl rfl)).1
theorem lng_pos {b : List Int} {at_ : Nat} (h : (lng b at_).1 ≠ 0) : Good b at_ (lng b at_) := by
 rcases lng_good b at_ with h1 | h1
 · rw [h1] at h; exact absurd rfl h
 · exact h1
def alone (b : List Int) (at_ : Nat) : Prop := (lng b at_).1 = 0 ∨ (lng b (at_ + 1)).1 > (lng b at_).1
instance (b : List Int) (at_ : Nat) : Decidable (alone b at_) := by unfold alone; infer_instance
def prs (b : List Int) : Nat → Nat → List Pc
 | 0, _ => []
 | k + 1, at_ => if at_ < b.length then (if alone b at_ then ⟨b.getD at_ 0, 0, 0⟩ :: prs b k (at_ + 1) else ⟨0, (lng b at_).1, (lng b at_).2⟩ :: prs b k (at_ + (lng b at_).1)) else []
def par (b : List Int) : List Pc := prs b b.length 0
theorem prs_end (b : List Int) (k at_ : Nat) (h : b.length ≤ at_) : prs b k at_ = [] := by
 cases k with
 | zero => rfl
 | succ k => rw [prs, if_neg (by omega)]
theorem prs_length (b : List Int) : ∀ k at_, at_ ≤ b.length → (prs b k at_).length ≤ b.length - at_
 | 0, _, _ => Nat.zero_le _
 | k + 1, at_, _ => by
   rw [prs]
   by_cases h : at_ < b.length
   · rw [if_pos h]
     by_cases ha : alone b at_
     · rw [if_pos ha]
       have := prs_length b k (at_ + 1) (by omega)
       simp only [List.length_cons]; omega
     · rw [if_neg ha]
       have g := lng_pos (fun e => ha (Or.inl e))
       have := prs_length b k (at_ + (lng b at_).1) g.le
       have := g.lo
       have := g.le
       simp only [List.length_cons]; omega
   · rw [if_neg h]; exact Nat.zero_le _
theorem par_length (b : List Int) : (par b).length ≤ b.length := prs_length b _ 0 (Nat.zero_le _)
theorem getD_take (b : List Int) (m j : Nat) (h : j < m) : (b.take m).getD j 0 = b.getD j 0 := by
 rw [List.getD_eq_getElem?_getD, List.getD_eq_getElem?_getD, List.getElem?_take, if_pos h]
theorem take_getD (b : List Int) (k : Nat) (hk : k < b.length) : b.take (k + 1) = b.take k ++ [b.getD k 0] := by
 rw [take_one b k hk, List.getD_eq_getElem?_getD, List.getElem?_eq_getElem hk]; rfl
theorem rep_good {b : List Int} {at_ : Nat} {m : Nat × Nat} (g : Good b at_ m) (s : List Int) : ∀ k, k ≤ m.1 → rep (s ++ b.take at_) m.2 k = s ++ b.take (at_ + k)
 | 0, _ => rfl
 | k + 1, hk => by
   have g1 := g.le
   have g2 := g.d2
   have g3 := g.d1
   rw [rep, rep_good g s k (by omega), show at_ + (k + 1) = at_ + k + 1 from rfl, take_getD b (at_ + k) (by omega), List.append_assoc]
   congr 2
   have hl : (s ++ b.take (at_ + k)).length = s.length + (at_ + k) := by rw [List.length_append, List.length_take]; omega
   rw [hl, List.getD_eq_getElem?_getD, List.getElem?_append_right (by omega), ← List.getD_eq_getElem?_getD, getD_take _ _ _ (by omega),
     show s.length + (at_ + k) - m.2 - s.length = at_ + k - m.2 from by omega, ← g.same k (by omega)]
theorem ex_prs (b : List Int) (s : List Int) (hs : s.length + b.length ≤ 65536) : ∀ k at_, at_ ≤ b.length → b.length - at_ ≤ k → ex (s ++ b.take at_) (prs b k at_) = some (s ++ b)
 | 0, at_, h1, h2 => by
   rw [prs, ex, show at_ = b.length from by omega, List.take_length]
 | k + 1, at_, h1, h2 => by
   have hl : (s ++ b.take at_).length = s.length + at_ := by rw [List.length_append, List.length_take]; omega
   rw [prs]
   by_cases h : at_ < b.length
   · rw [if_pos h]
     by_cases ha : alone b at_
     · rw [if_pos ha, ex, if_pos]
       · have e : one (s ++ b.take at_) ⟨b.getD at_ 0, 0, 0⟩ = s ++ b.take (at_ + 1) := by
           show (s ++ b.take at_) ++ [b.getD at_ 0] = _
           rw [take_getD b at_ h, List.append_assoc]
         rw [e]
         exact ex_prs b s hs k (at_ + 1) (by omega) (by omega)
       · rw [hl]
         exact ⟨Or.inl ⟨rfl, rfl⟩, by show (0 : Int) ≤ _; omega, by show _ + max (0 : Int) 1 ≤ _; omega⟩
     · rw [if_neg ha, ex, if_pos]
       · have g := lng_pos (fun e => ha (Or.inl e))
         have g0 := g.lo
         have e : one (s ++ b.take at_) ⟨0, (lng b at_).1, (lng b at_).2⟩ = s ++ b.take (at_ + (lng b at_).1) := by
           show (if (((lng b at_).1 : Nat) : Int) = 0 then _ else rep (s ++ b.take at_) (((lng b at_).2 : Nat) : Int).toNat (((lng b at_).1 : Nat) : Int).toNat) = _
           rw [if_neg (by omega), Int.toNat_natCast, Int.toNat_natCast]
           exact rep_good g s _ (Nat.le_refl _)
         rw [e]
         have := g.le
         exact ex_prs b s hs k _ g.le (by omega)
       · rw [hl]
         have g := lng_pos (fun e => ha (Or.inl e))
         have g0 := g.lo
         have g1 := g.hi
         have g2 := g.d1
         have g3 := g.d2
         have g4 := g.d3
         have g5 := g.le
         exact ⟨Or.inr ⟨rfl, by show (3 : Int) ≤ ((lng b at_).1 : Nat); omega, by show (((lng b at_).1 : Nat) : Int) ≤ 258; omega, by show (1 : Int) ≤ ((lng b at_).2 : Nat); omega, by show (((lng b at_).2 : Nat) : Int) ≤ 32768; omega⟩,
           by show (((lng b at_).2 : Nat) : Int) ≤ _; omega, by show _ + max (((lng b at_).1 : Nat) : Int) 1 ≤ _; omega⟩
   · rw [if_neg h, ex, show at_ = b.length from by omega, List.take_length]
theorem ex_par (b s : List Int) (hs : s.length + b.length ≤ 65536) : ex s (par b) = some (s ++ b) := by
 have := ex_prs b s hs b.length 0 (Nat.zero_le _) (by omega)
 rwa [List.take_zero, List.append_nil] at this
theorem prs_mem {b : List Int} (hb : Byt b) : ∀ k at_, ∀ p ∈ prs b k at_, (0 ≤ p.c ∧ p.c < 256) ∧ (0 ≤ p.n ∧ p.n ≤ 258) ∧ (0 ≤ p.d ∧ p.d ≤ 32768)
 | 0, _, p, h => by cases h
 | k + 1, at_, p, h => by
   rw [prs] at h
   by_cases h0 : at_ < b.length
   · rw [if_pos h0] at h
     by_cases ha : alone b at_
     · rw [if_pos ha] at h
       rcases List.mem_cons.1 h with rfl | h
       · exact ⟨byt_getD hb _, by show (0 : Int) ≤ 0 ∧ (0 : Int) ≤ 258; decide, by show (0 : Int) ≤ 0 ∧ (0 : Int) ≤ 32768; decide⟩
       · exact prs_mem hb k _ p h
     · rw [if_neg ha] at h
       have g := lng_pos (fun e => ha (Or.inl e))
       have g1 := g.hi
       have g2 := g.d3
       rcases List.mem_cons.1 h with rfl | h
       · exact ⟨by show (0 : Int) ≤ 0 ∧ (0 : Int) < 256; decide, by show (0 : Int) ≤ ((lng b at_).1 : Nat) ∧ (((lng b at_).1 : Nat) : Int) ≤ 258; omega, by show (0 : Int) ≤ ((lng b at_).2 : Nat) ∧ (((lng b at_).2 : Nat) : Int) ≤ 32768; omega⟩
       · exact prs_mem hb k _ p h
   · rw [if_neg h0] at h; cases h
/-! Equal bytes. -/
theorem alk_all {b : List Int} {f a : Nat} (hb : ∀ i, i < b.length → b.getD i 0 = b.getD 0 0) (hf : f < a) (ha : a ≤ b.length) : alk b f a 258 0 = min 258 (b.length - a) := by
 obtain ⟨-, a2, -, a4, a5⟩ := alk_spec b f a 258 0 (fun j hj => absurd hj (by omega)) (Or.inl rfl)
 generalize alk b f a 258 0 = n at a2 a4 a5 ⊢
 rcases a5 with a5 | a5
 · omega
 · by_cases h : a + n < b.length
   · exact absurd ⟨h, by rw [hb _ (by omega), hb _ h]⟩ a5
   · omega
theorem lgo_same {b : List Int} {at_ : Nat} (hb : ∀ i, i < b.length → b.getD i 0 = b.getD 0 0) (hat : at_ + 3 ≤ b.length) : ∀ (k f : Nat) (best : Nat × Nat), f ≤ at_ → best.1 = min 258 (b.length - at_) →
   (lgo b at_ k f best).1 = min 258 (b.length - at_)
 | 0, _, _, _, h => h
 | k + 1, f, best, hf, h => by
   rw [lgo]
   rcases ahd_cases b f with h1 | ⟨i, hi, h1, -, -⟩
   · rw [if_pos (Or.inl h1)]; exact h
   · rw [h1]
     by_cases hw : (i : Int) = -1 ∨ (at_ : Int) - (i : Int) > 32768
     · rw [if_pos hw]; exact h
     · rw [if_neg hw]
       simp only [Int.toNat_natCast]
       rw [alk_all hb (by omega) (by omega), if_neg (by omega)]
       exact lgo_same hb hat k i best (by omega) h
theorem thr_same {b : List Int} (hb : ∀ i, i < b.length → b.getD i 0 = b.getD 0 0) {i j : Nat} (hi : i + 3 ≤ b.length) (hj : j + 3 ≤ b.length) : thr b i = thr b j := by
 unfold thr
 rw [hb i (by omega), hb (i + 1) (by omega), hb (i + 2) (by omega), hb j (by omega), hb (j + 1) (by omega), hb (j + 2) (by omega)]
theorem lng_same {b : List Int} (hb : ∀ i, i < b.length → b.getD i 0 = b.getD 0 0) {at_ : Nat} (h1 : 1 ≤ at_) (hat : at_ + 3 ≤ b.length) : (lng b at_).1 = min 258 (b.length - at_) := by
 have ha : ahd b at_ = ((at_ - 1 : Nat) : Int) := by
   unfold ahd
   rw [if_pos hat]
   obtain ⟨j, rfl⟩ : ∃ j, at_ = j + 1 := ⟨at_ - 1, by omega⟩
   rw [lastb, if_pos (show (b.getD j 0, b.getD (j + 1) 0, b.getD (j + 2) 0) = thr b (j + 1) from thr_same hb (i := j) (by omega) hat)]
   rfl
 unfold lng
 rw [lgo, ha, if_neg (by omega)]
 simp only [Int.toNat_natCast]
 rw [alk_all hb (by omega) (by omega), if_pos (by show _ > 0; omega)]
 exact lgo_same hb hat 15 _ _ (by omega) rfl
theorem lng_top {b : List Int} {at_ : Nat} : (lng b at_).1 ≤ min 258 (b.length - at_) := by
 rcases lng_good b at_ with h | h
 · rw [h]; exact Nat.zero_le _
 · have := h.hi
   have := h.le
   omega
theorem prs_same {b : List Int} (hb : ∀ i, i < b.length → b.getD i 0 = b.getD 0 0) : ∀ k at_, 1 ≤ at_ → at_ ≤ b.length → (prs b k at_).length ≤ (b.length - at_) / 258 + 2
 | 0, _, _, _ => Nat.zero_le _
 | k + 1, at_, h1, h2 => by
   by_cases h3 : at_ + 3 ≤ b.length
   · rw [prs, if_pos (by omega)]
     have e := lng_same hb h1 h3
     have ha : ¬ alone b at_ := by
       intro ha
       rcases ha with ha | ha
       · omega
       · have := @lng_top b (at_ + 1)
         omega
     rw [if_neg ha, List.length_cons, e]
     by_cases h4 : b.length - at_ < 258
     · rw [prs_end b k _ (by omega)]
       simp only [List.length_nil]; omega
     · have := prs_same hb k (at_ + 258) (by omega) (by omega)
       rw [show min 258 (b.length - at_) = 258 from by omega]
       omega
   · have := prs_length b (k + 1) at_ h2
     omega
theorem par_same {b : List Int} (hb : ∀ i, i < b.length → b.getD i 0 = b.getD 0 0) : (par b).length ≤ b.length / 258 + 4 := by
 unfold par
 cases hn : b.length with
 | zero => exact Nat.zero_le _
 | succ n =>
   rw [prs, if_pos (by omega)]
   have h0 : alone b 0 := Or.inl (by
     rcases lng_good b 0 with h | h
     · rw [h]
     · have := h.d1
       have := h.d2
       omega)
   rw [if_pos h0, List.length_cons]
   have h := prs_same hb n 1 (Nat.le_refl _) (by omega)
   rw [hn] at h
   show (prs b n 1).length + 1 ≤ _
   omega
end Lz
end Go.Proofs.YtenkkononchgmaaGreatDoor

namespace Go.Proofs.YtenkkononchgmaaGreatDoor
namespace Inf

def num (V p n : Nat) : Nat := V / 2 ^ p % 2 ^ n
theorem num_lt (V p n : Nat) : num V p n < 2 ^ n := Nat.mod_lt _ (Nat.two_pow_pos n)
theorem num_zero (V p : Nat) : num V p 0 = 0 := by rw [num, Nat.pow_zero, Nat.mod_one]
theorem num_succ (V p n : Nat) : num V p (n + 1) = num V p n + V / 2 ^ (p + n) % 2 * 2 ^ n := by
 unfold num
 rw [Nat.pow_succ, Nat.mod_mul, Nat.div_div_eq_div_mul, ← Nat.pow_add, Nat.mul_comm (2 ^ n)]
def lf (l : List Nat) : Nat → Int := fun j => ((l.getD j 0 : Nat) : Int)
def Mk (l : List Nat) : Prop := Huf.Makes (lf l) l.length
def At (l : List Nat) (V N p k i : Nat) : Prop := p + k ≤ N ∧ Huf.Hit (lf l) l.length V p k i ∧ ∀ j, j < k → ∀ t, ¬ Huf.Hit (lf l) l.length V p j t
theorem At.one {l : List Nat} {V N p k i k' i' : Nat} (h : At l V N p k i) (h' : At l V N p k' i') : k = k' ∧ i = i' := by
 rcases Nat.lt_trichotomy k k' with c | c | c
 · exact absurd h.2.1 (h'.2.2 k c i)
 · subst c; exact ⟨rfl, Huf.hit_same h.2.1 h'.2.1⟩
 · exact absurd h'.2.1 (h.2.2 k' c i')
open Classical in
noncomputable def sy (l : List Nat) (V N p : Nat) : Option (Nat × Nat) :=
 if h : ∃ k i, At l V N p k i then some (h.choose_spec.choose, p + h.choose) else none
theorem sy_some {l : List Nat} {V N p k i : Nat} (h : At l V N p k i) : sy l V N p = some (i, p + k) := by
 have hx : ∃ k i, At l V N p k i := ⟨k, i, h⟩
 unfold sy
 rw [dif_pos hx]
 obtain ⟨h1, h2⟩ := hx.choose_spec.choose_spec.one h
 rw [h2, h1]
theorem sy_none {l : List Nat} {V N p : Nat} (h : ∀ k i, p + k ≤ N → ¬ Huf.Hit (lf l) l.length V p k i) : sy l V N p = none := by
 unfold sy
 rw [dif_neg]
 rintro ⟨k, i, h1, h2, _⟩
 exact h k i h1 h2
theorem sy_cases (l : List Nat) (V N p : Nat) : sy l V N p = none ∨ ∃ k i, At l V N p k i ∧ sy l V N p = some (i, p + k) := by
 by_cases h : ∃ k i, At l V N p k i
 · obtain ⟨k, i, h⟩ := h
   exact .inr ⟨k, i, h, sy_some h⟩
 · left; unfold sy; rw [dif_neg h]
theorem At.lt {l : List Nat} {V N p k i : Nat} (h : At l V N p k i) : i < l.length := h.2.1.1
theorem At.pos {l : List Nat} {V N p k i : Nat} (h : At l V N p k i) : 0 < k := h.2.1.2.1
theorem sy_lt {l : List Nat} {V N p s q : Nat} (h : sy l V N p = some (s, q)) : s < l.length ∧ p < q ∧ q ≤ N := by
 rcases sy_cases l V N p with e | ⟨k, i, h1, e⟩
 · rw [e] at h; cases h
 · rw [e] at h; cases h
   have := h1.lt; have := h1.pos; have := h1.1
   exact ⟨by omega, by omega, by omega⟩

inductive R (α : Type) where
 | err (e : Int)
 | ok (p : Nat) (a : α)
inductive St (α : Type) where
 | go (p : Nat) (a : α)
 | fin (r : R α)
inductive Run {α : Type} (f : Nat → α → St α) : Nat → α → R α → Prop
 | fin {p : Nat} {a : α} {r : R α} (h : f p a = .fin r) : Run f p a r
 | go {p q : Nat} {a b : α} {r : R α} (h : f p a = .go q b) (h2 : Run f q b r) : Run f p a r
theorem Run.one {α : Type} {f : Nat → α → St α} {p : Nat} {a : α} {r r' : R α} (h : Run f p a r) (h' : Run f p a r') : r = r' := by
 induction h with
 | fin h =>
   cases h' with
   | fin g => rw [h] at g; cases g; rfl
   | go g _ => rw [h] at g; cases g
 | go h h2 ih =>
   cases h' with
   | fin g => rw [h] at g; cases g
   | go g g2 => rw [h] at g; cases g; exact ih g2
open Classical in
noncomputable def runs {α : Type} (f : Nat → α → St α) (p : Nat) (a : α) : R α := if h : ∃ r, Run f p a r then h.choose else .err 4
theorem Run.eq {α : Type} {f : Nat → α → St α} {p : Nat} {a : α} {r : R α} (h : Run f p a r) : runs f p a = r := by
 have hx : ∃ r, Run f p a r := ⟨r, h⟩
 unfold runs
 rw [dif_pos hx]
 exact hx.choose_spec.one h
theorem runs_fin {α : Type} {f : Nat → α → St α} {p : Nat} {a : α} {r : R α} (h : f p a = .fin r) : runs f p a = r := (Run.fin h).eq
theorem runs_go {α : Type} {f : Nat → α → St α} {p q : Nat} {a b : α} (h : f p a = .go q b) : runs f p a = runs f q b := by
 by_cases hx : ∃ r, Run f q b r
 · obtain ⟨r, hr⟩ := hx
   rw [hr.eq, (Run.go h hr).eq]
 · have hn : ¬ ∃ r, Run f p a r := by
     rintro ⟨r, hr⟩
     cases hr with
     | fin g => rw [h] at g; cases g
     | go g g2 => rw [h] at g; cases g; exact hx ⟨_, g2⟩
   unfold runs
   rw [dif_neg hx, dif_neg hn]

def lbs : List Nat := [3, 4, 5, 6, 7, 8, 9, 10, 11, 13, 15, 17, 19, 23, 27, 31, 35, 43, 51, 59, 67, 83, 99, 115, 131, 163, 195, 227, 258]
def lxs : List Nat := [0, 0, 0, 0, 0, 0, 0, 0, 1, 1, 1, 1, 2, 2, 2, 2, 3, 3, 3, 3, 4, 4, 4, 4, 5, 5, 5, 5, 0]
def dbs : List Nat := [1, 2, 3, 4, 5, 7, 9, 13, 17, 25, 33, 49, 65, 97, 129, 193, 257, 385, 513, 769, 1025, 1537, 2049, 3073, 4097, 6145, 8193, 12289, 16385, 24577]
def dxs : List Nat := [0, 0, 0, 0, 1, 1, 2, 2, 3, 3, 4, 4, 5, 5, 6, 6, 7, 7, 8, 8, 9, 9, 10, 10, 11, 11, 12, 12, 13, 13]
def order : List Nat := [16, 17, 18, 0, 8, 7, 9, 6, 10, 5, 11, 4, 12, 3, 13, 2, 14, 1, 15]
def fixl : List Nat := List.replicate 144 8 ++ List.replicate 112 9 ++ List.replicate 24 7 ++ List.replicate 8 8
def fixd : List Nat := List.replicate 32 5

def up (p : Nat) : Nat := p + (8 - p % 8) % 8
def byts (V p n : Nat) : List Int := (List.range n).map fun i => ((num V (p + 8 * i) 8 : Nat) : Int)
theorem byts_length (V p n : Nat) : (byts V p n).length = n := by simp [byts]
theorem byts_succ (V p n : Nat) : byts V p (n + 1) = byts V p n ++ [((num V (p + 8 * n) 8 : Nat) : Int)] := by simp [byts, List.range_succ]
def stored (V N M p : Nat) (T : List Int) : R (List Int) :=
 if up p + 32 ≤ N ∧ num V (up p) 16 + num V (up p + 16) 16 = 65535 ∧ up p + 32 + 8 * num V (up p) 16 ≤ N then
   if M < T.length + num V (up p) 16 then .err 3 else .ok (up p + 32 + 8 * num V (up p) 16) (T ++ byts V (up p + 32) (num V (up p) 16))
 else .err 4
noncomputable def mfar (y : List Nat) (V N M n q : Nat) (T : List Int) : St (List Int) :=
 match sy y V N q with
 | none => .fin (.err 4)
 | some (k, r) =>
   if 29 < k ∨ N < r + dxs.getD k 0 then .fin (.err 4)
   else if T.length < dbs.getD k 0 + num V r (dxs.getD k 0) then .fin (.err 4)
   else if M < T.length + n then .fin (.err 3)
   else .go (r + dxs.getD k 0) (Lz.rep T (dbs.getD k 0 + num V r (dxs.getD k 0)) n)
noncomputable def mstep (y : List Nat) (V N M s q : Nat) (T : List Int) : St (List Int) :=
 if 285 < s ∨ N < q + lxs.getD (s - 257) 0 then .fin (.err 4)
 else mfar y V N M (lbs.getD (s - 257) 0 + num V q (lxs.getD (s - 257) 0)) (q + lxs.getD (s - 257) 0) T
noncomputable def cstep (x y : List Nat) (V N M p : Nat) (T : List Int) : St (List Int) :=
 match sy x V N p with
 | none => .fin (.err 4)
 | some (s, q) =>
   if s = 256 then .fin (.ok q T)
   else if 256 < s then mstep y V N M s q T
   else if M ≤ T.length then .fin (.err 3)
   else .go q (T ++ [(s : Int)])
open Classical in
noncomputable def coded (x y : List Nat) (V N M p : Nat) (T : List Int) : R (List Int) :=
 if Mk x ∧ Mk y then runs (cstep x y V N M) p T else .err 4
def lw (s : Nat) : Nat := if s = 16 then 2 else if s = 17 then 3 else if s = 18 then 7 else 0
def lk (s : Nat) : Nat := if s = 16 then 3 else if s = 17 then 3 else if s = 18 then 11 else 1
def lv (s : Nat) (A : List Nat) : Nat := if s = 16 then A.getD (A.length - 1) 0 else if s = 17 then 0 else if s = 18 then 0 else s
noncomputable def lstep (t : List Nat) (n V N p : Nat) (A : List Nat) : St (List Nat) :=
 if n ≤ A.length then .fin (.ok p A)
 else match sy t V N p with
 | none => .fin (.err 4)
 | some (s, q) =>
   if (s = 16 ∧ A.length = 0) ∨ N < q + lw s ∨ n < A.length + (lk s + num V q (lw s)) then .fin (.err 4)
   else .go (q + lw s) (A ++ List.replicate (lk s + num V q (lw s)) (lv s A))
def short (V p : Nat) : Nat → List Nat
 | 0 => List.replicate 19 0
 | c + 1 => (short V p c).set (order.getD c 0) (num V (p + 3 * c) 3)
theorem short_length (V p : Nat) : ∀ c, (short V p c).length = 19
 | 0 => List.length_replicate
 | c + 1 => by rw [short, List.length_set, short_length V p c]
open Classical in
noncomputable def dynamic (V N M p : Nat) (T : List Int) : R (List Int) :=
 if N < p + 14 ∨ 286 < 257 + num V p 5 ∨ 30 < 1 + num V (p + 5) 5 ∨ N < p + 14 + 3 * (4 + num V (p + 10) 4) then .err 4
 else if ¬ Mk (short V (p + 14) (4 + num V (p + 10) 4)) then .err 4
 else match runs (lstep (short V (p + 14) (4 + num V (p + 10) 4)) (257 + num V p 5 + (1 + num V (p + 5) 5)) V N) (p + 14 + 3 * (4 + num V (p + 10) 4)) [] with
 | .err _ => .err 4
 | .ok q A => if A.getD 256 0 = 0 then .err 4 else coded (A.take (257 + num V p 5)) (A.drop (257 + num V p 5)) V N M q T
noncomputable def block (V N M k p : Nat) (T : List Int) : R (List Int) :=
 if k = 0 then stored V N M p T else if k = 1 then coded fixl fixd V N M p T else if k = 2 then dynamic V N M p T else .err 4
noncomputable def bstep (V N M p : Nat) (T : List Int) : St (List Int) :=
 if N < p + 3 then .fin (.err 4)
 else match block V N M (num V (p + 1) 2) (p + 3) T with
 | .err e => .fin (.err e)
 | .ok q U => if num V p 1 = 1 then .fin (.ok q U) else .go q U
noncomputable def inflate (V N M : Nat) : R (List Int) := runs (bstep V N M) 0 []
end Inf
end Go.Proofs.YtenkkononchgmaaGreatDoor

namespace Go.Proofs.YtenkkononchgmaaGreatDoor

theorem Inf.no_beg {L : Nat → Int} {n V p k : Nat} (h : ¬ Huf.Beg L n V p k) (j : Nat) (hj : k ≤ j) (i : Nat) : ¬ Huf.Hit L n V p j i := fun g => h (Huf.hit_beg g k hj)
theorem Inf.next_sy {l : List Nat} {V Lb p q : Nat} {s : Int} {ok : Bool} (hm : Inf.Mk l) (h : Huf.NextQ (Huf.cnt (Inf.lf l) l.length) (Huf.syms (Inf.lf l) l.length 16) V Lb p s ok q) (hp : p ≤ 8 * Lb) :
   (ok = false ∧ s = 0 ∧ Inf.sy l V (8 * Lb) p = none) ∨ (ok = true ∧ ∃ i : Nat, s = (i : Int) ∧ Inf.sy l V (8 * Lb) p = some (i, q)) := by
 obtain ⟨k, rfl, ht⟩ := Huf.agree hm h
 cases ht with
 | found _ i h1 h2 h3 h4 => exact .inr ⟨rfl, i, rfl, Inf.sy_some ⟨by omega, h4, h3⟩⟩
 | short h2 h3 => exact .inl ⟨rfl, rfl, Inf.sy_none fun j t hj => h3 j (by omega) t⟩
 | none _ h1 h2 h3 h4 =>
   refine .inl ⟨rfl, rfl, Inf.sy_none fun j t hj ht => ?_⟩
   rcases Nat.lt_or_ge j k with c | c
   · exact h3 j c t ht
   · exact Inf.no_beg h4 j c t ht
end Go.Proofs.YtenkkononchgmaaGreatDoor
