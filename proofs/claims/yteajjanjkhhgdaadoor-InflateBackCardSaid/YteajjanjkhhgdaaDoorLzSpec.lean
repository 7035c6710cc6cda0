/- Pieces, and what they say: the chapter's words on lists; and which pieces the program tells of bytes, told by recursion. -/
namespace Go.Proofs.YteajjanjkhhgdaaDoor
namespace Lz

/-- a piece: its byte, its length, its distance -/
structure Pc where
  c : Int
  n : Int
  d : Int
def Pc.isB (p : Pc) : Prop := p.n = 0 ∧ p.d = 0
def Pc.isM (p : Pc) : Prop := p.c = 0 ∧ 3 ≤ p.n ∧ p.n ≤ 258 ∧ 1 ≤ p.d ∧ p.d ≤ 32768
instance (p : Pc) : Decidable p.isB := by unfold Pc.isB; infer_instance
instance (p : Pc) : Decidable p.isM := by unfold Pc.isM; infer_instance
/-- what a match says behind s -/
def rep (s : List Int) (d : Nat) : Nat → List Int
  | 0 => s
  | k + 1 => rep s d k ++ [(rep s d k).getD ((rep s d k).length - d) 0]
theorem rep_length (s : List Int) (d : Nat) : ∀ k, (rep s d k).length = s.length + k
  | 0 => rfl
  | k + 1 => by rw [rep, List.length_append, rep_length s d k]; simp; omega
/-- may the piece stand behind so many bytes? -/
def fit (L : Nat) (p : Pc) : Prop := (p.isB ∨ p.isM) ∧ p.d ≤ L ∧ (L : Int) + max p.n 1 ≤ 65536
instance (L : Nat) (p : Pc) : Decidable (fit L p) := by unfold fit; infer_instance
def one (s : List Int) (p : Pc) : List Int := if p.n = 0 then s ++ [p.c] else rep s p.d.toNat p.n.toNat
/-- what pieces say behind s -/
def ex : List Int → List Pc → Option (List Int)
  | s, [] => some s
  | s, p :: r => if fit s.length p then ex (one s p) r else none
theorem ex_append : ∀ (a b : List Pc) (s : List Int), ex s (a ++ b) = (ex s a).bind (fun t => ex t b)
  | [], _, _ => rfl
  | p :: a, b, s => by
    rw [List.cons_append, ex, ex]
    by_cases h : fit s.length p
    · rw [if_pos h, if_pos h]
      exact ex_append a b _
    · rw [if_neg h, if_neg h]; rfl
theorem take_one {α : Type} [Inhabited α] (l : List α) (k : Nat) (hk : k < l.length) : l.take (k + 1) = l.take k ++ [l[k]] := by
  rw [List.take_add_one, List.getElem?_eq_getElem hk]; rfl
instance : Inhabited Pc := ⟨⟨0, 0, 0⟩⟩
theorem ex_take {l : List Pc} {k : Nat} (hk : k < l.length) {t : List Int} (h : ex [] (l.take k) = some t) :
    ex [] (l.take (k + 1)) = if fit t.length l[k] then some (one t l[k]) else none := by
  rw [take_one l k hk, ex_append, h]
  show (if fit t.length l[k] then ex (one t l[k]) [] else none) = _
  rfl
theorem ex_bad {l : List Pc} {k : Nat} (h : ex [] (l.take k) = none) : ex [] l = none := by
  have e : l = l.take k ++ l.drop k := (List.take_append_drop k l).symm
  rw [e, ex_append, h]; rfl
theorem one_length {s : List Int} {p : Pc} (h : fit s.length p) : (one s p).length = s.length + max p.n.toNat 1 := by
  unfold one
  obtain ⟨h1, h2, h3⟩ := h
  split
  · rename_i h0; rw [List.length_append, h0]; rfl
  · rename_i h0
    rw [rep_length]
    rcases h1 with ⟨h4, _⟩ | ⟨_, h5, _⟩
    · exact absurd h4 h0
    · omega
theorem ex_le : ∀ (l : List Pc) (s t : List Int), s.length ≤ 65536 → ex s l = some t → s.length ≤ t.length ∧ t.length ≤ 65536
  | [], s, t, hs, h => by cases h; exact ⟨Nat.le_refl _, hs⟩
  | p :: r, s, t, hs, h => by
    rw [ex] at h
    split at h
    · rename_i hf
      have e := one_length hf
      have h3 := hf.2.2
      have := ex_le r (one s p) t (by rw [e]; omega) h
      rw [e] at this
      omega
    · cases h
/-- bytes that are bytes -/
def Byt (s : List Int) : Prop := ∀ x ∈ s, 0 ≤ x ∧ x < 256
theorem byt_getD {s : List Int} (h : Byt s) (j : Nat) : 0 ≤ s.getD j 0 ∧ s.getD j 0 < 256 := by
  by_cases hj : j < s.length
  · rw [List.getD_eq_getElem?_getD, List.getElem?_eq_getElem hj]
    exact h _ (List.getElem_mem hj)
  · rw [List.getD_eq_getElem?_getD, List.getElem?_eq_none (by omega)]
    decide
theorem byt_snoc {s : List Int} (h : Byt s) {c : Int} (hc : 0 ≤ c ∧ c < 256) : Byt (s ++ [c]) := by
  intro x hx
  rcases List.mem_append.1 hx with h1 | h1
  · exact h x h1
  · rw [List.mem_singleton.1 h1]; exact hc
theorem byt_rep {s : List Int} (h : Byt s) (d : Nat) : ∀ k, Byt (rep s d k)
  | 0 => h
  | k + 1 => byt_snoc (byt_rep h d k) (byt_getD (byt_rep h d k) _)
theorem byt_one {s : List Int} (h : Byt s) {p : Pc} (hp : 0 ≤ p.c ∧ p.c < 256) : Byt (one s p) := by
  unfold one
  split
  · exact byt_snoc h hp
  · exact byt_rep h _ _

/-! What the program tells of bytes. -/
/-- where the three bytes x stood last ahead of j, or -1 -/
def lastb (b : List Int) (x : Int × Int × Int) : Nat → Int
  | 0 => -1
  | j + 1 => if (b.getD j 0, b.getD (j + 1) 0, b.getD (j + 2) 0) = x then (j : Int) else lastb b x j
def thr (b : List Int) (j : Nat) : Int × Int × Int := (b.getD j 0, b.getD (j + 1) 0, b.getD (j + 2) 0)
def ahd (b : List Int) (j : Nat) : Int := if j + 3 ≤ b.length then lastb b (thr b j) j else -1
theorem lastb_cases (b : List Int) (x : Int × Int × Int) : ∀ j, lastb b x j = -1 ∨ ∃ i, i < j ∧ lastb b x j = (i : Int) ∧ thr b i = x
  | 0 => Or.inl rfl
  | j + 1 => by
    rw [lastb]
    by_cases h : (b.getD j 0, b.getD (j + 1) 0, b.getD (j + 2) 0) = x
    · rw [if_pos h]; exact Or.inr ⟨j, by omega, rfl, h⟩
    · rw [if_neg h]
      rcases lastb_cases b x j with h1 | ⟨i, hi, h1, h2⟩
      · exact Or.inl h1
      · exact Or.inr ⟨i, by omega, h1, h2⟩
theorem ahd_cases (b : List Int) (j : Nat) : ahd b j = -1 ∨ ∃ i, i < j ∧ ahd b j = (i : Int) ∧ thr b i = thr b j ∧ j + 3 ≤ b.length := by
  unfold ahd
  by_cases h : j + 3 ≤ b.length
  · rw [if_pos h]
    rcases lastb_cases b (thr b j) j with h1 | ⟨i, hi, h1, h2⟩
    · exact Or.inl h1
    · exact Or.inr ⟨i, hi, h1, h2, h⟩
  · rw [if_neg h]; exact Or.inl rfl
/-- how many bytes are alike: k at most, n were -/
def alk (b : List Int) (f a : Nat) : Nat → Nat → Nat
  | 0, n => n
  | k + 1, n => if a + n < b.length ∧ b.getD (f + n) 0 = b.getD (a + n) 0 then alk b f a k (n + 1) else n
theorem alk_spec (b : List Int) (f a : Nat) : ∀ k n, (∀ i, i < n → b.getD (f + i) 0 = b.getD (a + i) 0) → (n = 0 ∨ a + n ≤ b.length) →
    n ≤ alk b f a k n ∧ alk b f a k n ≤ n + k ∧ (∀ i, i < alk b f a k n → b.getD (f + i) 0 = b.getD (a + i) 0) ∧ (alk b f a k n = 0 ∨ a + alk b f a k n ≤ b.length)
      ∧ (alk b f a k n = n + k ∨ ¬ (a + alk b f a k n < b.length ∧ b.getD (f + alk b f a k n) 0 = b.getD (a + alk b f a k n) 0))
  | 0, n, h, h0 => ⟨Nat.le_refl _, Nat.le_refl _, h, h0, Or.inl rfl⟩
  | k + 1, n, h, h0 => by
    rw [alk]
    by_cases hc : a + n < b.length ∧ b.getD (f + n) 0 = b.getD (a + n) 0
    · rw [if_pos hc]
      obtain ⟨h1, h2, h3, h4, h5⟩ := alk_spec b f a k (n + 1) (fun i hi => by
        by_cases hin : i = n
        · rw [hin]; exact hc.2
        · exact h i (by omega)) (Or.inr (by omega))
      exact ⟨by omega, by omega, h3, h4, by rcases h5 with h5 | h5; · exact Or.inl (by omega)
                                            · exact Or.inr h5⟩
    · rw [if_neg hc]
      exact ⟨Nat.le_refl _, by omega, h, h0, Or.inr hc⟩
/-- the longest of at most k places, from f on -/
def lgo (b : List Int) (at_ : Nat) : Nat → Nat → Nat × Nat → Nat × Nat
  | 0, _, best => best
  | k + 1, f, best => if ahd b f = -1 ∨ (at_ : Int) - ahd b f > 32768 then best else
      lgo b at_ k (ahd b f).toNat (if alk b (ahd b f).toNat at_ 258 0 > best.1 then (alk b (ahd b f).toNat at_ 258 0, at_ - (ahd b f).toNat) else best)
def lng (b : List Int) (at_ : Nat) : Nat × Nat := lgo b at_ 16 at_ (0, 0)
/-- is it a match at a place? -/
structure Good (b : List Int) (at_ : Nat) (m : Nat × Nat) : Prop where
  lo : 3 ≤ m.1
  hi : m.1 ≤ 258
  d1 : 1 ≤ m.2
  d2 : m.2 ≤ at_
  d3 : m.2 ≤ 32768
  le : at_ + m.1 ≤ b.length
  same : ∀ k, k < m.1 → b.getD (at_ + k) 0 = b.getD (at_ + k - m.2) 0
theorem lgo_good (b : List Int) (at_ : Nat) : ∀ (k f : Nat) (best : Nat × Nat), f ≤ at_ → (f = at_ ∨ at_ + 3 ≤ b.length) → thr b f = thr b at_ → (best = (0, 0) ∨ Good b at_ best) →
    (lgo b at_ k f best = (0, 0) ∨ Good b at_ (lgo b at_ k f best)) ∧ best.1 ≤ (lgo b at_ k f best).1
  | 0, _, best, _, _, _, h => ⟨h, Nat.le_refl _⟩
  | k + 1, f, best, hf, h30, ht, h => by
    rw [lgo]
    rcases ahd_cases b f with h1 | ⟨i, hi, h1, h2, h3⟩
    · rw [if_pos (Or.inl h1)]; exact ⟨h, Nat.le_refl _⟩
    · rw [h1]
      by_cases hw : (i : Int) = -1 ∨ (at_ : Int) - (i : Int) > 32768
      · rw [if_pos hw]; exact ⟨h, Nat.le_refl _⟩
      · rw [if_neg hw]
        simp only [Int.toNat_natCast]
        have hti : thr b i = thr b at_ := h2.trans ht
        have h4 : at_ + 3 ≤ b.length := by omega
        have hla : ∀ n, alk b i at_ 258 0 = n → n > best.1 → Good b at_ (n, at_ - i) := by
          intro n hn hb
          obtain ⟨-, a2, a3, a4, a5⟩ := alk_spec b i at_ 258 0 (fun j hj => absurd hj (by omega)) (Or.inl rfl)
          rw [hn] at a2 a3 a4 a5
          have e := hti
          unfold thr at e
          injection e with e0 e1
          injection e1 with e1 e2
          have hle : at_ + n ≤ b.length := by rcases a4 with a4 | a4 <;> omega
          have hat : 3 ≤ n := by
            rcases a5 with a5 | a5
            · omega
            · by_cases hlt : at_ + n < b.length
              · have hne : ¬ b.getD (i + n) 0 = b.getD (at_ + n) 0 := fun he => a5 ⟨hlt, he⟩
                by_cases hn3 : 3 ≤ n
                · exact hn3
                · exfalso
                  have : n = 0 ∨ n = 1 ∨ n = 2 := by omega
                  rcases this with rfl | rfl | rfl
                  · exact hne e0
                  · exact hne e1
                  · exact hne e2
              · omega
          refine ⟨hat, by omega, by show 1 ≤ at_ - i; omega, by show at_ - i ≤ at_; omega, by show at_ - i ≤ 32768; omega, hle, fun j hj => ?_⟩
          show b.getD (at_ + j) 0 = b.getD (at_ + j - (at_ - i)) 0
          rw [show at_ + j - (at_ - i) = i + j from by omega]
          exact (a3 j hj).symm
        have hh := lgo_good b at_ k i (if alk b i at_ 258 0 > best.1 then (alk b i at_ 258 0, at_ - i) else best) (by omega) (Or.inr h4) hti (by
          by_cases hb : alk b i at_ 258 0 > best.1
          · rw [if_pos hb]; exact Or.inr (hla _ rfl hb)
          · rw [if_neg hb]; exact h)
        refine ⟨hh.1, Nat.le_trans ?_ hh.2⟩
        by_cases hb : alk b i at_ 258 0 > best.1
        · rw [if_pos hb]; show best.1 ≤ alk b i at_ 258 0; omega
        · rw [if_neg hb]; exact Nat.le_refl _
theorem lng_good (b : List Int) (at_ : Nat) : lng b at_ = (0, 0) ∨ Good b at_ (lng b at_) := (lgo_good b at_ 16 at_ (0, 0) (Nat.le_refl _) (Or.inl rfl) rfl (Or.inl rfl)).1
theorem lng_pos {b : List Int} {at_ : Nat} (h : (lng b at_).1 ≠ 0) : Good b at_ (lng b at_) := by
  rcases lng_good b at_ with h1 | h1
  · rw [h1] at h; exact absurd rfl h
  · exact h1
/-- is a byte told alone? -/
def alone (b : List Int) (at_ : Nat) : Prop := (lng b at_).1 = 0 ∨ (lng b (at_ + 1)).1 > (lng b at_).1
instance (b : List Int) (at_ : Nat) : Decidable (alone b at_) := by unfold alone; infer_instance
def prs (b : List Int) : Nat → Nat → List Pc
  | 0, _ => []
  | k + 1, at_ => if at_ < b.length then (if alone b at_ then ⟨b.getD at_ 0, 0, 0⟩ :: prs b k (at_ + 1) else ⟨0, (lng b at_).1, (lng b at_).2⟩ :: prs b k (at_ + (lng b at_).1)) else []
def par (b : List Int) : List Pc := prs b b.length 0
theorem prs_end (b : List Int) (k at_ : Nat) (h : b.length ≤ at_) : prs b k at_ = [] := by
  cases k with
  | zero => rfl
  | succ k => rw [prs, if_neg (by omega)]
theorem prs_length (b : List Int) : ∀ k at_, at_ ≤ b.length → (prs b k at_).length ≤ b.length - at_
  | 0, _, _ => Nat.zero_le _
  | k + 1, at_, _ => by
    rw [prs]
    by_cases h : at_ < b.length
    · rw [if_pos h]
      by_cases ha : alone b at_
      · rw [if_pos ha]
        have := prs_length b k (at_ + 1) (by omega)
        simp only [List.length_cons]; omega
      · rw [if_neg ha]
        have g := lng_pos (fun e => ha (Or.inl e))
        have := prs_length b k (at_ + (lng b at_).1) g.le
        have := g.lo
        have := g.le
        simp only [List.length_cons]; omega
    · rw [if_neg h]; exact Nat.zero_le _
theorem par_length (b : List Int) : (par b).length ≤ b.length := prs_length b _ 0 (Nat.zero_le _)
/-- pieces say the bytes, behind whatever was said -/
theorem getD_take (b : List Int) (m j : Nat) (h : j < m) : (b.take m).getD j 0 = b.getD j 0 := by
  rw [List.getD_eq_getElem?_getD, List.getD_eq_getElem?_getD, List.getElem?_take, if_pos h]
theorem take_getD (b : List Int) (k : Nat) (hk : k < b.length) : b.take (k + 1) = b.take k ++ [b.getD k 0] := by
  rw [take_one b k hk, List.getD_eq_getElem?_getD, List.getElem?_eq_getElem hk]; rfl
theorem rep_good {b : List Int} {at_ : Nat} {m : Nat × Nat} (g : Good b at_ m) (s : List Int) : ∀ k, k ≤ m.1 → rep (s ++ b.take at_) m.2 k = s ++ b.take (at_ + k)
  | 0, _ => rfl
  | k + 1, hk => by
    have g1 := g.le
    have g2 := g.d2
    have g3 := g.d1
    rw [rep, rep_good g s k (by omega), show at_ + (k + 1) = at_ + k + 1 from rfl, take_getD b (at_ + k) (by omega), List.append_assoc]
    congr 2
    have hl : (s ++ b.take (at_ + k)).length = s.length + (at_ + k) := by rw [List.length_append, List.length_take]; omega
    rw [hl, List.getD_eq_getElem?_getD, List.getElem?_append_right (by omega), ← List.getD_eq_getElem?_getD, getD_take _ _ _ (by omega),
      show s.length + (at_ + k) - m.2 - s.length = at_ + k - m.2 from by omega, ← g.same k (by omega)]
theorem ex_prs (b : List Int) (s : List Int) (hs : s.length + b.length ≤ 65536) : ∀ k at_, at_ ≤ b.length → b.length - at_ ≤ k → ex (s ++ b.take at_) (prs b k at_) = some (s ++ b)
  | 0, at_, h1, h2 => by
    rw [prs, ex, show at_ = b.length from by omega, List.take_length]
  | k + 1, at_, h1, h2 => by
    have hl : (s ++ b.take at_).length = s.length + at_ := by rw [List.length_append, List.length_take]; omega
    rw [prs]
    by_cases h : at_ < b.length
    · rw [if_pos h]
      by_cases ha : alone b at_
      · rw [if_pos ha, ex, if_pos]
        · have e : one (s ++ b.take at_) ⟨b.getD at_ 0, 0, 0⟩ = s ++ b.take (at_ + 1) := by
            show (s ++ b.take at_) ++ [b.getD at_ 0] = _
            rw [take_getD b at_ h, List.append_assoc]
          rw [e]
          exact ex_prs b s hs k (at_ + 1) (by omega) (by omega)
        · rw [hl]
          exact ⟨Or.inl ⟨rfl, rfl⟩, by show (0 : Int) ≤ _; omega, by show _ + max (0 : Int) 1 ≤ _; omega⟩
      · rw [if_neg ha, ex, if_pos]
        · have g := lng_pos (fun e => ha (Or.inl e))
          have g0 := g.lo
          have e : one (s ++ b.take at_) ⟨0, (lng b at_).1, (lng b at_).2⟩ = s ++ b.take (at_ + (lng b at_).1) := by
            show (if (((lng b at_).1 : Nat) : Int) = 0 then _ else rep (s ++ b.take at_) (((lng b at_).2 : Nat) : Int).toNat (((lng b at_).1 : Nat) : Int).toNat) = _
            rw [if_neg (by omega), Int.toNat_natCast, Int.toNat_natCast]
            exact rep_good g s _ (Nat.le_refl _)
          rw [e]
          have := g.le
          exact ex_prs b s hs k _ g.le (by omega)
        · rw [hl]
          have g := lng_pos (fun e => ha (Or.inl e))
          have g0 := g.lo
          have g1 := g.hi
          have g2 := g.d1
          have g3 := g.d2
          have g4 := g.d3
          have g5 := g.le
          exact ⟨Or.inr ⟨rfl, by show (3 : Int) ≤ ((lng b at_).1 : Nat); omega, by show (((lng b at_).1 : Nat) : Int) ≤ 258; omega, by show (1 : Int) ≤ ((lng b at_).2 : Nat); omega, by show (((lng b at_).2 : Nat) : Int) ≤ 32768; omega⟩,
            by show (((lng b at_).2 : Nat) : Int) ≤ _; omega, by show _ + max (((lng b at_).1 : Nat) : Int) 1 ≤ _; omega⟩
    · rw [if_neg h, ex, show at_ = b.length from by omega, List.take_length]
theorem ex_par (b s : List Int) (hs : s.length + b.length ≤ 65536) : ex s (par b) = some (s ++ b) := by
  have := ex_prs b s hs b.length 0 (Nat.zero_le _) (by omega)
  rwa [List.take_zero, List.append_nil] at this
theorem prs_mem {b : List Int} (hb : Byt b) : ∀ k at_, ∀ p ∈ prs b k at_, (0 ≤ p.c ∧ p.c < 256) ∧ (0 ≤ p.n ∧ p.n ≤ 258) ∧ (0 ≤ p.d ∧ p.d ≤ 32768)
  | 0, _, p, h => by cases h
  | k + 1, at_, p, h => by
    rw [prs] at h
    by_cases h0 : at_ < b.length
    · rw [if_pos h0] at h
      by_cases ha : alone b at_
      · rw [if_pos ha] at h
        rcases List.mem_cons.1 h with rfl | h
        · exact ⟨byt_getD hb _, by show (0 : Int) ≤ 0 ∧ (0 : Int) ≤ 258; decide, by show (0 : Int) ≤ 0 ∧ (0 : Int) ≤ 32768; decide⟩
        · exact prs_mem hb k _ p h
      · rw [if_neg ha] at h
        have g := lng_pos (fun e => ha (Or.inl e))
        have g1 := g.hi
        have g2 := g.d3
        rcases List.mem_cons.1 h with rfl | h
        · exact ⟨by show (0 : Int) ≤ 0 ∧ (0 : Int) < 256; decide, by show (0 : Int) ≤ ((lng b at_).1 : Nat) ∧ (((lng b at_).1 : Nat) : Int) ≤ 258; omega, by show (0 : Int) ≤ ((lng b at_).2 : Nat) ∧ (((lng b at_).2 : Nat) : Int) ≤ 32768; omega⟩
        · exact prs_mem hb k _ p h
    · rw [if_neg h0] at h; cases h
/-! Equal bytes. -/
theorem alk_all {b : List Int} {f a : Nat} (hb : ∀ i, i < b.length → b.getD i 0 = b.getD 0 0) (hf : f < a) (ha : a ≤ b.length) : alk b f a 258 0 = min 258 (b.length - a) := by
  obtain ⟨-, a2, -, a4, a5⟩ := alk_spec b f a 258 0 (fun j hj => absurd hj (by omega)) (Or.inl rfl)
  generalize alk b f a 258 0 = n at a2 a4 a5 ⊢
  rcases a5 with a5 | a5
  · omega
  · by_cases h : a + n < b.length
    · exact absurd ⟨h, by rw [hb _ (by omega), hb _ h]⟩ a5
    · omega
theorem lgo_same {b : List Int} {at_ : Nat} (hb : ∀ i, i < b.length → b.getD i 0 = b.getD 0 0) (hat : at_ + 3 ≤ b.length) : ∀ (k f : Nat) (best : Nat × Nat), f ≤ at_ → best.1 = min 258 (b.length - at_) →
    (lgo b at_ k f best).1 = min 258 (b.length - at_)
  | 0, _, _, _, h => h
  | k + 1, f, best, hf, h => by
    rw [lgo]
    rcases ahd_cases b f with h1 | ⟨i, hi, h1, -, -⟩
    · rw [if_pos (Or.inl h1)]; exact h
    · rw [h1]
      by_cases hw : (i : Int) = -1 ∨ (at_ : Int) - (i : Int) > 32768
      · rw [if_pos hw]; exact h
      · rw [if_neg hw]
        simp only [Int.toNat_natCast]
        rw [alk_all hb (by omega) (by omega), if_neg (by omega)]
        exact lgo_same hb hat k i best (by omega) h
theorem thr_same {b : List Int} (hb : ∀ i, i < b.length → b.getD i 0 = b.getD 0 0) {i j : Nat} (hi : i + 3 ≤ b.length) (hj : j + 3 ≤ b.length) : thr b i = thr b j := by
  unfold thr
  rw [hb i (by omega), hb (i + 1) (by omega), hb (i + 2) (by omega), hb j (by omega), hb (j + 1) (by omega), hb (j + 2) (by omega)]
theorem lng_same {b : List Int} (hb : ∀ i, i < b.length → b.getD i 0 = b.getD 0 0) {at_ : Nat} (h1 : 1 ≤ at_) (hat : at_ + 3 ≤ b.length) : (lng b at_).1 = min 258 (b.length - at_) := by
  have ha : ahd b at_ = ((at_ - 1 : Nat) : Int) := by
    unfold ahd
    rw [if_pos hat]
    obtain ⟨j, rfl⟩ : ∃ j, at_ = j + 1 := ⟨at_ - 1, by omega⟩
    rw [lastb, if_pos (show (b.getD j 0, b.getD (j + 1) 0, b.getD (j + 2) 0) = thr b (j + 1) from thr_same hb (i := j) (by omega) hat)]
    rfl
  unfold lng
  rw [lgo, ha, if_neg (by omega)]
  simp only [Int.toNat_natCast]
  rw [alk_all hb (by omega) (by omega), if_pos (by show _ > 0; omega)]
  exact lgo_same hb hat 15 _ _ (by omega) rfl
theorem lng_top {b : List Int} {at_ : Nat} : (lng b at_).1 ≤ min 258 (b.length - at_) := by
  rcases lng_good b at_ with h | h
  · rw [h]; exact Nat.zero_le _
  · have := h.hi
    have := h.le
    omega
theorem prs_same {b : List Int} (hb : ∀ i, i < b.length → b.getD i 0 = b.getD 0 0) : ∀ k at_, 1 ≤ at_ → at_ ≤ b.length → (prs b k at_).length ≤ (b.length - at_) / 258 + 2
  | 0, _, _, _ => Nat.zero_le _
  | k + 1, at_, h1, h2 => by
    by_cases h3 : at_ + 3 ≤ b.length
    · rw [prs, if_pos (by omega)]
      have e := lng_same hb h1 h3
      have ha : ¬ alone b at_ := by
        intro ha
        rcases ha with ha | ha
        · omega
        · have := @lng_top b (at_ + 1)
          omega
      rw [if_neg ha, List.length_cons, e]
      by_cases h4 : b.length - at_ < 258
      · rw [prs_end b k _ (by omega)]
        simp only [List.length_nil]; omega
      · have := prs_same hb k (at_ + 258) (by omega) (by omega)
        rw [show min 258 (b.length - at_) = 258 from by omega]
        omega
    · have := prs_length b (k + 1) at_ h2
      omega
theorem par_same {b : List Int} (hb : ∀ i, i < b.length → b.getD i 0 = b.getD 0 0) : (par b).length ≤ b.length / 258 + 4 := by
  unfold par
  cases hn : b.length with
  | zero => exact Nat.zero_le _
  | succ n =>
    rw [prs, if_pos (by omega)]
    have h0 : alone b 0 := Or.inl (by
      rcases lng_good b 0 with h | h
      · rw [h]
      · have := h.d1
        have := h.d2
        omega)
    rw [if_pos h0, List.length_cons]
    have h := prs_same hb n 1 (Nat.le_refl _) (by omega)
    rw [hn] at h
    show (prs b n 1).length + 1 ≤ _
    omega
end Lz
end Go.Proofs.YteajjanjkhhgdaaDoor
