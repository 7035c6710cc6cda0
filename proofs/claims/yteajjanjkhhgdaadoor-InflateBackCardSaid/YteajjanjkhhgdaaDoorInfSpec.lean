/- DEFLATE, read: the chapter's words on a number whose bits are the stream's. No program is named here. -/
import Derived.Test.YteajjanjkhhgdaaDoorHufPref
import Derived.Test.YteajjanjkhhgdaaDoorLzSpec
namespace Go.Proofs.YteajjanjkhhgdaaDoor
namespace Inf

/-- the number of n bits that stands at p -/
def num (V p n : Nat) : Nat := V / 2 ^ p % 2 ^ n
theorem num_lt (V p n : Nat) : num V p n < 2 ^ n := Nat.mod_lt _ (Nat.two_pow_pos n)
theorem num_zero (V p : Nat) : num V p 0 = 0 := by rw [num, Nat.pow_zero, Nat.mod_one]
theorem num_succ (V p n : Nat) : num V p (n + 1) = num V p n + V / 2 ^ (p + n) % 2 * 2 ^ n := by
  unfold num
  rw [Nat.pow_succ, Nat.mod_mul, Nat.div_div_eq_div_mul, ← Nat.pow_add, Nat.mul_comm (2 ^ n)]
/-- lengths as a function -/
def lf (l : List Nat) : Nat → Int := fun j => ((l.getD j 0 : Nat) : Int)
/-- do they make a code? -/
def Mk (l : List Nat) : Prop := Huf.Makes (lf l) l.length
/-- so many bits at p are this symbol's code, and no fewer are any's -/
def At (l : List Nat) (V N p k i : Nat) : Prop := p + k ≤ N ∧ Huf.Hit (lf l) l.length V p k i ∧ ∀ j, j < k → ∀ t, ¬ Huf.Hit (lf l) l.length V p j t
theorem At.one {l : List Nat} {V N p k i k' i' : Nat} (h : At l V N p k i) (h' : At l V N p k' i') : k = k' ∧ i = i' := by
  rcases Nat.lt_trichotomy k k' with c | c | c
  · exact absurd h.2.1 (h'.2.2 k c i)
  · subst c; exact ⟨rfl, Huf.hit_same h.2.1 h'.2.1⟩
  · exact absurd h'.2.1 (h.2.2 k' c i')
open Classical in
/-- the next symbol, and where the bits behind it begin -/
noncomputable def sy (l : List Nat) (V N p : Nat) : Option (Nat × Nat) :=
  if h : ∃ k i, At l V N p k i then some (h.choose_spec.choose, p + h.choose) else none
theorem sy_some {l : List Nat} {V N p k i : Nat} (h : At l V N p k i) : sy l V N p = some (i, p + k) := by
  have hx : ∃ k i, At l V N p k i := ⟨k, i, h⟩
  unfold sy
  rw [dif_pos hx]
  obtain ⟨h1, h2⟩ := hx.choose_spec.choose_spec.one h
  rw [h2, h1]
theorem sy_none {l : List Nat} {V N p : Nat} (h : ∀ k i, p + k ≤ N → ¬ Huf.Hit (lf l) l.length V p k i) : sy l V N p = none := by
  unfold sy
  rw [dif_neg]
  rintro ⟨k, i, h1, h2, _⟩
  exact h k i h1 h2
theorem sy_cases (l : List Nat) (V N p : Nat) : sy l V N p = none ∨ ∃ k i, At l V N p k i ∧ sy l V N p = some (i, p + k) := by
  by_cases h : ∃ k i, At l V N p k i
  · obtain ⟨k, i, h⟩ := h
    exact .inr ⟨k, i, h, sy_some h⟩
  · left; unfold sy; rw [dif_neg h]
theorem At.lt {l : List Nat} {V N p k i : Nat} (h : At l V N p k i) : i < l.length := h.2.1.1
theorem At.pos {l : List Nat} {V N p k i : Nat} (h : At l V N p k i) : 0 < k := h.2.1.2.1
theorem sy_lt {l : List Nat} {V N p s q : Nat} (h : sy l V N p = some (s, q)) : s < l.length ∧ p < q ∧ q ≤ N := by
  rcases sy_cases l V N p with e | ⟨k, i, h1, e⟩
  · rw [e] at h; cases h
  · rw [e] at h; cases h
    have := h1.lt; have := h1.pos; have := h1.1
    exact ⟨by omega, by omega, by omega⟩

/-- what a reading ends in: an error, or where it stands, with what it has -/
inductive R (α : Type) where
  | err (e : Int)
  | ok (p : Nat) (a : α)
/-- a step of it: on, or its end -/
inductive St (α : Type) where
  | go (p : Nat) (a : α)
  | fin (r : R α)
inductive Run {α : Type} (f : Nat → α → St α) : Nat → α → R α → Prop
  | fin {p : Nat} {a : α} {r : R α} (h : f p a = .fin r) : Run f p a r
  | go {p q : Nat} {a b : α} {r : R α} (h : f p a = .go q b) (h2 : Run f q b r) : Run f p a r
theorem Run.one {α : Type} {f : Nat → α → St α} {p : Nat} {a : α} {r r' : R α} (h : Run f p a r) (h' : Run f p a r') : r = r' := by
  induction h with
  | fin h =>
    cases h' with
    | fin g => rw [h] at g; cases g; rfl
    | go g _ => rw [h] at g; cases g
  | go h h2 ih =>
    cases h' with
    | fin g => rw [h] at g; cases g
    | go g g2 => rw [h] at g; cases g; exact ih g2
open Classical in
/-- where the steps end -/
noncomputable def runs {α : Type} (f : Nat → α → St α) (p : Nat) (a : α) : R α := if h : ∃ r, Run f p a r then h.choose else .err 4
theorem Run.eq {α : Type} {f : Nat → α → St α} {p : Nat} {a : α} {r : R α} (h : Run f p a r) : runs f p a = r := by
  have hx : ∃ r, Run f p a r := ⟨r, h⟩
  unfold runs
  rw [dif_pos hx]
  exact hx.choose_spec.one h
theorem runs_fin {α : Type} {f : Nat → α → St α} {p : Nat} {a : α} {r : R α} (h : f p a = .fin r) : runs f p a = r := (Run.fin h).eq
theorem runs_go {α : Type} {f : Nat → α → St α} {p q : Nat} {a b : α} (h : f p a = .go q b) : runs f p a = runs f q b := by
  by_cases hx : ∃ r, Run f q b r
  · obtain ⟨r, hr⟩ := hx
    rw [hr.eq, (Run.go h hr).eq]
  · have hn : ¬ ∃ r, Run f p a r := by
      rintro ⟨r, hr⟩
      cases hr with
      | fin g => rw [h] at g; cases g
      | go g g2 => rw [h] at g; cases g; exact hx ⟨_, g2⟩
    unfold runs
    rw [dif_neg hx, dif_neg hn]

/-- the chapter's tables -/
def lbs : List Nat := [3, 4, 5, 6, 7, 8, 9, 10, 11, 13, 15, 17, 19, 23, 27, 31, 35, 43, 51, 59, 67, 83, 99, 115, 131, 163, 195, 227, 258]
def lxs : List Nat := [0, 0, 0, 0, 0, 0, 0, 0, 1, 1, 1, 1, 2, 2, 2, 2, 3, 3, 3, 3, 4, 4, 4, 4, 5, 5, 5, 5, 0]
def dbs : List Nat := [1, 2, 3, 4, 5, 7, 9, 13, 17, 25, 33, 49, 65, 97, 129, 193, 257, 385, 513, 769, 1025, 1537, 2049, 3073, 4097, 6145, 8193, 12289, 16385, 24577]
def dxs : List Nat := [0, 0, 0, 0, 1, 1, 2, 2, 3, 3, 4, 4, 5, 5, 6, 6, 7, 7, 8, 8, 9, 9, 10, 10, 11, 11, 12, 12, 13, 13]
def order : List Nat := [16, 17, 18, 0, 8, 7, 9, 6, 10, 5, 11, 4, 12, 3, 13, 2, 14, 1, 15]
def fixl : List Nat := List.replicate 144 8 ++ List.replicate 112 9 ++ List.replicate 24 7 ++ List.replicate 8 8
def fixd : List Nat := List.replicate 32 5

/-- on to the next whole byte -/
def up (p : Nat) : Nat := p + (8 - p % 8) % 8
/-- n bytes that stand at p -/
def byts (V p n : Nat) : List Int := (List.range n).map fun i => ((num V (p + 8 * i) 8 : Nat) : Int)
theorem byts_length (V p n : Nat) : (byts V p n).length = n := by simp [byts]
theorem byts_succ (V p n : Nat) : byts V p (n + 1) = byts V p n ++ [((num V (p + 8 * n) 8 : Nat) : Int)] := by simp [byts, List.range_succ]
/-- kind 0 -/
def stored (V N M p : Nat) (T : List Int) : R (List Int) :=
  if up p + 32 ≤ N ∧ num V (up p) 16 + num V (up p + 16) 16 = 65535 ∧ up p + 32 + 8 * num V (up p) 16 ≤ N then
    if M < T.length + num V (up p) 16 then .err 3 else .ok (up p + 32 + 8 * num V (up p) 16) (T ++ byts V (up p + 32) (num V (up p) 16))
  else .err 4
/-- a match, behind its symbol s, which ends at q: its length, and what comes behind that -/
noncomputable def mfar (y : List Nat) (V N M n q : Nat) (T : List Int) : St (List Int) :=
  match sy y V N q with
  | none => .fin (.err 4)
  | some (k, r) =>
    if 29 < k ∨ N < r + dxs.getD k 0 then .fin (.err 4)
    else if T.length < dbs.getD k 0 + num V r (dxs.getD k 0) then .fin (.err 4)
    else if M < T.length + n then .fin (.err 3)
    else .go (r + dxs.getD k 0) (Lz.rep T (dbs.getD k 0 + num V r (dxs.getD k 0)) n)
noncomputable def mstep (y : List Nat) (V N M s q : Nat) (T : List Int) : St (List Int) :=
  if 285 < s ∨ N < q + lxs.getD (s - 257) 0 then .fin (.err 4)
  else mfar y V N M (lbs.getD (s - 257) 0 + num V q (lxs.getD (s - 257) 0)) (q + lxs.getD (s - 257) 0) T
/-- kinds 1 and 2: a symbol -/
noncomputable def cstep (x y : List Nat) (V N M p : Nat) (T : List Int) : St (List Int) :=
  match sy x V N p with
  | none => .fin (.err 4)
  | some (s, q) =>
    if s = 256 then .fin (.ok q T)
    else if 256 < s then mstep y V N M s q T
    else if M ≤ T.length then .fin (.err 3)
    else .go q (T ++ [(s : Int)])
open Classical in
noncomputable def coded (x y : List Nat) (V N M p : Nat) (T : List Int) : R (List Int) :=
  if Mk x ∧ Mk y then runs (cstep x y V N M) p T else .err 4
/-- kind 2: a length, or more -/
def lw (s : Nat) : Nat := if s = 16 then 2 else if s = 17 then 3 else if s = 18 then 7 else 0
def lk (s : Nat) : Nat := if s = 16 then 3 else if s = 17 then 3 else if s = 18 then 11 else 1
def lv (s : Nat) (A : List Nat) : Nat := if s = 16 then A.getD (A.length - 1) 0 else if s = 17 then 0 else if s = 18 then 0 else s
noncomputable def lstep (t : List Nat) (n V N p : Nat) (A : List Nat) : St (List Nat) :=
  if n ≤ A.length then .fin (.ok p A)
  else match sy t V N p with
  | none => .fin (.err 4)
  | some (s, q) =>
    if (s = 16 ∧ A.length = 0) ∨ N < q + lw s ∨ n < A.length + (lk s + num V q (lw s)) then .fin (.err 4)
    else .go (q + lw s) (A ++ List.replicate (lk s + num V q (lw s)) (lv s A))
/-- the lengths of a code for lengths: the first c of them, at p -/
def short (V p : Nat) : Nat → List Nat
  | 0 => List.replicate 19 0
  | c + 1 => (short V p c).set (order.getD c 0) (num V (p + 3 * c) 3)
theorem short_length (V p : Nat) : ∀ c, (short V p c).length = 19
  | 0 => List.length_replicate
  | c + 1 => by rw [short, List.length_set, short_length V p c]
open Classical in
noncomputable def dynamic (V N M p : Nat) (T : List Int) : R (List Int) :=
  if N < p + 14 ∨ 286 < 257 + num V p 5 ∨ 30 < 1 + num V (p + 5) 5 ∨ N < p + 14 + 3 * (4 + num V (p + 10) 4) then .err 4
  else if ¬ Mk (short V (p + 14) (4 + num V (p + 10) 4)) then .err 4
  else match runs (lstep (short V (p + 14) (4 + num V (p + 10) 4)) (257 + num V p 5 + (1 + num V (p + 5) 5)) V N) (p + 14 + 3 * (4 + num V (p + 10) 4)) [] with
  | .err _ => .err 4
  | .ok q A => if A.getD 256 0 = 0 then .err 4 else coded (A.take (257 + num V p 5)) (A.drop (257 + num V p 5)) V N M q T
/-- a block, behind its kind -/
noncomputable def block (V N M k p : Nat) (T : List Int) : R (List Int) :=
  if k = 0 then stored V N M p T else if k = 1 then coded fixl fixd V N M p T else if k = 2 then dynamic V N M p T else .err 4
noncomputable def bstep (V N M p : Nat) (T : List Int) : St (List Int) :=
  if N < p + 3 then .fin (.err 4)
  else match block V N M (num V (p + 1) 2) (p + 3) T with
  | .err e => .fin (.err e)
  | .ok q U => if num V p 1 = 1 then .fin (.ok q U) else .go q U
/-- a stream of N bits, which V has: its text, or an error -/
noncomputable def inflate (V N M : Nat) : R (List Int) := runs (bstep V N M) 0 []
end Inf
end Go.Proofs.YteajjanjkhhgdaaDoor
