/- Rows of whatever elements that lie apart, with or without room behind their ends: what the laws' flat.. do to them. -/
import Derived.Test.YthnpgnnnijpofaaDoorIkFlatS
import Derived.ArgAppend
import Derived.OwnWalk
import Derived.Laws.OwnMore
namespace Go.Proofs.YthnpgnnnijpofaaDoor
open Go.RowKit Go

theorem own_other' {w w' : World} {base : Nat} {e : TypeId} {size : Nat} {v : Value} {n : Nat} {xs : List Value} (h : w.ownsRow base e size v n xs) (hk : ∀ k, v.ownBlock = some k → w'.heap[k]? = w.heap[k]?) : w'.ownsRow base e size v n xs := by
  refine ⟨h.1, ?_⟩
  rcases h.2 with h0 | ⟨gg, cap, cur, rfl, q1, q2, q3⟩
  · exact .inl h0
  · exact .inr ⟨gg, cap, cur, rfl, q1, (hk gg rfl).trans q2, q3⟩
theorem own_type' {w : World} {base : Nat} {e : TypeId} {size : Nat} {v : Value} {n : Nat} {xs : List Value} (h : w.ownsRow base e size v n xs) {k : Nat} (hk : v.ownBlock = some k) : base ≤ k ∧ k < w.heap.size ∧ ∃ cur, w.heap[k]? = some (.cells cur e (0, 0)) := by
  rcases h.2 with ⟨rfl, _⟩ | ⟨gg, cap, cur, rfl, q1, q2, q3⟩
  · cases hk
  · cases hk; exact ⟨q1, lt_of_block q2, cur, q2⟩
theorem own_shape' {w : World} {base n : Nat} {e : TypeId} {size : Nat} {v : Value} {xs : List Value} (h : w.ownsRow base e size v n xs) : ∃ a cap, v = .slice a n cap := by
  rcases h.2 with ⟨rfl, rfl⟩ | ⟨g, cap, cur, rfl, _⟩
  · exact ⟨_, _, rfl⟩
  · exact ⟨_, _, rfl⟩
theorem own_set' {w : World} {base g n cap : Nat} {e : TypeId} {size : Nat} {xs : List Value} (h : w.ownsRow base e size (.slice (some ⟨g, 0, none⟩) n cap) n xs) (i : Nat) (u : Value) : (w.setCell ⟨g, i, none⟩ u).ownsRow base e size (.slice (some ⟨g, 0, none⟩) n cap) n (xs.set i u) := by
  refine ⟨by rw [List.length_set]; exact h.1, ?_⟩
  rcases h.2 with ⟨h0, _⟩ | ⟨gg, cap', cur, e1, q1, q2, q3, q4, q5, q6⟩
  · cases h0
  · cases e1
    exact .inr ⟨g, cap, cur.setIfInBounds i u, rfl, q1, heap_setCell_same _ _ _ _ _ _ q2, q3, q4, by rw [Array.size_setIfInBounds]; exact q5, by rw [Array.toList_setIfInBounds, List.take_set, q6]⟩
theorem own_cell' {w : World} {base n cap : Nat} {a : Option Addr} {e : TypeId} {size : Nat} {xs : List Value} (h : w.ownsRow base e size (.slice a n cap) n xs) {t : Nat} {u : Value} (ht : xs[t]? = some u) :
    ∃ g, a = some ⟨g, 0, none⟩ ∧ w.cell? ⟨g, t, none⟩ = some u ∧ w.frozen? ⟨g, t, none⟩ = false := by
  rcases h.2 with ⟨h0, h1⟩ | ⟨gg, cap', cur, e1, q1, q2, q3, q4, q5, q6⟩
  · have := (List.getElem?_eq_some_iff.1 ht).1
    rw [h.1, h1, Nat.zero_mul] at this
    omega
  · cases e1
    refine ⟨gg, rfl, ?_, frozen_of_row _ _ _ _ _ q2⟩
    have hlt := (List.getElem?_eq_some_iff.1 ht).1
    rw [h.1] at hlt
    rw [cell_of_row _ _ _ _ _ _ q2]
    rw [← q6, List.getElem?_take, if_pos hlt, Array.getElem?_toList] at ht
    exact ht
/-- an append, in place or to a new block -/
def Eith (w w' : World) (base : Nat) (e : TypeId) (size : Nat) (v : Value) (n : Nat) (v' : Value) (n' : Nat) (ys : List Value) : Prop :=
  (∃ g cap, v = .slice (some ⟨g, 0, none⟩) n cap ∧ v' = .slice (some ⟨g, 0, none⟩) n' cap ∧ w'.ownsRow base e size v' n' ys ∧ w.grownBy w' (some g)) ∨ (w'.ownsRow w.heap.size e size v' n' ys ∧ w.grownBy w' none)
theorem wpList_append_either {P : Program} (w : World) {ops : Array Oper} {rest : List Oper} {o : Oper} {a : Act} {Q : Exit → Act → World → Prop} (hgd : o.guard = none) (s x : Operand) (t : TypeId)
    (ho : o.op = .call { callee := .builtin .append, args := #[s, x], argTypes := #[t, t] })
    (base : Nat) (e : TypeId) (i : TypeInfo) (z : Value) (size bytes : Nat) (ht : P.underlying t = some (.slice e)) (hi : P.info? e = some i) (hz : i.zero = some z)
    (hsize : i.size = size) (hby : i.bytes = bytes) (hzs : z.cells.size = size) (hsz : 0 < size)
    (v : Value) (n : Nat) (xs : List Value) (hs : a.eval s = v) (hown : w.ownsRow base e size v n xs)
    (ad : Addr) (m c : Nat) (news : List Value) (hx : a.eval x = .slice (some ad) m c) (hl : news.length = m * size) (hnews : ∀ j u, news[j]? = some u → w.cell? (ad.add j) = some u) (h1 : ∀ u ∈ news, u.oneCell' = true)
    (hm : 0 < m) (h63 : n + m ≤ maxLen) (hbytes : (n + m) * bytes ≤ 140737488355328)
    (h : ∀ v' w', Eith w w' base e size v n v' (n + m) (xs ++ news) → wpList P ops Q rest (a.put o.dst v') w') : wpList P ops Q (o :: rest) a w := by
  rcases hown.2 with ⟨rfl, h0⟩ | ⟨g, cap, cur, rfl, q1, q2, q3, q4, q5, q6⟩
  · subst h0
    exact wpList_append_grows w hgd s x t ho e i z size bytes ht hi hz hsize hby hzs hsz none 0 0 xs hs (fun _ => ⟨rfl, rfl⟩) hown.1 (fun b e => by cases e) ad m c news hx hl hnews h1 (by omega) h63 hbytes fun v' w' r1 r2 => h v' w' (.inr ⟨r1, r2⟩)
  · by_cases hr : n + m ≤ cap
    · exact wpList_append_fits w hgd s x t ho base e i size ht hi hsize g n cap xs hs hown ad m c news hx hl hnews h1 hr fun w' r1 r2 => h _ w' (.inl ⟨g, cap, rfl, rfl, r1, r2⟩)
    · refine wpList_append_grows w hgd s x t ho e i z size bytes ht hi hz hsize hby hzs hsz (some ⟨g, 0, none⟩) n cap xs hs (fun e => by cases e) hown.1 (fun b e j u hj => ?_) ad m c news hx hl hnews h1 (by omega) h63 hbytes fun v' w' r1 r2 => h v' w' (.inr ⟨r1, r2⟩)
      cases e
      obtain ⟨g', e', hc, _⟩ := own_cell' hown hj
      cases e'
      rw [Addr.add_mid, Nat.zero_add]
      exact hc
/-- a row, and what has grown out of it -/
structure Gr (wo wr : World) (base : Nat) (e : TypeId) (size : Nat) (v0 : Value) (n0 : Nat) (xs0 : List Value) (v7 : Value) (n7 : Nat) (xs7 : List Value) : Prop where
  onl : Onl wo wr (fun b => v0.ownBlock = some b)
  row0 : wr.ownsRow base e size v0 n0 xs0
  row7 : wr.ownsRow base e size v7 n7 xs7
  le : n0 ≤ n7
  pre : xs7.take (n0 * size) = xs0
  lies : (∃ g cap, v0 = .slice (some ⟨g, 0, none⟩) n0 cap ∧ v7 = .slice (some ⟨g, 0, none⟩) n7 cap) ∨ wr.ownsRow wo.heap.size e size v7 n7 xs7
  hb : base ≤ wo.heap.size
  lt : ∀ b, v0.ownBlock = some b → b < wo.heap.size
theorem Gr.start {wo : World} {base : Nat} {e : TypeId} {size : Nat} {v0 : Value} {n0 : Nat} {xs0 : List Value} (h : wo.ownsRow base e size v0 n0 xs0) (hb : base ≤ wo.heap.size) : Gr wo wo base e size v0 n0 xs0 v0 n0 xs0 := by
  refine ⟨Onl.refl _ _, h, h, Nat.le_refl _, by rw [← h.1, List.take_length], ?_, hb, fun b hb => (own_type' h hb).2.1⟩
  rcases h.2 with h0 | ⟨g, cap, cur, rfl, _⟩
  · exact .inr ⟨h.1, .inl h0⟩
  · exact .inl ⟨g, cap, rfl, rfl⟩
theorem Gr.later {wo wr w' : World} {base : Nat} {e : TypeId} {size : Nat} {v0 : Value} {n0 : Nat} {xs0 : List Value} {v7 : Value} {n7 : Nat} {xs7 : List Value} (h : Gr wo wr base e size v0 n0 xs0 v7 n7 xs7) (hb : Below wr.heap.size wr w') : Gr wo w' base e size v0 n0 xs0 v7 n7 xs7 := by
  have hk : ∀ {b v n xs}, wr.ownsRow b e size v n xs → w'.ownsRow b e size v n xs := fun q => own_other' q (fun k hk => hb.block _ (own_type' q hk).2.1)
  exact ⟨h.onl.later hb, hk h.row0, hk h.row7, h.le, h.pre, h.lies.imp id hk, h.hb, h.lt⟩
theorem Gr.app {wo wr w' : World} {base : Nat} {e : TypeId} {size : Nat} {v0 : Value} {n0 : Nat} {xs0 : List Value} {v7 : Value} {n7 : Nat} {xs7 : List Value} (h : Gr wo wr base e size v0 n0 xs0 v7 n7 xs7)
    {v' : Value} {m : Nat} {news : List Value} (hx : Eith wr w' base e size v7 n7 v' (n7 + m) (xs7 ++ news)) : Gr wo w' base e size v0 n0 xs0 v' (n7 + m) (xs7 ++ news) := by
  have hpre : (xs7 ++ news).take (n0 * size) = xs0 := by
    have hle : n0 * size ≤ xs7.length := by rw [h.row7.1]; exact Nat.mul_le_mul_right _ h.le
    rw [List.take_append_of_le_length hle]; exact h.pre
  rcases hx with ⟨g, cap, rfl, rfl, ho, hg⟩ | ⟨ho, hg⟩
  · have hglt : g < wr.heap.size := (own_type' h.row7 rfl).2.1
    rcases h.lies with ⟨g0, cap0, rfl, e7⟩ | hr
    · cases e7
      refine ⟨⟨hg.os.trans h.onl.os, hg.tape.trans h.onl.tape, hg.output.trans h.onl.output, Nat.le_trans h.onl.size hg.size, fun b hb hS => (hg.block b (Nat.lt_of_lt_of_le hb h.onl.size) (fun e => hS (by rw [e]; rfl))).trans (h.onl.block b hb hS)⟩, ?_, ho, by have := h.le; omega, hpre, .inl ⟨g, cap, rfl, rfl⟩, h.hb, h.lt⟩
      refine ⟨h.row0.1, ?_⟩
      rcases ho.2 with ⟨h0, _⟩ | ⟨gg, cap', cur, e1, q1, q2, q3, q4, q5, q6⟩
      · cases h0
      · cases e1
        refine .inr ⟨g, cap, cur, rfl, q1, q2, by have := h.le; omega, q4, q5, ?_⟩
        rw [← hpre, ← q6, List.take_take, Nat.min_eq_left (Nat.mul_le_mul_right _ (by have := h.le; omega))]
    · have hgw : wo.heap.size ≤ g := (own_type' hr rfl).1
      refine ⟨⟨hg.os.trans h.onl.os, hg.tape.trans h.onl.tape, hg.output.trans h.onl.output, Nat.le_trans h.onl.size hg.size, fun b hb hS => (hg.block b (Nat.lt_of_lt_of_le hb h.onl.size) (fun e => by injection e with e; omega)).trans (h.onl.block b hb hS)⟩, ?_, ho, by have := h.le; omega, hpre, .inr ?_, h.hb, h.lt⟩
      · refine own_other' h.row0 (fun k hk => hg.block k (own_type' h.row0 hk).2.1 (fun e => by injection e with e; have := h.lt k hk; omega))
      · refine ⟨ho.1, ?_⟩
        rcases ho.2 with ⟨h0, _⟩ | ⟨gg, cap', cur, e1, q1, q2⟩
        · cases h0
        · cases e1
          exact .inr ⟨g, cap, cur, rfl, hgw, q2⟩
  · have hb7 : Below wr.heap.size wr w' := below_gb hg
    have h2 := h.later hb7
    have hs := h.onl.size
    exact ⟨h2.onl, h2.row0, own_base ho (Nat.le_trans h.hb hs), by have := h.le; omega, hpre, .inr (own_base ho hs), h.hb, h.lt⟩
/-- rows, and the list of them at G -/
structure Rl (T e : TypeId) (size : Nat) (w0 w : World) (base G N : Nat) (v : Nat → Value) (n : Nat → Nat) (X : Nat → List Value) : Prop where
  bel : Onl w0 w (Rowb N v)
  hb : base ≤ w0.heap.size
  ls : ∃ cur : Array Value, w.heap[G]? = some (.cells cur T (0, 0)) ∧ ∀ k, k < N → cur[k]? = some (v k)
  row : ∀ k, k < N → w.ownsRow base e size (v k) (n k) (X k)
  apt : ∀ j k, j < N → k < N → j ≠ k → ∀ b, (v j).ownBlock = some b → (v k).ownBlock ≠ some b
  bd : ∀ k, k < N → n k ≤ 1000000
  ne : T ≠ e
  lt : ∀ k, k < N → ∀ b, (v k).ownBlock = some b → b < w0.heap.size
section
variable {T e : TypeId} {size : Nat} {w0 w w' : World} {base G N : Nat} {v : Nat → Value} {n : Nat → Nat} {X : Nat → List Value}
theorem Rl.slot (h : Rl T e size w0 w base G N v n X) {k : Nat} (hk : k < N) : w.cell? ⟨G, k, none⟩ = some (v k) := by
  obtain ⟨cur, h1, h2⟩ := h.ls
  rw [cell_of_row _ _ _ _ _ _ h1]; exact h2 k hk
theorem Rl.gl (h : Rl T e size w0 w base G N v n X) : G < w.heap.size := by
  obtain ⟨cur, h1, _⟩ := h.ls
  exact lt_of_block h1
theorem Rl.val (h : Rl T e size w0 w base G N v n X) {k : Nat} (hk : k < N) : ∃ a c, v k = .slice a (n k) c := own_shape' (h.row k hk)
theorem ne_ty {w : World} {j k : Nat} {c d : Array Value} {s t : TypeId} {f f' : Nat × Nat} (h1 : w.heap[j]? = some (.cells c s f)) (h2 : w.heap[k]? = some (.cells d t f')) (hne : s ≠ t) : j ≠ k := by
  intro e
  have := h1.symm.trans (e ▸ h2)
  injection this with e1
  injection e1 with _ e2
  exact hne e2
theorem Rl.neG (h : Rl T e size w0 w base G N v n X) {k : Nat} (hk : k < N) {b : Nat} (hb : (v k).ownBlock = some b) : G ≠ b := by
  obtain ⟨cur, h1, _⟩ := h.ls
  obtain ⟨_, _, cur', h2⟩ := own_type' (h.row k hk) hb
  exact ne_ty h1 h2 h.ne
theorem Rl.later (h : Rl T e size w0 w base G N v n X) (hb : Below w.heap.size w w') : Rl T e size w0 w' base G N v n X :=
  ⟨h.bel.later hb, h.hb, by rw [hb.block _ h.gl]; exact h.ls, fun k hk => own_other' (h.row k hk) (fun b hv => hb.block _ (own_type' (h.row k hk) hv).2.1), h.apt, h.bd, h.ne, h.lt⟩
theorem Rl.drawn (h : Rl T e size w0 w base G N v n X) (hd : Drawn w w') : Rl T e size w0 w' base G N v n X := h.later (hd.below _)
theorem Onl.widen {S : Nat → Prop} {w1 : World} (h : Onl w0 w1 S) {S' : Nat → Prop} (h2 : Onl w1 w' S') (hS : ∀ b, S' b → S b) : Onl w0 w' S :=
  ⟨h2.os.trans h.os, h2.tape.trans h.tape, h2.output.trans h.output, Nat.le_trans h.size h2.size, fun b hb hn => (h2.block b (Nat.lt_of_lt_of_le hb h.size) (fun hs => hn (hS b hs))).trans (h.block b hb hn)⟩
theorem Rl.upd (h : Rl T e size w0 w base G N v n X) {k : Nat} (hk : k < N) (ho : Onl w w' (fun b => (v k).ownBlock = some b)) {Y : List Value} (hr : w'.ownsRow base e size (v k) (n k) Y) : Rl T e size w0 w' base G N v n (fun j => if j = k then Y else X j) := by
  refine ⟨h.bel.widen ho (fun b hb => ⟨k, hk, hb⟩), h.hb, ?_, fun j hj => ?_, h.apt, h.bd, h.ne, h.lt⟩
  · obtain ⟨cur, h1, h2⟩ := h.ls
    exact ⟨cur, (ho.block G (lt_of_block h1) (fun hb => h.neG hk hb rfl)).trans h1, h2⟩
  · by_cases e : j = k
    · subst e
      show World.ownsRow _ _ _ _ _ _ (if j = j then _ else _)
      rw [if_pos rfl]; exact hr
    · show World.ownsRow _ _ _ _ _ _ (if j = k then _ else _)
      rw [if_neg e]
      exact own_other' (h.row j hj) (fun b hb => ho.block b (own_type' (h.row j hj) hb).2.1 (fun hb' => h.apt j k hj hk e b hb hb'))
theorem Rl.upd0 (h : Rl T e size w0 w base G N v n X) {k : Nat} (hk : k < N) (ho : Onl w w' (fun b => (v k).ownBlock = some b)) (hr : w'.ownsRow base e size (v k) (n k) (X k)) : Rl T e size w0 w' base G N v n X := by
  have := h.upd hk ho hr
  have e : (fun j => if j = k then X k else X j) = X := by
    funext j
    by_cases hj : j = k
    · rw [if_pos hj, hj]
    · rw [if_neg hj]
  rwa [e] at this
/-- a place of the list at H is stored to: the rows stay -/
theorem Rl.store (h : Rl T e size w0 w base G N v n X) {H : Nat} {D : Array Value} {f : Nat × Nat} (hH : w.heap[H]? = some (.cells D T f)) (hne : G ≠ H) (hbH : w0.heap.size ≤ H) (k : Nat) (u : Value) : Rl T e size w0 (w.setCell ⟨H, k, none⟩ u) base G N v n X := by
  refine ⟨h.bel.setCell (.inr hbH) _ _, h.hb, by rw [heap_setCell_other _ _ _ _ hne]; exact h.ls, fun j hj => own_other' (h.row j hj) (fun b hb => heap_setCell_other _ _ _ _ (fun e => ?_)), h.apt, h.bd, h.ne, h.lt⟩
  obtain ⟨_, _, cur', h2⟩ := own_type' (h.row j hj) hb
  exact ne_ty hH h2 h.ne e.symm
/-- the grown rows at H, k of them; row j says L j -/
structure Gq (T e : TypeId) (size : Nat) (w : World) (H N : Nat) (v : Nat → Value) (m : Nat → Nat) (L : Nat → List Value) (k : Nat) : Prop where
  at_ : ∃ D : Array Value, w.heap[H]? = some (.cells D T (0, 0)) ∧ D.size = N ∧ ∀ j, j < k → ∃ u, D[j]? = some u ∧ w.ownsRow 0 e size u (m j) (L j) ∧ ∀ t, t < N → t ≠ j → ∀ b, (v t).ownBlock = some b → u.ownBlock ≠ some b
  ne : T ≠ e
variable {H : Nat} {m : Nat → Nat} {L : Nat → List Value} {k : Nat}
theorem Gq.later (h : Gq T e size w H N v m L k) (hb : Below w.heap.size w w') : Gq T e size w' H N v m L k := by
  obtain ⟨D, h1, h2, h3⟩ := h.at_
  refine ⟨⟨D, (hb.block _ (lt_of_block h1)).trans h1, h2, fun j hj => ?_⟩, h.ne⟩
  obtain ⟨u, q1, q2, q3⟩ := h3 j hj
  exact ⟨u, q1, own_other' q2 (fun b hv => hb.block _ (own_type' q2 hv).2.1), q3⟩
theorem Gq.drawn (h : Gq T e size w H N v m L k) (hd : Drawn w w') : Gq T e size w' H N v m L k := h.later (hd.below _)
theorem Gq.upd (h : Gq T e size w H N v m L k) {q : Nat} (hq : q < N) (hkq : k ≤ q) (ho : Onl w w' (fun b => (v q).ownBlock = some b)) (hqH : ∀ b, (v q).ownBlock = some b → b ≠ H) : Gq T e size w' H N v m L k := by
  obtain ⟨D, h1, h2, h3⟩ := h.at_
  refine ⟨⟨D, (ho.block _ (lt_of_block h1) (fun hb => hqH H hb rfl)).trans h1, h2, fun j hj => ?_⟩, h.ne⟩
  obtain ⟨u, q1, q2, q3⟩ := h3 j hj
  exact ⟨u, q1, own_other' q2 (fun b hv => ho.block b (own_type' q2 hv).2.1 (fun hb => q3 q hq (by omega) b hb hv)), q3⟩
theorem Gq.zero (h : Gq T e size w H N v m L k) {m' : Nat → Nat} {L' : Nat → List Value} : Gq T e size w H N v m' L' 0 := by
  obtain ⟨D, h1, h2, h3⟩ := h.at_
  exact ⟨⟨D, h1, h2, fun j hj => by omega⟩, h.ne⟩
theorem Gq.room (h : Gq T e size w H N v m L k) {j : Nat} (hj : j < N) : (∃ x, w.cell? ⟨H, j, none⟩ = some x) ∧ w.frozen? ⟨H, j, none⟩ = false := by
  obtain ⟨D, h1, h2, h3⟩ := h.at_
  exact ⟨⟨_, (cell_of_row _ _ _ _ _ _ h1).trans (Array.getElem?_eq_getElem (by omega))⟩, frozen_of_row _ _ _ _ _ h1⟩
theorem Gq.lt (h : Gq T e size w H N v m L k) : H < w.heap.size := by
  obtain ⟨D, h1, _⟩ := h.at_
  exact lt_of_block h1
theorem Gq.set (h : Gq T e size w H N v m L k) (hk : k < N) (u : Value) (hu : w.ownsRow 0 e size u (m k) (L k)) (ha : ∀ t, t < N → t ≠ k → ∀ b, (v t).ownBlock = some b → u.ownBlock ≠ some b) : Gq T e size (w.setCell ⟨H, k, none⟩ u) H N v m L (k + 1) := by
  obtain ⟨D, h1, h2, h3⟩ := h.at_
  have keep : ∀ {u' : Value} {n' : Nat} {B : List Value}, w.ownsRow 0 e size u' n' B → (w.setCell ⟨H, k, none⟩ u).ownsRow 0 e size u' n' B := fun q => own_other' q (fun b hb => heap_setCell_other _ _ _ _ (fun e => by
    obtain ⟨_, _, cur', q2⟩ := own_type' q hb
    exact ne_ty h1 q2 h.ne e.symm))
  refine ⟨⟨D.setIfInBounds k u, heap_setCell_same _ _ _ _ _ _ h1, by simpa using h2, fun j hj => ?_⟩, h.ne⟩
  by_cases e : j = k
  · subst e
    exact ⟨u, by rw [Array.getElem?_setIfInBounds, if_pos rfl, if_pos (by omega)], keep hu, ha⟩
  · obtain ⟨u', q1, q2, q3⟩ := h3 j (by omega)
    exact ⟨u', by rw [Array.getElem?_setIfInBounds, if_neg (fun e2 => e e2.symm)]; exact q1, keep q2, q3⟩
theorem Gq.get (h : Gq T e size w H N v m L k) {j : Nat} (hj : j < k) : ∃ a c, w.cell? ⟨H, j, none⟩ = some (.slice a (m j) c) ∧ w.ownsRow 0 e size (.slice a (m j) c) (m j) (L j) := by
  obtain ⟨D, h1, h2, h3⟩ := h.at_
  obtain ⟨u, q1, q2, _⟩ := h3 j hj
  obtain ⟨a, c, rfl⟩ := own_shape' q2
  exact ⟨a, c, (cell_of_row _ _ _ _ _ _ h1).trans q1, q2⟩
/-- what has grown out of row k is put down at H -/
theorem grown_done {wo wr : World} {v7 : Value} {n7 : Nat} {xs7 : List Value} (hF : Rl T e size w0 wo base G N v n X) (hG : Gq T e size wo H N v m L k) (hk : k < N) (hg : Gr wo wr base e size (v k) (n k) (X k) v7 n7 xs7) (hm : n7 = m k) (hL : xs7 = L k)
    (hne : G ≠ H) (hbH : w0.heap.size ≤ H) :
    (∃ x, wr.cell? ⟨H, k, none⟩ = some x) ∧ wr.frozen? ⟨H, k, none⟩ = false ∧ Rl T e size w0 (wr.setCell ⟨H, k, none⟩ v7) base G N v n X ∧ Gq T e size (wr.setCell ⟨H, k, none⟩ v7) H N v m L (k + 1) := by
  subst hm hL
  have h1 := hF.upd0 hk hg.onl hg.row0
  have h2 : Gq T e size wr H N v m L k := hG.upd hk (Nat.le_refl _) hg.onl (fun b hb => by have := hF.lt k hk b hb; omega)
  obtain ⟨r1, r2⟩ := h2.room hk
  obtain ⟨D, h3, _⟩ := h2.at_
  refine ⟨r1, r2, h1.store h3 hne hbH k _, h2.set hk v7 (own_base hg.row7 (Nat.zero_le _)) (fun t ht htk b hb hv => ?_)⟩
  rcases hg.lies with ⟨g, cap, e0, e7⟩ | hr
  · rw [e7] at hv
    cases hv
    exact hF.apt t k ht hk htk _ hb (by rw [e0]; rfl)
  · have h4 := (own_type' hr hv).1
    have h5 := hF.lt t ht b hb
    have h6 := hF.bel.size
    omega
end
end Go.Proofs.YthnpgnnnijpofaaDoor
