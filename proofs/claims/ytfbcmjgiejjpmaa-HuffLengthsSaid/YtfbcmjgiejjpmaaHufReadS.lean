/- What the laws that read codes hold of. -/
import Derived.Test.YtfbcmjgiejjpmaaRefNext
import Derived.Test.YtfbcmjgiejjpmaaHmLenB
namespace Go.Proofs.Ytfbcmjgiejjpmaa
open Go.RowKit Go

theorem Bit.and64_1 (a : Nat) (ha : a < 256) : bits BinOp.and IntKind.i64 (a : Int) 1 = ((a % 2 : Nat) : Int) := by
  have e : bits BinOp.and IntKind.i64 (a : Int) 1 = IntKind.i64.wrap (((BitVec.ofInt 64 (a : Int)) &&& (BitVec.ofInt 64 1)).toNat : Int) := rfl
  rw [e, BitVec.toNat_and, BitVec.toNat_ofInt]
  have e1 : ((a : Int) % ((2 ^ 64 : Nat) : Int)).toNat = a := by omega
  rw [e1, show (BitVec.ofInt 64 1).toNat = 2 ^ 1 - 1 from by decide, Nat.and_two_pow_sub_one_eq_mod, IntKind.wrap_i64]
  omega
/-- the bit i of the bytes -/
theorem Bit.bit8 (V i : Nat) : Bit.b V (i / 8) / 2 ^ (i % 8) % 2 = V / 2 ^ i % 2 := by
  unfold Bit.b
  have h := Bit.mid (V / 2 ^ (8 * (i / 8))) (i % 8) 1 8 (by omega)
  rw [show (2 : Nat) ^ 8 = 256 from rfl, show (2 : Nat) ^ 1 = 2 from rfl] at h
  rw [h]
  exact Bit.at_ V i 1
/-- the bits of a number, the lowest first -/
def bl (V m : Nat) : List Nat := (List.range m).map fun j => V / 2 ^ j % 2
theorem bl_length (V m : Nat) : (bl V m).length = m := by simp [bl]
theorem bl_succ (V m : Nat) : bl V (m + 1) = bl V m ++ [V / 2 ^ m % 2] := by simp [bl, List.range_succ]
theorem bl_get (V m j : Nat) (h : j < m) : (bl V m)[j]? = some (V / 2 ^ j % 2) := by rw [bl, List.getElem?_map, List.getElem?_range h]; rfl
theorem own_nv {w : World} {base m : Nat} {v : Value} {l : List Nat} (h : w.ownsRow base 3 1 v m (nv l)) (hl : l.length = m) : ∃ a cap, v = .slice a m cap ∧ cap ≤ 9223372036854775807 ∧ Ints w a m cap (fun j => ((l.getD j 0 : Nat) : Int)) := by
  rcases h.2 with ⟨h0, h1⟩ | ⟨g, c, cur, h0, hb, hg, h3, h4, h5⟩
  · subst h0 h1
    exact ⟨none, 0, rfl, by omega, Nat.le_refl _, fun h => by omega⟩
  · subst h0
    refine ⟨_, c, rfl, by simp only [maxLen] at h4; omega, h3, fun hn => ⟨g, 0, rfl, lt_of_block hg, fun j hj => ?_⟩⟩
    rw [Nat.zero_add, h.cellAt j (by omega)]
    exact nv_get l j _ (by rw [List.getD_eq_getElem?_getD, List.getElem?_eq_getElem (by omega)]; rfl)
theorem slice_ints_from (a : Option Addr) (n cap c : Nat) (hn : c ≤ n) (w : World) :
    (Instr.sliceAt 22 (.slice a n cap) (some (.int .i64 (c : Int))) none none).run Try.prog w = .ok (.slice (if cap = c then a else a.map (·.add c)) (n - c) (cap - c)) w := by
  rw [run_sliceAt_slice w _ _ _ _ _ elemInts, run_slice_l w _ a n cap elemInts .i64 c (by omega) (by omega), sizeInts]
  simp [Result.andThen, sliced]
theorem Ints.from {w : World} {a : Option Addr} {n cap : Nat} {L : Nat → Int} (h : Ints w a n cap L) (c : Nat) (hc : c ≤ n) : Ints w (if cap = c then a else a.map (·.add c)) (n - c) (cap - c) (fun j => L (c + j)) := by
  refine ⟨by have := h.le; omega, fun hn => ?_⟩
  obtain ⟨s, o, e, h1, h2⟩ := h.ad (by omega)
  have := h.le
  rw [if_neg (by omega)]
  refine ⟨s, o + c, by rw [e]; simp [Addr.add], h1, fun j hj => ?_⟩
  rw [Nat.add_assoc]; exact h2 (c + j) (by omega)
theorem DcR.later {w w' : World} {D : Nat} {C : Nat → Nat} {l : List Nat} (h : DcR w D C l) (hb : Below w.heap.size w w') : DcR w' D C l := by
  obtain ⟨v, base, h1, h2⟩ := h.d
  refine ⟨v, base, h1.keep (hb.block _ h1.lt), h2.1, ?_⟩
  rcases h2.2 with h0 | ⟨g, cap, cur, e, q1, q2, q3⟩
  · exact .inl h0
  · exact .inr ⟨g, cap, cur, e, q1, (hb.block _ (lt_of_block q2)).trans q2, q3⟩
theorem own_later {w w' : World} {base n : Nat} {v : Value} {xs : List Value} (h2 : w.ownsRow base 3 1 v n xs) (hb : Below w.heap.size w w') : w'.ownsRow base 3 1 v n xs := by
  refine ⟨h2.1, ?_⟩
  rcases h2.2 with h0 | ⟨g, cap, cur, e, q1, q2, q3⟩
  · exact .inl h0
  · exact .inr ⟨g, cap, cur, e, q1, (hb.block _ (lt_of_block q2)).trans q2, q3⟩

/-- a row of numbers of the call's own that grows; nothing older changes -/
structure Grw (w0 w : World) (l : List Nat) (v : Value) : Prop where
  bel : Below w0.heap.size w0 w
  own : w.ownsRow w0.heap.size 3 1 v l.length (nv l)
theorem Grw.app {w0 w w' : World} {i : Nat} {l : List Nat} {v v' : Value} {o : Obj} (h : Grw w0 w l v) (ho : w'.ownsRow w0.heap.size 3 1 v' (l.length + 1) (nv l ++ [.int .i64 (i : Nat)])) (hg : (w.alloc o).grownBy w' v.ownBlock) : Grw w0 w' (l ++ [i]) v' := by
  have hs := h.bel.size
  refine ⟨(h.bel.alloc hs o).grown hg (by simp; omega) (fun k hk => (h.own.lt k hk).1), ?_⟩
  rw [List.length_append, List.length_singleton]
  have e : nv (l ++ [i]) = nv l ++ [.int .i64 (i : Nat)] := by simp [nv]
  rw [e]; exact ho

/-- a reader, a decoder, and a row of numbers, of a call that began in w0 -/
structure Rds (w0 w : World) (g D p Lb V G : Nat) (C : Nat → Nat) (l : List Nat) (base : Nat) (vb : Value) (lb : List Nat) : Prop where
  bel : Below w0.heap.size w0 w
  lo : w0.heap.size ≤ g
  rd : Rd w g p Lb V G
  dc : DcR w D C l
  own : w.ownsRow base 3 1 vb lb.length (nv lb)
theorem Rds.later {w0 w w' : World} {g D p Lb V G : Nat} {C : Nat → Nat} {l : List Nat} {base : Nat} {vb : Value} {lb : List Nat} (h : Rds w0 w g D p Lb V G C l base vb lb) (hb : Below w.heap.size w w') : Rds w0 w' g D p Lb V G C l base vb lb :=
  ⟨h.bel.trans (hb.mono h.bel.size), h.lo, h.rd.later hb (Nat.le_refl _), h.dc.later hb, own_later h.own hb⟩
/-- what Next returns, and where the reader stands then -/
def NxR (w0 : World) (g D p Lb V G : Nat) (C : Nat → Nat) (l : List Nat) (base : Nat) (vb : Value) (lb : List Nat) (e : Ending) (w' : World) : Prop :=
  ∃ s ok q, e = .returned (.tuple #[.int .i64 s, .bool ok]) ∧ Huf.NextQ C l V Lb p s ok q ∧ Rds w0 w' g D q Lb V G C l base vb lb
theorem Rds.next {w0 w : World} {g D p Lb V G : Nat} {C : Nat → Nat} {l : List Nat} {base : Nat} {vb : Value} {lb : List Nat} (h : Rds w0 w g D p Lb V G C l base vb lb) (hL : Lb ≤ 1000000000) (hC : ∀ k, C k ≤ 288) (hC0 : C 0 = 0) (hl : l.length = Huf.tot C 16) :
    Calls Try.prog 23 #[.pointer (some ⟨D, 0, none⟩), .pointer (some ⟨g, 0, none⟩)] w fun e w' => NxR w0 g D p Lb V G C l base vb lb e w' :=
  (nextq_any D C l g p Lb V G w h.dc h.rd hL hC hC0 hl).mono fun e w' ⟨s, ok, q, he, hq, hr, hg, hd⟩ =>
    ⟨s, ok, q, he, hq, h.bel.grown hg h.bel.size (fun k hk => by cases hk; exact h.lo), h.lo, hr, hd, own_stepR h.own h.rd hg⟩
end Go.Proofs.Ytfbcmjgiejjpmaa
