/- What is written code by code: numbers, and the state of the law HuffBack. -/
import Derived.Test.YtfbcmjgiejjpmaaHufReadS
namespace Go.Proofs.Ytfbcmjgiejjpmaa
open Go.RowKit Go

/-- bits depend on the lower ones alone -/
theorem Huf.vl_low {V V' M : Nat} (h : V % 2 ^ M = V' % 2 ^ M) (p : Nat) : ∀ k, p + k ≤ M → Huf.vl V p k = Huf.vl V' p k
  | 0, _ => rfl
  | k + 1, hk => by
    rw [Huf.vl, Huf.vl, Huf.vl_low h p k (by omega)]
    have one : ∀ x : Nat, x / 2 ^ (p + k) % 2 = x % 2 ^ M / 2 ^ (p + k) % 2 := fun x => by
      have := Bit.mid x (p + k) 1 M (by omega)
      rw [Nat.pow_one] at this
      exact this.symm
    rw [one V, one V', h]
/-- what symbols take -/
def tl (d : Nat → Nat) : List Nat → Nat
  | [] => 0
  | s :: t => d s + tl d t
theorem tl_app (d : Nat → Nat) (s : Nat) : ∀ l : List Nat, tl d (l ++ [s]) = tl d l + d s
  | [] => by simp [tl]
  | x :: t => by rw [List.cons_append, tl, tl, tl_app d s t]; omega
theorem tl_next (d : Nat → Nat) : ∀ (l : List Nat) (i s : Nat), l[i]? = some s → tl d (l.take (i + 1)) = tl d (l.take i) + d s
  | [], i, s, h => by simp at h
  | x :: t, 0, s, h => by simp at h; subst h; simp [tl]
  | x :: t, i + 1, s, h => by
    have := tl_next d t i s (by simpa using h)
    rw [List.take_succ_cons, List.take_succ_cons, tl, tl, this]; omega
theorem tl_take_le (d : Nat → Nat) : ∀ (l : List Nat) (i : Nat), tl d (l.take i) ≤ tl d l
  | [], i => by simp [tl]
  | x :: t, 0 => by simp [tl]
  | x :: t, i + 1 => by
    have := tl_take_le d t i
    rw [List.take_succ_cons, tl, tl]; omega
theorem tl_bound {d : Nat → Nat} {M : Nat} : ∀ {l : List Nat}, (∀ s ∈ l, d s ≤ M) → tl d l ≤ M * l.length
  | [], _ => by simp [tl]
  | x :: t, h => by
    have h1 := tl_bound (l := t) (fun s hs => h s (List.mem_cons_of_mem _ hs))
    have h2 := h x (List.mem_cons_self ..)
    rw [tl, List.length_cons, Nat.mul_succ]; omega
/-- the bits of V say the codes of the symbols, one behind the other -/
structure Enc (c d : Nat → Nat) (n : Nat) (l : List Nat) (V : Nat) : Prop where
  mem : ∀ s ∈ l, s < n ∧ 0 < d s ∧ d s ≤ 15
  say : ∀ i s, l[i]? = some s → Huf.vl V (tl d (l.take i)) (d s) = c s
theorem Enc.app {c d : Nat → Nat} {n : Nat} {l : List Nat} {V V' s : Nat} (h : Enc c d n l V) (hV : V' % 2 ^ tl d l = V % 2 ^ tl d l) (hs : s < n ∧ 0 < d s ∧ d s ≤ 15) (hv : Huf.vl V' (tl d l) (d s) = c s) : Enc c d n (l ++ [s]) V' := by
  refine ⟨fun t ht => ?_, fun i t hi => ?_⟩
  · rcases List.mem_append.1 ht with q | q
    · exact h.mem t q
    · simp at q; subst q; exact hs
  · rcases Nat.lt_or_ge i l.length with q | q
    · rw [List.getElem?_append_left q] at hi
      rw [List.take_append_of_le_length (by omega), Huf.vl_low hV _ (d t) ?_]
      · exact h.say i t hi
      · rw [← tl_next d l i t hi]; exact tl_take_le d l (i + 1)
    · have hil : i = l.length := by
        have := (List.getElem?_eq_some_iff.1 hi).1
        simp at this; omega
      subst hil
      rw [List.getElem?_append_right (Nat.le_refl _), Nat.sub_self] at hi
      simp at hi
      subst hi
      rw [List.take_left' rfl]; exact hv

/-- a writer, and a row of numbers, of a call that began in w0 -/
structure Bkw (w0 w : World) (g N V : Nat) (vp : Value) (l : List Nat) : Prop where
  bel : Below w0.heap.size w0 w
  lo : w0.heap.size ≤ g
  wr : ∃ v, Wr w g N V v
  own : w.ownsRow w0.heap.size 3 1 vp l.length (nv l)
theorem own_other {w w' : World} {base : Nat} {e : TypeId} {size : Nat} {v : Value} {n : Nat} {xs : List Value} (h : w.ownsRow base e size v n xs) (hk : ∀ k, v.ownBlock = some k → w'.heap[k]? = w.heap[k]?) : w'.ownsRow base e size v n xs := by
  refine ⟨h.1, ?_⟩
  rcases h.2 with h0 | ⟨gg, cap, cur, rfl, q1, q2, q3⟩
  · exact .inl h0
  · exact .inr ⟨gg, cap, cur, rfl, q1, (hk gg rfl).trans q2, q3⟩
theorem own_type {w : World} {base : Nat} {e : TypeId} {size : Nat} {v : Value} {n : Nat} {xs : List Value} (h : w.ownsRow base e size v n xs) {k : Nat} (hk : v.ownBlock = some k) : ∃ cur, w.heap[k]? = some (.cells cur e (0, 0)) := by
  rcases h.2 with ⟨rfl, _⟩ | ⟨gg, cap, cur, rfl, q1, q2, q3⟩
  · cases hk
  · cases hk; exact ⟨cur, q2⟩
theorem ne_type {w : World} {j k : Nat} {c d : Array Value} {s t : TypeId} {f f' : Nat × Nat} (h1 : w.heap[j]? = some (.cells c s f)) (h2 : w.heap[k]? = some (.cells d t f')) (hne : s ≠ t) : j ≠ k := by
  intro e
  have := h1.symm.trans (e ▸ h2)
  injection this with e1
  injection e1 with _ e2
  exact hne e2
theorem Bkw.drew {w0 w : World} {g N V : Nat} {vp : Value} {l : List Nat} (h : Bkw w0 w g N V vp l) : Bkw w0 w.drew g N V vp l := by
  obtain ⟨v, hv⟩ := h.wr
  have hd : Drawn w w.drew := (Drawn.refl w).drew
  exact ⟨h.bel.trans (hd.below _), h.lo, ⟨v, hv.drawn hd⟩, own_other h.own (fun k _ => by rw [hd.heap])⟩
theorem Bkw.lt {w0 w : World} {g N V : Nat} {vp : Value} {l : List Nat} (h : Bkw w0 w g N V vp l) : V < 2 ^ N := by
  obtain ⟨v, hv⟩ := h.wr
  exact hv.lt
theorem Bkw.step {w0 w w' : World} {g N N' V V' : Nat} {v v' vp : Value} {l : List Nat} (h : Bkw w0 w g N V vp l) (hv : Wr w g N V v) (h1 : Wr w' g N' V' v') (h2 : Fro w w' g v.ownBlock) : Bkw w0 w' g N' V' vp l := by
  refine ⟨h2.below h.bel h.bel.size h.lo (hv.lo h.lo), h.lo, ⟨v', h1⟩, own_other h.own (fun k hk => ?_)⟩
  obtain ⟨cur, hc⟩ := own_type h.own hk
  refine h2.block k (lt_of_block hc) (ne_type hc hv.row (by decide)) (fun e => ?_)
  obtain ⟨cur', hc'⟩ := own_type hv.own e
  exact ne_type hc hc' (by decide) rfl
theorem Bkw.put {w0 w : World} {g N V : Nat} {vp : Value} {l : List Nat} (h : Bkw w0 w g N V vp l) (x k : Nat) (hx : x < 4294967296) (hk : k ≤ 32) (hn : N ≤ 1000000000) :
    Calls Try.prog 44 #[.pointer (some ⟨g, 0, none⟩), .int .u32 (x : Int), .int .i64 (k : Int)] w fun e w' => e = .returned (.bool true) ∧ Bkw w0 w' g (N + k) (V + x % 2 ^ k * 2 ^ N) vp l := by
  obtain ⟨v, hv⟩ := h.wr
  refine (put_any g N V x k v w hv hx hk hn).mono ?_
  rintro e w' ⟨he, v', h1, h2, _⟩
  exact ⟨he, h.step hv h1 h2⟩
theorem Bkw.note {w0 w w' : World} {g N V s : Nat} {vp vp' : Value} {l : List Nat} {o : Obj} (h : Bkw w0 w g N V vp l) (ho : w'.ownsRow w0.heap.size 3 1 vp' (l.length + 1) (nv l ++ [.int .i64 (s : Nat)])) (hg : (w.alloc o).grownBy w' vp.ownBlock) : Bkw w0 w' g N V vp' (l ++ [s]) := by
  obtain ⟨v, hv⟩ := h.wr
  have e : nv (l ++ [s]) = nv l ++ [.int .i64 (s : Nat)] := by simp [nv]
  refine ⟨(h.bel.alloc h.bel.size o).grown hg (by have := h.bel.size; simp; omega) (fun k hk => (h.own.lt k hk).1), h.lo, ⟨v, hv.other ?_ (fun k hk => ?_)⟩, by rw [List.length_append, List.length_singleton, e]; exact ho⟩
  · have lg := lt_of_block hv.row
    refine (hg.block g (by simp; omega) (fun e => ?_)).trans (Below.heap_alloc _ _ _ lg)
    obtain ⟨cur, hc⟩ := own_type h.own e.symm
    exact ne_type hv.row hc (by decide) rfl
  · obtain ⟨cur', hc'⟩ := own_type hv.own hk
    have lk := lt_of_block hc'
    refine (hg.block k (by simp; omega) (fun e => ?_)).trans (Below.heap_alloc _ _ _ lk)
    obtain ⟨cur, hc⟩ := own_type h.own e.symm
    exact ne_type hc' hc (by decide) rfl
theorem Bit.and32_1 (a : Nat) (ha : a < 4294967296) : bits BinOp.and IntKind.u32 (a : Int) 1 = ((a % 2 : Nat) : Int) := by
  have e : bits BinOp.and IntKind.u32 (a : Int) 1 = IntKind.u32.wrap (((BitVec.ofInt 32 (a : Int)) &&& (BitVec.ofInt 32 1)).toNat : Int) := rfl
  rw [e, BitVec.toNat_and, BitVec.toNat_ofInt]
  have e1 : ((a : Int) % ((2 ^ 32 : Nat) : Int)).toNat = a := by omega
  rw [e1, show (BitVec.ofInt 32 1).toNat = 2 ^ 1 - 1 from by decide, Nat.and_two_pow_sub_one_eq_mod, IntKind.wrap_u32]
  omega
/-- one bit more of a code -/
theorem Huf.vl_put {V N t b : Nat} (hV : V < 2 ^ (N + t)) (hb : b < 2) : (V + b * 2 ^ (N + t)) % 2 ^ N = V % 2 ^ N ∧ Huf.vl (V + b * 2 ^ (N + t)) N (t + 1) = 2 * Huf.vl V N t + b := by
  have h1 : (V + b * 2 ^ (N + t)) % 2 ^ (N + t) = V % 2 ^ (N + t) := Nat.add_mul_mod_self_right ..
  refine ⟨?_, ?_⟩
  · rw [Nat.pow_add, ← Nat.mul_assoc, Nat.mul_right_comm, Nat.add_mul_mod_self_right]
  · rw [Huf.vl, Huf.vl_low h1 N t (Nat.le_refl _), Nat.add_mul_div_right _ _ (Nat.two_pow_pos _), Nat.div_eq_of_lt hV]
    omega
end Go.Proofs.Ytfbcmjgiejjpmaa
