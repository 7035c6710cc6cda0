/- The state of the law BitioBack's first loop: a writer, and a row of places. -/
import Derived.Test.YtkfbcekhegdmjaaBitBackS
import Derived.Test.YtkfbcekhegdmjaaBitAwake
import Derived.Test.YtkfbcekhegdmjaaBitPieces
import Derived.Test.YtkfbcekhegdmjaaKitPick
namespace Go.Proofs.Ytkfbcekhegdmjaa
open Go.RowKit Go

theorem own_other {w w' : World} {base : Nat} {e : TypeId} {size : Nat} {v : Value} {n : Nat} {xs : List Value} (h : w.ownsRow base e size v n xs) (hk : ∀ k, v.ownBlock = some k → w'.heap[k]? = w.heap[k]?) : w'.ownsRow base e size v n xs := by
  refine ⟨h.1, ?_⟩
  rcases h.2 with h0 | ⟨gg, cap, cur, rfl, q1, q2, q3⟩
  · exact .inl h0
  · exact .inr ⟨gg, cap, cur, rfl, q1, (hk gg rfl).trans q2, q3⟩
theorem own_type {w : World} {base : Nat} {e : TypeId} {size : Nat} {v : Value} {n : Nat} {xs : List Value} (h : w.ownsRow base e size v n xs) {k : Nat} (hk : v.ownBlock = some k) : ∃ cur, w.heap[k]? = some (.cells cur e (0, 0)) := by
  rcases h.2 with ⟨rfl, _⟩ | ⟨gg, cap, cur, rfl, q1, q2, q3⟩
  · cases hk
  · cases hk; exact ⟨cur, q2⟩
theorem ne_type {w : World} {j k : Nat} {c d : Array Value} {s t : TypeId} {f f' : Nat × Nat} (h1 : w.heap[j]? = some (.cells c s f)) (h2 : w.heap[k]? = some (.cells d t f')) (hne : s ≠ t) : j ≠ k := by
  intro e
  have := h1.symm.trans (e ▸ h2)
  injection this with e1
  injection e1 with _ e2
  exact hne e2
/-- the places that were written down -/
def pls (P : Nat → Nat) (i : Nat) : List Value := (List.range i).map fun j => Value.int .i64 (P j : Nat)
theorem pls_length (P : Nat → Nat) (i : Nat) : (pls P i).length = i := by simp [pls]
theorem pls_succ (P : Nat → Nat) (i : Nat) : pls P (i + 1) = pls P i ++ [.int .i64 (P i : Nat)] := by simp [pls, List.range_succ]
theorem pls_get (P : Nat → Nat) (i j : Nat) (h : j < i) : (pls P i)[j]? = some (.int .i64 (P j : Nat)) := by
  rw [pls, List.getElem?_map, List.getElem?_range h]; rfl
structure BW (w0 w : World) (g n V : Nat) (vp : Value) (i : Nat) (P : Nat → Nat) : Prop where
  bel : Below w0.heap.size w0 w
  lo : w0.heap.size ≤ g
  wr : ∃ v, Wr w g n V v
  own : w.ownsRow w0.heap.size 3 1 vp i (pls P i)
theorem BW.drawn {w0 w w' : World} {g n V : Nat} {vp : Value} {i : Nat} {P : Nat → Nat} (h : BW w0 w g n V vp i P) (hd : Drawn w w') : BW w0 w' g n V vp i P := by
  obtain ⟨v, hv⟩ := h.wr
  exact ⟨h.bel.trans (hd.below _), h.lo, ⟨v, hv.drawn hd⟩, own_other h.own (fun k _ => by rw [hd.heap])⟩
theorem BW.step {w0 w w' : World} {g n n' V V' : Nat} {v v' vp : Value} {i : Nat} {P : Nat → Nat} (h : BW w0 w g n V vp i P) (hv : Wr w g n V v) (h1 : Wr w' g n' V' v') (h2 : Fro w w' g v.ownBlock) : BW w0 w' g n' V' vp i P := by
  refine ⟨h2.below h.bel h.bel.size h.lo (hv.lo h.lo), h.lo, ⟨v', h1⟩, own_other h.own (fun k hk => ?_)⟩
  obtain ⟨cur, hc⟩ := own_type h.own hk
  refine h2.block k (lt_of_block hc) (ne_type hc hv.row (by decide)) (fun e => ?_)
  obtain ⟨cur', hc'⟩ := own_type hv.own e
  exact ne_type hc hc' (by decide) rfl
theorem BW.align {w0 w : World} {g n V : Nat} {vp : Value} {i : Nat} {P : Nat → Nat} (h : BW w0 w g n V vp i P) (hn : n ≤ 1000000000) :
    Calls Try.prog 10 #[.pointer (some ⟨g, 0, none⟩)] w fun e w' => e = .returned (.tuple #[]) ∧ BW w0 w' g (n + (8 - n % 8) % 8) V vp i P := by
  obtain ⟨v, hv⟩ := h.wr
  refine (walign_any g n V v w hv hn).mono ?_
  rintro e w' ⟨he, v', h1, h2, _⟩
  exact ⟨he, h.step hv h1 h2⟩
theorem BW.put {w0 w : World} {g n V : Nat} {vp : Value} {i : Nat} {P : Nat → Nat} (h : BW w0 w g n V vp i P) (x k : Nat) (hx : x < 4294967296) (hk : k ≤ 32) (hn : n ≤ 1000000000) :
    Calls Try.prog 12 #[.pointer (some ⟨g, 0, none⟩), .int .u32 (x : Int), .int .i64 (k : Int)] w fun e w' => e = .returned (.bool true) ∧ BW w0 w' g (n + k) (V + x % 2 ^ k * 2 ^ n) vp i P := by
  obtain ⟨v, hv⟩ := h.wr
  refine (put_any g n V x k v w hv hx hk hn).mono ?_
  rintro e w' ⟨he, v', h1, h2, _⟩
  exact ⟨he, h.step hv h1 h2⟩
theorem BW.len {w0 w : World} {g n V : Nat} {vp : Value} {i : Nat} {P : Nat → Nat} (h : BW w0 w g n V vp i P) (hn : n ≤ 1000000000) :
    Calls Try.prog 14 #[.pointer (some ⟨g, 0, none⟩)] w fun e w' => e = .returned (.int .i64 (n : Int)) ∧ BW w0 w' g n V vp i P := by
  obtain ⟨v, hv⟩ := h.wr
  refine (wlen_any g n V v w hv hn).mono ?_
  rintro e w' ⟨he, hd⟩
  exact ⟨he, h.drawn hd⟩
/-- a place is written down -/
theorem BW.note {w0 w w' : World} {g n V : Nat} {vp vp' : Value} {i : Nat} {P : Nat → Nat} {o : Obj} (h : BW w0 w g n V vp i P) (ho : w'.ownsRow w0.heap.size 3 1 vp' (i + 1) (pls P i ++ [.int .i64 (P i : Nat)])) (hg : (w.alloc o).grownBy w' vp.ownBlock) : BW w0 w' g n V vp' (i + 1) P := by
  obtain ⟨v, hv⟩ := h.wr
  refine ⟨(h.bel.alloc h.bel.size o).grown hg (by have := h.bel.size; simp; omega) (fun k hk => (h.own.lt k hk).1), h.lo, ⟨v, hv.other ?_ (fun k hk => ?_)⟩, by rw [pls_succ]; exact ho⟩
  · have lg := lt_of_block hv.row
    refine (hg.block g (by simp; omega) (fun e => ?_)).trans (Below.heap_alloc _ _ _ lg)
    obtain ⟨cur, hc⟩ := own_type h.own e.symm
    exact ne_type hv.row hc (by decide) rfl
  · obtain ⟨cur', hc'⟩ := own_type hv.own hk
    have lk := lt_of_block hc'
    refine (hg.block k (by simp; omega) (fun e => ?_)).trans (Below.heap_alloc _ _ _ lk)
    obtain ⟨cur, hc⟩ := own_type h.own e.symm
    exact ne_type hc' hc (by decide) rfl
theorem infoI : (Try.prog.info? 3).map (fun i => (i.zero, i.size, i.bytes)) = some (some (.int .i64 0), 1, 8) := by kernel_rfl
theorem one_int (w : World) (x : Int) : ∀ j u, [Value.int .i64 x][j]? = some u → (w.alloc (.cells #[.int .i64 x] 3)).cell? ((⟨w.heap.size, 0, none⟩ : Addr).add j) = some u :=
  World.news_of_block (cs := #[.int .i64 x]) (heap_alloc_new w _)
/-- behind the first loop: a reader, and the row of places -/
structure BK (w0 w : World) (gr p L V G : Nat) (vp : Value) (m : Nat) (P : Nat → Nat) : Prop where
  bel : Below w0.heap.size w0 w
  lo : w0.heap.size ≤ gr
  rd : Rd w gr p L V G
  own : w.ownsRow w0.heap.size 3 1 vp m (pls P m)
theorem BK.drawn {w0 w w' : World} {gr p L V G : Nat} {vp : Value} {m : Nat} {P : Nat → Nat} (h : BK w0 w gr p L V G vp m P) (hd : Drawn w w') : BK w0 w' gr p L V G vp m P :=
  ⟨h.bel.trans (hd.below _), h.lo, h.rd.drawn hd, own_other h.own (fun k _ => by rw [hd.heap])⟩
theorem BK.step {w0 w w' : World} {gr p q L V G : Nat} {vp : Value} {m : Nat} {P : Nat → Nat} (h : BK w0 w gr p L V G vp m P) (h1 : Rd w' gr q L V G) (h2 : w.grownBy w' (some gr)) : BK w0 w' gr q L V G vp m P :=
  ⟨h.bel.grown h2 h.bel.size (fun k hk => by cases hk; exact h.lo), h.lo, h1, own_other h.own (fun k hk => by
    obtain ⟨cur, hc⟩ := own_type h.own hk
    exact gb_heap h2 (lt_of_block hc) (ne_type hc h.rd.row (by decide)))⟩
theorem BK.align {w0 w : World} {gr p L V G : Nat} {vp : Value} {m : Nat} {P : Nat → Nat} (h : BK w0 w gr p L V G vp m P) (hL : L ≤ 1000000000) :
    Calls Try.prog 25 #[.pointer (some ⟨gr, 0, none⟩)] w fun e w' => e = .returned (.tuple #[]) ∧ BK w0 w' gr (p + (8 - p % 8) % 8) L V G vp m P :=
  (ralign_any gr p L V G w h.rd hL).mono fun _ _ ⟨he, h1, h2⟩ => ⟨he, h.step h1 h2⟩
theorem BK.get {w0 w : World} {gr p L V G : Nat} {vp : Value} {m : Nat} {P : Nat → Nat} (h : BK w0 w gr p L V G vp m P) (n : Nat) (hL : L ≤ 1000000000) (hn : n ≤ 32) (hl : p + n ≤ 8 * L) :
    Calls Try.prog 27 #[.pointer (some ⟨gr, 0, none⟩), .int .i64 (n : Int)] w fun e w' => e = .returned (.tuple #[.int .u32 ((V / 2 ^ p % 2 ^ n : Nat) : Int), .bool true]) ∧ BK w0 w' gr (p + n) L V G vp m P :=
  (get_any gr p L V G n w h.rd hL hn hl).mono fun _ _ ⟨he, h1, h2⟩ => ⟨he, h.step h1 h2⟩
theorem BK.left {w0 w : World} {gr p L V G : Nat} {vp : Value} {m : Nat} {P : Nat → Nat} (h : BK w0 w gr p L V G vp m P) (hL : L ≤ 1000000000) :
    Calls Try.prog 30 #[.pointer (some ⟨gr, 0, none⟩)] w fun e w' => e = .returned (.int .i64 ((8 * L - p : Nat) : Int)) ∧ BK w0 w' gr p L V G vp m P :=
  (left_any gr p L V G w h.rd hL).mono fun _ _ ⟨he, hd⟩ => ⟨he, h.drawn hd⟩
/-- the bytes are taken, and a reader of them is made -/
theorem BW.turn {w0 w : World} {g n V : Nat} {vp : Value} {m : Nat} {P : Nat → Nat} (h : BW w0 w g n V vp m P) (hn : n ≤ 1000000) (hV : V < 2 ^ n) :
    Calls Try.prog 15 #[.pointer (some ⟨g, 0, none⟩)] w fun e w' => ∃ G0, e = .returned (.slice (some ⟨G0, 0, none⟩) ((n + 7) / 8) ((n + 7) / 8)) ∧
      Hid (Calls Try.prog 22 #[.slice (some ⟨G0, 0, none⟩) ((n + 7) / 8) ((n + 7) / 8)] w' fun e w'' => ∃ gr, e = .returned (.pointer (some ⟨gr, 0, none⟩)) ∧ Hid (∃ G, BK w0 w'' gr 0 ((n + 7) / 8) V G vp m P)) := by
  obtain ⟨v, hv⟩ := h.wr
  refine (wbytes_any g n V v w hv (by omega)).mono ?_
  rintro e w' ⟨he, h1, h2⟩
  refine ⟨_, he, ?_⟩
  have hb : Byt w' w.heap.size V ((n + 7) / 8) := h1
  refine (rnew_any (Bit.by V ((n + 7) / 8)) _ _ ((n + 7) / 8) w' (by rw [Bit.by_length]) ((hb.bytes (by omega)).mono (Nat.le_refl _) (fun _ _ _ => trivial) (fun _ _ _ _ => rfl)) (Bit.by_bd _ _) (by omega)).mono ?_
  rintro e w'' ⟨he2, h3, h4⟩
  have hV8 : V < 2 ^ (8 * ((n + 7) / 8)) := Nat.lt_of_lt_of_le hV (Nat.pow_le_pow_right (by omega) (by omega))
  rw [Bit.val_by _ _ hV8] at h3
  have c1 : Below w0.heap.size w0 w' := h.bel.trans (h2.mono h.bel.size)
  refine ⟨_, he2, _, c1.trans (h4.mono c1.size), by have := c1.size; omega, h3, own_other h.own (fun k hk => ?_)⟩
  obtain ⟨cur, hc⟩ := own_type h.own hk
  have lk := lt_of_block hc
  exact (h4.block k (Nat.lt_of_lt_of_le lk h2.size)).trans (h2.block k lk)
end Go.Proofs.Ytkfbcekhegdmjaa
