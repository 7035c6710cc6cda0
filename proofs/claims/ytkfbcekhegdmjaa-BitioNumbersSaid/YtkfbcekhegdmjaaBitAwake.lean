/- A writer, a reader, of the call's own; the walk of the laws' awake. -/
import Derived.Test.YtkfbcekhegdmjaaBitGet2
namespace Go.Proofs.Ytkfbcekhegdmjaa
open Go.RowKit Go

theorem Wr.other {w w' : World} {g n V : Nat} {v : Value} (h : Wr w g n V v) (h1 : w'.heap[g]? = w.heap[g]?) (h2 : ∀ k, v.ownBlock = some k → w'.heap[k]? = w.heap[k]?) : Wr w' g n V v := by
  refine ⟨h1.trans h.row, ?_, h.lt⟩
  have ho := h.own
  refine ⟨ho.1, ?_⟩
  rcases ho.2 with h0 | ⟨gg, cap, cur, rfl, q1, q2, q3⟩
  · exact .inl h0
  · exact .inr ⟨gg, cap, cur, rfl, q1, (h2 gg rfl).trans q2, q3⟩
theorem Wr.later {w w' : World} {g n V B : Nat} {v : Value} (h : Wr w g n V v) (hb : Below B w w') (hB : w.heap.size ≤ B) : Wr w' g n V v :=
  h.other (hb.block _ (Nat.lt_of_lt_of_le (lt_of_block h.row) hB)) (fun k hk => hb.block _ (Nat.lt_of_lt_of_le (h.own.lt k hk).2 hB))
theorem Rd.later {w w' : World} {g p L V G B : Nat} (h : Rd w g p L V G) (hb : Below B w w') (hB : w.heap.size ≤ B) : Rd w' g p L V G :=
  h.keep (hb.block _ (Nat.lt_of_lt_of_le (lt_of_block h.row) hB)) (hb.block _ (Nat.lt_of_lt_of_le (lt_of_block h.byt) hB))

/-- a writer of the call's own -/
structure WS (w0 w : World) (g n V : Nat) : Prop where
  bel : Below w0.heap.size w0 w
  lo : w0.heap.size ≤ g
  wr : ∃ v, Wr w g n V v
theorem WS.new (w0 w : World) (hb : Below w0.heap.size w0 w) :
    Calls Try.prog 9 #[] w fun e w' => e = .returned (.pointer (some ⟨w.heap.size, 0, none⟩)) ∧ WS w0 w' w.heap.size 0 0 := by
  refine (wnew_any w).mono ?_
  rintro e w' ⟨he, rfl⟩
  refine ⟨he, hb.alloc hb.size _, hb.size, .slice none 0 0, heap_alloc_new _ _, ?_, by decide⟩
  exact ⟨rfl, .inl ⟨rfl, rfl⟩⟩
theorem Wr.lo {w : World} {g n V B : Nat} {v : Value} (h : Wr w g n V v) (hB : B ≤ g) (k : Nat) (hk : v.ownBlock = some k) : B ≤ k := by
  have := (h.own.lt k hk).1
  omega
theorem WS.put {w0 w : World} {g n V : Nat} (h : WS w0 w g n V) (x k : Nat) (hx : x < 4294967296) (hk : k ≤ 32) (hn : n ≤ 1000000000) :
    Calls Try.prog 12 #[.pointer (some ⟨g, 0, none⟩), .int .u32 (x : Int), .int .i64 (k : Int)] w fun e w' => e = .returned (.bool true) ∧ WS w0 w' g (n + k) (V + x % 2 ^ k * 2 ^ n) := by
  obtain ⟨v, hv⟩ := h.wr
  refine (put_any g n V x k v w hv hx hk hn).mono ?_
  rintro e w' ⟨he, v', h1, h2, _⟩
  exact ⟨he, h2.below h.bel h.bel.size h.lo (hv.lo h.lo), h.lo, v', h1⟩
theorem WS.bad {w0 w : World} {g n V : Nat} (h : WS w0 w g n V) (x k : Int) (hk : k < 0 ∨ 32 < k) :
    Calls Try.prog 12 #[.pointer (some ⟨g, 0, none⟩), .int .u32 x, .int .i64 k] w fun e w' => e = .returned (.bool false) ∧ WS w0 w' g n V := by
  obtain ⟨v, hv⟩ := h.wr
  refine (put_bad g n V x k v w hv hk).mono ?_
  rintro e w' ⟨he, rfl⟩
  exact ⟨he, h⟩
theorem WS.align {w0 w : World} {g n V : Nat} (h : WS w0 w g n V) (hn : n ≤ 1000000000) :
    Calls Try.prog 10 #[.pointer (some ⟨g, 0, none⟩)] w fun e w' => e = .returned (.tuple #[]) ∧ WS w0 w' g (n + (8 - n % 8) % 8) V := by
  obtain ⟨v, hv⟩ := h.wr
  refine (walign_any g n V v w hv hn).mono ?_
  rintro e w' ⟨he, v', h1, h2, _⟩
  exact ⟨he, h2.below h.bel h.bel.size h.lo (hv.lo h.lo), h.lo, v', h1⟩
theorem WS.drawn {w0 w w' : World} {g n V : Nat} (h : WS w0 w g n V) (hd : Drawn w w') : WS w0 w' g n V := by
  obtain ⟨v, hv⟩ := h.wr
  exact ⟨h.bel.trans (hd.below _), h.lo, v, hv.drawn hd⟩
theorem WS.len {w0 w : World} {g n V : Nat} (h : WS w0 w g n V) (hn : n ≤ 1000000000) :
    Calls Try.prog 14 #[.pointer (some ⟨g, 0, none⟩)] w fun e w' => e = .returned (.int .i64 (n : Int)) ∧ WS w0 w' g n V := by
  obtain ⟨v, hv⟩ := h.wr
  refine (wlen_any g n V v w hv hn).mono ?_
  rintro e w' ⟨he, hd⟩
  exact ⟨he, h.drawn hd⟩
theorem WS.later {w0 w w' : World} {g n V : Nat} (h : WS w0 w g n V) (hb : Below w.heap.size w w') : WS w0 w' g n V := by
  obtain ⟨v, hv⟩ := h.wr
  exact ⟨h.bel.trans (hb.mono h.bel.size), h.lo, v, hv.later hb (Nat.le_refl _)⟩
/-- the block of bytes that Bytes answered -/
def Byt (w : World) (G V m : Nat) : Prop := w.heap[G]? = some (.cells (k8 (Bit.by V m)).toArray 5 (0, 0))
theorem Byt.bytes {w : World} {G V m : Nat} (h : Byt w G V m) (hm : m ≤ 1000000000) : BytesIn w (.slice (some ⟨G, 0, none⟩) m m) (Bit.by V m) (fun s => s = G) := by
  refine ⟨_, m, by rw [Bit.by_length], by rw [Bit.by_length]; omega, by omega, fun _ => ⟨G, 0, rfl, rfl, lt_of_block h, fun j hj => ?_⟩⟩
  rw [Nat.zero_add, k8_cell h _ hj]
theorem WS.bytes {w0 w : World} {g n V : Nat} (h : WS w0 w g n V) (hn : n ≤ 1000000000) :
    Calls Try.prog 15 #[.pointer (some ⟨g, 0, none⟩)] w fun e w' => ∃ G, e = .returned (.slice (some ⟨G, 0, none⟩) ((n + 7) / 8) ((n + 7) / 8)) ∧ G = w.heap.size ∧ WS w0 w' g n V ∧ Byt w' G V ((n + 7) / 8) := by
  obtain ⟨v, hv⟩ := h.wr
  refine (wbytes_any g n V v w hv hn).mono ?_
  rintro e w' ⟨he, h1, h2⟩
  exact ⟨_, he, rfl, h.later h2, h1⟩
/-- a reader of the call's own -/
structure RS (w0 w : World) (g p L V G : Nat) : Prop where
  bel : Below w0.heap.size w0 w
  lo : w0.heap.size ≤ g
  rd : Rd w g p L V G
theorem RS.get {w0 w : World} {g p L V G : Nat} (h : RS w0 w g p L V G) (n : Nat) (hL : L ≤ 1000000000) (hn : n ≤ 32) (hl : p + n ≤ 8 * L) :
    Calls Try.prog 27 #[.pointer (some ⟨g, 0, none⟩), .int .i64 (n : Int)] w fun e w' => e = .returned (.tuple #[.int .u32 ((V / 2 ^ p % 2 ^ n : Nat) : Int), .bool true]) ∧ RS w0 w' g (p + n) L V G :=
  (get_any g p L V G n w h.rd hL hn hl).mono fun e w' ⟨he, h1, h2⟩ => ⟨he, h.bel.grown h2 h.bel.size (fun k hk => by cases hk; exact h.lo), h.lo, h1⟩
theorem RS.drawn {w0 w w' : World} {g p L V G : Nat} (h : RS w0 w g p L V G) (hd : Drawn w w') : RS w0 w' g p L V G := ⟨h.bel.trans (hd.below _), h.lo, h.rd.drawn hd⟩
theorem RS.bad {w0 w : World} {g p L V G : Nat} (h : RS w0 w g p L V G) (n : Int) (hL : L ≤ 1000000000) (hn : n < 0 ∨ 32 < n ∨ (8 * L - p : Nat) < n) :
    Calls Try.prog 27 #[.pointer (some ⟨g, 0, none⟩), .int .i64 n] w fun e w' => e = .returned (.tuple #[.int .u32 0, .bool false]) ∧ RS w0 w' g p L V G :=
  (get_bad g p L V G n w h.rd hL hn).mono fun _ _ ⟨he, hd⟩ => ⟨he, h.drawn hd⟩
theorem RS.left {w0 w : World} {g p L V G : Nat} (h : RS w0 w g p L V G) (hL : L ≤ 1000000000) :
    Calls Try.prog 30 #[.pointer (some ⟨g, 0, none⟩)] w fun e w' => e = .returned (.int .i64 ((8 * L - p : Nat) : Int)) ∧ RS w0 w' g p L V G :=
  (left_any g p L V G w h.rd hL).mono fun _ _ ⟨he, hd⟩ => ⟨he, h.drawn hd⟩
theorem RS.place {w0 w : World} {g p L V G : Nat} (h : RS w0 w g p L V G) :
    Calls Try.prog 29 #[.pointer (some ⟨g, 0, none⟩)] w fun e w' => e = .returned (.int .i64 (p : Int)) ∧ RS w0 w' g p L V G :=
  (at_any g p L V G w h.rd).mono fun _ _ ⟨he, hd⟩ => ⟨he, hd ▸ h⟩
theorem RS.align {w0 w : World} {g p L V G : Nat} (h : RS w0 w g p L V G) (hL : L ≤ 1000000000) :
    Calls Try.prog 25 #[.pointer (some ⟨g, 0, none⟩)] w fun e w' => e = .returned (.tuple #[]) ∧ RS w0 w' g (p + (8 - p % 8) % 8) L V G :=
  (ralign_any g p L V G w h.rd hL).mono fun e w' ⟨he, h1, h2⟩ => ⟨he, h.bel.grown h2 h.bel.size (fun k hk => by cases hk; exact h.lo), h.lo, h1⟩
theorem RS.new (w0 w : World) (B : List Int) (a : Option Addr) (n cap : Nat) (hb : Below w0.heap.size w0 w) (hn : n = B.length) (hB : BytesIn w (.slice a n cap) B (fun _ => True)) (hbd : ∀ x ∈ B, 0 ≤ x ∧ x < 256) (hl : n ≤ 1000000000) :
    Calls Try.prog 22 #[.slice a n cap] w fun e w' => e = .returned (.pointer (some ⟨w.heap.size + 1, 0, none⟩)) ∧ RS w0 w' (w.heap.size + 1) 0 n (Bit.val B) w.heap.size :=
  (rnew_any B a n cap w hn hB hbd hl).mono fun _ _ ⟨he, h1, h2⟩ => ⟨he, hb.trans (h2.mono hb.size), Nat.le_succ_of_le hb.size, h1⟩

set_option maxRecDepth 100000 in
set_option maxHeartbeats 1000000 in
theorem awake_any (w : World) :
    Calls Try.prog 20 #[] w fun e w' => e = .returned (.bool true) ∧ Below w.heap.size w w' := by
  have T1 : Hid (Calls Try.prog 9 #[] w fun e w' => e = .returned (.pointer (some ⟨w.heap.size, 0, none⟩)) ∧ Hid (WS w w' w.heap.size 0 0)) := WS.new w w (Below.refl _ _)
  have T2 : Hid (∀ wi g, WS w wi g 0 0 → Calls Try.prog 12 #[.pointer (some ⟨g, 0, none⟩), .int .u32 5, .int .i64 3] wi fun e w' => e = .returned (.bool true) ∧ Hid (WS w w' g 3 5)) := fun wi g h => h.put 5 3 (by decide) (by decide) (by decide)
  have T3 : Hid (∀ wi g, WS w wi g 3 5 → Calls Try.prog 12 #[.pointer (some ⟨g, 0, none⟩), .int .u32 1, .int .i64 1] wi fun e w' => e = .returned (.bool true) ∧ Hid (WS w w' g 4 13)) := fun wi g h => h.put 1 1 (by decide) (by decide) (by decide)
  have T4 : Hid (∀ wi g, WS w wi g 4 13 → Calls Try.prog 12 #[.pointer (some ⟨g, 0, none⟩), .int .u32 511, .int .i64 9] wi fun e w' => e = .returned (.bool true) ∧ Hid (WS w w' g 13 8189)) := fun wi g h => h.put 511 9 (by decide) (by decide) (by decide)
  have T5 : Hid (∀ wi g, WS w wi g 13 8189 → Calls Try.prog 12 #[.pointer (some ⟨g, 0, none⟩), .int .u32 0, .int .i64 33] wi fun e w' => e = .returned (.bool false) ∧ Hid (WS w w' g 13 8189)) := fun wi g h => h.bad 0 33 (by decide)
  have T6 : Hid (∀ wi g, WS w wi g 13 8189 → Calls Try.prog 12 #[.pointer (some ⟨g, 0, none⟩), .int .u32 0, .int .i64 (-1)] wi fun e w' => e = .returned (.bool false) ∧ Hid (WS w w' g 13 8189)) := fun wi g h => h.bad 0 (-1) (by decide)
  have T7 : Hid (∀ wi g, WS w wi g 13 8189 → Calls Try.prog 14 #[.pointer (some ⟨g, 0, none⟩)] wi fun e w' => e = .returned (.int .i64 13) ∧ Hid (WS w w' g 13 8189)) := fun wi g h => h.len (by decide)
  have T8 : Hid (∀ wi g, WS w wi g 13 8189 → Calls Try.prog 15 #[.pointer (some ⟨g, 0, none⟩)] wi fun e w' => ∃ G, e = .returned (.slice (some ⟨G, 0, none⟩) 2 2) ∧ w'.cell? ⟨G, 0, none⟩ = some (.int .u8 253) ∧ w'.cell? ⟨G, 1, none⟩ = some (.int .u8 31) ∧
      Hid (Calls Try.prog 22 #[.slice (some ⟨G, 0, none⟩) 2 2] w' fun e w' => ∃ g G, e = .returned (.pointer (some ⟨g, 0, none⟩)) ∧ Hid (RS w w' g 0 2 8189 G))) := fun wi g h => (h.bytes (by decide)).mono fun e w' ⟨G, he, _, h1, h2⟩ => by
    have hb := h2.bytes (by decide)
    refine ⟨G, he, k8_cell h2 0 (by decide), k8_cell h2 1 (by decide), ?_⟩
    refine (RS.new w w' (Bit.by 8189 2) _ 2 2 h1.bel (by decide) (hb.mono (Nat.le_refl _) (fun _ _ _ => trivial) (fun _ _ _ _ => rfl)) (Bit.by_bd _ _) (by decide)).mono ?_
    rintro e w' ⟨he, h3⟩
    rw [Bit.val_by 2 8189 (by decide)] at h3
    exact ⟨_, _, he, h3⟩
  have G1 : Hid (∀ wi g G, RS w wi g 0 2 8189 G → Calls Try.prog 27 #[.pointer (some ⟨g, 0, none⟩), .int .i64 3] wi fun e w' => e = .returned (.tuple #[.int .u32 5, .bool true]) ∧ Hid (RS w w' g 3 2 8189 G)) := fun wi g G h => h.get 3 (by decide) (by decide) (by decide)
  have G2 : Hid (∀ wi g G, RS w wi g 3 2 8189 G → Calls Try.prog 27 #[.pointer (some ⟨g, 0, none⟩), .int .i64 1] wi fun e w' => e = .returned (.tuple #[.int .u32 1, .bool true]) ∧ Hid (RS w w' g 4 2 8189 G)) := fun wi g G h => h.get 1 (by decide) (by decide) (by decide)
  have G3 : Hid (∀ wi g G, RS w wi g 4 2 8189 G → Calls Try.prog 27 #[.pointer (some ⟨g, 0, none⟩), .int .i64 9] wi fun e w' => e = .returned (.tuple #[.int .u32 511, .bool true]) ∧ Hid (RS w w' g 13 2 8189 G)) := fun wi g G h => h.get 9 (by decide) (by decide) (by decide)
  have G4 : Hid (∀ wi g G, RS w wi g 13 2 8189 G → Calls Try.prog 27 #[.pointer (some ⟨g, 0, none⟩), .int .i64 4] wi fun e w' => e = .returned (.tuple #[.int .u32 0, .bool false]) ∧ Hid (RS w w' g 13 2 8189 G)) := fun wi g G h => h.bad 4 (by decide) (by decide)
  have G5 : Hid (∀ wi g G, RS w wi g 13 2 8189 G → Calls Try.prog 27 #[.pointer (some ⟨g, 0, none⟩), .int .i64 3] wi fun e w' => e = .returned (.tuple #[.int .u32 0, .bool true]) ∧ Hid (RS w w' g 16 2 8189 G)) := fun wi g G h => h.get 3 (by decide) (by decide) (by decide)
  have G6 : Hid (∀ wi g G, RS w wi g 16 2 8189 G → Calls Try.prog 30 #[.pointer (some ⟨g, 0, none⟩)] wi fun e w' => e = .returned (.int .i64 0) ∧ Hid (RS w w' g 16 2 8189 G)) := fun wi g G h => h.left (by decide)
  have G7 : Hid (∀ wi g G, RS w wi g 16 2 8189 G → Calls Try.prog 29 #[.pointer (some ⟨g, 0, none⟩)] wi fun e w' => e = .returned (.int .i64 16) ∧ Hid (RS w w' g 16 2 8189 G)) := fun wi g G h => h.place
  go_enter Try.func20, Try.ntmps20
  go_wp2_with fail
  refine T1.out.mono ?_
  rintro e w1 ⟨rfl, h1⟩
  generalize w.heap.size = g at *
  go_wp2_with fail
  refine (T2.out _ _ h1.out).mono ?_
  rintro e w2 ⟨rfl, h2⟩
  clear T1 h1 T2
  go_wp2_with fail
  refine (T3.out _ _ h2.out).mono ?_
  rintro e w3 ⟨rfl, h3⟩
  clear h2 T3
  go_wp2_with fail
  refine (T4.out _ _ h3.out).mono ?_
  rintro e w4 ⟨rfl, h4⟩
  clear h3 T4
  go_wp2_with fail
  refine (T5.out _ _ h4.out).mono ?_
  rintro e w5 ⟨rfl, h5⟩
  clear h4 T5
  go_wp2_with fail
  refine (T6.out _ _ h5.out).mono ?_
  rintro e w6 ⟨rfl, h6⟩
  clear h5 T6
  go_wp2_with fail
  refine (T7.out _ _ h6.out).mono ?_
  rintro e w7 ⟨rfl, h7⟩
  clear h6 T7
  go_wp2_with fail
  refine (T8.out _ _ h7.out).mono ?_
  rintro e w8 ⟨G, rfl, k0, k1, h8⟩
  clear h7 T8
  go_wp2_with fail
  refine h8.out.mono ?_
  rintro e w9 ⟨gr, Gr, rfl, h9⟩
  clear h8 k0 k1
  go_wp2_with fail
  refine (G1.out _ _ _ h9.out).mono ?_
  rintro e w10 ⟨rfl, h10⟩
  clear h9 G1
  go_wp2_with fail
  refine (G2.out _ _ _ h10.out).mono ?_
  rintro e w11 ⟨rfl, h11⟩
  clear h10 G2
  go_wp2_with fail
  refine (G3.out _ _ _ h11.out).mono ?_
  rintro e w12 ⟨rfl, h12⟩
  clear h11 G3
  go_wp2_with fail
  refine (G4.out _ _ _ h12.out).mono ?_
  rintro e w13 ⟨rfl, h13⟩
  clear h12 G4
  go_wp2_with fail
  refine (G5.out _ _ _ h13.out).mono ?_
  rintro e w14 ⟨rfl, h14⟩
  clear h13 G5
  go_wp2_with fail
  refine (G6.out _ _ _ h14.out).mono ?_
  rintro e w15 ⟨rfl, h15⟩
  clear h14 G6
  go_wp2_with fail
  refine (G7.out _ _ _ h15.out).mono ?_
  rintro e w16 ⟨rfl, h16⟩
  clear h15 G7
  go_wp2
  go_ret
  exact ⟨rfl, h16.out.bel⟩
end Go.Proofs.Ytkfbcekhegdmjaa
