/- The state of the law BitioParts: a reader, and a writer of what is read. -/
import Derived.Test.YtkfbcekhegdmjaaBitBackW1
import Derived.Test.YtkfbcekhegdmjaaKitSame
namespace Go.Proofs.Ytkfbcekhegdmjaa
open Go.RowKit Go

structure PP (w0 w : World) (gw n W gr p L V G : Nat) : Prop where
  bel : Below w0.heap.size w0 w
  lw : w0.heap.size ≤ gw
  lr : w0.heap.size ≤ gr
  wr : ∃ v, Wr w gw n W v ∧ v.ownBlock ≠ some G
  rd : Rd w gr p L V G
theorem PP.drawn {w0 w w' : World} {gw n W gr p L V G : Nat} (h : PP w0 w gw n W gr p L V G) (hd : Drawn w w') : PP w0 w' gw n W gr p L V G := by
  obtain ⟨v, h1, h2⟩ := h.wr
  exact ⟨h.bel.trans (hd.below _), h.lw, h.lr, ⟨v, h1.drawn hd, h2⟩, h.rd.drawn hd⟩
theorem PP.get {w0 w : World} {gw n W gr p L V G : Nat} (h : PP w0 w gw n W gr p L V G) (k : Nat) (hL : L ≤ 1000000000) (hn : k ≤ 32) (hl : p + k ≤ 8 * L) :
    Calls Try.prog 27 #[.pointer (some ⟨gr, 0, none⟩), .int .i64 (k : Int)] w fun e w' => e = .returned (.tuple #[.int .u32 ((V / 2 ^ p % 2 ^ k : Nat) : Int), .bool true]) ∧ PP w0 w' gw n W gr (p + k) L V G := by
  obtain ⟨v, h1, h2⟩ := h.wr
  refine (get_any gr p L V G k w h.rd hL hn hl).mono fun _ _ ⟨he, q1, q2⟩ => ⟨he, h.bel.grown q2 h.bel.size (fun k hk => by cases hk; exact h.lr), h.lw, h.lr, ⟨v, h1.other (gb_heap q2 (lt_of_block h1.row) (ne_type h1.row h.rd.row (by decide))) (fun k hk => ?_), h2⟩, q1⟩
  obtain ⟨cur, hc⟩ := own_type h1.own hk
  exact gb_heap q2 (lt_of_block hc) (ne_type hc h.rd.row (by decide))
theorem PP.put {w0 w : World} {gw n W gr p L V G : Nat} (h : PP w0 w gw n W gr p L V G) (x k : Nat) (hx : x < 4294967296) (hk : k ≤ 32) (hn : n ≤ 1000000000) :
    Calls Try.prog 12 #[.pointer (some ⟨gw, 0, none⟩), .int .u32 (x : Int), .int .i64 (k : Int)] w fun e w' => e = .returned (.bool true) ∧ PP w0 w' gw (n + k) (W + x % 2 ^ k * 2 ^ n) gr p L V G := by
  obtain ⟨v, h1, h2⟩ := h.wr
  refine (put_any gw n W x k v w h1 hx hk hn).mono ?_
  rintro e w' ⟨he, v', q1, q2, q3⟩
  refine ⟨he, q2.below h.bel h.bel.size h.lw (h1.lo h.lw), h.lw, h.lr, ⟨v', q1, fun e => h2 (q3 _ e (lt_of_block h.rd.byt))⟩, h.rd.keep ?_ ?_⟩
  · refine q2.block gr (lt_of_block h.rd.row) (ne_type h.rd.row h1.row (by decide)) (fun e => ?_)
    obtain ⟨cur, hc⟩ := own_type h1.own e
    exact ne_type h.rd.row hc (by decide) rfl
  · exact q2.block G (lt_of_block h.rd.byt) (ne_type h.rd.byt h1.row (by decide)) h2
theorem PP.left {w0 w : World} {gw n W gr p L V G : Nat} (h : PP w0 w gw n W gr p L V G) (hL : L ≤ 1000000000) :
    Calls Try.prog 30 #[.pointer (some ⟨gr, 0, none⟩)] w fun e w' => e = .returned (.int .i64 ((8 * L - p : Nat) : Int)) ∧ PP w0 w' gw n W gr p L V G :=
  (left_any gr p L V G w h.rd hL).mono fun _ _ ⟨he, hd⟩ => ⟨he, h.drawn hd⟩
theorem PP.len {w0 w : World} {gw n W gr p L V G : Nat} (h : PP w0 w gw n W gr p L V G) (hn : n ≤ 1000000000) :
    Calls Try.prog 14 #[.pointer (some ⟨gw, 0, none⟩)] w fun e w' => e = .returned (.int .i64 (n : Int)) ∧ PP w0 w' gw n W gr p L V G := by
  obtain ⟨v, h1, h2⟩ := h.wr
  exact (wlen_any gw n W v w h1 hn).mono fun _ _ ⟨he, hd⟩ => ⟨he, h.drawn hd⟩
/-- what was read so far, and the next piece -/
theorem Bit.more (V p k : Nat) : V % 2 ^ p + V / 2 ^ p % 2 ^ k % 2 ^ k * 2 ^ p = V % 2 ^ (p + k) := by
  rw [Nat.mod_mod, Nat.pow_add, Nat.mod_mul, Nat.mul_comm (2 ^ p)]
/-- a piece is read, and put -/
theorem PP.step {w0 w : World} {gw gr p L V G : Nat} (k : Nat) (hL : L ≤ 1000000) (hn : k ≤ 32) (hl : p + k ≤ 8 * L) (h : PP w0 w gw p (V % 2 ^ p) gr p L V G) :
    Calls Try.prog 27 #[.pointer (some ⟨gr, 0, none⟩), .int .i64 (k : Int)] w fun e w' => e = .returned (.tuple #[.int .u32 ((V / 2 ^ p % 2 ^ k : Nat) : Int), .bool true]) ∧
      Hid (Calls Try.prog 14 #[.pointer (some ⟨gw, 0, none⟩)] w' fun e w2 => e = .returned (.int .i64 (p : Int)) ∧
        Hid (Calls Try.prog 12 #[.pointer (some ⟨gw, 0, none⟩), .int .u32 ((V / 2 ^ p % 2 ^ k : Nat) : Int), .int .i64 (k : Int)] w2 fun e w3 => e = .returned (.bool true) ∧ Hid (PP w0 w3 gw (p + k) (V % 2 ^ (p + k)) gr (p + k) L V G))) := by
  refine (h.get k (by omega) hn hl).mono ?_
  rintro e w1 ⟨he, h1⟩
  refine ⟨he, ?_⟩
  refine (h1.len (by omega)).mono ?_
  rintro e w2 ⟨he2, h2⟩
  refine ⟨he2, ?_⟩
  have hx : V / 2 ^ p % 2 ^ k < 4294967296 := Nat.lt_of_lt_of_le (Nat.mod_lt _ (Nat.two_pow_pos k)) (Nat.pow_le_pow_right (by omega) hn)
  have := h2.put (V / 2 ^ p % 2 ^ k) k hx hn (by omega)
  rw [Bit.more] at this
  exact this
/-- the end: the bytes are those that were read -/
theorem PP.done {w0 w : World} {gw gr L V G : Nat} (B : List Int) (a : Option Addr) (cap : Nat) (hL : L ≤ 1000000) (hB : BytesIn w0 (.slice a L cap) B (fun _ => True)) (hn : L = B.length) (hb : ∀ x ∈ B, 0 ≤ x ∧ x < 256) (hV : V = Bit.val B) (h : PP w0 w gw (8 * L) (V % 2 ^ (8 * L)) gr (8 * L) L V G) :
    Calls Try.prog 14 #[.pointer (some ⟨gw, 0, none⟩)] w fun e w1 => e = .returned (.int .i64 ((8 * L : Nat) : Int)) ∧
      Hid (Calls Try.prog 15 #[.pointer (some ⟨gw, 0, none⟩)] w1 fun e w2 => ∃ v, e = .returned v ∧
        Hid (Calls Try.prog 16 #[v, .slice a L cap] w2 fun e w3 => e = .returned (.bool true) ∧ Hid (Below w0.heap.size w0 w3))) := by
  refine (h.len (by omega)).mono ?_
  rintro e w1 ⟨he, h1⟩
  refine ⟨he, ?_⟩
  obtain ⟨v, hv, _⟩ := h1.wr
  refine (wbytes_any gw (8 * L) _ v w1 hv (by omega)).mono ?_
  rintro e w2 ⟨he2, q1, q2⟩
  refine ⟨_, he2, ?_⟩
  rw [show (8 * L + 7) / 8 = L by omega] at q1 ⊢
  have hlt : V < 2 ^ (8 * L) := by rw [hV, hn]; exact Bit.val_lt B hb
  have q1' : Byt w2 w1.heap.size V L := by rw [Nat.mod_eq_of_lt hlt] at q1; exact q1
  have hby := q1'.bytes (by omega)
  have e : Bit.by V L = B := by rw [hV, hn]; exact Bit.by_val B hb
  rw [e] at hby
  have c2 : Below w0.heap.size w0 w2 := h1.bel.trans (q2.mono h1.bel.size)
  refine (same_any B _ L L a cap w2 hn hL (hby.mono (Nat.le_refl _) (fun _ _ _ => trivial) (fun _ _ _ _ => rfl)) (later_bytes c2 hB)).mono ?_
  rintro e w3 ⟨he3, hd⟩
  exact ⟨he3, c2.trans (hd.below _)⟩
/-- the beginning -/
theorem PP.new (w0 w : World) (B : List Int) (a : Option Addr) (n cap : Nat) (hb0 : Below w0.heap.size w0 w) (hn : n = B.length) (hB : BytesIn w0 (.slice a n cap) B (fun _ => True)) (hb : ∀ x ∈ B, 0 ≤ x ∧ x < 256) (hl : n ≤ 1000000) :
    Calls Try.prog 9 #[] w fun e w1 => ∃ gw, e = .returned (.pointer (some ⟨gw, 0, none⟩)) ∧
      Hid (Calls Try.prog 22 #[.slice a n cap] w1 fun e w2 => ∃ gr, e = .returned (.pointer (some ⟨gr, 0, none⟩)) ∧ Hid (∃ G, PP w0 w2 gw 0 (Bit.val B % 2 ^ 0) gr 0 n (Bit.val B) G)) := by
  refine (WS.new w0 w hb0).mono ?_
  rintro e w1 ⟨he, h1⟩
  refine ⟨_, he, ?_⟩
  refine (rnew_any B a n cap w1 hn (later_bytes h1.bel hB) hb (by omega)).mono ?_
  rintro e w2 ⟨he2, h2, h3⟩
  refine ⟨_, he2, w1.heap.size, h1.bel.trans (h3.mono h1.bel.size), h1.lo, by have := h1.bel.size; omega, ?_, h2⟩
  obtain ⟨v, hv⟩ := h1.wr
  refine ⟨v, ?_, fun e => ?_⟩
  · rw [Nat.pow_zero, Nat.mod_one]; exact hv.later h3 (Nat.le_refl _)
  · obtain ⟨cur, hc⟩ := own_type hv.own e
    have := lt_of_block hc
    omega
end Go.Proofs.Ytkfbcekhegdmjaa
