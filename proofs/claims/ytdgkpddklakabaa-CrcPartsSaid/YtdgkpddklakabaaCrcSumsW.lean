/- The walks of the laws CrcSums and CrcTables: any bytes have the document's sums, and stay. -/
import Derived.Test.YtdgkpddklakabaaCrcAwake
import Derived.Test.YtdgkpddklakabaaKitLent
namespace Go.Proofs.Ytdgkpddklakabaa
open Go.RowKit Go

theorem Lent.lt {w : World} {v : Value} {B : List Int} {M : Nat → Int} {g : Nat} (h : Lent w v B M g) : g < w.heap.size := by
  obtain ⟨_, _, _, _, _, h, _⟩ := h.blk; exact lt_of_block h
theorem Lent.below {w w' : World} {v : Value} {B : List Int} {M : Nat → Int} {g : Nat} (h : Lent w v B M g) (hb : Below w.heap.size w w') : Lent w' v B M g := h.keep (hb.block g h.lt)
theorem BytesIn.any {w : World} {v : Value} {B : List Int} {ok : Nat → Prop} (h : BytesIn w v B ok) : BytesIn w v B (fun _ => True) := h.mono (Nat.le_refl _) (fun _ _ _ => trivial) (fun _ _ _ _ => rfl)

set_option maxRecDepth 100000 in
set_option maxHeartbeats 2000000 in
theorem sums_walk (s : Int) (a : Option Addr) (n cap : Nat) (B : List Int) (w : World) (hs : 0 ≤ s) (hs' : s < 4294967296)
    (hn : n = B.length) (hB : BytesIn w (.slice a n cap) B (fun _ => True)) (hBb : ∀ x ∈ B, 0 ≤ x ∧ x < 256) (hna : a = none → cap = 0) (_ : n ≤ 140737488351232) :
    Calls Try.prog 3 #[.int .u32 s, .slice a n cap] w fun e w' => e = .returned (.bool true) ∧ Below w.heap.size w w' := by
  by_cases hn5 : n ≤ 50000
  · have hn5' : (n : Int) ≤ 50000 := by omega
    obtain ⟨y, hy⟩ : ∃ y, Crc.sum Crc.cas 0 B = y := ⟨_, rfl⟩
    obtain ⟨z, hz⟩ : ∃ z, Crc.sum Crc.cas s B = z := ⟨_, rfl⟩
    have HEND : Hid (Calls Try.prog 10 #[.slice a n cap] w fun e w2 => ∃ v, e = .returned v ∧ Hid (
        Calls Try.prog 11 #[v] w2 fun e w3 => e = .returned (.int .u32 y) ∧ Hid (
          Calls Try.prog 12 #[.slice a n cap] w3 fun e w4 => e = .returned (.int .u32 y) ∧ Hid (
            Calls Try.prog 13 #[.int .u32 s, v] w4 fun e w5 => e = .returned (.int .u32 z) ∧ Hid (
              Calls Try.prog 14 #[.int .u32 s, .slice a n cap] w5 fun e w6 => e = .returned (.int .u32 z) ∧ Hid (
                Calls Try.prog 15 #[v, .slice a n cap] w6 fun e w7 => e = .returned (.bool true) ∧ Hid (
                  Calls Try.prog 9 #[] w7 fun e w8 => e = .returned (.bool true) ∧ Hid (Below w.heap.size w w8)))))))) := by
      refine (lent_any B a n cap w hn hB hna (by omega)).mono ?_
      rintro e w2 ⟨v, g, he, hv, hg, c2⟩
      refine ⟨v, he, ?_⟩
      refine (csum_any B v w2 hBb hv.bytes.any).mono ?_
      rintro e w3 ⟨he3, hb3⟩
      refine ⟨by rw [he3, hy], ?_⟩
      have c3 : Below w.heap.size w w3 := c2.trans (hb3.mono c2.size)
      have v3 := hv.below hb3
      refine (rsum_any B _ w3 hBb (later_bytes c3 hB)).mono ?_
      rintro e w4 ⟨he4, rfl⟩
      refine ⟨by rw [he4, hy], ?_⟩
      refine (cadd_any s B v w3 hs hs' hBb v3.bytes.any).mono ?_
      rintro e w5 ⟨he5, hb5⟩
      refine ⟨by rw [he5, hz], ?_⟩
      have c5 : Below w.heap.size w w5 := c3.trans (hb5.mono c3.size)
      have v5 := v3.below hb5
      refine (radd_any s B _ w5 hs hs' hBb (later_bytes c5 hB)).mono ?_
      rintro e w6 ⟨he6, rfl⟩
      refine ⟨by rw [he6, hz], ?_⟩
      refine (kept_any B g v a n cap w5 hn (later_bytes c5 hB) (by omega) v5).mono ?_
      rintro e w7 ⟨he7, hd7⟩
      refine ⟨he7, ?_⟩
      have c7 := c5.trans (hd7.below w5.heap.size |>.mono c5.size)
      refine (awake_any w7).mono ?_
      rintro e w8 ⟨he8, hb8⟩
      exact ⟨he8, c7.trans (hb8.mono c7.size)⟩
    clear hB hBb hna hn hy hz
    go_enter Try.func3, Try.ntmps3
    go_wp2_with fail
    refine HEND.out.mono ?_
    rintro e w2 ⟨v, rfl, k2⟩
    clear HEND
    go_wp2_with fail
    refine k2.out.mono ?_
    rintro e w3 ⟨rfl, k3⟩
    go_wp2_with fail
    refine k3.out.mono ?_
    rintro e w4 ⟨rfl, k4⟩
    go_wp2_with fail
    refine k4.out.mono ?_
    rintro e w5 ⟨rfl, k5⟩
    go_wp2_with fail
    refine k5.out.mono ?_
    rintro e w6 ⟨rfl, k6⟩
    go_wp2_with fail
    refine k6.out.mono ?_
    rintro e w7 ⟨rfl, k7⟩
    go_wp2_with fail
    refine k7.out.mono ?_
    rintro e w8 ⟨rfl, k8⟩
    go_wp2
    go_ret
    exact ⟨rfl, k8.out⟩
  · have hn' : 50000 < n := by omega
    have HAW := Lib.hid (awake_any w)
    clear hB hBb hna hn
    go_enter Try.func3, Try.ntmps3
    go_wp2_with fail
    refine HAW.out.mono ?_
    rintro e w1 ⟨rfl, hb1⟩
    have HB1 := Lib.hid hb1; clear hb1 HAW
    go_wp2
    go_ret
    exact ⟨rfl, HB1.out⟩

theorem tbl_new (p : Int) (w : World) : Tbl (w.alloc (.cells (tabCells (.pointer (some ⟨w.heap.size, 0, none⟩)) p) 47)) w.heap.size p := .inl ⟨_, raw_new p w⟩
theorem FilledW.tbl {w w' : World} {b : Nat} {p : Int} (h : FilledW w w' b p) : Tbl w' b p := .inr h.2
theorem Tbl.lt {w : World} {b : Nat} {p : Int} (h : Tbl w b p) : b < w.heap.size := World.block_lt_of_cell? w _ h.self
/-- two tables, and a lent list, of a call that began in w -/
structure TwoT (w wi : World) (x y : Nat) (p q : Int) (v : Value) (B : List Int) (g : Nat) : Prop where
  bel : Below w.heap.size w wi
  hx : Tbl wi x p
  hy : Tbl wi y q
  lx : w.heap.size ≤ x
  ly : w.heap.size ≤ y
  ne : x ≠ y
  gx : g ≠ x
  gy : g ≠ y
  lent : Lent wi v B (Kit.mb 1) g
theorem TwoT.left {w wi : World} {x y : Nat} {p q : Int} {v : Value} {B : List Int} {g : Nat} (h : TwoT w wi x y p q v B g) (s : Int) (hp : 0 ≤ p) (hp' : p < 4294967296) (hs : 0 ≤ s) (hs' : s < 4294967296) (hB : ∀ x ∈ B, 0 ≤ x ∧ x < 256) :
    Calls Try.prog 18 #[.pointer (some ⟨x, 0, none⟩), .int .u32 s, v] wi fun e w' => e = .returned (.int .u32 (Crc.sum p s B)) ∧ TwoT w w' x y p q v B g := by
  refine (add_any x p s B v wi hp hp' hs hs' hB (h.lent.bytes.mono (Nat.le_refl _) (fun k _ e => by have := h.gx; omega) (fun _ _ _ _ => rfl)) h.hx).mono ?_
  rintro e w' ⟨he, hf⟩
  exact ⟨he, below_of_gb h.bel hf.1 h.lx h.bel.size, hf.tbl, h.hy.keep (gb_heap hf.1 h.hy.lt h.ne.symm), h.lx, h.ly, h.ne, h.gx, h.gy, h.lent.keep (gb_heap hf.1 h.lent.lt h.gx)⟩
theorem TwoT.turn {w wi : World} {x y : Nat} {p q : Int} {v : Value} {B : List Int} {g : Nat} (h : TwoT w wi x y p q v B g) : TwoT w wi y x q p v B g := ⟨h.bel, h.hy, h.hx, h.ly, h.lx, h.ne.symm, h.gy, h.gx, h.lent⟩

set_option maxRecDepth 100000 in
set_option maxHeartbeats 2000000 in
theorem tables_walk (p s : Int) (a : Option Addr) (n cap : Nat) (B : List Int) (w : World) (hp : 0 ≤ p) (hp' : p < 4294967296) (hs : 0 ≤ s) (hs' : s < 4294967296)
    (hn : n = B.length) (hB : BytesIn w (.slice a n cap) B (fun _ => True)) (hBb : ∀ x ∈ B, 0 ≤ x ∧ x < 256) (hna : a = none → cap = 0) (_ : n ≤ 140737488351232) :
    Calls Try.prog 4 #[.int .u32 p, .int .u32 s, .slice a n cap] w fun e w' => e = .returned (.bool true) ∧ Below w.heap.size w w' := by
  have hsg : IntKind.u32.signed = false := rfl
  have hmx : IntKind.u32.max = 4294967295 := rfl
  by_cases hn5 : n ≤ 50000
  · have hn5' : (n : Int) ≤ 50000 := by omega
    obtain ⟨q, hq⟩ : ∃ q, bits .xor .u32 4294967295 p = q := ⟨_, rfl⟩
    have hqb : 0 ≤ q ∧ q < 4294967296 := by rw [← hq, Crc.not_bv hp hp']; exact Crc.iv_bd _
    obtain ⟨y, hy⟩ : ∃ y, Crc.sum p s B = y := ⟨_, rfl⟩
    obtain ⟨z, hz⟩ : ∃ z, Crc.sum q s B = z := ⟨_, rfl⟩
    have HEND : Hid (Calls Try.prog 16 #[.int .u32 p] w fun e w1 => ∃ t, e = .returned (.pointer (some ⟨t, 0, none⟩)) ∧ Hid (
      Calls Try.prog 16 #[.int .u32 q] w1 fun e w2 => ∃ u, e = .returned (.pointer (some ⟨u, 0, none⟩)) ∧ Hid (
       Calls Try.prog 10 #[.slice a n cap] w2 fun e w3 => ∃ v, e = .returned v ∧ Hid (
        Calls Try.prog 17 #[.int .u32 p, .int .u32 s, .slice a n cap] w3 fun e w4 => e = .returned (.int .u32 y) ∧ Hid (
         Calls Try.prog 18 #[.pointer (some ⟨t, 0, none⟩), .int .u32 s, v] w4 fun e w5 => e = .returned (.int .u32 y) ∧ Hid (
          Calls Try.prog 18 #[.pointer (some ⟨u, 0, none⟩), .int .u32 s, v] w5 fun e w6 => e = .returned (.int .u32 z) ∧ Hid (
           Calls Try.prog 17 #[.int .u32 q, .int .u32 s, .slice a n cap] w6 fun e w7 => e = .returned (.int .u32 z) ∧ Hid (
            Calls Try.prog 18 #[.pointer (some ⟨t, 0, none⟩), .int .u32 s, v] w7 fun e w8 => e = .returned (.int .u32 y) ∧ Hid (
                Calls Try.prog 15 #[v, .slice a n cap] w8 fun e w9 => e = .returned (.bool true) ∧ Hid (
                  Calls Try.prog 9 #[] w9 fun e w10 => e = .returned (.bool true) ∧ Hid (Below w.heap.size w w10))))))))))) := by
      refine (new_raw p w).mono ?_
      rintro e w1 ⟨he1, hw1⟩
      refine ⟨_, he1, ?_⟩
      have t1 : Tbl w1 w.heap.size p := by rw [hw1]; exact tbl_new p w
      have c1 : Below w.heap.size w w1 := by rw [hw1]; exact (Below.refl _ _).alloc (Nat.le_refl _) _
      clear hw1
      refine (new_raw q w1).mono ?_
      rintro e w2 ⟨he2, hw2⟩
      refine ⟨_, he2, ?_⟩
      have u2 : Tbl w2 w1.heap.size q := by rw [hw2]; exact tbl_new q w1
      have b2 : Below w1.heap.size w1 w2 := by rw [hw2]; exact (Below.refl _ _).alloc (Nat.le_refl _) _
      clear hw2
      have c2 : Below w.heap.size w w2 := c1.trans (b2.mono c1.size)
      have t2 : Tbl w2 w.heap.size p := t1.keep (b2.block _ t1.lt)
      refine (lent_any B a n cap w2 hn (later_bytes c2 hB) hna (by omega)).mono ?_
      rintro e w3 ⟨v, g, he3, hv, hg, b3⟩
      refine ⟨v, he3, ?_⟩
      have l1 := t1.lt
      have l2 := u2.lt
      have tw : TwoT w w3 w.heap.size w1.heap.size p q v B g := ⟨c2.trans (b3.mono c2.size), t2.keep (b3.block _ t2.lt), u2.keep (b3.block _ u2.lt), Nat.le_refl _, c1.size, by omega, by omega, by omega, hv⟩
      refine (of_any p s B _ w3 hp hp' hs hs' hBb (later_bytes tw.bel hB)).mono ?_
      rintro e w4 ⟨he4, rfl⟩
      refine ⟨by rw [he4, hy], ?_⟩
      refine (tw.left s hp hp' hs hs' hBb).mono ?_
      rintro e w5 ⟨he5, tw⟩
      refine ⟨by rw [he5, hy], ?_⟩
      refine (tw.turn.left s hqb.1 hqb.2 hs hs' hBb).mono ?_
      rintro e w6 ⟨he6, tw⟩
      refine ⟨by rw [he6, hz], ?_⟩
      refine (of_any q s B _ w6 hqb.1 hqb.2 hs hs' hBb (later_bytes tw.bel hB)).mono ?_
      rintro e w7 ⟨he7, rfl⟩
      refine ⟨by rw [he7, hz], ?_⟩
      refine (tw.turn.left s hp hp' hs hs' hBb).mono ?_
      rintro e w8 ⟨he8, tw⟩
      refine ⟨by rw [he8, hy], ?_⟩
      refine (kept_any B g v a n cap w8 hn (later_bytes tw.bel hB) (by omega) tw.lent).mono ?_
      rintro e w9 ⟨he9, hd9⟩
      refine ⟨he9, ?_⟩
      have c9 := tw.bel.trans (hd9.below w8.heap.size |>.mono tw.bel.size)
      refine (awake_any w9).mono ?_
      rintro e w10 ⟨he10, hb10⟩
      exact ⟨he10, c9.trans (hb10.mono c9.size)⟩
    clear hB hBb hna hn hy hz
    go_enter Try.func4, Try.ntmps4
    go_wp2_with fail
    refine HEND.out.mono ?_
    rintro e w1 ⟨t, rfl, k1⟩
    clear HEND
    go_wp2_with fail
    refine k1.out.mono ?_
    rintro e w2 ⟨u, rfl, k2⟩
    go_wp2_with fail
    refine k2.out.mono ?_
    rintro e w3 ⟨v, rfl, k3⟩
    go_wp2_with fail
    refine k3.out.mono ?_
    rintro e w4 ⟨rfl, k4⟩
    go_wp2_with fail
    refine k4.out.mono ?_
    rintro e w5 ⟨rfl, k5⟩
    go_wp2_with fail
    refine k5.out.mono ?_
    rintro e w6 ⟨rfl, k6⟩
    go_wp2_with fail
    refine k6.out.mono ?_
    rintro e w7 ⟨rfl, k7⟩
    go_wp2_with fail
    refine k7.out.mono ?_
    rintro e w8 ⟨rfl, k8⟩
    go_wp2_with fail
    refine k8.out.mono ?_
    rintro e w9 ⟨rfl, k9⟩
    go_wp2_with fail
    refine k9.out.mono ?_
    rintro e w10 ⟨rfl, k10⟩
    go_wp2
    go_ret
    exact ⟨rfl, k10.out⟩
  · have hn' : 50000 < n := by omega
    have HAW := Lib.hid (awake_any w)
    clear hB hBb hna hn
    go_enter Try.func4, Try.ntmps4
    go_wp2_with fail
    refine HAW.out.mono ?_
    rintro e w1 ⟨rfl, hb1⟩
    have HB1 := Lib.hid hb1; clear hb1 HAW
    go_wp2
    go_ret
    exact ⟨rfl, HB1.out⟩
end Go.Proofs.Ytdgkpddklakabaa
