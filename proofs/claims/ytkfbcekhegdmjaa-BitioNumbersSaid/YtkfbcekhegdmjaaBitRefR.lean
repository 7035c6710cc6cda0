/- The walks of the document's reader. -/
import Derived.Test.YtkfbcekhegdmjaaBitAwake
namespace Go.Proofs.Ytkfbcekhegdmjaa
open Go.RowKit Go

theorem Bit.wrap32 (a : Nat) (h : a < 4294967296) : IntKind.u32.wrap (a : Int) = (a : Int) := by rw [IntKind.wrap_u32]; omega
theorem Bit.or32 (a b : Nat) (ha : a < 4294967296) (hb : b < 4294967296) : bits BinOp.or IntKind.u32 (a : Int) (b : Int) = ((a ||| b : Nat) : Int) := by
  have e : bits BinOp.or IntKind.u32 (a : Int) (b : Int) = IntKind.u32.wrap (((BitVec.ofInt 32 (a : Int)) ||| (BitVec.ofInt 32 (b : Int))).toNat : Int) := rfl
  have h1 : a ||| b < 2 ^ 32 := Nat.or_lt_two_pow (by omega) (by omega)
  rw [e, BitVec.toNat_or, BitVec.toNat_ofInt, BitVec.toNat_ofInt]
  have e1 : ((a : Int) % ((2 ^ 32 : Nat) : Int)).toNat = a := by omega
  have e2 : ((b : Int) % ((2 ^ 32 : Nat) : Int)).toNat = b := by omega
  rw [e1, e2, Bit.wrap32 _ (by omega)]
theorem Bit.and8_1 (a : Nat) (ha : a < 256) : bits BinOp.and IntKind.u8 (a : Int) 1 = ((a % 2 : Nat) : Int) := by
  have e : bits BinOp.and IntKind.u8 (a : Int) 1 = IntKind.u8.wrap (((BitVec.ofInt 8 (a : Int)) &&& (BitVec.ofInt 8 1)).toNat : Int) := rfl
  rw [e, BitVec.toNat_and, BitVec.toNat_ofInt]
  have e1 : ((a : Int) % ((2 ^ 8 : Nat) : Int)).toNat = a := by omega
  rw [e1, show (BitVec.ofInt 8 1).toNat = 2 ^ 1 - 1 from by decide, Nat.and_two_pow_sub_one_eq_mod, IntKind.wrap_u8]
  omega
/-- the bit i of the bytes -/
theorem Bit.bit (V i : Nat) : Bit.b V (i / 8) / 2 ^ (i % 8) % 2 = V / 2 ^ i % 2 := by
  unfold Bit.b
  have h := Bit.mid (V / 2 ^ (8 * (i / 8))) (i % 8) 1 8 (by omega)
  rw [show (2 : Nat) ^ 8 = 256 from rfl, show (2 : Nat) ^ 1 = 2 from rfl] at h
  rw [h]
  exact Bit.at_ V i 1
theorem Bit.low1 (A k : Nat) : A % 2 ^ (k + 1) = A % 2 ^ k + A / 2 ^ k % 2 * 2 ^ k := by
  rw [Nat.pow_succ, Nat.mod_mul, Nat.mul_comm (2 ^ k)]

/-- the document's reader at g, of bytes that lie elsewhere -/
structure DR (w : World) (g p L V : Nat) (a : Option Addr) (cap : Nat) : Prop where
  row : w.heap[g]? = some (.cells #[.slice a L cap, .int .i64 (p : Nat)] 47 (0, 0))
  by_ : BytesIn w (.slice a L cap) (Bit.by V L) (fun s => s ≠ g)
  le : p ≤ 8 * L
theorem DR.drawn {w w' : World} {g p L V : Nat} {a : Option Addr} {cap : Nat} (h : DR w g p L V a cap) (hd : Drawn w w') : DR w' g p L V a cap := by
  obtain ⟨m, rfl⟩ := hd
  exact ⟨h.row, h.by_, h.le⟩
theorem DR.moved {w w' : World} {g p L V q : Nat} {a : Option Addr} {cap : Nat} (h : DR w g p L V a cap) (hd : Drawn w w') (hq : q ≤ 8 * L) : DR (w'.setCell ⟨g, 1, none⟩ (.int .i64 (q : Int))) g q L V a cap :=
  ⟨(heap_setCell_same _ _ _ _ _ _ (h.drawn hd).row).trans rfl, (h.drawn hd).by_.mono (by simp) (fun _ _ h => h) (fun s o _ hs => World.cell?_of_block (heap_setCell_other _ _ _ _ hs)), hq⟩
theorem dleft_any (g p L V : Nat) (a : Option Addr) (cap : Nat) (w : World) (h : DR w g p L V a cap) (hL : L ≤ 1000000000) :
    Calls Try.prog 31 #[.pointer (some ⟨g, 0, none⟩)] w fun e w' => e = .returned (.int .i64 ((8 * L - p : Nat) : Int)) ∧ Drawn w w' := by
  have h1 := h.row
  have c0 : w.cell? ⟨g, 0, none⟩ = some (.slice a L cap) := (cell_of_row _ _ _ _ _ _ h1).trans rfl
  have c1 : w.cell? ⟨g, 1, none⟩ = some (.int .i64 (p : Int)) := (cell_of_row _ _ _ _ _ _ h1).trans rfl
  have hp := h.le
  have HE := Lib.hid (show 8 * (L : Int) - (p : Int) = ((8 * L - p : Nat) : Int) by omega)
  have q1 : (L : Int) ≤ 1000000000 := by omega
  have q2 : (p : Int) ≤ 8000000000 := by omega
  clear h h1 hp hL
  go_enter Try.func31, Try.ntmps31
  go_wp2_with fail
  go_quiet (fail)
  go_wp2
  go_ret
  exact ⟨ret_int HE.out, (Drawn.refl _).drewN _⟩
theorem dalign_any (g p L V : Nat) (a : Option Addr) (cap : Nat) (w : World) (h : DR w g p L V a cap) (hL : L ≤ 1000000000) :
    Calls Try.prog 26 #[.pointer (some ⟨g, 0, none⟩)] w fun e w' => e = .returned (.tuple #[]) ∧ DR w' g (p + (8 - p % 8) % 8) L V a cap ∧ w.grownBy w' (some g) := by
  have h1 := h.row
  have c1 : w.cell? ⟨g, 1, none⟩ = some (.int .i64 (p : Int)) := (cell_of_row _ _ _ _ _ _ h1).trans rfl
  have f1 : w.frozen? ⟨g, 1, none⟩ = false := frozen_of_row _ _ _ _ _ h1
  have hp := h.le
  have hpI : (p : Int) ≤ 8000000000 := by omega
  have HS : Hid (DR (w.setCell ⟨g, 1, none⟩ (.int .i64 (((p : Int) + 7) / 8 * 8))) g (p + (8 - p % 8) % 8) L V a cap ∧ w.grownBy (w.setCell ⟨g, 1, none⟩ (.int .i64 (((p : Int) + 7) / 8 * 8))) (some g)) := by
    have := h.moved (Drawn.refl w) (q := p + (8 - p % 8) % 8) (by omega)
    rw [show ((p + (8 - p % 8) % 8 : Nat) : Int) = ((p : Int) + 7) / 8 * 8 by omega] at this
    exact ⟨this, gb_setCell (gb_refl _ _) _⟩
  clear h h1 hp hL
  go_enter Try.func26, Try.ntmps26
  go_wp2
  go_returns
  exact ⟨rfl, HS.out⟩
theorem dget_bad (g p L V : Nat) (a : Option Addr) (cap : Nat) (n : Int) (w : World) (h : DR w g p L V a cap) (hL : L ≤ 1000000000) (hn : n < 0 ∨ 32 < n ∨ (8 * L - p : Nat) < n) :
    Calls Try.prog 28 #[.pointer (some ⟨g, 0, none⟩), .int .i64 n] w fun e w' => e = .returned (.tuple #[.int .u32 0, .bool false]) ∧ Drawn w w' := by
  have HLEFT := Lib.hid (dleft_any g p L V a cap w h hL)
  clear h hL
  generalize 8 * L - p = lf at *
  by_cases h0 : n < 0
  · go_enter Try.func28, Try.ntmps28
    go_wp2
    go_ret2
    exact ⟨rfl, Drawn.refl _⟩
  by_cases h1 : 32 < n
  · go_enter Try.func28, Try.ntmps28
    go_wp2
    go_ret2
    exact ⟨rfl, Drawn.refl _⟩
  have h2 : (lf : Int) < n := by omega
  have d0 : decide (n < 0) = false := decide_eq_false h0
  have d1 : decide (32 < n) = false := decide_eq_false h1
  clear hn h0 h1
  go_enter Try.func28, Try.ntmps28
  go_wp2_with fail
  refine HLEFT.out.mono ?_
  rintro e w1 ⟨rfl, hd1⟩
  have HD := Lib.hid hd1; clear hd1
  go_wp2
  go_ret2
  exact ⟨rfl, HD.out⟩
set_option maxRecDepth 100000 in
set_option maxHeartbeats 2000000 in
theorem dget_core (g p L V n : Nat) (a : Option Addr) (cap : Nat) (w : World) (h : DR w g p L V a cap) (hL : L ≤ 1000000000) (hn : n ≤ 32) (hl : p + n ≤ 8 * L)
    (Y : Nat → Nat) (hY0 : Y 0 = 0) (hYb : ∀ k, k ≤ n → Y k < 4294967296)
    (hY1 : ∀ k, k < n → V / 2 ^ (p + k) % 2 = 1 → bits BinOp.or IntKind.u32 ((Y k : Nat) : Int) (IntKind.u32.wrap (2 ^ k)) = ((Y (k + 1) : Nat) : Int))
    (hY2 : ∀ k, k < n → V / 2 ^ (p + k) % 2 = 0 → Y (k + 1) = Y k) :
    Calls Try.prog 28 #[.pointer (some ⟨g, 0, none⟩), .int .i64 (n : Int)] w fun e w' => e = .returned (.tuple #[.int .u32 ((Y n : Nat) : Int), .bool true]) ∧ DR w' g (p + n) L V a cap ∧ w.grownBy w' (some g) := by
  have HLEFT := Lib.hid (dleft_any g p L V a cap w h hL)
  have HH := Lib.hid h; clear h
  have HY0 := Lib.hid hY0; clear hY0
  have HYB := Lib.hid hYb; clear hYb
  have HY1 := Lib.hid hY1; clear hY1
  have HY2 := Lib.hid hY2; clear hY2
  have d1 : decide ((n : Int) < 0) = false := decide_eq_false (by omega)
  have d2 : decide ((32 : Int) < (n : Int)) = false := decide_eq_false (by omega)
  have d3 : decide (8 * L - p < n) = false := decide_eq_false (by omega)
  generalize 8 * L - p = lf at *
  have HN := Lib.hid hn; clear hn
  have HLL := Lib.hid hL; clear hL
  have HL := Lib.hid hl; clear hl
  go_enter Try.func28, Try.ntmps28
  go_wp2_with fail
  refine HLEFT.out.mono ?_
  rintro e w1 ⟨rfl, hd1⟩
  have HD1 := Lib.hid hd1; clear hd1 HLEFT
  go_wp2_with fail
  clear d1 d2 d3
  go_loopw [6, 7] (fun v6 v7 wr => ∃ k : Nat, k ≤ n ∧ v7 = .int .i64 (k : Int) ∧ v6 = .int .u32 ((Y k : Nat) : Int) ∧ Drawn w wr) (fun _ v7 _ => (n - intOf v7).toNat)
  case atStart => exact ⟨0, by omega, rfl, by rw [HY0.out]; rfl, HD1.out⟩
  case round =>
    clear HD1
    obtain ⟨k, hk, rfl, rfl, hdr⟩ := hrel
    have h1 := HH.out.drawn hdr
    have HD := Lib.hid hdr; clear hdr
    by_cases hlt : k < n
    · have hr := h1.row
      have hb := h1.by_
      have c0 : wr.cell? ⟨g, 0, none⟩ = some (.slice a L cap) := (cell_of_row _ _ _ _ _ _ hr).trans rfl
      have c1 : wr.cell? ⟨g, 1, none⟩ = some (.int .i64 (p : Int)) := (cell_of_row _ _ _ _ _ _ hr).trans rfl
      have hpk : (p + k) / 8 < L := by have := HL.out; omega
      obtain ⟨s, o, rfl, c2⟩ : ∃ s o, a = some ⟨s, o, none⟩ ∧ wr.cell? ⟨s, o + (p + k) / 8, none⟩ = some (.int .u8 ((Bit.b V ((p + k) / 8) : Nat) : Int)) := by
        obtain ⟨a', cap', e, _, _, hc⟩ := hb
        obtain ⟨s, o, e1, _, _, hc⟩ := hc (by rw [Bit.by_length]; omega)
        injection e with e2 _ _
        rw [← e2] at e1
        refine ⟨s, o, e1, ?_⟩
        rw [hc _ (by rw [Bit.by_length]; exact hpk), Bit.by_get _ _ _ hpk]
      have hbb : Bit.b V ((p + k) / 8) < 256 := Nat.mod_lt _ (by omega)
      have hbit := Bit.bit V (p + k)
      have ht2 : V / 2 ^ (p + k) % 2 < 2 := Nat.mod_lt _ (by omega)
      have HN1 := Lib.hid (HY1.out k hlt)
      have HN2 := Lib.hid (HY2.out k hlt)
      clear h1 hr hb
      have e1 : ((p : Int) + (k : Int)) / 8 = (((p + k) / 8 : Nat) : Int) := by omega
      have e2 : ((p : Int) + (k : Int)) % 8 = (((p + k) % 8 : Nat) : Int) := by omega
      have e3 : (((p + k) / 8 : Nat) : Int) < (L : Int) := by omega
      have e4 : (((p + k) % 8 : Nat) : Int) < 8 := by omega
      have hsum : (p : Int) + (k : Int) ≤ 8000000000 := by have := HL.out; have := HLL.out; omega
      have hLI : (L : Int) ≤ 1000000000 := by have := HLL.out; omega
      have hkI : (k : Int) < 32 := by have := HN.out; omega
      generalize Bit.b V ((p + k) / 8) = y at *
      generalize (p + k) / 8 = q at *
      generalize (p + k) % 8 = r at *
      have ey : (y : Int) / 2 ^ r = ((y / 2 ^ r : Nat) : Int) := by push_cast; rfl
      have hy8 : y / 2 ^ r < 256 := Nat.lt_of_le_of_lt (Nat.div_le_self _ _) hbb
      have hand := Bit.and8_1 _ hy8
      rw [hbit] at hand
      generalize y / 2 ^ r = z at *
      generalize V / 2 ^ (p + k) % 2 = t at *
      clear hbit hbb hy8
      have HT2 := Lib.hid ht2; clear ht2
      go_wp2
      · rename_i hb
        have ht : t = 1 := by have : (t : Int) = 1 := by simpa using hb
                              omega
        have := HN1.out ht
        rw [IntKind.wrap_u32] at this
        exact ⟨⟨k + 1, by omega, rfl, by rw [this], HD.out⟩, by simp [intOf]; omega⟩
      · rename_i hb
        have ht : t = 0 := by have : (t : Int) ≠ 1 := by simpa using hb
                              have := HT2.out
                              omega
        exact ⟨⟨k + 1, by omega, rfl, by rw [HN2.out ht], HD.out⟩, by simp [intOf]; omega⟩
    · obtain rfl : k = n := by omega
      have hr := h1.row
      have hb := h1.by_
      have c1 : wr.cell? ⟨g, 1, none⟩ = some (.int .i64 (p : Int)) := (cell_of_row _ _ _ _ _ _ hr).trans rfl
      have f1 : wr.frozen? ⟨g, 1, none⟩ = false := frozen_of_row _ _ _ _ _ hr
      have hsum : (p : Int) + (k : Int) ≤ 8000000000 := by have := HL.out; have := HLL.out; omega
      have HE : Hid (DR (wr.setCell ⟨g, 1, none⟩ (.int .i64 ((p : Int) + (k : Int)))) g (p + k) L V a cap ∧ w.grownBy (wr.setCell ⟨g, 1, none⟩ (.int .i64 ((p : Int) + (k : Int)))) (some g)) := by
        have := HH.out.moved HD.out (q := p + k) HL.out
        rw [Int.natCast_add] at this
        exact ⟨this, gb_setCell (HD.out.grown _) _⟩
      clear h1 hr hb
      go_wp2
      go_ret2
      exact ⟨rfl, HE.out⟩
theorem dget_any (g p L V n : Nat) (a : Option Addr) (cap : Nat) (w : World) (h : DR w g p L V a cap) (hL : L ≤ 1000000000) (hn : n ≤ 32) (hl : p + n ≤ 8 * L) :
    Calls Try.prog 28 #[.pointer (some ⟨g, 0, none⟩), .int .i64 (n : Int)] w fun e w' => e = .returned (.tuple #[.int .u32 ((V / 2 ^ p % 2 ^ n : Nat) : Int), .bool true]) ∧ DR w' g (p + n) L V a cap ∧ w.grownBy w' (some g) := by
  have hlt : ∀ k, V / 2 ^ p % 2 ^ k < 2 ^ k := fun k => Nat.mod_lt _ (Nat.two_pow_pos _)
  have hpw : ∀ k, k ≤ n → (2 : Nat) ^ k ≤ 2 ^ 32 := fun k hk => Nat.pow_le_pow_right (by omega) (by omega)
  have hst : ∀ k, V / 2 ^ p % 2 ^ (k + 1) = V / 2 ^ p % 2 ^ k + V / 2 ^ (p + k) % 2 * 2 ^ k := fun k => by
    rw [Bit.low1, Nat.div_div_eq_div_mul, ← Nat.pow_add]
  refine dget_core g p L V n a cap w h hL hn hl (fun k => V / 2 ^ p % 2 ^ k) (by simp [Nat.mod_one]) (fun k hk => ?_) (fun k hk h1 => ?_) (fun k hk h1 => ?_)
  · have := hlt k; have := hpw k hk
    show V / 2 ^ p % 2 ^ k < _
    omega
  · have h3 := hpw (k + 1) (by omega)
    have h4 := hlt k
    rw [Nat.pow_succ] at h3
    show bits BinOp.or IntKind.u32 ((V / 2 ^ p % 2 ^ k : Nat) : Int) (IntKind.u32.wrap (2 ^ k)) = ((V / 2 ^ p % 2 ^ (k + 1) : Nat) : Int)
    rw [hst k, h1, ← Bit.or_add _ _ _ h4, Nat.one_mul]
    have e : ((2 : Int) ^ k) = ((2 ^ k : Nat) : Int) := by push_cast; rfl
    rw [e]
    generalize V / 2 ^ p % 2 ^ k = y at *
    generalize 2 ^ k = z at *
    rw [Bit.wrap32 _ (by omega), Bit.or32 _ _ (by omega) (by omega)]
  · show V / 2 ^ p % 2 ^ (k + 1) = V / 2 ^ p % 2 ^ k
    rw [hst k, h1]; omega
end Go.Proofs.Ytkfbcekhegdmjaa
