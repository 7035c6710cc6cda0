/- The walk of a reader's Get. -/
import Derived.Test.YtkfbcekhegdmjaaBitGet
namespace Go.Proofs.Ytkfbcekhegdmjaa
open Go.RowKit Go

/-- the word that Get gathers, of bytes from f on -/
def Bit.low (V f i : Nat) : Nat := V / 2 ^ (8 * f) % 2 ^ (8 * i)
set_option maxRecDepth 100000 in
set_option maxHeartbeats 2000000 in
theorem get_core (g p L V G n cnt f hd : Nat) (w : World) (h : Rd w g p L V G) (hL : L ≤ 1000000000) (hn : n ≤ 32) (hl : p + n ≤ 8 * L) (hf : f = p / 8) (hhd : hd = p % 8) (hc : cnt = (hd + n + 7) / 8)
    (Wd : Nat → Nat) (hW0 : Wd 0 = 0) (hWb : ∀ i, i ≤ cnt → Wd i < 1099511627776)
    (hWS : ∀ i, i < cnt → bits BinOp.or IntKind.u64 ((Wd i : Nat) : Int) (IntKind.u64.wrap (((Bit.b V (f + i) : Nat) : Int) * 2 ^ (8 * i))) = ((Wd (i + 1) : Nat) : Int)) :
    Calls Try.prog 27 #[.pointer (some ⟨g, 0, none⟩), .int .i64 (n : Int)] w fun e w' => e = .returned (.tuple #[.int .u32 ((Wd cnt / 2 ^ hd % 2 ^ n : Nat) : Int), .bool true]) ∧ Rd w' g (p + n) L V G ∧ w.grownBy w' (some g) := by
  have c0 : w.cell? ⟨g, 0, none⟩ = some (.pointer (some ⟨g, 0, none⟩)) := (cell_of_row _ _ _ _ _ _ h.row).trans rfl
  have HLEFT := Lib.hid (left_any g p L V G w h hL)
  have HH := Lib.hid h; clear h
  have HF := Lib.hid hf; clear hf
  have HHD := Lib.hid hhd; clear hhd
  have HC := Lib.hid hc; clear hc
  have HW0 := Lib.hid hW0; clear hW0
  have HWB := Lib.hid hWb; clear hWb
  have HWS := Lib.hid hWS; clear hWS
  have d1 : decide ((n : Int) < 0) = false := decide_eq_false (by omega)
  have d2 : decide ((32 : Int) < (n : Int)) = false := decide_eq_false (by omega)
  have d3 : decide (8 * L - p < n) = false := decide_eq_false (by omega)
  generalize 8 * L - p = lf at *
  have HN := Lib.hid hn; clear hn
  have HLL := Lib.hid hL; clear hL
  have HL := Lib.hid hl; clear hl
  go_enter Try.func27, Try.ntmps27
  go_wp2_with fail
  refine (rmade_yes g _ c0).mono ?_
  rintro e w' ⟨rfl, rfl⟩
  go_wp2_with fail
  refine HLEFT.out.mono ?_
  rintro e w1 ⟨rfl, hd1⟩
  have h1 := HH.out.drawn hd1
  have HD1 := Lib.hid hd1; clear hd1 HLEFT c0
  have c1 : w1.cell? ⟨g, 1, none⟩ = some (.slice (some ⟨G, 0, none⟩) L L) := (cell_of_row _ _ _ _ _ _ h1.row).trans rfl
  have c2 : w1.cell? ⟨g, 2, none⟩ = some (.int .i64 (p : Int)) := (cell_of_row _ _ _ _ _ _ h1.row).trans rfl
  clear h1
  have e1 : (p : Int) / 8 = (f : Int) := by have := HF.out; omega
  have e2 : (p : Int) % 8 = (hd : Int) := by have := HHD.out; omega
  have ef : wrap64 (f : Int) = (f : Int) := by have := HF.out; have := HLL.out; have := HL.out; simp only [wrap64]; omega
  have b0 : (hd : Int) < 8 := by have := HHD.out; omega
  have b1 : (n : Int) ≤ 32 := by have := HN.out; omega
  have HTW : Hid (∀ wx, Calls Try.prog 33 #[.int .i64 ((hd : Int) + (n : Int))] wx fun e w' => e = .returned (.int .i64 (((8 - (hd + n) % 8) % 8 : Nat) : Int)) ∧ wx = w') := fun wx => by
    have := toWhole_any (hd + n) wx (by omega)
    rw [Int.natCast_add] at this
    exact this
  have e3 : ((hd : Int) + (n : Int) + (((8 - (hd + n) % 8) % 8 : Nat) : Int)) / 8 = (cnt : Int) := by have := HC.out; omega
  have b2 : (((8 - (hd + n) % 8) % 8 : Nat) : Int) < 8 := by omega
  generalize (8 - (hd + n) % 8) % 8 = q at *
  go_wp2_with fail
  go_quiet (fail)
  go_wp2_with fail
  refine (HTW.out _).mono ?_
  rintro e w' ⟨rfl, rfl⟩
  clear HTW
  go_wp2_with fail
  rw [e3]
  have HD2 : Hid (Drawn w (w1.drewN nq)) := HD1.out.drewN _
  clear HD1 c1 c2
  generalize w1.drewN nq = w2 at *
  go_loopw [9, 46] (fun v9 v46 wr => ∃ i : Nat, i ≤ cnt ∧ v46 = .int .i64 (i : Int) ∧ v9 = .int .u64 ((Wd i : Nat) : Int) ∧ Drawn w wr) (fun _ v46 _ => (cnt - intOf v46).toNat)
  case atStart => exact ⟨0, by omega, rfl, by rw [HW0.out]; rfl, HD2.out⟩
  case round =>
    clear HD2
    obtain ⟨i, hi, rfl, rfl, hdr⟩ := hrel
    have h1 := HH.out.drawn hdr
    have HD := Lib.hid hdr; clear hdr
    by_cases hlt : i < cnt
    · have c1 : wr.cell? ⟨g, 1, none⟩ = some (.slice (some ⟨G, 0, none⟩) L L) := (cell_of_row _ _ _ _ _ _ h1.row).trans rfl
      have hfi : f + i < L := by have := HF.out; have := HHD.out; have := HC.out; have := HL.out; omega
      have c3 : wr.cell? ⟨G, f + i, none⟩ = some (.int .u8 ((Bit.b V (f + i) : Nat) : Int)) := by rw [k8_cell h1.byt _ (by rw [Bit.by_length]; exact hfi), Bit.by_get _ _ _ hfi]
      have hb : Bit.b V (f + i) < 256 := Nat.mod_lt _ (by omega)
      have hbi : (((Bit.b V (f + i) : Nat)) : Int) < 256 := by omega
      have HNX := Lib.hid (HWS.out i hlt)
      clear h1
      have i1 : (f : Int) + (i : Int) < (L : Int) := by omega
      have i2 : (i : Int) ≤ 5 := by have := HC.out; omega
      have i3 : ((f : Int) + (i : Int)).toNat = f + i := by omega
      have hLI : (L : Int) ≤ 1000000000 := by have := HLL.out; omega
      have i4 : (8 * (i : Int)).toNat = 8 * i := by omega
      generalize Bit.b V (f + i) = by_ at *
      clear e1 e2 e3 ef b0 b1 b2 hb
      go_wp2
      exact ⟨⟨i + 1, by omega, rfl, by rw [HNX.out], HD.out⟩, by simp [intOf]; omega⟩
    · obtain rfl : i = cnt := by omega
      have c2 : wr.cell? ⟨g, 2, none⟩ = some (.int .i64 (p : Int)) := (cell_of_row _ _ _ _ _ _ h1.row).trans rfl
      have f2 : wr.frozen? ⟨g, 2, none⟩ = false := frozen_of_row _ _ _ _ _ h1.row
      have HE : Hid (Rd (wr.setCell ⟨g, 2, none⟩ (.int .i64 ((p : Int) + (n : Int)))) g (p + n) L V G ∧ w.grownBy (wr.setCell ⟨g, 2, none⟩ (.int .i64 ((p : Int) + (n : Int)))) (some g)) := by
        have := HH.out.moved HD.out (q := p + n) HL.out
        rw [Int.natCast_add] at this
        exact ⟨this, gb_setCell (HD.out.grown _) _⟩
      obtain ⟨y, hy⟩ : ∃ y : Nat, Wd i / 2 ^ hd = y := ⟨_, rfl⟩
      have hsh : ((Wd i : Nat) : Int) / 2 ^ hd = (y : Int) := by rw [← hy]; push_cast; rfl
      have hyb : y < 1099511627776 := Nat.lt_of_le_of_lt (by rw [← hy]; exact Nat.div_le_self _ _) (HWB.out i (Nat.le_refl _))
      have HLO := Lib.hid (fun wx => lowest_any y n wx (by omega) (by have := HN.out; omega))
      obtain ⟨z, hz⟩ : ∃ z : Nat, y % 2 ^ n = z := ⟨_, rfl⟩
      have hzb : z < 4294967296 := by
        have h1 : y % 2 ^ n < 2 ^ n := Nat.mod_lt _ (Nat.two_pow_pos n)
        have h2 : (2 : Nat) ^ n ≤ 2 ^ 32 := Nat.pow_le_pow_right (by omega) HN.out
        omega
      rw [hz] at HLO
      have HY := Lib.hid hy
      have HZ := Lib.hid hz
      have hzw : IntKind.u32.wrap (z : Int) = (z : Int) := by rw [IntKind.wrap_u32]; omega
      have hpb : (p : Int) + (n : Int) ≤ 8000000000 := by have := HL.out; have := HLL.out; omega
      clear e1 e2 e3 ef h1 hy hz hyb hzb
      go_wp2_with fail
      refine (HLO.out _).mono ?_
      rintro e w' ⟨rfl, rfl⟩
      go_wp2
      go_ret2
      exact ⟨by rw [HY.out, HZ.out]; rfl, HE.out⟩
theorem get_any (g p L V G n : Nat) (w : World) (h : Rd w g p L V G) (hL : L ≤ 1000000000) (hn : n ≤ 32) (hl : p + n ≤ 8 * L) :
    Calls Try.prog 27 #[.pointer (some ⟨g, 0, none⟩), .int .i64 (n : Int)] w fun e w' => e = .returned (.tuple #[.int .u32 ((V / 2 ^ p % 2 ^ n : Nat) : Int), .bool true]) ∧ Rd w' g (p + n) L V G ∧ w.grownBy w' (some g) := by
  have hb : ∀ i, i ≤ (p % 8 + n + 7) / 8 → Bit.low V (p / 8) i < 2 ^ (8 * i) := fun i _ => Nat.mod_lt _ (Nat.two_pow_pos _)
  have := get_core g p L V G n _ _ _ w h hL hn hl rfl rfl rfl (Bit.low V (p / 8)) (by simp [Bit.low, Nat.mod_one])
    (fun i hi => by
      have h1 := hb i hi
      have h2 := Bit.pow40 (k := 8 * i) (by omega)
      rcases Nat.lt_or_ge (Bit.low V (p / 8) i) 1099511627776 with h3 | h3
      · exact h3
      · omega)
    (fun i hi => by
      have h1 := hb i (by omega)
      have h2 := hb (i + 1) (by omega)
      have h3 := Bit.pow40 (k := 8 * (i + 1)) (by omega)
      have e1 : Bit.low V (p / 8) (i + 1) = Bit.low V (p / 8) i + Bit.b V (p / 8 + i) * 2 ^ (8 * i) := by
        rw [Bit.b_at]; exact Bit.low_next _ _
      have e : ((Bit.b V (p / 8 + i) : Nat) : Int) * 2 ^ (8 * i) = ((Bit.b V (p / 8 + i) * 2 ^ (8 * i) : Nat) : Int) := by push_cast; rfl
      rw [e1] at h2 ⊢
      rw [e, ← Bit.or_add _ _ _ h1]
      generalize Bit.b V (p / 8 + i) * 2 ^ (8 * i) = z at *
      generalize Bit.low V (p / 8) i = y at *
      rw [Bit.wrap64 _ (by omega), Bit.or64 _ _ (by omega) (by omega)])
  have e : Bit.low V (p / 8) ((p % 8 + n + 7) / 8) / 2 ^ (p % 8) % 2 ^ n = V / 2 ^ p % 2 ^ n := by
    unfold Bit.low
    rw [Bit.mid _ _ _ _ (by omega), Bit.at_]
  rw [e] at this
  exact this
/-- a length that may not be, or more than is left -/
theorem get_bad (g p L V G : Nat) (n : Int) (w : World) (h : Rd w g p L V G) (hL : L ≤ 1000000000) (hn : n < 0 ∨ 32 < n ∨ (8 * L - p : Nat) < n) :
    Calls Try.prog 27 #[.pointer (some ⟨g, 0, none⟩), .int .i64 n] w fun e w' => e = .returned (.tuple #[.int .u32 0, .bool false]) ∧ Drawn w w' := by
  have c0 : w.cell? ⟨g, 0, none⟩ = some (.pointer (some ⟨g, 0, none⟩)) := (cell_of_row _ _ _ _ _ _ h.row).trans rfl
  have HLEFT := Lib.hid (left_any g p L V G w h hL)
  clear h hL
  generalize 8 * L - p = lf at *
  by_cases h0 : n < 0
  · go_enter Try.func27, Try.ntmps27
    go_wp2_with fail
    refine (rmade_yes g _ c0).mono ?_
    rintro e w' ⟨rfl, rfl⟩
    go_wp2
    go_ret2
    exact ⟨rfl, Drawn.refl _⟩
  by_cases h1 : 32 < n
  · go_enter Try.func27, Try.ntmps27
    go_wp2_with fail
    refine (rmade_yes g _ c0).mono ?_
    rintro e w' ⟨rfl, rfl⟩
    go_wp2
    go_ret2
    exact ⟨rfl, Drawn.refl _⟩
  have h2 : (lf : Int) < n := by omega
  have d0 : decide (n < 0) = false := decide_eq_false h0
  have d1 : decide (32 < n) = false := decide_eq_false h1
  clear hn h0 h1
  go_enter Try.func27, Try.ntmps27
  go_wp2_with fail
  refine (rmade_yes g _ c0).mono ?_
  rintro e w' ⟨rfl, rfl⟩
  go_wp2_with fail
  refine HLEFT.out.mono ?_
  rintro e w1 ⟨rfl, hd1⟩
  have HD := Lib.hid hd1; clear hd1
  go_wp2
  go_ret2
  exact ⟨rfl, HD.out⟩
end Go.Proofs.Ytkfbcekhegdmjaa
