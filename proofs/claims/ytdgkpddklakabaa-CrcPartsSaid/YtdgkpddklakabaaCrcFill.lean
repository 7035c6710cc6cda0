/- The walk of crc's fill: a table's rows are made. -/
import Derived.Test.YtdgkpddklakabaaCrcNew
namespace Go.Proofs.Ytdgkpddklakabaa
open Go.RowKit Go

theorem Crc.pows {n q : Nat} (hn : n < 8) (hq : q = 2 ^ (8 - n) / 2) : q = 2 ^ (7 - n) ∧ 0 < q ∧ q ≤ 128 ∧ q / 2 = 2 ^ (8 - (n + 1)) / 2 ∧ 2 * q = 2 ^ (7 - n + 1) ∧ ∀ i, i % (2 * q) = 0 → i < 256 → i + 2 * q ≤ 256 := by
  obtain rfl | rfl | rfl | rfl | rfl | rfl | rfl | rfl : n = 0 ∨ n = 1 ∨ n = 2 ∨ n = 3 ∨ n = 4 ∨ n = 5 ∨ n = 6 ∨ n = 7 := by omega
  all_goals
    subst hq
    refine ⟨by decide, by decide, by decide, by decide, by decide, fun i h1 h2 => ?_⟩
    simp only [Nat.reduceSub, Nat.reducePow, Nat.reduceDiv, Nat.reduceMul] at *
    omega

/-- the rows of the bytes that are multiples of m, and of those below i that are multiples of q, are made -/
structure Crc.Rows (p : Int) (C C0 : Array Value) (m q i : Nat) : Prop where
  size : C.size = 261
  head : ∀ j, j < 5 → C[j]? = C0[j]?
  all : ∀ k, k < 256 → k % m = 0 → C[5 + k]? = some (.int .u32 (Crc.row p k))
  part : ∀ k, k < i → k < 256 → k % q = 0 → C[5 + k]? = some (.int .u32 (Crc.row p k))
theorem Crc.mod_two {k q : Nat} (h : k % (2 * q) = 0) : k % q = 0 := by
  obtain ⟨c, hc⟩ := Nat.dvd_of_mod_eq_zero h
  rw [hc, Nat.mul_assoc, Nat.mul_comm 2, Nat.mul_assoc]
  exact Nat.mul_mod_right _ _
theorem Crc.mod_next {k q i : Nat} (hq : 0 < q) (hi : i % (2 * q) = 0) (h1 : i ≤ k) (h2 : k < i + 2 * q) (h : k % q = 0) : k = i ∨ k = i + q := by
  have hiq := Crc.mod_two hi
  obtain ⟨c, rfl⟩ := Nat.dvd_of_mod_eq_zero hiq
  obtain ⟨d, rfl⟩ := Nat.dvd_of_mod_eq_zero h
  have h3 : c ≤ d := Nat.le_of_mul_le_mul_left h1 hq
  have h4 : d < c + 2 := Nat.lt_of_mul_lt_mul_left (a := q) (by rw [Nat.mul_add, Nat.mul_comm q 2]; exact h2)
  obtain rfl | rfl : d = c ∨ d = c + 1 := by omega
  · exact .inl rfl
  · exact .inr (by rw [Nat.mul_add, Nat.mul_one])
theorem Crc.Rows.next {p : Int} {C C0 : Array Value} {n q i : Nat} (h : Crc.Rows p C C0 (2 * q) q i) (hn : n < 8) (hq : q = 2 ^ (8 - n) / 2) (hi : i % (2 * q) = 0) (hi' : i < 256) :
    Crc.Rows p (C.setIfInBounds (5 + (i + q)) (.int .u32 (bits .xor .u32 (Crc.row p i) (Crc.ones p (n + 1))))) C0 (2 * q) q (i + 2 * q) := by
  obtain ⟨e1, e2, e3, e4, e5, e6⟩ := Crc.pows hn hq
  have e7 := e6 i hi hi'
  have hr : bits .xor .u32 (Crc.row p i) (Crc.ones p (n + 1)) = Crc.row p ((i + q : Nat) : Int) := by
    have := Crc.row_add (p := p) (i := i) (j := 7 - n) (by omega) (by rw [← e5]; exact hi) hi'
    rw [show 8 - (7 - n) = n + 1 by omega, ← e1] at this
    exact this.symm
  have hs := h.size
  refine ⟨by simpa using hs, fun j hj => ?_, fun k hk hm => ?_, fun k hki hk hm => ?_⟩
  · rw [Array.getElem?_setIfInBounds, if_neg (by omega)]; exact h.head j hj
  · rw [Array.getElem?_setIfInBounds]
    by_cases hkq : i + q = k
    · subst hkq; rw [if_pos rfl, if_pos (by omega), hr]
    · rw [if_neg (by omega)]; exact h.all k hk hm
  · rw [Array.getElem?_setIfInBounds]
    by_cases hkq : i + q = k
    · subst hkq; rw [if_pos rfl, if_pos (by omega), hr]
    · rw [if_neg (by omega)]
      by_cases hlt : k < i
      · exact h.part k hlt hk hm
      · rcases Crc.mod_next e2 hi (by omega) hki hm with rfl | rfl
        · exact h.all k hk hi
        · exact absurd rfl hkq
theorem Crc.Rows.done {p : Int} {C C0 : Array Value} {n q i : Nat} (h : Crc.Rows p C C0 (2 * q) q i) (hn : n < 8) (hq : q = 2 ^ (8 - n) / 2) (hi : 256 ≤ i) :
    Crc.Rows p C C0 (2 ^ (8 - (n + 1))) 1 0 := by
  obtain ⟨e1, e2, e3, e4, e5, e6⟩ := Crc.pows hn hq
  refine ⟨h.size, h.head, fun k hk hm => h.part k (by omega) hk ?_, fun k hk => by omega⟩
  rw [e1, show 7 - n = 8 - (n + 1) by omega]
  exact hm
theorem Crc.Rows.begin {p : Int} {C C0 : Array Value} {n q : Nat} (h : Crc.Rows p C C0 (2 ^ (8 - n)) 1 0) (hn : n < 8) (hq : q = 2 ^ (8 - n) / 2) : Crc.Rows p C C0 (2 * q) q 0 := by
  obtain ⟨e1, e2, e3, e4, e5, e6⟩ := Crc.pows hn hq
  refine ⟨h.size, h.head, fun k hk hm => h.all k hk ?_, fun k hk => by omega⟩
  rw [e5, show 7 - n + 1 = 8 - n by omega] at hm
  exact hm

set_option maxRecDepth 100000 in
set_option maxHeartbeats 2000000 in
theorem fill_core (b : Nat) (p : Int) (C : Array Value) (R : Nat → Int) (O : Nat → Int) (w : World) (hp : 0 ≤ p) (hp' : p < 4294967296) (hR : ∀ i, 0 ≤ R i ∧ R i < 4294967296) (hO : ∀ i, 0 ≤ O i ∧ O i < 4294967296)
    (hRe : R = fun i : Nat => Crc.row p (i : Int)) (hOe : O = fun n => Crc.ones p n) (hO0 : O 0 = 1) (hOS : ∀ n, Crc.step p (O n) = O (n + 1))
    (hblk : w.heap[b]? = some (.cells C 47 (0, 0))) (hs : C.size = 261) (h1 : C[1]? = some (.int .u32 p)) (h5 : C[5]? = some (.int .u32 0)) :
    Calls Try.prog 24 #[.pointer (some ⟨b, 0, none⟩)] w fun e w' => e = .returned (.tuple #[]) ∧ w.grownBy w' (some b) ∧ ∃ C', w'.heap[b]? = some (.cells C' 47 (0, 0)) ∧ Crc.Rows p C' C 1 1 0 := by
  have HR0 : Hid (Crc.Rows p C C (2 ^ (8 - 0)) 1 0) := ⟨hs, fun _ _ => rfl, fun k hk hm => by
    obtain rfl : k = 0 := by simp at hm; omega
    rw [show 5 + 0 = 5 from rfl, h5]; show _ = some (Value.int .u32 (Crc.row p 0)); rw [Crc.row_zero], fun k hk => by omega⟩
  have HBLK := Lib.hid hblk; clear hblk
  have H1 := Lib.hid h1; clear h1
  have HRE := Lib.hid hRe; clear hRe
  have HOE := Lib.hid hOe; clear hOe
  have HRB := Lib.hid hR; clear hR
  have HOB := Lib.hid hO; clear hO
  have HO0 := Lib.hid hO0; clear hO0
  have HOS := Lib.hid hOS; clear hOS
  clear hs h5
  go_enter Try.func24, Try.ntmps24
  go_wp2
  go_loopw [2, 3] (fun v2 v3 wr => ∃ n q : Nat, n ≤ 8 ∧ q = 2 ^ (8 - n) / 2 ∧ v2 = .int .u32 (O n) ∧ v3 = .int .i64 (q : Int) ∧ w.grownBy wr (some b) ∧ ∃ C' : Array Value, wr.heap[b]? = some (.cells C' 47 (0, 0)) ∧ Crc.Rows p C' C (2 ^ (8 - n)) 1 0)
    (fun _ v3 _ => (intOf v3).toNat)
  case atStart => exact ⟨0, 128, by omega, by decide, by rw [HO0.out], rfl, gb_refl _ _, C, HBLK.out, HR0.out⟩
  case round =>
    clear HR0
    obtain ⟨n, q, hn, hq, rfl, rfl, hg, C', hb', hr'⟩ := hrel
    have HG := Lib.hid hg; clear hg
    have HB := Lib.hid hb'; clear hb'
    have HR := Lib.hid hr'; clear hr'
    by_cases hlt : n < 8
    · obtain ⟨e1, e2, e3, e4, e5, e6⟩ := Crc.pows hlt hq
      have HQ := Lib.hid hq; clear hq
      have HE4 := Lib.hid e4; clear e4
      have HE6 := Lib.hid e6; clear e6
      clear e1 e5
      have hp1 : wr.cell? ⟨b, 1, none⟩ = some (.int .u32 p) := (cell_of_row _ _ _ _ _ _ HB.out).trans ((HR.out.head 1 (by omega)).trans H1.out)
      go_wp2_with fail
      refine (step_any b p (O n) _ hp hp' (HOB.out n).1 (HOB.out n).2 hp1).mono ?_
      rintro e w' ⟨rfl, rfl⟩
      rw [HOS.out n]
      go_wp2
      have HRB0 : Hid (Crc.Rows p C' C (2 * q) q 0) := HR.out.begin hlt HQ.out
      have hO1 := HOB.out (n + 1)
      have HOI : Hid (O (n + 1) = Crc.ones p (n + 1)) := by rw [HOE.out]; rfl
      have HDEC : (2 * q : Nat) = 2 * q := rfl
      clear HDEC
      generalize O (n + 1) = y at *
      obtain ⟨y0, y1⟩ := hO1
      go_loopw [4] (fun v4 wx => ∃ i : Nat, i % (2 * q) = 0 ∧ i ≤ 256 ∧ v4 = .int .i64 (i : Int) ∧ w.grownBy wx (some b) ∧ ∃ C' : Array Value, wx.heap[b]? = some (.cells C' 47 (0, 0)) ∧ Crc.Rows p C' C (2 * q) q i)
        (fun v4 _ => (256 - intOf v4).toNat)
      case atStart => exact ⟨0, Nat.zero_mod _, by omega, rfl, HG.out, C', HB.out, HRB0.out⟩
      case round =>
        clear HRB0 HR HB HG hp1
        obtain ⟨i, hi, hi1, rfl, hg, C2, hb', hr'⟩ := hrel
        have HG := Lib.hid hg; clear hg
        have HB := Lib.hid hb'; clear hb'
        have HR := Lib.hid hr'; clear hr'
        by_cases hlti : i < 256
        · have h2 := HE6.out i hi hlti
          have HI := Lib.hid hi; clear hi
          obtain ⟨x, hx⟩ : ∃ x, Crc.row p i = x := ⟨_, rfl⟩
          have hxb := Crc.row_bd p i
          rw [hx] at hxb
          obtain ⟨x0, x1⟩ := hxb
          have e1 : wr.cell? ⟨b, 5 + i, none⟩ = some (.int .u32 x) := by rw [cell_of_row _ _ _ _ _ _ HB.out, HR.out.all i hlti HI.out, hx]
          obtain ⟨ov, e2⟩ : ∃ v, wr.cell? ⟨b, 5 + (i + q), none⟩ = some v := ⟨_, (cell_of_row _ _ _ _ _ _ HB.out).trans (Array.getElem?_eq_getElem (by have := HR.out.size; omega))⟩
          have e3 : wr.frozen? ⟨b, 5 + (i + q), none⟩ = false := frozen_of_row _ _ _ _ _ HB.out
          have e4 : IntKind.i64.wrap ((i : Int) + q) = ((i + q : Nat) : Int) := by rw [IntKind.wrap_i64]; omega
          have HX := Lib.hid hx; clear hx
          go_wp2_with fail
          go_region
          go_wp2
          go_roundw
          case rel =>
            have hn := HR.out.next hlt HQ.out HI.out hlti
            rw [HX.out, ← HOI.out] at hn
            refine ⟨i + 2 * q, by rw [Nat.add_mod_right]; exact HI.out, by omega, by congr 1, gb_setCell (gb_drew HG.out) _, _, heap_setCell_same _ _ _ _ _ _ HB.out, hn⟩
          case measure => simp [intOf]; omega
        · have HF := HR.out.done hlt HQ.out (by omega)
          have HFF := Lib.hid HF; clear HF
          go_wp2
          go_roundw
          case rel =>
            refine ⟨n + 1, q / 2, by omega, HE4.out, ?_, by congr 1, HG.out, C2, HB.out, HFF.out⟩
            rw [HOI.out, HOE.out]
          case measure => simp [intOf]; omega
    · have hn8 : n = 8 := by omega
      have hq0 : q = 0 := by rw [hq, hn8]
      have hfin : w.grownBy wr (some b) ∧ ∃ C', wr.heap[b]? = some (.cells C' 47 (0, 0)) ∧ Crc.Rows p C' C 1 1 0 := ⟨HG.out, C', HB.out, by have := HR.out; rwa [hn8] at this⟩
      have HFIN := Lib.hid hfin
      clear hfin HG HB HR hq hlt
      subst hq0
      go_wp2
      go_end0
      exact ⟨rfl, HFIN.out⟩

theorem fill_any (b : Nat) (p : Int) (C : Array Value) (w : World) (hp : 0 ≤ p) (hp' : p < 4294967296)
    (hblk : w.heap[b]? = some (.cells C 47 (0, 0))) (hs : C.size = 261) (h1 : C[1]? = some (.int .u32 p)) (h5 : C[5]? = some (.int .u32 0)) :
    Calls Try.prog 24 #[.pointer (some ⟨b, 0, none⟩)] w fun e w' => e = .returned (.tuple #[]) ∧ w.grownBy w' (some b) ∧ ∃ C', w'.heap[b]? = some (.cells C' 47 (0, 0)) ∧ Crc.Rows p C' C 1 1 0 :=
  fill_core b p C _ _ w hp hp' (fun _ => Crc.row_bd _ _) (fun _ => Crc.ones_bd _ _) rfl rfl (Crc.ones_zero p) (fun n => (Crc.ones_succ p n).symm) hblk hs h1 h5
end Go.Proofs.Ytdgkpddklakabaa
