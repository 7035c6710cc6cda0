/- The walks of crc's Add of a table: on none, on one that nobody made, and on one that New answered; of Add and Sum. -/
import Derived.Test.YtdgkpddklakabaaCrcOnce
namespace Go.Proofs.Ytdgkpddklakabaa
open Go.RowKit Go

theorem add_nil (s : Int) (v : Value) (w : World) :
    Calls Try.prog 18 #[.pointer none, .int .u32 s, v] w fun e w' => e = .returned (.int .u32 0) ∧ w = w' := by
  go_enter Try.func18, Try.ntmps18
  go_wp2_with fail
  refine (made_nil _).mono ?_
  rintro e w' ⟨rfl, rfl⟩
  go_wp2
  go_ret
  exact ⟨rfl, rfl⟩
theorem add_not (b : Nat) (s : Int) (v : Value) (w : World) (h : w.cell? ⟨b, 0, none⟩ = some (.pointer none)) :
    Calls Try.prog 18 #[.pointer (some ⟨b, 0, none⟩), .int .u32 s, v] w fun e w' => e = .returned (.int .u32 0) ∧ w = w' := by
  go_enter Try.func18, Try.ntmps18
  go_wp2_with fail
  refine (made_not b _ h).mono ?_
  rintro e w' ⟨rfl, rfl⟩
  go_wp2
  go_ret
  exact ⟨rfl, rfl⟩

set_option maxRecDepth 100000 in
set_option maxHeartbeats 2000000 in
theorem add_core (b : Nat) (p s : Int) (B : List Int) (W : Nat → Int) (R : Int → Int) (v : Value) (w : World) (hp : 0 ≤ p) (hp' : p < 4294967296) (_hs : 0 ≤ s) (_hs' : s < 4294967296) (hB : ∀ x ∈ B, 0 ≤ x ∧ x < 256)
    (hv : BytesIn w v B (· ≠ b)) (h : Tbl w b p) (hR : ∀ i, 0 ≤ R i ∧ R i < 4294967296) (hRe : ∀ i, R i = Crc.row p i) (hW : ∀ k, 0 ≤ W k ∧ W k < 4294967296) (hW0 : W 0 = bits .xor .u32 4294967295 s)
    (hWS : ∀ k, W (k + 1) = bits .xor .u32 (W k / 256) (R (bits .xor .u8 (W k % 256) (B.getD k 0)))) :
    Calls Try.prog 18 #[.pointer (some ⟨b, 0, none⟩), .int .u32 s, v] w fun e w' => e = .returned (.int .u32 (bits .xor .u32 4294967295 (W B.length))) ∧ FilledW w w' b p := by
  obtain ⟨a, cap, rfl, h1, h2, h3⟩ := hv
  have hself := h.self
  have HDO := Lib.hid (fun wx => do_any b p wx) ; clear HDO
  have HT := Lib.hid h; clear h
  have HBB := Lib.hid hB; clear hB
  have HC := Lib.hid h3; clear h3
  have HR := Lib.hid hR; clear hR
  have HRE := Lib.hid hRe; clear hRe
  have HW := Lib.hid hW; clear hW
  have HW0 := Lib.hid hW0; clear hW0
  have HWS := Lib.hid hWS; clear hWS
  have hmf : ∀ (fn : Fn) (first cap : Array Value) (w : World), (Instr.makeFunc fn first cap).run Try.prog w = .ok (.func fn first cap) w := fun _ _ _ _ => rfl
  have hsg : IntKind.u32.signed = false := rfl
  have hmx : IntKind.u32.max = 4294967295 := rfl
  obtain ⟨n, hn⟩ : ∃ n, B.length = n := ⟨_, rfl⟩
  rw [hn] at h1 HC ⊢
  have HN := Lib.hid hn; clear hn
  go_enter Try.func18, Try.ntmps18
  go_wp2_with fail
  refine (made_yes b _ hself).mono ?_
  rintro e w' ⟨rfl, rfl⟩
  go_wp2_with fail
  refine (do_any b p _ HT.out hp hp').mono ?_
  rintro e w2 ⟨rfl, hf⟩
  have HF := Lib.hid hf; clear hf
  go_wp2
  go_loopw [7, 23] (fun v7 v23 wr => ∃ k : Nat, k ≤ n ∧ v7 = .int .u32 (W k) ∧ v23 = .int .i64 (k : Int) ∧ FilledW w wr b p) (fun _ v23 _ => (n - intOf v23).toNat)
  case atStart => exact ⟨0, by omega, by rw [HW0.out], rfl, HF.out⟩
  case round =>
    clear HF hself
    obtain ⟨k, hk, rfl, rfl, hf⟩ := hrel
    have HF := Lib.hid hf; clear hf
    by_cases hlt : k < n
    · obtain ⟨s', o, rfl, hne, hsw, hc⟩ := HC.out (by omega)
      obtain ⟨hg, C, hF⟩ := HF.out
      have e1 : wr.cell? ⟨s', o + k, none⟩ = some (.int .u8 (B.getD k 0)) := (gb_cell hg (by show s' < _; omega) hne).trans (hc k hlt)
      clear hc hg hne
      have HFF := Lib.hid hF; clear hF
      have cb := getD_bd HBB.out k
      have wb := HW.out k
      have HNX : Hid (W (k + 1) = bits .xor .u32 (W k / 256) (R (bits .xor .u8 (W k % 256) (B.getD k 0)))) := HWS.out k
      generalize B.getD k 0 = c at *
      generalize W k = x at *
      obtain ⟨c0, c1⟩ := cb
      obtain ⟨x0, x1⟩ := wb
      have yb := Crc.xor8_bv (a := x % 256) (b := c) (by omega) (by omega) c0 c1
      have y1 := yb.2
      have y0 : 0 ≤ bits .xor .u8 (x % 256) c := by rw [yb.1]; exact (Crc.iv_bd _).1
      clear yb
      obtain ⟨y, hy⟩ : ∃ y : Nat, bits .xor .u8 (x % 256) c = (y : Int) := ⟨(bits .xor .u8 (x % 256) c).toNat, by omega⟩
      rw [hy] at y1 y0 HNX
      have rb := HR.out y
      have e2 : wr.cell? ⟨b, 5 + y, none⟩ = some (.int .u32 (R y)) := by rw [HFF.out.cell, HFF.out.rows y (by omega), HRE.out]
      generalize R y = r at *
      obtain ⟨r0, r1⟩ := rb
      go_wp2
      go_roundw
      case rel => exact ⟨k + 1, by omega, by rw [HNX.out], by go_num, HF.out⟩
      case measure => simp [intOf]; omega
    · obtain rfl : k = n := by omega
      go_wp2
      go_ret
      exact ⟨rfl, HF.out⟩

theorem add_any (b : Nat) (p s : Int) (B : List Int) (v : Value) (w : World) (hp : 0 ≤ p) (hp' : p < 4294967296) (hs : 0 ≤ s) (hs' : s < 4294967296) (hB : ∀ x ∈ B, 0 ≤ x ∧ x < 256)
    (hv : BytesIn w v B (· ≠ b)) (h : Tbl w b p) :
    Calls Try.prog 18 #[.pointer (some ⟨b, 0, none⟩), .int .u32 s, v] w fun e w' => e = .returned (.int .u32 (Crc.sum p s B)) ∧ FilledW w w' b p := by
  have := add_core b p s B (Crc.word p s B) (Crc.row p) v w hp hp' hs hs' hB hv h (fun _ => Crc.row_bd _ _) (fun _ => rfl) (fun _ => Crc.word_bd _ _ _ _) (Crc.word_zero hs hs' B) (fun k => Crc.word_next (getD_bd hB k))
  rw [Crc.sum_eq]
  exact this
theorem FilledW.below {w w' : World} {b : Nat} {p : Int} {o : Obj} (h : FilledW (w.alloc o) w' b p) (hb : b = w.heap.size) : Below w.heap.size w w' :=
  ((Below.refl _ _).alloc (Nat.le_refl _) _).grown h.1 (by simp) (fun k hk => by cases hk; omega)
/-- Castagnoli's polynomial -/
def Crc.cas : Int := 2197175160
theorem cadd_any (s : Int) (B : List Int) (v : Value) (w : World) (hs : 0 ≤ s) (hs' : s < 4294967296) (hB : ∀ x ∈ B, 0 ≤ x ∧ x < 256) (hv : BytesIn w v B (fun _ => True)) :
    Calls Try.prog 13 #[.int .u32 s, v] w fun e w' => e = .returned (.int .u32 (Crc.sum Crc.cas s B)) ∧ Below w.heap.size w w' := by
  have HV := Lib.hid hv; clear hv
  have HBB := Lib.hid hB; clear hB
  have HADD : Hid (∀ wx, wx = w.alloc (.cells (tabCells (.pointer (some ⟨w.heap.size, 0, none⟩)) Crc.cas) 47) → Calls Try.prog 18 #[.pointer (some ⟨w.heap.size, 0, none⟩), .int .u32 s, v] wx fun e w' => e = .returned (.int .u32 (Crc.sum Crc.cas s B)) ∧ Hid (Below w.heap.size w w')) := by
    rintro wx rfl
    refine (add_any w.heap.size Crc.cas s B v _ (by decide) (by decide) hs hs' HBB.out (HV.out.mono (by simp) (fun s hs _ => by omega) (fun s o hs _ => World.cell?_alloc_lt _ _ _ hs)) (.inl ⟨_, raw_new _ _⟩)).mono ?_
    rintro e w' ⟨he, hf⟩
    exact ⟨he, hf.below rfl⟩
  generalize Crc.sum Crc.cas s B = y at *
  have HNEW : Hid (Calls Try.prog 16 #[.int .u32 2197175160] w fun e w' => e = .returned (.pointer (some ⟨w.heap.size, 0, none⟩)) ∧ w' = w.alloc (.cells (tabCells (.pointer (some ⟨w.heap.size, 0, none⟩)) Crc.cas) 47)) := new_raw 2197175160 w
  go_enter Try.func13, Try.ntmps13
  go_wp2_with fail
  refine HNEW.out.mono ?_
  rintro e w1 ⟨rfl, hw1⟩
  have HW1 := Lib.hid hw1; clear hw1
  go_wp2_with fail
  refine (HADD.out _ HW1.out).mono ?_
  rintro e w2 ⟨rfl, hb⟩
  go_wp2
  go_ret
  exact ⟨rfl, hb.out⟩
theorem csum_any (B : List Int) (v : Value) (w : World) (hB : ∀ x ∈ B, 0 ≤ x ∧ x < 256) (hv : BytesIn w v B (fun _ => True)) :
    Calls Try.prog 11 #[v] w fun e w' => e = .returned (.int .u32 (Crc.sum Crc.cas 0 B)) ∧ Below w.heap.size w w' := by
  have HC := Lib.hid (cadd_any 0 B v w (by omega) (by omega) hB hv)
  clear hB hv
  generalize Crc.sum Crc.cas 0 B = y at *
  go_enter Try.func11, Try.ntmps11
  go_wp2_with fail
  refine HC.out.mono ?_
  rintro e w1 ⟨rfl, hb⟩
  have HB := Lib.hid hb; clear hb
  go_wp2
  go_ret
  exact ⟨rfl, HB.out⟩
end Go.Proofs.Ytdgkpddklakabaa
