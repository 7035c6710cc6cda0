/- The walk of the law CrcNumbers: a closed one. -/
import Derived.Test.YtdgkpddklakabaaCrcSumsW
namespace Go.Proofs.Ytdgkpddklakabaa
open Go.RowKit Go

theorem bytes_row (w : World) (B : List Int) (fr : Nat × Nat) (h : B.length ≤ 32) : BytesIn (w.alloc (.cells (k8 B).toArray 5 fr)) (.slice (some ⟨w.heap.size, 0, none⟩) B.length B.length) B (fun _ => True) := by
  refine ⟨_, B.length, rfl, Nat.le_refl _, by omega, fun _ => ⟨w.heap.size, 0, rfl, trivial, by simp, fun j hj => ?_⟩⟩
  rw [cell_of_row _ _ _ _ _ _ (heap_alloc_new _ _), Nat.zero_add, List.getElem?_toArray, k8_get _ _ hj]

theorem sums_on (s : Int) (B : List Int) (fr : Nat × Nat) (w wx : World) (hs : 0 ≤ s) (hs' : s < 4294967296) (hB : ∀ x ∈ B, 0 ≤ x ∧ x < 256) (hl : B.length ≤ 32) (hwx : wx = w.alloc (.cells (k8 B).toArray 5 fr)) :
    Calls Try.prog 3 #[.int .u32 s, .slice (some ⟨w.heap.size, 0, none⟩) B.length B.length] wx fun e w' => e = .returned (.bool true) ∧ Hid (Below w.heap.size w w') := by
  subst hwx
  refine (sums_walk s _ B.length B.length B _ hs hs' rfl (bytes_row w B fr hl) hB (fun e => by cases e) (by omega)).mono ?_
  rintro e w' ⟨he, hb⟩
  exact ⟨he, ((Below.refl _ _).alloc (Nat.le_refl _) _).trans (hb.mono (by simp))⟩
theorem tables_on (p s : Int) (B : List Int) (fr : Nat × Nat) (w wx : World) (hp : 0 ≤ p) (hp' : p < 4294967296) (hs : 0 ≤ s) (hs' : s < 4294967296) (hB : ∀ x ∈ B, 0 ≤ x ∧ x < 256) (hl : B.length ≤ 32) (hwx : wx = w.alloc (.cells (k8 B).toArray 5 fr)) :
    Calls Try.prog 4 #[.int .u32 p, .int .u32 s, .slice (some ⟨w.heap.size, 0, none⟩) B.length B.length] wx fun e w' => e = .returned (.bool true) ∧ Hid (Below w.heap.size w w') := by
  subst hwx
  refine (tables_walk p s _ B.length B.length B _ hp hp' hs hs' rfl (bytes_row w B fr hl) hB (fun e => by cases e) (by omega)).mono ?_
  rintro e w' ⟨he, hb⟩
  exact ⟨he, ((Below.refl _ _).alloc (Nat.le_refl _) _).trans (hb.mono (by simp))⟩

theorem made_zeros (n : Nat) : madeCells #[Value.int .u8 0] n = (k8 (List.replicate n 0)).toArray := by
  apply Array.ext_getElem?
  intro j
  by_cases h : j < n
  · rw [made_get _ _ _ h, List.getElem?_toArray, k8_get _ _ (by simpa using h)]
    simp [List.getD_eq_getElem?_getD, h]
  · rw [Array.getElem?_eq_none (by rw [size_madeCells]; simpa using h), List.getElem?_toArray, List.getElem?_eq_none (by simpa [k8] using h)]
/-- a slice of n bytes is made: noughts -/
theorem run_zeros (n : Nat) (hn : n ≤ 1099511627776) (w : World) : (Instr.makeSlice 23 (.int .i64 (n : Int)) (.int .i64 (n : Int))).run Try.prog w = .ok (.slice (some ⟨w.heap.size, 0, none⟩) n n) (w.alloc (.cells (k8 (List.replicate n 0)).toArray 5)) := by
  obtain ⟨i0, hi, hz0, hz1, hz2⟩ := info_parts info5
  have := run_make (P := Try.prog) w 23 5 i0 _ (by kernel_rfl) hi hz0 .i64 .i64 (n : Int) (n : Int) (by omega) (by omega) (by rw [hz2]; omega) (by omega)
  rw [this, hz1, show (n : Int).toNat = n by omega, Nat.mul_one, show madeCells (Value.int IntKind.u8 0).cells n = madeCells #[Value.int IntKind.u8 0] n from rfl, made_zeros]
theorem sums_made (s : Int) (n : Nat) (w wx : World) (hs : 0 ≤ s) (hs' : s < 4294967296) (hl : n ≤ 32) (hwx : wx = w.alloc (.cells (k8 (List.replicate n 0)).toArray 5)) :
    Calls Try.prog 3 #[.int .u32 s, .slice (some ⟨w.heap.size, 0, none⟩) n n] wx fun e w' => e = .returned (.bool true) ∧ Hid (Below w.heap.size w w') := by
  have := sums_on s (List.replicate n 0) (0, 0) w wx hs hs' (fun x hx => by rw [List.eq_of_mem_replicate hx]; omega) (by simpa using hl) hwx
  rwa [List.length_replicate] at this

set_option maxRecDepth 100000 in
set_option maxHeartbeats 2000000 in
theorem numbers_walk (w : World) :
    Calls Try.prog 6 #[] w fun e w' => e = .returned (.bool true) ∧ Below w.heap.size w w' := by
  have hcv := fun (wx : World) (C : Array Value) (n c : Nat) => Lib.run_convert_bytes_const (P := Try.prog) wx 23 5 C n c Try.underlying23 Try.underlying5
  go_enter Try.func6, Try.ntmps6
  go_wp2
  go_loopw [1] (fun v1 wr => ∃ c : Nat, c ≤ 256 ∧ v1 = .int .i64 (c : Int) ∧ Below w.heap.size w wr) (fun v1 _ => (256 - intOf v1).toNat)
  case atStart => exact ⟨0, by omega, rfl, Below.refl _ _⟩
  case round =>
    obtain ⟨c, hc, rfl, hb⟩ := hrel
    have HB := Lib.hid hb; clear hb
    by_cases hlt : c < 256
    · go_wp2_with fail
      refine (sums_on 0 [(c : Int)] (0, 0) wr _ (by omega) (by omega) (by simp; omega) (by simp) rfl).mono ?_
      rintro e w1 ⟨rfl, hb1⟩
      have HB1 : Hid (Below w.heap.size w w1) := HB.out.trans (hb1.out.mono HB.out.size)
      clear HB hb1
      go_wp2_with fail
      refine (sums_on _ [1, 2, (c : Int)] (0, 0) w1 _ (by omega) (by omega) (by simp; omega) (by simp) rfl).mono ?_
      rintro e w2 ⟨rfl, hb2⟩
      have HB2 : Hid (Below w.heap.size w w2) := HB1.out.trans (hb2.out.mono HB1.out.size)
      clear HB1 hb2
      go_wp2
      go_roundw
      case rel => exact ⟨c + 1, by omega, by go_num, HB2.out⟩
      case measure => simp [intOf]; omega
    · go_wp2
      go_loopw [2] (fun v2 wr => ∃ k : Nat, k ≤ 32 ∧ v2 = .int .i64 (k : Int) ∧ Below w.heap.size w wr) (fun v2 _ => (32 - intOf v2).toNat)
      case atStart => exact ⟨0, by omega, rfl, HB.out⟩
      case round =>
        clear HB
        obtain ⟨k, hk, rfl, hb⟩ := hrel
        have HB := Lib.hid hb; clear hb
        by_cases hltk : k < 32
        · have hmk := run_zeros k (by omega)
          obtain ⟨x, hx⟩ : ∃ x, (2 : Int) ^ k % 4294967296 = x := ⟨_, rfl⟩
          obtain ⟨y, hy⟩ : ∃ y, (2 : Int) ^ (31 - k) % 4294967296 = y := ⟨_, rfl⟩
          have x0 : 0 ≤ x := by rw [← hx]; exact Int.emod_nonneg _ (by omega)
          have x1 : x < 4294967296 := by rw [← hx]; exact Int.emod_lt_of_pos _ (by omega)
          have y0 : 0 ≤ y := by rw [← hy]; exact Int.emod_nonneg _ (by omega)
          have y1 : y < 4294967296 := by rw [← hy]; exact Int.emod_lt_of_pos _ (by omega)
          go_wp2_with fail
          refine (tables_on x y [112, 101, 97, 116] (4, 5) wr _ x0 x1 y0 y1 (by decide) (by decide) rfl).mono ?_
          rintro e w1 ⟨rfl, hb1⟩
          have HB1 : Hid (Below w.heap.size w w1) := HB.out.trans (hb1.out.mono HB.out.size)
          clear HB hb1
          go_wp2_with fail
          refine (sums_made _ k w1 _ (Int.emod_nonneg _ (by omega)) (Int.emod_lt_of_pos _ (by omega)) (by omega) rfl).mono ?_
          rintro e w2 ⟨rfl, hb2⟩
          have HB2 : Hid (Below w.heap.size w w2) := HB1.out.trans (hb2.out.mono HB1.out.size)
          clear HB1 hb2 hx hy
          go_wp2
          go_roundw
          case rel => exact ⟨k + 1, by omega, by go_num, HB2.out⟩
          case measure => simp [intOf]; omega
        · go_wp2_with fail
          refine (tables_on 0 5 [255, 0, 1] (0, 0) wr _ (by omega) (by omega) (by omega) (by omega) (by decide) (by decide) rfl).mono ?_
          rintro e w1 ⟨rfl, hb1⟩
          have HB1 : Hid (Below w.heap.size w w1) := HB.out.trans (hb1.out.mono HB.out.size)
          clear HB hb1
          go_wp2_with fail
          refine (tables_on 4294967295 4294967295 [255, 0, 1] (0, 0) w1 _ (by omega) (by omega) (by omega) (by omega) (by decide) (by decide) rfl).mono ?_
          rintro e w2 ⟨rfl, hb2⟩
          have HB2 : Hid (Below w.heap.size w w2) := HB1.out.trans (hb2.out.mono HB1.out.size)
          clear HB1 hb2
          go_wp2_with fail
          refine (awake_any _).mono ?_
          rintro e w3 ⟨rfl, hb3⟩
          have HB3 : Hid (Below w.heap.size w w3) := HB2.out.trans (hb3.mono HB2.out.size)
          clear HB2 hb3
          go_wp2
          go_ret
          exact ⟨rfl, HB3.out⟩
end Go.Proofs.Ytdgkpddklakabaa
