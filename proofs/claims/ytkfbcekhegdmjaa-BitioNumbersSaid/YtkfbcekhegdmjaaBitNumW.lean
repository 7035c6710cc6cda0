/- The walk of the law BitioNumbers. -/
import Derived.Test.YtkfbcekhegdmjaaBitReadsW
import Derived.Test.YtkfbcekhegdmjaaBitWritesW
namespace Go.Proofs.Ytkfbcekhegdmjaa
open Go.RowKit Go

/-- a row of pieces that lies in a block -/
theorem pcs_block (w : World) (g n : Nat) (C : Array Value) (t : TypeId) (fr : Nat × Nat) (V N : Nat → Int) (A : Nat → Bool) (h : w.heap[g]? = some (.cells C t fr)) (hC : ∀ i, i < n → C[i * 3]? = some (.int .u32 (V i)) ∧ C[i * 3 + 1]? = some (.int .i64 (N i)) ∧ C[i * 3 + 2]? = some (.bool (A i)))
    (hV : ∀ i, 0 ≤ V i ∧ V i < 4294967296) (hN : ∀ i, -9223372036854775808 ≤ N i ∧ N i ≤ 9223372036854775807) : Pcs w (some ⟨g, 0, none⟩) n n V N A :=
  ⟨Nat.le_refl _, fun e => (by cases e), fun i hi => by
    obtain ⟨h1, h2, h3⟩ := hC i hi
    refine ⟨g, 0, rfl, lt_of_block h, ?_, ?_, ?_⟩
    · rw [cell_of_row _ _ _ _ _ _ h, Nat.zero_add]; exact h1
    · rw [cell_of_row _ _ _ _ _ _ h, Nat.zero_add]; exact h2
    · rw [cell_of_row _ _ _ _ _ _ h, Nat.zero_add]; exact h3, hV, hN⟩
/-- a row of three pieces that lies in a new block -/
theorem pcs3 (w : World) (x0 n0 x1 n1 x2 n2 : Int) (b0 b1 b2 : Bool) (h0 : 0 ≤ x0 ∧ x0 < 4294967296) (h1 : 0 ≤ x1 ∧ x1 < 4294967296) (h2 : 0 ≤ x2 ∧ x2 < 4294967296) (m0 : -100 ≤ n0 ∧ n0 ≤ 100) (m1 : -100 ≤ n1 ∧ n1 ≤ 100) (m2 : -100 ≤ n2 ∧ n2 ≤ 100) :
    Pcs (w.alloc (.cells #[.int .u32 x0, .int .i64 n0, .bool b0, .int .u32 x1, .int .i64 n1, .bool b1, .int .u32 x2, .int .i64 n2, .bool b2] 32)) (some ⟨w.heap.size, 0, none⟩) 3 3 (fun i => if i = 0 then x0 else if i = 1 then x1 else x2) (fun i => if i = 0 then n0 else if i = 1 then n1 else n2) (fun i => if i = 0 then b0 else if i = 1 then b1 else b2) := by
  refine pcs_block _ _ _ _ _ _ _ _ _ (heap_alloc_new _ _) (fun i hi => ?_) (fun i => ?_) (fun i => ?_)
  · obtain rfl | rfl | rfl : i = 0 ∨ i = 1 ∨ i = 2 := by omega
    all_goals exact ⟨rfl, rfl, rfl⟩
  · show 0 ≤ (if i = 0 then x0 else if i = 1 then x1 else x2) ∧ (if i = 0 then x0 else if i = 1 then x1 else x2) < 4294967296
    split
    · exact h0
    · split
      · exact h1
      · exact h2
  · show -9223372036854775808 ≤ (if i = 0 then n0 else if i = 1 then n1 else n2) ∧ (if i = 0 then n0 else if i = 1 then n1 else n2) ≤ 9223372036854775807
    split
    · omega
    · split <;> omega
/-- five bytes that lie in a new block -/
theorem five_bytes (w : World) (y0 y1 y2 y3 y4 : Int) (fr : Nat × Nat) : BytesIn (w.alloc (.cells #[.int .u8 y0, .int .u8 y1, .int .u8 y2, .int .u8 y3, .int .u8 y4] 5 fr)) (.slice (some ⟨w.heap.size, 0, none⟩) 5 5) [y0, y1, y2, y3, y4] (fun _ => True) :=
  ⟨_, 5, rfl, by simp, by omega, fun _ => ⟨w.heap.size, 0, rfl, trivial, by simp, fun j hj => by
    rw [cell_of_row _ _ _ _ _ _ (heap_alloc_new _ _), Nat.zero_add]
    simp only [List.length_cons, List.length_nil, Nat.zero_add] at hj
    obtain rfl | rfl | rfl | rfl | rfl : j = 0 ∨ j = 1 ∨ j = 2 ∨ j = 3 ∨ j = 4 := by omega
    all_goals rfl⟩⟩
/-- the law's words -/
def Num.wd (k : Nat) : Int := if k = 0 then 0 else if k = 1 then 1 else if k = 2 then 4294967295 else if k = 3 then 2147483648 else 2779096485
theorem Num.wd_bd (k : Nat) : 0 ≤ Num.wd k ∧ Num.wd k < 4294967296 := by unfold Num.wd; split <;> (try split) <;> (try split) <;> (try split) <;> omega
/-- a call of both laws, of three pieces and five bytes -/
theorem both_laws (w : World) (x0 n0 x1 n1 x2 n2 : Int) (b2 : Bool) (h0 : 0 ≤ x0 ∧ x0 < 4294967296) (h1 : 0 ≤ x1 ∧ x1 < 4294967296) (h2 : 0 ≤ x2 ∧ x2 < 4294967296) (m0 : -100 ≤ n0 ∧ n0 ≤ 100) (m1 : -100 ≤ n1 ∧ n1 ≤ 100) (m2 : -100 ≤ n2 ∧ n2 ≤ 100) (wx : World)
    (hwx : wx = w.alloc (.cells #[.int .u32 x0, .int .i64 n0, .bool false, .int .u32 x1, .int .i64 n1, .bool false, .int .u32 x2, .int .i64 n2, .bool b2] 32)) :
    Calls Try.prog 3 #[.slice (some ⟨w.heap.size, 0, none⟩) 3 3] wx fun e w1 => e = .returned (.bool true) ∧ Hid (Below w.heap.size w w1 ∧ ∀ (y0 y2 : Int) (fr : Nat × Nat) w2, 0 ≤ y0 ∧ y0 < 256 → 0 ≤ y2 ∧ y2 < 256 → w2 = w1.alloc (.cells #[.int .u8 y0, .int .u8 60, .int .u8 y2, .int .u8 255, .int .u8 0] 5 fr) →
      Calls Try.prog 4 #[.slice (some ⟨w1.heap.size, 0, none⟩) 5 5, .slice (some ⟨w.heap.size, 0, none⟩) 3 3] w2 fun e w3 => e = .returned (.bool true) ∧ Hid (Below w.heap.size w w3)) := by
  have hp := pcs3 w x0 n0 x1 n1 x2 n2 false false b2 h0 h1 h2 m0 m1 m2
  rw [← hwx] at hp
  have ha : Below w.heap.size w wx := by rw [hwx]; exact (Below.refl _ _).alloc (Nat.le_refl _) _
  refine (writes_walk _ 3 3 _ _ _ wx hp).mono ?_
  rintro e w1 ⟨he, hb⟩
  have hb1 : Below w.heap.size w w1 := ha.trans (hb.mono ha.size)
  refine ⟨he, hb1, fun y0 y2 fr w2 r0 r2 hw2 => ?_⟩
  have h5 := five_bytes w1 y0 60 y2 255 0 fr
  rw [← hw2] at h5
  have hb2 : Below w1.heap.size w1 w2 := by rw [hw2]; exact (Below.refl _ _).alloc (Nat.le_refl _) _
  have hp2 := (hp.later hb).later hb2
  refine (reads_walk _ 5 5 [y0, 60, y2, 255, 0] _ 3 3 _ _ _ w2 rfl h5 (fun x hx => ?_) (fun e => by cases e) (by omega) hp2).mono ?_
  · simp only [List.mem_cons, List.not_mem_nil, or_false] at hx
    rcases hx with rfl | rfl | rfl | rfl | rfl <;> omega
  · rintro e w3 ⟨he3, hb3⟩
    have s1 := hb1.size
    have s2 := hb2.size
    exact ⟨he3, (hb1.trans (hb2.mono s1)).trans (hb3.mono (by omega))⟩
/-- the far pieces -/
def Num.far (i : Nat) : Int := if i = 0 then 4611686018427387904 else if i = 1 then -9223372036854775808 else if i = 2 then 32 else if i = 3 then 33 else if i = 4 then 9 else if i = 5 then 8 else if i = 6 then 1 else 0
def Num.farA (i : Nat) : Bool := if i = 1 then true else if i = 2 then true else if i = 7 then true else false
theorem pcs_far (w : World) (fr : Nat × Nat) : Pcs (w.alloc (.cells #[.int .u32 0, .int .i64 4611686018427387904, .bool false, .int .u32 0, .int .i64 (-9223372036854775808), .bool true, .int .u32 0, .int .i64 32, .bool true, .int .u32 0, .int .i64 33, .bool false, .int .u32 0, .int .i64 9, .bool false, .int .u32 0, .int .i64 8, .bool false, .int .u32 0, .int .i64 1, .bool false, .int .u32 0, .int .i64 0, .bool true] 32 fr)) (some ⟨w.heap.size, 0, none⟩) 8 8 (fun _ => 0) Num.far Num.farA := by
  refine pcs_block _ _ _ _ _ _ _ _ _ (heap_alloc_new _ _) (fun i hi => ?_) (fun i => by omega) (fun i => ?_)
  · obtain rfl | rfl | rfl | rfl | rfl | rfl | rfl | rfl : i = 0 ∨ i = 1 ∨ i = 2 ∨ i = 3 ∨ i = 4 ∨ i = 5 ∨ i = 6 ∨ i = 7 := by omega
    all_goals exact ⟨rfl, rfl, rfl⟩
  · unfold Num.far
    split
    · omega
    · split
      · omega
      · split
        · omega
        · split
          · omega
          · split
            · omega
            · split
              · omega
              · split <;> omega
theorem far_laws (w wx : World) (fr : Nat × Nat) (hwx : wx = w.alloc (.cells #[.int .u32 0, .int .i64 4611686018427387904, .bool false, .int .u32 0, .int .i64 (-9223372036854775808), .bool true, .int .u32 0, .int .i64 32, .bool true, .int .u32 0, .int .i64 33, .bool false, .int .u32 0, .int .i64 9, .bool false, .int .u32 0, .int .i64 8, .bool false, .int .u32 0, .int .i64 1, .bool false, .int .u32 0, .int .i64 0, .bool true] 32 fr)) :
    Calls Try.prog 3 #[.slice (some ⟨w.heap.size, 0, none⟩) 8 8] wx fun e w1 => e = .returned (.bool true) ∧ Hid (∀ (fr2 : Nat × Nat) w2, w2 = w1.alloc (.cells #[.int .u8 1, .int .u8 2, .int .u8 3, .int .u8 4, .int .u8 5] 5 fr2) →
      Calls Try.prog 4 #[.slice (some ⟨w1.heap.size, 0, none⟩) 5 5, .slice (some ⟨w.heap.size, 0, none⟩) 8 8] w2 fun e w3 => e = .returned (.bool true) ∧
        Hid (Calls Try.prog 4 #[.slice none 0 0, .slice (some ⟨w.heap.size, 0, none⟩) 8 8] w3 fun e w4 => e = .returned (.bool true) ∧
          Hid (Calls Try.prog 20 #[] w4 fun e w5 => e = .returned (.bool true) ∧ Hid (Below w.heap.size w w5)))) := by
  have hp := pcs_far w fr
  rw [← hwx] at hp
  have ha : Below w.heap.size w wx := by rw [hwx]; exact (Below.refl _ _).alloc (Nat.le_refl _) _
  refine (writes_walk _ 8 8 _ _ _ wx hp).mono ?_
  rintro e w1 ⟨he, hb⟩
  have hb1 : Below w.heap.size w w1 := ha.trans (hb.mono ha.size)
  refine ⟨he, fun fr2 w2 hw2 => ?_⟩
  have h5 := five_bytes w1 1 2 3 4 5 fr2
  rw [← hw2] at h5
  have hb2 : Below w1.heap.size w1 w2 := by rw [hw2]; exact (Below.refl _ _).alloc (Nat.le_refl _) _
  have hp2 := (hp.later hb).later hb2
  have l2 : Below w.heap.size w w2 := hb1.trans (hb2.mono hb1.size)
  refine (reads_walk _ 5 5 [1, 2, 3, 4, 5] _ 8 8 _ _ _ w2 rfl h5 (by decide) (fun e => by cases e) (by omega) hp2).mono ?_
  rintro e w3 ⟨he3, hb3⟩
  refine ⟨he3, ?_⟩
  have l3 : Below w.heap.size w w3 := l2.trans (hb3.mono l2.size)
  refine (reads_walk none 0 0 [] _ 8 8 _ _ _ w3 rfl (bytesIn_nil _ _) (by simp) (fun _ => rfl) (by omega) (hp2.later hb3)).mono ?_
  rintro e w4 ⟨he4, hb4⟩
  refine ⟨he4, ?_⟩
  have l4 : Below w.heap.size w w4 := l3.trans (hb4.mono l3.size)
  refine (awake_any w4).mono ?_
  rintro e w5 ⟨he5, hb5⟩
  exact ⟨he5, l4.trans (hb5.mono l4.size)⟩
set_option maxRecDepth 100000 in
set_option maxHeartbeats 4000000 in
theorem bnumbers_walk (w : World) :
    Calls Try.prog 6 #[] w fun e w' => e = .returned (.bool true) ∧ Below w.heap.size w w' := by
  go_enter Try.func6, Try.ntmps6
  go_wp2_with fail
  have HB2 : Hid (Below w.heap.size w (w.alloc (.cells #[.int .u32 0, .int .u32 1, .int .u32 4294967295, .int .u32 2147483648, .int .u32 2779096485] 30))) := (Below.refl _ _).alloc (Nat.le_refl _) _
  have HWD : Hid (∀ wx, Below (w.alloc (.cells #[.int .u32 0, .int .u32 1, .int .u32 4294967295, .int .u32 2147483648, .int .u32 2779096485] 30)).heap.size (w.alloc (.cells #[.int .u32 0, .int .u32 1, .int .u32 4294967295, .int .u32 2147483648, .int .u32 2779096485] 30)) wx → ∀ j, j < 5 → wx.cell? ⟨w.heap.size, j, none⟩ = some (.int .u32 (Num.wd j))) := fun wx hb j hj => by
    rw [hb.cell (p := ⟨w.heap.size, j, none⟩) (by simp), cell_of_row _ _ _ _ _ _ (heap_alloc_new _ _)]
    obtain rfl | rfl | rfl | rfl | rfl : j = 0 ∨ j = 1 ∨ j = 2 ∨ j = 3 ∨ j = 4 := by omega
    all_goals rfl
  generalize w.alloc (.cells #[.int .u32 0, .int .u32 1, .int .u32 4294967295, .int .u32 2147483648, .int .u32 2779096485] 30) = w2 at *
  obtain ⟨W, hW⟩ : ∃ W, w.heap.size = W := ⟨_, rfl⟩
  rw [hW] at HWD ⊢
  have HWW := Lib.hid hW; clear hW
  go_loopw [2] (fun v2 wr => ∃ a : Nat, a ≤ 9 ∧ v2 = .int .i64 (a : Int) ∧ Below w2.heap.size w2 wr) (fun v2 _ => (9 - intOf v2).toNat)
  case atStart => exact ⟨0, by omega, rfl, Below.refl _ _⟩
  case round =>
    obtain ⟨a, ha, rfl, hb⟩ := hrel
    have HB := Lib.hid hb; clear hb
    by_cases hla : a < 9
    · have hda : (a : Int) < 9 := by omega
      go_wp2_with fail
      go_loopw [3] (fun v3 wr => ∃ c : Nat, c ≤ 36 ∧ v3 = .int .i64 ((c : Int) - 1) ∧ Below w2.heap.size w2 wr) (fun v3 _ => (35 - intOf v3).toNat)
      case atStart => exact ⟨0, by omega, rfl, HB.out⟩
      case round =>
        clear HB
        obtain ⟨c, hc, rfl, hb⟩ := hrel
        have HB := Lib.hid hb; clear hb
        by_cases hlc : c < 36
        · have hdc : (c : Int) - 1 < 35 := by omega
          have hc0 : (-1 : Int) ≤ (c : Int) - 1 := by omega
          obtain ⟨n, hn⟩ : ∃ n : Int, (c : Int) - 1 = n := ⟨_, rfl⟩
          rw [hn] at hdc hc0
          rw [hn]
          have HNC := Lib.hid hn; clear hn
          go_wp2_with fail
          go_loopw [4] (fun v4 wr => ∃ k : Nat, k ≤ 5 ∧ v4 = .int .i64 (k : Int) ∧ Below w2.heap.size w2 wr) (fun v4 _ => (5 - intOf v4).toNat)
          case atStart => exact ⟨0, by omega, rfl, HB.out⟩
          case round =>
            clear HB
            obtain ⟨k, hk, rfl, hb⟩ := hrel
            have HB := Lib.hid hb; clear hb
            by_cases hlk : k < 5
            · have hk0 : (0 : Int) ≤ (k : Int) := by omega
              have hkI : (k : Int) < 5 := by omega
              obtain ⟨q, hq, hq5⟩ : ∃ q : Nat, ((k : Int) + 1).tmod 5 = (q : Int) ∧ q < 5 := ⟨(k + 1) % 5, by rw [Int.tmod_eq_emod_of_nonneg (by omega)]; omega, by omega⟩
              have hw1 : IntKind.i64.wrap ((k : Int) + 1) = (k : Int) + 1 := by rw [IntKind.wrap_i64]; omega
              obtain ⟨r2, hr2⟩ : ∃ r2 : Int, (k : Int).tmod 2 = r2 := ⟨_, rfl⟩
              have hqI : (q : Int) < 5 := by omega
              have k1 := HWD.out wr HB.out k hlk
              have k2 := HWD.out wr HB.out q hq5
              have wb1 := Num.wd_bd k
              have wb2 := Num.wd_bd q
              generalize hx1 : Num.wd k = x1 at *
              generalize Num.wd q = x2 at *
              have HE1 := Lib.hid hx1; clear hx1
              have HX1 := Lib.hid wb1; clear wb1
              have HX2 := Lib.hid wb2; clear wb2
              go_wp2_with fail
              refine wp_region_still_tail 22 (by kernel_rfl) (by kernel_rfl) ?_
              simp only [List.take_succ_cons, List.take_zero, List.drop_succ_cons, List.drop_zero]
              repeat still_step
              try refine wpStill_nil ?_
              change wpList _ _ _ _ _ wr.drew
              have HBD : Hid (Below w2.heap.size w2 wr.drew) := HB.out.drew
              clear HB k2
              generalize wr.drew = wd at *
              have HBO := Lib.hid (both_laws wd x1 (a : Int) x1 n x2 7 (r2 == 1) HX1.out HX1.out HX2.out (by omega) (by omega) (by omega) _ rfl)
              go_wp2_with fail
              refine HBO.out.mono ?_
              rintro e w4 ⟨rfl, h4⟩
              have hsz := HBD.out.size
              have HB4 : Hid (Below w2.heap.size w2 w4) := HBD.out.trans (h4.out.1.mono hsz)
              have H5 := Lib.hid h4.out.2
              clear h4 HBO
              have k4 := HWD.out w4 HB4.out k hlk
              rw [HE1.out] at k4
              go_wp2_with fail
              refine (H5.out (x1 % 256) (a : Int) _ _ (by omega) (by omega) rfl).mono ?_
              rintro e w5 ⟨rfl, h6⟩
              have HB5 : Hid (Below w2.heap.size w2 w5) := HBD.out.trans (h6.out.mono hsz)
              clear h6 H5 HB4 HBD k4 k1 hsz
              clear hq hw1 hr2
              go_wp2
              exact ⟨⟨k + 1, by omega, by go_num, HB5.out⟩, by simp [intOf]; omega⟩
            · obtain rfl : k = 5 := by omega
              have HCN : Hid (n + 1 = ((c + 1 : Nat) : Int) - 1) := by have := HNC.out; exact (by omega : n + 1 = ((c + 1 : Nat) : Int) - 1)
              have hn1 : n ≤ 34 := by omega
              go_wp2
              refine ⟨⟨c + 1, by omega, ?_, HB.out⟩, ?_⟩
              · rw [← HCN.out]
              · have := HNC.out; simp [intOf]; omega
        · obtain rfl : c = 36 := by omega
          go_wp2
          exact ⟨⟨a + 1, by omega, by go_num, HB.out⟩, by simp [intOf]; omega⟩
    · obtain rfl : a = 9 := by omega
      have HBW : Hid (Below w.heap.size w wr) := HB2.out.trans (HB.out.mono HB2.out.size)
      clear HB
      have HFAR : Hid (∀ wx, wx = wr.alloc (.cells #[.int .u32 0, .int .i64 4611686018427387904, .bool false, .int .u32 0, .int .i64 (-9223372036854775808), .bool true, .int .u32 0, .int .i64 32, .bool true, .int .u32 0, .int .i64 33, .bool false, .int .u32 0, .int .i64 9, .bool false, .int .u32 0, .int .i64 8, .bool false, .int .u32 0, .int .i64 1, .bool false, .int .u32 0, .int .i64 0, .bool true] 32) → _) := fun wx hwx => far_laws wr wx (0, 0) hwx
      go_wp2_with fail
      refine (HFAR.out _ rfl).mono ?_
      rintro e w4 ⟨rfl, h4⟩
      clear HFAR
      go_wp2_with fail
      refine (h4.out _ _ rfl).mono ?_
      rintro e w5 ⟨rfl, h5⟩
      clear h4
      go_wp2_with fail
      refine h5.out.mono ?_
      rintro e w6 ⟨rfl, h6⟩
      clear h5
      go_wp2_with fail
      refine h6.out.mono ?_
      rintro e w7 ⟨rfl, h7⟩
      clear h6
      have HE : Hid (Below w.heap.size w w7) := HBW.out.trans (h7.out.mono HBW.out.size)
      clear h7
      go_wp2
      go_ret
      exact ⟨rfl, by have := HE.out; first | exact this | (rw [HWW.out] at this; exact this)⟩
end Go.Proofs.Ytkfbcekhegdmjaa
