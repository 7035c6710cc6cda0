/- The walks of the document's writer: Put, Align, Bytes. -/
import Derived.Test.YtkfbcekhegdmjaaBitRefWS
namespace Go.Proofs.Ytkfbcekhegdmjaa
open Go.RowKit Go

theorem dput_bad (g : Nat) (x k : Int) (w : World) (hk : k < 0 ∨ 32 < k) :
    Calls Try.prog 13 #[.pointer (some ⟨g, 0, none⟩), .int .u32 x, .int .i64 k] w fun e w' => e = .returned (.bool false) ∧ w = w' := by
  by_cases h0 : k < 0
  · go_enter Try.func13, Try.ntmps13
    go_wp2
    go_ret
    exact ⟨rfl, rfl⟩
  · have h1 : 32 < k := by omega
    go_enter Try.func13, Try.ntmps13
    go_wp2
    go_ret
    exact ⟨rfl, rfl⟩
set_option maxRecDepth 100000 in
set_option maxHeartbeats 2000000 in
theorem dput_any (g n V x k : Nat) (v : Value) (w : World) (h : DW w g n V v) (hx : x < 4294967296) (hk : k ≤ 32) (hn : n ≤ 1000000000) :
    Calls Try.prog 13 #[.pointer (some ⟨g, 0, none⟩), .int .u32 (x : Int), .int .i64 (k : Int)] w fun e w' => e = .returned (.bool true) ∧ ∃ v', DM w w' g (n + k) (V + x % 2 ^ k * 2 ^ n) v' v := by
  have HM0 : Hid (DM w w g (n + 0) (V + x % 2 ^ 0 * 2 ^ n) v v) := by
    have := DM.start h
    rw [Nat.pow_zero, Nat.mod_one, Nat.zero_mul]
    exact this
  clear h
  have HUP : Hid (∀ j, V + x % 2 ^ (j + 1) * 2 ^ n = (V + x % 2 ^ j * 2 ^ n) + x / 2 ^ j % 2 * 2 ^ (n + j)) := fun j => Bit.up V x n j
  obtain ⟨U, hU⟩ : ∃ U : Nat → Nat, ∀ j, U j = V + x % 2 ^ j * 2 ^ n := ⟨_, fun _ => rfl⟩
  have HU := Lib.hid hU; clear hU
  have HX := Lib.hid hx; clear hx
  have HN := Lib.hid hn; clear hn
  have d1 : decide ((k : Int) < 0) = false := decide_eq_false (by omega)
  have d2 : decide ((32 : Int) < (k : Int)) = false := decide_eq_false (by omega)
  have HK := Lib.hid hk; clear hk
  obtain ⟨i0, hi, hz0, hz1, hz2⟩ := info_parts infoB
  go_enter Try.func13, Try.ntmps13
  go_wp2_with fail
  clear d1 d2
  go_loopw [7] (fun v7 wr => ∃ (j : Nat) (v1 : Value), j ≤ k ∧ v7 = .int .i64 (j : Int) ∧ DM w wr g (n + j) (U j) v1 v) (fun v7 _ => (k - intOf v7).toNat)
  case atStart => exact ⟨0, v, by omega, rfl, by rw [HU.out]; exact HM0.out⟩
  case round =>
    clear HM0
    obtain ⟨j, v1, hj, rfl, hm⟩ := hrel
    have HM := Lib.hid hm; clear hm
    by_cases hlt : j < k
    · have c0 : wr.cell? ⟨g, 0, none⟩ = some v1 := (cell_of_row _ _ _ _ _ _ HM.out.dw.row).trans rfl
      have hj0 : (0 : Int) ≤ (j : Int) := by omega
      have hj32 : (j : Int) < 32 := by have := HK.out; omega
      have hdj : decide (j < k) = true := decide_eq_true hlt
      have ex : (x : Int) / 2 ^ j = ((x / 2 ^ j : Nat) : Int) := by push_cast; rfl
      have hand := Bit.and32_1 (x / 2 ^ j) (Nat.lt_of_le_of_lt (Nat.div_le_self _ _) HX.out)
      have HNX : Hid (∀ (w3 : World) (gg cap : Nat) (o : Obj), w3.ownsRow (g + 1) 4 1 (.slice (some ⟨gg, 0, none⟩) (n + j + 1) cap) (n + j + 1) (bls (U j) (n + j) ++ [.bool (((x / 2 ^ j % 2 : Nat) : Int) == 1)]) → (wr.alloc o).grownBy w3 v1.ownBlock → (v1.ownBlock = some gg ∨ gg = wr.heap.size + 1) →
          (∃ x, w3.cell? ⟨g, 0, none⟩ = some x) ∧ w3.frozen? ⟨g, 0, none⟩ = false ∧ Hid (DM w (w3.setCell ⟨g, 0, none⟩ (.slice (some ⟨gg, 0, none⟩) (n + j + 1) cap)) g (n + (j + 1)) (U (j + 1)) (.slice (some ⟨gg, 0, none⟩) (n + j + 1) cap) v)) := fun w3 gg cap o h1 h2 h3 => by
        have := HM.out.next (y := x / 2 ^ j % 2) (o := o) (Nat.mod_lt _ (by omega)) gg cap h1 h2 h3
        rw [HU.out (j + 1), HUP.out, ← HU.out j, ← Nat.add_assoc]
        exact this
      have HOWN := Lib.hid HM.out.dw.own
      have HGL : Hid (g < wr.heap.size) := lt_of_block HM.out.dw.row
      have HNB : Hid (n + j ≤ 1000000032) := by have := HN.out; have := HK.out; exact (by omega : n + j ≤ 1000000032)
      generalize x / 2 ^ j % 2 = t at *
      generalize x / 2 ^ j = y at *
      generalize hnj : n + j = nj at *
      have HNJ := Lib.hid hnj; clear hnj
      go_wp2_with (first | (at_builtin; refine wpList_append_lies _ rfl (.tmp 23) (.tmp 30) 26 rfl (g + 1) 4 i0 _ 1 1 (by kernel_rfl) hi hz0 hz1 hz2 rfl (by decide) v1 _ _ rfl (HOWN.out.alloc _) ⟨wr.heap.size, 0, none⟩ 1 1 [.bool ((t : Int) == 1)] rfl rfl (World.news_of_block (cs := #[.bool ((t : Int) == 1)]) (heap_alloc_new wr _)) (by simp [Value.oneCell']) (by omega) (by simp only [maxLen]; have := HNB.out; omega) (by have := HNB.out; omega) (by have := HGL.out; simp; omega) (wr.heap.size + 1) (by simp) ?_; intro gg cap w3 ho7 hg7 hat hlt3; obtain ⟨⟨y7, k7⟩, f7, H7⟩ := HNX.out _ _ _ _ ho7 hg7 hat; clear ho7 hg7 hat hlt3))
      exact ⟨⟨j + 1, _, by omega, by go_num, H7.out⟩, by simp [intOf]; omega⟩
    · obtain rfl : j = k := by omega
      have hdj : decide (j < j) = false := decide_eq_false (by omega)
      go_wp2
      go_ret
      exact ⟨rfl, v1, by have := HM.out; rw [HU.out] at this; exact this⟩
theorem own_form {w : World} {base n : Nat} {e : TypeId} {size : Nat} {v : Value} {xs : List Value} (h : w.ownsRow base e size v n xs) : ∃ a cap, v = .slice a n cap := by
  rcases h.2 with ⟨rfl, rfl⟩ | ⟨g, cap, cur, rfl, _⟩
  · exact ⟨_, _, rfl⟩
  · exact ⟨_, _, rfl⟩
set_option maxRecDepth 100000 in
set_option maxHeartbeats 2000000 in
theorem dalignw_any (g n V : Nat) (v : Value) (w : World) (h : DW w g n V v) (hn : n ≤ 1000000000) :
    Calls Try.prog 11 #[.pointer (some ⟨g, 0, none⟩)] w fun e w' => e = .returned (.tuple #[]) ∧ ∃ v', DM w w' g (n + (8 - n % 8) % 8) V v' v := by
  have HM0 := Lib.hid (DM.start h); clear h
  have HN := Lib.hid hn; clear hn
  obtain ⟨i0, hi, hz0, hz1, hz2⟩ := info_parts infoB
  go_enter Try.func11, Try.ntmps11
  go_wp2_with fail
  go_loopw [2] (fun _ wr => ∃ (j : Nat) (v1 : Value), j ≤ (8 - n % 8) % 8 ∧ DM w wr g (n + j) V v1 v) (fun _ wr => (8 - lenOf ((wr.cell? ⟨g, 0, none⟩).getD undef) % 8) % 8)
  case atStart => exact ⟨0, v, by omega, HM0.out⟩
  case round =>
    clear HM0
    obtain ⟨j, v1, hj, hm⟩ := hrel
    have HM := Lib.hid hm; clear hm
    obtain ⟨a1, c1, rfl⟩ := own_form HM.out.dw.own
    have c0 : wr.cell? ⟨g, 0, none⟩ = some (.slice a1 (n + j) c1) := (cell_of_row _ _ _ _ _ _ HM.out.dw.row).trans rfl
    by_cases hlt : (n + j) % 8 = 0
    · have hja : j = (8 - n % 8) % 8 := by omega
      have HE : Hid (∃ v', DM w wr g (n + (8 - n % 8) % 8) V v' v) := ⟨_, by have := HM.out; rw [hja] at this; exact this⟩
      have hnjI : ((n + j : Nat) : Int) % 8 = 0 := by omega
      have hb : ((n + j : Nat) : Int) ≤ 1000000100 := by have := HN.out; omega
      clear hja HM hj
      generalize n + j = nj at *
      go_wp2
      go_returns
      exact ⟨rfl, HE.out⟩
    · have HNX : Hid (∀ (w3 : World) (gg cap : Nat) (o : Obj), w3.ownsRow (g + 1) 4 1 (.slice (some ⟨gg, 0, none⟩) (n + j + 1) cap) (n + j + 1) (bls V (n + j) ++ [.bool false]) → (wr.alloc o).grownBy w3 (Value.slice a1 (n + j) c1).ownBlock → ((Value.slice a1 (n + j) c1).ownBlock = some gg ∨ gg = wr.heap.size + 1) →
          (∃ x, w3.cell? ⟨g, 0, none⟩ = some x) ∧ w3.frozen? ⟨g, 0, none⟩ = false ∧ Hid (DM w (w3.setCell ⟨g, 0, none⟩ (.slice (some ⟨gg, 0, none⟩) (n + j + 1) cap)) g (n + j + 1) V (.slice (some ⟨gg, 0, none⟩) (n + j + 1) cap) v) ∧ (w3.setCell ⟨g, 0, none⟩ (.slice (some ⟨gg, 0, none⟩) (n + j + 1) cap)).cell? ⟨g, 0, none⟩ = some (.slice (some ⟨gg, 0, none⟩) (n + j + 1) cap)) := fun w3 gg cap o h1 h2 h3 => by
        have := HM.out.next (y := 0) (o := o) (by omega) gg cap h1 h2 h3
        rw [Nat.zero_mul, Nat.add_zero] at this
        exact ⟨this.1, this.2.1, this.2.2, (cell_of_row _ _ _ _ _ _ this.2.2.dw.row).trans rfl⟩
      have HOWN := Lib.hid HM.out.dw.own
      have HGL : Hid (g < wr.heap.size) := lt_of_block HM.out.dw.row
      have HNB : Hid (n + j ≤ 1000000032) := by have := HN.out; exact (by omega : n + j ≤ 1000000032)
      have HJ : Hid (j + 1 ≤ (8 - n % 8) % 8 ∧ (8 - (n + j + 1) % 8) % 8 < (8 - (n + j) % 8) % 8) := ⟨by omega, by omega⟩
      have hne : ¬ (((n + j : Nat) : Int) % 8 = 0) := by omega
      have hb : ((n + j : Nat) : Int) ≤ 1000000100 := by have := HN.out; omega
      clear HM hj hlt
      generalize hnj : n + j = nj at *
      have HNJ := Lib.hid hnj; clear hnj
      go_wp2_with (first | (at_builtin; refine wpList_append_lies _ rfl (.tmp 13) (.tmp 14) 26 rfl (g + 1) 4 i0 _ 1 1 (by kernel_rfl) hi hz0 hz1 hz2 rfl (by decide) (.slice a1 nj c1) _ _ rfl (HOWN.out.alloc _) ⟨wr.heap.size, 0, none⟩ 1 1 [.bool false] rfl rfl (World.news_of_block (cs := #[.bool false]) (heap_alloc_new wr _)) (by simp [Value.oneCell']) (by omega) (by simp only [maxLen]; have := HNB.out; omega) (by have := HNB.out; omega) (by have := HGL.out; simp; omega) (wr.heap.size + 1) (by simp) ?_; intro gg cap w3 ho7 hg7 hat hlt3; obtain ⟨⟨y7, k7⟩, f7, H7, k8⟩ := HNX.out _ _ _ _ ho7 hg7 hat; clear ho7 hg7 hat hlt3))
      refine ⟨⟨j + 1, _, HJ.out.1, by rw [← Nat.add_assoc, HNJ.out]; exact H7.out⟩, ?_⟩
      rw [k8, c0]
      exact HJ.out.2
/-- the list is read, and stays -/
theorem dwlist (g n V : Nat) (v : Value) (w : World) (h : DW w g n V v) : ∃ a c, v = .slice a n c ∧ w.cell? ⟨g, 0, none⟩ = some (.slice a n c) ∧ ∀ i, i < n → ∃ s, a = some ⟨s, 0, none⟩ ∧ s < w.heap.size ∧ w.cell? ⟨s, i, none⟩ = some (.bool (Bit.bl V i)) := by
  obtain ⟨a, c, rfl⟩ := own_form h.own
  refine ⟨a, c, rfl, (cell_of_row _ _ _ _ _ _ h.row).trans rfl, fun i hi => ?_⟩
  rcases h.own.2 with ⟨_, h0⟩ | ⟨gg, cap, cur, e, q1, q2, _⟩
  · omega
  · injection e with e1 e2 e3
    subst e1 e3
    refine ⟨gg, rfl, lt_of_block q2, (h.own.cellAt i (by omega)).trans (bls_get _ _ _ hi)⟩
theorem Bit.by_zero (m : Nat) : Bit.by 0 m = List.replicate m 0 := by
  unfold Bit.by Bit.b
  apply List.ext_getElem?
  intro j
  by_cases hj : j < m
  · rw [List.getElem?_map, List.getElem?_range hj, List.getElem?_replicate, if_pos hj]; simp
  · rw [List.getElem?_eq_none (by simp; omega), List.getElem?_eq_none (by simp; omega)]
theorem k8_set' (X : List Int) (i : Nat) (y : Int) : (k8 X).toArray.setIfInBounds i (.int .u8 y) = (k8 (X.set i y)).toArray := by
  simp [k8, List.map_set]
set_option maxRecDepth 100000 in
set_option maxHeartbeats 2000000 in
theorem dbytes_any (g n V : Nat) (v : Value) (w : World) (h : DW w g n V v) (hn : n ≤ 100000) :
    Calls Try.prog 17 #[.pointer (some ⟨g, 0, none⟩)] w fun e w' => e = .returned (.slice (some ⟨w.heap.size, 0, none⟩) ((n + 7) / 8) ((n + 7) / 8)) ∧ Byt w' w.heap.size V ((n + 7) / 8) ∧ Below w.heap.size w w' := by
  obtain ⟨a, c, rfl, hc0, hbit⟩ := dwlist g n V v w h
  have hgl : g < w.heap.size := lt_of_block h.row
  have HLT := Lib.hid h.lt
  clear h
  have HC0 := Lib.hid hc0; clear hc0
  have HGL := Lib.hid hgl; clear hgl
  have HBIT := Lib.hid hbit; clear hbit
  obtain ⟨m, hm⟩ : ∃ m, (n + 7) / 8 = m := ⟨_, rfl⟩
  rw [hm]
  have hmI : ((n : Int) + 7) / 8 = (m : Int) := by omega
  have hnI : (n : Int) ≤ 100000 := by omega
  have hz := run_zeros m (by omega)
  have HM := Lib.hid hm; clear hm
  have HN := Lib.hid hn; clear hn
  have hk0 := HC0.out
  go_enter Try.func17, Try.ntmps17
  go_wp2_with fail
  have HB0 : Hid (Byt (w.alloc (.cells (k8 (List.replicate m 0)).toArray 5)) w.heap.size (V % 2 ^ 0) m ∧ Below w.heap.size w (w.alloc (.cells (k8 (List.replicate m 0)).toArray 5))) := by
    rw [Nat.pow_zero, Nat.mod_one]
    refine ⟨?_, (Below.refl _ _).alloc (Nat.le_refl _) _⟩
    unfold Byt
    rw [Bit.by_zero]; exact heap_alloc_new _ _
  clear hz hk0
  generalize w.alloc (.cells (k8 (List.replicate m 0)).toArray 5) = w2 at *
  obtain ⟨G, hG⟩ : ∃ G, w.heap.size = G := ⟨_, rfl⟩
  have HG := Lib.hid hG
  rw [hG] at HB0 HGL ⊢
  clear hG
  go_loopw [4] (fun v4 wr => ∃ i : Nat, i ≤ n ∧ v4 = .int .i64 (i : Int) ∧ Byt wr G (V % 2 ^ i) m ∧ Below G w wr) (fun v4 _ => (n - intOf v4).toNat)
  case atStart => exact ⟨0, by omega, rfl, HB0.out⟩
  case round =>
    clear HB0
    obtain ⟨i, hi, rfl, hb, hbel⟩ := hrel
    have HB := Lib.hid hb; clear hb
    have HBE := Lib.hid hbel; clear hbel
    have k0 := (HBE.out.cell (p := ⟨g, 0, none⟩) HGL.out).trans HC0.out
    by_cases hlt : i < n
    · obtain ⟨s, rfl, hs, k1⟩ := HBIT.out i hlt
      have k1' := (HBE.out.cell (p := ⟨s, i, none⟩) (by rw [← HG.out]; exact hs)).trans k1
      have him : i / 8 < m := by have := HM.out; omega
      have k2 : wr.cell? ⟨G, i / 8, none⟩ = some (.int .u8 ((Bit.b (V % 2 ^ i) (i / 8) : Nat) : Int)) := by rw [k8_cell HB.out _ (by rw [Bit.by_length]; exact him), Bit.by_get _ _ _ him]
      have f2 : wr.frozen? ⟨G, i / 8, none⟩ = false := frozen_of_row _ _ _ _ _ HB.out
      have hbl := Bit.byte_lt V i
      have hp8 : (2 : Nat) ^ (i % 8) ≤ 2 ^ 7 := Nat.pow_le_pow_right (by omega) (by omega)
      have HST : Hid (∀ t, t < 2 → V / 2 ^ i % 2 = t → Byt (wr.setCell ⟨G, i / 8, none⟩ (.int .u8 ((Bit.b (V % 2 ^ i) (i / 8) + t * 2 ^ (i % 8) : Nat) : Int))) G (V % 2 ^ (i + 1)) m ∧ Below G w (wr.setCell ⟨G, i / 8, none⟩ (.int .u8 ((Bit.b (V % 2 ^ i) (i / 8) + t * 2 ^ (i % 8) : Nat) : Int)))) := fun t _ ht => by
        subst ht
        refine ⟨?_, HBE.out.setCell (Nat.le_refl G) _⟩
        unfold Byt
        rw [heap_setCell_same _ _ _ _ _ _ HB.out, k8_set', ← Bit.by_bit V i m him]
      have HS0 : Hid (V / 2 ^ i % 2 = 0 → Byt wr G (V % 2 ^ (i + 1)) m) := fun ht => by
        have := HB.out
        rw [Bit.low1, ht, Nat.zero_mul, Nat.add_zero]; exact this
      have e1 : (i : Int) / 8 = ((i / 8 : Nat) : Int) := by omega
      have e2 : (i : Int) % 8 = ((i % 8 : Nat) : Int) := by omega
      have hi0 : (0 : Int) ≤ (i : Int) := by omega
      have hiI : (i : Int) < (n : Int) := by omega
      have hdi : decide (i < n) = true := decide_eq_true hlt
      have hqI : ((i / 8 : Nat) : Int) < (m : Int) := by omega
      have hrI : ((i % 8 : Nat) : Int) < 8 := by omega
      have ht2 : V / 2 ^ i % 2 < 2 := Nat.mod_lt _ (by omega)
      have hor : bits BinOp.or IntKind.u8 ((Bit.b (V % 2 ^ i) (i / 8) : Nat) : Int) (2 ^ (i % 8) % 256) = ((Bit.b (V % 2 ^ i) (i / 8) + 1 * 2 ^ (i % 8) : Nat) : Int) := by
        have e : ((2 : Int) ^ (i % 8)) = ((2 ^ (i % 8) : Nat) : Int) := by push_cast; rfl
        rw [e, ← Bit.or_add _ _ _ hbl, Nat.one_mul]
        generalize 2 ^ (i % 8) = z at *
        generalize Bit.b (V % 2 ^ i) (i / 8) = y at *
        rw [show ((z : Int) % 256) = (z : Int) by omega, Bit.or8 _ _ (by omega) (by omega)]
      have HOR := Lib.hid hor; clear hor
      clear k1 hs hbl hp8
      have hbv : Bit.bl V i = (((V / 2 ^ i % 2 : Nat) : Int) == 1) := rfl
      rw [hbv] at k1'
      clear hbv
      have HT2 := Lib.hid ht2; clear ht2
      generalize V / 2 ^ i % 2 = t at *
      generalize Bit.b (V % 2 ^ i) (i / 8) = y at *
      generalize i / 8 = q at *
      generalize i % 8 = r at *
      go_wp2
      · rename_i hb
        have ht : t = 1 := by have : (t : Int) = 1 := by simpa using hb
                              omega
        have := HST.out 1 (by omega) ht
        rw [← HOR.out] at this
        exact ⟨⟨i + 1, by omega, by go_num, this⟩, by simp [intOf]; omega⟩
      · rename_i hb
        have ht : t = 0 := by have : (t : Int) ≠ 1 := by simpa using hb
                              have := HT2.out
                              omega
        exact ⟨⟨i + 1, by omega, by go_num, HS0.out ht, HBE.out⟩, by simp [intOf]; omega⟩
    · obtain rfl : i = n := by omega
      have hdi : decide (i < i) = false := decide_eq_false (by omega)
      have HE : Hid (Byt wr w.heap.size V m ∧ Below w.heap.size w wr) := by
        rw [HG.out]
        exact ⟨by have := HB.out; rw [Nat.mod_eq_of_lt HLT.out] at this; exact this, HBE.out⟩
      go_wp2
      go_ret
      exact ⟨by rw [HG.out]; rfl, HE.out⟩
end Go.Proofs.Ytkfbcekhegdmjaa
