/- The kit's list of bytes that is lent: with marks behind its end; whether it is kept; written over. -/
import Derived.Test.YteajjanjkhhgdaaDoorIkMark
import Derived.Test.YteajjanjkhhgdaaDoorHmBase
import Derived.BigQuiet
import Derived.BigRegion
import Derived.RegionTactic
import Derived.Deep.QuietTactic
import Derived.StillTailTactics
namespace Go.Proofs.YteajjanjkhhgdaaDoor
open Go.RowKit Go

/-- a lent list: bytes, and marks behind its end, in block g -/
structure Lent (w : World) (v : Value) (B : List Int) (M : Nat → Int) (g : Nat) : Prop where
  blk : ∃ cap C, v = .slice (some ⟨g, 0, none⟩) B.length cap ∧ B.length + 12 ≤ cap ∧ cap ≤ 9223372036854775807 ∧ w.heap[g]? = some (.cells C 5 (0, 0)) ∧ (∀ j, j < B.length → C[j]? = some (.int .u8 (B.getD j 0))) ∧ ∀ j, j < 12 → C[B.length + j]? = some (.int .u8 (M j))
theorem Lent.bytes {w : World} {v : Value} {B : List Int} {M : Nat → Int} {g : Nat} (h : Lent w v B M g) : BytesIn w v B (fun s => s = g) := by
  obtain ⟨cap, C, rfl, h1, h2, h3, h4, -⟩ := h.blk
  exact ⟨_, cap, rfl, by omega, h2, fun _ => ⟨g, 0, rfl, rfl, lt_of_block h3, fun j hj => by rw [cell_of_row _ _ _ _ _ _ h3, Nat.zero_add]; exact h4 j hj⟩⟩
theorem Lent.keep {w w' : World} {v : Value} {B : List Int} {M : Nat → Int} {g : Nat} (h : Lent w v B M g) (he : w'.heap[g]? = w.heap[g]?) : Lent w' v B M g := by
  obtain ⟨cap, C, e, h1, h2, h3, h4, h5⟩ := h.blk
  exact ⟨cap, C, e, h1, h2, he.trans h3, h4, h5⟩

set_option maxRecDepth 100000 in
set_option maxHeartbeats 2000000 in
theorem lent_core (B : List Int) (M : Nat → Int) (a : Option Addr) (n cap : Nat) (w : World) (hn : n = B.length) (hB : BytesIn w (.slice a n cap) B (fun _ => True)) (hna : a = none → cap = 0) (hl : n ≤ 1000000)
    (hM : ∀ i, i < 12 → ∀ wx, Calls Tryd.prog 32 #[.int .i64 1, .int .i64 (i : Nat)] wx fun e w' => e = .returned (.int .u8 (M i)) ∧ w' = wx) :
    Calls Tryd.prog 11 #[.slice a n cap] w fun e w' => ∃ v g, e = .returned v ∧ Lent w' v B M g ∧ w.heap.size ≤ g ∧ Below w.heap.size w w' := by
  have HN := Lib.hid hn; clear hn
  have HB := Lib.hid hB; clear hB
  have HNA := Lib.hid hna; clear hna
  have HM := Lib.hid hM; clear hM
  obtain ⟨i0, hi, hz0, hz1, hz2⟩ := info_parts info5
  obtain ⟨Z, hZ⟩ : ∃ Z, Z = madeCells #[Value.int .u8 0] (n + 12) := ⟨_, rfl⟩
  have hmk : ∀ wx : World, (Instr.makeSlice 22 (.int .i64 0) (.int .i64 ((n : Int) + 12))).run Tryd.prog wx = .ok (.slice (some ⟨wx.heap.size, 0, none⟩) 0 (n + 12)) (wx.alloc (.cells Z 5)) := by
    intro wx
    have := run_make (P := Tryd.prog) wx 22 5 i0 _ (by kernel_rfl) hi hz0 .i64 .i64 0 ((n : Int) + 12) (by omega) (by omega) (by rw [hz2]; omega) (by omega)
    rw [this, hz1, hZ, show (0 : Int).toNat = 0 by rfl, show ((n : Int) + 12).toNat = n + 12 by omega, Nat.mul_one]
    rfl
  have HZ : Hid (Z.size = n + 12) := by show Z.size = _; rw [hZ, size_madeCells]
  clear hZ hi hz0 hz1 hz2 i0
  go_enter Tryd.func11, Tryd.ntmps11
  go_wp2_with (first | (at_builtin; refine wpList_append_bytes_b rfl (.tmp 9) (.tmp 10) rfl w.heap.size _ 0 [] rfl (show World.ownsRow _ _ _ _ _ _ _ from ⟨rfl, .inr ⟨w.heap.size, n + 12, Z, rfl, Nat.le_refl _, heap_alloc_new _ _, by omega, by simp only [maxLen]; omega, by rw [HZ.out, Nat.mul_one], by simp⟩⟩) _ B (fun _ => True) rfl (later_bytes ((Below.refl _ _).alloc (Nat.le_refl _) _) HB.out) (by intro n c e; cases e; exact HNA.out rfl) (by have := HN.out; omega) ((Below.refl _ _).alloc (Nat.le_refl _) _) (by simp) ?_; intro v1 w1 o1 b1; obtain ⟨a1, c1, rfl⟩ := own_slice o1.out))
  have HO1 : Hid (w1.ownsRow w.heap.size 5 1 (.slice a1 B.length c1) B.length (k8 (B ++ (List.range 0).map M))) := by
    have := o1.out
    rw [Nat.zero_add, List.nil_append] at this
    unfold Hid
    simpa using this
  clear o1 HB
  obtain ⟨L, hL⟩ : ∃ L, B.length = L := ⟨_, rfl⟩
  rw [hL] at HO1
  simp only [hL]
  have HL := Lib.hid hL; clear hL
  have hL1 : L ≤ 1000000 := by have := HN.out; have := HL.out; omega
  go_loopw [3, 4] (fun v3 v4 wr => ∃ (k : Nat) (a : Option Addr) (c : Nat), k ≤ 12 ∧ v4 = .int .i64 (k : Int) ∧ v3 = .slice a (L + k) c ∧ wr.ownsRow w.heap.size 5 1 (.slice a (L + k) c) (L + k) (k8 (B ++ (List.range k).map M)) ∧ Below w.heap.size w wr)
    (fun _ v4 _ => (12 - intOf v4).toNat)
  case atStart => exact ⟨0, a1, c1, by omega, rfl, rfl, HO1.out, b1.out⟩
  case round =>
    clear HO1 b1
    obtain ⟨k, a3, c3, hk, rfl, rfl, ho, hb⟩ := hrel
    have HO := Lib.hid ho; clear ho
    have HBL := Lib.hid hb; clear hb
    by_cases hlt : k < 12
    · go_wp2_with (first | (go_at_call 32; refine (HM.out k hlt _).mono ?_; rintro e w4 ⟨rfl, rfl⟩) | (at_builtin; refine wpList_append_bytes_b rfl (.tmp 16) (.tmp 19) rfl w.heap.size _ _ _ rfl (HO.out.alloc _) _ [M k] (fun _ => True) rfl (one_bytes _ (M k)) (by intro n c e; cases e) (by simp; omega) (HBL.out.alloc HBL.out.size _) (by have := HBL.out.size; simp; omega) ?_; intro v4 w4 o4 b4; obtain ⟨a4, c4, rfl⟩ := own_slice o4.out))
      go_roundw
      case rel =>
        refine ⟨k + 1, a4, c4, by omega, by congr 1, rfl, ?_, b4.out⟩
        have := o4.out
        rw [← k8_app, List.append_assoc, show (List.range k).map M ++ [M k] = (List.range (k + 1)).map M by rw [List.range_succ, List.map_append]; rfl] at this
        exact this
      case measure => simp [intOf]; omega
    · obtain ⟨g, hg, hgb, C, hC, hLc, hcm, hCs, hCt⟩ : ∃ g, a3 = some ⟨g, 0, none⟩ ∧ w.heap.size ≤ g ∧ ∃ C, wr.heap[g]? = some (.cells C 5 (0, 0)) ∧ L + k ≤ c3 ∧ c3 ≤ maxLen ∧ C.size = c3 * 1 ∧ C.toList.take ((L + k) * 1) = k8 (B ++ (List.range k).map M) := by
        rcases HO.out.2 with ⟨e, h0⟩ | ⟨g, cap', cur, e, hg, hh, hnc, hcm, hcs, ht⟩
        · omega
        · cases e
          exact ⟨g, rfl, hg, cur, hh, hnc, hcm, hcs, ht⟩
      subst hg
      have hk12 : k = 12 := by omega
      have hgw : g < wr.heap.size := lt_of_block hC
      have hcell : ∀ j, j < L + 12 → C[j]? = (k8 (B ++ (List.range 12).map M))[j]? := fun j hj => by
        rw [hk12] at hCt
        rw [← hCt, List.getElem?_take, if_pos (by omega), Array.getElem?_toList]
      have hlen : (B ++ (List.range 12).map M).length = L + 12 := by rw [List.length_append, List.length_map, List.length_range, HL.out]
      have HEND : Hid (Lent wr (.slice (some ⟨g, 0, none⟩) n c3) B M g ∧ w.heap.size ≤ g ∧ Below w.heap.size w wr) := by
        refine ⟨⟨c3, C, by rw [HN.out], by have := HL.out; omega, by simp only [maxLen] at hcm; omega, hC, fun j hj => ?_, fun j hj => ?_⟩, hgb, HBL.out⟩
        · have := HL.out
          rw [hcell j (by omega), k8_get _ j (by omega), List.getD_eq_getElem?_getD, List.getD_eq_getElem?_getD, List.getElem?_append_left (by omega)]
        · have h2 := HL.out
          rw [hcell _ (by omega), k8_get _ _ (by omega), List.getD_eq_getElem?_getD, List.getElem?_append_right (by omega), Nat.add_sub_cancel_left, List.getElem?_map, List.getElem?_range hj]
          rfl
      have hc1 : n ≤ c3 := by have := HN.out; have := HL.out; omega
      have hc2 : (n : Int) ≤ (c3 : Int) := by omega
      clear hC hLc hcm hCs hCt hcell hlen hgb HO HBL hL1
      go_wp2
      go_ret
      exact ⟨_, g, rfl, HEND.out⟩

set_option maxRecDepth 100000 in
set_option maxHeartbeats 2000000 in
theorem kept_core (B : List Int) (M : Nat → Int) (g : Nat) (v : Value) (a : Option Addr) (n cap : Nat) (w : World) (hn : n = B.length) (hB : BytesIn w (.slice a n cap) B (fun _ => True)) (hl : n ≤ 1000000) (hV : Lent w v B M g)
    (hM : ∀ i, i < 12 → ∀ wx, Calls Tryd.prog 32 #[.int .i64 1, .int .i64 (i : Nat)] wx fun e w' => e = .returned (.int .u8 (M i)) ∧ w' = wx) :
    Calls Tryd.prog 15 #[v, .slice a n cap] w fun e w' => e = .returned (.bool true) ∧ Drawn w w' := by
  obtain ⟨c3, C, rfl, h1, h2, h3, h4, h5⟩ := hV.blk
  clear hV
  have HM := Lib.hid hM; clear hM
  have HC : Hid (∀ j, j < B.length + 12 → ∃ x, C[j]? = some (.int .u8 x) ∧ (∀ h : j < B.length, x = B.getD j 0) ∧ (B.length ≤ j → x = M (j - B.length))) := by
    intro j hj
    by_cases hjB : j < B.length
    · exact ⟨_, h4 j hjB, fun _ => rfl, fun h => by omega⟩
    · have := h5 (j - B.length) (by omega)
      rw [show B.length + (j - B.length) = j by omega] at this
      exact ⟨_, this, fun h => by omega, fun _ => rfl⟩
  have HB : Hid (∀ j, j < B.length → ∃ s o, a = some ⟨s, o, none⟩ ∧ w.cell? ⟨s, o + j, none⟩ = some (.int .u8 (B.getD j 0))) := by
    intro j hj
    obtain ⟨a', cap', e, -, -, h⟩ := hB
    cases e
    obtain ⟨s, o, e, -, -, hc⟩ := h (by omega)
    exact ⟨s, o, e, hc j hj⟩
  clear hB h4 h5
  have HBK := Lib.hid h3; clear h3
  have hc1 : (n : Int) + 12 ≤ c3 := by omega
  obtain ⟨L, hL⟩ : ∃ L, B.length = L := ⟨_, rfl⟩
  have HL := Lib.hid hL
  rw [hL] at hn h1
  simp only [hL] at HC HB ⊢
  clear hL
  subst hn
  go_enter Tryd.func15, Tryd.ntmps15
  go_wp2
  go_loopw [6] (fun v6 wr => ∃ j : Nat, j ≤ n + 12 ∧ v6 = .int .i64 (j : Int) ∧ Drawn w wr)
    (fun v6 _ => (n + 12 - intOf v6).toNat)
  case atStart => exact ⟨0, by omega, rfl, Drawn.refl _⟩
  case round =>
    obtain ⟨j, hj, rfl, hd⟩ := hrel
    by_cases hlt : j < n + 12
    · obtain ⟨x, hx, hx1, hx2⟩ := HC.out j hlt
      have hcg : wr.cell? ⟨g, j, none⟩ = some (.int .u8 x) := by rw [hd.cell, cell_of_row _ _ _ _ _ _ HBK.out]; exact hx
      have HD := Lib.hid hd; clear hd
      by_cases hjn : j < n
      · obtain ⟨s, o, rfl, hcs⟩ := HB.out j hjn
        rw [← hx1 hjn, ← HD.out.cell] at hcs
        have hle : decide (n ≤ j) = false := by simp; omega
        clear hx1 hx2
        go_wp2_with fail
        go_quiet (fail)
        go_wp2
        go_roundw
        case rel => exact ⟨j + 1, by omega, by congr 1, HD.out.drewN _⟩
        case measure => simp [intOf]; omega
      · obtain ⟨q, hjq, hq⟩ : ∃ q, j = n + q ∧ q < 12 := ⟨j - n, by omega, by omega⟩
        have hxq : x = M q := by rw [hx2 (by omega), hjq, Nat.add_sub_cancel_left]
        rw [hxq] at hcg
        have hle : decide (j < n) = false := by simp; omega
        have hle2 : decide (n ≤ j) = true := by simp; omega
        have hsub : IntKind.i64.wrap ((j : Int) - n) = (q : Int) := by rw [IntKind.wrap_i64]; omega
        clear hx1 hx2 hx hxq x hjq
        go_wp2_with fail
        go_quiet ((go_at_call 32; exact Calls.quiet_of_same (HM.out q hq _)))
        go_wp2
        go_roundw
        case rel => exact ⟨j + 1, by omega, by congr 1, HD.out.drewN _⟩
        case measure => simp [intOf]; omega
    · go_wp2
      go_ret
      exact ⟨rfl, hd⟩

theorem mark1_any (i : Nat) (hi : i < 12) (wx : World) : Calls Tryd.prog 32 #[.int .i64 1, .int .i64 (i : Nat)] wx fun e w' => e = .returned (.int .u8 (Kit.mb 1 i)) ∧ w' = wx :=
  markByte_any 1 i wx (by omega) (by omega)
theorem lent_any (B : List Int) (a : Option Addr) (n cap : Nat) (w : World) (hn : n = B.length) (hB : BytesIn w (.slice a n cap) B (fun _ => True)) (hna : a = none → cap = 0) (hl : n ≤ 1000000) :
    Calls Tryd.prog 11 #[.slice a n cap] w fun e w' => ∃ v g, e = .returned v ∧ Lent w' v B (Kit.mb 1) g ∧ w.heap.size ≤ g ∧ Below w.heap.size w w' :=
  lent_core B _ a n cap w hn hB hna hl mark1_any
theorem kept_any (B : List Int) (g : Nat) (v : Value) (a : Option Addr) (n cap : Nat) (w : World) (hn : n = B.length) (hB : BytesIn w (.slice a n cap) B (fun _ => True)) (hl : n ≤ 1000000) (hV : Lent w v B (Kit.mb 1) g) :
    Calls Tryd.prog 15 #[v, .slice a n cap] w fun e w' => e = .returned (.bool true) ∧ Drawn w w' :=
  kept_core B _ g v a n cap w hn hB hl hV mark1_any
end Go.Proofs.YteajjanjkhhgdaaDoor
