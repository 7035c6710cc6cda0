/- The walk of sha's finish: the end that makes whole blocks of the text is taken, the digest is kept. -/
import Derived.Test.YtodahmmebikddaaDoorShaWrite
namespace Go.Proofs.YtodahmmebikddaaDoor
open Go.RowKit Go

theorem Sha.len8_get (n k : Nat) (hk : k < 8) : (Sha.len8 n).getD k 0 = (8 * (n : Int)) / 2 ^ (56 - 8 * k) % 256 := by
  obtain rfl | rfl | rfl | rfl | rfl | rfl | rfl | rfl : k = 0 ∨ k = 1 ∨ k = 2 ∨ k = 3 ∨ k = 4 ∨ k = 5 ∨ k = 6 ∨ k = 7 := by omega
  all_goals simp [Sha.len8]
theorem Sha.digest_get (T : List Int) (i : Nat) (hi : i < 8) (x : Int) (hx : (Sha.hb (Sha.padded T) ((Sha.padded T).length / 64)).getD i 0 = x) :
    (Sha.digest T).getD (4 * i) 0 = x / 16777216 ∧ (Sha.digest T).getD (4 * i + 1) 0 = x / 65536 % 256 ∧ (Sha.digest T).getD (4 * i + 2) 0 = x / 256 % 256 ∧ (Sha.digest T).getD (4 * i + 3) 0 = x % 256 := by
  unfold Sha.digest
  have h := Sha.hb_length (Sha.padded T) ((Sha.padded T).length / 64)
  generalize Sha.hb (Sha.padded T) ((Sha.padded T).length / 64) = l at *
  subst hx
  match l, h with
  | [_, _, _, _, _, _, _, _], _ =>
    obtain rfl | rfl | rfl | rfl | rfl | rfl | rfl | rfl : i = 0 ∨ i = 1 ∨ i = 2 ∨ i = 3 ∨ i = 4 ∨ i = 5 ∨ i = 6 ∨ i = 7 := by omega
    all_goals exact ⟨rfl, rfl, rfl, rfl⟩

/-- eight words as a list of cells -/
def l32 (W : Nat → Int) : List Value := [.int .u32 (W 0), .int .u32 (W 1), .int .u32 (W 2), .int .u32 (W 3), .int .u32 (W 4), .int .u32 (W 5), .int .u32 (W 6), .int .u32 (W 7)]
theorem l32_range {w : World} {b : Nat} {C : Array Value} {t : TypeId} {W : Nat → Int} (h : w.heap[b]? = some (.cells C t (0, 0))) (hc : ∀ j, j < 8 → C[5 + j]? = some (.int .u32 (W j))) : w.rangeAt b 5 (l32 W) := by
  intro j v hj
  have hj8 : j < 8 := (List.getElem?_eq_some_iff.1 hj).1
  rw [cell_of_row _ _ _ _ _ _ h, hc j hj8, ← hj]
  obtain rfl | rfl | rfl | rfl | rfl | rfl | rfl | rfl : j = 0 ∨ j = 1 ∨ j = 2 ∨ j = 3 ∨ j = 4 ∨ j = 5 ∨ j = 6 ∨ j = 7 := by omega
  all_goals rfl
theorem index8 (W : Nat → Int) (k : Nat) (hk : k < 8) (w : World) : (Instr.index 45 (.agg (l32 W).toArray) (.int .i64 (k : Int))).run Tryd.prog w = .ok (.int .u32 (W k)) w := by
  obtain rfl | rfl | rfl | rfl | rfl | rfl | rfl | rfl : k = 0 ∨ k = 1 ∨ k = 2 ∨ k = 3 ∨ k = 4 ∨ k = 5 ∨ k = 6 ∨ k = 7 := by omega
  all_goals kernel_rfl

theorem made_get (v : Value) (n j : Nat) (h : j < n) : (madeCells #[v] n)[j]? = some v := by
  simp [madeCells, h, Nat.mod_one]
theorem info5 : (Tryd.prog.info? 5).map (fun i => (i.zero, i.size, i.bytes)) = some (some (.int .u8 0), 1, 1) := by kernel_rfl

set_option maxRecDepth 100000 in
set_option maxHeartbeats 2000000 in
theorem finish_any (b : Nat) (T : List Int) (C : Array Value) (w : World) (hB : w.heap[b]? = some (.cells C 49 (0, 0))) (hA : Abs C T) (hlen : C[78]? = some (.int .u64 (T.length : Int)))
    (hT : ∀ x ∈ T, 0 ≤ x ∧ x < 256) (hb0 : b ≠ 0) (hl : T.length ≤ 1152921504606846976) (hG : ∀ j, j < 64 → w.cell? ⟨0, j, none⟩ = some (.int .u32 (Sha.kk j))) :
    Calls Tryd.prog 25 #[.pointer (some ⟨b, 0, none⟩)] w fun e w' => e = .returned (.tuple #[]) ∧ w.grownBy w' (some b) ∧ ∃ C' : Array Value, w'.heap[b]? = some (.cells C' 49 (0, 0)) ∧ C'[4]? = some (.bool true) ∧
      (∀ j, j < 32 → C'[79 + j]? = some (.int .u8 ((Sha.digest T).getD j 0))) ∧ ∀ j, j < 4 → C'[j]? = C[j]? := by
  have hbw : b < w.heap.size := lt_of_block hB
  have hs := hA.size
  obtain ⟨i0, hi, hz0, hz1, hz2⟩ := info_parts info5
  obtain ⟨r, hr, hr64⟩ : ∃ r, r = T.length % 64 ∧ r < 64 := ⟨_, rfl, Nat.mod_lt _ (by omega)⟩
  obtain ⟨n, hn⟩ : ∃ n, T.length = n := ⟨_, rfl⟩
  have h77 : w.cell? ⟨b, 77, none⟩ = some (.int .i64 r) := by rw [hr]; exact (cell_of_row _ _ _ _ _ _ hB).trans hA.held
  have h78 : w.cell? ⟨b, 78, none⟩ = some (.int .u64 (n : Int)) := by rw [← hn]; exact (cell_of_row _ _ _ _ _ _ hB).trans hlen
  obtain ⟨x4, h4⟩ : ∃ x, w.cell? ⟨b, 4, none⟩ = some x := ⟨_, (cell_of_row _ _ _ _ _ _ hB).trans (Array.getElem?_eq_getElem (by omega))⟩
  have f4 : w.frozen? ⟨b, 4, none⟩ = false := frozen_of_row _ _ _ _ _ hB
  rw [hn] at hl
  obtain ⟨nz, hnz, hnz64⟩ : ∃ nz : Nat, (119 - (r : Int)) % 64 = (nz : Int) ∧ nz < 64 := ⟨((119 - (r : Int)) % 64).toNat, by omega, by omega⟩
  have hnz' : nz = (119 - r % 64) % 64 := by omega
  obtain ⟨Z, hZ⟩ : ∃ Z, Z = madeCells #[Value.int .u8 0] (1 + nz + 8) := ⟨_, rfl⟩
  have hmk : ∀ wx : World, (Instr.makeSlice 22 (.int .i64 (1 + (nz : Int))) (.int .i64 (1 + (nz : Int) + 8))).run Tryd.prog wx = .ok (.slice (some ⟨wx.heap.size, 0, none⟩) (1 + nz) (1 + nz + 8)) (wx.alloc (.cells Z 5)) := by
    intro wx
    have := run_make (P := Tryd.prog) wx 22 5 i0 _ (by kernel_rfl) hi hz0 .i64 .i64 (1 + (nz : Int)) (1 + (nz : Int) + 8) (by omega) (by omega) (by rw [hz2]; omega) (by omega)
    rw [this, hz1, hZ, show (1 + (nz : Int)).toNat = 1 + nz by omega, show (1 + (nz : Int) + 8).toNat = 1 + nz + 8 by omega, Nat.mul_one]
    rfl
  have hZ0 : Z[0]? = some (.int .u8 0) := by rw [hZ]; simp [madeCells]
  have hZs : Z.size = 1 + nz + 8 := by rw [hZ, size_madeCells]
  have hZg : ∀ j, 0 < j → j < 1 + nz → Z[j]? = some (.int .u8 0) := by
    intro j _ h1
    rw [hZ]; exact made_get _ _ _ (by omega)
  clear hZ
  have HN := Lib.hid hn; clear hn
  have HR := Lib.hid hr; clear hr
  have HNZ := Lib.hid hnz'; clear hnz'
  have HZS := Lib.hid hZs; clear hZs
  have HZG := Lib.hid hZg; clear hZg
  have HB := Lib.hid hB; clear hB
  have HA := Lib.hid hA; clear hA
  have HL := Lib.hid hlen; clear hlen
  have HT := Lib.hid hT; clear hT
  have HG := Lib.hid hG; clear hG
  have HS := Lib.hid hs; clear hs
  go_enter Tryd.func25, Tryd.ntmps25
  go_wp2_with fail
  have HB1 : Hid ((w.setCell ⟨b, 4, none⟩ (.bool true)).heap[b]? = some (.cells (C.setIfInBounds 4 (.bool true)) 49 (0, 0))) := heap_setCell_same _ _ _ _ _ _ HB.out
  have HG1 : Hid (w.grownBy ((w.setCell ⟨b, 4, none⟩ (.bool true)).alloc (Obj.cells (Z.setIfInBounds 0 (.int .u8 128)) 5)) (some b)) := gb_alloc (gb_setCell (gb_refl _ _) _) _
  have HB2 : Hid (((w.setCell ⟨b, 4, none⟩ (.bool true)).alloc (Obj.cells (Z.setIfInBounds 0 (.int .u8 128)) 5)).heap[b]? = some (.cells (C.setIfInBounds 4 (.bool true)) 49 (0, 0))) := ((World.grownBy_alloc _ _ none).block b (by simpa [World.setCell] using hbw) (by simp)).trans HB1.out
  have HO1 : Hid (((w.setCell ⟨b, 4, none⟩ (.bool true)).alloc (Obj.cells (Z.setIfInBounds 0 (.int .u8 128)) 5)).ownsRow w.heap.size 5 1 (.slice (some ⟨w.heap.size, 0, none⟩) (1 + nz) (1 + nz + 8)) (1 + nz) ((128 :: List.replicate nz 0).map (Value.int .u8))) := by
    refine ⟨by simp; omega, .inr ⟨w.heap.size, 1 + nz + 8, Z.setIfInBounds 0 (.int .u8 128), rfl, Nat.le_refl _, ?_, by omega, by simp only [maxLen]; omega, by rw [Array.size_setIfInBounds, HZS.out, Nat.mul_one], ?_⟩⟩
    · have := heap_alloc_new (w.setCell ⟨b, 4, none⟩ (.bool true)) (Obj.cells (Z.setIfInBounds 0 (.int .u8 128)) 5)
      simpa [World.setCell] using this
    · apply List.ext_getElem?
      intro j
      rw [List.getElem?_take, Nat.mul_one]
      by_cases hj : j < 1 + nz
      · rw [if_pos hj, Array.getElem?_toList, Array.getElem?_setIfInBounds]
        by_cases hj0 : 0 = j
        · subst hj0; rw [if_pos rfl, if_pos (by rw [HZS.out]; omega)]; rfl
        · rw [if_neg hj0, HZG.out j (by omega) hj]
          obtain ⟨q, rfl⟩ : ∃ q, j = q + 1 := ⟨j - 1, by omega⟩
          rw [List.map_cons, List.getElem?_cons_succ, List.map_replicate, List.getElem?_replicate, if_pos (by omega)]
      · rw [if_neg hj, List.getElem?_eq_none (by simp; omega)]
  generalize ((w.setCell ⟨b, 4, none⟩ (.bool true)).alloc (Obj.cells (Z.setIfInBounds 0 (.int .u8 128)) 5)) = w3 at *
  clear HB1 hmk h4 f4 h77 h78 hZ0 HZG HZS hnz
  obtain ⟨L, hL, hL8⟩ : ∃ L, L = Sha.len8 n ∧ L.length = 8 := ⟨_, rfl, rfl⟩
  have HLK : Hid (∀ k, k < 8 → L.getD k 0 = (8 * (n : Int)) / 2 ^ (56 - 8 * k) % 256) := by
    show ∀ k, k < 8 → L.getD k 0 = _
    rw [hL]; exact fun k hk => Sha.len8_get n k hk
  have HLL := Lib.hid hL; clear hL
  have HL8 := Lib.hid hL8; clear hL8
  go_loopw [3, 5] (fun v3 v5 wr => ∃ k : Nat, k ≤ 8 ∧ v5 = .int .i64 ((56 : Int) - 8 * k) ∧ v3 = .slice (some ⟨w.heap.size, 0, none⟩) (1 + nz + k) (1 + nz + 8) ∧ wr.ownsRow w.heap.size 5 1 (.slice (some ⟨w.heap.size, 0, none⟩) (1 + nz + k) (1 + nz + 8)) (1 + nz + k) (((128 :: List.replicate nz 0) ++ L.take k).map (Value.int .u8)) ∧ w.grownBy wr (some b) ∧ wr.heap[b]? = some (.cells (C.setIfInBounds 4 (.bool true)) 49 (0, 0)))
    (fun _ v5 _ => (intOf v5 + 8).toNat)
  case atStart => exact ⟨0, by omega, rfl, rfl, by simpa using HO1.out, HG1.out, HB2.out⟩
  case round =>
    clear HG1 HB2 HO1
    obtain ⟨k, hk, rfl, rfl, hown, hgr, hblk⟩ := hrel
    have HOWN := Lib.hid hown; clear hown
    have HGR := Lib.hid hgr; clear hgr
    have HBLK := Lib.hid hblk; clear hblk
    by_cases hlt : k < 8
    · have hge : 0 ≤ (56 : Int) - 8 * k := by omega
      obtain ⟨XS, hXS⟩ : ∃ XS, XS = ((128 :: List.replicate nz 0) ++ L.take k).map (Value.int .u8) := ⟨_, rfl⟩
      rw [← hXS] at HOWN
      have HXS := Lib.hid hXS; clear hXS
      go_wp2_with (at_builtin; refine wpList_append_fits _ rfl _ _ 22 rfl w.heap.size 5 i0 1 (by kernel_rfl) hi hz1 w.heap.size (1 + nz + k) (1 + nz + 8) XS rfl (HOWN.out.alloc _) ⟨wr.heap.size, 0, none⟩ 1 1 [.int .u8 (8 * (n : Int) / 2 ^ (56 - 8 * k) % 256)] rfl rfl (cell_one_new _ _ _) (by simp [Value.oneCell']) (by omega) ?_; intro w1 hown1 hg1)
      go_wp2
      go_roundw
      case rel =>
        refine ⟨k + 1, by omega, ?_, rfl, ?_, ?_, ?_⟩
        · congr 1; omega
        · have e : XS ++ [.int .u8 (8 * (n : Int) / 2 ^ (56 - 8 * k) % 256)] = ((128 :: List.replicate nz 0) ++ L.take (k + 1)).map (Value.int .u8) := by
            rw [HXS.out, ← HLK.out k hlt, List.take_succ_eq_append_getElem (by rw [HL8.out]; omega), ← List.append_assoc, List.map_append, List.map_append, List.map_append, List.getD_eq_getElem?_getD, List.getElem?_eq_getElem (by rw [HL8.out]; omega)]
            rfl
          rw [← e]
          exact hown1
        · exact gb_own HGR.out (gb_trans (gb_alloc (gb_refl wr _) _) hg1) (Nat.le_refl _)
        · exact ((gb_trans (gb_alloc (gb_refl wr _) _) hg1).block b (lt_of_block HBLK.out) (by simp; omega)).trans HBLK.out
      case measure => simp [intOf]; omega
    · obtain rfl : k = 8 := by omega
      have HBY : Hid (BytesIn wr (.slice (some ⟨w.heap.size, 0, none⟩) (1 + nz + 8) (1 + nz + 8)) (Sha.ending n) (· ≠ b)) := by
        have e : Sha.ending n = (128 :: List.replicate nz 0) ++ L.take 8 := by
          rw [List.take_of_length_le (by rw [HL8.out]; omega), HLL.out, Sha.ending, HNZ.out, HR.out, HN.out, Nat.mod_mod]; rfl
        have el : (Sha.ending n).length = 1 + nz + 8 := by rw [e]; simp [HL8.out]; omega
        refine ⟨_, _, by rw [el], by omega, by omega, fun _ => ⟨w.heap.size, 0, rfl, by show w.heap.size ≠ b; omega, (HOWN.out.lt _ rfl).2, fun j hj => ?_⟩⟩
        have := HOWN.out.cells (g := w.heap.size) rfl j (.int .u8 ((Sha.ending n).getD j 0)) (by rw [← e, List.getElem?_map, List.getD_eq_getElem?_getD, List.getElem?_eq_getElem hj]; rfl)
        rw [Addr.add_mid] at this
        exact this
      have HTK : Hid (∀ wx, wx = wr → Calls Tryd.prog 23 #[.pointer (some ⟨b, 0, none⟩), .slice (some ⟨w.heap.size, 0, none⟩) (1 + nz + 8) (1 + nz + 8)] wx fun e w' => e = .returned (.tuple #[]) ∧ ∃ C4 : Array Value,
          Hid (w.grownBy w' (some b)) ∧ Hid (w'.heap[b]? = some (.cells C4 49 (0, 0))) ∧ Hid (Abs C4 (Sha.padded T)) ∧ Hid (C4[4]? = some (.bool true)) ∧ Hid (∀ j, j < 4 → C4[j]? = C[j]?)) := by
        rintro wx rfl
        have hAbs : Abs (C.setIfInBounds 4 (.bool true)) T := by
          have ha := HA.out
          refine ⟨by simpa using ha.size, fun j hj => ?_, fun j hj => ?_, ?_⟩
          · rw [Array.getElem?_setIfInBounds, if_neg (by omega)]; exact ha.words j hj
          · rw [Array.getElem?_setIfInBounds, if_neg (by omega)]; exact ha.part j hj
          · rw [Array.getElem?_setIfInBounds, if_neg (by omega)]; exact ha.held
        have hend : ∀ x ∈ Sha.ending n, 0 ≤ x ∧ x < 256 := by
          intro x hx
          simp only [Sha.ending, List.mem_cons, List.mem_append, List.mem_replicate] at hx
          rcases hx with rfl | ⟨-, rfl⟩ | hx
          · decide
          · decide
          · simp only [Sha.len8, List.mem_cons, List.not_mem_nil, or_false] at hx
            rcases hx with rfl | rfl | rfl | rfl | rfl | rfl | rfl | rfl <;> omega
        refine (take_any b _ T (Sha.ending n) _ _ HT.out hend hb0 HBLK.out hAbs HBY.out (fun j hj => ?_)).mono ?_
        · rw [gb_cell HGR.out (by show 0 < w.heap.size; omega) (fun e => hb0 e.symm)]; exact HG.out j hj
        · rintro e w' ⟨he, hg, C4, h1, h2, h3⟩
          refine ⟨he, C4, gb_trans HGR.out hg, h1, ?_, ?_, fun j hj => ?_⟩
          · show Abs C4 _
            rw [Sha.padded, HN.out]; exact h2
          · show C4[4]? = _
            rw [h3 4 (by omega), Array.getElem?_setIfInBounds, if_pos rfl, if_pos (by rw [HS.out]; omega)]
          · rw [h3 j (by omega), Array.getElem?_setIfInBounds, if_neg (by omega)]
      clear HOWN HBY HGR HBLK HLK HLL HL8
      go_wp2_with fail
      refine (HTK.out _ rfl).mono ?_
      rintro e w4 ⟨rfl, C4, g4, b4, a4, t4, o4⟩
      clear HTK
      obtain ⟨W, hW⟩ : ∃ W : Nat → Int, W = fun j => (Sha.hb (Sha.padded T) ((Sha.padded T).length / 64)).getD j 0 := ⟨_, rfl⟩
      have hWb : ∀ j, 0 ≤ W j ∧ W j < 4294967296 := by rw [hW]; exact fun j => Sha.hb_bd _ _ j
      have HWW := Lib.hid hW; clear hW
      have HWB := Lib.hid hWb; clear hWb
      have HRG : Hid (w4.rangeAt b 5 (l32 W)) := l32_range b4.out (fun j hj => by rw [HWW.out]; exact a4.out.words j hj)
      go_wp2_with (refine wpList_load_mid rfl 45 _ rfl b 5 rfl (l32 W) _ HRG.out Tryd.underlying45 rfl (by kernel_rfl) ?_)
      clear HRG
      have hs4 : Hid (C4.size = 111) := a4.out.size
      go_loopw [48] (fun v48 wx => ∃ k : Nat, k ≤ 8 ∧ v48 = .int .i64 k ∧ w.grownBy wx (some b) ∧ ∃ C5 : Array Value, wx.heap[b]? = some (.cells C5 49 (0, 0)) ∧ C5.size = 111 ∧ (∀ j, j < 79 → C5[j]? = C4[j]?) ∧
          ∀ i, i < k → C5[79 + 4 * i]? = some (.int .u8 (W i / 16777216)) ∧ C5[79 + (4 * i + 1)]? = some (.int .u8 (W i / 65536 % 256)) ∧ C5[79 + (4 * i + 2)]? = some (.int .u8 (W i / 256 % 256)) ∧ C5[79 + (4 * i + 3)]? = some (.int .u8 (W i % 256)))
        (fun v48 _ => 8 - (intOf v48).toNat)
      case atStart => exact ⟨0, by omega, rfl, g4.out, C4, b4.out, hs4.out, fun _ _ => rfl, fun i hi => by omega⟩
      case round =>
        obtain ⟨k, hk, rfl, hgr, C5, hb5, hs5, ho5, hd5⟩ := hrel
        have HGR := Lib.hid hgr; clear hgr
        have HB5 := Lib.hid hb5; clear hb5
        have HS5 := Lib.hid hs5; clear hs5
        have HO5 := Lib.hid ho5; clear ho5
        have HD5 := Lib.hid hd5; clear hd5
        by_cases hlt : k < 8
        · have hix := fun wx => index8 W k hlt wx
          have hcell : ∀ j, j < 111 → ∃ y, wr.cell? ⟨b, j, none⟩ = some y := fun j hj => ⟨_, (cell_of_row _ _ _ _ _ _ HB5.out).trans (Array.getElem?_eq_getElem (by rw [HS5.out]; exact hj))⟩
          obtain ⟨y0, e0⟩ := hcell (79 + 4 * k) (by omega)
          obtain ⟨y1, e1⟩ := hcell (79 + (4 * k + 1)) (by omega)
          obtain ⟨y2, e2⟩ := hcell (79 + (4 * k + 2)) (by omega)
          obtain ⟨y3, e3⟩ := hcell (79 + (4 * k + 3)) (by omega)
          clear hcell
          have f0 : wr.frozen? ⟨b, 79 + 4 * k, none⟩ = false := frozen_of_row _ _ _ _ _ HB5.out
          have f1 : wr.frozen? ⟨b, 79 + (4 * k + 1), none⟩ = false := frozen_of_row _ _ _ _ _ HB5.out
          have f2 : wr.frozen? ⟨b, 79 + (4 * k + 2), none⟩ = false := frozen_of_row _ _ _ _ _ HB5.out
          have f3 : wr.frozen? ⟨b, 79 + (4 * k + 3), none⟩ = false := frozen_of_row _ _ _ _ _ HB5.out
          obtain ⟨x, hx, x0, x1⟩ : ∃ x, W k = x ∧ 0 ≤ x ∧ x < 4294967296 := ⟨_, rfl, HWB.out k⟩
          simp only [hx] at hix
          have HX := Lib.hid hx; clear hx
          go_wp2
          go_roundw
          case rel =>
            refine ⟨k + 1, by omega, by go_num, gb_setCell (gb_setCell (gb_setCell (gb_setCell HGR.out _) _) _) _, _, heap_setCell_same _ _ _ _ _ _ (heap_setCell_same _ _ _ _ _ _ (heap_setCell_same _ _ _ _ _ _ (heap_setCell_same _ _ _ _ _ _ HB5.out))), by simp only [Array.size_setIfInBounds]; exact HS5.out, fun j hj => ?_, fun i hi => ?_⟩
            · simp only [Array.getElem?_setIfInBounds]
              rw [if_neg (by omega), if_neg (by omega), if_neg (by omega), if_neg (by omega)]
              exact HO5.out j hj
            · by_cases hik : i = k
              · subst hik
                rw [HX.out]
                have hz := HS5.out
                refine ⟨?_, ?_, ?_, ?_⟩ <;> simp only [Array.getElem?_setIfInBounds, Array.size_setIfInBounds]
                · rw [if_neg (by omega), if_neg (by omega), if_neg (by omega), if_pos trivial, if_pos (by omega)]
                · rw [if_neg (by omega), if_neg (by omega), if_pos trivial, if_pos (by omega)]
                · rw [if_neg (by omega), if_pos trivial, if_pos (by omega)]
                · rw [if_pos trivial, if_pos (by omega)]
              · obtain ⟨d0, d1, d2, d3⟩ := HD5.out i (by omega)
                refine ⟨?_, ?_, ?_, ?_⟩ <;> simp only [Array.getElem?_setIfInBounds]
                · rw [if_neg (by omega), if_neg (by omega), if_neg (by omega), if_neg (by omega)]; exact d0
                · rw [if_neg (by omega), if_neg (by omega), if_neg (by omega), if_neg (by omega)]; exact d1
                · rw [if_neg (by omega), if_neg (by omega), if_neg (by omega), if_neg (by omega)]; exact d2
                · rw [if_neg (by omega), if_neg (by omega), if_neg (by omega), if_neg (by omega)]; exact d3
          case measure => simp [intOf]; omega
        · have hk8 : Hid (k = 8) := by show k = 8; omega
          go_wp2
          go_end0
          refine ⟨rfl, HGR.out, C5, HB5.out, (HO5.out 4 (by omega)).trans t4.out, fun j hj => ?_, fun j hj => (HO5.out j (by omega)).trans (o4.out j hj)⟩
          obtain ⟨d0, d1, d2, d3⟩ := HD5.out (j / 4) (by rw [hk8.out]; omega)
          obtain ⟨g0, g1, g2, g3⟩ := Sha.digest_get T (j / 4) (by omega) (W (j / 4)) (by rw [HWW.out])
          obtain h | h | h | h : j % 4 = 0 ∨ j % 4 = 1 ∨ j % 4 = 2 ∨ j % 4 = 3 := by omega
          · rw [show 79 + 4 * (j / 4) = 79 + j by omega] at d0
            rw [d0, ← g0, show 4 * (j / 4) = j by omega]
          · rw [show 79 + (4 * (j / 4) + 1) = 79 + j by omega] at d1
            rw [d1, ← g1, show 4 * (j / 4) + 1 = j by omega]
          · rw [show 79 + (4 * (j / 4) + 2) = 79 + j by omega] at d2
            rw [d2, ← g2, show 4 * (j / 4) + 2 = j by omega]
          · rw [show 79 + (4 * (j / 4) + 3) = 79 + j by omega] at d3
            rw [d3, ← g3, show 4 * (j / 4) + 3 = j by omega]
end Go.Proofs.YtodahmmebikddaaDoor
