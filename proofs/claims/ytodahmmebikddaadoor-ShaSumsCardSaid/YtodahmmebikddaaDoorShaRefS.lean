/- The walk of the document's own Sum. -/
import Derived.Test.YtodahmmebikddaaDoorShaPad
import Derived.StillTailTactics
import Derived.Deep.RegionWith
namespace Go.Proofs.YtodahmmebikddaaDoor
open Go.RowKit Go

theorem Sha.flat_get (l : List Int) (h : l.length = 8) (i k : Nat) (hi : i < 8) (hk : k < 4) (hb : l.getD i 0 < 4294967296) (h0 : 0 ≤ l.getD i 0) : (l.flatMap Sha.bytes4).getD (4 * i + k) 0 = l.getD i 0 / 2 ^ (24 - 8 * k) % 256 := by
  have e : l.getD i 0 / 16777216 = l.getD i 0 / 16777216 % 256 := by omega
  match l, h with
  | [_, _, _, _, _, _, _, _], _ =>
    obtain rfl | rfl | rfl | rfl : k = 0 ∨ k = 1 ∨ k = 2 ∨ k = 3 := by omega
    · obtain rfl | rfl | rfl | rfl | rfl | rfl | rfl | rfl : i = 0 ∨ i = 1 ∨ i = 2 ∨ i = 3 ∨ i = 4 ∨ i = 5 ∨ i = 6 ∨ i = 7 := by omega
      all_goals exact e
    all_goals
      obtain rfl | rfl | rfl | rfl | rfl | rfl | rfl | rfl : i = 0 ∨ i = 1 ∨ i = 2 ∨ i = 3 ∨ i = 4 ∨ i = 5 ∨ i = 6 ∨ i = 7 := by omega
      all_goals first | rfl | simp [Sha.bytes4]

theorem wpStill_load_row {P : Program} {ops : Array Oper} {w : World} {Q : Act → Prop} {rest : List Oper} {op : Oper} {a : Act} (hw : Region.wanted op (yielded ops a.tmps) = true) (ty : TypeId) (x : Operand) (ho : op.op = .load ty x)
    (b o : Nat) (hx : a.eval x = .pointer (some ⟨b, o, none⟩)) (cs : List Value) (d : TypeDesc) (hc : w.rangeAt b o cs)
    (hu : P.underlying ty = some d) (hd : d.isRow = true) (hi : (P.info? ty).map (·.size) = some cs.length)
    (h : wpStill P ops w Q rest (a.put op.dst (.agg cs.toArray))) : wpStill P ops w Q (op :: rest) a := by
  refine wpStill_step fun K hK => ?_
  rw [if_pos hw]
  unfold Oper.still execOp
  simp only [ho, hx, Instr.loadAt, Instr.sureAddr, Sem.run_bind, Sem.run_pure, Result.andThen_ok, run_loadVar_mid w b o ty cs d hc hu hd hi, Oper.stillUpon]
  exact ⟨trivial, hK _ h⟩

set_option maxRecDepth 100000 in
set_option maxHeartbeats 2000000 in
theorem rsum_any (B : List Int) (a : Option Addr) (n cap : Nat) (w : World) (hn : n = B.length) (hB : BytesIn w (.slice a n cap) B (fun _ => True)) (hBb : ∀ x ∈ B, 0 ≤ x ∧ x < 256) (hna : a = none → cap = 0) (hl : n ≤ 1000000) :
    Calls Tryd.prog 11 #[.slice a n cap] w fun e w' => e = .returned (.agg (k8 (Sha.digest B)).toArray) ∧ Below w.heap.size w w' := by
  have HPD : Hid (∀ wx, Below w.heap.size w wx → Calls Tryd.prog 19 #[.slice a n cap] wx fun e w' => ∃ v', e = .returned v' ∧ w'.ownsRow wx.heap.size 5 1 v' (Sha.padded B).length (k8 (Sha.padded B)) ∧ Below wx.heap.size wx w') :=
    fun wx hb => padded_any B a n cap wx hn (later_bytes hb hB) hna hl
  have HBB := Lib.hid hBb; clear hBb
  have HN := Lib.hid hn; clear hn
  clear hB hna
  have H8 : Hid ((Tryd.prog.info? 45).map (·.size) = some 8) := by show _ = _; kernel_rfl
  go_enter Tryd.func11, Tryd.ntmps11
  go_wp2_with fail
  refine (HPD.out _ ((Below.refl _ _).alloc (Nat.le_refl _) _)).mono ?_
  rintro e w1 ⟨v', rfl, ho, hb1⟩
  obtain ⟨ap, cp, rfl⟩ := own_slice ho
  have HO1 : Hid (w1.ownsRow (w.heap.size + 1) 5 1 (.slice ap (Sha.padded B).length cp) (Sha.padded B).length (k8 (Sha.padded B))) := by unfold Hid; simpa using ho
  clear ho
  have HB1 : Hid (Below w.heap.size w w1) := ((Below.refl _ _).alloc (Nat.le_refl _) _).trans (hb1.mono (by simp))
  have HRES : Hid (w1.heap[w.heap.size]? = some (.cells (Array.replicate 32 (.int .u8 0)) 26 (0, 0))) := (hb1.block _ (by simp)).trans (heap_alloc_new _ _)
  clear hb1 HPD
  go_wp2_with fail
  refine (begin_any _).mono ?_
  rintro e w2 ⟨rfl, hb2⟩
  have HB2 := Lib.hid hb2; clear hb2
  go_wp2_with (refine wpList_store_row_any rfl 45 _ _ rfl w2.heap.size (l32 fun j => Sha.h0.getD j 0).toArray rfl rfl 45 _ (heap_alloc_new _ _) H8.out rfl (l32_all _) ?_; intro w3 h3 g3)
  have hs1 : w.heap.size < w1.heap.size := lt_of_block HRES.out
  have hs2 : w1.heap.size ≤ w2.heap.size := HB2.out.size
  have HP : Hid ((Sha.padded B).length % 64 = 0 ∧ 64 ≤ (Sha.padded B).length ∧ (Sha.padded B).length ≤ 1000200 ∧ ∀ x ∈ Sha.padded B, 0 ≤ x ∧ x < 256) := by
    refine ⟨Sha.padded_mod B, ?_, ?_, ?_⟩
    · have := Sha.padded_mod B
      have : 0 < (Sha.padded B).length := by rw [Sha.padded, List.length_append, Sha.ending, List.length_cons]; omega
      omega
    · have := HN.out
      simp [Sha.padded, Sha.ending, Sha.len8]; omega
    · intro x hx
      rcases List.mem_append.1 hx with h | h
      · exact HBB.out x h
      · simp only [Sha.ending, List.mem_cons, List.mem_append, List.mem_replicate] at h
        rcases h with rfl | ⟨-, rfl⟩ | h
        · decide
        · decide
        · simp only [Sha.len8, List.mem_cons, List.not_mem_nil, or_false] at h
          rcases h with rfl | rfl | rfl | rfl | rfl | rfl | rfl | rfl <;> omega
  have HDG : Hid (Sha.digest B = (Sha.hb (Sha.padded B) ((Sha.padded B).length / 64)).flatMap Sha.bytes4) := rfl
  generalize Sha.padded B = T at *
  obtain ⟨g, hap, hgw, hg1, hcp⟩ : ∃ g, ap = some ⟨g, 0, none⟩ ∧ w.heap.size < g ∧ g < w1.heap.size ∧ T.length ≤ cp := by
    have := HO1.out
    rcases this.2 with ⟨e, hn⟩ | ⟨g, cap', cur, e, hg, hh, hnc, _⟩
    · have := HP.out.2.1; omega
    · cases e
      exact ⟨g, rfl, hg, lt_of_block hh, hnc⟩
  subst hap
  have HT1 : Hid (∀ j, j < T.length → w1.cell? ⟨g, j, none⟩ = some (.int .u8 (T.getD j 0))) := fun j hj => by
    have := HO1.out.cells (g := g) rfl j _ (k8_get T j hj)
    rw [Addr.add_mid, Nat.zero_add] at this
    exact this
  have HB3 : Hid (Below w1.heap.size w1 w3) := below_of_gb ((HB2.out).alloc hs2 _) g3.out hs2 (by simp; omega)
  have HH3 : Hid (w3.heap[w2.heap.size]? = some (.cells (l32 fun j => (Sha.hb T 0).getD j 0).toArray 45 (0, 0))) := h3
  clear HO1 HB2 h3 g3 HBB
  generalize w2.heap.size = gh at *
  obtain ⟨P, hP⟩ : ∃ P, T.length = P := ⟨_, rfl⟩
  simp only [hP] at hcp ⊢
  have HPL := Lib.hid hP; clear hP
  have hP2 : 64 ≤ P ∧ P ≤ 1000200 := by have := HP.out; have := HPL.out; omega
  obtain ⟨hP64, hPm⟩ := hP2
  have HPM : Hid (P % 64 = 0) := by have h1 := HP.out.1; have h2 := HPL.out; unfold Hid; omega
  go_loopw [5] (fun v5 wr => ∃ m : Nat, 64 * m ≤ P ∧ v5 = .int .i64 (64 * (m : Int)) ∧ Below w1.heap.size w1 wr ∧ wr.heap[gh]? = some (.cells (l32 fun j => (Sha.hb T m).getD j 0).toArray 45 (0, 0)))
    (fun v5 _ => (P - intOf v5).toNat)
  case atStart => exact ⟨0, by omega, rfl, HB3.out, HH3.out⟩
  case round =>
    clear HB3 HH3
    obtain ⟨m, hm, rfl, hb, hh⟩ := hrel
    have HB := Lib.hid hb; clear hb
    have HH := Lib.hid hh; clear hh
    by_cases hlt : 64 * m < P
    · have hlt2 : 64 * m + 64 ≤ P := by have := HPM.out; omega
      go_wp2_with fail
      refine wp_region_still_tail 6 (by kernel_rfl) (by kernel_rfl) ?_
      obtain ⟨wx, hwx⟩ : ∃ wx : World, wx = { heap := wr.heap, tape := wr.tape, drawn := wr.drawn + 1, os := wr.os, output := wr.output } := ⟨_, rfl⟩
      rw [← hwx]
      have HBX : Hid (Below w1.heap.size w1 wx) := HB.out.trans (by subst hwx; exact ⟨rfl, rfl, rfl, Nat.le_refl _, fun _ _ => rfl⟩)
      have HHX : Hid (wx.heap[gh]? = some (.cells (l32 fun j => (Sha.hb T m).getD j 0).toArray 45 (0, 0))) := by subst hwx; exact HH
      clear HB HH hwx
      have hcr : wx.rangeAt gh 0 (l32 fun j => (Sha.hb T m).getD j 0) := fun j v hj => by
        rw [Nat.zero_add]
        exact (cell_of_row _ _ _ _ _ _ HHX.out).trans (by rw [List.getElem?_toArray]; exact hj)
      have HCR := Lib.hid hcr; clear hcr
      simp only [List.take_succ_cons, List.take_zero, List.drop_succ_cons, List.drop_zero]
      have hwr : IntKind.i64.wrap (64 * (m : Int) + 64) = 64 * (m : Int) + 64 := by rw [IntKind.wrap_i64]; omega
      have t1 : (64 * (m : Int)).toNat = 64 * m := by omega
      have t2 : (64 * (m : Int) + 64).toNat = 64 * m + 64 := by omega
      have t3 : (64 * (m : Int) + 64 - 64 * (m : Int)).toNat = 64 := by omega
      have hcne : ¬ cp = 64 * m := by omega
      have c1 : 0 ≤ 64 * (m : Int) := by omega
      have c2 : 64 * (m : Int) ≤ 64 * (m : Int) + 64 := by omega
      have c3 : 64 * (m : Int) + 64 ≤ (cp : Int) := by omega
      refine wpStill_load_row (by rfl) 45 _ rfl gh 0 (by rfl) _ (.array 8 36) HCR.out (by kernel_rfl) rfl (by kernel_rfl) ?_
      repeat still_step
      refine wpStill_nil ?_
      clear hwr t1 t2 t3 hcne c1 c2 c3 HCR
      have hXC : Hid (∀ j, j < 64 → wx.cell? ⟨g, 64 * m + j, none⟩ = some (.int .u8 (T.getD (64 * m + j) 0))) := fun j hj => by
        have h1 := HT1.out (64 * m + j) (by have := HPL.out; omega)
        rw [← h1]
        unfold World.cell?
        rw [HBX.out.block g hg1]
      have hXb : Hid (∀ j, 0 ≤ T.getD j 0 ∧ T.getD j 0 < 256) := fun j => by
        rcases Nat.lt_or_ge j T.length with h | h
        · rw [List.getD_eq_getElem?_getD, List.getElem?_eq_getElem h]
          exact HP.out.2.2.2 _ (List.getElem_mem h)
        · rw [List.getD_eq_getElem?_getD, List.getElem?_eq_none h]; decide
      have hHb : Hid (∀ j, 0 ≤ (Sha.hb T m).getD j 0 ∧ (Sha.hb T m).getD j 0 < 4294967296) := fun j => Sha.hb_bd T m j
      go_wp2_with fail
      refine (rblock_any g (64 * m) (cp - 64 * m) (Sha.hb T m) (fun j => T.getD (64 * m + j) 0) wx (fun j => hXb.out _) hHb.out (by have := HBX.out.size; omega) (by omega) hXC.out).mono ?_
      rintro e w4 ⟨rfl, hb4⟩
      have HH4 : Hid (w4.heap[gh]? = some (.cells (l32 fun j => (Sha.hb T m).getD j 0).toArray 45 (0, 0))) := (hb4.block gh (lt_of_block HHX.out)).trans HHX.out
      have HB4 := HBX.out.trans (hb4.mono (by have := HBX.out.size; omega))
      have HB5 := Lib.hid HB4; clear HB4 hb4 HHX HBX
      have hgh1 : w1.heap.size ≤ gh := hs2
      go_wp2_with (refine wpList_store_row_any rfl 45 _ _ rfl gh (l32 fun j => (Sha.comp (Sha.hb T m) fun j => T.getD (64 * m + j) 0).getD j 0).toArray rfl rfl 45 _ HH4.out H8.out rfl (l32_all _) ?_; intro w6 h6 g6)
      go_roundw
      case rel =>
        refine ⟨m + 1, by omega, by congr 1, below_of_gb HB5.out g6.out hgh1 HB5.out.size, h6.out⟩
      case measure => simp [intOf]; omega
    · have hm64 : Hid (P / 64 = m) := by have := HPM.out; show P / 64 = m; omega
      obtain ⟨W, hW⟩ : ∃ W : Nat → Int, W = fun j => (Sha.hb T m).getD j 0 := ⟨_, rfl⟩
      rw [← hW] at HH
      have HWB : Hid (∀ j, 0 ≤ W j ∧ W j < 4294967296) := by rw [hW]; exact fun j => Sha.hb_bd _ _ j
      have HDW : Hid (∀ i, i < 8 → ∀ k, k < 4 → (Sha.digest B).getD (4 * i + k) 0 = W i / 2 ^ (24 - 8 * k) % 256) := by
        intro i hi k hk
        have hl := hm64.out
        have hpl := HPL.out
        have hd := HDG.out
        rw [hpl, hl] at hd
        have hb := Sha.hb_bd T m i
        rw [hd, hW]
        exact Sha.flat_get _ (Sha.hb_length _ _) i k hi hk hb.2 hb.1
      clear hW
      have HWC : Hid (∀ i, i < 8 → (l32 W).toArray[i]? = some (.int .u32 (W i))) := by
        intro i hi
        obtain rfl | rfl | rfl | rfl | rfl | rfl | rfl | rfl : i = 0 ∨ i = 1 ∨ i = 2 ∨ i = 3 ∨ i = 4 ∨ i = 5 ∨ i = 6 ∨ i = 7 := by omega
        all_goals rfl
      have hwr1 : w1.heap.size ≤ wr.heap.size := HB.out.size
      have hghw : gh < wr.heap.size := lt_of_block HH.out
      go_wp2_with fail
      have HB7 : Hid (Below w1.heap.size w1 (wr.alloc (.cells (Array.replicate 32 (.int .u8 0)) 26))) := HB.out.alloc hwr1 _
      have HH7 : Hid ((wr.alloc (.cells (Array.replicate 32 (.int .u8 0)) 26)).heap[gh]? = some (.cells (l32 W).toArray 45 (0, 0))) := by
        exact ((World.grownBy_alloc wr _ none).block gh hghw (by simp)).trans HH.out
      have HO7 : Hid ((wr.alloc (.cells (Array.replicate 32 (.int .u8 0)) 26)).heap[wr.heap.size]? = some (.cells (Array.replicate 32 (.int .u8 0)) 26 (0, 0))) := heap_alloc_new _ _
      generalize wr.heap.size = go at *
      clear HB HH
      go_loopw [7] (fun v7 wx => ∃ i : Nat, i ≤ 8 ∧ v7 = .int .i64 (i : Int) ∧ Below w1.heap.size w1 wx ∧ wx.heap[gh]? = some (.cells (l32 W).toArray 45 (0, 0)) ∧ ∃ C : Array Value, wx.heap[go]? = some (.cells C 26 (0, 0)) ∧ C.size = 32 ∧ ∀ j, j < 4 * i → C[j]? = some (.int .u8 ((Sha.digest B).getD j 0)))
        (fun v7 _ => (8 - intOf v7).toNat)
      case atStart => exact ⟨0, by omega, rfl, HB7.out, HH7.out, _, HO7.out, rfl, fun j hj => by omega⟩
      case round =>
        clear HB7 HH7 HO7
        obtain ⟨i, hi, rfl, hb, hh, C, hc, hcs, hcd⟩ := hrel
        have HB := Lib.hid hb; clear hb
        have HH := Lib.hid hh; clear hh
        have HC := Lib.hid hc; clear hc
        have HCS := Lib.hid hcs; clear hcs
        have HCD := Lib.hid hcd; clear hcd
        by_cases hi8 : i < 8
        · go_wp2
          go_loopw [8] (fun v8 wx => ∃ k : Nat, k ≤ 4 ∧ v8 = .int .i64 (k : Int) ∧ Below w1.heap.size w1 wx ∧ wx.heap[gh]? = some (.cells (l32 W).toArray 45 (0, 0)) ∧ ∃ C : Array Value, wx.heap[go]? = some (.cells C 26 (0, 0)) ∧ C.size = 32 ∧ ∀ j, j < 4 * i + k → C[j]? = some (.int .u8 ((Sha.digest B).getD j 0)))
            (fun v8 _ => (4 - intOf v8).toNat)
          case atStart => exact ⟨0, by omega, rfl, HB.out, HH.out, C, HC.out, HCS.out, fun j hj => HCD.out j (by omega)⟩
          case round =>
            clear HB HH HC HCS HCD
            obtain ⟨k, hk, rfl, hb, hh, C1, hc, hcs, hcd⟩ := hrel
            have HB := Lib.hid hb; clear hb
            have HH := Lib.hid hh; clear hh
            have HC := Lib.hid hc; clear hc
            have HCS := Lib.hid hcs; clear hcs
            have HCD := Lib.hid hcd; clear hcd
            by_cases hk4 : k < 4
            · obtain ⟨y, hy⟩ : ∃ y, wr.cell? ⟨go, 4 * i + k, none⟩ = some y := ⟨_, (cell_of_row _ _ _ _ _ _ HC.out).trans (Array.getElem?_eq_getElem (by rw [HCS.out]; omega))⟩
              have hgc : wr.cell? ⟨gh, i, none⟩ = some (.int .u32 (W i)) := (cell_of_row _ _ _ _ _ _ HH.out).trans (HWC.out i hi8)
              obtain ⟨x, hx, x0, x1⟩ : ∃ x, W i = x ∧ 0 ≤ x ∧ x < 4294967296 := ⟨_, rfl, HWB.out i⟩
              rw [hx] at hgc
              have HX := Lib.hid hx; clear hx
              have he : 0 ≤ 24 - 8 * (k : Int) := by omega
              have hfz : wr.frozen? ⟨go, 4 * i + k, none⟩ = false := frozen_of_row _ _ _ _ _ HC.out
              go_wp2
              go_roundw
              case rel =>
                refine ⟨k + 1, by omega, by congr 1, HB.out.setCell hwr1 _, (Below.heap_setCell _ _ _ _ (by show gh ≠ go; omega)).trans HH.out, _, heap_setCell_same _ _ _ _ _ _ HC.out, by simpa using HCS.out, fun j hj => ?_⟩
                rw [Array.getElem?_setIfInBounds]
                by_cases hjk : 4 * i + k = j
                · rw [if_pos hjk, if_pos (by rw [HCS.out]; omega), ← hjk, HDW.out i hi8 k hk4, HX.out]
                · rw [if_neg hjk]
                  exact HCD.out j (by omega)
              case measure => simp [intOf]; omega
            · have hk44 : Hid (k = 4) := by show k = 4; omega
              go_wp2
              go_roundw
              case rel =>
                exact ⟨i + 1, by omega, by congr 1, HB.out, HH.out, C1, HC.out, HCS.out, fun j hj => HCD.out j (by rw [hk44.out]; omega)⟩
              case measure => simp [intOf]; omega
        · have hi88 : Hid (i = 8) := by show i = 8; omega
          have hDL := Sha.digest_length B
          generalize hDe : Sha.digest B = D at HCD hDL
          have HDE := Lib.hid hDe; clear hDe
          have HKS : Hid ((Tryd.prog.info? 26).map (·.size) = some (k8 D).toArray.size) := by show _ = _; rw [List.size_toArray]; exact key_size _ hDL
          have HKL : Hid ((Tryd.prog.info? 26).map (·.size) = some (k8 D).length) := by have := HKS.out; rw [List.size_toArray] at this; exact this
          have HOLD : Hid ((Array.replicate 32 (Value.int .u8 0)).size = (k8 D).toArray.size) := by unfold Hid; simp only [Array.size_replicate, List.size_toArray, k8_length]; exact hDL.symm
          have HRG : Hid (wr.rangeAt go 0 (k8 D)) := fun j v hj => by
            have hj32 : j < D.length := by have := (List.getElem?_eq_some_iff.1 hj).1; rwa [k8_length] at this
            rw [Nat.zero_add, cell_of_row _ _ _ _ _ _ HC.out, HCD.out j (by rw [hi88.out]; omega), ← hj, k8_get D j hj32]
          have HR3 : Hid (wr.heap[w.heap.size]? = some (.cells (Array.replicate 32 (.int .u8 0)) 26 (0, 0))) := (HB.out.block _ hs1).trans HRES.out
          have HBF : Hid (Below w.heap.size w wr) := HB1.out.trans (HB.out.mono (Nat.le_of_lt hs1))
          clear HB HH HC HCS HCD HWC HDW HDG HWB hDL HRES HB1
          go_wp2_with (first | (refine wpList_load_mid rfl 26 _ rfl go 0 rfl (k8 D) _ HRG.out Tryd.underlying26 rfl HKL.out ?_) | (refine wpList_store_row rfl 26 _ _ rfl w.heap.size ((k8 D).toArray) rfl rfl 26 _ HR3.out HKS.out HOLD.out (all_oneCell_toArray (k8_one _)) ?_))
          exact bodyPost_ret (v := .agg (k8 D).toArray) (results_cell_row (p := 2) (ty := 26) rfl _ _ w.heap.size 26 _ (0, 0) _ rfl (setRow_heap _ _ _ _ _ _ HR3.out) Tryd.underlying26 rfl HKS.out) rfl
            ⟨by rw [HDE.out], HBF.out.trans ⟨rfl, rfl, rfl, by simp [World.setRow], fun k hk => setRow_other _ _ _ _ (by omega)⟩⟩
end Go.Proofs.YtodahmmebikddaaDoor
