/- Laid together: DfCat DfBest. -/
import Derived.Test.YtenkkononchgmaaGreatDoorDkB29

namespace Go.Proofs.YtenkkononchgmaaGreatDoor
open Go.RowKit Go

theorem wpList_append_nums {w : World} {ops : Array Oper} {rest : List Oper} {o : Oper} {a : Act} {Q : Exit → Act → World → Prop} (hgd : o.guard = none) (s x : Operand)
   (ho : o.op = .call { callee := .builtin .append, args := #[s, x], argTypes := #[97, 97] })
   (base : Nat) (v : Value) (n : Nat) (xs : List Value) (hs : a.eval s = v) (hown : w.ownsRow base 3 1 v n xs)
   (G p m cp : Nat) (l : List Nat) (hl : l.length = m) (_hm0 : 0 < m) (hx : a.eval x = .slice (some ⟨G, p, none⟩) m cp) (hI : Ints w (some ⟨G, p, none⟩) m cp (Inf.lf l)) (hn : n + m ≤ 1000000) (hbase : base ≤ w.heap.size)
   (h : ∀ v' w', Hid (w'.ownsRow base 3 1 v' (n + m) (xs ++ nv l)) → Hid (w.grownBy w' v.ownBlock) → wpList Tryz.prog ops Q rest (a.put o.dst v') w') : wpList Tryz.prog ops Q (o :: rest) a w := by
 obtain ⟨i0, hi, hz0, hz1, hz2⟩ := info_parts infoInt
 refine wpList_append_own _ hgd s x 97 ho base 3 i0 _ 1 8 (by kernel_rfl) hi hz0 hz1 hz2 rfl (by decide) v n xs hs hown ⟨G, p, none⟩ m cp (nv l) hx (by rw [nv_length, hl, Nat.mul_one]) (fun j u hj => ?_) (fun u hu => by obtain ⟨i, -, rfl⟩ := List.mem_map.1 hu; rfl) (by simp only [maxLen]; omega) (by omega) hbase ?_
 · have hjm : j < m := by
     have := (List.getElem?_eq_some_iff.1 hj).1
     rwa [nv_length, hl] at this
   obtain ⟨s', o', e, -, hc⟩ := hI.at_ hjm
   cases e
   rw [Addr.add_mid, hc, ← hj]
   simp only [Inf.lf]
   exact (nv_get l j _ (by rw [List.getD_eq_getElem?_getD, List.getElem?_eq_getElem (by omega)]; rfl)).symm
 · intro v' w' ho' hg' _
   exact h v' w' ho' hg'
def Inf.catL (A : Nat → List Nat) : Nat → List Nat
 | 0 => []
 | i + 1 => Inf.catL A i ++ A i
set_option maxRecDepth 100000 in
set_option maxHeartbeats 4000000 in
theorem concatL_any (H k : Nat) (N cp : Nat → Nat) (A : Nat → List Nat) (G P : Nat → Nat) (w : World) (hk : k ≤ 100) (hs1 : 1 ≤ Inf.sm N k) (hs : Inf.sm N k ≤ 1000) (hH : H < w.heap.size)
   (hc : ∀ i, i < k → w.cell? ⟨H, i, none⟩ = some (.slice (some ⟨G i, P i, none⟩) (N i) (cp i))) (hG : ∀ i, i < k → Ints w (some ⟨G i, P i, none⟩) (N i) (cp i) (Inf.lf (A i)) ∧ (A i).length = N i ∧ 0 < N i) :
   Calls Tryz.prog 43 #[.slice (some ⟨H, 0, none⟩) k k] w fun e w' => ∃ v, e = .returned v ∧ w'.ownsRow w.heap.size 3 1 v (Inf.sm N k) (nv (Inf.catL A k)) ∧ Below w.heap.size w w' := by
 have HC := Lib.hid hc
 have HG := Lib.hid hG
 have HGR := Lib.hid (fun wx => grow_any (Inf.sm N k) wx hs1 (by omega))
 have HK := Lib.hid hk
 have HS := Lib.hid hs
 have HH := Lib.hid hH
 have hkI : (k : Int) ≤ 100 := by omega
 clear hc hG hk hs1 hs hH
 go_enter Tryz.func43, Tryz.ntmps43
 go_wp2_with fail
 go_loopw [3, 11] (fun v3 v11 wr => ∃ i : Nat, i ≤ k ∧ v11 = .int .i64 (i : Int) ∧ v3 = .int .i64 ((Inf.sm N i : Nat) : Int) ∧ wr = w) (fun _ v11 _ => (k - intOf v11).toNat)
 case atStart => exact ⟨0, by omega, rfl, rfl, rfl⟩
 case round =>
   obtain ⟨i, hi, rfl, rfl, hw⟩ := hrel
   subst wr
   by_cases hlt : i < k
   · have hd1 : decide (i < k) = true := decide_eq_true hlt
     have hd2 : decide ((i : Int) < (k : Int)) = true := decide_eq_true (by omega)
     have hle := Inf.sm_le N hlt
     have hS := HS.out
     have c1 := HC.out i hlt
     obtain ⟨m, hm⟩ : ∃ m, m = N i := ⟨_, rfl⟩
     obtain ⟨a, ha⟩ : ∃ a, a = Inf.sm N i := ⟨_, rfl⟩
     obtain ⟨b, hb⟩ : ∃ b, b = Inf.sm N (i + 1) := ⟨_, rfl⟩
     have hab : a + m = b := by rw [ha, hm, hb, Inf.sm]
     have habI : (a : Int) + (m : Int) = (b : Int) := by omega
     have hb6 : b ≤ 1000 := by rw [hb, Inf.sm]; omega
     have hbI : (b : Int) ≤ 1000 := by omega
     have haI : (a : Int) ≤ 1000 := by omega
     have hmI : (m : Int) ≤ 1000 := by omega
     have hb0 : decide ((b : Int) < 0) = false := decide_eq_false (by omega)
     rw [← hm] at c1
     rw [← ha]
     have HLT := Lib.hid hlt
     have HB := Lib.hid hb
     have hikI : (i : Int) < (k : Int) := by omega
     clear hm ha hb hab hb6 hle hS hlt
     go_wp2
     exact ⟨⟨i + 1, by have := HLT.out; omega, by go_num, by rw [← HB.out], trivial⟩, by have := HLT.out; simp [intOf]; omega⟩
   · obtain rfl : i = k := by omega
     have hd1 : decide (i < i) = false := decide_eq_false (by omega)
     have hd2 : decide ((i : Int) < (i : Int)) = false := decide_eq_false (by omega)
     clear hlt hi
     go_wp2_with fail
     refine (HGR.out _).mono ?_
     rintro e w1 ⟨v, rfl, h1, h2⟩
     obtain ⟨av, cv, rfl⟩ := own_form h1
     have HO := Lib.hid h1
     have HB := Lib.hid h2
     clear h1 h2 HGR
     go_wp2_with fail
     go_loopw [6, 27] (fun v6 v27 wr => ∃ (j z : Nat) (ad : Option Addr) (cp : Nat), j ≤ i ∧ v27 = .int .i64 (j : Int) ∧ v6 = .slice ad z cp ∧ z = Inf.sm N j ∧ wr.ownsRow w.heap.size 3 1 (.slice ad z cp) z (nv (Inf.catL A j)) ∧ Below w.heap.size w wr) (fun _ v27 _ => (i - intOf v27).toNat)
     case atStart => exact ⟨0, 0, av, cv, by omega, rfl, rfl, rfl, HO.out, HB.out⟩
     case round =>
       clear HO HB
       obtain ⟨j, z, ad, cz, hj, rfl, rfl, hz, ho, hb⟩ := hrel
       have HO := Lib.hid ho
       have HB := Lib.hid hb
       have HZ := Lib.hid hz
       clear ho hb
       by_cases hlt : j < i
       · have hd3 : decide (j < i) = true := decide_eq_true hlt
         have hd4 : decide ((j : Int) < (i : Int)) = true := decide_eq_true (by omega)
         have c1 : wr.cell? ⟨H, j, none⟩ = some (.slice (some ⟨G j, P j, none⟩) (N j) (cp j)) := (HB.out.cell (by exact HH.out)).trans (HC.out j hlt)
         obtain ⟨k1, k2, k3⟩ := HG.out j hlt
         have HGJ : Hid (Ints wr (some ⟨G j, P j, none⟩) (N j) (cp j) (Inf.lf (A j))) := k1.later HB.out
         have hle := Inf.sm_le N hlt
         have hS := HS.out
         obtain ⟨m, hm⟩ : ∃ m, m = N j := ⟨_, rfl⟩
         obtain ⟨gj, hgj⟩ : ∃ gj, gj = G j := ⟨_, rfl⟩
         obtain ⟨pj, hpj⟩ : ∃ pj, pj = P j := ⟨_, rfl⟩
         obtain ⟨cj, hcj⟩ : ∃ cj, cj = cp j := ⟨_, rfl⟩
         have HCAT : Hid (Inf.catL A (j + 1) = Inf.catL A j ++ A j ∧ Inf.sm N (j + 1) = z + m) := by rw [Inf.catL, Inf.sm, hm, hz]; exact ⟨rfl, rfl⟩
         have hzm : z + m ≤ 1000000 := by omega
         rw [← hm, ← hgj, ← hpj, ← hcj] at c1 HGJ
         rw [← hm] at k2 k3
         have K2 := Lib.hid k2
         have K3 := Lib.hid k3
         have HLT := Lib.hid hlt
         have hjI : (j : Int) < (i : Int) := by omega
         have hown := HO.out
         have HSZ : Hid (w.heap.size ≤ wr.heap.size) := HB.out.size
         clear hm hgj hpj hcj hle hS hlt hz k1 k2 k3
         go_wp2_with (first | (at_builtin; refine wpList_append_nums rfl (.tmp 31) (.tmp 32) rfl w.heap.size _ z (nv (Inf.catL A j)) rfl hown gj pj m cj (A j) K2.out K3.out rfl HGJ.out hzm HSZ.out ?_; intro v' w8 ho8 hg8; obtain ⟨a8, c8, rfl⟩ := own_form ho8.out))
         refine ⟨⟨j + 1, z + m, a8, c8, by have := HLT.out; omega, by go_num, rfl, HCAT.out.2.symm, ?_, HB.out.grown hg8.out HB.out.size (fun k hk => (Inf.own_type HO.out hk).1)⟩, by have := HLT.out; simp [intOf]; omega⟩
         rw [HCAT.out.1, show nv (Inf.catL A j ++ A j) = nv (Inf.catL A j) ++ nv (A j) by simp [nv]]
         exact ho8.out
       · obtain rfl : j = i := by omega
         have hd3 : decide (j < j) = false := decide_eq_false (by omega)
         have hd4 : decide ((j : Int) < (j : Int)) = false := decide_eq_false (by omega)
         subst hz
         go_wp2
         go_ret
         exact ⟨_, rfl, HO.out, HB.out⟩
end Go.Proofs.YtenkkononchgmaaGreatDoor

namespace Go.Proofs.YtenkkononchgmaaGreatDoor
open Go.RowKit Go

theorem code_ret4 {P : Func} {w : World} {BR : Nat} {a b : Value} {tmps : Array Value} (hP : P.results = #[.cell 4 106]) (h : w.heap[BR]? = some (.cells #[a, b] 106 (0, 0))) (h1 : tmps.getD 4 undef = .pointer (some ⟨BR, 0, none⟩)) :
   (results P tmps).run Tryz.prog w = .ok (.agg #[a, b]) w :=
 results_cell_row (p := 4) (ty := 106) hP _ _ BR 106 _ (0, 0) _ h1 h Tryz.underlying106 rfl (by kernel_rfl)
theorem code_set {w : World} {B : Nat} {x y : Value} (h : w.heap[B]? = some (.cells #[x, y] 106 (0, 0))) (a b : Value) :
   w.cell? ⟨B, 0, none⟩ = some x ∧ w.frozen? ⟨B, 0, none⟩ = false ∧ (w.setCell ⟨B, 0, none⟩ a).cell? ⟨B, 1, none⟩ = some y ∧ (w.setCell ⟨B, 0, none⟩ a).frozen? ⟨B, 1, none⟩ = false ∧
     ((w.setCell ⟨B, 0, none⟩ a).setCell ⟨B, 1, none⟩ b).heap[B]? = some (.cells #[a, b] 106 (0, 0)) := by
 have h1 : (w.setCell ⟨B, 0, none⟩ a).heap[B]? = some (.cells #[a, y] 106 (0, 0)) := (heap_setCell_same _ _ _ _ _ _ h).trans rfl
 refine ⟨?_, frozen_of_row _ _ _ _ _ h, ?_, frozen_of_row _ _ _ _ _ h1, (heap_setCell_same _ _ _ _ _ _ h1).trans rfl⟩
 · rw [cell_of_row _ _ _ _ _ _ h]; rfl
 · rw [cell_of_row _ _ _ _ _ _ h1]; rfl
structure Cde (w w' : World) (G1 G2 n : Nat) (W : Nat → Nat) (x : List Nat) : Prop where
 bel : Below w.heap.size w w'
 l1 : w.heap.size ≤ G1
 l2 : w.heap.size ≤ G2
 r1 : w'.heap[G1]? = some (.cells (ki n (fun t => (W t : Nat))) 3 (0, 0))
 r2 : w'.heap[G2]? = some (.cells (nv x).toArray 3 (0, 0))
 len : x.length = n
theorem Cde.later {w w' wx : World} {G1 G2 n : Nat} {W : Nat → Nat} {x : List Nat} (h : Cde w w' G1 G2 n W x) (hb : Below w'.heap.size w' wx) : Cde w wx G1 G2 n W x :=
 ⟨h.bel.trans (hb.mono h.bel.size), h.l1, h.l2, (hb.block _ (Inf.lt_some h.r1)).trans h.r1, (hb.block _ (Inf.lt_some h.r2)).trans h.r2, h.len⟩

set_option maxRecDepth 100000 in
set_option maxHeartbeats 4000000 in
theorem best_any (F : Nat → Int) (n K : Nat) (a : Option Addr) (cap : Nat) (w : World) (hI : Irow w a n cap F) (hask : Hul.Asked F n (K : Int)) (hn8 : n ≤ 288) :
   Calls Tryz.prog 49 #[.slice a n cap, .int .i64 (K : Int)] w fun e w' => ∃ G1 G2 len, Hul.Made F n (K : Int) len ∧ Cde w w' G1 G2 n (Inf.wd (lrow n len)) (lrow n len) ∧ e = .returned (.agg #[.slice (some ⟨G1, 0, none⟩) n n, .slice (some ⟨G2, 0, none⟩) n n]) := by
 obtain ⟨wa, hwa⟩ : ∃ wa, wa = w.alloc (.cells #[.slice none 0 0, .slice none 0 0] 106) := ⟨_, rfl⟩
 have hba : Below w.heap.size w wa := by rw [hwa]; exact (Below.refl _ _).alloc (Nat.le_refl _) _
 have HBA := Lib.hid hba
 have HBX : Hid (wa.heap[w.heap.size]? = some (.cells #[.slice none 0 0, .slice none 0 0] 106 (0, 0))) := by rw [hwa]; exact heap_alloc_new _ _
 have HL := Lib.hid (lengths_any a n cap F (K : Int) wa (hI.1.later hba) (by omega))
 have HASK := Lib.hid hask
 have HN8 := Lib.hid hn8
 clear hI hask hba hn8
 go_enter Tryz.func49, Tryz.ntmps49
 go_wp2_with fail
 rw [← hwa]
 clear hwa
 refine HL.out.mono ?_
 rintro e w1 ⟨h1, ⟨-, G2, len, h2, rfl, h3, h4⟩ | ⟨h2, -⟩⟩
 case inr => exact absurd HASK.out h2
 have hlt := Inf.lt_some HBX.out
 rw [lrow_ki] at h3
 have hg := h4.good HASK.out
 have HB1 : Hid (Below w.heap.size w w1) := HBA.out.trans (h1.mono HBA.out.size)
 have HBX1 : Hid (w1.heap[w.heap.size]? = some (.cells #[.slice none 0 0, .slice none 0 0] 106 (0, 0))) := (h1.block _ hlt).trans HBX.out
 have HM := Lib.hid h4
 have HR2 := Lib.hid h3
 have HLO : Hid (w.heap.size ≤ G2) := Nat.le_trans HBA.out.size h2
 have HC := Lib.hid (codeOf_any (lrow n len) (lrow_mk hg.makes) (some ⟨G2, 0, none⟩) n n w1 (lrow_length _ _).symm (Irow.ofNv h3 (lrow_length _ _)))
 clear h1 h2 h3 h4 HL HBA HBX hlt hg
 go_wp2_with fail
 refine HC.out.mono ?_
 rintro e w2 ⟨h1, G1, h2, h3, rfl⟩
 have HBX2 : Hid (w2.heap[w.heap.size]? = some (.cells #[.slice none 0 0, .slice none 0 0] 106 (0, 0))) := (h1.block _ (Inf.lt_some HBX1.out)).trans HBX1.out
 obtain ⟨s0, s1, s2, s3, s4⟩ := code_set HBX2.out (.slice (some ⟨G1, 0, none⟩) n n) (.slice (some ⟨G2, 0, none⟩) n n)
 have HS4 := Lib.hid s4
 have HFIN : Hid (Cde w ((w2.setCell ⟨w.heap.size, 0, none⟩ (.slice (some ⟨G1, 0, none⟩) n n)).setCell ⟨w.heap.size, 1, none⟩ (.slice (some ⟨G2, 0, none⟩) n n)) G1 G2 n (Inf.wd (lrow n len)) (lrow n len)) := by
   have hr2 : w2.heap[G2]? = _ := (h1.block _ (Inf.lt_some HR2.out)).trans HR2.out
   refine ⟨((HB1.out.trans (h1.mono HB1.out.size)).setCell (Nat.le_refl _) _).setCell (Nat.le_refl _) _, Nat.le_trans HB1.out.size h2, HLO.out, ?_, ?_, lrow_length _ _⟩
   · exact (heap_setCell_other _ _ _ _ (Inf.ne_ty h3 HBX2.out (by decide))).trans ((heap_setCell_other _ _ _ _ (Inf.ne_ty h3 HBX2.out (by decide))).trans h3)
   · exact (heap_setCell_other _ _ _ _ (Inf.ne_ty hr2 HBX2.out (by decide))).trans ((heap_setCell_other _ _ _ _ (Inf.ne_ty hr2 HBX2.out (by decide))).trans hr2)
 clear h1 h2 h3 s4 HC HB1 HBX1 HR2 HLO HBX2
 go_wp2_with fail
 refine bodyPost_ret (code_ret4 rfl HS4.out rfl) rfl ?_
 exact ⟨G1, G2, len, HM.out, HFIN.out, rfl⟩
end Go.Proofs.YtenkkononchgmaaGreatDoor
