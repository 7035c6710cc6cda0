/- Laid together: DfTab DfKit. -/
import Derived.Test.YtenkkononchgmaaGreatDoorDkB06
import Derived.Deep.RegionWith
import Derived.Test.YtenkkononchgmaaGreatDoorCards
import Derived.Test.YtenkkononchgmaaGreatDoorTie
import Derived.Lib.LaidTab
import Derived.Stop.LaidErr

namespace Go.Proofs.YtenkkononchgmaaGreatDoor
open Go.RowKit Go

structure DTabs (w : World) : Prop where
 size : 9 + 1 ≤ w.heap.size
 lb : ∀ j, j < 29 → w.cell? ⟨0, j, none⟩ = some (.int .i64 (Inf.lbs.getD j 0 : Nat))
 lx : ∀ j, j < 29 → w.cell? ⟨1, j, none⟩ = some (.int .i64 (Inf.lxs.getD j 0 : Nat))
 od : ∀ j, j < 19 → w.cell? ⟨4, j, none⟩ = some (.int .i64 (Inf.order.getD j 0 : Nat))
 db : ∀ j, j < 30 → w.cell? ⟨2, j, none⟩ = some (.int .i64 (Inf.dbs.getD j 0 : Nat))
 dx : ∀ j, j < 30 → w.cell? ⟨3, j, none⟩ = some (.int .i64 (Inf.dxs.getD j 0 : Nat))
theorem DTabs.later {w w' : World} {B : Nat} (h : DTabs w) (hb : Below B w w') (hB : w.heap.size ≤ B) : DTabs w' := by
 have c : ∀ k j : Nat, k < 9 + 1 → w'.cell? ⟨k, j, none⟩ = w.cell? ⟨k, j, none⟩ := fun k j hk => World.cell?_of_block (hb.block k (by have := h.size; omega))
 exact ⟨Nat.le_trans h.size hb.size, fun j hj => (c _ _ (by decide)).trans (h.lb j hj), fun j hj => (c _ _ (by decide)).trans (h.lx j hj), fun j hj => (c _ _ (by decide)).trans (h.od j hj), fun j hj => (c _ _ (by decide)).trans (h.db j hj), fun j hj => (c _ _ (by decide)).trans (h.dx j hj)⟩

theorem Drawn.tr {a b c : World} (h : Drawn a b) (h' : Drawn b c) : Drawn a c := by
 obtain ⟨m, rfl⟩ := h'
 exact h.drewN m
def Inf.Spl (T : List Nat) (x i : Nat) : Prop := i ≤ T.length ∧ (∀ k, k < i → T.getD k 0 ≤ x) ∧ ∀ k, i ≤ k → k < T.length → x < T.getD k 0
def Inf.Up (T : List Nat) : Prop := ∀ k m, k ≤ m → m < T.length → T.getD k 0 ≤ T.getD m 0
theorem Inf.up_lbs : Inf.Up Inf.lbs := by
 have : ∀ m, m < 29 → ∀ k, k < 29 → k ≤ m → Inf.lbs.getD k 0 ≤ Inf.lbs.getD m 0 := by decide
 exact fun k m h1 h2 => this m h2 k (Nat.lt_of_le_of_lt h1 h2) h1
theorem Inf.up_dbs : Inf.Up Inf.dbs := by
 have : ∀ m, m < 30 → ∀ k, k < 30 → k ≤ m → Inf.dbs.getD k 0 ≤ Inf.dbs.getD m 0 := by decide
 exact fun k m h1 h2 => this m h2 k (Nat.lt_of_le_of_lt h1 h2) h1

theorem len1_any (x h B : Nat) (w : World) (hT : DTabs w) (hh : h < 29) (hx : w.cell? ⟨B, 0, none⟩ = some (.int .i64 (x : Int))) :
   Calls Tryz.prog 87 #[.int .i64 (h : Int), .pointer (some ⟨B, 0, none⟩)] w fun e w' => e = .returned (.bool (decide (x < Inf.lbs.getD h 0))) ∧ Drawn w w' := by
 have c1 := hT.lb h hh
 have e1 : decide ((x : Int) < (Inf.lbs.getD h 0 : Nat)) = decide (x < Inf.lbs.getD h 0) := by simp
 generalize Inf.lbs.getD h 0 = y at *
 clear hT
 go_enter Tryz.func87, Tryz.ntmps87
 go_wp2_with fail
 go_quiet (fail)
 go_wp2
 go_ret
 exact ⟨rfl, ⟨nq, rfl⟩⟩
theorem dis1_any (x h B : Nat) (w : World) (hT : DTabs w) (hh : h < 30) (hx : w.cell? ⟨B, 0, none⟩ = some (.int .i64 (x : Int))) :
   Calls Tryz.prog 88 #[.int .i64 (h : Int), .pointer (some ⟨B, 0, none⟩)] w fun e w' => e = .returned (.bool (decide (x < Inf.dbs.getD h 0))) ∧ Drawn w w' := by
 have c1 := hT.db h hh
 have e1 : decide ((x : Int) < (Inf.dbs.getD h 0 : Nat)) = decide (x < Inf.dbs.getD h 0) := by simp
 generalize Inf.dbs.getD h 0 = y at *
 clear hT
 go_enter Tryz.func88, Tryz.ntmps88
 go_wp2_with fail
 go_quiet (fail)
 go_wp2
 go_ret
 exact ⟨rfl, ⟨nq, rfl⟩⟩

set_option maxRecDepth 100000 in
set_option maxHeartbeats 1000000 in
theorem searchL_any (x B : Nat) (w : World) (hT : DTabs w) (hx : w.cell? ⟨B, 0, none⟩ = some (.int .i64 (x : Int))) :
   Calls Tryz.prog 86 #[.int .i64 29, .func (.func 87) #[] #[.pointer (some ⟨B, 0, none⟩)]] w fun e w' => ∃ i : Nat, e = .returned (.int .i64 (i : Int)) ∧ Inf.Spl Inf.lbs x i ∧ Drawn w w' := by
 have HT := Lib.hid hT
 have HX := Lib.hid hx
 clear hT hx
 go_enter Tryz.func86, Tryz.ntmps86
 go_wp2_with fail
 go_loopw [5, 6, 7] (fun v5 v6 _ wr => ∃ i j : Nat, i ≤ j ∧ j ≤ 29 ∧ v5 = .int .i64 (i : Int) ∧ v6 = .int .i64 (j : Int) ∧ (∀ k, k < i → Inf.lbs.getD k 0 ≤ x) ∧ (∀ k, j ≤ k → k < 29 → x < Inf.lbs.getD k 0) ∧ Drawn w wr) (fun v5 v6 _ _ => (intOf v6 - intOf v5).toNat)
 case atStart => exact ⟨0, 29, by omega, by omega, rfl, rfl, fun k hk => absurd hk (by omega), fun k h1 h2 => absurd h1 (by omega), Drawn.refl w⟩
 case round =>
   obtain ⟨i, j, hij, hj, rfl, rfl, hlo, hhi, hd⟩ := hrel
   have HLO := Lib.hid hlo
   have HHI := Lib.hid hhi
   have HD := Lib.hid hd
   by_cases hlt : i < j
   · obtain ⟨h, hh⟩ : ∃ h, h = (i + j) / 2 := ⟨_, rfl⟩
     have d1 : decide ((i : Int) < (j : Int)) = true := decide_eq_true (by omega)
     have d2 : decide (i < j) = true := decide_eq_true hlt
     have hz : wrap64 (IntKind.u64.wrap ((i : Int) + (j : Int)) / 2) = (h : Int) := by
       rw [show IntKind.u64.wrap ((i : Int) + (j : Int)) = (i : Int) + (j : Int) by rw [IntKind.wrap_u64]; omega, show ((i : Int) + (j : Int)) / 2 = (h : Int) by omega]
       exact IntWalk.wrap64_in (h : Int) (by omega)
     have hs : wrap64 ((i : Int) + (j : Int)) = (i : Int) + (j : Int) := IntWalk.wrap64_in _ (by omega)
     have hh29 : (h : Int) ≤ 29 := by omega
     have HH : Hid (i ≤ h ∧ h < j ∧ j ≤ 29) := ⟨by omega, by omega, hj⟩
     have HC := Lib.hid (len1_any x h B wr (HT.out.later (hd.below _) (Nat.le_refl _)) (by omega) ((hd.cell _).trans HX.out))
     obtain ⟨y, hy⟩ : ∃ y, y = Inf.lbs.getD h 0 := ⟨_, rfl⟩
     rw [← hy] at HC
     have HY := Lib.hid hy
     clear hij hj hlo hhi hd hlt hh hy
     go_wp2_with fail
     refine HC.out.mono ?_
     rintro e w5 ⟨rfl, hd5⟩
     have HD5 := Lib.hid (Drawn.tr HD.out hd5)
     clear hd5 HC HD
     by_cases hc : x < y
     · have d3 : decide (x < y) = true := decide_eq_true hc
       have HX3 := Lib.hid hc
       clear hc
       go_wp2_with fail
       have e1 := HH.out
       have e2 := HX3.out
       rw [HY.out] at e2
       refine ⟨⟨i, h, e1.1, by omega, rfl, rfl, HLO.out, fun k h1 h2 => Nat.lt_of_lt_of_le e2 (Inf.up_lbs h k h1 h2), HD5.out⟩, ?_⟩
       simp only [intOf]
       omega
     · have d3 : decide (x < y) = false := decide_eq_false hc
       have HX3 := Lib.hid hc
       clear hc
       go_wp2_with fail
       have e1 := HH.out
       have e2 := HX3.out
       rw [HY.out] at e2
       refine ⟨⟨h + 1, j, by omega, e1.2.2, by rw [show ((h + 1 : Nat) : Int) = (h : Int) + 1 by omega], rfl, fun k hk => Nat.le_trans (Inf.up_lbs k h (by omega) (Nat.lt_of_lt_of_le e1.2.1 e1.2.2)) (by omega), HHI.out, HD5.out⟩, ?_⟩
       simp only [intOf]
       omega
   · have d1 : decide ((i : Int) < (j : Int)) = false := decide_eq_false (by omega)
     have d2 : decide (i < j) = false := decide_eq_false hlt
     have e : i = j := by omega
     subst e
     clear hlo hhi hd hij hlt
     go_wp2_with fail
     go_ret
     exact ⟨i, rfl, ⟨hj, HLO.out, HHI.out⟩, HD.out⟩

set_option maxRecDepth 100000 in
set_option maxHeartbeats 1000000 in
theorem searchD_any (x B : Nat) (w : World) (hT : DTabs w) (hx : w.cell? ⟨B, 0, none⟩ = some (.int .i64 (x : Int))) :
   Calls Tryz.prog 86 #[.int .i64 30, .func (.func 88) #[] #[.pointer (some ⟨B, 0, none⟩)]] w fun e w' => ∃ i : Nat, e = .returned (.int .i64 (i : Int)) ∧ Inf.Spl Inf.dbs x i ∧ Drawn w w' := by
 have HT := Lib.hid hT
 have HX := Lib.hid hx
 clear hT hx
 go_enter Tryz.func86, Tryz.ntmps86
 go_wp2_with fail
 go_loopw [5, 6, 7] (fun v5 v6 _ wr => ∃ i j : Nat, i ≤ j ∧ j ≤ 30 ∧ v5 = .int .i64 (i : Int) ∧ v6 = .int .i64 (j : Int) ∧ (∀ k, k < i → Inf.dbs.getD k 0 ≤ x) ∧ (∀ k, j ≤ k → k < 30 → x < Inf.dbs.getD k 0) ∧ Drawn w wr) (fun v5 v6 _ _ => (intOf v6 - intOf v5).toNat)
 case atStart => exact ⟨0, 30, by omega, by omega, rfl, rfl, fun k hk => absurd hk (by omega), fun k h1 h2 => absurd h1 (by omega), Drawn.refl w⟩
 case round =>
   obtain ⟨i, j, hij, hj, rfl, rfl, hlo, hhi, hd⟩ := hrel
   have HLO := Lib.hid hlo
   have HHI := Lib.hid hhi
   have HD := Lib.hid hd
   by_cases hlt : i < j
   · obtain ⟨h, hh⟩ : ∃ h, h = (i + j) / 2 := ⟨_, rfl⟩
     have d1 : decide ((i : Int) < (j : Int)) = true := decide_eq_true (by omega)
     have d2 : decide (i < j) = true := decide_eq_true hlt
     have hz : wrap64 (IntKind.u64.wrap ((i : Int) + (j : Int)) / 2) = (h : Int) := by
       rw [show IntKind.u64.wrap ((i : Int) + (j : Int)) = (i : Int) + (j : Int) by rw [IntKind.wrap_u64]; omega, show ((i : Int) + (j : Int)) / 2 = (h : Int) by omega]
       exact IntWalk.wrap64_in (h : Int) (by omega)
     have hs : wrap64 ((i : Int) + (j : Int)) = (i : Int) + (j : Int) := IntWalk.wrap64_in _ (by omega)
     have hh30 : (h : Int) ≤ 30 := by omega
     have HH : Hid (i ≤ h ∧ h < j ∧ j ≤ 30) := ⟨by omega, by omega, hj⟩
     have HC := Lib.hid (dis1_any x h B wr (HT.out.later (hd.below _) (Nat.le_refl _)) (by omega) ((hd.cell _).trans HX.out))
     obtain ⟨y, hy⟩ : ∃ y, y = Inf.dbs.getD h 0 := ⟨_, rfl⟩
     rw [← hy] at HC
     have HY := Lib.hid hy
     clear hij hj hlo hhi hd hlt hh hy
     go_wp2_with fail
     refine HC.out.mono ?_
     rintro e w5 ⟨rfl, hd5⟩
     have HD5 := Lib.hid (Drawn.tr HD.out hd5)
     clear hd5 HC HD
     by_cases hc : x < y
     · have d3 : decide (x < y) = true := decide_eq_true hc
       have HX3 := Lib.hid hc
       clear hc
       go_wp2_with fail
       have e1 := HH.out
       have e2 := HX3.out
       rw [HY.out] at e2
       refine ⟨⟨i, h, e1.1, by omega, rfl, rfl, HLO.out, fun k h1 h2 => Nat.lt_of_lt_of_le e2 (Inf.up_dbs h k h1 h2), HD5.out⟩, ?_⟩
       simp only [intOf]
       omega
     · have d3 : decide (x < y) = false := decide_eq_false hc
       have HX3 := Lib.hid hc
       clear hc
       go_wp2_with fail
       have e1 := HH.out
       have e2 := HX3.out
       rw [HY.out] at e2
       refine ⟨⟨h + 1, j, by omega, e1.2.2, by rw [show ((h + 1 : Nat) : Int) = (h : Int) + 1 by omega], rfl, fun k hk => Nat.le_trans (Inf.up_dbs k h (by omega) (Nat.lt_of_lt_of_le e1.2.1 e1.2.2)) (by omega), HHI.out, HD5.out⟩, ?_⟩
       simp only [intOf]
       omega
   · have d1 : decide ((i : Int) < (j : Int)) = false := decide_eq_false (by omega)
     have d2 : decide (i < j) = false := decide_eq_false hlt
     have e : i = j := by omega
     subst e
     clear hlo hhi hd hij hlt
     go_wp2_with fail
     go_ret
     exact ⟨i, rfl, ⟨hj, HLO.out, HHI.out⟩, HD.out⟩
end Go.Proofs.YtenkkononchgmaaGreatDoor

namespace Go.Proofs.YtenkkononchgmaaGreatDoor
open Go.ChangeShapes Go.WideShapes Go.ChangeAt Go.RowKit Go

def Inf.ti (l : List Nat) : List Int := l.map fun x : Nat => (x : Int)
theorem Inf.ti_get (l : List Nat) (j : Nat) : (Inf.ti l).getD j 0 = ((l.getD j 0 : Nat) : Int) := by
 simp only [Inf.ti, List.getD_eq_getElem?_getD, List.getElem?_map]
 cases l[j]? <;> rfl
theorem Inf.ti_len (l : List Nat) : (Inf.ti l).length = l.length := by simp [Inf.ti]
def Inf.laid : List (String × DataW Unit) := [("peatbank/inflate.lengthBases", Rows.laid_peatbank_inflate_lengthBases), ("peatbank/inflate.lengthBits", Rows.laid_peatbank_inflate_lengthBits), ("peatbank/inflate.distanceBases", Rows.laid_peatbank_inflate_distanceBases), ("peatbank/inflate.distanceBits", Rows.laid_peatbank_inflate_distanceBits), ("peatbank/inflate.lengthOrder", Rows.laid_peatbank_inflate_lengthOrder), ("peatbank/deflate.lengthBases", Rows.laid_peatbank_deflate_lengthBases), ("peatbank/deflate.lengthBits", Rows.laid_peatbank_deflate_lengthBits), ("peatbank/deflate.distanceBases", Rows.laid_peatbank_deflate_distanceBases), ("peatbank/deflate.distanceBits", Rows.laid_peatbank_deflate_distanceBits), ("peatbank/deflate.lengthOrder", Rows.laid_peatbank_deflate_lengthOrder)]
theorem gDLb : Tryz.prog.globalNamed "peatbank/deflate.lengthBases" = some 0 := by kernel_rfl
theorem gDLx : Tryz.prog.globalNamed "peatbank/deflate.lengthBits" = some 1 := by kernel_rfl
theorem gDOd : Tryz.prog.globalNamed "peatbank/deflate.lengthOrder" = some 4 := by kernel_rfl
theorem gDDb : Tryz.prog.globalNamed "peatbank/deflate.distanceBases" = some 2 := by kernel_rfl
theorem gDDx : Tryz.prog.globalNamed "peatbank/deflate.distanceBits" = some 3 := by kernel_rfl
theorem gILb : Tryz.prog.globalNamed "peatbank/inflate.lengthBases" = some 5 := by kernel_rfl
theorem gILx : Tryz.prog.globalNamed "peatbank/inflate.lengthBits" = some 6 := by kernel_rfl
theorem gIOd : Tryz.prog.globalNamed "peatbank/inflate.lengthOrder" = some 7 := by kernel_rfl
theorem gIDb : Tryz.prog.globalNamed "peatbank/inflate.distanceBases" = some 8 := by kernel_rfl
theorem gIDx : Tryz.prog.globalNamed "peatbank/inflate.distanceBits" = some 9 := by kernel_rfl
theorem tabs_at {W : World} (h : laidMet Tryz.prog Inf.laid W) : Tabs W := by
 have hh0 := h
 have tLb : Lib.TabIs Tryz.prog W "peatbank/inflate.lengthBases" .i64 (Inf.ti Inf.lbs) := Lib.tabIs_of_head (t := 151) (e := 3) (n := 29) gILb (by kernel_rfl) (by kernel_rfl) (by kernel_rfl) (by kernel_rfl) (by kernel_rfl) hh0
 have hh1 := hh0.tail
 have tLx : Lib.TabIs Tryz.prog W "peatbank/inflate.lengthBits" .i64 (Inf.ti Inf.lxs) := Lib.tabIs_of_head (t := 151) (e := 3) (n := 29) gILx (by kernel_rfl) (by kernel_rfl) (by kernel_rfl) (by kernel_rfl) (by kernel_rfl) hh1
 have hh2 := hh1.tail
 have tDb : Lib.TabIs Tryz.prog W "peatbank/inflate.distanceBases" .i64 (Inf.ti Inf.dbs) := Lib.tabIs_of_head (t := 153) (e := 3) (n := 30) gIDb (by kernel_rfl) (by kernel_rfl) (by kernel_rfl) (by kernel_rfl) (by kernel_rfl) hh2
 have hh3 := hh2.tail
 have tDx : Lib.TabIs Tryz.prog W "peatbank/inflate.distanceBits" .i64 (Inf.ti Inf.dxs) := Lib.tabIs_of_head (t := 153) (e := 3) (n := 30) gIDx (by kernel_rfl) (by kernel_rfl) (by kernel_rfl) (by kernel_rfl) (by kernel_rfl) hh3
 have hh4 := hh3.tail
 have tOd : Lib.TabIs Tryz.prog W "peatbank/inflate.lengthOrder" .i64 (Inf.ti Inf.order) := Lib.tabIs_of_head (t := 166) (e := 3) (n := 19) gIOd (by kernel_rfl) (by kernel_rfl) (by kernel_rfl) (by kernel_rfl) (by kernel_rfl) hh4
 have cLb : ∀ j, j < 29 → W.cell? ⟨5, j, none⟩ = some (.int .i64 (Inf.lbs.getD j 0 : Nat)) := fun j hj => by have := tLb.cell gILb j (by rw [Inf.ti_len]; exact hj); rw [Inf.ti_get] at this; exact this
 have cLx : ∀ j, j < 29 → W.cell? ⟨6, j, none⟩ = some (.int .i64 (Inf.lxs.getD j 0 : Nat)) := fun j hj => by have := tLx.cell gILx j (by rw [Inf.ti_len]; exact hj); rw [Inf.ti_get] at this; exact this
 have cDb : ∀ j, j < 30 → W.cell? ⟨8, j, none⟩ = some (.int .i64 (Inf.dbs.getD j 0 : Nat)) := fun j hj => by have := tDb.cell gIDb j (by rw [Inf.ti_len]; exact hj); rw [Inf.ti_get] at this; exact this
 have cDx : ∀ j, j < 30 → W.cell? ⟨9, j, none⟩ = some (.int .i64 (Inf.dxs.getD j 0 : Nat)) := fun j hj => by have := tDx.cell gIDx j (by rw [Inf.ti_len]; exact hj); rw [Inf.ti_get] at this; exact this
 have cOd : ∀ j, j < 19 → W.cell? ⟨7, j, none⟩ = some (.int .i64 (Inf.order.getD j 0 : Nat)) := fun j hj => by have := tOd.cell gIOd j (by rw [Inf.ti_len]; exact hj); rw [Inf.ti_get] at this; exact this
 refine ⟨?_, cLb, cLx, cOd, cDb, cDx⟩
 have := World.block_lt_of_cell? W _ (cDx 0 (by omega))
 have e : (⟨9, 0, none⟩ : Addr).block = 9 := rfl
 rw [e] at this
 omega
theorem dtabs_at {W : World} (h : laidMet Tryz.prog Inf.laid W) : DTabs W := by
 have hh0 := h
 have hh1 := hh0.tail
 have hh2 := hh1.tail
 have hh3 := hh2.tail
 have hh4 := hh3.tail
 have hh5 := hh4.tail
 have tLb : Lib.TabIs Tryz.prog W "peatbank/deflate.lengthBases" .i64 (Inf.ti Inf.lbs) := Lib.tabIs_of_head (t := 151) (e := 3) (n := 29) gDLb (by kernel_rfl) (by kernel_rfl) (by kernel_rfl) (by kernel_rfl) (by kernel_rfl) hh5
 have hh6 := hh5.tail
 have tLx : Lib.TabIs Tryz.prog W "peatbank/deflate.lengthBits" .i64 (Inf.ti Inf.lxs) := Lib.tabIs_of_head (t := 151) (e := 3) (n := 29) gDLx (by kernel_rfl) (by kernel_rfl) (by kernel_rfl) (by kernel_rfl) (by kernel_rfl) hh6
 have hh7 := hh6.tail
 have tDb : Lib.TabIs Tryz.prog W "peatbank/deflate.distanceBases" .i64 (Inf.ti Inf.dbs) := Lib.tabIs_of_head (t := 153) (e := 3) (n := 30) gDDb (by kernel_rfl) (by kernel_rfl) (by kernel_rfl) (by kernel_rfl) (by kernel_rfl) hh7
 have hh8 := hh7.tail
 have tDx : Lib.TabIs Tryz.prog W "peatbank/deflate.distanceBits" .i64 (Inf.ti Inf.dxs) := Lib.tabIs_of_head (t := 153) (e := 3) (n := 30) gDDx (by kernel_rfl) (by kernel_rfl) (by kernel_rfl) (by kernel_rfl) (by kernel_rfl) hh8
 have hh9 := hh8.tail
 have tOd : Lib.TabIs Tryz.prog W "peatbank/deflate.lengthOrder" .i64 (Inf.ti Inf.order) := Lib.tabIs_of_head (t := 166) (e := 3) (n := 19) gDOd (by kernel_rfl) (by kernel_rfl) (by kernel_rfl) (by kernel_rfl) (by kernel_rfl) hh9
 have cLb : ∀ j, j < 29 → W.cell? ⟨0, j, none⟩ = some (.int .i64 (Inf.lbs.getD j 0 : Nat)) := fun j hj => by have := tLb.cell gDLb j (by rw [Inf.ti_len]; exact hj); rw [Inf.ti_get] at this; exact this
 have cLx : ∀ j, j < 29 → W.cell? ⟨1, j, none⟩ = some (.int .i64 (Inf.lxs.getD j 0 : Nat)) := fun j hj => by have := tLx.cell gDLx j (by rw [Inf.ti_len]; exact hj); rw [Inf.ti_get] at this; exact this
 have cDb : ∀ j, j < 30 → W.cell? ⟨2, j, none⟩ = some (.int .i64 (Inf.dbs.getD j 0 : Nat)) := fun j hj => by have := tDb.cell gDDb j (by rw [Inf.ti_len]; exact hj); rw [Inf.ti_get] at this; exact this
 have cDx : ∀ j, j < 30 → W.cell? ⟨3, j, none⟩ = some (.int .i64 (Inf.dxs.getD j 0 : Nat)) := fun j hj => by have := tDx.cell gDDx j (by rw [Inf.ti_len]; exact hj); rw [Inf.ti_get] at this; exact this
 have cOd : ∀ j, j < 19 → W.cell? ⟨4, j, none⟩ = some (.int .i64 (Inf.order.getD j 0 : Nat)) := fun j hj => by have := tOd.cell gDOd j (by rw [Inf.ti_len]; exact hj); rw [Inf.ti_get] at this; exact this
 exact ⟨(tabs_at h).size, cLb, cLx, cOd, cDb, cDx⟩
theorem both_at {W : World} (h : laidMet Tryz.prog Inf.laid W) : Tabs W ∧ DTabs W := ⟨tabs_at h, dtabs_at h⟩
noncomputable def laidWorld (os : Os) : World :=
 let f (l : List Nat) : Obj → Obj := fun
   | .cells _ t frozen => .cells (l.map fun x : Nat => Value.int .i64 (x : Int)).toArray t frozen
   | o => o
 let i1 := ((((((World.holding Tryz.prog os ⟨#[], #[], []⟩).heap.modify 5 (f Inf.lbs)).modify 6 (f Inf.lxs)).modify 7 (f Inf.order)).modify 8 (f Inf.dbs)).modify 9 (f Inf.dxs))
 { World.holding Tryz.prog os ⟨#[], #[], []⟩ with heap := (((((i1.modify 0 (f Inf.lbs)).modify 1 (f Inf.lxs)).modify 4 (f Inf.order)).modify 2 (f Inf.dbs)).modify 3 (f Inf.dxs)) }
end Go.Proofs.YtenkkononchgmaaGreatDoor
