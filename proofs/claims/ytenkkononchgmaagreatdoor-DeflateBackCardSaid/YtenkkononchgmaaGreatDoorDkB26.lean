/- Laid together: DfTell DfBegin. -/
import Derived.Test.YtenkkononchgmaaGreatDoorDkB25

namespace Go.Proofs.YtenkkononchgmaaGreatDoor
open Go.RowKit Go

set_option maxRecDepth 100000 in
set_option maxHeartbeats 4000000 in
theorem tell_any (S : List Inf.Sm) (W D : Nat → Nat) (aS : Option Addr) (ns cs : Nat) (a1 : Option Addr) (m1 c1 : Nat) (a2 : Option Addr) (m2 c2 : Nat) (w0 w wa : World) (g n V : Nat) (h : Iw w0 w wa g n V) (hns : ns = S.length) (hn6 : ns ≤ 1000000) (hn : n ≤ 900000000)
   (hS : Smr wa aS ns cs S) (hW : Irow wa a1 m1 c1 (fun t => (W t : Nat))) (hD : Irow wa a2 m2 c2 (fun t => (D t : Nat))) (hok : ∀ s ∈ S, s.p < m1 ∧ s.p < m2 ∧ W s.p < 2 ^ D s.p ∧ D s.p ≤ 15 ∧ s.x < 2 ^ s.k ∧ s.k ≤ 13) :
   Calls Tryz.prog 45 #[sv g, .slice aS ns cs, .agg #[.slice a1 m1 c1, .slice a2 m2 c2]] wa fun e w' => e = .returned (.tuple #[]) ∧ Iw w0 w w' g (Inf.putn (Inf.tel W D S) n) (Inf.putv (Inf.tel W D S) n V) ∧ Kp g wa w' := by
 obtain ⟨w1, hw1⟩ : ∃ w1, w1 = (wa.alloc (.cells #[.pointer (some ⟨g, 0, none⟩)] 50)).alloc (.cells #[.slice a1 m1 c1, .slice a2 m2 c2] 106) := ⟨_, rfl⟩
 have hb1 : Below wa.heap.size wa w1 := by rw [hw1]; exact ((Below.refl _ _).alloc (Nat.le_refl _) _).alloc (by simp) _
 obtain ⟨c, hc⟩ := (h.later hb1).row
 have hgl : g < wa.heap.size := by obtain ⟨c, hc⟩ := h.row; exact Inf.lt_some hc
 have hA : w1.heap[wa.heap.size]? = some (.cells #[.pointer (some ⟨g, 0, none⟩)] 50 (0, 0)) := by
   rw [hw1]; exact (heap_alloc_old _ _ (by simp)).trans (heap_alloc_new _ _)
 have hB : w1.heap[wa.heap.size + 1]? = some (.cells #[.slice a1 m1 c1, .slice a2 m2 c2] 106 (0, 0)) := by
   rw [hw1]
   have := heap_alloc_new (wa.alloc (.cells #[.pointer (some ⟨g, 0, none⟩)] 50)) (.cells #[.slice a1 m1 c1, .slice a2 m2 c2] 106)
   simpa using this
 have HS1 := Lib.hid (hS.later hb1)
 have HW1 := Lib.hid (hW.later hb1)
 have HD1 := Lib.hid (hD.later hb1)
 have HI1 := Lib.hid (h.later hb1)
 have HK1 : Hid (Kp g wa w1) := Kp.below hb1
 have HBOX : Hid (∀ wx, Kp g w1 wx → wx.cell? ⟨wa.heap.size, 0, none⟩ = some (.pointer (some ⟨g, 0, none⟩)) ∧ wx.cell? ⟨wa.heap.size + 1, 0, none⟩ = some (.slice a1 m1 c1) ∧ wx.cell? ⟨wa.heap.size + 1, 1, none⟩ = some (.slice a2 m2 c2)) := fun wx hk =>
   ⟨(cell_of_row _ _ _ _ _ _ (hk.cells hA (by omega) (by decide))).trans rfl, (cell_of_row _ _ _ _ _ _ (hk.cells hB (by omega) (by decide))).trans rfl, (cell_of_row _ _ _ _ _ _ (hk.cells hB (by omega) (by decide))).trans rfl⟩
 have HROW : Hid (∀ wx, Kp g w1 wx → Smr wx aS ns cs S ∧ Irow wx a1 m1 c1 (fun t => (W t : Nat)) ∧ Irow wx a2 m2 c2 (fun t => (D t : Nat))) := fun wx hk => ⟨HS1.out.kp hk hc, HW1.out.kp hk hc, HD1.out.kp hk hc⟩
 have HOK := Lib.hid hok
 have HNS := Lib.hid hns
 have HN := Lib.hid hn
 have HGL := Lib.hid (Nat.lt_of_lt_of_le hgl hb1.size)
 have hnI : (ns : Int) ≤ 1000000 := by omega
 have HTL : Hid (∀ (S' : List Inf.Sm), (∀ s ∈ S', s ∈ S) → S'.length ≤ 1000000 → Inf.putn (Inf.tel W D S') n ≤ 930000000) := fun S' hs hl => by
   have := Inf.putn_tel W D S' n (fun s hx => ⟨(hok s (hs s hx)).2.2.2.1, (hok s (hs s hx)).2.2.2.2.2⟩)
   omega
 clear h hns hn6 hn hS hW hD hok hb1 hc hgl hA hB HS1 HW1 HD1
 go_enter Tryz.func45, Tryz.ntmps45
 go_wp2_with fail
 rw [← hw1]
 clear hw1
 generalize wa.heap.size = A at *
 go_loopw [10] (fun v10 wr => ∃ i : Nat, i ≤ ns ∧ v10 = .int .i64 (i : Int) ∧ Iw w0 w wr g (Inf.putn (Inf.tel W D (S.take i)) n) (Inf.putv (Inf.tel W D (S.take i)) n V) ∧ Kp g w1 wr) (fun v10 _ => (ns - intOf v10).toNat)
 case atStart => exact ⟨0, by omega, rfl, HI1.out, Kp.refl _ _⟩
 case round =>
   clear HI1
   obtain ⟨i, hi, rfl, hs, hkp⟩ := hrel
   have HS := Lib.hid hs
   have HKP := Lib.hid hkp
   clear hs hkp
   by_cases hlt : i < ns
   · have d1 : decide (i < ns) = true := decide_eq_true hlt
     have d1' : decide ((i : Int) < (ns : Int)) = true := decide_eq_true (by omega)
     have HI : Hid (i < ns) := hlt
     have hiI : (i : Int) < (ns : Int) := by omega
     have hil : i < S.length := by rw [← HNS.out]; exact hlt
     obtain ⟨p, hp⟩ : ∃ p, S[i]? = some p := ⟨_, List.getElem?_eq_getElem hil⟩
     obtain ⟨k1, k2, k3, k4, k5, k6⟩ := HOK.out p (List.mem_of_getElem? hp)
     have HTK : Hid (S.take (i + 1) = S.take i ++ [p]) := by unfold Hid; rw [List.take_add_one, hp]; rfl
     have hrs := (HROW.out wr HKP.out).1
     obtain ⟨s, o, rfl, q1, q2, q3⟩ := hrs.at_ hp
     obtain ⟨px, pn, pk⟩ := p
     simp only at k1 k2 k3 k4 k5 k6 q1 q2 q3
     have HBN : Hid (Inf.putn (Inf.tel W D (S.take i)) n ≤ 930000000) := HTL.out _ (fun s hs => List.mem_of_mem_take hs) (by rw [List.length_take]; omega)
     have HB1 : Hid (Below wr.heap.size wr (wr.alloc (.cells #[.int .i64 (px : Nat), .int .i64 (pn : Nat), .int .i64 (pk : Nat)] 95))) := (Below.refl _ _).alloc (Nat.le_refl _) _
     have HNEW : Hid ((wr.alloc (.cells #[.int .i64 (px : Nat), .int .i64 (pn : Nat), .int .i64 (pk : Nat)] 95)).heap[wr.heap.size]? = some (.cells #[.int .i64 (px : Nat), .int .i64 (pn : Nat), .int .i64 (pk : Nat)] 95 (0, 0))) := heap_alloc_new _ _
     have HGW : Hid (g < wr.heap.size) := Nat.lt_of_lt_of_le HGL.out HKP.out.size
     clear hi hlt hil hp hrs
     go_wp2_with fail
     generalize wr.alloc (.cells #[.int .i64 (px : Nat), .int .i64 (pn : Nat), .int .i64 (pk : Nat)] 95) = wb at *
     have hkb : Kp g w1 wb := HKP.out.trans (Kp.below HB1.out)
     have HSB := Lib.hid (HS.out.later HB1.out)
     have HNE : Hid (wr.heap.size ≠ g) := by have := HGW.out; unfold Hid; omega
     generalize wr.heap.size = B at *
     obtain ⟨x1, x2, x3⟩ := HBOX.out wb hkb
     obtain ⟨-, r1, r2⟩ := HROW.out wb hkb
     obtain ⟨s1, o1, rfl, -, y1⟩ := r1.1.at_ k1
     obtain ⟨s2, o2, rfl, -, y2⟩ := r2.1.at_ k2
     have z1 : wb.cell? ⟨B, 0, none⟩ = some (.int .i64 (px : Nat)) := (cell_of_row _ _ _ _ _ _ HNEW.out).trans rfl
     have hp1 : (px : Int) < (m1 : Int) := by omega
     have hp2 : (px : Int) < (m2 : Int) := by omega
     have hp1' : decide ((px : Int) < (m1 : Int)) = true := decide_eq_true (by omega)
     obtain ⟨x, hx⟩ : ∃ x, x = W px := ⟨_, rfl⟩
     obtain ⟨d, hd⟩ : ∃ d, d = D px := ⟨_, rfl⟩
     rw [← hx] at y1 k3
     rw [← hd] at y2 k3 k4
     have p15 := Nat.pow_le_pow_right (n := 2) (by omega) k4
     have p13 := Nat.pow_le_pow_right (n := 2) (by omega) k6
     have e15 : (2 : Nat) ^ 15 = 32768 := rfl
     have e13 : (2 : Nat) ^ 13 = 8192 := rfl
     have HPUT1 : Hid (∀ wx, Iw w0 w wx g (Inf.putn (Inf.tel W D (S.take i)) n) (Inf.putv (Inf.tel W D (S.take i)) n V) → Calls Tryz.prog 42 #[sv g, .int .i64 (x : Int), .int .i64 (d : Int)] wx fun e w' => e = .returned (.tuple #[]) ∧ Iw w0 w w' g (Inf.putn (Inf.tel W D (S.take i)) n + d) (Inf.putv (Inf.tel W D (S.take i)) n V + x * 2 ^ (Inf.putn (Inf.tel W D (S.take i)) n)) ∧ Kp g wx w') :=
       fun wx hx => number_nat x d w0 w wx g _ _ hx k3 (by omega) (by omega) (by have := HBN.out; omega)
     have HPUT2 : Hid (∀ wx, Iw w0 w wx g (Inf.putn (Inf.tel W D (S.take i)) n + d) (Inf.putv (Inf.tel W D (S.take i)) n V + x * 2 ^ (Inf.putn (Inf.tel W D (S.take i)) n)) → Calls Tryz.prog 42 #[sv g, .int .i64 (pn : Int), .int .i64 (pk : Int)] wx fun e w' => e = .returned (.tuple #[]) ∧ Iw w0 w w' g (Inf.putn (Inf.tel W D (S.take i)) n + d + pk) (Inf.putv (Inf.tel W D (S.take i)) n V + x * 2 ^ (Inf.putn (Inf.tel W D (S.take i)) n) + pn * 2 ^ (Inf.putn (Inf.tel W D (S.take i)) n + d)) ∧ Kp g wx w') :=
       fun wx hx => number_nat pn pk w0 w wx g _ _ hx k5 (by omega) (by omega) (by have := HBN.out; omega)
     have HNX : Hid (Inf.putn (Inf.tel W D (S.take (i + 1))) n = Inf.putn (Inf.tel W D (S.take i)) n + d + pk ∧ Inf.putv (Inf.tel W D (S.take (i + 1))) n V = Inf.putv (Inf.tel W D (S.take i)) n V + x * 2 ^ (Inf.putn (Inf.tel W D (S.take i)) n) + pn * 2 ^ (Inf.putn (Inf.tel W D (S.take i)) n + d)) := by
       unfold Hid
       rw [HTK.out, Inf.tel_app, Inf.putn_app, Inf.putv_app, hx, hd]
       exact ⟨rfl, rfl⟩
     generalize Inf.putn (Inf.tel W D (S.take i)) n = n' at *
     generalize Inf.putv (Inf.tel W D (S.take i)) n V = V' at *
     clear k1 k2 k3 k4 k5 k6 p15 p13 e15 e13 hx hd r1 r2 HTK HB1 q1 q2 q3 HS
     go_still_tail 13, (by kernel_rfl)
     change wpList _ _ _ _ _ wb.drew
     have HKZ : Hid (Kp g w1 wb.drew) := hkb.trans (Kp.drawn (Drawn.refl wb).drew)
     have HSZ := Lib.hid (HSB.out.drawn (Drawn.refl wb).drew)
     have HNZ : Hid (wb.drew.heap[B]? = some (.cells #[.int .i64 (px : Nat), .int .i64 (pn : Nat), .int .i64 (pk : Nat)] 95 (0, 0))) := HNEW.out
     clear HNEW HSB x1 x2 x3 y1 y2 z1 hkb
     generalize wb.drew = wz at *
     go_wp2_with fail
     refine (HPUT1.out _ HSZ.out).mono ?_
     rintro e w5 ⟨rfl, g1, g2⟩
     have G1 := Lib.hid g1
     have G2 := Lib.hid (HKZ.out.trans g2)
     have G3 : Hid (w5.heap[B]? = some (.cells #[.int .i64 (px : Nat), .int .i64 (pn : Nat), .int .i64 (pk : Nat)] 95 (0, 0))) := g2.cells HNZ.out HNE.out (by decide)
     obtain ⟨x1, -, -⟩ := HBOX.out w5 G2.out
     have z2 : w5.cell? ⟨B, 1, none⟩ = some (.int .i64 (pn : Nat)) := (cell_of_row _ _ _ _ _ _ G3.out).trans rfl
     have z3 : w5.cell? ⟨B, 2, none⟩ = some (.int .i64 (pk : Nat)) := (cell_of_row _ _ _ _ _ _ G3.out).trans rfl
     clear g1 g2 HPUT1 HKZ HSZ HNZ G3
     go_wp2_with fail
     refine (HPUT2.out _ G1.out).mono ?_
     rintro e w6 ⟨rfl, g1, g2⟩
     have G4 := Lib.hid g1
     have G5 := Lib.hid (G2.out.trans g2)
     clear g1 g2 HPUT2 G1 G2 x1 z2 z3
     go_wp2_with fail
     exact ⟨⟨i + 1, by have := HI.out; omega, by go_num, by rw [HNX.out.1, HNX.out.2]; exact G4.out, G5.out⟩, by have := HI.out; simp [intOf]; omega⟩
   · have e : i = ns := by omega
     subst e
     have d1 : decide (i < i) = false := decide_eq_false hlt
     have d1' : decide ((i : Int) < (i : Int)) = false := decide_eq_false (by omega)
     have HE : Hid (S.take i = S) := List.take_of_length_le (by have := HNS.out; omega)
     clear hi hlt
     go_wp2
     go_returns
     have hfin := HS.out
     rw [HE.out] at hfin
     exact ⟨rfl, hfin, HK1.out.trans HKP.out⟩
end Go.Proofs.YtenkkononchgmaaGreatDoor

namespace Go.Proofs.YtenkkononchgmaaGreatDoor
open Go.RowKit Go

set_option maxHeartbeats 1000000 in
theorem dequal_any (c : Int) (n : Nat) (w : World) (hn : 1 ≤ n) (hn6 : n ≤ 100000) :
   Calls Tryz.prog 44 #[.int .i64 c, .int .i64 (n : Int)] w fun e w' => RpO w c n e w' := by
 have HR := Lib.hid (repeat_any c n w.heap.size (w.alloc (.cells #[.int .i64 c] 3)) hn hn6 (heap_alloc_new _ _))
 have HS : Hid ((w.alloc (.cells #[.int .i64 c] 3)).heap.size = w.heap.size + 1) := by simp [Hid]
 have HB : Hid (Below w.heap.size w (w.alloc (.cells #[.int .i64 c] 3))) := (Below.refl _ _).alloc (Nat.le_refl _) _
 clear hn hn6
 go_enter Tryz.func44, Tryz.ntmps44
 go_wp2_with fail
 refine HR.out.mono ?_
 rintro e w1 ⟨h1, G, h2, h3, rfl⟩
 have H1 : Hid (Below w.heap.size w w1) := HB.out.trans (h1.mono (by have := HS.out; omega))
 have H2 : Hid (w.heap.size ≤ G) := by have := HS.out; unfold Hid; omega
 have H3 := Lib.hid h3
 clear h1 h2 h3 HR HB HS
 go_wp2
 go_ret
 exact ⟨H1.out, G, H2.out, H3.out, rfl⟩

theorem begin_any (last : Bool) (k : Nat) (w0 w wr : World) (g n V : Nat) (h : Iw w0 w wr g n V) (hk : k < 4) (hn : n ≤ 900000000) :
   Calls Tryz.prog 40 #[sv g, .bool last, .int .i64 (k : Int)] wr fun e w' => e = .returned (.tuple #[]) ∧ Iw w0 w w' g (n + 3) (V + (last.toNat + 2 * k) * 2 ^ n) ∧ Kp g wr w' := by
 have hb : Below wr.heap.size wr (wr.alloc (.cells #[.pointer (some ⟨g, 0, none⟩)] 50)) := (Below.refl _ _).alloc (Nat.le_refl _) _
 have HL : Hid (last.toNat < 2) := by cases last <;> simp [Hid]
 have HP1 : Hid (∀ wx, Iw w0 w wx g n V → Calls Tryz.prog 42 #[sv g, .int .i64 (last.toNat : Int), .int .i64 1] wx fun e w' => e = .returned (.tuple #[]) ∧ Iw w0 w w' g (n + 1) (V + last.toNat * 2 ^ n) ∧ Kp g wx w') :=
   fun wx hx => number_nat last.toNat 1 w0 w wx g n V hx HL.out (by have := HL.out; omega) (by omega) (by omega)
 have HP2 : Hid (∀ wx, Iw w0 w wx g (n + 1) (V + last.toNat * 2 ^ n) → Calls Tryz.prog 42 #[sv g, .int .i64 (k : Int), .int .i64 2] wx fun e w' => e = .returned (.tuple #[]) ∧ Iw w0 w w' g (n + 1 + 2) (V + last.toNat * 2 ^ n + k * 2 ^ (n + 1)) ∧ Kp g wx w') :=
   fun wx hx => number_nat k 2 w0 w wx g (n + 1) _ hx hk (by omega) (by omega) (by omega)
 have HV : Hid (V + last.toNat * 2 ^ n + k * 2 ^ (n + 1) = V + (last.toNat + 2 * k) * 2 ^ n) := by
   unfold Hid; rw [Nat.pow_succ, Nat.add_mul, ← Nat.add_assoc]; congr 1; rw [Nat.mul_comm (2 ^ n) 2, ← Nat.mul_assoc, Nat.mul_comm k 2]
 have HBX : Hid (∀ wx, Kp g (wr.alloc (.cells #[.pointer (some ⟨g, 0, none⟩)] 50)) wx → wx.cell? ⟨wr.heap.size, 0, none⟩ = some (.pointer (some ⟨g, 0, none⟩))) := by
   intro wx hx
   obtain ⟨c, hc⟩ := h.row
   have hg := Inf.lt_some hc
   rw [cell_of_row _ _ _ _ _ _ (hx.cells (heap_alloc_new _ _) (by omega) (by decide))]
   rfl
 have HA := Lib.hid (h.later hb)
 have HK : Hid (Kp g wr (wr.alloc (.cells #[.pointer (some ⟨g, 0, none⟩)] 50))) := Kp.below hb
 clear h hb hk hn
 cases last
 all_goals
   go_enter Tryz.func40, Tryz.ntmps40
   go_wp2_with fail
   refine (HP1.out _ HA.out).mono ?_
   rintro e w5 ⟨rfl, g1, g2⟩
   have G1 := Lib.hid g1
   have G2 := Lib.hid (HK.out.trans g2)
   have c1 := HBX.out _ g2
   clear g1 g2 HP1 HBX
   go_wp2_with fail
   refine (HP2.out _ G1.out).mono ?_
   rintro e w6 ⟨rfl, g1, g2⟩
   rw [HV.out] at g1
   have G3 := Lib.hid g1
   have G4 := Lib.hid (G2.out.trans g2)
   clear g1 g2 HP2 G1 G2 HV
   go_wp2
   go_returns
   exact ⟨rfl, G3.out, G4.out⟩
end Go.Proofs.YtenkkononchgmaaGreatDoor
