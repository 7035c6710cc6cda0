/- Laid together: HmSortP. -/
import Derived.Test.YtenkkononchgmaaGreatDoorDkB15
import Derived.Deep.DeepCutAuto

namespace Go.Proofs.YtenkkononchgmaaGreatDoor
open Go.RowKit Go Go.Sort

set_option maxRecDepth 100000 in
set_option maxHeartbeats 4000000 in
theorem symAP (w0 : World) (g N cap a m b : Nat) (d : Nat → (Int × Bool)) (w : World) (hR : RP w0 w g N d) (hN : N ≤ 1000000) (hc : N ≤ cap) (h1 : m = a + 1) (h2 : m < b) (h3 : b ≤ N) (hu : Up (fun t => (d t).1) m b) :
   Calls Tryz.prog 175 #[.slice (some ⟨g, 0, none⟩) N cap, .int .i64 a, .int .i64 m, .int .i64 b, (Value.func (.func 167) #[] #[])] w fun e w' => e = .returned (.tuple #[]) ∧ ∃ d' : Nat → (Int × Bool), RP w0 w' g N d' ∧ Pm a b d d' ∧ Up (fun t => (d' t).1) a b := by
 have H0 : Hid (RP w0 w g N d) := hR
 have HN := Lib.hid hN
 have HC := Lib.hid hc
 have HA := Lib.hid h1
 have HM := Lib.hid h2
 have HB := Lib.hid h3
 have HU := Lib.hid hu
 have mixed : Tryz.prog.follows .mixedOrders = true := by kernel_rfl
 have e1 : ((m : Int) - (a : Int)) = 1 := by omega
 have a6 : (a : Int) < 1000000 := by omega
 have aN : a < N := by omega
 clear hR hN hc h1 h2 h3 hu
 go_enter Tryz.func175, Tryz.ntmps175
 go_wp2_with fail
 clear e1
 go_loopw [10, 11, 12] (fun v10 v11 v12 wr => ∃ i j : Nat, v10 = .int .i64 (i : Int) ∧ v11 = .int .i64 (j : Int) ∧ m ≤ i ∧ i ≤ j ∧ j ≤ b ∧ RP w0 wr g N d ∧ (∀ t, m ≤ t → t < i → (d t).1 < (d a).1) ∧ (∀ t, j ≤ t → t < b → (d a).1 ≤ (d t).1)) (fun v10 v11 v12 _ => (intOf v11 - intOf v10).toNat)
 case atStart => exact ⟨m, b, rfl, rfl, Nat.le_refl _, by have := HM.out; omega, Nat.le_refl _, H0.out, fun t x1 x2 => by omega, fun t x1 x2 => by omega⟩
 case round =>
   clear H0
   obtain ⟨i, j, rfl, rfl, hmi, hij, hjb, hr, hlo, hhi⟩ := hrel
   have HR := Lib.hid hr; clear hr
   have HLO := Lib.hid hlo; clear hlo
   have HHI := Lib.hid hhi; clear hhi
   have HI : Hid (m ≤ i ∧ i ≤ j ∧ j ≤ b) := ⟨hmi, hij, hjb⟩
   have i6 : (i : Int) ≤ 1000000 := by have := HN.out; have := HB.out; omega
   have j6 : (j : Int) ≤ 1000000 := by have := HN.out; have := HB.out; omega
   by_cases hlt : i < j
   · have hdi : decide (i < j) = true := decide_eq_true hlt
     obtain ⟨h, hh⟩ : ∃ h, h = (i + j) / 2 := ⟨_, rfl⟩
     have hh' : ((i : Int) + (j : Int)) / 2 = (h : Int) := by omega
     have hN' : h < N := by have := HB.out; omega
     have hHb : Hid (i ≤ h ∧ h < j) := ⟨by omega, by omega⟩
     have p1 : (h : Int) < (N : Int) := by omega
     have p2 : (a : Int) < (N : Int) := by omega
     have p3 : (0 : Int) ≤ (h : Int) := by omega
     have p4 : (0 : Int) ≤ (a : Int) := by omega
     have h6 : (h : Int) < 1000000 := by have := HN.out; omega
     have l1 := HR.out.ld1 hN'
     have l2 := HR.out.ld1 aN
     have l3 := HR.out.ld2 hN'
     have l4 := HR.out.ld2 aN
     have hcm := HR.out.cmp h a
     have HGR : Hid (∀ m os, RP w0 (grow (wr.drewN m) os) g N d) := fun m os => HR.out.grown m os
     obtain ⟨x, hx⟩ : ∃ x, x = d h := ⟨_, rfl⟩
     obtain ⟨y, hy⟩ : ∃ y, y = d a := ⟨_, rfl⟩
     rw [← hx, ← hy] at hcm
     rw [← hx] at l1 l3
     rw [← hy] at l2 l4
     have HXY : Hid (x = d h ∧ y = d a) := ⟨hx, hy⟩
     clear hx hy HR hh
     by_cases hlv : (x).1 < (y).1
     · have hd1 : decide (cmpv ((x).1) ((y).1) < 0) = true := decide_eq_true (by rw [cmpv_lt]; exact hlv)
       generalize cmpv ((x).1) ((y).1) = cv at hcm hd1
       go_wp2_with fail
       go_quiet_grown (first | (go_at_call 167; refine hcm _ _))
       have HR : Hid (RP w0 (grow (wr.drewN nq) osq) g N d) := HGR.out _ _
       clear l1 l2 hcm HGR l3 l4
       generalize grow (wr.drewN nq) osq = w2 at *
       go_wp2
       obtain ⟨z1, z2⟩ := HXY.out
       have hb := hHb.out
       refine ⟨⟨h + 1, j, by go_num, rfl, by omega, by omega, by omega, HR.out, fun t x1 x2 => ?_, HHI.out⟩, by simp [intOf]; omega⟩
       have := HU.out t h x1 (by omega) (by omega)
       simp only at this
       rw [← z1] at this
       rw [← z2]; omega
     · have hd1 : decide (cmpv ((x).1) ((y).1) < 0) = false := decide_eq_false (by rw [cmpv_lt]; exact hlv)
       generalize cmpv ((x).1) ((y).1) = cv at hcm hd1
       go_wp2_with fail
       go_quiet_grown (first | (go_at_call 167; refine hcm _ _))
       have HR : Hid (RP w0 (grow (wr.drewN nq) osq) g N d) := HGR.out _ _
       clear l1 l2 hcm HGR l3 l4
       generalize grow (wr.drewN nq) osq = w2 at *
       go_wp2
       obtain ⟨z1, z2⟩ := HXY.out
       have hb := hHb.out
       refine ⟨⟨i, h, rfl, rfl, by omega, by omega, by omega, HR.out, HLO.out, fun t x1 x2 => ?_⟩, by simp [intOf]; omega⟩
       have := HU.out h t (by omega) x1 x2
       simp only at this
       rw [← z1] at this
       rw [← z2]; omega
   · obtain rfl : i = j := by omega
     have hdi : decide (i < i) = false := decide_eq_false (by omega)
     obtain ⟨z, hz⟩ : ∃ z, z + 1 = i := ⟨i - 1, by have := HA.out; omega⟩
     have hz' : ((i : Int) - 1) = (z : Int) := by omega
     have HZ : Hid (z + 1 = i ∧ a ≤ z ∧ z < b) := ⟨hz, by have := HA.out; omega, by omega⟩
     have z6 : (z : Int) < 1000000 := by omega
     clear hz
     go_wp2_with fail
     generalize wr = wo at *
     go_loopw [13] (fun v13 wr => ∃ k : Nat, v13 = .int .i64 (k : Int) ∧ a ≤ k ∧ k ≤ z ∧ RP w0 wr g N (shl d a k)) (fun v13 _ => (z - intOf v13).toNat)
     case atStart => exact ⟨a, rfl, Nat.le_refl _, HZ.out.2.1, by rw [shl_zero]; exact HR.out⟩
     case round =>
       clear HR
       obtain ⟨k, rfl, hak, hkz, hr⟩ := hrel
       have HR := Lib.hid hr; clear hr
       by_cases hk : k < z
       · have hdk : decide (k < z) = true := decide_eq_true hk
         have hkN : k < N := by have := HB.out; have := HZ.out; omega
         obtain ⟨q, hq⟩ : ∃ q, q = k + 1 := ⟨_, rfl⟩
         have hqN : q < N := by have := HB.out; have := HZ.out; omega
         have s1 : ((k : Int) + 1) = (q : Int) := by omega
         have HQ := Lib.hid hq
         have HS : Hid (shl d a q = swf (shl d a k) k q) := by
           show _ = _
           rw [hq, shl_succ d a k hak]
         have hsw := HR.out.swapped hkN hqN
         have HSW := Lib.hid hsw
         have c1 := (HR.out.c1 k hkN).1
         have c2 := (HR.out.c1 q hqN).1
         have c3 := (HR.out.c2 k hkN).1
         have c4 := (HR.out.c2 q hqN).1
         have f1 := (HR.out.c1 k hkN).2
         have f2 := (HR.out.c1 q hqN).2
         have f3 := (HR.out.c2 k hkN).2
         have f4 := (HR.out.c2 q hqN).2
         have hne : k ≠ q := by omega
         have q6 : (q : Int) < 1000000 := by omega
         have p1 : (k : Int) < (N : Int) := by omega
         have p2 : (q : Int) < (N : Int) := by omega
         have p3 : (0 : Int) ≤ (k : Int) := by omega
         have p4 : (0 : Int) ≤ (q : Int) := by omega
         clear hsw HR hq
         generalize shl d a k k = X at *
         generalize shl d a k q = Y at *
         go_wp2_with fail
         go_big_region
         go_wp2
         have hq := HQ.out
         exact ⟨⟨q, rfl, by omega, by omega, by rw [HS.out]; exact HSW.out.drew⟩, by simp [intOf]; omega⟩
       · obtain rfl : k = z := by omega
         have hdk : decide (k < k) = false := decide_eq_false (by omega)
         obtain ⟨z1, z2, z3⟩ := HZ.out
         have HE : Hid (∃ d' : Nat → (Int × Bool), RP w0 wr g N d' ∧ Pm a b d d' ∧ Up (fun t => (d' t).1) a b) :=
           ⟨_, HR.out, shl_pm d (Nat.le_refl _) hak z3, Up.insl Prod.fst d (by rw [← HA.out]; exact HU.out) hak z3 (fun t x1 x2 => Int.le_of_lt (HLO.out t (by have := HA.out; omega) (by omega))) (fun t x1 x2 => HHI.out t (by omega) x2)⟩
         clear z1 z2 z3
         go_wp2
         go_returns
         exact ⟨rfl, HE.out⟩
end Go.Proofs.YtenkkononchgmaaGreatDoor

/- The walk of the merge in place where the right run has one element. -/
namespace Go.Proofs.YtenkkononchgmaaGreatDoor
open Go.RowKit Go Go.Sort

set_option maxRecDepth 100000 in
set_option maxHeartbeats 4000000 in
theorem symBP (w0 : World) (g N cap a m b : Nat) (d : Nat → (Int × Bool)) (w : World) (hR : RP w0 w g N d) (hN : N ≤ 1000000) (hc : N ≤ cap) (h0 : a + 1 < m) (h1 : b = m + 1) (h3 : b ≤ N) (hu : Up (fun t => (d t).1) a m) :
   Calls Tryz.prog 175 #[.slice (some ⟨g, 0, none⟩) N cap, .int .i64 a, .int .i64 m, .int .i64 b, (Value.func (.func 167) #[] #[])] w fun e w' => e = .returned (.tuple #[]) ∧ ∃ d' : Nat → (Int × Bool), RP w0 w' g N d' ∧ Pm a b d d' ∧ Up (fun t => (d' t).1) a b := by
 have H0 : Hid (RP w0 w g N d) := hR
 have HN := Lib.hid hN
 have HC := Lib.hid hc
 have HA := Lib.hid h0
 have HM := Lib.hid h1
 have HB := Lib.hid h3
 have HU := Lib.hid hu
 have mixed : Tryz.prog.follows .mixedOrders = true := by kernel_rfl
 have e1 : IntKind.i64.wrap ((m : Int) - (a : Int)) = ((m - a : Nat) : Int) := wn (by omega) (by omega)
 have e1b : (((m - a : Nat) : Int) == 1) = false := by simp; omega
 have e0 : ((m : Int) - (a : Int)) = ((m - a : Nat) : Int) := by omega
 have e06 : ((m - a : Nat) : Int) < 1000000 := by omega
 have e01 : ¬ ((m - a : Nat) : Int) = 1 := by omega
 have e2 : ((b : Int) - (m : Int)) = 1 := by omega
 have m6 : (m : Int) < 1000000 := by omega
 have mN : m < N := by omega
 clear hR hN hc h0 h1 h3 hu
 generalize m - a = ma at *
 go_enter Tryz.func175, Tryz.ntmps175
 go_wp2_with fail
 clear e1 e1b e0 e06 e01 e2
 go_loopw [14, 15, 16] (fun v14 v15 v16 wr => ∃ i j : Nat, v14 = .int .i64 (i : Int) ∧ v15 = .int .i64 (j : Int) ∧ a ≤ i ∧ i ≤ j ∧ j ≤ m ∧ RP w0 wr g N d ∧ (∀ t, a ≤ t → t < i → (d t).1 ≤ (d m).1) ∧ (∀ t, j ≤ t → t < m → (d m).1 < (d t).1)) (fun v14 v15 v16 _ => (intOf v15 - intOf v14).toNat)
 case atStart => exact ⟨a, m, rfl, rfl, Nat.le_refl _, by have := HA.out; omega, Nat.le_refl _, H0.out, fun t x1 x2 => by omega, fun t x1 x2 => by omega⟩
 case round =>
   clear H0
   obtain ⟨i, j, rfl, rfl, hmi, hij, hjb, hr, hlo, hhi⟩ := hrel
   have HR := Lib.hid hr; clear hr
   have HLO := Lib.hid hlo; clear hlo
   have HHI := Lib.hid hhi; clear hhi
   have HI : Hid (a ≤ i ∧ i ≤ j ∧ j ≤ m) := ⟨hmi, hij, hjb⟩
   have i6 : (i : Int) ≤ 1000000 := by omega
   have j6 : (j : Int) ≤ 1000000 := by omega
   by_cases hlt : i < j
   · have hdi : decide (i < j) = true := decide_eq_true hlt
     obtain ⟨h, hh⟩ : ∃ h, h = (i + j) / 2 := ⟨_, rfl⟩
     have hh' : ((i : Int) + (j : Int)) / 2 = (h : Int) := by omega
     have hN' : h < N := by omega
     have hHb : Hid (i ≤ h ∧ h < j) := ⟨by omega, by omega⟩
     have p1 : (h : Int) < (N : Int) := by omega
     have p2 : (m : Int) < (N : Int) := by omega
     have p3 : (0 : Int) ≤ (h : Int) := by omega
     have p4 : (0 : Int) ≤ (m : Int) := by omega
     have h6 : (h : Int) < 1000000 := by omega
     have l1 := HR.out.ld1 mN
     have l2 := HR.out.ld1 hN'
     have l3 := HR.out.ld2 mN
     have l4 := HR.out.ld2 hN'
     have hcm := HR.out.cmp m h
     have HGR : Hid (∀ m os, RP w0 (grow (wr.drewN m) os) g N d) := fun m os => HR.out.grown m os
     obtain ⟨x, hx⟩ : ∃ x, x = d m := ⟨_, rfl⟩
     obtain ⟨y, hy⟩ : ∃ y, y = d h := ⟨_, rfl⟩
     rw [← hx, ← hy] at hcm
     rw [← hx] at l1 l3
     rw [← hy] at l2 l4
     have HXY : Hid (x = d m ∧ y = d h) := ⟨hx, hy⟩
     clear hx hy HR hh
     by_cases hlv : (x).1 < (y).1
     · have hd1 : decide (cmpv ((x).1) ((y).1) < 0) = true := decide_eq_true (by rw [cmpv_lt]; exact hlv)
       generalize cmpv ((x).1) ((y).1) = cv at hcm hd1
       go_wp2_with fail
       go_quiet_grown (first | (go_at_call 167; refine hcm _ _))
       have HR : Hid (RP w0 (grow (wr.drewN nq) osq) g N d) := HGR.out _ _
       clear l1 l2 hcm HGR l3 l4
       generalize grow (wr.drewN nq) osq = w2 at *
       go_wp2
       obtain ⟨z1, z2⟩ := HXY.out
       have hb := hHb.out
       refine ⟨⟨i, h, rfl, rfl, by omega, by omega, by omega, HR.out, HLO.out, fun t x1 x2 => ?_⟩, by simp [intOf]; omega⟩
       have := HU.out h t (by omega) x1 x2
       simp only at this
       rw [← z2] at this
       rw [← z1]; omega
     · have hd1 : decide (cmpv ((x).1) ((y).1) < 0) = false := decide_eq_false (by rw [cmpv_lt]; exact hlv)
       generalize cmpv ((x).1) ((y).1) = cv at hcm hd1
       go_wp2_with fail
       go_quiet_grown (first | (go_at_call 167; refine hcm _ _))
       have HR : Hid (RP w0 (grow (wr.drewN nq) osq) g N d) := HGR.out _ _
       clear l1 l2 hcm HGR l3 l4
       generalize grow (wr.drewN nq) osq = w2 at *
       go_wp2
       obtain ⟨z1, z2⟩ := HXY.out
       have hb := hHb.out
       refine ⟨⟨h + 1, j, by go_num, rfl, by omega, by omega, by omega, HR.out, fun t x1 x2 => ?_, HHI.out⟩, by simp [intOf]; omega⟩
       have := HU.out t h x1 (by omega) (by omega)
       simp only at this
       rw [← z2] at this
       rw [← z1]; omega
   · obtain rfl : i = j := by omega
     have hdi : decide (i < i) = false := decide_eq_false (by omega)
     go_wp2_with fail
     generalize wr = wo at *
     go_loopw [17] (fun v17 wr => ∃ k : Nat, v17 = .int .i64 (k : Int) ∧ i ≤ k ∧ k ≤ m ∧ RP w0 wr g N (shr d k m)) (fun v17 _ => (intOf v17).toNat)
     case atStart => exact ⟨m, rfl, hjb, Nat.le_refl _, by rw [shr_zero]; exact HR.out⟩
     case round =>
       clear HR
       obtain ⟨k, rfl, hak, hkz, hr⟩ := hrel
       have HR := Lib.hid hr; clear hr
       by_cases hk : i < k
       · have hdk : decide (i < k) = true := decide_eq_true hk
         have hkN : k < N := by omega
         obtain ⟨q, hq⟩ : ∃ q, k = q + 1 := ⟨k - 1, by omega⟩
         have hqN : q < N := by omega
         have s1 : ((k : Int) - 1) = (q : Int) := by omega
         have HQ := Lib.hid hq
         have HS : Hid (shr d q m = swf (shr d k m) k q) := by
           show _ = _
           rw [hq, shr_succ d q m (by omega)]
         have hsw := HR.out.swapped hkN hqN
         have HSW := Lib.hid hsw
         have c1 := (HR.out.c1 k hkN).1
         have c2 := (HR.out.c1 q hqN).1
         have c3 := (HR.out.c2 k hkN).1
         have c4 := (HR.out.c2 q hqN).1
         have f1 := (HR.out.c1 k hkN).2
         have f2 := (HR.out.c1 q hqN).2
         have f3 := (HR.out.c2 k hkN).2
         have f4 := (HR.out.c2 q hqN).2
         have hne : k ≠ q := by omega
         have q6 : (q : Int) < 1000000 := by omega
         have k6 : (k : Int) < 1000000 := by omega
         have p1 : (k : Int) < (N : Int) := by omega
         have p2 : (q : Int) < (N : Int) := by omega
         have p3 : (0 : Int) ≤ (k : Int) := by omega
         have p4 : (0 : Int) ≤ (q : Int) := by omega
         clear hsw HR hq
         generalize shr d k m k = X at *
         generalize shr d k m q = Y at *
         go_wp2_with fail
         go_big_region
         go_wp2
         have hq := HQ.out
         exact ⟨⟨q, rfl, by omega, by omega, by rw [HS.out]; exact HSW.out.drew⟩, by simp [intOf]; omega⟩
       · obtain rfl : i = k := by omega
         have hdk : decide (i < i) = false := decide_eq_false (by omega)
         have HE : Hid (∃ d' : Nat → (Int × Bool), RP w0 wr g N d' ∧ Pm a b d d' ∧ Up (fun t => (d' t).1) a b) :=
           ⟨_, HR.out, shr_pm d hmi hkz (by have := HM.out; omega), by rw [HM.out]; exact Up.ins Prod.fst d HU.out hmi hkz HLO.out (fun t x1 x2 => Int.le_of_lt (HHI.out t x1 x2))⟩
         go_wp2
         go_returns
         exact ⟨rfl, HE.out⟩
end Go.Proofs.YtenkkononchgmaaGreatDoor

/- The walk of the merge in place, the small ones given. -/
namespace Go.Proofs.YtenkkononchgmaaGreatDoor
open Go.RowKit Go Go.Sort

def SymP (w0 : World) (g N cap L : Nat) : Prop := ∀ (a m b : Nat) (d : Nat → (Int × Bool)) (w : World), b - a < L → a < m → m < b → b ≤ N → RP w0 w g N d → Up (fun t => (d t).1) a m → Up (fun t => (d t).1) m b →
   Calls Tryz.prog 175 #[.slice (some ⟨g, 0, none⟩) N cap, .int .i64 a, .int .i64 m, .int .i64 b, (Value.func (.func 167) #[] #[])] w fun e w' => e = .returned (.tuple #[]) ∧ ∃ d' : Nat → (Int × Bool), RP w0 w' g N d' ∧ Pm a b d d' ∧ Up (fun t => (d' t).1) a b

set_option maxRecDepth 100000 in
set_option maxHeartbeats 8000000 in
theorem symCP (w0 : World) (g N cap a m b mid lo hi : Nat) (d : Nat → (Int × Bool)) (w : World) (ih : SymP w0 g N cap (b - a)) (hR : RP w0 w g N d) (hN : N ≤ 1000000) (hc : N ≤ cap) (h1 : a + 1 < m) (h2 : m + 1 < b) (h3 : b ≤ N) (hu : Up (fun t => (d t).1) a m) (hv : Up (fun t => (d t).1) m b)
   (hmid : mid = (a + b) / 2) (hlh : (mid < m ∧ lo = mid + m - b ∧ hi = mid) ∨ (m ≤ mid ∧ lo = a ∧ hi = m)) :
   Calls Tryz.prog 175 #[.slice (some ⟨g, 0, none⟩) N cap, .int .i64 a, .int .i64 m, .int .i64 b, (Value.func (.func 167) #[] #[])] w fun e w' => e = .returned (.tuple #[]) ∧ ∃ d' : Nat → (Int × Bool), RP w0 w' g N d' ∧ Pm a b d d' ∧ Up (fun t => (d' t).1) a b := by
 have H0 : Hid (RP w0 w g N d) := hR
 have HN := Lib.hid hN
 have HC := Lib.hid hc
 have HA := Lib.hid h1
 have HM := Lib.hid h2
 have HB := Lib.hid h3
 have HU := Lib.hid hu
 have HV := Lib.hid hv
 have IH : Hid (SymP w0 g N cap (b - a)) := ih
 have HMD : Hid (mid = (a + b) / 2) := hmid
 have HLH := Lib.hid hlh
 have mixed : Tryz.prog.follows .mixedOrders = true := by kernel_rfl
 obtain ⟨ma, hma⟩ : ∃ x, x = m - a := ⟨_, rfl⟩
 obtain ⟨bm, hbm⟩ : ∃ x, x = b - m := ⟨_, rfl⟩
 obtain ⟨n, hn⟩ : ∃ n, n = mid + m := ⟨_, rfl⟩
 obtain ⟨p, hp⟩ : ∃ p, p = mid + m - 1 := ⟨_, rfl⟩
 have e0 : ((m : Int) - (a : Int)) = (ma : Int) := by omega
 have e06 : (ma : Int) < 1000000 := by omega
 have e01 : ¬ (ma : Int) = 1 := by omega
 have e0b : ((ma : Int) == 1) = false := by simp; omega
 have e2 : ((b : Int) - (m : Int)) = (bm : Int) := by omega
 have e26 : (bm : Int) < 1000000 := by omega
 have e21 : ¬ (bm : Int) = 1 := by omega
 have e2b : ((bm : Int) == 1) = false := by simp; omega
 have a6 : (a : Int) < 1000000 := by omega
 have m6 : (m : Int) < 1000000 := by omega
 have b6 : (b : Int) ≤ 1000000 := by omega
 have g1 : ((a : Int) + (b : Int)) / 2 = (mid : Int) := by omega
 have g16 : (mid : Int) < 1000000 := by omega
 have g2 : ((mid : Int) + (m : Int)) = (n : Int) := by omega
 have g26 : (n : Int) < 2000000 := by omega
 have g3 : ((n : Int) - 1) = (p : Int) := by omega
 have g36 : (p : Int) < 2000000 := by omega
 have HNP : Hid (n = mid + m ∧ p = mid + m - 1) := ⟨hn, hp⟩
 have lo6 : (lo : Int) < 1000000 := by omega
 have hi6 : (hi : Int) < 1000000 := by omega
 have HLO : Hid (a ≤ lo ∧ lo ≤ hi ∧ hi ≤ m ∧ hi ≤ mid) := ⟨by omega, by omega, by omega, by omega⟩
 have g4 : mid < m → ((n : Int) - (b : Int)) = (lo : Int) := fun h => by omega
 have HG4 := Lib.hid g4
 clear hR hN hc h1 h2 h3 hu hv ih hmid hlh hma hbm hn hp g4
 go_enter Tryz.func175, Tryz.ntmps175
 rcases Nat.lt_or_ge mid m with hmm | hmm
 case' inl =>
   have g4 := HG4.out hmm
   have hdm : decide (mid < m) = true := decide_eq_true hmm
   have HS0 := Lib.hid hmm
   clear hmm
   go_wp2_with fail
   clear g4 hdm
 case' inr =>
   have hdm : decide (mid < m) = false := decide_eq_false (by omega)
   have HS0 := Lib.hid hmm
   clear hmm
   go_wp2_with fail
   clear hdm
 all_goals clear e0 e06 e01 e0b e2 e26 e21 e2b g1 g2 g3 HG4
 all_goals go_loopw [20, 21, 23] (fun v20 v21 v23 wr => ∃ s r : Nat, v20 = .int .i64 (s : Int) ∧ v21 = .int .i64 (r : Int) ∧ lo ≤ s ∧ s ≤ r ∧ r ≤ hi ∧ RP w0 wr g N d ∧ (∀ c, lo ≤ c → c < s → (d c).1 ≤ (d (p - c)).1) ∧ (∀ c, r ≤ c → c < hi → (d (p - c)).1 < (d c).1)) (fun v20 v21 v23 _ => (intOf v21 - intOf v20).toNat)
 case atStart => exact ⟨lo, hi, by have h1 := HS0.out; have h2 := HLH.out; first | rfl | (congr 1; omega), by have h1 := HS0.out; have h2 := HLH.out; first | rfl | (congr 1; omega), Nat.le_refl _, HLO.out.2.1, Nat.le_refl _, H0.out, fun t x1 x2 => by omega, fun t x1 x2 => by omega⟩
 case atStart => exact ⟨lo, hi, by have h1 := HS0.out; have h2 := HLH.out; first | rfl | (congr 1; omega), by have h1 := HS0.out; have h2 := HLH.out; first | rfl | (congr 1; omega), Nat.le_refl _, HLO.out.2.1, Nat.le_refl _, H0.out, fun t x1 x2 => by omega, fun t x1 x2 => by omega⟩
 all_goals
   clear H0 HS0
   obtain ⟨s, r, rfl, rfl, hs, hsr, hrh, hr, hp1, hp2⟩ := hrel
   have HR := Lib.hid hr; clear hr
   have HP1 := Lib.hid hp1; clear hp1
   have HP2 := Lib.hid hp2; clear hp2
   have HSR : Hid (lo ≤ s ∧ s ≤ r ∧ r ≤ hi) := ⟨hs, hsr, hrh⟩
   have s6 : (s : Int) < 1000000 := by omega
   have r6 : (r : Int) < 1000000 := by omega
   rcases Nat.lt_or_ge s r with hlt | hge
   · have hdi : decide (s < r) = true := decide_eq_true hlt
     obtain ⟨h, hh⟩ : ∃ h, h = (s + r) / 2 := ⟨_, rfl⟩
     have hh' : ((s : Int) + (r : Int)) / 2 = (h : Int) := by omega
     have hHb : Hid (s ≤ h ∧ h < r) := ⟨by omega, by omega⟩
     obtain ⟨q, hq⟩ : ∃ q, q = p - h := ⟨_, rfl⟩
     have hw := HLO.out
     have hw2 := HNP.out
     have hw3 := HB.out
     have hw4 := HMD.out
     have hw5 := HLH.out
     have hw6 := HA.out
     have hw7 := HM.out
     have hmq : m ≤ q ∧ q < b := by omega
     have hN' : h < N := by omega
     have qN : q < N := by omega
     have hqh : ((p : Int) - (h : Int)) = (q : Int) := by omega
     have p1 : (h : Int) < (N : Int) := by omega
     have p2 : (q : Int) < (N : Int) := by omega
     have p3 : (0 : Int) ≤ (h : Int) := by omega
     have p4 : (0 : Int) ≤ (q : Int) := by omega
     have h6 : (h : Int) < 1000000 := by omega
     have q6 : IntKind.i64.wrap (q : Int) = (q : Int) := wn rfl (by have := HN.out; omega)
     have HMQ := Lib.hid hmq
     have HQ := Lib.hid hq
     clear hw hw2 hw3 hw4 hw5 hw6 hw7 hmq hq
     have l1 := HR.out.ld1 qN
     have l2 := HR.out.ld1 hN'
     have l3 := HR.out.ld2 qN
     have l4 := HR.out.ld2 hN'
     have hcm := HR.out.cmp q h
     have HGR : Hid (∀ m os, RP w0 (grow (wr.drewN m) os) g N d) := fun m os => HR.out.grown m os
     obtain ⟨x, hx⟩ : ∃ x, x = d q := ⟨_, rfl⟩
     obtain ⟨y, hy⟩ : ∃ y, y = d h := ⟨_, rfl⟩
     rw [← hx, ← hy] at hcm
     rw [← hx] at l1 l3
     rw [← hy] at l2 l4
     have HXY : Hid (x = d q ∧ y = d h) := ⟨hx, hy⟩
     clear hx hy HR hh
     by_cases hlv : (x).1 < (y).1
     · have hd1 : decide (cmpv ((x).1) ((y).1) < 0) = true := decide_eq_true (by rw [cmpv_lt]; exact hlv)
       generalize cmpv ((x).1) ((y).1) = cv at hcm hd1
       go_wp2_with fail
       go_quiet_grown (first | (go_at_call 167; refine hcm _ _))
       have HR : Hid (RP w0 (grow (wr.drewN nq) osq) g N d) := HGR.out _ _
       clear l1 l2 hcm HGR l3 l4 q6
       generalize grow (wr.drewN nq) osq = w2 at *
       go_wp2
       obtain ⟨z1, z2⟩ := HXY.out
       have hb := hHb.out
       refine ⟨⟨s, h, rfl, rfl, by omega, by omega, by omega, HR.out, HP1.out, fun c x1 x2 => ?_⟩, by simp [intOf]; omega⟩
       have hw := HLO.out
       have hw2 := HNP.out
       have hw4 := HMD.out
       have hw5 := HLH.out
       have hm := HMQ.out
       have hq := HQ.out
       have u1 := HU.out h c (by omega) x1 (by omega)
       have u2 := HV.out (p - c) q (by omega) (by omega) (by omega)
       simp only at u1 u2
       rw [← z2] at u1
       rw [← z1] at u2
       omega
     · have hd1 : decide (cmpv ((x).1) ((y).1) < 0) = false := decide_eq_false (by rw [cmpv_lt]; exact hlv)
       generalize cmpv ((x).1) ((y).1) = cv at hcm hd1
       go_wp2_with fail
       go_quiet_grown (first | (go_at_call 167; refine hcm _ _))
       have HR : Hid (RP w0 (grow (wr.drewN nq) osq) g N d) := HGR.out _ _
       clear l1 l2 hcm HGR l3 l4 q6
       generalize grow (wr.drewN nq) osq = w2 at *
       go_wp2
       obtain ⟨z1, z2⟩ := HXY.out
       have hb := hHb.out
       refine ⟨⟨h + 1, r, by go_num, rfl, by omega, by omega, by omega, HR.out, fun c x1 x2 => ?_, HP2.out⟩, by simp [intOf]; omega⟩
       have hw := HLO.out
       have hw2 := HNP.out
       have hw4 := HMD.out
       have hw5 := HLH.out
       have hm := HMQ.out
       have hq := HQ.out
       have hw3 := HA.out
       have hw7 := HM.out
       have u1 := HU.out c h (by omega) (by omega) (by omega)
       have u2 := HV.out q (p - c) (by omega) (by omega) (by omega)
       simp only at u1 u2
       rw [← z2] at u1
       rw [← z1] at u2
       omega
   · obtain rfl : s = r := by omega
     have hdi : decide (s < s) = false := decide_eq_false (by omega)
     have hw1 := HA.out
     have hw2 := HM.out
     have hw3 := HLH.out
     have hw4 := HNP.out
     have hw5 := HMD.out
     have hw6 := HSR.out
     have hsym := sym_half Prod.fst d a m b mid s (by omega) (by omega) HMD.out HU.out HV.out (by omega)
       (fun c x1 x2 => by
         have := HP1.out c (by split at x1 <;> omega) x2
         rw [hw4.2] at this; exact this)
       (fun c x1 x2 => by
         have := HP2.out c x1 (by split at x2 <;> omega)
         rw [hw4.2] at this; exact this)
     have hpm := rot_pm d (a := s) (m := m) (b := mid + m - s) (by omega) (by omega)
     obtain ⟨en, hen⟩ : ∃ e, e = mid + m - s := ⟨_, rfl⟩
     rw [← hen] at hsym hpm
     have g5 : ((n : Int) - (s : Int)) = (en : Int) := by omega
     have en6 : (en : Int) ≤ 1000000 := by have := hsym.2.2.2.2.2.1; omega
     obtain ⟨q1, q2, q3, q4, q5, q6, u1, u2, u3, u4, uj⟩ := hsym
     have HQ : Hid (a ≤ s ∧ s ≤ m ∧ s ≤ mid ∧ m ≤ en ∧ mid ≤ en ∧ en ≤ b ∧ en = mid + m - s ∧ mid < b ∧ a < mid) := ⟨q1, q2, q3, q4, q5, q6, hen, by omega, by omega⟩
     have hpm' : Pm a b d (rot d s m en) := hpm.wide q1 q6
     have hrt : s < m → m < en → ∀ wx, RP w0 wx g N d → Calls Tryz.prog 177 #[.slice (some ⟨g, 0, none⟩) N cap, .int .i64 s, .int .i64 m, .int .i64 en, (Value.func (.func 167) #[] #[])] wx fun e w' => e = .returned (.tuple #[]) ∧ RP w0 w' g N (rot d s m en) :=
       fun k1 k2 wx hx => rotateP w0 g N cap s m en _ d wx hx HN.out HC.out k1 k2 (by have := HB.out; omega)
     have hno : ¬ (s < m ∧ m < en) → rot d s m en = d := fun k => by
       rcases Nat.lt_or_ge s m with k1 | k1
       · have : en = m := by omega
         rw [this]; exact rot_end d s m
       · have : s = m := by omega
         rw [this]; exact rot_start d m en q4
     have HRT := Lib.hid hrt
     have HNO := Lib.hid hno
     have HPM := Lib.hid hpm'
     have HUS : Hid (Up (fun t => (rot d s m en t).1) a s ∧ Up (fun t => (rot d s m en t).1) s mid ∧ Up (fun t => (rot d s m en t).1) mid en ∧ Up (fun t => (rot d s m en t).1) en b) := ⟨u1, u2, u3, u4⟩
     have HUJ := Lib.hid uj
     clear hpm hpm' hrt hno u1 u2 u3 u4 uj q1 q2 q3 q4 q5 q6 hw1 hw2 hw3 hw4 hw5 hw6 hs hsr hrh hge hen HP1 HP2
     generalize rot d s m en = D at *
     -- the rotation
     by_cases hA : s < m
     · by_cases hB : m < en
       · have k1 : decide (s < m) = true := decide_eq_true hA
         have k2 : decide (m < en) = true := decide_eq_true hB
         have HX := HRT.out hA hB _ HR.out
         clear HR HRT HNO hA hB
         go_wp2_with fail
         with_reducible refine HX.mono ?_
         rintro e w7 ⟨rfl, hr7⟩
         have HR1 : Hid (RP w0 w7 g N D) := hr7
         clear hr7 HX k1 k2
         go_upto_region 41 with (fail)
         by_cases hA : a < s
         · by_cases hB : s < mid
           · have k1 : decide (a < s) = true := decide_eq_true hA
             have k2 : decide (s < mid) = true := decide_eq_true hB
             have HX := IH.out a s mid D w7 (by have := HQ.out; omega) hA hB (by have := HQ.out; have := HB.out; omega) HR1.out HUS.out.1 HUS.out.2.1
             clear HR1 hA hB
             go_wp2_with fail
             with_reducible refine HX.mono ?_
             rintro e w8 ⟨rfl, hr8⟩
             obtain ⟨D1, hr2, hpm1, hup1⟩ := hr8
             have HR2 : Hid (RP w0 w8 g N D1) := hr2
             have HPM1 := Lib.hid hpm1
             have HUP1 := Lib.hid hup1
             clear hr2 hpm1 hup1 HX k1 k2
             go_upto_region 43 with (fail)
             have HV2 : Hid (Up (fun t => (D1 t).1) mid en ∧ Up (fun t => (D1 t).1) en b) := ⟨HUS.out.2.2.1.keep HPM1.out (by omega), HUS.out.2.2.2.keep HPM1.out (by have := HQ.out; omega)⟩
             have HFIN : Hid (∀ (wx : World) (D2 : Nat → (Int × Bool)), RP w0 wx g N D2 → Pm mid b D1 D2 → Up (fun t => (D2 t).1) mid b → ∃ d' : Nat → (Int × Bool), RP w0 wx g N d' ∧ Pm a b d d' ∧ Up (fun t => (d' t).1) a b) := fun wx D2 z1 z2 z3 =>
               ⟨D2, z1, HPM.out.trans ((HPM1.out.wide (Nat.le_refl _) (by have := HQ.out; omega)).trans (z2.wide (by have := HQ.out; omega) (Nat.le_refl _))), Up.join (key := Prod.fst) HUJ.out HPM1.out z2 HUP1.out z3⟩
             have HPM0 : Hid True := trivial
             clear HUS HPM0
             have HR1 := HR2
             have HV1 : Hid (Up (fun t => (D1 t).1) mid en ∧ Up (fun t => (D1 t).1) en b) := HV2
             by_cases hA : mid < en
             · by_cases hB : en < b
               · have k1 : decide (mid < en) = true := decide_eq_true hA
                 have k2 : decide (en < b) = true := decide_eq_true hB
                 have HX := IH.out mid en b D1 w8 (by have := HQ.out; omega) hA hB (by have := HQ.out; have := HB.out; omega) HR1.out HV1.out.1 HV1.out.2
                 clear HR1 HR2 hA hB
                 go_wp2_with fail
                 with_reducible refine HX.mono ?_
                 rintro e w9 ⟨rfl, hr9⟩
                 have HH := Lib.hid hr9; clear hr9 HX
                 go_wp2
                 go_returns
                 obtain ⟨D2, z1, z2, z3⟩ := HH.out
                 exact ⟨rfl, HFIN.out _ D2 z1 z2 z3⟩
               · have HE : Hid (∃ d' : Nat → (Int × Bool), RP w0 w8 g N d' ∧ Pm a b d d' ∧ Up (fun t => (d' t).1) a b) := HFIN.out w8 D1 HR1.out (Pm.refl _ _ _) (by
                   have e : en = b := by have hq := HQ.out; omega
                   have := HV1.out.1; rw [e] at this; exact this)
                 have k1 : decide (mid < en) = true := decide_eq_true hA
                 have k2 : decide (en < b) = false := decide_eq_false hB
                 clear HR1 HR2 HFIN hA hB
                 go_wp2
                 go_returns
                 exact ⟨rfl, HE.out⟩
             · have HE : Hid (∃ d' : Nat → (Int × Bool), RP w0 w8 g N d' ∧ Pm a b d d' ∧ Up (fun t => (d' t).1) a b) := HFIN.out w8 D1 HR1.out (Pm.refl _ _ _) (by
                 have e : en = mid := by have hq := HQ.out; omega
                 have := HV1.out.2; rw [e] at this; exact this)
               have k1 : decide (mid < en) = false := decide_eq_false hA
               clear HR1 HR2 HFIN hA
               go_wp2
               go_returns
               exact ⟨rfl, HE.out⟩

           · obtain ⟨D1, hD1⟩ : ∃ D1, D1 = D := ⟨_, rfl⟩
             have HR2 : Hid (RP w0 w7 g N D1) := by show _; rw [hD1]; exact HR1.out
             have HPM1 : Hid (Pm a mid D D1) := by show _; rw [hD1]; exact Pm.refl _ _ _
             have HUP1 : Hid (Up (fun t => (D1 t).1) a mid) := by
               show _
               have e : s = mid := by have hq := HQ.out; omega
               have := HUS.out.1; rw [e] at this; rw [hD1]; exact this
             have k1 : decide (a < s) = true := decide_eq_true hA
             have k2 : decide (s < mid) = false := decide_eq_false hB
             clear hA hB HR1 hD1
             go_upto_region 43 with (fail)
             clear k1 k2
             have HV2 : Hid (Up (fun t => (D1 t).1) mid en ∧ Up (fun t => (D1 t).1) en b) := ⟨HUS.out.2.2.1.keep HPM1.out (by omega), HUS.out.2.2.2.keep HPM1.out (by have := HQ.out; omega)⟩
             have HFIN : Hid (∀ (wx : World) (D2 : Nat → (Int × Bool)), RP w0 wx g N D2 → Pm mid b D1 D2 → Up (fun t => (D2 t).1) mid b → ∃ d' : Nat → (Int × Bool), RP w0 wx g N d' ∧ Pm a b d d' ∧ Up (fun t => (d' t).1) a b) := fun wx D2 z1 z2 z3 =>
               ⟨D2, z1, HPM.out.trans ((HPM1.out.wide (Nat.le_refl _) (by have := HQ.out; omega)).trans (z2.wide (by have := HQ.out; omega) (Nat.le_refl _))), Up.join (key := Prod.fst) HUJ.out HPM1.out z2 HUP1.out z3⟩
             have HPM0 : Hid True := trivial
             clear HUS HPM0
             have HR1 := HR2
             have HV1 : Hid (Up (fun t => (D1 t).1) mid en ∧ Up (fun t => (D1 t).1) en b) := HV2
             by_cases hA : mid < en
             · by_cases hB : en < b
               · have k1 : decide (mid < en) = true := decide_eq_true hA
                 have k2 : decide (en < b) = true := decide_eq_true hB
                 have HX := IH.out mid en b D1 w7 (by have := HQ.out; omega) hA hB (by have := HQ.out; have := HB.out; omega) HR1.out HV1.out.1 HV1.out.2
                 clear HR1 HR2 hA hB
                 go_wp2_with fail
                 with_reducible refine HX.mono ?_
                 rintro e w9 ⟨rfl, hr9⟩
                 have HH := Lib.hid hr9; clear hr9 HX
                 go_wp2
                 go_returns
                 obtain ⟨D2, z1, z2, z3⟩ := HH.out
                 exact ⟨rfl, HFIN.out _ D2 z1 z2 z3⟩
               · have HE : Hid (∃ d' : Nat → (Int × Bool), RP w0 w7 g N d' ∧ Pm a b d d' ∧ Up (fun t => (d' t).1) a b) := HFIN.out w7 D1 HR1.out (Pm.refl _ _ _) (by
                   have e : en = b := by have hq := HQ.out; omega
                   have := HV1.out.1; rw [e] at this; exact this)
                 have k1 : decide (mid < en) = true := decide_eq_true hA
                 have k2 : decide (en < b) = false := decide_eq_false hB
                 clear HR1 HR2 HFIN hA hB
                 go_wp2
                 go_returns
                 exact ⟨rfl, HE.out⟩
             · have HE : Hid (∃ d' : Nat → (Int × Bool), RP w0 w7 g N d' ∧ Pm a b d d' ∧ Up (fun t => (d' t).1) a b) := HFIN.out w7 D1 HR1.out (Pm.refl _ _ _) (by
                 have e : en = mid := by have hq := HQ.out; omega
                 have := HV1.out.2; rw [e] at this; exact this)
               have k1 : decide (mid < en) = false := decide_eq_false hA
               clear HR1 HR2 HFIN hA
               go_wp2
               go_returns
               exact ⟨rfl, HE.out⟩

         · obtain ⟨D1, hD1⟩ : ∃ D1, D1 = D := ⟨_, rfl⟩
           have HR2 : Hid (RP w0 w7 g N D1) := by show _; rw [hD1]; exact HR1.out
           have HPM1 : Hid (Pm a mid D D1) := by show _; rw [hD1]; exact Pm.refl _ _ _
           have HUP1 : Hid (Up (fun t => (D1 t).1) a mid) := by
             show _
             have e : s = a := by have hq := HQ.out; omega
             have := HUS.out.2.1; rw [e] at this; rw [hD1]; exact this
           have k1 : decide (a < s) = false := decide_eq_false hA
           clear hA HR1 hD1
           go_upto_region 43 with (fail)
           clear k1
           have HV2 : Hid (Up (fun t => (D1 t).1) mid en ∧ Up (fun t => (D1 t).1) en b) := ⟨HUS.out.2.2.1.keep HPM1.out (by omega), HUS.out.2.2.2.keep HPM1.out (by have := HQ.out; omega)⟩
           have HFIN : Hid (∀ (wx : World) (D2 : Nat → (Int × Bool)), RP w0 wx g N D2 → Pm mid b D1 D2 → Up (fun t => (D2 t).1) mid b → ∃ d' : Nat → (Int × Bool), RP w0 wx g N d' ∧ Pm a b d d' ∧ Up (fun t => (d' t).1) a b) := fun wx D2 z1 z2 z3 =>
             ⟨D2, z1, HPM.out.trans ((HPM1.out.wide (Nat.le_refl _) (by have := HQ.out; omega)).trans (z2.wide (by have := HQ.out; omega) (Nat.le_refl _))), Up.join (key := Prod.fst) HUJ.out HPM1.out z2 HUP1.out z3⟩
           have HPM0 : Hid True := trivial
           clear HUS HPM0
           have HR1 := HR2
           have HV1 : Hid (Up (fun t => (D1 t).1) mid en ∧ Up (fun t => (D1 t).1) en b) := HV2
           by_cases hA : mid < en
           · by_cases hB : en < b
             · have k1 : decide (mid < en) = true := decide_eq_true hA
               have k2 : decide (en < b) = true := decide_eq_true hB
               have HX := IH.out mid en b D1 w7 (by have := HQ.out; omega) hA hB (by have := HQ.out; have := HB.out; omega) HR1.out HV1.out.1 HV1.out.2
               clear HR1 HR2 hA hB
               go_wp2_with fail
               with_reducible refine HX.mono ?_
               rintro e w9 ⟨rfl, hr9⟩
               have HH := Lib.hid hr9; clear hr9 HX
               go_wp2
               go_returns
               obtain ⟨D2, z1, z2, z3⟩ := HH.out
               exact ⟨rfl, HFIN.out _ D2 z1 z2 z3⟩
             · have HE : Hid (∃ d' : Nat → (Int × Bool), RP w0 w7 g N d' ∧ Pm a b d d' ∧ Up (fun t => (d' t).1) a b) := HFIN.out w7 D1 HR1.out (Pm.refl _ _ _) (by
                 have e : en = b := by have hq := HQ.out; omega
                 have := HV1.out.1; rw [e] at this; exact this)
               have k1 : decide (mid < en) = true := decide_eq_true hA
               have k2 : decide (en < b) = false := decide_eq_false hB
               clear HR1 HR2 HFIN hA hB
               go_wp2
               go_returns
               exact ⟨rfl, HE.out⟩
           · have HE : Hid (∃ d' : Nat → (Int × Bool), RP w0 w7 g N d' ∧ Pm a b d d' ∧ Up (fun t => (d' t).1) a b) := HFIN.out w7 D1 HR1.out (Pm.refl _ _ _) (by
               have e : en = mid := by have hq := HQ.out; omega
               have := HV1.out.2; rw [e] at this; exact this)
             have k1 : decide (mid < en) = false := decide_eq_false hA
             clear HR1 HR2 HFIN hA
             go_wp2
             go_returns
             exact ⟨rfl, HE.out⟩

       · have HR1 : Hid (RP w0 wr g N D) := by have e := HNO.out (by omega); show _; rw [e]; exact HR.out
         have k1 : decide (s < m) = true := decide_eq_true hA
         have k2 : decide (m < en) = false := decide_eq_false hB
         clear hA hB HR HRT HNO
         go_upto_region 41 with (fail)
         clear k1 k2
         by_cases hA : a < s
         · by_cases hB : s < mid
           · have k1 : decide (a < s) = true := decide_eq_true hA
             have k2 : decide (s < mid) = true := decide_eq_true hB
             have HX := IH.out a s mid D wr (by have := HQ.out; omega) hA hB (by have := HQ.out; have := HB.out; omega) HR1.out HUS.out.1 HUS.out.2.1
             clear HR1 hA hB
             go_wp2_with fail
             with_reducible refine HX.mono ?_
             rintro e w8 ⟨rfl, hr8⟩
             obtain ⟨D1, hr2, hpm1, hup1⟩ := hr8
             have HR2 : Hid (RP w0 w8 g N D1) := hr2
             have HPM1 := Lib.hid hpm1
             have HUP1 := Lib.hid hup1
             clear hr2 hpm1 hup1 HX k1 k2
             go_upto_region 43 with (fail)
             have HV2 : Hid (Up (fun t => (D1 t).1) mid en ∧ Up (fun t => (D1 t).1) en b) := ⟨HUS.out.2.2.1.keep HPM1.out (by omega), HUS.out.2.2.2.keep HPM1.out (by have := HQ.out; omega)⟩
             have HFIN : Hid (∀ (wx : World) (D2 : Nat → (Int × Bool)), RP w0 wx g N D2 → Pm mid b D1 D2 → Up (fun t => (D2 t).1) mid b → ∃ d' : Nat → (Int × Bool), RP w0 wx g N d' ∧ Pm a b d d' ∧ Up (fun t => (d' t).1) a b) := fun wx D2 z1 z2 z3 =>
               ⟨D2, z1, HPM.out.trans ((HPM1.out.wide (Nat.le_refl _) (by have := HQ.out; omega)).trans (z2.wide (by have := HQ.out; omega) (Nat.le_refl _))), Up.join (key := Prod.fst) HUJ.out HPM1.out z2 HUP1.out z3⟩
             have HPM0 : Hid True := trivial
             clear HUS HPM0
             have HR1 := HR2
             have HV1 : Hid (Up (fun t => (D1 t).1) mid en ∧ Up (fun t => (D1 t).1) en b) := HV2
             by_cases hA : mid < en
             · by_cases hB : en < b
               · have k1 : decide (mid < en) = true := decide_eq_true hA
                 have k2 : decide (en < b) = true := decide_eq_true hB
                 have HX := IH.out mid en b D1 w8 (by have := HQ.out; omega) hA hB (by have := HQ.out; have := HB.out; omega) HR1.out HV1.out.1 HV1.out.2
                 clear HR1 HR2 hA hB
                 go_wp2_with fail
                 with_reducible refine HX.mono ?_
                 rintro e w9 ⟨rfl, hr9⟩
                 have HH := Lib.hid hr9; clear hr9 HX
                 go_wp2
                 go_returns
                 obtain ⟨D2, z1, z2, z3⟩ := HH.out
                 exact ⟨rfl, HFIN.out _ D2 z1 z2 z3⟩
               · have HE : Hid (∃ d' : Nat → (Int × Bool), RP w0 w8 g N d' ∧ Pm a b d d' ∧ Up (fun t => (d' t).1) a b) := HFIN.out w8 D1 HR1.out (Pm.refl _ _ _) (by
                   have e : en = b := by have hq := HQ.out; omega
                   have := HV1.out.1; rw [e] at this; exact this)
                 have k1 : decide (mid < en) = true := decide_eq_true hA
                 have k2 : decide (en < b) = false := decide_eq_false hB
                 clear HR1 HR2 HFIN hA hB
                 go_wp2
                 go_returns
                 exact ⟨rfl, HE.out⟩
             · have HE : Hid (∃ d' : Nat → (Int × Bool), RP w0 w8 g N d' ∧ Pm a b d d' ∧ Up (fun t => (d' t).1) a b) := HFIN.out w8 D1 HR1.out (Pm.refl _ _ _) (by
                 have e : en = mid := by have hq := HQ.out; omega
                 have := HV1.out.2; rw [e] at this; exact this)
               have k1 : decide (mid < en) = false := decide_eq_false hA
               clear HR1 HR2 HFIN hA
               go_wp2
               go_returns
               exact ⟨rfl, HE.out⟩

           · obtain ⟨D1, hD1⟩ : ∃ D1, D1 = D := ⟨_, rfl⟩
             have HR2 : Hid (RP w0 wr g N D1) := by show _; rw [hD1]; exact HR1.out
             have HPM1 : Hid (Pm a mid D D1) := by show _; rw [hD1]; exact Pm.refl _ _ _
             have HUP1 : Hid (Up (fun t => (D1 t).1) a mid) := by
               show _
               have e : s = mid := by have hq := HQ.out; omega
               have := HUS.out.1; rw [e] at this; rw [hD1]; exact this
             have k1 : decide (a < s) = true := decide_eq_true hA
             have k2 : decide (s < mid) = false := decide_eq_false hB
             clear hA hB HR1 hD1
             go_upto_region 43 with (fail)
             clear k1 k2
             have HV2 : Hid (Up (fun t => (D1 t).1) mid en ∧ Up (fun t => (D1 t).1) en b) := ⟨HUS.out.2.2.1.keep HPM1.out (by omega), HUS.out.2.2.2.keep HPM1.out (by have := HQ.out; omega)⟩
             have HFIN : Hid (∀ (wx : World) (D2 : Nat → (Int × Bool)), RP w0 wx g N D2 → Pm mid b D1 D2 → Up (fun t => (D2 t).1) mid b → ∃ d' : Nat → (Int × Bool), RP w0 wx g N d' ∧ Pm a b d d' ∧ Up (fun t => (d' t).1) a b) := fun wx D2 z1 z2 z3 =>
               ⟨D2, z1, HPM.out.trans ((HPM1.out.wide (Nat.le_refl _) (by have := HQ.out; omega)).trans (z2.wide (by have := HQ.out; omega) (Nat.le_refl _))), Up.join (key := Prod.fst) HUJ.out HPM1.out z2 HUP1.out z3⟩
             have HPM0 : Hid True := trivial
             clear HUS HPM0
             have HR1 := HR2
             have HV1 : Hid (Up (fun t => (D1 t).1) mid en ∧ Up (fun t => (D1 t).1) en b) := HV2
             by_cases hA : mid < en
             · by_cases hB : en < b
               · have k1 : decide (mid < en) = true := decide_eq_true hA
                 have k2 : decide (en < b) = true := decide_eq_true hB
                 have HX := IH.out mid en b D1 wr (by have := HQ.out; omega) hA hB (by have := HQ.out; have := HB.out; omega) HR1.out HV1.out.1 HV1.out.2
                 clear HR1 HR2 hA hB
                 go_wp2_with fail
                 with_reducible refine HX.mono ?_
                 rintro e w9 ⟨rfl, hr9⟩
                 have HH := Lib.hid hr9; clear hr9 HX
                 go_wp2
                 go_returns
                 obtain ⟨D2, z1, z2, z3⟩ := HH.out
                 exact ⟨rfl, HFIN.out _ D2 z1 z2 z3⟩
               · have HE : Hid (∃ d' : Nat → (Int × Bool), RP w0 wr g N d' ∧ Pm a b d d' ∧ Up (fun t => (d' t).1) a b) := HFIN.out wr D1 HR1.out (Pm.refl _ _ _) (by
                   have e : en = b := by have hq := HQ.out; omega
                   have := HV1.out.1; rw [e] at this; exact this)
                 have k1 : decide (mid < en) = true := decide_eq_true hA
                 have k2 : decide (en < b) = false := decide_eq_false hB
                 clear HR1 HR2 HFIN hA hB
                 go_wp2
                 go_returns
                 exact ⟨rfl, HE.out⟩
             · have HE : Hid (∃ d' : Nat → (Int × Bool), RP w0 wr g N d' ∧ Pm a b d d' ∧ Up (fun t => (d' t).1) a b) := HFIN.out wr D1 HR1.out (Pm.refl _ _ _) (by
                 have e : en = mid := by have hq := HQ.out; omega
                 have := HV1.out.2; rw [e] at this; exact this)
               have k1 : decide (mid < en) = false := decide_eq_false hA
               clear HR1 HR2 HFIN hA
               go_wp2
               go_returns
               exact ⟨rfl, HE.out⟩

         · obtain ⟨D1, hD1⟩ : ∃ D1, D1 = D := ⟨_, rfl⟩
           have HR2 : Hid (RP w0 wr g N D1) := by show _; rw [hD1]; exact HR1.out
           have HPM1 : Hid (Pm a mid D D1) := by show _; rw [hD1]; exact Pm.refl _ _ _
           have HUP1 : Hid (Up (fun t => (D1 t).1) a mid) := by
             show _
             have e : s = a := by have hq := HQ.out; omega
             have := HUS.out.2.1; rw [e] at this; rw [hD1]; exact this
           have k1 : decide (a < s) = false := decide_eq_false hA
           clear hA HR1 hD1
           go_upto_region 43 with (fail)
           clear k1
           have HV2 : Hid (Up (fun t => (D1 t).1) mid en ∧ Up (fun t => (D1 t).1) en b) := ⟨HUS.out.2.2.1.keep HPM1.out (by omega), HUS.out.2.2.2.keep HPM1.out (by have := HQ.out; omega)⟩
           have HFIN : Hid (∀ (wx : World) (D2 : Nat → (Int × Bool)), RP w0 wx g N D2 → Pm mid b D1 D2 → Up (fun t => (D2 t).1) mid b → ∃ d' : Nat → (Int × Bool), RP w0 wx g N d' ∧ Pm a b d d' ∧ Up (fun t => (d' t).1) a b) := fun wx D2 z1 z2 z3 =>
             ⟨D2, z1, HPM.out.trans ((HPM1.out.wide (Nat.le_refl _) (by have := HQ.out; omega)).trans (z2.wide (by have := HQ.out; omega) (Nat.le_refl _))), Up.join (key := Prod.fst) HUJ.out HPM1.out z2 HUP1.out z3⟩
           have HPM0 : Hid True := trivial
           clear HUS HPM0
           have HR1 := HR2
           have HV1 : Hid (Up (fun t => (D1 t).1) mid en ∧ Up (fun t => (D1 t).1) en b) := HV2
           by_cases hA : mid < en
           · by_cases hB : en < b
             · have k1 : decide (mid < en) = true := decide_eq_true hA
               have k2 : decide (en < b) = true := decide_eq_true hB
               have HX := IH.out mid en b D1 wr (by have := HQ.out; omega) hA hB (by have := HQ.out; have := HB.out; omega) HR1.out HV1.out.1 HV1.out.2
               clear HR1 HR2 hA hB
               go_wp2_with fail
               with_reducible refine HX.mono ?_
               rintro e w9 ⟨rfl, hr9⟩
               have HH := Lib.hid hr9; clear hr9 HX
               go_wp2
               go_returns
               obtain ⟨D2, z1, z2, z3⟩ := HH.out
               exact ⟨rfl, HFIN.out _ D2 z1 z2 z3⟩
             · have HE : Hid (∃ d' : Nat → (Int × Bool), RP w0 wr g N d' ∧ Pm a b d d' ∧ Up (fun t => (d' t).1) a b) := HFIN.out wr D1 HR1.out (Pm.refl _ _ _) (by
                 have e : en = b := by have hq := HQ.out; omega
                 have := HV1.out.1; rw [e] at this; exact this)
               have k1 : decide (mid < en) = true := decide_eq_true hA
               have k2 : decide (en < b) = false := decide_eq_false hB
               clear HR1 HR2 HFIN hA hB
               go_wp2
               go_returns
               exact ⟨rfl, HE.out⟩
           · have HE : Hid (∃ d' : Nat → (Int × Bool), RP w0 wr g N d' ∧ Pm a b d d' ∧ Up (fun t => (d' t).1) a b) := HFIN.out wr D1 HR1.out (Pm.refl _ _ _) (by
               have e : en = mid := by have hq := HQ.out; omega
               have := HV1.out.2; rw [e] at this; exact this)
             have k1 : decide (mid < en) = false := decide_eq_false hA
             clear HR1 HR2 HFIN hA
             go_wp2
             go_returns
             exact ⟨rfl, HE.out⟩

     · have HR1 : Hid (RP w0 wr g N D) := by have e := HNO.out (by omega); show _; rw [e]; exact HR.out
       have k1 : decide (s < m) = false := decide_eq_false hA
       clear hA HR HRT HNO
       go_upto_region 41 with (fail)
       clear k1
       by_cases hA : a < s
       · by_cases hB : s < mid
         · have k1 : decide (a < s) = true := decide_eq_true hA
           have k2 : decide (s < mid) = true := decide_eq_true hB
           have HX := IH.out a s mid D wr (by have := HQ.out; omega) hA hB (by have := HQ.out; have := HB.out; omega) HR1.out HUS.out.1 HUS.out.2.1
           clear HR1 hA hB
           go_wp2_with fail
           with_reducible refine HX.mono ?_
           rintro e w8 ⟨rfl, hr8⟩
           obtain ⟨D1, hr2, hpm1, hup1⟩ := hr8
           have HR2 : Hid (RP w0 w8 g N D1) := hr2
           have HPM1 := Lib.hid hpm1
           have HUP1 := Lib.hid hup1
           clear hr2 hpm1 hup1 HX k1 k2
           go_upto_region 43 with (fail)
           have HV2 : Hid (Up (fun t => (D1 t).1) mid en ∧ Up (fun t => (D1 t).1) en b) := ⟨HUS.out.2.2.1.keep HPM1.out (by omega), HUS.out.2.2.2.keep HPM1.out (by have := HQ.out; omega)⟩
           have HFIN : Hid (∀ (wx : World) (D2 : Nat → (Int × Bool)), RP w0 wx g N D2 → Pm mid b D1 D2 → Up (fun t => (D2 t).1) mid b → ∃ d' : Nat → (Int × Bool), RP w0 wx g N d' ∧ Pm a b d d' ∧ Up (fun t => (d' t).1) a b) := fun wx D2 z1 z2 z3 =>
             ⟨D2, z1, HPM.out.trans ((HPM1.out.wide (Nat.le_refl _) (by have := HQ.out; omega)).trans (z2.wide (by have := HQ.out; omega) (Nat.le_refl _))), Up.join (key := Prod.fst) HUJ.out HPM1.out z2 HUP1.out z3⟩
           have HPM0 : Hid True := trivial
           clear HUS HPM0
           have HR1 := HR2
           have HV1 : Hid (Up (fun t => (D1 t).1) mid en ∧ Up (fun t => (D1 t).1) en b) := HV2
           by_cases hA : mid < en
           · by_cases hB : en < b
             · have k1 : decide (mid < en) = true := decide_eq_true hA
               have k2 : decide (en < b) = true := decide_eq_true hB
               have HX := IH.out mid en b D1 w8 (by have := HQ.out; omega) hA hB (by have := HQ.out; have := HB.out; omega) HR1.out HV1.out.1 HV1.out.2
               clear HR1 HR2 hA hB
               go_wp2_with fail
               with_reducible refine HX.mono ?_
               rintro e w9 ⟨rfl, hr9⟩
               have HH := Lib.hid hr9; clear hr9 HX
               go_wp2
               go_returns
               obtain ⟨D2, z1, z2, z3⟩ := HH.out
               exact ⟨rfl, HFIN.out _ D2 z1 z2 z3⟩
             · have HE : Hid (∃ d' : Nat → (Int × Bool), RP w0 w8 g N d' ∧ Pm a b d d' ∧ Up (fun t => (d' t).1) a b) := HFIN.out w8 D1 HR1.out (Pm.refl _ _ _) (by
                 have e : en = b := by have hq := HQ.out; omega
                 have := HV1.out.1; rw [e] at this; exact this)
               have k1 : decide (mid < en) = true := decide_eq_true hA
               have k2 : decide (en < b) = false := decide_eq_false hB
               clear HR1 HR2 HFIN hA hB
               go_wp2
               go_returns
               exact ⟨rfl, HE.out⟩
           · have HE : Hid (∃ d' : Nat → (Int × Bool), RP w0 w8 g N d' ∧ Pm a b d d' ∧ Up (fun t => (d' t).1) a b) := HFIN.out w8 D1 HR1.out (Pm.refl _ _ _) (by
               have e : en = mid := by have hq := HQ.out; omega
               have := HV1.out.2; rw [e] at this; exact this)
             have k1 : decide (mid < en) = false := decide_eq_false hA
             clear HR1 HR2 HFIN hA
             go_wp2
             go_returns
             exact ⟨rfl, HE.out⟩

         · obtain ⟨D1, hD1⟩ : ∃ D1, D1 = D := ⟨_, rfl⟩
           have HR2 : Hid (RP w0 wr g N D1) := by show _; rw [hD1]; exact HR1.out
           have HPM1 : Hid (Pm a mid D D1) := by show _; rw [hD1]; exact Pm.refl _ _ _
           have HUP1 : Hid (Up (fun t => (D1 t).1) a mid) := by
             show _
             have e : s = mid := by have hq := HQ.out; omega
             have := HUS.out.1; rw [e] at this; rw [hD1]; exact this
           have k1 : decide (a < s) = true := decide_eq_true hA
           have k2 : decide (s < mid) = false := decide_eq_false hB
           clear hA hB HR1 hD1
           go_upto_region 43 with (fail)
           clear k1 k2
           have HV2 : Hid (Up (fun t => (D1 t).1) mid en ∧ Up (fun t => (D1 t).1) en b) := ⟨HUS.out.2.2.1.keep HPM1.out (by omega), HUS.out.2.2.2.keep HPM1.out (by have := HQ.out; omega)⟩
           have HFIN : Hid (∀ (wx : World) (D2 : Nat → (Int × Bool)), RP w0 wx g N D2 → Pm mid b D1 D2 → Up (fun t => (D2 t).1) mid b → ∃ d' : Nat → (Int × Bool), RP w0 wx g N d' ∧ Pm a b d d' ∧ Up (fun t => (d' t).1) a b) := fun wx D2 z1 z2 z3 =>
             ⟨D2, z1, HPM.out.trans ((HPM1.out.wide (Nat.le_refl _) (by have := HQ.out; omega)).trans (z2.wide (by have := HQ.out; omega) (Nat.le_refl _))), Up.join (key := Prod.fst) HUJ.out HPM1.out z2 HUP1.out z3⟩
           have HPM0 : Hid True := trivial
           clear HUS HPM0
           have HR1 := HR2
           have HV1 : Hid (Up (fun t => (D1 t).1) mid en ∧ Up (fun t => (D1 t).1) en b) := HV2
           by_cases hA : mid < en
           · by_cases hB : en < b
             · have k1 : decide (mid < en) = true := decide_eq_true hA
               have k2 : decide (en < b) = true := decide_eq_true hB
               have HX := IH.out mid en b D1 wr (by have := HQ.out; omega) hA hB (by have := HQ.out; have := HB.out; omega) HR1.out HV1.out.1 HV1.out.2
               clear HR1 HR2 hA hB
               go_wp2_with fail
               with_reducible refine HX.mono ?_
               rintro e w9 ⟨rfl, hr9⟩
               have HH := Lib.hid hr9; clear hr9 HX
               go_wp2
               go_returns
               obtain ⟨D2, z1, z2, z3⟩ := HH.out
               exact ⟨rfl, HFIN.out _ D2 z1 z2 z3⟩
             · have HE : Hid (∃ d' : Nat → (Int × Bool), RP w0 wr g N d' ∧ Pm a b d d' ∧ Up (fun t => (d' t).1) a b) := HFIN.out wr D1 HR1.out (Pm.refl _ _ _) (by
                 have e : en = b := by have hq := HQ.out; omega
                 have := HV1.out.1; rw [e] at this; exact this)
               have k1 : decide (mid < en) = true := decide_eq_true hA
               have k2 : decide (en < b) = false := decide_eq_false hB
               clear HR1 HR2 HFIN hA hB
               go_wp2
               go_returns
               exact ⟨rfl, HE.out⟩
           · have HE : Hid (∃ d' : Nat → (Int × Bool), RP w0 wr g N d' ∧ Pm a b d d' ∧ Up (fun t => (d' t).1) a b) := HFIN.out wr D1 HR1.out (Pm.refl _ _ _) (by
               have e : en = mid := by have hq := HQ.out; omega
               have := HV1.out.2; rw [e] at this; exact this)
             have k1 : decide (mid < en) = false := decide_eq_false hA
             clear HR1 HR2 HFIN hA
             go_wp2
             go_returns
             exact ⟨rfl, HE.out⟩

       · obtain ⟨D1, hD1⟩ : ∃ D1, D1 = D := ⟨_, rfl⟩
         have HR2 : Hid (RP w0 wr g N D1) := by show _; rw [hD1]; exact HR1.out
         have HPM1 : Hid (Pm a mid D D1) := by show _; rw [hD1]; exact Pm.refl _ _ _
         have HUP1 : Hid (Up (fun t => (D1 t).1) a mid) := by
           show _
           have e : s = a := by have hq := HQ.out; omega
           have := HUS.out.2.1; rw [e] at this; rw [hD1]; exact this
         have k1 : decide (a < s) = false := decide_eq_false hA
         clear hA HR1 hD1
         go_upto_region 43 with (fail)
         clear k1
         have HV2 : Hid (Up (fun t => (D1 t).1) mid en ∧ Up (fun t => (D1 t).1) en b) := ⟨HUS.out.2.2.1.keep HPM1.out (by omega), HUS.out.2.2.2.keep HPM1.out (by have := HQ.out; omega)⟩
         have HFIN : Hid (∀ (wx : World) (D2 : Nat → (Int × Bool)), RP w0 wx g N D2 → Pm mid b D1 D2 → Up (fun t => (D2 t).1) mid b → ∃ d' : Nat → (Int × Bool), RP w0 wx g N d' ∧ Pm a b d d' ∧ Up (fun t => (d' t).1) a b) := fun wx D2 z1 z2 z3 =>
           ⟨D2, z1, HPM.out.trans ((HPM1.out.wide (Nat.le_refl _) (by have := HQ.out; omega)).trans (z2.wide (by have := HQ.out; omega) (Nat.le_refl _))), Up.join (key := Prod.fst) HUJ.out HPM1.out z2 HUP1.out z3⟩
         have HPM0 : Hid True := trivial
         clear HUS HPM0
         have HR1 := HR2
         have HV1 : Hid (Up (fun t => (D1 t).1) mid en ∧ Up (fun t => (D1 t).1) en b) := HV2
         by_cases hA : mid < en
         · by_cases hB : en < b
           · have k1 : decide (mid < en) = true := decide_eq_true hA
             have k2 : decide (en < b) = true := decide_eq_true hB
             have HX := IH.out mid en b D1 wr (by have := HQ.out; omega) hA hB (by have := HQ.out; have := HB.out; omega) HR1.out HV1.out.1 HV1.out.2
             clear HR1 HR2 hA hB
             go_wp2_with fail
             with_reducible refine HX.mono ?_
             rintro e w9 ⟨rfl, hr9⟩
             have HH := Lib.hid hr9; clear hr9 HX
             go_wp2
             go_returns
             obtain ⟨D2, z1, z2, z3⟩ := HH.out
             exact ⟨rfl, HFIN.out _ D2 z1 z2 z3⟩
           · have HE : Hid (∃ d' : Nat → (Int × Bool), RP w0 wr g N d' ∧ Pm a b d d' ∧ Up (fun t => (d' t).1) a b) := HFIN.out wr D1 HR1.out (Pm.refl _ _ _) (by
               have e : en = b := by have hq := HQ.out; omega
               have := HV1.out.1; rw [e] at this; exact this)
             have k1 : decide (mid < en) = true := decide_eq_true hA
             have k2 : decide (en < b) = false := decide_eq_false hB
             clear HR1 HR2 HFIN hA hB
             go_wp2
             go_returns
             exact ⟨rfl, HE.out⟩
         · have HE : Hid (∃ d' : Nat → (Int × Bool), RP w0 wr g N d' ∧ Pm a b d d' ∧ Up (fun t => (d' t).1) a b) := HFIN.out wr D1 HR1.out (Pm.refl _ _ _) (by
             have e : en = mid := by have hq := HQ.out; omega
             have := HV1.out.2; rw [e] at this; exact this)
           have k1 : decide (mid < en) = false := decide_eq_false hA
           clear HR1 HR2 HFIN hA
           go_wp2
           go_returns
           exact ⟨rfl, HE.out⟩

theorem symP (w0 : World) (g N cap : Nat) (hN : N ≤ 1000000) (hc : N ≤ cap) (L : Nat) : SymP w0 g N cap L := by
 induction L with
 | zero => intro a m b d w h; omega
 | succ L ih =>
   intro a m b d w hL h1 h2 h3 hR hu hv
   by_cases c1 : m = a + 1
   · exact symAP w0 g N cap a m b d w hR hN hc c1 h2 h3 hv
   · by_cases c2 : b = m + 1
     · exact symBP w0 g N cap a m b d w hR hN hc (by omega) c2 h3 hu
     · have ih' : SymP w0 g N cap (b - a) := fun a' m' b' d' w' x1 x2 x3 x4 x5 x6 x7 => ih a' m' b' d' w' (by omega) x2 x3 x4 x5 x6 x7
       rcases Nat.lt_or_ge ((a + b) / 2) m with c | c
       · exact symCP w0 g N cap a m b ((a + b) / 2) ((a + b) / 2 + m - b) ((a + b) / 2) d w ih' hR hN hc (by omega) (by omega) h3 hu hv rfl (.inl ⟨c, rfl, rfl⟩)
       · exact symCP w0 g N cap a m b ((a + b) / 2) a m d w ih' hR hN hc (by omega) (by omega) h3 hu hv rfl (.inr ⟨c, rfl, rfl⟩)
end Go.Proofs.YtenkkononchgmaaGreatDoor

/- The walk of the stable sort. -/
namespace Go.Proofs.YtenkkononchgmaaGreatDoor
open Go.RowKit Go Go.Sort

set_option maxRecDepth 100000 in
set_option maxHeartbeats 8000000 in
theorem stableP (w0 : World) (g N cap : Nat) (d : Nat → (Int × Bool)) (w : World) (hR : RP w0 w g N d) (hN : N ≤ 1000000) (hc : N ≤ cap) :
   Calls Tryz.prog 171 #[.slice (some ⟨g, 0, none⟩) N cap, .int .i64 N, (Value.func (.func 167) #[] #[])] w fun e w' => e = .returned (.tuple #[]) ∧ ∃ d' : Nat → (Int × Bool), RP w0 w' g N d' ∧ Pm 0 N d d' ∧ Up (fun t => (d' t).1) 0 N := by
 have H0 : Hid (RP w0 w g N d) := hR
 have HN := Lib.hid hN
 have HC := Lib.hid hc
 have SYM : Hid (∀ L, SymP w0 g N cap L) := fun L => symP w0 g N cap hN hc L
 have INS : Hid (∀ (a b : Nat) (dk : Nat → (Int × Bool)) (wx : World), RP w0 wx g N dk → a ≤ b → b ≤ N → Calls Tryz.prog 174 #[.slice (some ⟨g, 0, none⟩) N cap, .int .i64 a, .int .i64 b, (Value.func (.func 167) #[] #[])] wx fun e w' => e = .returned (.tuple #[]) ∧ ∃ d' : Nat → (Int × Bool), RP w0 w' g N d' ∧ Pm a b dk d' ∧ Up (fun t => (d' t).1) a b) :=
   fun a b dk wx h1 h2 h3 => insertionP w0 g N cap a b dk wx h1 hN hc h2 h3
 have N6 : (N : Int) ≤ 1000000 := by omega
 clear hR hN hc 
 go_enter Tryz.func171, Tryz.ntmps171
 go_wp2_with fail
 -- blocks of twenty
 go_loopw [7, 8] (fun v7 v8 wr => ∃ (q : Nat) (dk : Nat → (Int × Bool)), v7 = .int .i64 ((q * 20 : Nat) : Int) ∧ v8 = .int .i64 ((q * 20 + 20 : Nat) : Int) ∧ q * 20 ≤ N ∧ RP w0 wr g N dk ∧ Pm 0 N d dk ∧ Bd (fun t => (dk t).1) 20 (q * 20)) (fun v7 _ _ => (N - intOf v7).toNat)
 case atStart => exact ⟨0, d, rfl, rfl, by omega, H0.out, Pm.refl _ _ _, fun q hq => by omega⟩
 case round =>
   clear H0
   obtain ⟨q, dk, rfl, rfl, hq, hr, hpm, hbd⟩ := hrel
   have HR := Lib.hid hr; clear hr
   have HP := Lib.hid hpm; clear hpm
   have HBD := Lib.hid hbd; clear hbd
   obtain ⟨a, ha⟩ : ∃ a, a = q * 20 := ⟨_, rfl⟩
   obtain ⟨b, hb⟩ : ∃ b, b = q * 20 + 20 := ⟨_, rfl⟩
   rw [← hb, ← ha]
   rw [← ha] at hq
   have HAB : Hid (a = q * 20 ∧ b = q * 20 + 20) := ⟨ha, hb⟩
   have hba : b = a + 20 := by omega
   have HBA := Lib.hid hba
   have b6 : (b : Int) ≤ 1000020 := by omega
   have a6 : (a : Int) ≤ 1000000 := by omega
   by_cases hlt : b ≤ N
   · have hdi : decide (b ≤ N) = true := decide_eq_true hlt
     have HX := INS.out a b dk wr HR.out (by omega) hlt
     have HL := Lib.hid hlt
     clear ha hb hba HR hq hlt
     go_wp2_with fail
     with_reducible refine HX.mono ?_
     rintro e w1 ⟨rfl, hr1⟩
     have HH := Lib.hid hr1; clear hr1 HX
     go_wp2
     obtain ⟨d1, z1, z2, z3⟩ := HH.out
     obtain ⟨ea, eb⟩ := HAB.out
     have := HL.out
     refine ⟨⟨q + 1, d1, by congr 1; omega, by first | (congr 1; omega) | go_num, by omega, z1, HP.out.trans (z2.wide (Nat.zero_le _) HL.out), ?_⟩, by simp [intOf]; omega⟩
     refine Bd.add (by omega) (HBD.out.keep z2 (by omega)) ?_
     rw [← ea, show a + 20 = b by omega]
     exact z3
   · have hdi : decide (b ≤ N) = false := decide_eq_false hlt
     have HX := INS.out a N dk wr HR.out hq (Nat.le_refl _)
     have HL := Lib.hid hlt
     clear ha hb hba HR hq hlt
     go_wp2_with fail
     with_reducible refine HX.mono ?_
     rintro e w1 ⟨rfl, hr1⟩
     obtain ⟨d1, z1, z2, z3⟩ := hr1
     have HR1 : Hid (RP w0 w1 g N d1) := z1
     have HP1 : Hid (Pm 0 N d d1) := HP.out.trans (z2.wide (Nat.zero_le _) (Nat.le_refl _))
     have HBL : Hid (Bl (fun t => (d1 t).1) 20 0 N) := by
       obtain ⟨ea, eb⟩ := HAB.out
       refine Bd.whole (k := q) (HBD.out.keep z2 (by omega)) ?_
       rw [← ea]; exact z3
     clear z1 z2 z3 HX HP HBD HL HAB HBA hdi
     go_wp2_with fail
     generalize wr = wo at *
     -- blocks of twice the size
     go_loopw [6, 7, 8, 9] (fun v6 v7 v8 v9 wr => ∃ (bs : Nat) (dk : Nat → (Int × Bool)), v6 = .int .i64 (bs : Int) ∧ 20 ≤ bs ∧ bs ≤ 2000000 ∧ RP w0 wr g N dk ∧ Pm 0 N d dk ∧ Bl (fun t => (dk t).1) bs 0 N) (fun v6 _ _ _ _ => (N - intOf v6).toNat)
     case atStart => exact ⟨20, d1, rfl, Nat.le_refl _, by omega, HR1.out, HP1.out, HBL.out⟩
     case round =>
       clear HR1 HP1 HBL
       obtain ⟨bs, dk, rfl, hb1, hb2, hr, hpm, hbl⟩ := hrel
       have HR := Lib.hid hr; clear hr
       have HP := Lib.hid hpm; clear hpm
       have HBL := Lib.hid hbl; clear hbl
       by_cases hlt : bs < N
       · have hdi : decide (bs < N) = true := decide_eq_true hlt
         obtain ⟨b2, hb2'⟩ : ∃ b2, b2 = 2 * bs := ⟨_, rfl⟩
         have b26 : (b2 : Int) ≤ 2000000 := by omega
         have s1 : (2 * (bs : Int)) = (b2 : Int) := by omega
         have s2 : ((bs : Int) * 2) = (b2 : Int) := by omega
         have bs6 : (bs : Int) < 1000000 := by omega
         have HB2 := Lib.hid hb2'; clear hb2'
         have HBS : Hid (20 ≤ bs ∧ bs < N) := ⟨hb1, hlt⟩
         clear hb1 hb2 hlt
         go_wp2_with fail
         generalize wr = wo2 at *
         go_loopw [7, 8] (fun v7 v8 wr => ∃ (q a : Nat) (dj : Nat → (Int × Bool)), a = q * b2 ∧ v7 = .int .i64 (a : Int) ∧ v8 = .int .i64 ((a + b2 : Nat) : Int) ∧ a ≤ N ∧ RP w0 wr g N dj ∧ Pm 0 N d dj ∧ Bd (fun t => (dj t).1) b2 a ∧ Bl (fun t => (dj t).1) bs a N) (fun v7 _ _ => (N - intOf v7).toNat)
         case atStart => exact ⟨0, 0, dk, by omega, rfl, by first | rfl | (congr 1; omega), by omega, HR.out, HP.out, fun q hq => by have := HBS.out; have := HB2.out; omega, HBL.out⟩
         case round =>
           clear HR HP HBL
           obtain ⟨q, a, dj, ha, rfl, rfl, hq, hr, hpm, hbd, hbl⟩ := hrel
           have HR := Lib.hid hr; clear hr
           have HP := Lib.hid hpm; clear hpm
           have HBD := Lib.hid hbd; clear hbd
           have HBL := Lib.hid hbl; clear hbl
           have HAQ := Lib.hid ha; clear ha
           obtain ⟨b, hb⟩ : ∃ b, b = a + b2 := ⟨_, rfl⟩
           rw [← hb]
           obtain ⟨m, hm⟩ : ∃ m, m = a + bs := ⟨_, rfl⟩
           have t1 : ((a : Int) + (bs : Int)) = (m : Int) := by omega
           have t16 : (m : Int) ≤ 2000000 := by omega
           have b6 : (b : Int) ≤ 3000000 := by omega
           have a6 : (a : Int) ≤ 1000000 := by omega
           have HAB : Hid (b = a + b2 ∧ m = a + bs) := ⟨hb, hm⟩
           by_cases hlt : b ≤ N
           · have hdi : decide (b ≤ N) = true := decide_eq_true hlt
             have h2 := HB2.out
             have h3 := HBS.out
             have u1 := HBL.out.first
             have u2 := HBL.out.second
             rw [Nat.min_eq_left (by omega), ← hm] at u1
             rw [Nat.min_eq_left (by omega), ← hm, show m + bs = b by omega] at u2
             have HX := SYM.out (b - a + 1) a m b dj wr (by omega) (by omega) (by omega) hlt HR.out u1 u2
             have HL := Lib.hid hlt
             clear hb hm hq HR hlt h2 h3 u1 u2
             go_wp2_with fail
             with_reducible refine HX.mono ?_
             rintro e w1 ⟨rfl, hr1⟩
             have HH := Lib.hid hr1; clear hr1 HX
             go_wp2
             obtain ⟨d1, z1, z2, z3⟩ := HH.out
             obtain ⟨eb, em⟩ := HAB.out
             have h1 := HL.out
             have h2 := HB2.out
             have h3 := HBS.out
             refine ⟨⟨q + 1, b, d1, by rw [Nat.add_mul, Nat.one_mul, ← HAQ.out]; exact eb, rfl, by first | rfl | (congr 1; omega) | go_num, h1, z1, HP.out.trans (z2.wide (Nat.zero_le _) h1), ?_, ?_⟩, by simp [intOf]; omega⟩
             · have := Bd.add (f := fun t => (d1 t).1) (bs := b2) (k := q) (by omega) (by rw [← HAQ.out]; exact HBD.out.keep z2 (Nat.le_refl _)) (by rw [← HAQ.out, ← eb]; exact z3)
               rw [Nat.add_mul, Nat.one_mul, ← HAQ.out, ← eb] at this
               exact this
             · have := HBL.out.next
               rw [← h2, ← eb] at this
               exact this.keep z2 (Nat.le_refl _)
           · have hdi : decide (b ≤ N) = false := decide_eq_false hlt
             by_cases hlm : m < N
             · have hdm : decide (m < N) = true := decide_eq_true hlm
               have h2 := HB2.out
               have h3 := HBS.out
               have u1 := HBL.out.first
               have u2 := HBL.out.second
               rw [Nat.min_eq_left (by omega), ← hm] at u1
               rw [Nat.min_eq_right (by omega), ← hm] at u2
               have HX := SYM.out (N - a + 1) a m N dj wr (by omega) (by omega) hlm (Nat.le_refl _) HR.out u1 u2
               have HL := Lib.hid hlt
               clear hb hm hq HR hlt h2 h3 u1 u2 hlm
               go_wp2_with fail
               with_reducible refine HX.mono ?_
               rintro e w1 ⟨rfl, hr1⟩
               have HH := Lib.hid hr1; clear hr1 HX
               go_wp2
               obtain ⟨d1, z1, z2, z3⟩ := HH.out
               obtain ⟨eb, em⟩ := HAB.out
               have h1 := HL.out
               have h2 := HB2.out
               have h3 := HBS.out
               refine ⟨⟨b2, d1, rfl, by omega, by omega, z1, HP.out.trans (z2.wide (Nat.zero_le _) (Nat.le_refl _)), ?_⟩, by simp [intOf]; omega⟩
               exact Bd.whole (k := q) (by rw [← HAQ.out]; exact HBD.out.keep z2 (Nat.le_refl _)) (by rw [← HAQ.out]; exact z3)
             · have hdm : decide (m < N) = false := decide_eq_false hlm
               have HL : Hid (¬ b ≤ N ∧ ¬ m < N) := ⟨hlt, hlm⟩
               clear hb hm hq hlt hlm
               go_wp2
               obtain ⟨eb, em⟩ := HAB.out
               have h1 := HL.out
               have h2 := HB2.out
               have h3 := HBS.out
               have u1 := HBL.out.first
               rw [Nat.min_eq_right (by omega)] at u1
               refine ⟨⟨b2, dj, rfl, by omega, by omega, HR.out, HP.out, ?_⟩, by simp [intOf]; omega⟩
               exact Bd.whole (k := q) (by rw [← HAQ.out]; exact HBD.out) (by rw [← HAQ.out]; exact u1)
       · have hdi : decide (bs < N) = false := decide_eq_false hlt
         have HE : Hid (∃ d' : Nat → (Int × Bool), RP w0 wr g N d' ∧ Pm 0 N d d' ∧ Up (fun t => (d' t).1) 0 N) := ⟨dk, HR.out, HP.out, by
           have := HBL.out.first
           rw [Nat.min_eq_right (by omega)] at this
           exact this⟩
         clear HR HP HBL hlt
         go_wp2
         go_returns
         exact ⟨rfl, HE.out⟩

set_option maxRecDepth 100000 in
set_option maxHeartbeats 1000000 in
theorem sortP (w0 : World) (g N cap : Nat) (d : Nat → (Int × Bool)) (w : World) (hR : RP w0 w g N d) (hN : N ≤ 1000000) (hc : N ≤ cap) :
   Calls Tryz.prog 166 #[.slice (some ⟨g, 0, none⟩) N cap, (Value.func (.func 167) #[] #[])] w fun e w' => e = .returned (.tuple #[]) ∧ ∃ d' : Nat → (Int × Bool), RP w0 w' g N d' ∧ Pm 0 N d d' ∧ Up (fun t => (d' t).1) 0 N := by
 have HX := stableP w0 g N cap d w hR hN hc
 clear hR hN hc 
 go_enter Tryz.func166, Tryz.ntmps166
 go_wp2_with fail
 with_reducible refine HX.mono ?_
 rintro e w1 ⟨rfl, hr1⟩
 have HH := Lib.hid hr1; clear hr1 HX
 go_wp2
 go_returns
 exact ⟨rfl, HH.out⟩
end Go.Proofs.YtenkkononchgmaaGreatDoor
