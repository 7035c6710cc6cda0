/- Laid together: DfAli. -/
import Derived.Test.YtenkkononchgmaaGreatDoorDkB29
import Derived.Test.YtenkkononchgmaaGreatDoorDkB30

namespace Go.Proofs.YtenkkononchgmaaGreatDoor
open Go.RowKit Go

theorem Ints.dropO {w : World} {s o n cap : Nat} {A : List Nat} (h : Ints w (some ⟨s, o, none⟩) n cap (Inf.lf A)) (m : Nat) (hm : m ≤ n) : Ints w (some ⟨s, o + m, none⟩) (n - m) (cap - m) (Inf.lf (A.drop m)) :=
 ⟨by have := h.le; omega, fun hm0 => by
   obtain ⟨s', o', e, h1, h2⟩ := h.ad (by omega)
   simp only [Option.some.injEq, Addr.mk.injEq, and_true] at e
   obtain ⟨rfl, rfl⟩ := e
   exact ⟨s, o + m, rfl, h1, fun j hj => by rw [show Inf.lf (A.drop m) j = Inf.lf A (m + j) by simp only [Inf.lf, List.getD_eq_getElem?_getD, List.getElem?_drop], ← h2 (m + j) (by omega), Nat.add_assoc]⟩⟩
set_option maxRecDepth 100000 in
set_option maxHeartbeats 8000000 in
theorem shortened_any (x : List Nat) (a : Option Addr) (n cap : Nat) (w : World) (hn : n = x.length) (hn6 : n ≤ 1000) (hI : Ints w a n cap (Inf.lf x)) (hx : ∀ t ∈ x, t ≤ 15) :
   Calls Tryz.prog 96 #[.slice a n cap] w fun e w' => ∃ v, e = .returned v ∧ SyS w w' v (Inf.sho x n 0) := by
 have HI := Lib.hid hI
 have HN := Lib.hid hn
 have HN6 := Lib.hid hn6
 have HX := Lib.hid hx
 have hnI : (n : Int) ≤ 1000 := by omega
 clear hn hn6 hI hx
 go_enter Tryz.func96, Tryz.ntmps96
 go_wp2_with fail
 go_loopw [3, 4] (fun v3 v4 wr => ∃ (f i z : Nat) (L : List Inf.Sm) (ad : Option Addr) (cp : Nat), i ≤ n ∧ n - i ≤ f ∧ z = L.length ∧ z ≤ i ∧ v3 = .slice ad z cp ∧ v4 = .int .i64 (i : Int) ∧ L ++ Inf.sho x f i = Inf.sho x n 0 ∧ SyS w wr (.slice ad z cp) L) (fun _ v4 _ => (n - intOf v4).toNat)
 case atStart => exact ⟨n, 0, 0, [], none, 0, by omega, by omega, rfl, by omega, rfl, rfl, rfl, SyS.nil w⟩
 case round =>
   obtain ⟨f, i, z, L, ad, cp, hi, hf, hz, hzi, rfl, rfl, hsh, hs⟩ := hrel
   have HS := Lib.hid hs
   have HSH := Lib.hid hsh
   have HZ := Lib.hid hz
   have HZI := Lib.hid hzi
   have HF := Lib.hid hf
   clear hs hsh hz hzi hf
   by_cases hlt : i < n
   · have d1 : decide (i < n) = true := decide_eq_true hlt
     have d1' : decide ((i : Int) < (n : Int)) = true := decide_eq_true (by omega)
     have HLT := Lib.hid hlt
     have hiI : (i : Int) < (n : Int) := by omega
     have hil : i < x.length := by rw [← HN.out]; exact hlt
     obtain ⟨f, rfl⟩ : ∃ f', f = f' + 1 := ⟨f - 1, by have := HF.out; omega⟩
     have hIr : Ints wr a n cap (Inf.lf x) := HI.out.later HS.out.bel
     obtain ⟨s, o, rfl, -, -⟩ := HI.out.at_ hlt
     have HID := Lib.hid (hIr.dropO i (by omega))
     have hsl := Inf.ints_from (some ⟨s, o, none⟩) n cap i (by omega)
     rw [if_neg (by have := HI.out.le; omega), show Option.map (fun t : Addr => t.add i) (some ⟨s, o, none⟩) = some ⟨s, o + i, none⟩ by simp [Addr.add_mid]] at hsl
     obtain ⟨c, hc⟩ : ∃ c, c = x.getD i 0 := ⟨_, rfl⟩
     obtain ⟨N, hN⟩ : ∃ N, N = Inf.nal (x.getD i 0) (x.drop i) := ⟨_, rfl⟩
     have q1 : wr.cell? ⟨s, o + i, none⟩ = some (.int .i64 (c : Int)) := by
       obtain ⟨s', o', e, -, q⟩ := hIr.at_ hlt
       cases e
       rw [q, hc]; rfl
     have HAL := Lib.hid (fun wx (hw : ∃ m, wx = wr.drewN m) => (dalike_any (x.drop i) (some ⟨s, o + i, none⟩) (n - i) (cap - i) wx (by rw [List.length_drop, ← HN.out]) (by have := HN6.out; omega) (by omega) (HID.out.later ((show Drawn wr wx from hw).below _))).mono fun e w' h =>
       (⟨h.1, by obtain ⟨m, rfl⟩ := hw; obtain ⟨m', h'⟩ := h.2; exact ⟨_, by rw [h', World.drewN_drewN]⟩⟩ : e = _ ∧ ∃ m, w' = wr.drewN m))
     rw [show (x.drop i).getD 0 0 = x.getD i 0 by rw [List.getD_eq_getElem?_getD, List.getElem?_drop, Nat.add_zero, ← List.getD_eq_getElem?_getD], ← hN] at HAL
     obtain ⟨nb1, nb2⟩ := Inf.nal_drop hil
     rw [← hN] at nb1 nb2
     obtain ⟨k1, k2, k3, k4, k5, k6, k7, k8, k9, k10⟩ := Inf.shn_ok HX.out hil
     have HSTEP : Hid (Inf.sho x (f + 1) i = (Inf.shn x i).1 :: Inf.sho x f (i + (Inf.shn x i).2)) := by unfold Hid; rw [Inf.sho, if_pos hil]
     have HSHN : Hid (Inf.shn x i = if c = 0 ∧ 11 ≤ N then (⟨18, min N 138 - 11, 7⟩, min N 138) else if c = 0 ∧ 3 ≤ N then (⟨17, N - 3, 3⟩, N) else if 0 < i ∧ c = x.getD (i - 1) 0 ∧ 3 ≤ N then (⟨16, min N 6 - 3, 2⟩, min N 6) else (⟨c, 0, 0⟩, 1)) := by
       unfold Hid; rw [Inf.shn, ← hN, ← hc]
     have HB5 : Hid (1 ≤ (Inf.shn x i).2 ∧ i + (Inf.shn x i).2 ≤ n) := ⟨k4, by have := HN.out; omega⟩
     have hNI : (N : Int) ≤ 1000 := by have := HN6.out; have := HN.out; omega
     have hN1 : 1 ≤ N := nb1
     have HPV : Hid (∀ wx, Drawn wr wx → 0 < i → wx.cell? ⟨s, o + (i - 1), none⟩ = some (.int .i64 ((x.getD (i - 1) 0 : Nat) : Int))) := fun wx hd h0 => by
       obtain ⟨s', o', e, -, q⟩ := hIr.at_ (show i - 1 < n by omega)
       cases e
       rw [hd.cell, q]; rfl
     obtain ⟨SN, hSN⟩ : ∃ SN, SN = Inf.shn x i := ⟨_, rfl⟩
     rw [← hSN] at HSTEP HSHN HB5
     generalize x.getD (i - 1) 0 = pv at *
     generalize hoi : o + i = oi at *
     generalize hmi : n - i = mi at *
     generalize hci : cap - i = ci at *
     clear hi hlt hil hIr hc hN nb1 nb2 k1 k2 k3 k4 k5 k6 k7 k8 k9 k10 hSN HID
     go_wp2_with fail
     go_quiet ((go_at_call 143; exact (HAL.out _ ⟨_, rfl⟩).mono fun e w'' h => ⟨h.1, h.2⟩))
     have HSZ := Lib.hid (HS.out.later ((Drawn.refl wr).drewN nq |>.below _))
     have HPZ := Lib.hid (HPV.out (wr.drewN nq) ⟨nq, rfl⟩)
     clear q1 HAL hsl HS HPV
     generalize wr.drewN nq = wz at *
     obtain ⟨wb, hwb⟩ : ∃ wb, wb = wz.alloc (.cells #[.int .i64 (c : Nat), .int .i64 0, .int .i64 0] 95) := ⟨_, rfl⟩
     have HBL : Hid (wb.heap[wz.heap.size]? = some (.cells #[.int .i64 (c : Nat), .int .i64 0, .int .i64 0] 95 (0, 0))) := by rw [hwb]; exact heap_alloc_new _ _
     have HBZ : Hid (Below wz.heap.size wz wb) := by rw [hwb]; exact (Below.refl _ _).alloc (Nat.le_refl _) _
     have HLO : Hid (w.heap.size ≤ wz.heap.size) := HSZ.out.bel.size
     have HPB : Hid (0 < i → wb.cell? ⟨s, o + (i - 1), none⟩ = some (.int .i64 ((pv : Nat) : Int))) := fun h0 => by
       have hc := HPZ.out h0
       exact (HBZ.out.cell (World.block_lt_of_cell? _ _ hc)).trans hc
     subst hwb
     have hbase : w.heap.size ≤ (wz.alloc (.cells #[.int .i64 (c : Nat), .int .i64 0, .int .i64 0] 95)).heap.size := Nat.le_trans HLO.out HBZ.out.size
     clear HPZ
     obtain ⟨z1, hz1⟩ : ∃ z1, z1 = z + 1 := ⟨_, rfl⟩
     have HZ1 := Lib.hid hz1
     clear hz1
     by_cases hc0 : c = 0
     · have g0 : ((c : Int) == 0) = true := by simp; omega
       have HC0 := Lib.hid hc0
       clear hc0
       by_cases h11 : 11 ≤ N
       · have g1 : decide ((11 : Int) ≤ (N : Int)) = true := decide_eq_true (by omega)
         obtain ⟨xv, hxv⟩ : ∃ xv, xv = min N 138 - 11 := ⟨_, rfl⟩
         have HSN : Hid (SN = (⟨18, xv, 7⟩, min N 138)) := by unfold Hid; rw [HSHN.out, hxv]; rw [if_pos ⟨HC0.out, h11⟩]
         obtain ⟨kv, hkv⟩ : ∃ kv, kv = min N 138 := ⟨_, rfl⟩
         obtain ⟨t1, ht1⟩ : ∃ t1, t1 = i + kv := ⟨_, rfl⟩
         have HT1 : Hid (i < t1 ∧ t1 ≤ n ∧ n - t1 ≤ f) := by
           have h5 := HB5.out
           rw [HSN.out] at h5
           have h6 := HF.out
           simp only [] at h5
           unfold Hid
           omega
         have HSTEP : Hid (Inf.sho x (f + 1) i = ⟨18, xv, 7⟩ :: Inf.sho x f t1) := by unfold Hid; rw [HSTEP.out, HSN.out, ht1, hkv]
         have hxI : (kv : Int) - 11 = (xv : Int) := by omega
         have hkI : (kv : Int) ≤ 1000 := by omega
         have hxvI : (xv : Int) ≤ 1000 := by omega
         have hmin : ∀ (ts : Array TypeId) (ty : TypeId) (wx : World), (Builtin.min_ ts ty #[.int .i64 (N : Nat), .int .i64 138]).run Tryz.prog wx = .ok (.int .i64 (kv : Nat)) wx := fun ts ty wx => by
           rw [run_min_int2]
           congr 2
           split <;> omega
         have HSF : Hid (SyS w (wz.alloc (.cells #[.int .i64 18, .int .i64 (xv : Nat), .int .i64 7] 95)) (.slice ad z cp) L) := HSZ.out.later ((Below.refl _ _).alloc (Nat.le_refl _) _)
         have HNT : Hid (∀ v' w9 o, w9.ownsRow w.heap.size 95 3 v' (z + 1) (spk L ++ spk [⟨18, xv, 7⟩]) → (World.alloc (wz.alloc (.cells #[.int .i64 18, .int .i64 (xv : Nat), .int .i64 7] 95)) o).grownBy w9 (Value.slice ad z cp).ownBlock → SyS w w9 v' (L ++ [⟨18, xv, 7⟩]) ∧ ∃ p q, v' = .slice p z1 q) := by
           intro v' w9 o h1 h2
           rw [HZ.out] at h1
           have h3 := HSF.out.snoc ((Below.refl _ _).alloc (Nat.le_refl _) o) (R := [⟨18, xv, 7⟩]) h1 h2
           obtain ⟨p, q, e⟩ := h3.form
           exact ⟨h3, p, q, by rw [e, List.length_append, List.length_singleton, HZ1.out, HZ.out]⟩
         have HOW : Hid (World.ownsRow (wz.alloc (.cells #[.int .i64 18, .int .i64 (xv : Nat), .int .i64 7] 95)) w.heap.size 95 3 (.slice ad z cp) z (spk L)) := by have := HSF.out.own; rw [← HZ.out] at this; exact this
         have HONE : Hid (SmsIn (World.alloc (wz.alloc (.cells #[.int .i64 18, .int .i64 (xv : Nat), .int .i64 7] 95)) (.cells #[.int .i64 18, .int .i64 (xv : Nat), .int .i64 7] 95)) (.slice (some ⟨wz.heap.size + 1, 0, none⟩) 1 1) [⟨18, xv, 7⟩] (fun s => s = wz.heap.size + 1)) := by have := one_sym (wz.alloc (.cells #[.int .i64 18, .int .i64 (xv : Nat), .int .i64 7] 95)) ⟨18, xv, 7⟩; simp only [World.size_alloc] at this; exact this
         have hz6 : z + 1 ≤ 1099511627776 := by have := HZI.out; have := HN6.out; have := HLT.out; omega
         have hti : (i : Int) + (kv : Int) = (t1 : Int) := by omega
         have ht1I : (t1 : Int) ≤ 1000 := by have := HT1.out; omega
         clear hkv hxv ht1 HBL HBZ HB5 HSHN HSN
         go_wp2_with (first | (at_builtin; refine wpList_append_syms rfl (.tmp 67) (.tmp 69) rfl w.heap.size _ z (spk L) rfl (HOW.out.alloc _) _ [⟨18, xv, 7⟩] _ (by rfl) HONE.out (by intro n c e; cases e) hz6 (by have := HLO.out; simp; omega) ?_; intro v9 w9 o9 g9; obtain ⟨q9, ad9, c9, rfl⟩ := HNT.out v9 w9 _ o9.out g9.out; have HP9 := Lib.hid q9; clear o9 g9 q9))
         go_roundw
         case rel => exact ⟨f, t1, z1, L ++ [⟨18, xv, 7⟩], ad9, c9, HT1.out.2.1, HT1.out.2.2, by rw [HZ1.out, HZ.out, List.length_append, List.length_singleton], by have := HZ1.out; have := HZI.out; have := HT1.out; omega, rfl, by congr 1, by rw [List.append_assoc, ← HSH.out, HSTEP.out]; rfl, HP9.out⟩
         case measure => have := HT1.out; simp [intOf]; omega
       · have g1 : decide ((11 : Int) ≤ (N : Int)) = false := decide_eq_false (by omega)
         by_cases h3 : 3 ≤ N
         · have g2 : decide ((3 : Int) ≤ (N : Int)) = true := decide_eq_true (by omega)
           obtain ⟨xv, hxv⟩ : ∃ xv, xv = N - 3 := ⟨_, rfl⟩
           have HSN : Hid (SN = (⟨17, xv, 3⟩, N)) := by unfold Hid; rw [HSHN.out, hxv]; rw [if_neg (fun h => h11 h.2), if_pos ⟨HC0.out, h3⟩]
           obtain ⟨kv, hkv⟩ : ∃ kv, kv = N := ⟨_, rfl⟩
           obtain ⟨t1, ht1⟩ : ∃ t1, t1 = i + kv := ⟨_, rfl⟩
           have HT1 : Hid (i < t1 ∧ t1 ≤ n ∧ n - t1 ≤ f) := by
             have h5 := HB5.out
             rw [HSN.out] at h5
             have h6 := HF.out
             simp only [] at h5
             unfold Hid
             omega
           have HSTEP : Hid (Inf.sho x (f + 1) i = ⟨17, xv, 3⟩ :: Inf.sho x f t1) := by unfold Hid; rw [HSTEP.out, HSN.out, ht1, hkv]
           have hxI : (kv : Int) - 3 = (xv : Int) := by omega
           have hxI2 : (N : Int) - 3 = (xv : Int) := by omega
           have hti2 : (i : Int) + (N : Int) = (t1 : Int) := by omega
           have hkI : (kv : Int) ≤ 1000 := by omega
           have hxvI : (xv : Int) ≤ 1000 := by omega
           have HSF : Hid (SyS w (wz.alloc (.cells #[.int .i64 17, .int .i64 (xv : Nat), .int .i64 3] 95)) (.slice ad z cp) L) := HSZ.out.later ((Below.refl _ _).alloc (Nat.le_refl _) _)
           have HNT : Hid (∀ v' w9 o, w9.ownsRow w.heap.size 95 3 v' (z + 1) (spk L ++ spk [⟨17, xv, 3⟩]) → (World.alloc (wz.alloc (.cells #[.int .i64 17, .int .i64 (xv : Nat), .int .i64 3] 95)) o).grownBy w9 (Value.slice ad z cp).ownBlock → SyS w w9 v' (L ++ [⟨17, xv, 3⟩]) ∧ ∃ p q, v' = .slice p z1 q) := by
             intro v' w9 o h1 h2
             rw [HZ.out] at h1
             have h3 := HSF.out.snoc ((Below.refl _ _).alloc (Nat.le_refl _) o) (R := [⟨17, xv, 3⟩]) h1 h2
             obtain ⟨p, q, e⟩ := h3.form
             exact ⟨h3, p, q, by rw [e, List.length_append, List.length_singleton, HZ1.out, HZ.out]⟩
           have HOW : Hid (World.ownsRow (wz.alloc (.cells #[.int .i64 17, .int .i64 (xv : Nat), .int .i64 3] 95)) w.heap.size 95 3 (.slice ad z cp) z (spk L)) := by have := HSF.out.own; rw [← HZ.out] at this; exact this
           have HONE : Hid (SmsIn (World.alloc (wz.alloc (.cells #[.int .i64 17, .int .i64 (xv : Nat), .int .i64 3] 95)) (.cells #[.int .i64 17, .int .i64 (xv : Nat), .int .i64 3] 95)) (.slice (some ⟨wz.heap.size + 1, 0, none⟩) 1 1) [⟨17, xv, 3⟩] (fun s => s = wz.heap.size + 1)) := by have := one_sym (wz.alloc (.cells #[.int .i64 17, .int .i64 (xv : Nat), .int .i64 3] 95)) ⟨17, xv, 3⟩; simp only [World.size_alloc] at this; exact this
           have hz6 : z + 1 ≤ 1099511627776 := by have := HZI.out; have := HN6.out; have := HLT.out; omega
           have hti : (i : Int) + (kv : Int) = (t1 : Int) := by omega
           have ht1I : (t1 : Int) ≤ 1000 := by have := HT1.out; omega
           clear hkv hxv ht1 HBL HBZ HB5 HSHN HSN
           go_wp2_with (first | (at_builtin; refine wpList_append_syms rfl (.tmp 67) (.tmp 69) rfl w.heap.size _ z (spk L) rfl (HOW.out.alloc _) _ [⟨17, xv, 3⟩] _ (by rfl) HONE.out (by intro n c e; cases e) hz6 (by have := HLO.out; simp; omega) ?_; intro v9 w9 o9 g9; obtain ⟨q9, ad9, c9, rfl⟩ := HNT.out v9 w9 _ o9.out g9.out; have HP9 := Lib.hid q9; clear o9 g9 q9))
           go_roundw
           case rel => exact ⟨f, t1, z1, L ++ [⟨17, xv, 3⟩], ad9, c9, HT1.out.2.1, HT1.out.2.2, by rw [HZ1.out, HZ.out, List.length_append, List.length_singleton], by have := HZ1.out; have := HZI.out; have := HT1.out; omega, rfl, by congr 1, by rw [List.append_assoc, ← HSH.out, HSTEP.out]; rfl, HP9.out⟩
           case measure => have := HT1.out; simp [intOf]; omega
         · have g2 : decide ((3 : Int) ≤ (N : Int)) = false := decide_eq_false (by omega)
           have hno : ¬ (c = 0 ∧ 11 ≤ N) ∧ ¬ (c = 0 ∧ 3 ≤ N) ∧ ¬ (0 < i ∧ c = pv ∧ 3 ≤ N) := ⟨fun h => h11 h.2, fun h => h3 h.2, fun h => h3 h.2.2⟩
           by_cases h0 : 0 < i
           · have g3 : decide ((0 : Int) < (i : Int)) = true := decide_eq_true (by omega)
             have g3' : decide (0 < i) = true := decide_eq_true h0
             have hp := HPB.out h0
             have hi1 : (i : Int) - 1 = ((i - 1 : Nat) : Int) := by omega
             have hi1n : ((i - 1 : Nat) : Int) < (n : Int) := by omega
             generalize i - 1 = im at *
             by_cases hcp : c = pv
             · have g4 : ((c : Int) == (pv : Int)) = true := by simp; omega
               clear hcp
               have HSN : Hid (SN = (⟨c, 0, 0⟩, 1)) := by unfold Hid; rw [HSHN.out]; rw [if_neg hno.1, if_neg hno.2.1, if_neg hno.2.2]
               obtain ⟨kv, hkv⟩ : ∃ kv, kv = 1 := ⟨_, rfl⟩
               obtain ⟨t1, ht1⟩ : ∃ t1, t1 = i + kv := ⟨_, rfl⟩
               have HT1 : Hid (i < t1 ∧ t1 ≤ n ∧ n - t1 ≤ f) := by
                 have h5 := HB5.out
                 rw [HSN.out] at h5
                 have h6 := HF.out
                 simp only [] at h5
                 unfold Hid
                 omega
               have HSTEP : Hid (Inf.sho x (f + 1) i = ⟨c, 0, 0⟩ :: Inf.sho x f t1) := by unfold Hid; rw [HSTEP.out, HSN.out, ht1, hkv]
               have hk1 : (kv : Int) = 1 := by omega
               have hti1 : (i : Int) + 1 = (t1 : Int) := by omega
               have HSF : Hid (SyS w (wz.alloc (.cells #[.int .i64 (c : Nat), .int .i64 0, .int .i64 0] 95)) (.slice ad z cp) L) := HSZ.out.later ((Below.refl _ _).alloc (Nat.le_refl _) _)
               have HNT : Hid (∀ v' w9 o, w9.ownsRow w.heap.size 95 3 v' (z + 1) (spk L ++ spk [⟨c, 0, 0⟩]) → (World.alloc (wz.alloc (.cells #[.int .i64 (c : Nat), .int .i64 0, .int .i64 0] 95)) o).grownBy w9 (Value.slice ad z cp).ownBlock → SyS w w9 v' (L ++ [⟨c, 0, 0⟩]) ∧ ∃ p q, v' = .slice p z1 q) := by
                 intro v' w9 o h1 h2
                 rw [HZ.out] at h1
                 have h3 := HSF.out.snoc ((Below.refl _ _).alloc (Nat.le_refl _) o) (R := [⟨c, 0, 0⟩]) h1 h2
                 obtain ⟨p, q, e⟩ := h3.form
                 exact ⟨h3, p, q, by rw [e, List.length_append, List.length_singleton, HZ1.out, HZ.out]⟩
               have HOW : Hid (World.ownsRow (wz.alloc (.cells #[.int .i64 (c : Nat), .int .i64 0, .int .i64 0] 95)) w.heap.size 95 3 (.slice ad z cp) z (spk L)) := by have := HSF.out.own; rw [← HZ.out] at this; exact this
               have HONE : Hid (SmsIn (World.alloc (wz.alloc (.cells #[.int .i64 (c : Nat), .int .i64 0, .int .i64 0] 95)) (.cells #[.int .i64 (c : Nat), .int .i64 0, .int .i64 0] 95)) (.slice (some ⟨wz.heap.size + 1, 0, none⟩) 1 1) [⟨c, 0, 0⟩] (fun s => s = wz.heap.size + 1)) := by have := one_sym (wz.alloc (.cells #[.int .i64 (c : Nat), .int .i64 0, .int .i64 0] 95)) ⟨c, 0, 0⟩; simp only [World.size_alloc] at this; exact this
               have hz6 : z + 1 ≤ 1099511627776 := by have := HZI.out; have := HN6.out; have := HLT.out; omega
               have hti : (i : Int) + (kv : Int) = (t1 : Int) := by omega
               have ht1I : (t1 : Int) ≤ 1000 := by have := HT1.out; omega
               clear hkv ht1 HBL HBZ HB5 HSHN HSN hno
               go_wp2_with (first | (at_builtin; refine wpList_append_syms rfl (.tmp 67) (.tmp 69) rfl w.heap.size _ z (spk L) rfl (HOW.out.alloc _) _ [⟨c, 0, 0⟩] _ (by rfl) HONE.out (by intro n c e; cases e) hz6 (by have := HLO.out; simp; omega) ?_; intro v9 w9 o9 g9; obtain ⟨q9, ad9, c9, rfl⟩ := HNT.out v9 w9 _ o9.out g9.out; have HP9 := Lib.hid q9; clear o9 g9 q9))
               go_roundw
               case rel => exact ⟨f, t1, z1, L ++ [⟨c, 0, 0⟩], ad9, c9, HT1.out.2.1, HT1.out.2.2, by rw [HZ1.out, HZ.out, List.length_append, List.length_singleton], by have := HZ1.out; have := HZI.out; have := HT1.out; omega, rfl, by congr 1, by rw [List.append_assoc, ← HSH.out, HSTEP.out]; rfl, HP9.out⟩
               case measure => have := HT1.out; simp [intOf]; omega
             · have g4 : ((c : Int) == (pv : Int)) = false := by simp; omega
               have HSN : Hid (SN = (⟨c, 0, 0⟩, 1)) := by unfold Hid; rw [HSHN.out]; rw [if_neg hno.1, if_neg hno.2.1, if_neg hno.2.2]
               obtain ⟨kv, hkv⟩ : ∃ kv, kv = 1 := ⟨_, rfl⟩
               obtain ⟨t1, ht1⟩ : ∃ t1, t1 = i + kv := ⟨_, rfl⟩
               have HT1 : Hid (i < t1 ∧ t1 ≤ n ∧ n - t1 ≤ f) := by
                 have h5 := HB5.out
                 rw [HSN.out] at h5
                 have h6 := HF.out
                 simp only [] at h5
                 unfold Hid
                 omega
               have HSTEP : Hid (Inf.sho x (f + 1) i = ⟨c, 0, 0⟩ :: Inf.sho x f t1) := by unfold Hid; rw [HSTEP.out, HSN.out, ht1, hkv]
               have hk1 : (kv : Int) = 1 := by omega
               have hti1 : (i : Int) + 1 = (t1 : Int) := by omega
               have HSF : Hid (SyS w (wz.alloc (.cells #[.int .i64 (c : Nat), .int .i64 0, .int .i64 0] 95)) (.slice ad z cp) L) := HSZ.out.later ((Below.refl _ _).alloc (Nat.le_refl _) _)
               have HNT : Hid (∀ v' w9 o, w9.ownsRow w.heap.size 95 3 v' (z + 1) (spk L ++ spk [⟨c, 0, 0⟩]) → (World.alloc (wz.alloc (.cells #[.int .i64 (c : Nat), .int .i64 0, .int .i64 0] 95)) o).grownBy w9 (Value.slice ad z cp).ownBlock → SyS w w9 v' (L ++ [⟨c, 0, 0⟩]) ∧ ∃ p q, v' = .slice p z1 q) := by
                 intro v' w9 o h1 h2
                 rw [HZ.out] at h1
                 have h3 := HSF.out.snoc ((Below.refl _ _).alloc (Nat.le_refl _) o) (R := [⟨c, 0, 0⟩]) h1 h2
                 obtain ⟨p, q, e⟩ := h3.form
                 exact ⟨h3, p, q, by rw [e, List.length_append, List.length_singleton, HZ1.out, HZ.out]⟩
               have HOW : Hid (World.ownsRow (wz.alloc (.cells #[.int .i64 (c : Nat), .int .i64 0, .int .i64 0] 95)) w.heap.size 95 3 (.slice ad z cp) z (spk L)) := by have := HSF.out.own; rw [← HZ.out] at this; exact this
               have HONE : Hid (SmsIn (World.alloc (wz.alloc (.cells #[.int .i64 (c : Nat), .int .i64 0, .int .i64 0] 95)) (.cells #[.int .i64 (c : Nat), .int .i64 0, .int .i64 0] 95)) (.slice (some ⟨wz.heap.size + 1, 0, none⟩) 1 1) [⟨c, 0, 0⟩] (fun s => s = wz.heap.size + 1)) := by have := one_sym (wz.alloc (.cells #[.int .i64 (c : Nat), .int .i64 0, .int .i64 0] 95)) ⟨c, 0, 0⟩; simp only [World.size_alloc] at this; exact this
               have hz6 : z + 1 ≤ 1099511627776 := by have := HZI.out; have := HN6.out; have := HLT.out; omega
               have hti : (i : Int) + (kv : Int) = (t1 : Int) := by omega
               have ht1I : (t1 : Int) ≤ 1000 := by have := HT1.out; omega
               clear hkv ht1 HBL HBZ HB5 HSHN HSN hno
               go_wp2_with (first | (at_builtin; refine wpList_append_syms rfl (.tmp 67) (.tmp 69) rfl w.heap.size _ z (spk L) rfl (HOW.out.alloc _) _ [⟨c, 0, 0⟩] _ (by rfl) HONE.out (by intro n c e; cases e) hz6 (by have := HLO.out; simp; omega) ?_; intro v9 w9 o9 g9; obtain ⟨q9, ad9, c9, rfl⟩ := HNT.out v9 w9 _ o9.out g9.out; have HP9 := Lib.hid q9; clear o9 g9 q9))
               go_roundw
               case rel => exact ⟨f, t1, z1, L ++ [⟨c, 0, 0⟩], ad9, c9, HT1.out.2.1, HT1.out.2.2, by rw [HZ1.out, HZ.out, List.length_append, List.length_singleton], by have := HZ1.out; have := HZI.out; have := HT1.out; omega, rfl, by congr 1, by rw [List.append_assoc, ← HSH.out, HSTEP.out]; rfl, HP9.out⟩
               case measure => have := HT1.out; simp [intOf]; omega
           · have g3 : decide ((0 : Int) < (i : Int)) = false := decide_eq_false (by omega)
             have g3' : decide (0 < i) = false := decide_eq_false h0
             have HSN : Hid (SN = (⟨c, 0, 0⟩, 1)) := by unfold Hid; rw [HSHN.out]; rw [if_neg hno.1, if_neg hno.2.1, if_neg hno.2.2]
             obtain ⟨kv, hkv⟩ : ∃ kv, kv = 1 := ⟨_, rfl⟩
             obtain ⟨t1, ht1⟩ : ∃ t1, t1 = i + kv := ⟨_, rfl⟩
             have HT1 : Hid (i < t1 ∧ t1 ≤ n ∧ n - t1 ≤ f) := by
               have h5 := HB5.out
               rw [HSN.out] at h5
               have h6 := HF.out
               simp only [] at h5
               unfold Hid
               omega
             have HSTEP : Hid (Inf.sho x (f + 1) i = ⟨c, 0, 0⟩ :: Inf.sho x f t1) := by unfold Hid; rw [HSTEP.out, HSN.out, ht1, hkv]
             have hk1 : (kv : Int) = 1 := by omega
             have hti1 : (i : Int) + 1 = (t1 : Int) := by omega
             have HSF : Hid (SyS w (wz.alloc (.cells #[.int .i64 (c : Nat), .int .i64 0, .int .i64 0] 95)) (.slice ad z cp) L) := HSZ.out.later ((Below.refl _ _).alloc (Nat.le_refl _) _)
             have HNT : Hid (∀ v' w9 o, w9.ownsRow w.heap.size 95 3 v' (z + 1) (spk L ++ spk [⟨c, 0, 0⟩]) → (World.alloc (wz.alloc (.cells #[.int .i64 (c : Nat), .int .i64 0, .int .i64 0] 95)) o).grownBy w9 (Value.slice ad z cp).ownBlock → SyS w w9 v' (L ++ [⟨c, 0, 0⟩]) ∧ ∃ p q, v' = .slice p z1 q) := by
               intro v' w9 o h1 h2
               rw [HZ.out] at h1
               have h3 := HSF.out.snoc ((Below.refl _ _).alloc (Nat.le_refl _) o) (R := [⟨c, 0, 0⟩]) h1 h2
               obtain ⟨p, q, e⟩ := h3.form
               exact ⟨h3, p, q, by rw [e, List.length_append, List.length_singleton, HZ1.out, HZ.out]⟩
             have HOW : Hid (World.ownsRow (wz.alloc (.cells #[.int .i64 (c : Nat), .int .i64 0, .int .i64 0] 95)) w.heap.size 95 3 (.slice ad z cp) z (spk L)) := by have := HSF.out.own; rw [← HZ.out] at this; exact this
             have HONE : Hid (SmsIn (World.alloc (wz.alloc (.cells #[.int .i64 (c : Nat), .int .i64 0, .int .i64 0] 95)) (.cells #[.int .i64 (c : Nat), .int .i64 0, .int .i64 0] 95)) (.slice (some ⟨wz.heap.size + 1, 0, none⟩) 1 1) [⟨c, 0, 0⟩] (fun s => s = wz.heap.size + 1)) := by have := one_sym (wz.alloc (.cells #[.int .i64 (c : Nat), .int .i64 0, .int .i64 0] 95)) ⟨c, 0, 0⟩; simp only [World.size_alloc] at this; exact this
             have hz6 : z + 1 ≤ 1099511627776 := by have := HZI.out; have := HN6.out; have := HLT.out; omega
             have hti : (i : Int) + (kv : Int) = (t1 : Int) := by omega
             have ht1I : (t1 : Int) ≤ 1000 := by have := HT1.out; omega
             clear hkv ht1 HBL HBZ HB5 HSHN HSN hno
             go_wp2_with (first | (at_builtin; refine wpList_append_syms rfl (.tmp 67) (.tmp 69) rfl w.heap.size _ z (spk L) rfl (HOW.out.alloc _) _ [⟨c, 0, 0⟩] _ (by rfl) HONE.out (by intro n c e; cases e) hz6 (by have := HLO.out; simp; omega) ?_; intro v9 w9 o9 g9; obtain ⟨q9, ad9, c9, rfl⟩ := HNT.out v9 w9 _ o9.out g9.out; have HP9 := Lib.hid q9; clear o9 g9 q9))
             go_roundw
             case rel => exact ⟨f, t1, z1, L ++ [⟨c, 0, 0⟩], ad9, c9, HT1.out.2.1, HT1.out.2.2, by rw [HZ1.out, HZ.out, List.length_append, List.length_singleton], by have := HZ1.out; have := HZI.out; have := HT1.out; omega, rfl, by congr 1, by rw [List.append_assoc, ← HSH.out, HSTEP.out]; rfl, HP9.out⟩
             case measure => have := HT1.out; simp [intOf]; omega
     · have g0 : ((c : Int) == 0) = false := by simp; omega
       by_cases h0 : 0 < i
       · have g3 : decide ((0 : Int) < (i : Int)) = true := decide_eq_true (by omega)
         have g3' : decide (0 < i) = true := decide_eq_true h0
         have hp := HPB.out h0
         have hi1 : (i : Int) - 1 = ((i - 1 : Nat) : Int) := by omega
         have hi1n : ((i - 1 : Nat) : Int) < (n : Int) := by omega
         generalize i - 1 = im at *
         by_cases hcp : c = pv
         · have g4 : ((c : Int) == (pv : Int)) = true := by simp; omega
           have HCP := Lib.hid hcp
           clear hcp
           by_cases h3 : 3 ≤ N
           · have g2 : decide ((3 : Int) ≤ (N : Int)) = true := decide_eq_true (by omega)
             obtain ⟨xv, hxv⟩ : ∃ xv, xv = min N 6 - 3 := ⟨_, rfl⟩
             have HSN : Hid (SN = (⟨16, xv, 2⟩, min N 6)) := by unfold Hid; rw [HSHN.out, hxv]; rw [if_neg (fun h => hc0 h.1), if_neg (fun h => hc0 h.1), if_pos ⟨h0, HCP.out, h3⟩]
             obtain ⟨kv, hkv⟩ : ∃ kv, kv = min N 6 := ⟨_, rfl⟩
             obtain ⟨t1, ht1⟩ : ∃ t1, t1 = i + kv := ⟨_, rfl⟩
             have HT1 : Hid (i < t1 ∧ t1 ≤ n ∧ n - t1 ≤ f) := by
               have h5 := HB5.out
               rw [HSN.out] at h5
               have h6 := HF.out
               simp only [] at h5
               unfold Hid
               omega
             have HSTEP : Hid (Inf.sho x (f + 1) i = ⟨16, xv, 2⟩ :: Inf.sho x f t1) := by unfold Hid; rw [HSTEP.out, HSN.out, ht1, hkv]
             have hxI : (kv : Int) - 3 = (xv : Int) := by omega
             have hkI : (kv : Int) ≤ 1000 := by omega
             have hxvI : (xv : Int) ≤ 1000 := by omega
             have hmin : ∀ (ts : Array TypeId) (ty : TypeId) (wx : World), (Builtin.min_ ts ty #[.int .i64 (N : Nat), .int .i64 6]).run Tryz.prog wx = .ok (.int .i64 (kv : Nat)) wx := fun ts ty wx => by
               rw [run_min_int2]
               congr 2
               split <;> omega
             have HSF : Hid (SyS w (wz.alloc (.cells #[.int .i64 16, .int .i64 (xv : Nat), .int .i64 2] 95)) (.slice ad z cp) L) := HSZ.out.later ((Below.refl _ _).alloc (Nat.le_refl _) _)
             have HNT : Hid (∀ v' w9 o, w9.ownsRow w.heap.size 95 3 v' (z + 1) (spk L ++ spk [⟨16, xv, 2⟩]) → (World.alloc (wz.alloc (.cells #[.int .i64 16, .int .i64 (xv : Nat), .int .i64 2] 95)) o).grownBy w9 (Value.slice ad z cp).ownBlock → SyS w w9 v' (L ++ [⟨16, xv, 2⟩]) ∧ ∃ p q, v' = .slice p z1 q) := by
               intro v' w9 o h1 h2
               rw [HZ.out] at h1
               have h3 := HSF.out.snoc ((Below.refl _ _).alloc (Nat.le_refl _) o) (R := [⟨16, xv, 2⟩]) h1 h2
               obtain ⟨p, q, e⟩ := h3.form
               exact ⟨h3, p, q, by rw [e, List.length_append, List.length_singleton, HZ1.out, HZ.out]⟩
             have HOW : Hid (World.ownsRow (wz.alloc (.cells #[.int .i64 16, .int .i64 (xv : Nat), .int .i64 2] 95)) w.heap.size 95 3 (.slice ad z cp) z (spk L)) := by have := HSF.out.own; rw [← HZ.out] at this; exact this
             have HONE : Hid (SmsIn (World.alloc (wz.alloc (.cells #[.int .i64 16, .int .i64 (xv : Nat), .int .i64 2] 95)) (.cells #[.int .i64 16, .int .i64 (xv : Nat), .int .i64 2] 95)) (.slice (some ⟨wz.heap.size + 1, 0, none⟩) 1 1) [⟨16, xv, 2⟩] (fun s => s = wz.heap.size + 1)) := by have := one_sym (wz.alloc (.cells #[.int .i64 16, .int .i64 (xv : Nat), .int .i64 2] 95)) ⟨16, xv, 2⟩; simp only [World.size_alloc] at this; exact this
             have hz6 : z + 1 ≤ 1099511627776 := by have := HZI.out; have := HN6.out; have := HLT.out; omega
             have hti : (i : Int) + (kv : Int) = (t1 : Int) := by omega
             have ht1I : (t1 : Int) ≤ 1000 := by have := HT1.out; omega
             clear hkv hxv ht1 HBL HBZ HB5 HSHN HSN
             go_wp2_with (first | (at_builtin; refine wpList_append_syms rfl (.tmp 67) (.tmp 69) rfl w.heap.size _ z (spk L) rfl (HOW.out.alloc _) _ [⟨16, xv, 2⟩] _ (by rfl) HONE.out (by intro n c e; cases e) hz6 (by have := HLO.out; simp; omega) ?_; intro v9 w9 o9 g9; obtain ⟨q9, ad9, c9, rfl⟩ := HNT.out v9 w9 _ o9.out g9.out; have HP9 := Lib.hid q9; clear o9 g9 q9))
             go_roundw
             case rel => exact ⟨f, t1, z1, L ++ [⟨16, xv, 2⟩], ad9, c9, HT1.out.2.1, HT1.out.2.2, by rw [HZ1.out, HZ.out, List.length_append, List.length_singleton], by have := HZ1.out; have := HZI.out; have := HT1.out; omega, rfl, by congr 1, by rw [List.append_assoc, ← HSH.out, HSTEP.out]; rfl, HP9.out⟩
             case measure => have := HT1.out; simp [intOf]; omega
           · have g2 : decide ((3 : Int) ≤ (N : Int)) = false := decide_eq_false (by omega)
             have hno : ¬ (c = 0 ∧ 11 ≤ N) ∧ ¬ (c = 0 ∧ 3 ≤ N) ∧ ¬ (0 < i ∧ c = pv ∧ 3 ≤ N) := ⟨fun h => hc0 h.1, fun h => hc0 h.1, fun h => h3 h.2.2⟩
             have HSN : Hid (SN = (⟨c, 0, 0⟩, 1)) := by unfold Hid; rw [HSHN.out]; rw [if_neg hno.1, if_neg hno.2.1, if_neg hno.2.2]
             obtain ⟨kv, hkv⟩ : ∃ kv, kv = 1 := ⟨_, rfl⟩
             obtain ⟨t1, ht1⟩ : ∃ t1, t1 = i + kv := ⟨_, rfl⟩
             have HT1 : Hid (i < t1 ∧ t1 ≤ n ∧ n - t1 ≤ f) := by
               have h5 := HB5.out
               rw [HSN.out] at h5
               have h6 := HF.out
               simp only [] at h5
               unfold Hid
               omega
             have HSTEP : Hid (Inf.sho x (f + 1) i = ⟨c, 0, 0⟩ :: Inf.sho x f t1) := by unfold Hid; rw [HSTEP.out, HSN.out, ht1, hkv]
             have hk1 : (kv : Int) = 1 := by omega
             have hti1 : (i : Int) + 1 = (t1 : Int) := by omega
             have HSF : Hid (SyS w (wz.alloc (.cells #[.int .i64 (c : Nat), .int .i64 0, .int .i64 0] 95)) (.slice ad z cp) L) := HSZ.out.later ((Below.refl _ _).alloc (Nat.le_refl _) _)
             have HNT : Hid (∀ v' w9 o, w9.ownsRow w.heap.size 95 3 v' (z + 1) (spk L ++ spk [⟨c, 0, 0⟩]) → (World.alloc (wz.alloc (.cells #[.int .i64 (c : Nat), .int .i64 0, .int .i64 0] 95)) o).grownBy w9 (Value.slice ad z cp).ownBlock → SyS w w9 v' (L ++ [⟨c, 0, 0⟩]) ∧ ∃ p q, v' = .slice p z1 q) := by
               intro v' w9 o h1 h2
               rw [HZ.out] at h1
               have h3 := HSF.out.snoc ((Below.refl _ _).alloc (Nat.le_refl _) o) (R := [⟨c, 0, 0⟩]) h1 h2
               obtain ⟨p, q, e⟩ := h3.form
               exact ⟨h3, p, q, by rw [e, List.length_append, List.length_singleton, HZ1.out, HZ.out]⟩
             have HOW : Hid (World.ownsRow (wz.alloc (.cells #[.int .i64 (c : Nat), .int .i64 0, .int .i64 0] 95)) w.heap.size 95 3 (.slice ad z cp) z (spk L)) := by have := HSF.out.own; rw [← HZ.out] at this; exact this
             have HONE : Hid (SmsIn (World.alloc (wz.alloc (.cells #[.int .i64 (c : Nat), .int .i64 0, .int .i64 0] 95)) (.cells #[.int .i64 (c : Nat), .int .i64 0, .int .i64 0] 95)) (.slice (some ⟨wz.heap.size + 1, 0, none⟩) 1 1) [⟨c, 0, 0⟩] (fun s => s = wz.heap.size + 1)) := by have := one_sym (wz.alloc (.cells #[.int .i64 (c : Nat), .int .i64 0, .int .i64 0] 95)) ⟨c, 0, 0⟩; simp only [World.size_alloc] at this; exact this
             have hz6 : z + 1 ≤ 1099511627776 := by have := HZI.out; have := HN6.out; have := HLT.out; omega
             have hti : (i : Int) + (kv : Int) = (t1 : Int) := by omega
             have ht1I : (t1 : Int) ≤ 1000 := by have := HT1.out; omega
             clear hkv ht1 HBL HBZ HB5 HSHN HSN hno
             go_wp2_with (first | (at_builtin; refine wpList_append_syms rfl (.tmp 67) (.tmp 69) rfl w.heap.size _ z (spk L) rfl (HOW.out.alloc _) _ [⟨c, 0, 0⟩] _ (by rfl) HONE.out (by intro n c e; cases e) hz6 (by have := HLO.out; simp; omega) ?_; intro v9 w9 o9 g9; obtain ⟨q9, ad9, c9, rfl⟩ := HNT.out v9 w9 _ o9.out g9.out; have HP9 := Lib.hid q9; clear o9 g9 q9))
             go_roundw
             case rel => exact ⟨f, t1, z1, L ++ [⟨c, 0, 0⟩], ad9, c9, HT1.out.2.1, HT1.out.2.2, by rw [HZ1.out, HZ.out, List.length_append, List.length_singleton], by have := HZ1.out; have := HZI.out; have := HT1.out; omega, rfl, by congr 1, by rw [List.append_assoc, ← HSH.out, HSTEP.out]; rfl, HP9.out⟩
             case measure => have := HT1.out; simp [intOf]; omega
         · have g4 : ((c : Int) == (pv : Int)) = false := by simp; omega
           have hno : ¬ (c = 0 ∧ 11 ≤ N) ∧ ¬ (c = 0 ∧ 3 ≤ N) ∧ ¬ (0 < i ∧ c = pv ∧ 3 ≤ N) := ⟨fun h => hc0 h.1, fun h => hc0 h.1, fun h => hcp h.2.1⟩
           have HSN : Hid (SN = (⟨c, 0, 0⟩, 1)) := by unfold Hid; rw [HSHN.out]; rw [if_neg hno.1, if_neg hno.2.1, if_neg hno.2.2]
           obtain ⟨kv, hkv⟩ : ∃ kv, kv = 1 := ⟨_, rfl⟩
           obtain ⟨t1, ht1⟩ : ∃ t1, t1 = i + kv := ⟨_, rfl⟩
           have HT1 : Hid (i < t1 ∧ t1 ≤ n ∧ n - t1 ≤ f) := by
             have h5 := HB5.out
             rw [HSN.out] at h5
             have h6 := HF.out
             simp only [] at h5
             unfold Hid
             omega
           have HSTEP : Hid (Inf.sho x (f + 1) i = ⟨c, 0, 0⟩ :: Inf.sho x f t1) := by unfold Hid; rw [HSTEP.out, HSN.out, ht1, hkv]
           have hk1 : (kv : Int) = 1 := by omega
           have hti1 : (i : Int) + 1 = (t1 : Int) := by omega
           have HSF : Hid (SyS w (wz.alloc (.cells #[.int .i64 (c : Nat), .int .i64 0, .int .i64 0] 95)) (.slice ad z cp) L) := HSZ.out.later ((Below.refl _ _).alloc (Nat.le_refl _) _)
           have HNT : Hid (∀ v' w9 o, w9.ownsRow w.heap.size 95 3 v' (z + 1) (spk L ++ spk [⟨c, 0, 0⟩]) → (World.alloc (wz.alloc (.cells #[.int .i64 (c : Nat), .int .i64 0, .int .i64 0] 95)) o).grownBy w9 (Value.slice ad z cp).ownBlock → SyS w w9 v' (L ++ [⟨c, 0, 0⟩]) ∧ ∃ p q, v' = .slice p z1 q) := by
             intro v' w9 o h1 h2
             rw [HZ.out] at h1
             have h3 := HSF.out.snoc ((Below.refl _ _).alloc (Nat.le_refl _) o) (R := [⟨c, 0, 0⟩]) h1 h2
             obtain ⟨p, q, e⟩ := h3.form
             exact ⟨h3, p, q, by rw [e, List.length_append, List.length_singleton, HZ1.out, HZ.out]⟩
           have HOW : Hid (World.ownsRow (wz.alloc (.cells #[.int .i64 (c : Nat), .int .i64 0, .int .i64 0] 95)) w.heap.size 95 3 (.slice ad z cp) z (spk L)) := by have := HSF.out.own; rw [← HZ.out] at this; exact this
           have HONE : Hid (SmsIn (World.alloc (wz.alloc (.cells #[.int .i64 (c : Nat), .int .i64 0, .int .i64 0] 95)) (.cells #[.int .i64 (c : Nat), .int .i64 0, .int .i64 0] 95)) (.slice (some ⟨wz.heap.size + 1, 0, none⟩) 1 1) [⟨c, 0, 0⟩] (fun s => s = wz.heap.size + 1)) := by have := one_sym (wz.alloc (.cells #[.int .i64 (c : Nat), .int .i64 0, .int .i64 0] 95)) ⟨c, 0, 0⟩; simp only [World.size_alloc] at this; exact this
           have hz6 : z + 1 ≤ 1099511627776 := by have := HZI.out; have := HN6.out; have := HLT.out; omega
           have hti : (i : Int) + (kv : Int) = (t1 : Int) := by omega
           have ht1I : (t1 : Int) ≤ 1000 := by have := HT1.out; omega
           clear hkv ht1 HBL HBZ HB5 HSHN HSN hno
           go_wp2_with (first | (at_builtin; refine wpList_append_syms rfl (.tmp 67) (.tmp 69) rfl w.heap.size _ z (spk L) rfl (HOW.out.alloc _) _ [⟨c, 0, 0⟩] _ (by rfl) HONE.out (by intro n c e; cases e) hz6 (by have := HLO.out; simp; omega) ?_; intro v9 w9 o9 g9; obtain ⟨q9, ad9, c9, rfl⟩ := HNT.out v9 w9 _ o9.out g9.out; have HP9 := Lib.hid q9; clear o9 g9 q9))
           go_roundw
           case rel => exact ⟨f, t1, z1, L ++ [⟨c, 0, 0⟩], ad9, c9, HT1.out.2.1, HT1.out.2.2, by rw [HZ1.out, HZ.out, List.length_append, List.length_singleton], by have := HZ1.out; have := HZI.out; have := HT1.out; omega, rfl, by congr 1, by rw [List.append_assoc, ← HSH.out, HSTEP.out]; rfl, HP9.out⟩
           case measure => have := HT1.out; simp [intOf]; omega
       · have g3 : decide ((0 : Int) < (i : Int)) = false := decide_eq_false (by omega)
         have g3' : decide (0 < i) = false := decide_eq_false h0
         have hno : ¬ (c = 0 ∧ 11 ≤ N) ∧ ¬ (c = 0 ∧ 3 ≤ N) ∧ ¬ (0 < i ∧ c = pv ∧ 3 ≤ N) := ⟨fun h => hc0 h.1, fun h => hc0 h.1, fun h => h0 h.1⟩
         have HSN : Hid (SN = (⟨c, 0, 0⟩, 1)) := by unfold Hid; rw [HSHN.out]; rw [if_neg hno.1, if_neg hno.2.1, if_neg hno.2.2]
         obtain ⟨kv, hkv⟩ : ∃ kv, kv = 1 := ⟨_, rfl⟩
         obtain ⟨t1, ht1⟩ : ∃ t1, t1 = i + kv := ⟨_, rfl⟩
         have HT1 : Hid (i < t1 ∧ t1 ≤ n ∧ n - t1 ≤ f) := by
           have h5 := HB5.out
           rw [HSN.out] at h5
           have h6 := HF.out
           simp only [] at h5
           unfold Hid
           omega
         have HSTEP : Hid (Inf.sho x (f + 1) i = ⟨c, 0, 0⟩ :: Inf.sho x f t1) := by unfold Hid; rw [HSTEP.out, HSN.out, ht1, hkv]
         have hk1 : (kv : Int) = 1 := by omega
         have hti1 : (i : Int) + 1 = (t1 : Int) := by omega
         have HSF : Hid (SyS w (wz.alloc (.cells #[.int .i64 (c : Nat), .int .i64 0, .int .i64 0] 95)) (.slice ad z cp) L) := HSZ.out.later ((Below.refl _ _).alloc (Nat.le_refl _) _)
         have HNT : Hid (∀ v' w9 o, w9.ownsRow w.heap.size 95 3 v' (z + 1) (spk L ++ spk [⟨c, 0, 0⟩]) → (World.alloc (wz.alloc (.cells #[.int .i64 (c : Nat), .int .i64 0, .int .i64 0] 95)) o).grownBy w9 (Value.slice ad z cp).ownBlock → SyS w w9 v' (L ++ [⟨c, 0, 0⟩]) ∧ ∃ p q, v' = .slice p z1 q) := by
           intro v' w9 o h1 h2
           rw [HZ.out] at h1
           have h3 := HSF.out.snoc ((Below.refl _ _).alloc (Nat.le_refl _) o) (R := [⟨c, 0, 0⟩]) h1 h2
           obtain ⟨p, q, e⟩ := h3.form
           exact ⟨h3, p, q, by rw [e, List.length_append, List.length_singleton, HZ1.out, HZ.out]⟩
         have HOW : Hid (World.ownsRow (wz.alloc (.cells #[.int .i64 (c : Nat), .int .i64 0, .int .i64 0] 95)) w.heap.size 95 3 (.slice ad z cp) z (spk L)) := by have := HSF.out.own; rw [← HZ.out] at this; exact this
         have HONE : Hid (SmsIn (World.alloc (wz.alloc (.cells #[.int .i64 (c : Nat), .int .i64 0, .int .i64 0] 95)) (.cells #[.int .i64 (c : Nat), .int .i64 0, .int .i64 0] 95)) (.slice (some ⟨wz.heap.size + 1, 0, none⟩) 1 1) [⟨c, 0, 0⟩] (fun s => s = wz.heap.size + 1)) := by have := one_sym (wz.alloc (.cells #[.int .i64 (c : Nat), .int .i64 0, .int .i64 0] 95)) ⟨c, 0, 0⟩; simp only [World.size_alloc] at this; exact this
         have hz6 : z + 1 ≤ 1099511627776 := by have := HZI.out; have := HN6.out; have := HLT.out; omega
         have hti : (i : Int) + (kv : Int) = (t1 : Int) := by omega
         have ht1I : (t1 : Int) ≤ 1000 := by have := HT1.out; omega
         clear hkv ht1 HBL HBZ HB5 HSHN HSN hno
         go_wp2_with (first | (at_builtin; refine wpList_append_syms rfl (.tmp 67) (.tmp 69) rfl w.heap.size _ z (spk L) rfl (HOW.out.alloc _) _ [⟨c, 0, 0⟩] _ (by rfl) HONE.out (by intro n c e; cases e) hz6 (by have := HLO.out; simp; omega) ?_; intro v9 w9 o9 g9; obtain ⟨q9, ad9, c9, rfl⟩ := HNT.out v9 w9 _ o9.out g9.out; have HP9 := Lib.hid q9; clear o9 g9 q9))
         go_roundw
         case rel => exact ⟨f, t1, z1, L ++ [⟨c, 0, 0⟩], ad9, c9, HT1.out.2.1, HT1.out.2.2, by rw [HZ1.out, HZ.out, List.length_append, List.length_singleton], by have := HZ1.out; have := HZI.out; have := HT1.out; omega, rfl, by congr 1, by rw [List.append_assoc, ← HSH.out, HSTEP.out]; rfl, HP9.out⟩
         case measure => have := HT1.out; simp [intOf]; omega
   · have e : i = n := by omega
     subst e
     have d1 : decide (i < i) = false := decide_eq_false hlt
     have d1' : decide ((i : Int) < (i : Int)) = false := decide_eq_false (by omega)
     have HE : Hid (SyS w wr (.slice ad z cp) (Inf.sho x i 0)) := by
       have := HSH.out
       rw [Inf.sho_end x f i (by have := HN.out; omega), List.append_nil] at this
       rw [← this]; exact HS.out
     clear hi hlt
     go_wp2
     go_ret
     exact ⟨_, rfl, HE.out⟩
end Go.Proofs.YtenkkononchgmaaGreatDoor
