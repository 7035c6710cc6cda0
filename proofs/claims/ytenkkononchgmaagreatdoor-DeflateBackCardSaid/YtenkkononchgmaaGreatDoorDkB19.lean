/- Laid together: InfStored. -/
import Derived.Test.YtenkkononchgmaaGreatDoorDkB18
import Derived.Test.YtenkkononchgmaaGreatDoorDkB08

namespace Go.Proofs.YtenkkononchgmaaGreatDoor
open Go.RowKit Go

def Out (w0 w : World) (g N V : Nat) (vb : Value) (M : Nat) (r : Inf.R (List Int)) (w' : World) : Prop :=
 Kp g w w' ∧ ((∃ (k : Int) (p : Nat) (T : List Int) (vt : Value), r = .err k ∧ ¬ k = 0 ∧ Ri w0 w' g N V vb p T vt M k) ∨ (∃ q U vt, r = .ok q U ∧ U.length ≤ M ∧ Ri w0 w' g N V vb q U vt M 0))
theorem Ri.app2 {w0 w w' : World} {g N V : Nat} {vb : Value} {p : Nat} {T : List Int} {vt vt' : Value} {M : Nat} {e : Int} {B : List Int} (h : Ri w0 w g N V vb p T vt M e) (ho : w'.ownsRow w0.heap.size 5 1 vt' (T.length + B.length) (k8 T ++ k8 B)) (hg : w.grownBy w' vt.ownBlock) :
   (∃ u, w'.cell? ⟨g, 2, none⟩ = some u) ∧ w'.frozen? ⟨g, 2, none⟩ = false ∧ Ri w0 (w'.setCell ⟨g, 2, none⟩ vt') g N V vb p (T ++ B) vt' M e ∧ Kp g w (w'.setCell ⟨g, 2, none⟩ vt') := by
 have hrow : w'.heap[g]? = _ := (hg.block g h.lt (fun e => h.nt e.symm rfl)).trans h.row
 exact ⟨⟨vt, (cell_of_row _ _ _ _ _ _ hrow).trans rfl⟩, frozen_of_row _ _ _ _ _ hrow, h.app ho hg, (Kp.app h.txt hg).trans (Kp.set _ _ _)⟩
def Inf.posR (w : World) (g : Nat) : Nat := match w.cell? ⟨g, 1, none⟩ with
 | some v => (intOf v).toNat
 | none => 0
theorem Ri.pos {w0 w : World} {g N V : Nat} {vb : Value} {p : Nat} {T : List Int} {vt : Value} {M : Nat} {e : Int} (h : Ri w0 w g N V vb p T vt M e) : Inf.posR w g = p := by
 unfold Inf.posR
 rw [h.c1]
 simp [intOf]
theorem Inf.stored_bad' {V N M p : Nat} {T : List Int} (h : ¬ (Inf.up p + 32 ≤ N ∧ Inf.num V (Inf.up p) 16 + Inf.num V (Inf.up p + 16) 16 = 65535 ∧ Inf.up p + 32 + 8 * Inf.num V (Inf.up p) 16 ≤ N)) : Inf.stored V N M p T = .err 4 := by
 unfold Inf.stored; rw [if_neg h]

set_option maxRecDepth 100000 in
set_option maxHeartbeats 8000000 in
theorem rstored_any (w0 w : World) (g N V : Nat) (vb : Value) (p : Nat) (T : List Int) (vt : Value) (M : Nat) (h : Ri w0 w g N V vb p T vt M 0) (hN : N ≤ 1000000) (hN8 : N % 8 = 0) (hT : T.length ≤ M) (hM : M ≤ 65536) :
   Calls Tryz.prog 54 #[.pointer (some ⟨g, 0, none⟩)] w fun e w' => e = .returned (.tuple #[]) ∧ Out w0 w g N V vb M (Inf.stored V N M p T) w' := by
 obtain ⟨ab, cb, rfl, -⟩ := h.bit
 obtain ⟨ST, hst⟩ : ∃ ST, ST = Inf.stored V N M p T := ⟨_, rfl⟩
 rw [← hst]
 have HST := Lib.hid hst
 have HH := Lib.hid h
 have HN := Lib.hid hN
 have HM := Lib.hid hM
 have HT := Lib.hid hT
 obtain ⟨u, hu⟩ : ∃ u, u = Inf.up p := ⟨_, rfl⟩
 have hple := h.ple
 have HPU : Hid (p ≤ u ∧ u ≤ N ∧ ∀ i, p ≤ i → i ≤ u → (i % 8 = 0 ↔ i = u)) := by
   unfold Hid
   have e : u = p + (8 - p % 8) % 8 := hu
   refine ⟨by omega, by omega, fun i h1 h2 => ?_⟩
   omega
 have HU := Lib.hid hu
 clear h hst hN hN8 hT hM hu hple
 go_enter Tryz.func54, Tryz.ntmps54
 go_wp2_with fail
 go_loopw [5] (fun _ wr => ∃ i : Nat, p ≤ i ∧ i ≤ u ∧ Ri w0 wr g N V _ i T vt M 0 ∧ Kp g w wr) (fun _ wr => u - Inf.posR wr g)
 case atStart => exact ⟨p, Nat.le_refl _, HPU.out.1, HH.out, Kp.refl _ _⟩
 case round =>
   obtain ⟨i, hpi, hiu, hr, hk⟩ := hrel
   have HR := Lib.hid hr
   have HK := Lib.hid hk
   have HPOS : Hid (Inf.posR wr g = i) := hr.pos
   have c1 := hr.c1
   have f1 := hr.fr 1
   have hi6 : (i : Int) ≤ 1000000 := by have := HN.out; have := HPU.out.2.1; omega
   obtain ⟨m, hm⟩ : ∃ m, m = i % 8 := ⟨_, rfl⟩
   have hmI : (i : Int) % 8 = (m : Int) := by omega
   by_cases hiu2 : i = u
   · have hm0 : m = 0 := by rw [hm]; exact (HPU.out.2.2 i hpi hiu).2 hiu2
     subst hm0
     subst hiu2
     have HS0 := Lib.hid hr
     have HK0 := Lib.hid hk
     clear hr hk hm hiu hpi HH
     by_cases h1 : i + 16 ≤ N
     · have HN1 := Lib.hid (rnum_any 16 w0 wr g N V _ i T vt M HS0.out HN.out (by omega) h1)
       obtain ⟨n, hn⟩ : ∃ n, n = Inf.num V i 16 := ⟨_, rfl⟩
       have n6 : n < 65536 := by rw [hn]; exact Inf.num_lt V i 16
       rw [← hn] at HN1
       have HNN := Lib.hid hn
       have HNB := Lib.hid n6
       have H1 := Lib.hid h1
       clear hn n6 h1
       go_wp2_with fail
       refine HN1.out.mono ?_
       rintro en w1 ⟨rfl, g1, g2⟩
       have HS1 := Lib.hid g1
       have HK1 := Lib.hid (HK0.out.trans g2)
       clear g1 g2 HN1 HS0 HK0 c1 f1
       by_cases h2 : i + 16 + 16 ≤ N
       · have HN2 := Lib.hid (rnum_any 16 w0 w1 g N V _ (i + 16) T vt M HS1.out HN.out (by omega) h2)
         obtain ⟨m2, hm2⟩ : ∃ m2, m2 = Inf.num V (i + 16) 16 := ⟨_, rfl⟩
         have m6 : m2 < 65536 := by rw [hm2]; exact Inf.num_lt V (i + 16) 16
         rw [← hm2] at HN2
         have HMM := Lib.hid hm2
         have HMB := Lib.hid m6
         have H2 := Lib.hid h2
         clear hm2 m6 h2
         go_wp2_with fail
         refine HN2.out.mono ?_
         rintro en w2 ⟨rfl, g1, g2⟩
         have HS2 := Lib.hid g1
         have HK2 := Lib.hid (HK1.out.trans g2)
         clear g1 g2 HN2 HS1 HK1
         obtain ⟨sm, hsm⟩ : ∃ sm, sm = n + m2 := ⟨_, rfl⟩
         have hsmI : (n : Int) + (m2 : Int) = (sm : Int) := by omega
         have hsm6 : (sm : Int) ≤ 200000 := by have := HNB.out; have := HMB.out; omega
         have n7 : (n : Int) ≤ 100000 := by have := HNB.out; omega
         have m7 : (m2 : Int) ≤ 100000 := by have := HMB.out; omega
         have HSM := Lib.hid hsm
         clear hsm
         by_cases hs : sm = 65535
         · have hs1 : ((sm : Int) != 65535) = false := by simp; omega
           have HSS := Lib.hid hs
           clear hs
           obtain ⟨av, cv, rfl⟩ := HS2.out.form
           obtain ⟨ps, hps⟩ : ∃ ps, ps = i + 16 + 16 := ⟨_, rfl⟩
           rw [← hps] at HS2
           have HPS := Lib.hid hps
           obtain ⟨k1, hk1⟩ : ∃ k1, k1 = 8 * n := ⟨_, rfl⟩
           obtain ⟨k2, hk2⟩ : ∃ k2, k2 = ps + k1 := ⟨_, rfl⟩
           have hk1I : 8 * (n : Int) = (k1 : Int) := by omega
           have hk2I : (ps : Int) + (k1 : Int) = (k2 : Int) := by omega
           have hps6 : (ps : Int) ≤ 1000000 := by have := HS2.out.ple; have := HN.out; omega
           have hk16 : (k1 : Int) ≤ 800000 := by omega
           have HK1E := Lib.hid hk1
           have HK2E := Lib.hid hk2
           have q00 : ((0 : Int) == 0) = true := rfl
           have c4 := HS2.out.c4
           have c0 := HS2.out.c0
           have c1 := HS2.out.c1
           clear hps hk1 hk2
           by_cases hfit : N < k2
           · have d1 : decide (N < k2) = true := decide_eq_true hfit
             have d2 : decide ((N : Int) < (k2 : Int)) = true := decide_eq_true (by omega)
             have HE4 : Hid (ST = .err 4) := HST.out.trans (Inf.stored_bad' (by
               rintro ⟨a, b, c⟩
               rw [← HU.out, ← HNN.out] at c
               have := HPS.out; have := HK1E.out; have := HK2E.out; omega))
             clear hfit
             go_wp2_with fail
             go_quiet (fail)
             have HS3 := Lib.hid (HS2.out.drawn ⟨nq, rfl⟩)
             have HK3 := Lib.hid (HK2.out.trans (Kp.drawn ⟨nq, rfl⟩))
             generalize World.drewN _ nq = w3 at *
             clear HS2 HK2 nq c0 c1 c4
             go_wp2_with fail
             refine (rfail_any 4 w0 _ g N V _ _ T _ M 0 HS3.out).mono ?_
             rintro en Zw ⟨rfl, g1, g2⟩
             rw [Inf.er_zero] at g1
             have ZE := Lib.hid g1
             have ZK := Lib.hid (HK3.out.trans g2)
             have c4 := ZE.out.c4
             have q0 : ((4 : Int) == 0) = false := rfl
             clear g1 g2 HS3 HK3
             go_wp2_with fail
             go_quiet (fail)
             have BE := Lib.hid (ZE.out.drawn ⟨nq, rfl⟩)
             have BK := Lib.hid (ZK.out.trans (Kp.drawn ⟨nq, rfl⟩))
             generalize World.drewN _ nq = Bw at *
             clear ZE ZK
             clear nq
             have c4 := BE.out.c4
             go_wp2_with fail
             go_loopw [4] (fun v4 wr => v4 = .int .i64 0 ∧ wr = Bw) (fun _ _ => 0)
             case atStart => exact ⟨rfl, rfl⟩
             case round =>
               obtain ⟨rfl, hw⟩ := hrel
               subst wr
               have c4 := BE.out.c4
               by_cases hz : 0 < n
               · have z1 : decide (0 < n) = true := decide_eq_true hz
                 have z2 : decide ((0 : Int) < (n : Int)) = true := decide_eq_true (by omega)
                 clear hz
                 go_wp2
                 go_returns
                 exact ⟨rfl, BK.out, .inl ⟨4, _, _, _, HE4.out, by decide, BE.out⟩⟩
               · have z1 : decide (0 < n) = false := decide_eq_false hz
                 have z2 : decide ((0 : Int) < (n : Int)) = false := decide_eq_false (by omega)
                 clear hz
                 go_wp2
                 go_returns
                 exact ⟨rfl, BK.out, .inl ⟨4, _, _, _, HE4.out, by decide, BE.out⟩⟩
           · have d1 : decide (N < k2) = false := decide_eq_false hfit
             have d2 : decide ((N : Int) < (k2 : Int)) = false := decide_eq_false (by omega)
             have HOK : Hid (Inf.up p + 32 ≤ N ∧ Inf.num V (Inf.up p) 16 + Inf.num V (Inf.up p + 16) 16 = 65535 ∧ Inf.up p + 32 + 8 * Inf.num V (Inf.up p) 16 ≤ N) := by
               unfold Hid
               rw [← HU.out, ← HNN.out, ← HMM.out]
               have := HPS.out; have := HK1E.out; have := HK2E.out; have := HSM.out; have := HSS.out
               omega
             clear hfit
             go_wp2_with fail
             go_quiet (fail)
             have HS3 := Lib.hid (HS2.out.drawn ⟨nq, rfl⟩)
             have HK3 := Lib.hid (HK2.out.trans (Kp.drawn ⟨nq, rfl⟩))
             generalize World.drewN _ nq = w3 at *
             clear HS2 HK2 nq c0 c1 c4
             obtain ⟨z, hz⟩ : ∃ z, z = T.length := ⟨_, rfl⟩
             obtain ⟨zn, hzn⟩ : ∃ zn, zn = z + n := ⟨_, rfl⟩
             have hznI : (z : Int) + (n : Int) = (zn : Int) := by omega
             have hz6 : (z : Int) ≤ 65536 := by have := HT.out; have := HM.out; omega
             have HZ := Lib.hid hz
             have HZN := Lib.hid hzn
             have c4 := HS3.out.c4
             have c2 := HS3.out.c2
             have c3 := HS3.out.c3
             rw [← hz] at c2
             clear hz hzn
             by_cases hrm : M < zn
             · have e1 : decide (M < zn) = true := decide_eq_true hrm
               have e2 : decide ((M : Int) < (zn : Int)) = true := decide_eq_true (by omega)
               have HE4 : Hid (ST = .err 3) := by
                 unfold Hid
                 rw [HST.out, Inf.stored, if_pos HOK.out, if_pos (by rw [← HU.out, ← HNN.out]; have := HZ.out; have := HZN.out; omega)]
               clear hrm
               go_wp2_with fail
               go_quiet (fail)
               have HS4 := Lib.hid (HS3.out.drawn ⟨nq, rfl⟩)
               have HK4 := Lib.hid (HK3.out.trans (Kp.drawn ⟨nq, rfl⟩))
               generalize World.drewN _ nq = w4 at *
               clear HS3 HK3 nq c2 c3 c4
               go_wp2_with fail
               refine (rfail_any 3 w0 _ g N V _ _ T _ M 0 HS4.out).mono ?_
               rintro en Bw ⟨rfl, g1, g2⟩
               rw [Inf.er_zero] at g1
               have BE := Lib.hid g1
               have BK := Lib.hid (HK4.out.trans g2)
               have c4 := BE.out.c4
               clear g1 g2 HS4 HK4
               have q0 : ((3 : Int) == 0) = false := rfl
               go_wp2_with fail
               go_loopw [4] (fun v4 wr => v4 = .int .i64 0 ∧ wr = Bw) (fun _ _ => 0)
               case atStart => exact ⟨rfl, rfl⟩
               case round =>
                 obtain ⟨rfl, hw⟩ := hrel
                 subst wr
                 have c4 := BE.out.c4
                 by_cases hz : 0 < n
                 · have z1 : decide (0 < n) = true := decide_eq_true hz
                   have z2 : decide ((0 : Int) < (n : Int)) = true := decide_eq_true (by omega)
                   clear hz
                   go_wp2
                   go_returns
                   exact ⟨rfl, BK.out, .inl ⟨3, _, _, _, HE4.out, by decide, BE.out⟩⟩
                 · have z1 : decide (0 < n) = false := decide_eq_false hz
                   have z2 : decide ((0 : Int) < (n : Int)) = false := decide_eq_false (by omega)
                   clear hz
                   go_wp2
                   go_returns
                   exact ⟨rfl, BK.out, .inl ⟨3, _, _, _, HE4.out, by decide, BE.out⟩⟩
             · have e1 : decide (M < zn) = false := decide_eq_false hrm
               have e2 : decide ((M : Int) < (zn : Int)) = false := decide_eq_false (by omega)
               have HGO : Hid (ST = .ok (ps + 8 * n) (T ++ Inf.byts V ps n) ∧ T.length + n ≤ M) := by
                 unfold Hid
                 have h1 : Inf.stored V N M p T = .ok (Inf.up p + 32 + 8 * Inf.num V (Inf.up p) 16) (T ++ Inf.byts V (Inf.up p + 32) (Inf.num V (Inf.up p) 16)) := by
                   rw [Inf.stored, if_pos HOK.out, if_neg (by rw [← HU.out, ← HNN.out]; have := HZ.out; have := HZN.out; omega)]
                 rw [← HU.out, ← HNN.out, show i + 32 = ps by have := HPS.out; omega] at h1
                 exact ⟨HST.out.trans h1, by have := HZ.out; have := HZN.out; omega⟩
               have HPN : Hid (ps + 8 * n ≤ N) := by
                 have h1 := HOK.out.2.2
                 rw [← HU.out, ← HNN.out] at h1
                 unfold Hid; have := HPS.out; omega
               clear hrm
               go_wp2_with fail
               go_quiet (fail)
               have HS4 := Lib.hid (HS3.out.drawn ⟨nq, rfl⟩)
               have HK4 := Lib.hid (HK3.out.trans (Kp.drawn ⟨nq, rfl⟩))
               generalize World.drewN _ nq = w4 at *
               clear HS3 HK3 nq c2 c3 c4
               go_wp2_with fail
               go_loopw [4] (fun v4 wr => ∃ (j : Nat) (vj : Value), j ≤ n ∧ v4 = .int .i64 (j : Int) ∧ Ri w0 wr g N V _ (ps + 8 * j) (T ++ Inf.byts V ps j) vj M 0 ∧ Kp g w wr) (fun v4 _ => (n - intOf v4).toNat)
               case atStart => exact ⟨0, _, by omega, rfl, by simpa [Inf.byts] using HS4.out, HK4.out⟩
               case round =>
                 clear HS4 HK4
                 obtain ⟨j, vj, hj, rfl, hs, hk⟩ := hrel
                 obtain ⟨aj, cj, rfl⟩ := hs.form
                 have HSJ := Lib.hid hs
                 have HKJ := Lib.hid hk
                 have c4 := hs.c4
                 clear hs hk
                 by_cases hlt : j < n
                 · have z1 : decide (j < n) = true := decide_eq_true hlt
                   have z2 : decide ((j : Int) < (n : Int)) = true := decide_eq_true (by omega)
                   obtain ⟨x, hx⟩ : ∃ x, x = Inf.num V (ps + 8 * j) 8 := ⟨_, rfl⟩
                   have x8 : x < 256 := by rw [hx]; exact Inf.num_lt V _ 8
                   have xw : IntKind.u8.wrap (x : Int) = (x : Int) := by rw [IntKind.wrap_u8]; omega
                   have HNX : Hid (T ++ Inf.byts V ps (j + 1) = T ++ Inf.byts V ps j ++ [(x : Int)] ∧ ps + 8 * (j + 1) = ps + 8 * j + 8) := by
                     unfold Hid
                     rw [Inf.byts_succ, ← hx, List.append_assoc]
                     exact ⟨rfl, by omega⟩
                   have HBL : Hid ((T ++ Inf.byts V ps j).length ≤ 65536) := by unfold Hid; rw [List.length_append, Inf.byts_length]; have := HGO.out.2; have := HM.out; omega
                   have HRN := Lib.hid (fun (wx : World) (h : Drawn wr wx) => (rnum_any 8 w0 wx g N V _ (ps + 8 * j) _ _ M (HSJ.out.drawn h) HN.out (by omega) (by have := HPN.out; omega)))
                   rw [← hx] at HRN
                   have HLT := Lib.hid hlt
                   clear hx hlt x8
                   generalize T ++ Inf.byts V ps j = Tj at *
                   have c2 := HSJ.out.c2
                   go_wp2_with fail
                   go_region_law ((first
                     | (refine step_append_byte _ (by rfl) _ _ (by rfl) w0.heap.size _ Tj.length (k8 Tj) (by rfl) ((HS5.out.later ((Below.refl _ _).alloc (Nat.le_refl _) _)).txt) w5.heap.size (x : Int) (by rfl) (heap_alloc_new w5 _) (by have := HBL.out; omega) (by have := HS5.out.bel.size; simp; omega) ?_; intro v' w7 ho7 hg7; obtain ⟨a7, c7, rfl⟩ := own_form ho7.out; obtain ⟨⟨u7, k1⟩, k2, k3, k4⟩ := (HS5.out.later ((Below.refl _ _).alloc (Nat.le_refl _) _)).app2 (B := [(x : Int)]) ho7.out hg7.out; have HY := Lib.hid k3; have HYK := Lib.hid k4; clear k3 k4 ho7 hg7)
                     | (go_simp; go_at_call 53; (refine (HRN.out _ (by first | exact Drawn.refl _ | exact (Drawn.refl _).drew)).mono ?_); rintro en w5 ⟨rfl, g1, g2⟩; have HS5 := Lib.hid g1; have HK5 := Lib.hid g2; have c2b := HS5.out.c2; have c2c : (w5.alloc (.cells #[.int .u8 (x : Int)] 5)).cell? ⟨g, 2, none⟩ = some (.slice aj Tj.length cj) := (HS5.out.later ((Below.refl _ _).alloc (Nat.le_refl _) _)).c2; clear g1 g2)))
                   all_goals go_wp2
                   all_goals
                     refine ⟨⟨j + 1, .slice a7 (Tj.length + 1) c7, by have := HLT.out; omega, by go_num, ?_, ?_⟩, by have := HLT.out; simp [intOf]; omega⟩
                     · rw [HNX.out.1, HNX.out.2]
                       exact HY.out
                     · exact (((HKJ.out.trans (Kp.drawn (Drawn.refl wr).drew)).trans HK5.out).trans (Kp.below ((Below.refl _ _).alloc (Nat.le_refl _) _))).trans HYK.out
                 · obtain rfl : j = n := by omega
                   have z1 : decide (j < j) = false := decide_eq_false (by omega)
                   have z2 : decide ((j : Int) < (j : Int)) = false := decide_eq_false (by omega)
                   clear hlt
                   go_wp2
                   go_returns
                   exact ⟨rfl, HKJ.out, .inr ⟨_, _, _, HGO.out.1, by rw [List.length_append, Inf.byts_length]; exact HGO.out.2, HSJ.out⟩⟩
         · have hs1 : ((sm : Int) != 65535) = true := by simp; omega
           have HE4 : Hid (ST = .err 4) := HST.out.trans (Inf.stored_bad' (by
             rintro ⟨a, b, c⟩
             rw [← HU.out, ← HNN.out, ← HMM.out] at b
             have := HSM.out; omega))
           clear hs
           go_wp2_with fail
           refine (rfail_any 4 w0 _ g N V _ _ T vt M 0 HS2.out).mono ?_
           rintro en Zw ⟨rfl, g1, g2⟩
           rw [Inf.er_zero] at g1
           have ZE := Lib.hid g1
           have ZK := Lib.hid (HK2.out.trans g2)
           clear g1 g2 HS2 HK2
           have q0 : ((4 : Int) == 0) = false := rfl
           have c4 := ZE.out.c4
           go_wp2_with fail
           go_quiet (fail)
           have AE := Lib.hid (ZE.out.drawn ⟨nq, rfl⟩)
           have AK := Lib.hid (ZK.out.trans (Kp.drawn ⟨nq, rfl⟩))
           generalize World.drewN _ nq = Aw at *
           clear ZE ZK
           clear nq
           have c4 := AE.out.c4
           go_wp2_with fail
           go_quiet (fail)
           have BE := Lib.hid (AE.out.drawn ⟨nq, rfl⟩)
           have BK := Lib.hid (AK.out.trans (Kp.drawn ⟨nq, rfl⟩))
           generalize World.drewN _ nq = Bw at *
           clear AE AK
           clear nq
           have c4 := BE.out.c4
           have q0 : ((4 : Int) == 0) = false := rfl
           go_wp2_with fail
           go_loopw [4] (fun v4 wr => v4 = .int .i64 0 ∧ wr = Bw) (fun _ _ => 0)
           case atStart => exact ⟨rfl, rfl⟩
           case round =>
             obtain ⟨rfl, hw⟩ := hrel
             subst wr
             have c4 := BE.out.c4
             by_cases hz : 0 < n
             · have z1 : decide (0 < n) = true := decide_eq_true hz
               have z2 : decide ((0 : Int) < (n : Int)) = true := decide_eq_true (by omega)
               clear hz
               go_wp2
               go_returns
               exact ⟨rfl, BK.out, .inl ⟨4, _, _, _, HE4.out, by decide, BE.out⟩⟩
             · have z1 : decide (0 < n) = false := decide_eq_false hz
               have z2 : decide ((0 : Int) < (n : Int)) = false := decide_eq_false (by omega)
               clear hz
               go_wp2
               go_returns
               exact ⟨rfl, BK.out, .inl ⟨4, _, _, _, HE4.out, by decide, BE.out⟩⟩
       · have HN2 := Lib.hid (rnum_no 16 w0 w1 g N V _ (i + 16) T vt M 0 HS1.out HN.out (by omega) (.inr (by omega)))
         rw [Inf.er_zero] at HN2
         have HE4 : Hid (ST = .err 4) := HST.out.trans (Inf.stored_bad' (by
           rintro ⟨a, b, c⟩
           rw [← HU.out] at a
           omega))
         clear h2
         have n7 : (n : Int) ≤ 100000 := by have := HNB.out; omega
         go_wp2_with fail
         refine HN2.out.mono ?_
         rintro en w2 ⟨rfl, g1, g2⟩
         have HS2 := Lib.hid g1
         have HK2 := Lib.hid (HK1.out.trans g2)
         clear g1 g2 HN2 HS1 HK1
         by_cases hs : n = 65535
         · have hs1 : ((n : Int) != 65535) = false := by simp; omega
           clear hs
           have ZE := Lib.hid HS2.out
           have ZK := Lib.hid HK2.out
           clear HS2 HK2
           have q0 : ((4 : Int) == 0) = false := rfl
           have c4 := ZE.out.c4
           go_wp2_with fail
           go_quiet (fail)
           have AE := Lib.hid (ZE.out.drawn ⟨nq, rfl⟩)
           have AK := Lib.hid (ZK.out.trans (Kp.drawn ⟨nq, rfl⟩))
           generalize World.drewN _ nq = Aw at *
           clear ZE ZK
           clear nq
           have c4 := AE.out.c4
           go_wp2_with fail
           go_quiet (fail)
           have BE := Lib.hid (AE.out.drawn ⟨nq, rfl⟩)
           have BK := Lib.hid (AK.out.trans (Kp.drawn ⟨nq, rfl⟩))
           generalize World.drewN _ nq = Bw at *
           clear AE AK
           clear nq
           have c4 := BE.out.c4
           have q0 : ((4 : Int) == 0) = false := rfl
           go_wp2_with fail
           go_loopw [4] (fun v4 wr => v4 = .int .i64 0 ∧ wr = Bw) (fun _ _ => 0)
           case atStart => exact ⟨rfl, rfl⟩
           case round =>
             obtain ⟨rfl, hw⟩ := hrel
             subst wr
             have c4 := BE.out.c4
             by_cases hz : 0 < n
             · have z1 : decide (0 < n) = true := decide_eq_true hz
               have z2 : decide ((0 : Int) < (n : Int)) = true := decide_eq_true (by omega)
               clear hz
               go_wp2
               go_returns
               exact ⟨rfl, BK.out, .inl ⟨4, _, _, _, HE4.out, by decide, BE.out⟩⟩
             · have z1 : decide (0 < n) = false := decide_eq_false hz
               have z2 : decide ((0 : Int) < (n : Int)) = false := decide_eq_false (by omega)
               clear hz
               go_wp2
               go_returns
               exact ⟨rfl, BK.out, .inl ⟨4, _, _, _, HE4.out, by decide, BE.out⟩⟩
         · have hs1 : ((n : Int) != 65535) = true := by simp; omega
           clear hs
           go_wp2_with fail
           refine (rfail_any 4 w0 _ g N V _ _ T vt M 4 HS2.out).mono ?_
           rintro en Zw ⟨rfl, g1, g2⟩
           rw [Inf.er_some (by decide)] at g1
           have ZE := Lib.hid g1
           have ZK := Lib.hid (HK2.out.trans g2)
           clear g1 g2 HS2 HK2
           have q0 : ((4 : Int) == 0) = false := rfl
           have c4 := ZE.out.c4
           go_wp2_with fail
           go_quiet (fail)
           have AE := Lib.hid (ZE.out.drawn ⟨nq, rfl⟩)
           have AK := Lib.hid (ZK.out.trans (Kp.drawn ⟨nq, rfl⟩))
           generalize World.drewN _ nq = Aw at *
           clear ZE ZK
           clear nq
           have c4 := AE.out.c4
           go_wp2_with fail
           go_quiet (fail)
           have BE := Lib.hid (AE.out.drawn ⟨nq, rfl⟩)
           have BK := Lib.hid (AK.out.trans (Kp.drawn ⟨nq, rfl⟩))
           generalize World.drewN _ nq = Bw at *
           clear AE AK
           clear nq
           have c4 := BE.out.c4
           have q0 : ((4 : Int) == 0) = false := rfl
           go_wp2_with fail
           go_loopw [4] (fun v4 wr => v4 = .int .i64 0 ∧ wr = Bw) (fun _ _ => 0)
           case atStart => exact ⟨rfl, rfl⟩
           case round =>
             obtain ⟨rfl, hw⟩ := hrel
             subst wr
             have c4 := BE.out.c4
             by_cases hz : 0 < n
             · have z1 : decide (0 < n) = true := decide_eq_true hz
               have z2 : decide ((0 : Int) < (n : Int)) = true := decide_eq_true (by omega)
               clear hz
               go_wp2
               go_returns
               exact ⟨rfl, BK.out, .inl ⟨4, _, _, _, HE4.out, by decide, BE.out⟩⟩
             · have z1 : decide (0 < n) = false := decide_eq_false hz
               have z2 : decide ((0 : Int) < (n : Int)) = false := decide_eq_false (by omega)
               clear hz
               go_wp2
               go_returns
               exact ⟨rfl, BK.out, .inl ⟨4, _, _, _, HE4.out, by decide, BE.out⟩⟩
     · have HN1 := Lib.hid (rnum_no 16 w0 wr g N V _ i T vt M 0 HS0.out HN.out (by omega) (.inr (by omega)))
       rw [Inf.er_zero] at HN1
       have HE4 : Hid (ST = .err 4) := HST.out.trans (Inf.stored_bad' (by
         rintro ⟨a, b, c⟩
         rw [← HU.out] at a
         omega))
       clear h1
       go_wp2_with fail
       refine HN1.out.mono ?_
       rintro en w1 ⟨rfl, g1, g2⟩
       have HS1 := Lib.hid g1
       have HK1 := Lib.hid (HK0.out.trans g2)
       clear g1 g2 HN1 HS0 HK0 c1 f1
       have HN2 := Lib.hid (rnum_no 16 w0 w1 g N V _ i T vt M 4 HS1.out HN.out (by omega) (.inl (by decide)))
       rw [Inf.er_some (by decide)] at HN2
       go_wp2_with fail
       refine HN2.out.mono ?_
       rintro en w2 ⟨rfl, g1, g2⟩
       have HS2 := Lib.hid g1
       have HK2 := Lib.hid (HK1.out.trans g2)
       clear g1 g2 HN2 HS1 HK1
       go_wp2_with fail
       refine (rfail_any 4 w0 _ g N V _ _ T vt M 4 HS2.out).mono ?_
       rintro en Zw ⟨rfl, g1, g2⟩
       rw [Inf.er_some (by decide)] at g1
       have ZE := Lib.hid g1
       have ZK := Lib.hid (HK2.out.trans g2)
       clear g1 g2 HS2 HK2
       have q0 : ((4 : Int) == 0) = false := rfl
       have c4 := ZE.out.c4
       go_wp2_with fail
       go_quiet (fail)
       have AE := Lib.hid (ZE.out.drawn ⟨nq, rfl⟩)
       have AK := Lib.hid (ZK.out.trans (Kp.drawn ⟨nq, rfl⟩))
       generalize World.drewN _ nq = Aw at *
       clear ZE ZK
       clear nq
       have c4 := AE.out.c4
       go_wp2_with fail
       go_quiet (fail)
       have BE := Lib.hid (AE.out.drawn ⟨nq, rfl⟩)
       have BK := Lib.hid (AK.out.trans (Kp.drawn ⟨nq, rfl⟩))
       generalize World.drewN _ nq = Bw at *
       clear AE AK
       clear nq
       have c4 := BE.out.c4
       go_wp2_with fail
       go_loopw [4] (fun v4 wr => v4 = .int .i64 0 ∧ wr = Bw) (fun _ _ => 0)
       case atStart => exact ⟨rfl, rfl⟩
       case round =>
         obtain ⟨rfl, hw⟩ := hrel
         subst wr
         have c4 := BE.out.c4
         go_wp2
         go_returns
         exact ⟨rfl, BK.out, .inl ⟨4, _, _, _, HE4.out, by decide, BE.out⟩⟩
   · have hm0 : ((m : Int) != 0) = true := by
       have : m ≠ 0 := fun e => hiu2 ((HPU.out.2.2 i hpi hiu).1 (by omega))
       simp; omega
     obtain ⟨i1, hi1⟩ : ∃ i1, i1 = i + 1 := ⟨_, rfl⟩
     have hi1I : (i : Int) + 1 = (i1 : Int) := by omega
     have HI1 : Hid (p ≤ i1 ∧ i1 ≤ u ∧ i < i1) := by unfold Hid; omega
     have HNX := Lib.hid (hr.setP i1 (by have := HPU.out.2.1; omega))
     have HNK := Lib.hid (hk.trans (Kp.set wr 1 (.int .i64 (i1 : Nat))))
     have HNP : Hid (Inf.posR (wr.setCell ⟨g, 1, none⟩ (.int .i64 (i1 : Nat))) g = i1) := HNX.out.pos
     clear hr hk hm hiu hpi HH hi1 hiu2
     go_wp2
     exact ⟨⟨i1, HI1.out.1, HI1.out.2.1, HNX.out, HNK.out⟩, by have := HNP.out; have := HPOS.out; have := HI1.out; omega⟩
end Go.Proofs.YtenkkononchgmaaGreatDoor
