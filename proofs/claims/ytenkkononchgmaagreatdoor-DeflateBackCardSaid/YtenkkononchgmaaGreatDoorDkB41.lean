/- Laid together: InfRefC InfRefF. -/
import Derived.Test.YtenkkononchgmaaGreatDoorDkB40

namespace Go.Proofs.YtenkkononchgmaaGreatDoor
open Go.RowKit Go

def Bx (w : World) (gx gm : Nat) : Prop := w.heap[gx]? = some (.cells #[.map (some gm)] 169 (0, 0))
theorem Bx.kp {g : Nat} {w w' : World} {gx gm : Nat} (h : Bx w gx gm) (hk : Kp g w w') (hg : gx ≠ g) : Bx w' gx gm := hk.cells h hg (by decide)
theorem Bx.c {w : World} {gx gm : Nat} (h : Bx w gx gm) : w.cell? ⟨gx, 0, none⟩ = some (.map (some gm)) := (cell_of_row _ _ _ _ _ _ h).trans rfl
theorem Ri.nx {w0 w : World} {g N V : Nat} {vb : Value} {p : Nat} {T : List Int} {vt : Value} {M : Nat} {e : Int} (h : Ri w0 w g N V vb p T vt M e) {gx gm : Nat} (hx : Bx w gx gm) : gx ≠ g := by
 have hx' : w.heap[gx]? = some (.cells #[.map (some gm)] 169 (0, 0)) := hx
 exact Inf.ne_ty hx' h.row (by decide)
def Inf.meas (w : World) (g N : Nat) : Nat := match w.cell? ⟨g, 4, none⟩ with
 | some v => if intOf v = 0 then N + 1 - Inf.posR w g else 0
 | none => 0
theorem Ri.meas {w0 w : World} {g N V : Nat} {vb : Value} {p : Nat} {T : List Int} {vt : Value} {M : Nat} {e : Int} (h : Ri w0 w g N V vb p T vt M e) : Inf.meas w g N = if e = 0 then N + 1 - p else 0 := by
 unfold Inf.meas
 rw [h.c4, h.pos]
 rfl
theorem made_tree (l : List Nat) (a : Option Addr) (n cap : Nat) (w : World) (hn : n = l.length) (hI : Ints w a n cap (Inf.lf l)) (hl : n ≤ 1000) :
   Calls Tryz.prog 97 #[.slice a n cap] w fun e w' => Below w.heap.size w w' ∧ ∃ gm, (Inf.Mk l ∧ e = .returned (.tuple #[.agg #[.map (some gm)], .bool true]) ∧ Tree w' l gm) ∨ (¬ Inf.Mk l ∧ e = .returned (.tuple #[.agg #[.map (some gm)], .bool false])) :=
 (made_any l a n cap w hn hI hl).mono fun e w' ⟨h1, gm, _, h2⟩ => by
   refine ⟨h1, gm, ?_⟩
   subst hn
   rcases h2 with ⟨a, b, c⟩ | ⟨a, b, c⟩
   · exact .inl ⟨a, b, c⟩
   · exact .inr ⟨a, b⟩
structure CdS (w0 w wr : World) (g N V : Nat) (vb : Value) (M : Nat) (x y : List Nat) (g1 g2 m1 m2 : Nat) (RS : Inf.R (List Int)) (q : Nat) (U : List Int) (vt : Value) (e : Int) : Prop where
 ri : Ri w0 wr g N V vb q U vt M e
 kp : Kp g w wr
 tx : Tree wr x m1
 ty : Tree wr y m2
 bx : Bx wr g1 m1
 by_ : Bx wr g2 m2
 st : (e = 0 ∧ U.length ≤ M ∧ RS = Inf.runs (Inf.cstep x y V N M) q U) ∨ (¬ e = 0 ∧ RS = .err e)
theorem CdS.go {w0 w wr w' : World} {g N V : Nat} {vb : Value} {M : Nat} {x y : List Nat} {g1 g2 m1 m2 : Nat} {RS : Inf.R (List Int)} {q q' : Nat} {U U' : List Int} {vt vt' : Value} {e e' : Int} (h : CdS w0 w wr g N V vb M x y g1 g2 m1 m2 RS q U vt e) (hk : Kp g wr w') (hr : Ri w0 w' g N V vb q' U' vt' M e')
   (hs : (e' = 0 ∧ U'.length ≤ M ∧ RS = Inf.runs (Inf.cstep x y V N M) q' U') ∨ (¬ e' = 0 ∧ RS = .err e')) : CdS w0 w w' g N V vb M x y g1 g2 m1 m2 RS q' U' vt' e' :=
 ⟨hr, h.kp.trans hk, h.tx.kp hk (h.ri.nm h.tx.is), h.ty.kp hk (h.ri.nm h.ty.is), h.bx.kp hk (h.ri.nx h.bx), h.by_.kp hk (h.ri.nx h.by_), hs⟩

set_option maxRecDepth 100000 in
set_option maxHeartbeats 8000000 in
theorem rcoded_any (x y : List Nat) (a1 : Option Addr) (n1 c1 : Nat) (a2 : Option Addr) (n2 c2 : Nat) (w0 w : World) (g N V : Nat) (vb : Value) (p : Nat) (T : List Int) (vt : Value) (M : Nat) (h : Ri w0 w g N V vb p T vt M 0) (hx : n1 = x.length) (hy : n2 = y.length) (hI1 : Ints w a1 n1 c1 (Inf.lf x)) (hI2 : Ints w a2 n2 c2 (Inf.lf y)) (hl1 : n1 ≤ 1000) (hl2 : n2 ≤ 1000) (hN : N ≤ 1000000) (hT : T.length ≤ M) (hM : M ≤ 65536) :
   Calls Tryz.prog 56 #[.pointer (some ⟨g, 0, none⟩), .slice a1 n1 c1, .slice a2 n2 c2] w fun e w' => e = .returned (.tuple #[]) ∧ Out w0 w g N V vb M (Inf.coded x y V N M p T) w' := by
 obtain ⟨ST, hst⟩ : ∃ ST, ST = Inf.coded x y V N M p T := ⟨_, rfl⟩
 rw [← hst]
 have HST := Lib.hid hst
 have HN := Lib.hid hN
 have HM := Lib.hid hM
 have HT := Lib.hid hT
 have HR0 := Lib.hid h
 have HM1 := Lib.hid (made_tree x a1 n1 c1 w hx hI1 hl1)
 have HM2 := Lib.hid (fun (wx : World) (hb : Below w.heap.size w wx) => made_tree y a2 n2 c2 wx hy (hI2.later hb) hl2)
 clear h hx hy hI1 hI2 hl1 hl2 hN hT hM hst
 go_enter Tryz.func56, Tryz.ntmps56
 go_wp2_with fail
 refine HM1.out.mono ?_
 rintro e w1 ⟨h1, m1, h2⟩
 have HBA : Hid (Below w.heap.size w (w1.alloc (.cells #[.map (some m1)] 169))) := h1.alloc h1.size _
 have HBX : Hid (Bx (w1.alloc (.cells #[.map (some m1)] 169)) w1.heap.size m1) := heap_alloc_new _ _
 have H2 := Lib.hid h2
 have HKA : Hid (Kp g w1 (w1.alloc (.cells #[.map (some m1)] 169))) := Kp.below ((Below.refl _ _).alloc (Nat.le_refl _) _)
 have HR1 := Lib.hid (HR0.out.later h1)
 clear h1 HM1
 rcases h2 with ⟨k1, rfl, k2⟩ | ⟨k1, rfl⟩
 · go_wp2_with fail
   refine (HM2.out _ HBA.out).mono ?_
   rintro e w2 ⟨h1, m2, h2⟩
   have HBB : Hid (Below w.heap.size w (w2.alloc (.cells #[.map (some m2)] 169))) := (HBA.out.trans (h1.mono HBA.out.size)).alloc (Nat.le_trans HBA.out.size h1.size) _
   have HKC : Hid (Kp g (w1.alloc (.cells #[.map (some m1)] 169)) (w2.alloc (.cells #[.map (some m2)] 169))) := (Kp.below h1).trans (Kp.below ((Below.refl _ _).alloc (Nat.le_refl _) _))
   have HKD : Hid (Kp g w2 (w2.alloc (.cells #[.map (some m2)] 169))) := Kp.below ((Below.refl _ _).alloc (Nat.le_refl _) _)
   have HRW2 : Hid (Below w.heap.size w w2) := HBA.out.trans (h1.mono HBA.out.size)
   have HBY : Hid (Bx (w2.alloc (.cells #[.map (some m2)] 169)) w2.heap.size m2) := heap_alloc_new _ _
   clear h1 HM2
   rcases h2 with ⟨k3, rfl, k4⟩ | ⟨k3, rfl⟩
   · have HRB := Lib.hid (HR0.out.later HBB.out)
     have HRA := Lib.hid (HR0.out.later HBA.out)
     have TX := Lib.hid ((k2.kp HKA.out (HR1.out.nm k2.is)).kp HKC.out (HRA.out.nm (k2.kp HKA.out (HR1.out.nm k2.is)).is))
     have TY := Lib.hid (k4.kp HKD.out ((HR0.out.later HRW2.out).nm k4.is))
     have BX := Lib.hid (HBX.out.kp HKC.out (HRA.out.nx HBX.out))
     have HKX := Lib.hid k1
     have HKY := Lib.hid k3
     have HS0 : Hid (CdS w0 w (w2.alloc (.cells #[.map (some m2)] 169)) g N V vb M x y w1.heap.size w2.heap.size m1 m2 ST p T vt 0) :=
       ⟨HRB.out, Kp.below HBB.out, TX.out, TY.out, BX.out, HBY.out, .inl ⟨rfl, HT.out, by rw [HST.out, Inf.coded, if_pos ⟨k1, k3⟩]⟩⟩
     clear k1 k2 k3 k4 HRB HRA TX TY BX HBX HBY HKA HKC HKD HRW2 HBA HBB HR0 HR1 HST
     go_wp2_with fail
     generalize w2.alloc (.cells #[.map (some m2)] 169) = wb at *
     generalize w1.heap.size = gx1 at *
     generalize w2.heap.size = gx2 at *
     go_loopw [10] (fun _ wr => ∃ (q : Nat) (U : List Int) (vt : Value) (e : Int), CdS w0 w wr g N V vb M x y gx1 gx2 m1 m2 ST q U vt e) (fun _ wr => Inf.meas wr g N)
     case atStart => exact ⟨p, T, vt, 0, HS0.out⟩
     case round =>
       clear HS0
       obtain ⟨q, U, vt, e, hs⟩ := hrel
       have HS := Lib.hid hs
       have c4 := hs.ri.c4
       rcases hs.st with ⟨rfl, hU, hRS⟩ | ⟨he, hRS⟩
       · have q0 : ((0 : Int) == 0) = true := rfl
         have HU := Lib.hid hU
         have HRS := Lib.hid hRS
         have HME : Hid (Inf.meas wr g N = N + 1 - q) := by unfold Hid; rw [hs.ri.meas, if_pos rfl]
         have HQN := Lib.hid hs.ri.ple
         have HSY := Lib.hid (rsym_any x m1 w0 wr g N V vb q U vt M hs.ri hs.tx HKX.out HN.out)
         have cb1 := hs.bx.c
         have HXL : Hid (x.length ≤ 288) := HKX.out.1.1
         clear hs hU hRS
         go_wp2_with fail
         refine HSY.out.mono ?_
         rintro en w6 ⟨g0, ⟨g1, rfl, q6, g3⟩ | ⟨sy, qs, g1, rfl, g3⟩⟩
         · have HE : Hid (ST = .err 4) := HRS.out.trans (Inf.runs_fin (Inf.cstep_none g1))
           have S6 := Lib.hid g3
           have K6 := Lib.hid (HS.out.kp.trans g0)
           have c4 := g3.c4
           have q1 : ((4 : Int) != 0) = true := rfl
           clear g0 g1 g3 HSY cb1
           go_wp2
           go_returns
           exact ⟨rfl, K6.out, .inl ⟨4, _, _, _, HE.out, by decide, S6.out⟩⟩
         · have S6 := Lib.hid g3
           have K6 := Lib.hid g0
           have HSE := Lib.hid g1
           have c4 := g3.c4
           have q1 : ((0 : Int) != 0) = false := rfl
           have hs288 : sy < 288 := by have h1 := (Inf.sy_lt g1).1; have h2 := HXL.out; omega
           have HLT : Hid (q < qs ∧ qs ≤ N) := ⟨(Inf.sy_lt g1).2.1, (Inf.sy_lt g1).2.2⟩
           clear g0 g1 g3 HSY cb1
           rcases Nat.lt_trichotomy sy 256 with c | c | c
           · have d1 : ((sy : Int) == 256) = false := by simp; omega
             have d2 : decide (256 < (sy : Int)) = false := decide_eq_false (by omega)
             have hwr : IntKind.u8.wrap (sy : Int) = (sy : Int) := by rw [IntKind.wrap_u8]; omega
             have HC256 := Lib.hid c
             obtain ⟨av, cv, rfl⟩ := S6.out.form
             obtain ⟨z, hz⟩ : ∃ z, z = U.length := ⟨_, rfl⟩
             have HZE := Lib.hid hz
             have cc2 := S6.out.c2
             have cc3 := S6.out.c3
             rw [← hz] at cc2
             clear c hs288 hz
             by_cases hlen : M ≤ z
             · have f1 : decide (M ≤ z) = true := decide_eq_true hlen
               have f2 : decide ((M : Int) ≤ (z : Int)) = true := decide_eq_true (by omega)
               have HE : Hid (ST = .err 3) := HRS.out.trans (Inf.runs_fin (Inf.cstep_long HSE.out HC256.out (by rw [← HZE.out]; exact hlen)))
               clear hlen
               go_wp2_with fail
               go_quiet (fail)
               have S7 := Lib.hid (S6.out.drawn ⟨nq, rfl⟩)
               have K7 := Lib.hid ((HS.out.kp.trans K6.out).trans (Kp.drawn ⟨nq, rfl⟩))
               generalize World.drewN _ nq = w7 at *
               clear S6 K6 nq cc2 cc3 c4
               go_wp2_with fail
               refine (rfail_any 3 w0 _ g N V vb _ U _ M 0 S7.out).mono ?_
               rintro en w8 ⟨rfl, g1, g2⟩
               rw [Inf.er_zero] at g1
               have R1 := Lib.hid g1
               have R2 := Lib.hid (K7.out.trans g2)
               clear g1 g2
               go_wp2
               go_returns
               exact ⟨rfl, R2.out, .inl ⟨3, _, _, _, HE.out, by decide, R1.out⟩⟩
             · have f1 : decide (M ≤ z) = false := decide_eq_false hlen
               have f2 : decide ((M : Int) ≤ (z : Int)) = false := decide_eq_false (by omega)
               have HLM : Hid (U.length < M) := by unfold Hid; rw [← HZE.out]; omega
               have HRG : Hid (ST = Inf.runs (Inf.cstep x y V N M) qs (U ++ [(sy : Int)])) := HRS.out.trans (Inf.runs_go (Inf.cstep_go HSE.out HC256.out HLM.out))
               clear hlen
               go_wp2_with fail
               go_quiet (fail)
               have S7 := Lib.hid (S6.out.drawn ⟨nq, rfl⟩)
               have K7 := Lib.hid (K6.out.trans (Kp.drawn ⟨nq, rfl⟩))
               generalize World.drewN _ nq = w7 at *
               clear S6 K6 nq cc2 cc3 c4
               have cc2 := S7.out.c2
               rw [← HZE.out] at cc2
               have S8 := Lib.hid (S7.out.later ((Below.refl _ _).alloc (Nat.le_refl _) (.cells #[.int .u8 (sy : Int)] 5)))
               have K8 := Lib.hid (K7.out.trans (Kp.below ((Below.refl _ _).alloc (Nat.le_refl _) (.cells #[.int .u8 (sy : Int)] 5))))
               have hown := S8.out.txt
               rw [← HZE.out] at hown
               have HAP : Hid (∀ v' w9, Hid (World.ownsRow w9 w0.heap.size 5 1 v' (z + [(sy : Int)].length) (k8 U ++ k8 [(sy : Int)])) → Hid ((w7.alloc (.cells #[.int .u8 (sy : Int)] 5)).grownBy w9 (Value.slice av z cv).ownBlock) → (∃ u, w9.cell? ⟨g, 2, none⟩ = some u) ∧ w9.frozen? ⟨g, 2, none⟩ = false ∧ Hid (Ri w0 (w9.setCell ⟨g, 2, none⟩ v') g N V vb qs (U ++ [(sy : Int)]) v' M 0 ∧ Kp g wr (w9.setCell ⟨g, 2, none⟩ v'))) := by
                 intro v' w9 h1 h2
                 have h3 := h1.out
                 rw [HZE.out] at h3
                 have h4 : (w7.alloc (.cells #[.int .u8 (sy : Int)] 5)).grownBy w9 (Value.slice av U.length cv).ownBlock := by rw [← HZE.out]; exact h2.out
                 obtain ⟨k1, k2, k3, k4⟩ := S8.out.app2 (B := [(sy : Int)]) h3 h4
                 exact ⟨k1, k2, k3, K8.out.trans k4⟩
               have hz6 : z ≤ 70000 := by have := HLM.out; have := HM.out; have := HZE.out; omega
               go_wp2_with (first | (at_builtin; refine wpList_append_bytes rfl (.tmp 68) (.tmp 71) rfl w0.heap.size _ z (k8 U) rfl hown (.slice (some ⟨w7.heap.size, 0, none⟩) 1 1) [(sy : Int)] (fun _ => True) rfl (one_bytes _ _) (fun n c h => by cases h) (by simp; omega) (by have := S8.out.bel.size; omega) ?_; intro v' w9 ho7 hg7; obtain ⟨a7, c7, rfl⟩ := own_form ho7.out; obtain ⟨⟨u7, k1⟩, k2, HNY⟩ := HAP.out _ _ ho7 hg7; clear ho7 hg7))
               have HCG := Lib.hid (HS.out.go HNY.out.2 HNY.out.1 (.inl ⟨rfl, by rw [List.length_append]; simp; have := HLM.out; omega, HRG.out⟩))
               have HMZ : Inf.meas (w9.setCell ⟨g, 2, none⟩ (.slice a7 (z + 1) c7)) g N = N + 1 - qs := by
                 have h1 := HCG.out.ri.meas
                 rw [if_pos rfl] at h1
                 exact h1
               exact ⟨⟨_, _, _, _, HCG.out⟩, by have := HME.out; have := HLT.out; omega⟩
           · subst c
             have HE : Hid (ST = .ok qs U) := HRS.out.trans (Inf.runs_fin (Inf.cstep_end HSE.out))
             have K7 := Lib.hid (HS.out.kp.trans K6.out)
             go_wp2
             go_returns
             exact ⟨rfl, K7.out, .inr ⟨_, _, _, HE.out, HU.out, S6.out⟩⟩
           · have d1 : ((sy : Int) == 256) = false := by simp; omega
             have d2 : decide (256 < (sy : Int)) = true := decide_eq_true (by omega)
             have cb2 := (HS.out.by_.kp K6.out (HS.out.ri.nx HS.out.by_)).c
             have HMT := Lib.hid (rmatch_any y m2 sy w0 w6 g N V vb qs U vt M S6.out (HS.out.ty.kp K6.out (HS.out.ri.nm HS.out.ty.is)) HKY.out HN.out (by omega) hs288 HU.out HM.out)
             have HC256 := Lib.hid c
             have hsyI : (sy : Int) < 288 := by omega
             clear c hs288
             go_wp2_with fail
             refine HMT.out.mono ?_
             rintro en w7 ⟨rfl, g0, ⟨k, pk, Tk, vk, g1, g2, g3⟩ | ⟨q7, U7, v7, g1, g2, g3⟩⟩
             · have HC := Lib.hid (HS.out.go (K6.out.trans g0) g3 (.inr ⟨g2, HRS.out.trans (Inf.runs_fin ((Inf.cstep_match HSE.out HC256.out).trans g1))⟩))
               have HM7 : Hid (Inf.meas w7 g N = 0) := by unfold Hid; rw [g3.meas, if_neg g2]
               clear g0 g1 g2 g3 HMT cb2
               go_wp2
               exact ⟨⟨_, _, _, _, HC.out⟩, by have := HM7.out; have := HME.out; have := HQN.out; omega⟩
             · have HC := Lib.hid (HS.out.go (K6.out.trans g0) g3 (.inl ⟨rfl, g2, HRS.out.trans (Inf.runs_go ((Inf.cstep_match HSE.out HC256.out).trans g1))⟩))
               have HM7 : Hid (Inf.meas w7 g N = N + 1 - q7) := by unfold Hid; rw [g3.meas, if_pos rfl]
               have HON := Lib.hid (Inf.mstep_on g1)
               clear g0 g1 g2 g3 HMT cb2
               go_wp2
               exact ⟨⟨_, _, _, _, HC.out⟩, by have := HM7.out; have := HME.out; have := HQN.out; have := HON.out; have := HLT.out; omega⟩
       · have q0 : (e == 0) = false := by simp [he]
         have HE := Lib.hid he
         have HRSE := Lib.hid hRS
         clear hs he hRS
         go_wp2
         go_returns
         exact ⟨rfl, HS.out.kp, .inl ⟨e, _, _, _, HRSE.out, HE.out, HS.out.ri⟩⟩
   · have HE : Hid (ST = .err 4) := by unfold Hid; rw [HST.out, Inf.coded, if_neg (by exact fun h => k3 h.2)]
     have HRB := Lib.hid (HR0.out.later HBB.out)
     have HKB : Hid (Kp g w (w2.alloc (.cells #[.map (some m2)] 169))) := Kp.below HBB.out
     go_wp2_with fail
     refine (rfail_any 4 w0 _ g N V _ p T vt M 0 HRB.out).mono ?_
     rintro en wz ⟨rfl, g1, g2⟩
     rw [Inf.er_zero] at g1
     have ZE := Lib.hid g1
     have ZK := Lib.hid (HKB.out.trans g2)
     clear g1 g2 HRB HKB
     have q0 : ((4 : Int) == 0) = false := rfl
     go_wp2_with fail
     go_loopw [10] (fun _ wr => wr = wz) (fun _ _ => 0)
     case atStart => rfl
     case round =>
       subst wr
       have c4 := ZE.out.c4
       go_wp2
       go_returns
       exact ⟨rfl, ZK.out, .inl ⟨4, _, _, _, HE.out, by decide, ZE.out⟩⟩
 · go_wp2_with fail
   refine (HM2.out _ HBA.out).mono ?_
   rintro e w2 ⟨h1, m2, h2⟩
   have HBB : Hid (Below w.heap.size w (w2.alloc (.cells #[.map (some m2)] 169))) := (HBA.out.trans (h1.mono HBA.out.size)).alloc (Nat.le_trans HBA.out.size h1.size) _
   have HKC : Hid (Kp g (w1.alloc (.cells #[.map (some m1)] 169)) (w2.alloc (.cells #[.map (some m2)] 169))) := (Kp.below h1).trans (Kp.below ((Below.refl _ _).alloc (Nat.le_refl _) _))
   have HKD : Hid (Kp g w2 (w2.alloc (.cells #[.map (some m2)] 169))) := Kp.below ((Below.refl _ _).alloc (Nat.le_refl _) _)
   have HRW2 : Hid (Below w.heap.size w w2) := HBA.out.trans (h1.mono HBA.out.size)
   have HBY : Hid (Bx (w2.alloc (.cells #[.map (some m2)] 169)) w2.heap.size m2) := heap_alloc_new _ _
   clear h1 HM2
   rcases h2 with ⟨k3, rfl, k4⟩ | ⟨k3, rfl⟩
   · have HE : Hid (ST = .err 4) := by unfold Hid; rw [HST.out, Inf.coded, if_neg (by exact fun h => k1 h.1)]
     have HRB := Lib.hid (HR0.out.later HBB.out)
     have HKB : Hid (Kp g w (w2.alloc (.cells #[.map (some m2)] 169))) := Kp.below HBB.out
     go_wp2_with fail
     refine (rfail_any 4 w0 _ g N V _ p T vt M 0 HRB.out).mono ?_
     rintro en wz ⟨rfl, g1, g2⟩
     rw [Inf.er_zero] at g1
     have ZE := Lib.hid g1
     have ZK := Lib.hid (HKB.out.trans g2)
     clear g1 g2 HRB HKB
     have q0 : ((4 : Int) == 0) = false := rfl
     go_wp2_with fail
     go_loopw [10] (fun _ wr => wr = wz) (fun _ _ => 0)
     case atStart => rfl
     case round =>
       subst wr
       have c4 := ZE.out.c4
       go_wp2
       go_returns
       exact ⟨rfl, ZK.out, .inl ⟨4, _, _, _, HE.out, by decide, ZE.out⟩⟩
   · have HE : Hid (ST = .err 4) := by unfold Hid; rw [HST.out, Inf.coded, if_neg (by exact fun h => k1 h.1)]
     have HRB := Lib.hid (HR0.out.later HBB.out)
     have HKB : Hid (Kp g w (w2.alloc (.cells #[.map (some m2)] 169))) := Kp.below HBB.out
     go_wp2_with fail
     refine (rfail_any 4 w0 _ g N V _ p T vt M 0 HRB.out).mono ?_
     rintro en wz ⟨rfl, g1, g2⟩
     rw [Inf.er_zero] at g1
     have ZE := Lib.hid g1
     have ZK := Lib.hid (HKB.out.trans g2)
     clear g1 g2 HRB HKB
     have q0 : ((4 : Int) == 0) = false := rfl
     go_wp2_with fail
     go_loopw [10] (fun _ wr => wr = wz) (fun _ _ => 0)
     case atStart => rfl
     case round =>
       subst wr
       have c4 := ZE.out.c4
       go_wp2
       go_returns
       exact ⟨rfl, ZK.out, .inl ⟨4, _, _, _, HE.out, by decide, ZE.out⟩⟩
end Go.Proofs.YtenkkononchgmaaGreatDoor

namespace Go.Proofs.YtenkkononchgmaaGreatDoor
open Go.RowKit Go

theorem Inf.fix_get : ∀ i, i < 288 → Inf.fixl.getD i 0 = if 256 ≤ i ∧ i < 280 then 7 else if 144 ≤ i ∧ i < 256 then 9 else 8 := of_decide_eq_true (by kernel_rfl)
theorem Inf.fix_len2 : Inf.fixl.length = 288 := by kernel_rfl
theorem own_base' {w : World} {b0 b1 : Nat} {e : TypeId} {size : Nat} {v : Value} {n : Nat} {xs : List Value} (h : w.ownsRow b1 e size v n xs) (hb : b0 ≤ b1) : w.ownsRow b0 e size v n xs := by
 refine ⟨h.1, ?_⟩
 rcases h.2 with h0 | ⟨g, cap, cur, e, q1, q2, q3⟩
 · exact .inl h0
 · exact .inr ⟨g, cap, cur, e, by omega, q2, q3⟩
theorem Inf.take_next (l : List Nat) (i : Nat) (h : i < l.length) : l.take (i + 1) = l.take i ++ [l.getD i 0] := by
 rw [List.take_add_one, List.getElem?_eq_getElem h, List.getD_eq_getElem?_getD, List.getElem?_eq_getElem h]; rfl
theorem nv_one (l : List Nat) (x : Nat) : nv (l ++ [x]) = nv l ++ [.int .i64 (x : Int)] := by simp [nv]
set_option maxRecDepth 100000 in
set_option maxHeartbeats 4000000 in
theorem rfixed_any (w : World) :
   Calls Tryz.prog 55 #[] w fun e w' => ∃ v1 v2, e = .returned (.tuple #[v1, v2]) ∧ Below w.heap.size w w' ∧ w'.ownsRow w.heap.size 3 1 v1 288 (nv Inf.fixl) ∧ w'.ownsRow w.heap.size 3 1 v2 32 (nv Inf.fixd) := by
 go_enter Tryz.func55, Tryz.ntmps55
 go_wp2_with fail
 go_loopw [2, 4] (fun v2 v4 wr => ∃ (i : Nat) (ad : Option Addr) (cp : Nat), i ≤ 288 ∧ v4 = .int .i64 (i : Int) ∧ v2 = .slice ad i cp ∧ Below w.heap.size w wr ∧ wr.ownsRow w.heap.size 3 1 (.slice ad i cp) i (nv (Inf.fixl.take i))) (fun _ v4 _ => (288 - intOf v4).toNat)
 case atStart => exact ⟨0, none, 0, by omega, rfl, rfl, Below.refl _ _, World.ownsRow_nil _ _ _ _⟩
 case round =>
   obtain ⟨i, ad, cp, hi, rfl, rfl, hb, ho⟩ := hrel
   have HB := Lib.hid hb
   have HO := Lib.hid ho
   clear hb ho
   by_cases hlt : i < 288
   · have hd : decide ((i : Int) < 288) = true := decide_eq_true (by omega)
     obtain ⟨y, hy⟩ : ∃ y, y = Inf.fixl.getD i 0 := ⟨_, rfl⟩
     have hy2 := Inf.fix_get i hlt
     have HNX : Hid (Inf.fixl.take (i + 1) = Inf.fixl.take i ++ [y]) := by unfold Hid; rw [hy]; exact Inf.take_next _ _ (by rw [Inf.fix_len2]; exact hlt)
     have HSZ : Hid (w.heap.size ≤ wr.heap.size) := HB.out.size
     have HI : Hid (i < 288) := hlt
     have hown := HO.out
     rw [← hy] at hy2
     clear hy
     rcases (by omega : i < 144 ∨ (144 ≤ i ∧ i < 256) ∨ (256 ≤ i ∧ i < 280) ∨ 280 ≤ i) with c | c | c | c
     · have y1 : y = 8 := by rw [hy2, if_neg (by omega), if_neg (by omega)]
       subst y1
       have g1 : decide (144 ≤ (i : Int)) = false := decide_eq_false (by omega)
       have g2 : decide (256 ≤ (i : Int)) = false := decide_eq_false (by omega)
       have hiI : (i : Int) < 288 := by omega
       clear hy2 hlt c hi
       go_wp2_with (first | (at_builtin; refine wpList_append_int rfl (.tmp 23) (.tmp 25) rfl w.heap.size _ i (nv (Inf.fixl.take i)) rfl (hown.alloc _) wr.heap.size 8 rfl (heap_alloc_new _ _) (by have := HI.out; omega) (by have := HSZ.out; simp; omega) ?_; intro v' w8 ho8 hg8; obtain ⟨a8, c8, rfl⟩ := own_form ho8.out; have HB8 := Lib.hid ((HB.out.alloc HB.out.size _).grown hg8.out (by have := HSZ.out; simp; omega) (fun k hk => (Inf.own_type HO.out hk).1)); have HO8 := Lib.hid ho8.out; clear ho8 hg8))
       exact ⟨⟨i + 1, a8, c8, by have := HI.out; omega, by go_num, rfl, HB8.out, by rw [HNX.out, nv_one]; exact HO8.out⟩, by have := HI.out; simp [intOf]; omega⟩
     · have y1 : y = 9 := by rw [hy2, if_neg (by omega), if_pos (by omega)]
       subst y1
       have g1 : decide (144 ≤ (i : Int)) = true := decide_eq_true (by omega)
       have g3 : decide ((i : Int) < 256) = true := decide_eq_true (by omega)
       have g2 : decide (256 ≤ (i : Int)) = false := decide_eq_false (by omega)
       have hiI : (i : Int) < 288 := by omega
       clear hy2 hlt c hi
       go_wp2_with (first | (at_builtin; refine wpList_append_int rfl (.tmp 23) (.tmp 25) rfl w.heap.size _ i (nv (Inf.fixl.take i)) rfl (hown.alloc _) wr.heap.size 9 rfl (heap_alloc_new _ _) (by have := HI.out; omega) (by have := HSZ.out; simp; omega) ?_; intro v' w8 ho8 hg8; obtain ⟨a8, c8, rfl⟩ := own_form ho8.out; have HB8 := Lib.hid ((HB.out.alloc HB.out.size _).grown hg8.out (by have := HSZ.out; simp; omega) (fun k hk => (Inf.own_type HO.out hk).1)); have HO8 := Lib.hid ho8.out; clear ho8 hg8))
       exact ⟨⟨i + 1, a8, c8, by have := HI.out; omega, by go_num, rfl, HB8.out, by rw [HNX.out, nv_one]; exact HO8.out⟩, by have := HI.out; simp [intOf]; omega⟩
     · have y1 : y = 7 := by rw [hy2, if_pos (by omega)]
       subst y1
       have g1 : decide (144 ≤ (i : Int)) = true := decide_eq_true (by omega)
       have g3 : decide ((i : Int) < 256) = false := decide_eq_false (by omega)
       have g2 : decide (256 ≤ (i : Int)) = true := decide_eq_true (by omega)
       have g4 : decide ((i : Int) < 280) = true := decide_eq_true (by omega)
       have hiI : (i : Int) < 288 := by omega
       clear hy2 hlt c hi
       go_wp2_with (first | (at_builtin; refine wpList_append_int rfl (.tmp 23) (.tmp 25) rfl w.heap.size _ i (nv (Inf.fixl.take i)) rfl (hown.alloc _) wr.heap.size 7 rfl (heap_alloc_new _ _) (by have := HI.out; omega) (by have := HSZ.out; simp; omega) ?_; intro v' w8 ho8 hg8; obtain ⟨a8, c8, rfl⟩ := own_form ho8.out; have HB8 := Lib.hid ((HB.out.alloc HB.out.size _).grown hg8.out (by have := HSZ.out; simp; omega) (fun k hk => (Inf.own_type HO.out hk).1)); have HO8 := Lib.hid ho8.out; clear ho8 hg8))
       exact ⟨⟨i + 1, a8, c8, by have := HI.out; omega, by go_num, rfl, HB8.out, by rw [HNX.out, nv_one]; exact HO8.out⟩, by have := HI.out; simp [intOf]; omega⟩
     · have y1 : y = 8 := by rw [hy2, if_neg (by omega), if_neg (by omega)]
       subst y1
       have g1 : decide (144 ≤ (i : Int)) = true := decide_eq_true (by omega)
       have g3 : decide ((i : Int) < 256) = false := decide_eq_false (by omega)
       have g2 : decide (256 ≤ (i : Int)) = true := decide_eq_true (by omega)
       have g4 : decide ((i : Int) < 280) = false := decide_eq_false (by omega)
       have hiI : (i : Int) < 288 := by omega
       clear hy2 hlt c hi
       go_wp2_with (first | (at_builtin; refine wpList_append_int rfl (.tmp 23) (.tmp 25) rfl w.heap.size _ i (nv (Inf.fixl.take i)) rfl (hown.alloc _) wr.heap.size 8 rfl (heap_alloc_new _ _) (by have := HI.out; omega) (by have := HSZ.out; simp; omega) ?_; intro v' w8 ho8 hg8; obtain ⟨a8, c8, rfl⟩ := own_form ho8.out; have HB8 := Lib.hid ((HB.out.alloc HB.out.size _).grown hg8.out (by have := HSZ.out; simp; omega) (fun k hk => (Inf.own_type HO.out hk).1)); have HO8 := Lib.hid ho8.out; clear ho8 hg8))
       exact ⟨⟨i + 1, a8, c8, by have := HI.out; omega, by go_num, rfl, HB8.out, by rw [HNX.out, nv_one]; exact HO8.out⟩, by have := HI.out; simp [intOf]; omega⟩
   · have hd : decide ((i : Int) < 288) = false := decide_eq_false (by omega)
     have HI : Hid (i = 288) := by unfold Hid; omega
     clear hlt hi
     go_wp2_with fail
     generalize wr = w1 at *
     go_loopw [3, 6] (fun v3 v6 wr => ∃ (j : Nat) (aj : Option Addr) (cj : Nat), j ≤ 32 ∧ v6 = .int .i64 (j : Int) ∧ v3 = .slice aj j cj ∧ Below w1.heap.size w1 wr ∧ wr.ownsRow w1.heap.size 3 1 (.slice aj j cj) j (nv (List.replicate j 5))) (fun _ v6 _ => (32 - intOf v6).toNat)
     case atStart => exact ⟨0, none, 0, by omega, rfl, rfl, Below.refl _ _, World.ownsRow_nil _ _ _ _⟩
     case round =>
       obtain ⟨j, aj, cj, hj, rfl, rfl, hb, ho⟩ := hrel
       have HB2 := Lib.hid hb
       have HO2 := Lib.hid ho
       clear hb ho
       by_cases hlt : j < 32
       · have hd2 : decide ((j : Int) < 32) = true := decide_eq_true (by omega)
         have HSZ : Hid (w1.heap.size ≤ wr.heap.size) := HB2.out.size
         have HJ : Hid (j < 32) := hlt
         have hown := HO2.out
         have hjI : (j : Int) < 32 := by omega
         clear hlt hj
         go_wp2_with (first | (at_builtin; refine wpList_append_int rfl (.tmp 31) (.tmp 32) rfl w1.heap.size _ j (nv (List.replicate j 5)) rfl (hown.alloc _) wr.heap.size 5 rfl (heap_alloc_new _ _) (by have := HJ.out; omega) (by have := HSZ.out; simp; omega) ?_; intro v' w8 ho8 hg8; obtain ⟨a8, c8, rfl⟩ := own_form ho8.out; have HB8 := Lib.hid ((HB2.out.alloc HB2.out.size _).grown hg8.out (by have := HSZ.out; simp; omega) (fun k hk => (Inf.own_type HO2.out hk).1)); have HO8 := Lib.hid ho8.out; clear ho8 hg8))
         refine ⟨⟨j + 1, a8, c8, by have := HJ.out; omega, by go_num, rfl, HB8.out, ?_⟩, by have := HJ.out; simp [intOf]; omega⟩
         have e : List.replicate (j + 1) 5 = List.replicate j 5 ++ [5] := by rw [List.replicate_succ']
         rw [e, nv_one]
         exact HO8.out
       · have hd2 : decide ((j : Int) < 32) = false := decide_eq_false (by omega)
         obtain rfl : j = 32 := by omega
         clear hlt hj
         go_wp2
         go_ret2
         refine ⟨_, _, rfl, HB.out.trans (HB2.out.mono HB.out.size), ?_, own_base' HO2.out HB.out.size⟩
         have h1 := Inf.own_other HO.out fun k hk => by obtain ⟨_, _, hc⟩ := Inf.own_type HO.out hk; exact HB2.out.block k (Inf.lt_some hc)
         have e := HI.out
         subst e
         rw [List.take_of_length_le (by rw [Inf.fix_len2]; omega)] at h1
         exact h1
end Go.Proofs.YtenkkononchgmaaGreatDoor
