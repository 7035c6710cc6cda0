/- Laid together: InfRefN. -/
import Derived.Test.YtenkkononchgmaaGreatDoorDkB41
import Derived.Deep.RegionWith

namespace Go.Proofs.YtenkkononchgmaaGreatDoor
open Go.RowKit Go

theorem Kp.ints {g : Nat} {wa w w' : World} {v : Value} {n : Nat} {xs : List Value} (h : Kp g wa w) (ho : w.ownsRow wa.heap.size 3 1 v n xs) (hg : w.grownBy w' v.ownBlock) : Kp g wa w' :=
 ⟨hg.os.trans h.os, hg.tape.trans h.tape, hg.output.trans h.output, Nat.le_trans h.size hg.size, fun k o h1 h2 h3 => (hg.block k (Nat.lt_of_lt_of_le (Inf.lt_some h1) h.size) (fun e => by
   have := (Inf.own_type ho e.symm).1
   have := Inf.lt_some h1
   omega)).trans (h.blk k o h1 h2 h3)⟩
theorem Kp.row {g base : Nat} {w w' : World} {v : Value} {n : Nat} {xs : List Value} (ho : w.ownsRow base 3 1 v n xs) (hg : w.grownBy w' v.ownBlock) : ∃ b, Kp b w w' ∧ (b = g ∨ ∃ cur, w.heap[b]? = some (.cells cur 3 (0, 0))) := by
 cases hv : v.ownBlock with
 | none =>
   refine ⟨g, ⟨hg.os, hg.tape, hg.output, hg.size, fun k o h1 _ _ => (hg.block k (Inf.lt_some h1) (fun e => by rw [hv] at e; cases e)).trans h1⟩, .inl rfl⟩
 | some b =>
   obtain ⟨_, cur, hc⟩ := Inf.own_type ho hv
   exact ⟨b, ⟨hg.os, hg.tape, hg.output, hg.size, fun k o h1 h2 _ => (hg.block k (Inf.lt_some h1) (fun e => by rw [hv] at e; injection e with e; exact h2 e)).trans h1⟩, .inr ⟨cur, hc⟩⟩
structure LgB (w0 w wr : World) (g N V : Nat) (vb : Value) (T : List Int) (vt : Value) (M : Nat) (t : List Nat) (gx gm : Nat) (q : Nat) (A : List Nat) (v : Value) (z : Nat) (e : Int) : Prop where
 ri : Ri w0 wr g N V vb q T vt M e
 kp : Kp g w wr
 tt : Tree wr t gm
 bx : Bx wr gx gm
 own : wr.ownsRow w.heap.size 3 1 v z (nv A)
 len : z = A.length
 lo : w0.heap.size ≤ w.heap.size
 vbl : ∀ k, vb.ownBlock = some k → k < w.heap.size
theorem LgB.go {w0 w wr w' : World} {g N V : Nat} {vb : Value} {T : List Int} {vt : Value} {M : Nat} {t : List Nat} {gx gm q q' : Nat} {A : List Nat} {v : Value} {z : Nat} {e e' : Int} (h : LgB w0 w wr g N V vb T vt M t gx gm q A v z e) (hk : Kp g wr w') (hr : Ri w0 w' g N V vb q' T vt M e') : LgB w0 w w' g N V vb T vt M t gx gm q' A v z e' :=
 ⟨hr, h.kp.trans hk, h.tt.kp hk (h.ri.nm h.tt.is), h.bx.kp hk (h.ri.nx h.bx), hk.own h.own h.ri.row (by decide) (by decide), h.len, h.lo, h.vbl⟩
theorem LgB.later {w0 w wr w' : World} {g N V : Nat} {vb : Value} {T : List Int} {vt : Value} {M : Nat} {t : List Nat} {gx gm q : Nat} {A : List Nat} {v : Value} {z : Nat} {e : Int} (h : LgB w0 w wr g N V vb T vt M t gx gm q A v z e) (hb : Below wr.heap.size wr w') : LgB w0 w w' g N V vb T vt M t gx gm q A v z e :=
 h.go (Kp.below hb) (h.ri.later hb)
theorem LgB.app {w0 w wr w' : World} {g N V : Nat} {vb : Value} {T : List Int} {vt : Value} {M : Nat} {t : List Nat} {gx gm q : Nat} {A : List Nat} {v v' : Value} {z y : Nat} {e : Int} (h : LgB w0 w wr g N V vb T vt M t gx gm q A v z e) (ho : w'.ownsRow w.heap.size 3 1 v' (z + 1) (nv A ++ [.int .i64 (y : Int)])) (hg : wr.grownBy w' v.ownBlock) : LgB w0 w w' g N V vb T vt M t gx gm q (A ++ [y]) v' (z + 1) e := by
 obtain ⟨b, hk, hb⟩ := Kp.row (g := g) h.own hg
 have hgb : ∀ (k : Nat) (c : Array Value) (s : TypeId), wr.heap[k]? = some (.cells c s (0, 0)) → s ≠ 3 → v.ownBlock ≠ some k := fun k c s h1 h2 e => by
   obtain ⟨_, cur, hc⟩ := Inf.own_type h.own e
   exact Inf.ne_ty h1 hc h2 rfl
 have hkeep : ∀ (k : Nat) (c : Array Value) (s : TypeId), wr.heap[k]? = some (.cells c s (0, 0)) → s ≠ 3 → w'.heap[k]? = wr.heap[k]? := fun k c s h1 h2 => hg.block k (Inf.lt_some h1) (fun e => hgb k c s h1 h2 e.symm)
 have hrow := (hkeep g _ 116 h.ri.row (by decide)).trans h.ri.row
 refine ⟨⟨h.ri.bel.grown hg h.ri.bel.size (fun k hk => by have := (Inf.own_type h.own hk).1; have := h.lo; omega), h.ri.lo, hrow, ?_, ?_, h.ri.ple⟩, h.kp.ints h.own hg, h.tt.kp hk ?_, (hkeep gx _ 169 h.bx (by decide)).trans h.bx, ?_, ?_, h.lo, h.vbl⟩
 · refine Inf.own_other h.ri.bits fun k hk => ?_
   obtain ⟨_, cur, hc⟩ := Inf.own_type h.ri.bits hk
   exact hg.block k (Inf.lt_some hc) (fun e => by
     have := (Inf.own_type h.own e.symm).1
     have := h.vbl k hk
     omega)
 · refine Inf.own_other h.ri.txt fun k hk => ?_
   obtain ⟨_, cur, hc⟩ := Inf.own_type h.ri.txt hk
   exact hkeep k _ 5 hc (by decide)
 · rcases hb with rfl | ⟨cur, hc⟩
   · exact h.ri.nm h.tt.is
   · obtain ⟨n, D, h1⟩ := h.tt.is
     exact fun e => Inf.map_ne h1 hc e.symm
 · rw [nv_one]; exact ho
 · rw [List.length_append, h.len]; rfl
theorem LgB.cell {w0 w wr : World} {g N V : Nat} {vb : Value} {T : List Int} {vt : Value} {M : Nat} {t : List Nat} {gx gm q : Nat} {A : List Nat} {ad : Option Addr} {cp z : Nat} {e : Int} (h : LgB w0 w wr g N V vb T vt M t gx gm q A (.slice ad z cp) z e) {j : Nat} (hj : j < z) :
   ∃ s, ad = some ⟨s, 0, none⟩ ∧ wr.cell? ⟨s, j, none⟩ = some (.int .i64 ((A.getD j 0 : Nat) : Int)) ∧ s ≠ g ∧ ∃ cur, wr.heap[s]? = some (.cells cur 3 (0, 0)) := by
 rcases h.own.2 with ⟨e, h0⟩ | ⟨b, cap, cur, e, q1, q2, q3, q4, q5, q6⟩
 · omega
 · cases e
   refine ⟨b, rfl, ?_, Inf.ne_ty q2 h.ri.row (by decide), cur, q2⟩
   have hjl : j < A.length := by have := h.len; omega
   rw [cell_of_row _ _ _ _ _ _ q2]
   have := nv_get A j (A.getD j 0) (by rw [List.getD_eq_getElem?_getD, List.getElem?_eq_getElem hjl]; rfl)
   rw [← q6, List.getElem?_take, if_pos (by omega), Array.getElem?_toList] at this
   exact this
def LgO (w0 w : World) (g N V : Nat) (vb : Value) (T : List Int) (vt : Value) (M n : Nat) (RS : Inf.R (List Nat)) (en : Ending) (w' : World) : Prop :=
 Kp g w w' ∧ ((∃ (k : Int) (q : Nat) (a : Option Addr) (m c : Nat), RS = .err k ∧ ¬ k = 0 ∧ en = .returned (.slice a m c) ∧ Ri w0 w' g N V vb q T vt M k) ∨
   (∃ (q : Nat) (A : List Nat) (v : Value), RS = .ok q A ∧ A.length = n ∧ en = .returned v ∧ Ri w0 w' g N V vb q T vt M 0 ∧ w'.ownsRow w.heap.size 3 1 v n (nv A)))
end Go.Proofs.YtenkkononchgmaaGreatDoor

/- The walk of the document's lengths. -/
namespace Go.Proofs.YtenkkononchgmaaGreatDoor
open Go.RowKit Go

theorem Inf.w64 (x : Nat) (h : (x : Int) ≤ 1000) : wrap64 (3 + (x : Int)) = ((3 + x : Nat) : Int) := by unfold wrap64; omega
set_option maxRecDepth 100000 in
set_option maxHeartbeats 8000000 in
theorem rlengths_any (t : List Nat) (n gm : Nat) (w0 w : World) (g N V : Nat) (vb : Value) (p : Nat) (T : List Int) (vt : Value) (M : Nat) (h : Ri w0 w g N V vb p T vt M 0) (hT : Tree w t gm) (hm : Inf.Mk t) (ht : t.length = 19) (hN : N ≤ 1000000) (hn : n ≤ 1000) (hlo : w0.heap.size ≤ w.heap.size) :
   Calls Tryz.prog 101 #[.pointer (some ⟨g, 0, none⟩), .agg #[.map (some gm)], .int .i64 (n : Int)] w fun e w' => LgO w0 w g N V vb T vt M n (Inf.runs (Inf.lstep t n V N) p []) e w' := by
 obtain ⟨RS, hrs⟩ : ∃ RS, RS = Inf.runs (Inf.lstep t n V N) p [] := ⟨_, rfl⟩
 rw [← hrs]
 have HMK := Lib.hid hm
 have HTL := Lib.hid ht
 have HN := Lib.hid hN
 have HNN := Lib.hid hn
 have hnI : (n : Int) ≤ 1000 := by omega
 have hb : Below w.heap.size w (w.alloc (.cells #[.map (some gm)] 169)) := (Below.refl _ _).alloc (Nat.le_refl _) _
 have HS0 : Hid (LgB w0 w (w.alloc (.cells #[.map (some gm)] 169)) g N V vb T vt M t w.heap.size gm p [] (.slice none 0 0) 0 0) :=
   ⟨h.later hb, Kp.below hb, hT.kp (Kp.below hb) (h.nm hT.is), heap_alloc_new _ _, World.ownsRow_nil _ _ _ _, rfl, hlo, fun k hk => by obtain ⟨_, _, hc⟩ := Inf.own_type h.bits hk; exact Inf.lt_some hc⟩
 have HR0 := Lib.hid hrs
 clear h hT hm ht hN hn hlo hrs hb
 go_enter Tryz.func101, Tryz.ntmps101
 go_wp2_with fail
 generalize w.alloc (.cells #[.map (some gm)] 169) = wa at *
 obtain ⟨gx, hgx⟩ : ∃ gx, gx = w.heap.size := ⟨_, rfl⟩
 have HS1 : Hid (LgB w0 w wa g N V vb T vt M t gx gm p [] (.slice none 0 0) 0 0) := by rw [hgx]; exact HS0.out
 rw [← hgx]
 clear HS0 hgx
 go_loopw [7, 8, 9, 10, 11] (fun v7 _ _ _ _ wr => ∃ (q z : Nat) (A : List Nat) (ad : Option Addr) (cp : Nat) (e : Int), v7 = .slice ad z cp ∧ z ≤ 2000 ∧ LgB w0 w wr g N V vb T vt M t gx gm q A (.slice ad z cp) z e ∧ ((e = 0 ∧ z ≤ n ∧ RS = Inf.runs (Inf.lstep t n V N) q A) ∨ (¬ e = 0 ∧ RS = .err e))) (fun _ _ _ _ _ wr => Inf.meas wr g N)
 case atStart => exact ⟨p, 0, [], none, 0, 0, rfl, by omega, HS1.out, .inl ⟨rfl, by omega, HR0.out⟩⟩
 case round =>
   clear HS1 HR0
   obtain ⟨q, z, A, ad, cp, e, rfl, hz2, hl, hst⟩ := hrel
   have HL := Lib.hid hl
   have c4 := hl.ri.c4
   have hzI : (z : Int) ≤ 2000 := by omega
   by_cases hgo : z < n ∧ e = 0
   · obtain ⟨hlt, rfl⟩ := hgo
     obtain ⟨-, -, hRS⟩ | ⟨h0, -⟩ := hst
     case inr => exact absurd rfl h0
     have HRS := Lib.hid hRS
     have q0 : ((0 : Int) == 0) = true := rfl
     have hd1 : decide ((z : Int) < (n : Int)) = true := decide_eq_true (by omega)
     have hd1' : decide (z < n) = true := decide_eq_true hlt
     have HME : Hid (Inf.meas wr g N = N + 1 - q) := by unfold Hid; rw [hl.ri.meas, if_pos rfl]
     have HQN := Lib.hid hl.ri.ple
     have HZ : Hid (z = A.length) := hl.len
     have HLT : Hid (z < n) := hlt
     have HSY := Lib.hid (rsym_any t gm w0 wr g N V vb q T vt M hl.ri hl.tt HMK.out HN.out)
     have cb1 := hl.bx.c
     clear hl hRS hlt hz2
     go_wp2_with fail
     refine HSY.out.mono ?_
     rintro en w5 ⟨g0, ⟨g1, rfl, q6, g3⟩ | ⟨s, qs, g1, rfl, g3⟩⟩
     · have HE : Hid (RS = .err 4) := HRS.out.trans (Inf.runs_fin (Inf.lstep_none (by rw [← HZ.out]; exact HLT.out) g1))
       have S6 := Lib.hid g3
       have K6 := Lib.hid (HL.out.kp.trans g0)
       have c4 := g3.c4
       have q1 : ((4 : Int) != 0) = true := rfl
       clear g0 g1 g3 HSY cb1
       go_wp2
       go_ret
       exact ⟨K6.out, .inl ⟨4, _, _, _, _, HE.out, by decide, rfl, S6.out⟩⟩
     · have S6 := Lib.hid (HL.out.go g0 g3)
       have HSE := Lib.hid g1
       have c4 := g3.c4
       have q1 : ((0 : Int) != 0) = false := rfl
       have hs19 : s < 19 := by have h1 := (Inf.sy_lt g1).1; have h2 := HTL.out; omega
       have HQ : Hid (q < qs ∧ qs ≤ N) := ⟨(Inf.sy_lt g1).2.1, (Inf.sy_lt g1).2.2⟩
       clear g0 g1 g3 HSY cb1
       have hsI : (s : Int) < 19 := by omega
       obtain ⟨x, hx⟩ : ∃ x, x = Inf.lk s + Inf.num V qs (Inf.lw s) := ⟨_, rfl⟩
       have hx6 : x ≤ 1000 := by
         rw [hx]
         have h1 := Inf.num_lt V qs (Inf.lw s)
         have h2 : 2 ^ Inf.lw s ≤ 2 ^ 7 := Nat.pow_le_pow_right (by omega) (Inf.lw_small s)
         have := (Inf.lk_small s).2
         omega
       have HX := Lib.hid hx
       clear hx
       go_upto_block 2 with fail
       go_cut [9, 10] from 33 to 58 (fun v9 v10 wx => ∃ (y k qt : Nat) (e' : Int), v9 = .int .i64 (y : Int) ∧ v10 = .int .i64 (k : Int) ∧ k ≤ 1000 ∧ LgB w0 w wx g N V vb T vt M t gx gm qt A (.slice ad z cp) z e' ∧ ((e' = 0 ∧ qt = qs + Inf.lw s ∧ qt ≤ N ∧ k = x ∧ y = Inf.lv s A ∧ ¬ (s = 16 ∧ A.length = 0)) ∨ (e' = 4 ∧ N < qs + Inf.lw s)))
       case first =>
         rcases (by omega : s < 16 ∨ s = 16 ∨ s = 17 ∨ s = 18) with c | c | c | c
         · have e16 : ((s : Int) == 16) = false := by simp; omega
           have e17 : ((s : Int) == 17) = false := by simp; omega
           have e18 : ((s : Int) == 18) = false := by simp; omega
           have HSS : Hid (s < 16) := c
           clear c
           go_wp2_with fail
           go_meet
           have elw : Inf.lw s = 0 := by have := HSS.out; unfold Inf.lw; rw [if_neg (by omega), if_neg (by omega), if_neg (by omega)]
           have elk : Inf.lk s = 1 := by have := HSS.out; unfold Inf.lk; rw [if_neg (by omega), if_neg (by omega), if_neg (by omega)]
           have elv : Inf.lv s A = s := by have := HSS.out; unfold Inf.lv; rw [if_neg (by omega), if_neg (by omega), if_neg (by omega)]
           exact ⟨s, 1, qs, 0, rfl, rfl, by omega, S6.out, .inl ⟨rfl, by rw [elw]; rfl, HQ.out.2, by rw [HX.out, elk, elw]; have := Inf.num_lt V qs 0; omega, elv.symm, by have := HSS.out; omega⟩⟩
         · subst c
           by_cases hz0 : z = 0
           · subst hz0
             have HE : Hid (RS = .err 4) := HRS.out.trans (Inf.runs_fin (Inf.lstep_bad (by rw [← HZ.out]; exact HLT.out) HSE.out (.inl ⟨rfl, HZ.out.symm⟩)))
             have HF := Lib.hid (rfail_any 4 w0 w5 g N V vb qs T vt M 0 S6.out.ri)
             go_wp2_with fail
             refine HF.out.mono ?_
             rintro en w6 ⟨rfl, g1, g2⟩
             rw [Inf.er_zero] at g1
             have K6 := Lib.hid (S6.out.kp.trans g2)
             have G6 := Lib.hid g1
             clear g1 g2 HF
             go_wp2
             go_ret
             exact ⟨K6.out, .inl ⟨4, _, _, _, _, HE.out, by decide, rfl, G6.out⟩⟩
           · obtain ⟨zl, rfl⟩ : ∃ zl, z = zl + 1 := ⟨z - 1, by omega⟩
             have hzz' : (zl : Int) < (zl : Int) + 1 := by omega
             have hwz : IntKind.i64.wrap (zl : Int) = (zl : Int) := by rw [IntKind.wrap_i64]; omega
             obtain ⟨yv, hyv⟩ : ∃ yv, yv = Inf.lv 16 A := ⟨_, rfl⟩
             obtain ⟨gg, rfl, cl, hgg, cur, hcur⟩ := S6.out.cell (j := zl) (by omega)
             rw [show A.getD zl 0 = yv by rw [hyv, Inf.lv, if_pos rfl, ← HZ.out]; rfl] at cl
             have HLV : Hid (Inf.lv 16 A = yv) := hyv.symm
             have HZ0 : Hid (¬ zl + 1 = 0) := hz0
             have HC : Hid (∀ wx, RAny w0 w5 g N V vb T vt M wx → wx.cell? ⟨gg, zl, none⟩ = some (.int .i64 (yv : Int)) ∧ RAny w0 w5 g N V vb T vt M wx) := by
               intro wx h
               have h' := h
               obtain ⟨_, _, -, hk⟩ := h'
               refine ⟨?_, h⟩
               rw [cell_of_row _ _ _ _ _ _ (hk.cells hcur hgg (by decide)), ← cell_of_row _ _ _ _ _ _ hcur]
               exact cl
             have hany : RAny w0 w5 g N V vb T vt M w5 := ⟨qs, 0, S6.out.ri, Kp.refl _ _⟩
             have HS5D := Lib.hid (S6.out.ri.drawn (Drawn.refl w5).drew)
             have HNQ := Lib.hid (rnum_q 2 w0 w5 g N V vb qs T vt M HN.out (by omega))
             have hc1 := (HC.out w5 hany).1
             clear hyv cl hcur hz0
             go_wp2_with fail
             go_region_held3 (fun wx => wx.cell? ⟨gg, zl, none⟩ = some (.int .i64 (yv : Int)) ∧ RAny w0 w5 g N V vb T vt M wx) (first | assumption | exact HC.out _ (by assumption) | exact HC.out _ (RAny.drew (by assumption))) ((go_at_call 53; (refine (HNQ.out _ (And.right (by assumption))).mono ?_); rintro e w6 ⟨x5, rfl, ha5, hs5⟩))
             all_goals
               have HQ6 := Lib.hid (hs5 HS5D.out (Kp.drawn (Drawn.refl w5).drew))
               have hx5 : (x5 : Int) ≤ 127 := by
                 rcases HQ6.out.2 with ⟨-, h, -⟩ | ⟨-, h, -⟩
                 · have h1 := Inf.num_lt V qs 2
                   omega
                 · omega
               have hw : IntKind.i64.wrap (3 + (x5 : Int)) = ((3 + x5 : Nat) : Int) := by rw [IntKind.wrap_i64]; omega
               clear hs5 ha5 HNQ
               try rw [hw]
               go_wp2_with fail
               go_meet
               have elw : Inf.lw 16 = 2 := rfl
               have elk : Inf.lk 16 = 3 := rfl
               rcases HQ6.out.2 with ⟨h1, h2, h3⟩ | ⟨h1, h2, h3⟩
               · exact ⟨yv, 3 + x5, qs + 2, 0, rfl, by first | rfl | rw [Inf.w64 _ (by omega)], by omega, S6.out.go HQ6.out.1 h3, .inl ⟨rfl, by rw [elw], h1, by rw [HX.out, elk, elw, h2], HLV.out.symm, fun h => HZ0.out (by rw [HZ.out]; exact h.2)⟩⟩
               · exact ⟨yv, 3 + x5, qs, 4, rfl, by first | rfl | rw [Inf.w64 _ (by omega)], by omega, S6.out.go HQ6.out.1 h3, .inr ⟨rfl, by rw [elw]; exact h1⟩⟩
         · subst c
           have HNQ := Lib.hid (rnum_q 3 w0 w5 g N V vb qs T vt M HN.out (by omega) w5 ⟨qs, 0, S6.out.ri, Kp.refl _ _⟩)
           go_wp2_with fail
           refine HNQ.out.mono ?_
           rintro en w6 ⟨x6, rfl, -, hq⟩
           have HQ6 := Lib.hid (hq S6.out.ri (Kp.refl _ _))
           have hx6 : (x6 : Int) ≤ 127 := by
             rcases HQ6.out.2 with ⟨-, h, -⟩ | ⟨-, h, -⟩
             · have h1 := Inf.num_lt V qs 3
               omega
             · omega
           clear hq HNQ
           go_wp2_with fail
           go_meet
           have elw : Inf.lw 17 = 3 := rfl
           have elk : Inf.lk 17 = 3 := rfl
           have elv : Inf.lv 17 A = 0 := rfl
           rcases HQ6.out.2 with ⟨h1, h2, h3⟩ | ⟨h1, h2, h3⟩
           · exact ⟨0, 3 + x6, qs + 3, 0, rfl, by simp, by omega, S6.out.go HQ6.out.1 h3, .inl ⟨rfl, by rw [elw], h1, by rw [HX.out, elk, elw, h2], elv.symm, by omega⟩⟩
           · exact ⟨0, 3 + x6, qs, 4, rfl, by simp, by omega, S6.out.go HQ6.out.1 h3, .inr ⟨rfl, by rw [elw]; exact h1⟩⟩
         · subst c
           have HNQ := Lib.hid (rnum_q 7 w0 w5 g N V vb qs T vt M HN.out (by omega) w5 ⟨qs, 0, S6.out.ri, Kp.refl _ _⟩)
           go_wp2_with fail
           refine HNQ.out.mono ?_
           rintro en w6 ⟨x6, rfl, -, hq⟩
           have HQ6 := Lib.hid (hq S6.out.ri (Kp.refl _ _))
           have hx6 : (x6 : Int) ≤ 127 := by
             rcases HQ6.out.2 with ⟨-, h, -⟩ | ⟨-, h, -⟩
             · have h1 := Inf.num_lt V qs 7
               omega
             · omega
           clear hq HNQ
           go_wp2_with fail
           go_meet
           have elw : Inf.lw 18 = 7 := rfl
           have elk : Inf.lk 18 = 11 := rfl
           have elv : Inf.lv 18 A = 0 := rfl
           rcases HQ6.out.2 with ⟨h1, h2, h3⟩ | ⟨h1, h2, h3⟩
           · exact ⟨0, 11 + x6, qs + 7, 0, rfl, by simp, by omega, S6.out.go HQ6.out.1 h3, .inl ⟨rfl, by rw [elw], h1, by rw [HX.out, elk, elw, h2], elv.symm, by omega⟩⟩
           · exact ⟨0, 11 + x6, qs, 4, rfl, by simp, by omega, S6.out.go HQ6.out.1 h3, .inr ⟨rfl, by rw [elw]; exact h1⟩⟩
       case rest =>
         obtain ⟨y, k, qt, e', rfl, rfl, hk6, hl6, hst6⟩ := hcut
         have L6 := Lib.hid hl6
         have T6 := Lib.hid hst6
         have hkI : (k : Int) ≤ 1000 := by omega
         clear hl6 hst6 S6
         by_cases hfit : n < z + k
         case' pos =>
           have d1 : decide ((n : Int) < (z : Int) + (k : Int)) = true := decide_eq_true (by omega)
           have HE : Hid (RS = .err 4 ∧ Inf.er 4 e' = 4) := by
             unfold Hid
             rcases T6.out with ⟨a1, a2, a3, a4, a5, a6⟩ | ⟨a1, a2⟩
             · exact ⟨HRS.out.trans (Inf.runs_fin (Inf.lstep_bad (by rw [← HZ.out]; exact HLT.out) HSE.out (.inr (.inr (by rw [← HX.out, ← HZ.out, ← a4]; exact hfit))))), by rw [a1]; rfl⟩
             · exact ⟨HRS.out.trans (Inf.runs_fin (Inf.lstep_bad (by rw [← HZ.out]; exact HLT.out) HSE.out (.inr (.inl a2)))), by rw [a1]; rfl⟩
           have HF := Lib.hid (rfail_any 4 w0 wc g N V vb qt T vt M e' L6.out.ri)
           clear hfit
           go_wp2_with fail
           refine HF.out.mono ?_
           rintro en wz ⟨rfl, g1, g2⟩
           rw [HE.out.2] at g1
           have Z1 : Hid (LgB w0 w wz g N V vb T vt M t gx gm qt A (.slice ad z cp) z 4) := L6.out.go g2 g1
           have Z2 : Hid (((4 : Int) = 0 ∧ z + k ≤ n ∧ q < qt ∧ RS = Inf.runs (Inf.lstep t n V N) qt (A ++ List.replicate k y)) ∨ (¬ (4 : Int) = 0 ∧ RS = .err 4)) := .inr ⟨by decide, HE.out.1⟩
           clear g1 g2 HF HE L6 T6 d1
           obtain ⟨e9, he9⟩ : ∃ e9 : Int, e9 = 4 := ⟨_, rfl⟩
           rw [← he9] at Z1 Z2
           clear he9
           go_wp2_with fail
         case' neg =>
           have d1 : decide ((n : Int) < (z : Int) + (k : Int)) = false := decide_eq_false (by omega)
           obtain ⟨e9, he9⟩ : ∃ e9 : Int, e9 = e' := ⟨_, rfl⟩
           obtain ⟨wz, hwz⟩ : ∃ wz, wz = wc := ⟨_, rfl⟩
           have Z1 : Hid (LgB w0 w wz g N V vb T vt M t gx gm qt A (.slice ad z cp) z e9) := by rw [he9, hwz]; exact L6.out
           have Z2 : Hid ((e9 = 0 ∧ z + k ≤ n ∧ q < qt ∧ RS = Inf.runs (Inf.lstep t n V N) qt (A ++ List.replicate k y)) ∨ (¬ e9 = 0 ∧ RS = .err e9)) := by
             unfold Hid
             rcases T6.out with ⟨a1, a2, a3, a4, a5, a6⟩ | ⟨a1, a2⟩
             · refine .inl ⟨by rw [he9, a1], by omega, by have := HQ.out.1; omega, ?_⟩
               rw [HRS.out, Inf.runs_go (Inf.lstep_go (by rw [← HZ.out]; exact HLT.out) HSE.out (by
                 rintro (b | b | b)
                 · exact a6 b
                 · omega
                 · rw [← HX.out, ← HZ.out, ← a4] at b; omega)), ← HX.out, ← a2, ← a4, ← a5]
             · exact .inr ⟨by rw [he9, a1]; decide, by rw [he9, a1]; exact HRS.out.trans (Inf.runs_fin (Inf.lstep_bad (by rw [← HZ.out]; exact HLT.out) HSE.out (.inr (.inl a2))))⟩
           rw [← hwz]
           clear hfit L6 T6 he9 hwz
           go_wp2_with fail
         all_goals
           go_loopw [7, 11] (fun v7 v11 wr => ∃ (i : Nat) (ai : Option Addr) (ci : Nat), i ≤ k ∧ v11 = .int .i64 (i : Int) ∧ v7 = .slice ai (z + i) ci ∧ LgB w0 w wr g N V vb T vt M t gx gm qt (A ++ List.replicate i y) (.slice ai (z + i) ci) (z + i) e9) (fun _ v11 _ => (k - intOf v11).toNat)
           case atStart => exact ⟨0, ad, cp, by omega, rfl, rfl, by simpa using Z1.out⟩
           case round =>
             obtain ⟨i, ai, ci, hi, rfl, rfl, hl⟩ := hrel
             have HL9 := Lib.hid hl
             by_cases hlt : i < k
             · have hd1 : decide (i < k) = true := decide_eq_true hlt
               have hd2 : decide ((i : Int) < (k : Int)) = true := decide_eq_true (by omega)
               have HI : Hid (i < k) := hlt
               have HSZ : Hid (w.heap.size ≤ wr.heap.size) := hl.kp.size
               have hown := hl.own
               have hiI : (i : Int) ≤ 1000 := by omega
               have HZ2 : Hid (z + i ≤ 2000) := by have := HLT.out; have := HNN.out; unfold Hid; omega
               clear hl hlt hi
               go_wp2_with (first | (at_builtin; refine wpList_append_int rfl (.tmp 72) (.tmp 74) rfl w.heap.size _ (z + i) (nv (A ++ List.replicate i y)) rfl (hown.alloc _) wr.heap.size y rfl (heap_alloc_new _ _) (by have := HZ2.out; omega) (by have := HSZ.out; simp; omega) ?_; intro v' w8 ho8 hg8; obtain ⟨a8, c8, rfl⟩ := own_form ho8.out; have HB8 := Lib.hid ((HL9.out.later ((Below.refl _ _).alloc (Nat.le_refl _) _)).app ho8.out hg8.out); clear ho8 hg8))
               refine ⟨⟨i + 1, a8, c8, by have := HI.out; omega, by go_num, rfl, ?_⟩, by have := HI.out; simp [intOf]; omega⟩
               have e : A ++ List.replicate (i + 1) y = A ++ List.replicate i y ++ [y] := by rw [List.replicate_succ', List.append_assoc]
               rw [e]
               exact HB8.out
             · have hd1 : decide (i < k) = false := decide_eq_false hlt
               have hd2 : decide ((i : Int) < (k : Int)) = false := decide_eq_false (by omega)
               obtain rfl : i = k := by omega
               clear hl hlt hi
               go_wp2
               refine ⟨⟨qt, z + i, A ++ List.replicate i y, ai, ci, e9, rfl, ?_, HL9.out, ?_⟩, ?_⟩
               · have := HLT.out; have := HNN.out; omega
               · rcases Z2.out with ⟨a1, a2, a3, a4⟩ | ⟨a1, a2⟩
                 · exact .inl ⟨a1, a2, a4⟩
                 · exact .inr ⟨a1, a2⟩
               · have h1 := HL9.out.ri.meas
                 have h2 := HME.out
                 have h3 := HL9.out.ri.ple
                 have h4 := HQN.out
                 rcases Z2.out with ⟨a1, a2, a3, a4⟩ | ⟨a1, a2⟩
                 · rw [if_pos a1] at h1; omega
                 · rw [if_neg a1] at h1; omega
   · have hd : ((decide ((z : Int) < (n : Int))) && (e == 0)) = false := by
       by_cases h1 : z < n
       · have : ¬ e = 0 := fun e2 => hgo ⟨h1, e2⟩
         simp [this]
       · simp; omega
     have HST := Lib.hid hst
     have HZ : Hid (z = A.length) := hl.len
     have HNG : Hid (¬ (z < n ∧ e = 0)) := hgo
     clear hl hst hgo hz2
     by_cases hzn : z < n
     · have hd1 : decide ((z : Int) < (n : Int)) = true := decide_eq_true (by omega)
       have he : (e == 0) = false := by have := HNG.out; simp; omega
       clear hd
       go_wp2
       go_ret
       refine ⟨HL.out.kp, ?_⟩
       rcases HST.out with ⟨h0, h1, h2⟩ | ⟨h0, h1⟩
       · exact absurd ⟨hzn, h0⟩ HNG.out
       · exact .inl ⟨_, _, _, _, _, h1, h0, rfl, HL.out.ri⟩
     · have hd1 : decide ((z : Int) < (n : Int)) = false := decide_eq_false (by omega)
       clear hd
       go_wp2
       go_ret
       refine ⟨HL.out.kp, ?_⟩
       rcases HST.out with ⟨h0, h1, h2⟩ | ⟨h0, h1⟩
       · subst h0
         obtain rfl : z = n := by omega
         exact .inr ⟨q, A, _, h2.trans (Inf.runs_fin (Inf.lstep_done (by rw [← HZ.out]; omega))), HZ.out.symm, rfl, HL.out.ri, HL.out.own⟩
       · exact .inl ⟨_, _, _, _, _, h1, h0, rfl, HL.out.ri⟩
end Go.Proofs.YtenkkononchgmaaGreatDoor
