/- Laid together: InfRefE. -/
import Derived.Test.YtenkkononchgmaaGreatDoorDkB42
import Derived.Test.YtenkkononchgmaaGreatDoorDkB43

namespace Go.Proofs.YtenkkononchgmaaGreatDoor
open Go.RowKit Go

def NuC (w0 w : World) (g N V : Nat) (vb : Value) (p : Nat) (T : List Int) (vt : Value) (M : Nat) (e : Int) (n x : Nat) (w' : World) : Prop :=
 Kp g w w' ∧ ∃ q e', Ri w0 w' g N V vb q T vt M e' ∧ ((e' = 0 ∧ e = 0 ∧ p + n ≤ N ∧ q = p + n ∧ x = Inf.num V p n) ∨ (e' = 4 ∧ x = 0 ∧ (e = 4 ∨ N < p + n)))
theorem rnum_c (n : Nat) (w0 w : World) (g N V : Nat) (vb : Value) (p : Nat) (T : List Int) (vt : Value) (M : Nat) (e : Int) (he : e = 0 ∨ e = 4) (h : Ri w0 w g N V vb p T vt M e) (hN : N ≤ 1000000) (hn : n ≤ 32) :
   Calls Tryz.prog 53 #[.pointer (some ⟨g, 0, none⟩), .int .i64 (n : Nat)] w fun en w' => ∃ x : Nat, en = .returned (.int .i64 (x : Int)) ∧ x < 2 ^ n ∧ NuC w0 w g N V vb p T vt M e n x w' := by
 rcases he with rfl | rfl
 · rcases Nat.lt_or_ge N (p + n) with c | c
   · refine (rnum_no n w0 w g N V vb p T vt M 0 h hN hn (.inr c)).mono ?_
     rintro en w' ⟨h1, h2, h3⟩
     exact ⟨0, h1, Nat.two_pow_pos _, h3, p, _, h2, .inr ⟨rfl, rfl, .inr c⟩⟩
   · refine (rnum_any n w0 w g N V vb p T vt M h hN hn c).mono ?_
     rintro en w' ⟨h1, h2, h3⟩
     exact ⟨_, h1, Inf.num_lt V p n, h3, _, _, h2, .inl ⟨rfl, rfl, c, rfl, rfl⟩⟩
 · refine (rnum_no n w0 w g N V vb p T vt M 4 h hN hn (.inl (by decide))).mono ?_
   rintro en w' ⟨h1, h2, h3⟩
   exact ⟨0, h1, Nat.two_pow_pos _, h3, p, _, h2, .inr ⟨rfl, rfl, .inl rfl⟩⟩

set_option maxRecDepth 100000 in
set_option maxHeartbeats 4000000 in
theorem rlengths_no (gm n : Nat) (w0 w : World) (g N V : Nat) (vb : Value) (p : Nat) (T : List Int) (vt : Value) (M : Nat) (e : Int) (h : Ri w0 w g N V vb p T vt M e) (he : ¬ e = 0) :
   Calls Tryz.prog 101 #[.pointer (some ⟨g, 0, none⟩), .agg #[.map (some gm)], .int .i64 (n : Int)] w fun en w' => en = .returned (.slice none 0 0) ∧ Ri w0 w' g N V vb p T vt M e ∧ Kp g w w' := by
 have hb : Below w.heap.size w (w.alloc (.cells #[.map (some gm)] 169)) := (Below.refl _ _).alloc (Nat.le_refl _) _
 have HS := Lib.hid (h.later hb)
 have HK : Hid (Kp g w (w.alloc (.cells #[.map (some gm)] 169))) := Kp.below hb
 have q0 : (e == 0) = false := by simp [he]
 clear h hb he
 go_enter Tryz.func101, Tryz.ntmps101
 go_wp2_with fail
 generalize w.alloc (.cells #[.map (some gm)] 169) = wa at *
 go_loopw [7] (fun v7 wr => v7 = .slice none 0 0 ∧ wr = wa) (fun _ _ => 0)
 case atStart => exact ⟨rfl, rfl⟩
 case round =>
   obtain ⟨rfl, rfl⟩ := hrel
   have c4 := HS.out.c4
   by_cases hn : 0 < n
   · have d1 : decide (0 < n) = true := decide_eq_true hn
     have d2 : decide ((0 : Int) < (n : Int)) = true := decide_eq_true (by omega)
     clear hn
     go_wp2
     go_ret
     exact ⟨rfl, HS.out, HK.out⟩
   · have d1 : decide (0 < n) = false := decide_eq_false hn
     have d2 : decide ((0 : Int) < (n : Int)) = false := decide_eq_false (by omega)
     clear hn
     go_wp2
     go_ret
     exact ⟨rfl, HS.out, HK.out⟩

theorem Inf.dyn_bad {V N M p : Nat} {T : List Int} (h : N < p + 14 ∨ 286 < 257 + Inf.num V p 5 ∨ 30 < 1 + Inf.num V (p + 5) 5 ∨ N < p + 14 + 3 * (4 + Inf.num V (p + 10) 4)) : Inf.dynamic V N M p T = .err 4 := by
 unfold Inf.dynamic; rw [if_pos h]
theorem Inf.dyn_not {V N M p : Nat} {T : List Int} (h : ¬ Inf.Mk (Inf.short V (p + 14) (4 + Inf.num V (p + 10) 4))) : Inf.dynamic V N M p T = .err 4 := by
 unfold Inf.dynamic
 split
 · rfl
 · first | rfl | rw [if_pos h]
theorem Inf.dyn_fail {V N M p nn mm c : Nat} {T : List Int} {S : List Nat} {k : Int} (h1 : nn = 257 + Inf.num V p 5) (h2 : mm = 1 + Inf.num V (p + 5) 5) (h3 : c = 4 + Inf.num V (p + 10) 4) (h : ¬ (N < p + 14 ∨ 286 < nn ∨ 30 < mm ∨ N < p + 14 + 3 * c)) (hS : S = Inf.short V (p + 14) c) (hm : Inf.Mk S)
   (hr : Inf.runs (Inf.lstep S (nn + mm) V N) (p + 14 + 3 * c) [] = .err k) : Inf.dynamic V N M p T = .err 4 := by
 subst h1 h2 h3 hS
 unfold Inf.dynamic
 rw [if_neg h, if_neg (fun k => k hm), hr]
theorem Inf.dyn_ok {V N M p nn mm c q : Nat} {T : List Int} {S A : List Nat} (h1 : nn = 257 + Inf.num V p 5) (h2 : mm = 1 + Inf.num V (p + 5) 5) (h3 : c = 4 + Inf.num V (p + 10) 4) (h : ¬ (N < p + 14 ∨ 286 < nn ∨ 30 < mm ∨ N < p + 14 + 3 * c)) (hS : S = Inf.short V (p + 14) c) (hm : Inf.Mk S)
   (hr : Inf.runs (Inf.lstep S (nn + mm) V N) (p + 14 + 3 * c) [] = .ok q A) : Inf.dynamic V N M p T = if A.getD 256 0 = 0 then .err 4 else Inf.coded (A.take nn) (A.drop nn) V N M q T := by
 subst h1 h2 h3 hS
 unfold Inf.dynamic
 rw [if_neg h, if_neg (fun k => k hm), hr]
end Go.Proofs.YtenkkononchgmaaGreatDoor

/- The walk of the document's dynamic. -/
namespace Go.Proofs.YtenkkononchgmaaGreatDoor
open Go.RowKit Go

theorem rnum_cq (n : Nat) (w0 w : World) (g N V : Nat) (vb : Value) (q : Nat) (T : List Int) (vt : Value) (M : Nat) (e : Int) (he : e = 0 ∨ e = 4) (hN : N ≤ 1000000) (hn : n ≤ 32) (wx : World) (h : RAny w0 w g N V vb T vt M wx) :
   Calls Tryz.prog 53 #[.pointer (some ⟨g, 0, none⟩), .int .i64 (n : Nat)] wx fun en w' => ∃ x : Nat, en = .returned (.int .i64 (x : Int)) ∧ RAny w0 w g N V vb T vt M w' ∧ (Ri w0 wx g N V vb q T vt M e → Kp g w wx → x < 2 ^ n ∧ NuC w0 w g N V vb q T vt M e n x w') := by
 by_cases hp : Ri w0 wx g N V vb q T vt M e ∧ Kp g w wx
 · refine (rnum_c n w0 wx g N V vb q T vt M e he hp.1 hN hn).mono ?_
   rintro en w' ⟨x, h1, h2, h3, q', e', h4, h5⟩
   exact ⟨x, h1, ⟨q', e', h4, hp.2.trans h3⟩, fun _ _ => ⟨h2, hp.2.trans h3, q', e', h4, h5⟩⟩
 · obtain ⟨q', e', h1, h2⟩ := h
   by_cases hq : e' = 0 ∧ q' + n ≤ N
   · obtain ⟨rfl, hq⟩ := hq
     refine (rnum_any n w0 wx g N V vb q' T vt M h1 hN hn hq).mono ?_
     rintro en w' ⟨g1, g2, g3⟩
     exact ⟨_, g1, ⟨_, _, g2, h2.trans g3⟩, fun a b => absurd ⟨a, b⟩ hp⟩
   · refine (rnum_no n w0 wx g N V vb q' T vt M e' h1 hN hn (by
       by_cases e0 : e' = 0
       · right; apply Classical.byContradiction; intro h; exact hq ⟨e0, by omega⟩
       · exact .inl e0)).mono ?_
     rintro en w' ⟨g1, g2, g3⟩
     exact ⟨0, g1, ⟨_, _, g2, h2.trans g3⟩, fun a b => absurd ⟨a, b⟩ hp⟩
theorem Kp.set_new {g G : Nat} {w w' : World} (h : Kp g w w') (hG : w.heap.size ≤ G) (i : Nat) (v : Value) : Kp g w (w'.setCell ⟨G, i, none⟩ v) :=
 ⟨h.os, h.tape, h.output, by simpa using h.size, fun k o h1 h2 h3 => (heap_setCell_other _ _ _ _ (show k ≠ G from by have := Inf.lt_some h1; omega)).trans (h.blk k o h1 h2 h3)⟩
structure DyS (w0 w wr : World) (g N V : Nat) (vb : Value) (T : List Int) (vt : Value) (M GO GS q : Nat) (e : Int) (S : List Nat) : Prop where
 ri : Ri w0 wr g N V vb q T vt M e
 kp : Kp g w wr
 tb : Tb wr GO Inf.order
 sh : Tb wr GS S
 len : S.length = 19
 lo : w.heap.size ≤ GS
 ne : GO ≠ GS
 lo0 : w0.heap.size ≤ w.heap.size
 vbl : ∀ k, vb.ownBlock = some k → k < w.heap.size
theorem DyS.put {w0 w wr wx : World} {g N V : Nat} {vb : Value} {T : List Int} {vt : Value} {M GO GS q q' : Nat} {e e' : Int} {S : List Nat} (h : DyS w0 w wr g N V vb T vt M GO GS q e S) (hr : Ri w0 wx g N V vb q' T vt M e') (hk : Kp g wr wx) (x y : Nat) :
   DyS w0 w (wx.setCell ⟨GS, x, none⟩ (.int .i64 (y : Int))) g N V vb T vt M GO GS q' e' (S.set x y) := by
 have hsh : wx.heap[GS]? = some (.cells (nv S).toArray 3 (0, 0)) := h.sh.kp hk (h.ri.ng h.sh)
 have hgs : g ≠ GS := (hr.ng (l := S) hsh).symm
 have htb : wx.heap[GO]? = some (.cells (nv Inf.order).toArray 3 (0, 0)) := h.tb.kp hk (h.ri.ng h.tb)
 have hlo : w0.heap.size ≤ GS := Nat.le_trans h.lo0 h.lo
 refine ⟨⟨hr.bel.setCell hlo _, hr.lo, (heap_setCell_other _ _ _ _ hgs).trans hr.row, ?_, ?_, hr.ple⟩, (h.kp.trans hk).set_new h.lo _ _, (heap_setCell_other _ _ _ _ h.ne).trans htb, ?_, by rw [List.length_set]; exact h.len, h.lo, h.ne, h.lo0, h.vbl⟩
 · exact Inf.own_other hr.bits fun k hk => heap_setCell_other _ _ _ _ (show k ≠ GS from by have := h.vbl k hk; have := h.lo; omega)
 · refine Inf.own_other hr.txt fun k hk => heap_setCell_other _ _ _ _ ?_
   obtain ⟨_, cur, hc⟩ := Inf.own_type hr.txt hk
   exact Inf.ne_ty hc hsh (by decide)
 · show (wx.setCell _ _).heap[GS]? = _
   rw [heap_setCell_same _ _ _ _ _ _ hsh]
   congr 2
   simp [nv, List.map_set]
theorem Inf.ord19 : ∀ i, i < 19 → Inf.order.getD i 0 < 19 := by decide
theorem Inf.lstep_err {t : List Nat} {n V N p : Nat} {A : List Nat} {k : Int} (h : Inf.runs (Inf.lstep t n V N) p A = .err k) : k = 4 := by
 have key : ∀ p A r, Inf.Run (Inf.lstep t n V N) p A r → ∀ k, r = .err k → k = 4 := by
   intro p A r h
   induction h with
   | fin h =>
     intro k e
     subst e
     unfold Inf.lstep at h
     split at h
     · cases h
     · split at h
       · cases h; rfl
       · split at h
         · cases h; rfl
         · cases h
   | go _ _ ih => exact ih
 by_cases hx : ∃ r, Inf.Run (Inf.lstep t n V N) p A r
 · obtain ⟨r, hr⟩ := hx
   rw [hr.eq] at h
   exact key p A r hr k h
 · unfold Inf.runs at h
   rw [dif_neg hx] at h
   cases h; rfl

set_option maxRecDepth 100000 in
set_option maxHeartbeats 8000000 in
theorem rdynamic_any (w0 w : World) (g N V : Nat) (vb : Value) (p : Nat) (T : List Int) (vt : Value) (M : Nat) (h : Ri w0 w g N V vb p T vt M 0) (hN : N ≤ 1000000) (hT : T.length ≤ M) (hM : M ≤ 65536) :
   Calls Tryz.prog 57 #[.pointer (some ⟨g, 0, none⟩)] w fun e w' => e = .returned (.tuple #[]) ∧ Out w0 w g N V vb M (Inf.dynamic V N M p T) w' := by
 obtain ⟨RD, hrd⟩ : ∃ RD, RD = Inf.dynamic V N M p T := ⟨_, rfl⟩
 rw [← hrd]
 have HRD := Lib.hid hrd
 have HN := Lib.hid hN
 have HM := Lib.hid hM
 have HT := Lib.hid hT
 have HLO : Hid (w0.heap.size ≤ w.heap.size ∧ ∀ k, vb.ownBlock = some k → k < w.heap.size) := ⟨h.bel.size, fun k hk => by obtain ⟨_, _, hc⟩ := Inf.own_type h.bits hk; exact Inf.lt_some hc⟩
 have HA := Lib.hid (rnum_c 5 w0 w g N V vb p T vt M 0 (.inl rfl) h hN (by omega))
 clear h hN hT hM hrd
 go_enter Tryz.func57, Tryz.ntmps57
 go_wp2_with fail
 refine HA.out.mono ?_
 rintro en w1 ⟨x1, rfl, b1, k1, q1, e1, r1, s1⟩
 have K1 := Lib.hid k1
 have E1 : Hid (e1 = 0 ∨ e1 = 4) := by
   rcases s1 with ⟨a, _⟩ | ⟨a, _⟩
   · exact .inl a
   · exact .inr a
 have S1 : Hid ((e1 = 0 ∧ p + 5 ≤ N ∧ q1 = p + 5 ∧ x1 = Inf.num V p 5) ∨ (e1 = 4 ∧ N < p + 5)) := by
   rcases s1 with ⟨a, _, b, c, d⟩ | ⟨a, _, b | b⟩
   · exact .inl ⟨a, b, c, d⟩
   · exact absurd b (by decide)
   · exact .inr ⟨a, b⟩
 have HA2 := Lib.hid (rnum_c 5 w0 w1 g N V vb q1 T vt M e1 E1.out r1 HN.out (by omega))
 have hx1 : (x1 : Int) ≤ 31 := by have : (2 : Nat) ^ 5 = 32 := rfl; omega
 obtain ⟨nn, hnn⟩ : ∃ nn, nn = 257 + x1 := ⟨_, rfl⟩
 have hnI : 257 + (x1 : Int) = (nn : Int) := by omega
 have HNN := Lib.hid hnn
 have hn288 : (nn : Int) ≤ 288 := by omega
 clear hnn k1 r1 s1 HA b1
 go_wp2_with fail
 refine HA2.out.mono ?_
 rintro en w2 ⟨x2, rfl, b2, k2, q2, e2, r2, s2⟩
 have K2 := Lib.hid (K1.out.trans k2)
 have E2 : Hid (e2 = 0 ∨ e2 = 4) := by
   rcases s2 with ⟨a, _⟩ | ⟨a, _⟩
   · exact .inl a
   · exact .inr a
 have S2 : Hid ((e2 = 0 ∧ p + 10 ≤ N ∧ q2 = p + 10 ∧ x1 = Inf.num V p 5 ∧ x2 = Inf.num V (p + 5) 5) ∨ (e2 = 4 ∧ N < p + 10)) := by
   rcases s2 with ⟨a, a0, b, c, d⟩ | ⟨a, _, b | b⟩
   · rcases S1.out with ⟨f1, f2, f3, f4⟩ | ⟨f1, f2⟩
     · exact .inl ⟨a, by omega, by omega, f4, by rw [d, f3]⟩
     · omega
   · rcases S1.out with ⟨f1, f2, f3, f4⟩ | ⟨f1, f2⟩
     · omega
     · exact .inr ⟨a, by omega⟩
   · rcases S1.out with ⟨f1, f2, f3, f4⟩ | ⟨f1, f2⟩
     · exact .inr ⟨a, by omega⟩
     · exact .inr ⟨a, by omega⟩
 have HA3 := Lib.hid (rnum_c 4 w0 w2 g N V vb q2 T vt M e2 E2.out r2 HN.out (by omega))
 have hx2 : (x2 : Int) ≤ 31 := by have : (2 : Nat) ^ 5 = 32 := rfl; omega
 obtain ⟨mm, hmm⟩ : ∃ mm, mm = 1 + x2 := ⟨_, rfl⟩
 have hmI : 1 + (x2 : Int) = (mm : Int) := by omega
 have HMM := Lib.hid hmm
 have hm32 : (mm : Int) ≤ 32 := by omega
 clear hmm k2 r2 s2 HA2 b2 K1 S1
 go_wp2_with fail
 refine HA3.out.mono ?_
 rintro en w3 ⟨x3, rfl, b3, k3, q3, e3, r3, s3⟩
 have K3 := Lib.hid (K2.out.trans k3)
 have E3 : Hid (e3 = 0 ∨ e3 = 4) := by
   rcases s3 with ⟨a, _⟩ | ⟨a, _⟩
   · exact .inl a
   · exact .inr a
 have S3 : Hid ((e3 = 0 ∧ p + 14 ≤ N ∧ q3 = p + 14 ∧ x1 = Inf.num V p 5 ∧ x2 = Inf.num V (p + 5) 5 ∧ x3 = Inf.num V (p + 10) 4) ∨ (e3 = 4 ∧ N < p + 14)) := by
   rcases s3 with ⟨a, a0, b, c, d⟩ | ⟨a, _, b | b⟩
   · rcases S2.out with ⟨f1, f2, f3, f4, f5⟩ | ⟨f1, f2⟩
     · exact .inl ⟨a, by omega, by omega, f4, f5, by rw [d, f3]⟩
     · omega
   · rcases S2.out with ⟨f1, f2, f3, f4⟩ | ⟨f1, f2⟩
     · omega
     · exact .inr ⟨a, by omega⟩
   · rcases S2.out with ⟨f1, f2, f3, f4⟩ | ⟨f1, f2⟩
     · exact .inr ⟨a, by omega⟩
     · exact .inr ⟨a, by omega⟩
 have R3 := Lib.hid r3
 have hx3 : (x3 : Int) ≤ 15 := by have : (2 : Nat) ^ 4 = 16 := rfl; omega
 obtain ⟨cc, hcc⟩ : ∃ cc, cc = 4 + x3 := ⟨_, rfl⟩
 have hcI : 4 + (x3 : Int) = (cc : Int) := by omega
 have HCC := Lib.hid hcc
 have hc19 : (cc : Int) ≤ 19 := by omega
 clear hcc k3 r3 s3 HA3 b3 K2 S2
 have HF := Lib.hid (rfail_any 4 w0 w3 g N V vb q3 T vt M e3 R3.out)
 have HER : Hid (Inf.er 4 e3 = 4) := by
   unfold Hid
   rcases E3.out with a | a <;> rw [a] <;> rfl
 rcases (by omega : 286 < nn ∨ (nn ≤ 286 ∧ 30 < mm) ∨ (nn ≤ 286 ∧ mm ≤ 30)) with c | c | c
 case' inl =>
   have d1 : decide (286 < nn) = true := decide_eq_true c
   have d1' : decide (286 < (nn : Int)) = true := decide_eq_true (by omega)
   have HB : Hid (286 < nn ∨ 30 < mm) := .inl c
   have HBD : Hid (RD = .err 4) := by
     unfold Hid
     rw [HRD.out]
     rcases S3.out with ⟨a1, a2, a3, a4, a5, a6⟩ | ⟨a1, a2⟩
     · rcases HB.out with b | b
       · exact Inf.dyn_bad (.inr (.inl (by rw [← a4, ← HNN.out]; exact b)))
       · exact Inf.dyn_bad (.inr (.inr (.inl (by rw [← a5, ← HMM.out]; exact b))))
     · exact Inf.dyn_bad (.inl a2)
   clear c HB
   go_wp2_with fail
   refine HF.out.mono ?_
   rintro en wz ⟨rfl, g1, g2⟩
   rw [HER.out] at g1
   obtain ⟨e4, he4⟩ : ∃ e4 : Int, e4 = 4 := ⟨_, rfl⟩
   rw [← he4] at g1
   have Z1 := Lib.hid g1
   have Z2 := Lib.hid (K3.out.trans g2)
   have Z3 : Hid ((e4 = 0 ∧ p + 14 ≤ N ∧ q3 = p + 14 ∧ x1 = Inf.num V p 5 ∧ x2 = Inf.num V (p + 5) 5 ∧ x3 = Inf.num V (p + 10) 4 ∧ nn ≤ 286 ∧ mm ≤ 30) ∨ (e4 = 4 ∧ RD = .err 4)) := .inr ⟨he4, HBD.out⟩
   clear g1 g2 R3 K3 S3 E3 HF HER HBD he4
   go_wp2_with fail
 case' inr.inl =>
   have d1 : decide (286 < nn) = false := decide_eq_false (by omega)
   have d1' : decide (286 < (nn : Int)) = false := decide_eq_false (by omega)
   have d2 : decide (30 < mm) = true := decide_eq_true c.2
   have d2' : decide (30 < (mm : Int)) = true := decide_eq_true (by omega)
   have HB : Hid (286 < nn ∨ 30 < mm) := .inr c.2
   have HBD : Hid (RD = .err 4) := by
     unfold Hid
     rw [HRD.out]
     rcases S3.out with ⟨a1, a2, a3, a4, a5, a6⟩ | ⟨a1, a2⟩
     · rcases HB.out with b | b
       · exact Inf.dyn_bad (.inr (.inl (by rw [← a4, ← HNN.out]; exact b)))
       · exact Inf.dyn_bad (.inr (.inr (.inl (by rw [← a5, ← HMM.out]; exact b))))
     · exact Inf.dyn_bad (.inl a2)
   clear c HB
   go_wp2_with fail
   refine HF.out.mono ?_
   rintro en wz ⟨rfl, g1, g2⟩
   rw [HER.out] at g1
   obtain ⟨e4, he4⟩ : ∃ e4 : Int, e4 = 4 := ⟨_, rfl⟩
   rw [← he4] at g1
   have Z1 := Lib.hid g1
   have Z2 := Lib.hid (K3.out.trans g2)
   have Z3 : Hid ((e4 = 0 ∧ p + 14 ≤ N ∧ q3 = p + 14 ∧ x1 = Inf.num V p 5 ∧ x2 = Inf.num V (p + 5) 5 ∧ x3 = Inf.num V (p + 10) 4 ∧ nn ≤ 286 ∧ mm ≤ 30) ∨ (e4 = 4 ∧ RD = .err 4)) := .inr ⟨he4, HBD.out⟩
   clear g1 g2 R3 K3 S3 E3 HF HER HBD he4
   go_wp2_with fail
 case' inr.inr =>
   have d1 : decide (286 < nn) = false := decide_eq_false (by omega)
   have d1' : decide (286 < (nn : Int)) = false := decide_eq_false (by omega)
   have d2 : decide (30 < mm) = false := decide_eq_false (by omega)
   have d2' : decide (30 < (mm : Int)) = false := decide_eq_false (by omega)
   have Z0 : Hid (∃ wz e4, Hid (wz = w3) ∧ Hid (Ri w0 wz g N V vb q3 T vt M e4) ∧ Hid (Kp g w wz) ∧ Hid ((e4 = 0 ∧ p + 14 ≤ N ∧ q3 = p + 14 ∧ x1 = Inf.num V p 5 ∧ x2 = Inf.num V (p + 5) 5 ∧ x3 = Inf.num V (p + 10) 4 ∧ nn ≤ 286 ∧ mm ≤ 30) ∨ (e4 = 4 ∧ RD = .err 4))) := by
     refine ⟨w3, e3, rfl, R3.out, K3.out, ?_⟩
     rcases S3.out with ⟨a1, a2, a3, a4, a5, a6⟩ | ⟨a1, a2⟩
     · exact .inl ⟨a1, a2, a3, a4, a5, a6, c.1, c.2⟩
     · exact .inr ⟨a1, HRD.out.trans (Inf.dyn_bad (.inl a2))⟩
   obtain ⟨wz, e4, hz, Z1, Z2, Z3⟩ := Z0.out
   rw [← hz.out]
   clear Z0 hz R3 K3 S3 E3 HF HER c
   go_wp2_with fail
 all_goals
   have E4 : Hid (e4 = 0 ∨ e4 = 4) := by
     rcases Z3.out with ⟨a, _⟩ | ⟨a, _⟩
     · exact .inl a
     · exact .inr a
   refine (order_any _).mono ?_
   rintro en wo ⟨h1, GO, h2, h3, rfl⟩
   have Y1 := Lib.hid (Z1.out.later h1)
   have Y2 := Lib.hid (Z2.out.trans (Kp.below h1))
   have TO : Hid (Tb wo GO Inf.order) := h3
   clear h1 h2 h3 Z1 Z2
   obtain ⟨AZ, hAZ⟩ : ∃ AZ : Array Value, AZ = (nv (List.replicate 19 0)).toArray := ⟨_, rfl⟩
   have hmk : ∀ w : World, (Instr.makeSlice 97 (.int .i64 19) (.int .i64 19)).run Tryz.prog w = .ok (.slice (some ⟨w.heap.size, 0, none⟩) 19 19) (w.alloc (.cells AZ 3)) := fun w => (run_ints 19 (by omega) w).trans (by rw [hAZ, show ki 19 (fun _ => 0) = (nv (List.replicate 19 0)).toArray from rfl])
   have HS0 : Hid (DyS w0 w (wo.alloc (.cells AZ 3)) g N V vb T vt M GO wo.heap.size q3 e4 (List.replicate 19 0)) := by
     have hb : Below wo.heap.size wo (wo.alloc (.cells AZ 3)) := (Below.refl _ _).alloc (Nat.le_refl _) _
     exact ⟨Y1.out.later hb, Y2.out.trans (Kp.below hb), TO.out.kp (Kp.below hb) (Y1.out.ng TO.out), by rw [hAZ]; exact heap_alloc_new _ _, List.length_replicate, Y2.out.size, Nat.ne_of_lt (Inf.lt_some TO.out), HLO.out.1, HLO.out.2⟩
   clear hAZ
   go_wp2_with fail
   generalize wo.alloc (.cells AZ 3) = wp at *
   obtain ⟨GS, hGS⟩ : ∃ GS, GS = wo.heap.size := ⟨_, rfl⟩
   rw [← hGS]
   rw [← hGS] at HS0
   clear hmk Y1 Y2 TO hGS
   go_loopw [7] (fun v7 wr => ∃ (i q : Nat) (e : Int) (S : List Nat), i ≤ cc ∧ v7 = .int .i64 (i : Int) ∧ DyS w0 w wr g N V vb T vt M GO GS q e S ∧ ((e = 0 ∧ e4 = 0 ∧ q = p + 14 + 3 * i ∧ S = Inf.short V (p + 14) i) ∨ (e = 4 ∧ RD = .err 4))) (fun v7 _ => (cc - intOf v7).toNat)
   case atStart =>
     refine ⟨0, q3, e4, _, by omega, rfl, HS0.out, ?_⟩
     rcases Z3.out with ⟨a1, a2, a3, _⟩ | ⟨a1, a2⟩
     · exact .inl ⟨a1, a1, by omega, rfl⟩
     · exact .inr ⟨a1, a2⟩
   case round =>
     clear HS0
     obtain ⟨i, q, e, S, hi, rfl, hd, hst⟩ := hrel
     have HD := Lib.hid hd
     have HST := Lib.hid hst
     by_cases hlt : i < cc
     · have d8 : decide (i < cc) = true := decide_eq_true hlt
       have d8' : decide ((i : Int) < (cc : Int)) = true := decide_eq_true (by omega)
       have HI : Hid (i < cc) := hlt
       have E5 : Hid (e = 0 ∨ e = 4) := by
         rcases hst with ⟨a, _⟩ | ⟨a, _⟩
         · exact .inl a
         · exact .inr a
       have hi19 : (i : Int) < 19 := by omega
       obtain ⟨x, hx⟩ : ∃ x, x = Inf.order.getD i 0 := ⟨_, rfl⟩
       have hx19 : x < 19 := by rw [hx]; exact Inf.ord19 i (by omega)
       have hx19' : (x : Int) < 19 := by omega
       have HX := Lib.hid hx
       have HCL : Hid (∀ wx, Kp g wr wx → wx.cell? ⟨GO, i, none⟩ = some (.int .i64 (x : Int)) ∧ wx.cell? ⟨GS, x, none⟩ = some (.int .i64 ((S.getD x 0 : Nat) : Int)) ∧ wx.frozen? ⟨GS, x, none⟩ = false) := by
         intro wx hk
         have t1 : Tb wx GO Inf.order := hd.tb.kp hk (hd.ri.ng hd.tb)
         have t2 : Tb wx GS S := hd.sh.kp hk (hd.ri.ng hd.sh)
         refine ⟨?_, t2.cell (by have := hd.len; omega), frozen_of_row _ _ _ _ _ t2⟩
         rw [hx]
         exact t1.cell (show i < 19 by omega)
       have HNQ := Lib.hid (rnum_cq 3 w0 wr g N V vb q T vt M e E5.out HN.out (by omega))
       have HAN : Hid (RAny w0 wr g N V vb T vt M wr.drew) := RAny.drew ⟨q, e, hd.ri, Kp.refl _ _⟩
       have HRD0 : Hid (Ri w0 wr.drew g N V vb q T vt M e ∧ Kp g wr wr.drew) := ⟨hd.ri.drawn (Drawn.refl wr).drew, Kp.drawn (Drawn.refl wr).drew⟩
       obtain ⟨c1, c2, c3⟩ := HCL.out wr.drew HRD0.out.2
       clear hd hst hlt hx hi
       go_wp2_with fail
       go_region_with ((go_at_call 53; (refine (HNQ.out _ HAN.out).mono ?_); rintro en w6 ⟨y, rfl, -, hs⟩; have HNU := Lib.hid (hs HRD0.out.1 HRD0.out.2); clear hs; obtain ⟨c4, c5, c6⟩ := HCL.out w6 HNU.out.2.1))
       all_goals go_wp2
       all_goals
         obtain ⟨hy, hkq, q', e', hr', hs'⟩ := HNU.out
         refine ⟨⟨i + 1, q', e', S.set x y, by have := HI.out; omega, by go_num, HD.out.put hr' hkq x y, ?_⟩, by have := HI.out; simp [intOf]; omega⟩
         rcases hs' with ⟨a1, a2, a3, a4, a5⟩ | ⟨a1, a2, a3⟩
         · rcases HST.out with ⟨b1, b2, b3, b4⟩ | ⟨b1, b2⟩
           · exact .inl ⟨a1, b2, by omega, by rw [b4, HX.out, a5, b3]; rfl⟩
           · omega
         · rcases HST.out with ⟨b1, b2, b3, b4⟩ | ⟨b1, b2⟩
           · refine .inr ⟨a1, ?_⟩
             rcases a3 with a3 | a3
             · omega
             · rcases Z3.out with ⟨z1, z2, z3, z4, z5, z6, z7⟩ | ⟨z1, z2⟩
               · rw [HRD.out]
                 exact Inf.dyn_bad (.inr (.inr (.inr (by have := HCC.out; have := HI.out; rw [← z6]; omega))))
               · exact z2
           · exact .inr ⟨a1, b2⟩
     · have d8 : decide (i < cc) = false := decide_eq_false hlt
       have d8' : decide ((i : Int) < (cc : Int)) = false := decide_eq_false (by omega)
       have HEQ : Hid (i = cc) := by unfold Hid; omega
       obtain ⟨ln, hln⟩ : ∃ ln, ln = nn + mm := ⟨_, rfl⟩
       have hlnI : (nn : Int) + (mm : Int) = (ln : Int) := by omega
       have hln6 : (ln : Int) ≤ 320 := by omega
       have HLN := Lib.hid hln
       have HI1 : Hid (Ints wr (some ⟨GS, 0, none⟩) 19 19 (Inf.lf S)) := ⟨Nat.le_refl _, fun _ => ⟨GS, 0, rfl, Inf.lt_some HD.out.sh, fun j hj => by rw [Nat.zero_add]; exact HD.out.sh.cell (by rw [HD.out.len]; exact hj)⟩⟩
       have HMT := Lib.hid (made_tree S _ 19 19 wr HD.out.len.symm HI1.out (by omega))
       clear hd hst hlt hi hln HI1
       go_wp2_with fail
       refine HMT.out.mono ?_
       rintro en wm ⟨h1, gm, h2⟩
       have hba : Below wm.heap.size wm (wm.alloc (.cells #[.map (some gm)] 169)) := (Below.refl _ _).alloc (Nat.le_refl _) _
       have HR1 : Hid (Ri w0 (wm.alloc (.cells #[.map (some gm)] 169)) g N V vb q T vt M e) := (HD.out.ri.later h1).later hba
       have HK1 : Hid (Kp g w (wm.alloc (.cells #[.map (some gm)] 169))) := (HD.out.kp.trans (Kp.below h1)).trans (Kp.below hba)
       have HBX : Hid (Bx (wm.alloc (.cells #[.map (some gm)] 169)) wm.heap.size gm) := heap_alloc_new _ _
       have HTR : Hid (Tree wm S gm → Tree (wm.alloc (.cells #[.map (some gm)] 169)) S gm) := fun k => k.kp (Kp.below hba) ((HD.out.ri.later h1).nm k.is)
       clear h1 hba HMT
       rcases h2 with ⟨k1, rfl, k2⟩ | ⟨k1, rfl⟩
       · have TR := Lib.hid (HTR.out k2)
         have HMK := Lib.hid k1
         clear HTR k1 k2
         go_wp2_with fail
         generalize wm.alloc (.cells #[.map (some gm)] 169) = wx at *
         generalize wm.heap.size = gx at *
         have cb1 := HBX.out.c
         go_wp2_with fail
         rcases HST.out with ⟨b1, b2, b3, b4⟩ | ⟨b1, b2⟩
         · subst b1
           have HZ : Hid (p + 14 ≤ N ∧ nn = 257 + Inf.num V p 5 ∧ mm = 1 + Inf.num V (p + 5) 5 ∧ cc = 4 + Inf.num V (p + 10) 4 ∧ nn ≤ 286 ∧ mm ≤ 30) := by
             rcases Z3.out with ⟨z1, z2, z3, z4, z5, z6, z7, z8⟩ | ⟨z1, z2⟩
             · exact ⟨z2, by rw [HNN.out, z4], by rw [HMM.out, z5], by rw [HCC.out, z6], z7, z8⟩
             · exact absurd (b2.symm.trans z1) (by decide)
           have HQ : Hid (q = p + 14 + 3 * cc ∧ S = Inf.short V (p + 14) cc) := by rw [← HEQ.out]; exact ⟨b3, b4⟩
           have HNB : Hid (¬ (N < p + 14 ∨ 286 < nn ∨ 30 < mm ∨ N < p + 14 + 3 * cc)) := by
             have h1 := HZ.out
             have h2 := HQ.out.1
             have h3 := HR1.out.ple
             unfold Hid
             omega
           have HLE := Lib.hid (rlengths_any S ln gm w0 wx g N V vb q T vt M HR1.out TR.out HMK.out HD.out.len HN.out (by omega) HR1.out.bel.size)
           clear b2 b3 b4
           refine HLE.out.mono ?_
           rintro en wl ⟨g0, ⟨k, qk, ak, mk, ck, h1, h2, rfl, h3⟩ | ⟨qk, A, v, h1, h2, rfl, h3, h4⟩⟩
           · obtain rfl := Inf.lstep_err h1
             have HB : Hid (RD = .err 4) := by
               unfold Hid
               rw [HLN.out, HQ.out.1] at h1
               exact HRD.out.trans (Inf.dyn_fail HZ.out.2.1 HZ.out.2.2.1 HZ.out.2.2.2.1 HNB.out HQ.out.2 HMK.out h1)
             have c4 := h3.c4
             have G1 := Lib.hid h3
             have G2 := Lib.hid (HK1.out.trans g0)
             clear h1 h2 h3 g0 HLE
             go_wp2
             go_returns
             exact ⟨rfl, G2.out, .inl ⟨4, _, _, _, HB.out, by decide, G1.out⟩⟩
           · have HOK : Hid (RD = if A.getD 256 0 = 0 then .err 4 else Inf.coded (A.take nn) (A.drop nn) V N M qk T) := by
               unfold Hid
               rw [HLN.out, HQ.out.1] at h1
               exact HRD.out.trans (Inf.dyn_ok HZ.out.2.1 HZ.out.2.2.1 HZ.out.2.2.2.1 HNB.out HQ.out.2 HMK.out h1)
             have hln257 : 257 < ln := by have := HZ.out.2.1; have := HZ.out.2.2.1; have := HLN.out; omega
             have hnl : nn < ln := by have := HZ.out.2.1; have := HZ.out.2.2.1; have := HLN.out; omega
             obtain ⟨a0, c0, rfl, -, hI⟩ := Inf.own_nv h4 h2
             obtain ⟨s, rfl⟩ : ∃ s, a0 = some ⟨s, 0, none⟩ := by
               rcases h4.2 with ⟨e, h0⟩ | ⟨s, cap, cur, e, _⟩
               · cases e; omega
               · cases e; exact ⟨s, rfl⟩
             obtain ⟨z, hz⟩ : ∃ z, z = A.getD 256 0 := ⟨_, rfl⟩
             have cz : wl.cell? ⟨s, 256, none⟩ = some (.int .i64 (z : Int)) := by
               obtain ⟨s', o', e, _, hc⟩ := hI.ad (by omega)
               cases e
               have := hc 256 (by omega)
               rw [Nat.zero_add] at this
               rw [hz]
               exact this
             have hcv := hI.le
             have c4 := h3.c4
             have G1 := Lib.hid h3
             have G2 := Lib.hid (HK1.out.trans g0)
             have HI := Lib.hid hI
             have HA : Hid (A.length = ln) := h2
             have hl256 : (256 : Int) < (ln : Int) := by omega
             rw [← hz] at HOK
             clear h1 h2 h3 h4 g0 hz hI HLE
             by_cases hz0 : z = 0
             · subst hz0
               have HB : Hid (RD = .err 4) := by unfold Hid; rw [HOK.out, if_pos rfl]
               have HF := Lib.hid (rfail_any 4 w0 wl g N V vb qk T vt M 0 G1.out)
               clear HOK
               go_wp2_with fail
               refine HF.out.mono ?_
               rintro en wf ⟨rfl, g1, g2⟩
               rw [Inf.er_zero] at g1
               have F1 := Lib.hid g1
               have F2 := Lib.hid (G2.out.trans g2)
               clear g1 g2 HF
               go_wp2
               go_returns
               exact ⟨rfl, F2.out, .inl ⟨4, _, _, _, HB.out, by decide, F1.out⟩⟩
             · have ez : ((z : Int) == 0) = false := by simp; omega
               have HGO : Hid (RD = Inf.coded (A.take nn) (A.drop nn) V N M qk T) := by unfold Hid; rw [HOK.out, if_neg hz0]
               have hto := Inf.ints_to (some ⟨s, 0, none⟩) ln c0 nn (by omega)
               have hfr := Inf.ints_from (some ⟨s, 0, none⟩) ln c0 nn (by omega)
               rw [if_neg (by omega), show Option.map (fun x : Addr => x.add nn) (some ⟨s, 0, none⟩) = some ⟨s, nn, none⟩ by simp [Addr.add_mid]] at hfr
               have HCO := Lib.hid (fun (wy : World) (hd : Drawn wl wy) => rcoded_any (A.take nn) (A.drop nn) (some ⟨s, 0, none⟩) nn c0 (some ⟨s, nn, none⟩) (ln - nn) (c0 - nn) w0 wy g N V vb qk T vt M (G1.out.drawn hd) (by rw [List.length_take]; have := HA.out; omega) (by rw [List.length_drop]; have := HA.out; omega) ((HI.out.takeL nn (by omega)).drawn hd) ((HI.out.dropL nn (by omega)).drawn hd) (by omega) (by omega) HN.out HT.out HM.out)
               rw [← HGO.out] at HCO
               clear HOK hz0
               go_wp2_with fail
               go_region_with ((go_at_call 56; (refine (HCO.out _ (by first | exact Drawn.refl _ | exact (Drawn.refl _).drew)).mono ?_); rintro en wz ⟨rfl, hO⟩; have F1 := Lib.hid hO; clear hO))
               all_goals go_wp2
               all_goals go_returns
               all_goals exact ⟨rfl, (G2.out.trans (Kp.drawn (by first | exact Drawn.refl _ | exact (Drawn.refl _).drew))).trans F1.out.1, F1.out.2⟩
         · subst b1
           have HB := Lib.hid b2
           have HLE := Lib.hid (rlengths_no gm ln w0 wx g N V vb q T vt M 4 HR1.out (by decide))
           refine HLE.out.mono ?_
           rintro en wl ⟨rfl, g1, g2⟩
           have c4 := g1.c4
           have G1 := Lib.hid g1
           have G2 := Lib.hid (HK1.out.trans g2)
           clear g1 g2 b2
           go_wp2
           go_returns
           exact ⟨rfl, G2.out, .inl ⟨4, _, _, _, HB.out, by decide, G1.out⟩⟩
       · have HB : Hid (RD = .err 4 ∧ Inf.er 4 e = 4) := by
           unfold Hid
           rcases HST.out with ⟨b1, b2, b3, b4⟩ | ⟨b1, b2⟩
           · refine ⟨?_, by rw [b1]; rfl⟩
             rcases Z3.out with ⟨z1, z2, z3, z4, z5, z6, z7⟩ | ⟨z1, z2⟩
             · rw [HRD.out]
               refine Inf.dyn_not ?_
               rw [← z6, ← HCC.out, ← HEQ.out, ← b4]
               exact k1
             · exact z2
           · exact ⟨b2, by rw [b1]; rfl⟩
         clear HTR k1
         have HF := Lib.hid (rfail_any 4 w0 _ g N V vb q T vt M e HR1.out)
         go_wp2_with fail
         generalize wm.alloc (.cells #[.map (some gm)] 169) = wx at *
         generalize wm.heap.size = gx at *
         refine HF.out.mono ?_
         rintro en wf ⟨rfl, g1, g2⟩
         rw [HB.out.2] at g1
         have cb1 := (HBX.out.kp g2 (HR1.out.nx HBX.out)).c
         have HLE := Lib.hid (rlengths_no gm ln w0 wf g N V vb q T vt M 4 g1 (by decide))
         have G0 := Lib.hid (HK1.out.trans g2)
         clear g1 g2 HF
         go_wp2_with fail
         refine HLE.out.mono ?_
         rintro en wl ⟨rfl, g1, g2⟩
         have c4 := g1.c4
         have G1 := Lib.hid g1
         have G2 := Lib.hid (G0.out.trans g2)
         clear g1 g2 HLE
         go_wp2
         go_returns
         exact ⟨rfl, G2.out, .inl ⟨4, _, _, _, HB.out.1, by decide, G1.out⟩⟩
end Go.Proofs.YtenkkononchgmaaGreatDoor
