/- Laid together: InfPgO InfEv IwBlk. -/
import Derived.Test.YtenkkononchgmaaGreatDoorDkB13

namespace Go.Proofs.YtenkkononchgmaaGreatDoor
open Go.RowKit Go

theorem Inf.bstep_few {V N M p : Nat} {T : List Int} (h : N < p + 3) : Inf.bstep V N M p T = .fin (.err 4) := by unfold Inf.bstep; rw [if_pos h]
theorem Inf.bstep_err {V N M p : Nat} {T : List Int} {k : Int} (h : p + 3 ≤ N) (h2 : Inf.block V N M (Inf.num V (p + 1) 2) (p + 3) T = .err k) : Inf.bstep V N M p T = .fin (.err k) := by unfold Inf.bstep; rw [if_neg (by omega), h2]
theorem Inf.bstep_end {V N M p q : Nat} {T U : List Int} (h : p + 3 ≤ N) (h2 : Inf.block V N M (Inf.num V (p + 1) 2) (p + 3) T = .ok q U) (h3 : Inf.num V p 1 = 1) : Inf.bstep V N M p T = .fin (.ok q U) := by unfold Inf.bstep; rw [if_neg (by omega), h2]; dsimp only; rw [if_pos h3]
theorem Inf.bstep_go {V N M p q : Nat} {T U : List Int} (h : p + 3 ≤ N) (h2 : Inf.block V N M (Inf.num V (p + 1) 2) (p + 3) T = .ok q U) (h3 : ¬ Inf.num V p 1 = 1) : Inf.bstep V N M p T = .go q U := by unfold Inf.bstep; rw [if_neg (by omega), h2]; dsimp only; rw [if_neg h3]
def IfO (w : World) (V N M : Nat) (e : Ending) (w' : World) : Prop :=
 Below w.heap.size w w' ∧ ((∃ k : Int, Inf.inflate V N M = .err k ∧ ¬ k = 0 ∧ e = .returned (.tuple #[.slice none 0 0, .int .i64 0, .int .i64 k])) ∨
   (∃ q T vt, Inf.inflate V N M = .ok q T ∧ T.length ≤ M ∧ e = .returned (.tuple #[vt, .int .i64 (((q + 7) / 8 : Nat) : Int), .int .i64 0]) ∧ w'.ownsRow (w.heap.size + 1) 5 1 vt T.length (k8 T)))
set_option maxRecDepth 100000 in
set_option maxHeartbeats 8000000 in
theorem inflate_any (HOC : OwnC) (B : List Int) (a : Option Addr) (n cap M : Nat) (w : World) (hn : n = B.length) (hB : BytesIn w (.slice a n cap) B (fun _ => True)) (hb : ∀ x ∈ B, 0 ≤ x ∧ x < 256) (hl : n ≤ 1000000) (hM : M ≤ 65536) (hT : Tabs w) :
   Calls Tryz.prog 15 #[.slice a n cap, .int .i64 (M : Int)] w fun e w' => IfO w (Bit.val B) (8 * n) M e w' := by
 have HNW := Lib.hid (rnew_any B a n cap w hn hB hb (by omega))
 have HTB := Lib.hid hT
 have HL := Lib.hid hl
 have HM := Lib.hid hM
 have HO := Lib.hid HOC
 have d0 : decide ((M : Int) < 0) = false := decide_eq_false (by omega)
 have d1 : decide (65536 < (M : Int)) = false := decide_eq_false (by omega)
 generalize Bit.val B = V at *
 obtain ⟨RS, hrs⟩ : ∃ RS, RS = Inf.inflate V (8 * n) M := ⟨_, rfl⟩
 unfold IfO
 rw [← hrs]
 have HRS0 : Hid (RS = Inf.runs (Inf.bstep V (8 * n) M) 0 []) := hrs
 clear hn hB hb hl hM hT HOC hrs
 go_enter Tryz.func15, Tryz.ntmps15
 go_wp2_with fail
 refine HNW.out.mono ?_
 rintro e w1 ⟨rfl, h1, h2⟩
 obtain ⟨r, hr⟩ : ∃ r, r = w.heap.size + 1 := ⟨_, rfl⟩
 rw [← hr] at h1 ⊢
 have HS0 : Hid (Sx w (w1.alloc (.cells #[.pointer (some ⟨r, 0, none⟩), .slice none 0 0, .int .i64 (M : Int), .pointer none, .pointer none] 87)) w1.heap.size r n V 0 [] (.slice none 0 0) M (.pointer none) (.pointer none)) := by
   refine ⟨h2.alloc h2.size _, HTB.out, h2.size, hr, heap_alloc_new _ _, h1.later ((Below.refl _ _).alloc (Nat.le_refl _) _) (Nat.le_refl _), World.ownsRow_nil _ _ _ _⟩
 clear h1 h2 hr HNW
 go_wp2_with fail
 generalize w1.alloc (.cells #[.pointer (some ⟨r, 0, none⟩), .slice none 0 0, .int .i64 (M : Int), .pointer none, .pointer none] 87) = wa at *
 generalize w1.heap.size = g at *
 go_loopw [8] (fun v8 wr => ∃ (last : Bool) (q : Nat) (U : List Int) (vt fl fd : Value), v8 = .bool last ∧ Sx w wr g r n V q U vt M fl fd ∧ Fx wr fl fd ∧ U.length ≤ M ∧ ((last = false ∧ RS = Inf.runs (Inf.bstep V (8 * n) M) q U) ∨ (last = true ∧ RS = .ok q U))) (fun _ wr => 8 * n - Inf.pos wr r)
 case atStart => exact ⟨false, 0, [], _, _, _, rfl, HS0.out, .inl ⟨rfl, rfl⟩, Nat.zero_le _, .inl ⟨rfl, HRS0.out⟩⟩
 case round =>
   clear HS0 HRS0
   obtain ⟨last, q, U, vt, fl, fd, rfl, hs, hf, hU, hc⟩ := hrel
   obtain ⟨av, cv, rfl⟩ := hs.form
   have HS := Lib.hid hs
   have HF := Lib.hid hf
   have HU := Lib.hid hU
   have HPOS : Hid (Inf.pos wr r = q) := hs.pos
   have hql := hs.rd.le
   clear hs hf hU
   rcases hc with ⟨rfl, hrs⟩ | ⟨rfl, hrs⟩
   · have HRS := Lib.hid hrs
     clear hrs
     by_cases hfew : q + 3 ≤ 8 * n
     · have HBL := Lib.hid (block_any HO.out w wr g r n V q U _ M fl fd HS.out HF.out HL.out HU.out HM.out hfew)
       have HFW := Lib.hid hfew
       clear hfew hql
       go_wp2_with fail
       refine HBL.out.mono ?_
       rintro e w2 (⟨k, b', h1, h2, rfl, h3⟩ | ⟨q2, U2, v2, fl2, fd2, h1, h2, h3, rfl, h4, h5⟩)
       · have K1 : Hid (RS = .err k) := HRS.out.trans (Inf.runs_fin (Inf.bstep_err HFW.out h1))
         have K2 := Lib.hid h2
         have K3 := Lib.hid h3
         have hk0 : (k != 0) = true := by simpa using h2
         clear h1 h2 h3 HBL
         go_wp2
         go_returns
         exact ⟨K3.out, .inl ⟨k, K1.out, K2.out, rfl⟩⟩
       · have K4 := Lib.hid h4
         have K5 := Lib.hid h5
         have K6 := Lib.hid h2
         have K7 : Hid (Inf.pos w2 r = q2) := h4.pos
         have K8 : Hid (q2 ≤ 8 * n) := h4.rd.le
         have K9 := Lib.hid h3
         by_cases hl1 : Inf.num V q 1 = 1
         · have K1 : Hid (RS = .ok q2 U2) := HRS.out.trans (Inf.runs_fin (Inf.bstep_end HFW.out h1 hl1))
           rw [decide_eq_true hl1]
           clear h1 h2 h3 h4 h5 HBL hl1
           go_wp2
           exact ⟨⟨true, q2, U2, v2, fl2, fd2, rfl, K4.out, K5.out, K6.out, .inr ⟨rfl, K1.out⟩⟩, by have := K7.out; have := HPOS.out; have := K8.out; have := K9.out; omega⟩
         · have K1 : Hid (RS = Inf.runs (Inf.bstep V (8 * n) M) q2 U2) := HRS.out.trans (Inf.runs_go (Inf.bstep_go HFW.out h1 hl1))
           rw [decide_eq_false hl1]
           clear h1 h2 h3 h4 h5 HBL hl1
           go_wp2
           exact ⟨⟨false, q2, U2, v2, fl2, fd2, rfl, K4.out, K5.out, K6.out, .inl ⟨rfl, K1.out⟩⟩, by have := K7.out; have := HPOS.out; have := K8.out; have := K9.out; omega⟩
     · have HBL := Lib.hid (block_few w wr g r n V q U _ M fl fd HS.out HL.out (by omega))
       have K1 : Hid (RS = .err 4) := HRS.out.trans (Inf.runs_fin (Inf.bstep_few (by omega)))
       clear hfew hql
       go_wp2_with fail
       refine HBL.out.mono ?_
       rintro e w2 ⟨rfl, h3⟩
       have K3 := Lib.hid h3
       clear h3 HBL
       go_wp2
       go_returns
       exact ⟨K3.out, .inl ⟨4, K1.out, by decide, rfl⟩⟩
   · have HRS := Lib.hid hrs
     have c0 := HS.out.c0
     have HAL := Lib.hid (ralign_any r q n V w.heap.size wr HS.out.rd (by have := HL.out; omega))
     clear hrs hql
     go_wp2_with fail
     refine HAL.out.mono ?_
     rintro e w2 ⟨rfl, h1, h2⟩
     have K1 := Lib.hid (HS.out.go h1 h2).1
     clear h1 h2 HAL c0
     have c0 := K1.out.c0
     have c1 := K1.out.c1
     obtain ⟨u, hu⟩ : ∃ u, u = q + (8 - q % 8) % 8 := ⟨_, rfl⟩
     rw [← hu] at K1
     have HUP : Hid (u / 8 = (q + 7) / 8) := by unfold Hid; omega
     have hu6 : (u : Int) ≤ 8000000 := by have := K1.out.rd.le; have := HL.out; omega
     obtain ⟨u8, hu8⟩ : ∃ u8, u8 = u / 8 := ⟨_, rfl⟩
     have hdiv : (u : Int) / 8 = (u8 : Int) := by omega
     have hdiv2 : Int.tdiv (u : Int) 8 = (u8 : Int) := by rw [Int.tdiv_eq_ediv_of_nonneg (by omega)]; exact hdiv
     have HAT := Lib.hid (fun (wx : World) (h : Drawn w2 wx) => (at_any r u n V w.heap.size wx (K1.out.drawn h).rd).mono fun _ _ ⟨h1, h2⟩ => (⟨h1, h2.symm⟩ : _ ∧ _))
     have HU8 := Lib.hid hu8
     clear hu hu8
     go_wp2_with fail
     go_quiet ((go_at_call 33; exact Calls.quiet_of_same (HAT.out _ ⟨_, rfl⟩)))
     have K2 := Lib.hid (K1.out.drawn ⟨nq, rfl⟩)
     clear K1 c0 c1
     go_wp2
     go_returns
     exact ⟨K2.out.bel, .inr ⟨q, U, .slice av U.length cv, HRS.out, HU.out, by rw [← HUP.out, ← HU8.out]; rfl, K2.out.txt⟩⟩
end Go.Proofs.YtenkkononchgmaaGreatDoor

namespace Go.Proofs.YtenkkononchgmaaGreatDoor
open Go.RowKit Go

theorem Inf.fix_min : ∀ i, i < 288 → 7 ≤ Inf.fixl.getD i 0 := of_decide_eq_true (by kernel_rfl)
theorem Inf.kind1 (V N M p : Nat) (T : List Int) : Inf.block V N M 1 p T = Inf.runs (Inf.cstep Inf.fixl Inf.fixd V N M) p T := by
 show Inf.coded Inf.fixl Inf.fixd V N M p T = _
 rw [Inf.coded, if_pos ⟨Inf.mk_fixl, Inf.mk_fixd⟩]
end Go.Proofs.YtenkkononchgmaaGreatDoor

namespace Go.Proofs.YtenkkononchgmaaGreatDoor

theorem Inf.num_put {Vf V n x k : Nat} (h : Vf % 2 ^ (n + k) = V + x * 2 ^ n) (hV : V < 2 ^ n) (hx : x < 2 ^ k) : Inf.num Vf n k = x := by
 unfold Inf.num
 rw [← Bit.mid Vf n k (n + k) (Nat.le_refl _), h, Nat.add_mul_div_right _ _ (Nat.two_pow_pos _), Nat.div_eq_of_lt hV, Nat.zero_add, Nat.mod_eq_of_lt hx]
theorem Inf.low_of {Vf V V' n n' : Nat} (h : Vf % 2 ^ n' = V') (hn : n ≤ n') (hl : V' % 2 ^ n = V) : Vf % 2 ^ n = V := by
 rw [← hl, ← h, Nat.mod_mod_of_dvd _ (Nat.pow_dvd_pow 2 hn)]
theorem Inf.put_low {V n x : Nat} (hV : V < 2 ^ n) : (V + x * 2 ^ n) % 2 ^ n = V := by
 rw [Nat.add_mul_mod_self_right, Nat.mod_eq_of_lt hV]
theorem Inf.put_lt {V n x k : Nat} (hV : V < 2 ^ n) (hx : x < 2 ^ k) : V + x * 2 ^ n < 2 ^ (n + k) := by
 have h := Nat.mul_le_mul_right (2 ^ n) hx
 rw [Nat.succ_mul] at h
 rw [Nat.pow_add, Nat.mul_comm (2 ^ n)]
 omega
theorem Inf.vl_low {V V' M : Nat} (h : V % 2 ^ M = V' % 2 ^ M) (p : Nat) : ∀ k, p + k ≤ M → Huf.vl V p k = Huf.vl V' p k
 | 0, _ => rfl
 | k + 1, hk => by
   rw [Huf.vl, Huf.vl, Inf.vl_low h p k (by omega)]
   have one : ∀ x : Nat, x / 2 ^ (p + k) % 2 = x % 2 ^ M / 2 ^ (p + k) % 2 := fun x => by
     have := Bit.mid x (p + k) 1 M (by omega)
     rw [Nat.pow_one] at this
     exact this.symm
   rw [one V, one V', h]
theorem Inf.sy_put {l : List Nat} (_hm : Inf.Mk l) {Vf V' N n d i : Nat} (hi : i < l.length) (hd : l.getD i 0 = d) (h0 : 0 < d) (hv : Huf.vl V' n d = Huf.code (Inf.lf l) l.length i) (h : Vf % 2 ^ (n + d) = V' % 2 ^ (n + d)) (hN : n + d ≤ N) : Inf.sy l Vf N n = some (i, n + d) := by
 have hv2 : Huf.vl Vf n d = Huf.code (Inf.lf l) l.length i := (Inf.vl_low h n d (Nat.le_refl _)).trans hv
 have hl : Inf.lf l i = (d : Int) := by simp only [Inf.lf, hd]
 have hit : Huf.Hit (Inf.lf l) l.length Vf n d i := ⟨hi, h0, hl, hv2.symm⟩
 refine Inf.sy_some ⟨hN, hit, fun j hj t => ?_⟩
 refine Huf.no_hit (k := d) (fun j h1 h2 => ?_) j hj t
 rw [← Huf.vl_div Vf n j (d - j), show j + (d - j) = d by omega, hv2]
 obtain ⟨e, he⟩ : ∃ e, d = j + (e + 1) := ⟨d - j - 1, by omega⟩
 have h3 := Huf.fst_far (Huf.cnt (Inf.lf l) l.length) j e
 have h4 : Huf.fst (Huf.cnt (Inf.lf l) l.length) d ≤ Huf.code (Inf.lf l) l.length i := by rw [Huf.code, if_pos (by omega), hl, Int.toNat_natCast]; omega
 rw [Nat.le_div_iff_mul_le (Nat.two_pow_pos _), Nat.mul_comm, show d - j = e + 1 by omega]
 rw [← he] at h3
 omega
structure Inf.Go (x y : List Nat) (n V n' V' : Nat) (T T' : List Int) : Prop where
 le : n ≤ n'
 low : V' % 2 ^ n = V
 lt : V' < 2 ^ n'
 grow : T.length ≤ T'.length
 run : ∀ Vf N M, Vf % 2 ^ n' = V' → n' ≤ N → T'.length ≤ M → Inf.runs (Inf.cstep x y Vf N M) n T = Inf.runs (Inf.cstep x y Vf N M) n' T'
theorem Inf.Go.refl {x y : List Nat} {n V : Nat} (hV : V < 2 ^ n) (T : List Int) : Inf.Go x y n V n V T T :=
 ⟨Nat.le_refl _, Nat.mod_eq_of_lt hV, hV, Nat.le_refl _, fun _ _ _ _ _ _ => rfl⟩
theorem Inf.Go.trans {x y : List Nat} {n V n1 V1 n2 V2 : Nat} {T T1 T2 : List Int} (h : Inf.Go x y n V n1 V1 T T1) (k : Inf.Go x y n1 V1 n2 V2 T1 T2) : Inf.Go x y n V n2 V2 T T2 :=
 ⟨Nat.le_trans h.le k.le, Inf.low_of k.low h.le h.low, k.lt, Nat.le_trans h.grow k.grow, fun Vf N M h1 h2 h3 => (h.run Vf N M (Inf.low_of h1 k.le k.low) (Nat.le_trans k.le h2) (Nat.le_trans k.grow h3)).trans (k.run Vf N M h1 h2 h3)⟩
structure Inf.Sy (l : List Nat) (s n V n' V' : Nat) : Prop where
 le : n' = n + l.getD s 0
 low : V' % 2 ^ n = V
 lt : V' < 2 ^ n'
 run : ∀ Vf N, Vf % 2 ^ n' = V' → n' ≤ N → Inf.sy l Vf N n = some (s, n')
theorem Inf.Sy.of {l : List Nat} (hm : Inf.Mk l) {s d n V V' : Nat} (hs : s < l.length) (hd : l.getD s 0 = d) (h0 : 0 < d) (hv : Huf.vl V' n d = Huf.code (Inf.lf l) l.length s) (low : V' % 2 ^ n = V) (lt : V' < 2 ^ (n + d)) : Inf.Sy l s n V (n + d) V' :=
 ⟨by rw [hd], low, lt, fun Vf N h1 h2 => Inf.sy_put hm hs hd h0 hv (by rw [h1, Nat.mod_eq_of_lt lt]) h2⟩
theorem Inf.Sy.up {l : List Nat} {s n V n' V' : Nat} (h : Inf.Sy l s n V n' V') : n ≤ n' := by rw [h.le]; omega
theorem Inf.Go.lit {x y : List Nat} {c n V n' V' : Nat} (h : Inf.Sy x c n V n' V') (hc : c < 256) (T : List Int) : Inf.Go x y n V n' V' T (T ++ [(c : Int)]) := by
 refine ⟨h.up, h.low, h.lt, by simp, fun Vf N M h1 h2 h3 => ?_⟩
 rw [List.length_append] at h3
 exact Inf.runs_go (Inf.cstep_go (h.run Vf N h1 h2) hc (by simp at h3; omega))
theorem Inf.Go.mat {x y : List Nat} {a b k1 k2 n V n1 V1 n2 V2 n3 V3 n4 V4 : Nat} (h1 : Inf.Sy x (257 + k1) n V n1 V1) (hk1 : k1 < 29) (ha : a < 2 ^ Inf.lxs.getD k1 0) (e2 : n2 = n1 + Inf.lxs.getD k1 0 ∧ V2 = V1 + a * 2 ^ n1) (h3 : Inf.Sy y k2 n2 V2 n3 V3) (hk2 : k2 < 30)
   (hb : b < 2 ^ Inf.dxs.getD k2 0) (e4 : n4 = n3 + Inf.dxs.getD k2 0 ∧ V4 = V3 + b * 2 ^ n3) (T : List Int) (hd : Inf.dbs.getD k2 0 + b ≤ T.length) : Inf.Go x y n V n4 V4 T (Lz.rep T (Inf.dbs.getD k2 0 + b) (Inf.lbs.getD k1 0 + a)) := by
 obtain ⟨rfl, rfl⟩ := e2
 obtain ⟨rfl, rfl⟩ := e4
 have l4 : (V3 + b * 2 ^ n3) % 2 ^ n3 = V3 := Inf.put_low h3.lt
 have l2 : (V1 + a * 2 ^ n1) % 2 ^ n1 = V1 := Inf.put_low h1.lt
 have g1 := h1.up
 have g3 := h3.up
 refine ⟨by omega, ?_, Inf.put_lt h3.lt hb, by rw [Lz.rep_length]; omega, fun Vf N M f1 f2 f3 => ?_⟩
 · exact Inf.low_of (Inf.low_of (Inf.low_of l4 g3 h3.low) (Nat.le_add_right _ _) l2) g1 h1.low
 · have f4 := Inf.low_of f1 (Nat.le_add_right _ _) l4
   have f5 := Inf.low_of f4 g3 h3.low
   have f6 := Inf.low_of f5 (Nat.le_add_right _ _) l2
   have q1 := h1.run Vf N f6 (by omega)
   have q2 := Inf.num_put f5 h1.lt ha
   have q3 := h3.run Vf N f4 (by omega)
   have q4 := Inf.num_put f1 h3.lt hb
   rw [Lz.rep_length] at f3
   refine Inf.runs_go ((Inf.cstep_match q1 (by omega)).trans ?_)
   have e : 257 + k1 - 257 = k1 := by omega
   rw [Inf.mstep_far (by omega) (by rw [e]; omega), e, q2]
   exact Inf.mfar_go q3 hk2 (by omega) (by rw [q4]) hd f3
theorem Inf.Go.fin {x y : List Nat} {n V n1 V1 n2 V2 : Nat} {T T1 : List Int} (h : Inf.Go x y n V n1 V1 T T1) (k : Inf.Sy x 256 n1 V1 n2 V2) (Vf N M : Nat) (f1 : Vf % 2 ^ n2 = V2) (f2 : n2 ≤ N) (f3 : T1.length ≤ M) : Inf.runs (Inf.cstep x y Vf N M) n T = .ok n2 T1 :=
 (h.run Vf N M (Inf.low_of f1 k.up k.low) (Nat.le_trans k.up f2) f3).trans (Inf.runs_fin (Inf.cstep_end (k.run Vf N f1 f2)))
structure Inf.LGo (t : List Nat) (m n V n' V' : Nat) (A A' : List Nat) : Prop where
 le : n ≤ n'
 low : V' % 2 ^ n = V
 lt : V' < 2 ^ n'
 grow : A.length ≤ A'.length
 run : ∀ Vf N, Vf % 2 ^ n' = V' → n' ≤ N → A'.length ≤ m → Inf.runs (Inf.lstep t m Vf N) n A = Inf.runs (Inf.lstep t m Vf N) n' A'
theorem Inf.LGo.refl {t : List Nat} {m n V : Nat} (hV : V < 2 ^ n) (A : List Nat) : Inf.LGo t m n V n V A A :=
 ⟨Nat.le_refl _, Nat.mod_eq_of_lt hV, hV, Nat.le_refl _, fun _ _ _ _ _ => rfl⟩
theorem Inf.LGo.trans {t : List Nat} {m n V n1 V1 n2 V2 : Nat} {A A1 A2 : List Nat} (h : Inf.LGo t m n V n1 V1 A A1) (k : Inf.LGo t m n1 V1 n2 V2 A1 A2) : Inf.LGo t m n V n2 V2 A A2 :=
 ⟨Nat.le_trans h.le k.le, Inf.low_of k.low h.le h.low, k.lt, Nat.le_trans h.grow k.grow, fun Vf N h1 h2 h3 => (h.run Vf N (Inf.low_of h1 k.le k.low) (Nat.le_trans k.le h2) (Nat.le_trans k.grow h3)).trans (k.run Vf N h1 h2 h3)⟩
theorem Inf.LGo.sym {t : List Nat} {m s a n V n1 V1 n2 V2 : Nat} {A : List Nat} (h : Inf.Sy t s n V n1 V1) (ha : a < 2 ^ Inf.lw s) (e2 : n2 = n1 + Inf.lw s ∧ V2 = V1 + a * 2 ^ n1) (h16 : s = 16 → A.length ≠ 0) : Inf.LGo t m n V n2 V2 A (A ++ List.replicate (Inf.lk s + a) (Inf.lv s A)) := by
 obtain ⟨rfl, rfl⟩ := e2
 have l2 : (V1 + a * 2 ^ n1) % 2 ^ n1 = V1 := Inf.put_low h.lt
 have g1 := h.up
 have hk : 1 ≤ Inf.lk s := by unfold Inf.lk; split <;> (try split) <;> (try split) <;> omega
 refine ⟨by omega, Inf.low_of l2 g1 h.low, Inf.put_lt h.lt ha, by simp, fun Vf N f1 f2 f3 => ?_⟩
 have f6 := Inf.low_of f1 (Nat.le_add_right _ _) l2
 have q1 := h.run Vf N f6 (by omega)
 have q2 := Inf.num_put f1 h.lt ha
 rw [List.length_append, List.length_replicate] at f3
 refine Inf.runs_go ?_
 unfold Inf.lstep
 rw [if_neg (by omega), q1]
 dsimp only
 rw [q2, if_neg (by rintro (b | b | b) <;> first | exact h16 b.1 b.2 | omega)]
theorem Inf.LGo.fin {t : List Nat} {m n V n' V' : Nat} {A A' : List Nat} (h : Inf.LGo t m n V n' V' A A') (hm : A'.length = m) (Vf N : Nat) (f1 : Vf % 2 ^ n' = V') (f2 : n' ≤ N) : Inf.runs (Inf.lstep t m Vf N) n A = .ok n' A' := by
 refine (h.run Vf N f1 f2 (by omega)).trans (Inf.runs_fin ?_)
 unfold Inf.lstep
 rw [if_pos (by omega)]
def Inf.ordi : List Nat := [3, 17, 15, 13, 11, 9, 7, 5, 4, 6, 8, 10, 12, 14, 16, 18, 0, 1, 2]
theorem Inf.ord_a : ∀ i, i < 19 → Inf.ordi.getD (Inf.order.getD i 0) 0 = i ∧ Inf.order.getD i 0 < 19 := by decide
theorem Inf.ord_b : ∀ j, j < 19 → Inf.order.getD (Inf.ordi.getD j 0) 0 = j ∧ Inf.ordi.getD j 0 < 19 := by decide
theorem Inf.short_get (V p : Nat) : ∀ c, c ≤ 19 → ∀ j, j < 19 → (Inf.short V p c).getD j 0 = if Inf.ordi.getD j 0 < c then Inf.num V (p + 3 * Inf.ordi.getD j 0) 3 else 0
 | 0, _, j, hj => by
   rw [Inf.short, if_neg (by omega), List.getD_eq_getElem?_getD, List.getElem?_replicate, if_pos hj]; rfl
 | c + 1, hc, j, hj => by
   have ih := Inf.short_get V p c (by omega) j hj
   have ha := Inf.ord_a c (by omega)
   have hb := Inf.ord_b j hj
   rw [Inf.short, List.getD_eq_getElem?_getD, List.getElem?_set, Inf.short_length]
   by_cases e : Inf.order.getD c 0 = j
   · have e2 : Inf.ordi.getD j 0 = c := by rw [← e]; exact ha.1
     rw [if_pos e, if_pos ha.2, if_pos (by omega), e2]; rfl
   · have e2 : Inf.ordi.getD j 0 ≠ c := fun e2 => e (by rw [← e2]; exact hb.1)
     rw [if_neg e, ← List.getD_eq_getElem?_getD, ih]
     by_cases k : Inf.ordi.getD j 0 < c
     · rw [if_pos k, if_pos (by omega)]
     · rw [if_neg k, if_neg (by omega)]
theorem Inf.short_is {V p c : Nat} {S : List Nat} (hc : c ≤ 19) (hS : S.length = 19) (h1 : ∀ i, i < c → Inf.num V (p + 3 * i) 3 = S.getD (Inf.order.getD i 0) 0) (h2 : ∀ i, c ≤ i → i < 19 → S.getD (Inf.order.getD i 0) 0 = 0) : Inf.short V p c = S := by
 refine List.ext_getElem? fun j => ?_
 by_cases hj : j < 19
 · have h3 := Inf.short_get V p c hc j hj
   have hb := Inf.ord_b j hj
   have h4 : (Inf.short V p c).getD j 0 = S.getD j 0 := by
     rw [h3]
     by_cases k : Inf.ordi.getD j 0 < c
     · rw [if_pos k, h1 _ k, hb.1]
     · rw [if_neg k, ← hb.1]
       exact (h2 _ (by omega) hb.2).symm
   rw [List.getD_eq_getElem?_getD, List.getD_eq_getElem?_getD, List.getElem?_eq_getElem (by rw [Inf.short_length]; exact hj), List.getElem?_eq_getElem (by omega)] at h4
   rw [List.getElem?_eq_getElem (by rw [Inf.short_length]; exact hj), List.getElem?_eq_getElem (by omega)]
   exact congrArg some h4
 · rw [List.getElem?_eq_none (by rw [Inf.short_length]; omega), List.getElem?_eq_none (by omega)]
end Go.Proofs.YtenkkononchgmaaGreatDoor

/- Blocks that are written are read. No program is named here. -/
namespace Go.Proofs.YtenkkononchgmaaGreatDoor

structure Inf.Bys (q V q' V' : Nat) (B : List Int) : Prop where
 le : q' = q + 8 * B.length
 low : V' % 2 ^ q = V
 lt : V' < 2 ^ q'
 run : ∀ Vf, Vf % 2 ^ q' = V' → Inf.byts Vf q B.length = B
theorem Inf.Bys.nil {q V : Nat} (hV : V < 2 ^ q) : Inf.Bys q V q V [] := ⟨by simp, Nat.mod_eq_of_lt hV, hV, fun _ _ => rfl⟩
theorem Inf.Bys.snoc {q V q' V' : Nat} {B : List Int} (h : Inf.Bys q V q' V' B) (x : Nat) (hx : x < 256) : Inf.Bys q V (q' + 8) (V' + x * 2 ^ q') (B ++ [(x : Int)]) := by
 have l := Inf.put_low (x := x) h.lt
 have e := h.le
 refine ⟨by rw [List.length_append]; simp; omega, Inf.low_of l (by omega) h.low, Inf.put_lt h.lt hx, fun Vf f => ?_⟩
 rw [List.length_append, show [(x : Int)].length = 1 from rfl, Inf.byts_succ, h.run Vf (Inf.low_of f (Nat.le_add_right _ _) l), ← e, Inf.num_put f h.lt hx]
structure Inf.Blk (last n V n' V' : Nat) (T T' : List Int) : Prop where
 le : n ≤ n'
 low : V' % 2 ^ n = V
 lt : V' < 2 ^ n'
 grow : T.length ≤ T'.length
 run : ∀ Vf N M, Vf % 2 ^ n' = V' → n' ≤ N → T'.length ≤ M → Inf.bstep Vf N M n T = if last = 1 then .fin (.ok n' T') else .go n' T'
theorem Inf.Blk.of {last kind n V n' V' : Nat} {T T' : List Int} (hV : V < 2 ^ n) (hl : last < 2) (hk : kind < 4) (le : n + 3 ≤ n') (low : V' % 2 ^ (n + 3) = V + last * 2 ^ n + kind * 2 ^ (n + 1)) (lt : V' < 2 ^ n') (grow : T.length ≤ T'.length)
   (run : ∀ Vf N M, Vf % 2 ^ n' = V' → n' ≤ N → T'.length ≤ M → Inf.block Vf N M kind (n + 3) T = .ok n' T') : Inf.Blk last n V n' V' T T' := by
 have h1 : V + last * 2 ^ n < 2 ^ (n + 1) := Inf.put_lt hV hl
 have l2 := Inf.put_low (x := kind) h1
 have l1 := Inf.put_low (x := last) hV
 refine ⟨by omega, Inf.low_of (Inf.low_of low (by omega) l2) (Nat.le_add_right _ _) l1, lt, grow, fun Vf N M f1 f2 f3 => ?_⟩
 have q3 := Inf.low_of f1 le low
 have q1 := Inf.low_of q3 (by omega) l2
 have e1 : Inf.num Vf n 1 = last := Inf.num_put q1 hV hl
 have e2 : Inf.num Vf (n + 1) 2 = kind := Inf.num_put q3 h1 hk
 have hb : Inf.block Vf N M (Inf.num Vf (n + 1) 2) (n + 3) T = .ok n' T' := by rw [e2]; exact run Vf N M f1 f2 f3
 by_cases c : last = 1
 · rw [if_pos c]; exact Inf.bstep_end (by omega) hb (by rw [e1]; exact c)
 · rw [if_neg c]; exact Inf.bstep_go (by omega) hb (by rw [e1]; exact c)
theorem Inf.le_up (p : Nat) : p ≤ Inf.up p := by unfold Inf.up; omega
theorem Inf.stored_put {T B : List Int} {p V q' V' : Nat} (hV : V < 2 ^ p) (hB : B.length < 65536) (h : Inf.Bys (Inf.up p + 32) (V + B.length * 2 ^ Inf.up p + (65535 - B.length) * 2 ^ (Inf.up p + 16)) q' V' B) :
   V' % 2 ^ p = V ∧ ∀ Vf N M, Vf % 2 ^ q' = V' → q' ≤ N → (T ++ B).length ≤ M → Inf.block Vf N M 0 p T = .ok q' (T ++ B) := by
 have hu := Inf.le_up p
 have hV0 : V < 2 ^ Inf.up p := Nat.lt_of_lt_of_le hV (Nat.pow_le_pow_right (by omega) hu)
 have h1 : V + B.length * 2 ^ Inf.up p < 2 ^ (Inf.up p + 16) := Inf.put_lt hV0 hB
 have l1 := Inf.put_low (x := B.length) hV0
 have l2 := Inf.put_low (x := 65535 - B.length) h1
 have e := h.le
 refine ⟨Inf.low_of (Inf.low_of (Inf.low_of h.low (by omega) l2) (Nat.le_add_right _ _) l1) hu (Nat.mod_eq_of_lt hV), fun Vf N M f1 f2 f3 => ?_⟩
 have q2 := Inf.low_of f1 (by omega) h.low
 have q1 := Inf.low_of q2 (by omega) l2
 have e1 : Inf.num Vf (Inf.up p) 16 = B.length := Inf.num_put q1 hV0 hB
 have e2 : Inf.num Vf (Inf.up p + 16) 16 = 65535 - B.length := Inf.num_put q2 h1 (by have : (2 : Nat) ^ 16 = 65536 := rfl; omega)
 have e3 := h.run Vf f1
 rw [List.length_append] at f3
 show Inf.stored Vf N M p T = _
 unfold Inf.stored
 rw [e1, e2, if_pos ⟨by omega, by omega, by omega⟩, if_neg (by omega), e3, ← e]
structure Inf.Sho (S : List Nat) (i p V q V' : Nat) : Prop where
 le : q = p + 3 * i
 low : V' % 2 ^ p = V
 lt : V' < 2 ^ q
 run : ∀ Vf, Vf % 2 ^ q = V' → ∀ j, j < i → Inf.num Vf (p + 3 * j) 3 = S.getD (Inf.order.getD j 0) 0
theorem Inf.Sho.nil {S : List Nat} {p V : Nat} (hV : V < 2 ^ p) : Inf.Sho S 0 p V p V := ⟨by omega, Nat.mod_eq_of_lt hV, hV, fun _ _ j h => by omega⟩
theorem Inf.Sho.snoc {S : List Nat} {i p V q V' : Nat} (h : Inf.Sho S i p V q V') {x : Nat} (hx : x < 8) (e : x = S.getD (Inf.order.getD i 0) 0) : Inf.Sho S (i + 1) p V (q + 3) (V' + x * 2 ^ q) := by
 have l := Inf.put_low (x := x) h.lt
 have el := h.le
 refine ⟨by omega, Inf.low_of l (by omega) h.low, Inf.put_lt h.lt hx, fun Vf f j hj => ?_⟩
 rcases Nat.lt_or_ge j i with c | c
 · exact h.run Vf (Inf.low_of f (Nat.le_add_right _ _) l) j c
 · obtain rfl : j = i := by omega
   rw [← el, Inf.num_put f h.lt hx, e]
theorem Inf.dyn_put {p V hl hd hc q4 V4 q5 V5 n1 V1 n2 V2 : Nat} {S A : List Nat} {T T1 : List Int} (hV : V < 2 ^ p) (h1 : hl ≤ 29) (h2 : hd ≤ 29) (h3 : hc ≤ 15) (hS : S.length = 19) (hm : Inf.Mk S)
   (hs : Inf.Sho S (4 + hc) (p + 14) (V + hl * 2 ^ p + hd * 2 ^ (p + 5) + hc * 2 ^ (p + 10)) q4 V4) (hz : ∀ i, 4 + hc ≤ i → i < 19 → S.getD (Inf.order.getD i 0) 0 = 0)
   (hA : Inf.LGo S (257 + hl + (1 + hd)) q4 V4 q5 V5 [] A) (hAl : A.length = 257 + hl + (1 + hd)) (h256 : A.getD 256 0 ≠ 0) (hx : Inf.Mk (A.take (257 + hl))) (hy : Inf.Mk (A.drop (257 + hl)))
   (hg : Inf.Go (A.take (257 + hl)) (A.drop (257 + hl)) q5 V5 n1 V1 T T1) (he : Inf.Sy (A.take (257 + hl)) 256 n1 V1 n2 V2) :
   V2 % 2 ^ p = V ∧ p ≤ n2 ∧ ∀ Vf N M, Vf % 2 ^ n2 = V2 → n2 ≤ N → T1.length ≤ M → Inf.block Vf N M 2 p T = .ok n2 T1 := by
 have g1 : V + hl * 2 ^ p < 2 ^ (p + 5) := Inf.put_lt hV (by have : (2 : Nat) ^ 5 = 32 := rfl; omega)
 have g2 : V + hl * 2 ^ p + hd * 2 ^ (p + 5) < 2 ^ (p + 10) := Inf.put_lt (k := 5) g1 (by have : (2 : Nat) ^ 5 = 32 := rfl; omega)
 have l1 := Inf.put_low (x := hl) hV
 have l2 := Inf.put_low (x := hd) g1
 have l3 := Inf.put_low (x := hc) g2
 have e4 := hs.le
 have u5 := hA.le
 have u1 := hg.le
 have u2 := he.up
 have key : ∀ Vf, Vf % 2 ^ n2 = V2 → Vf % 2 ^ p = V ∧ Inf.num Vf p 5 = hl ∧ Inf.num Vf (p + 5) 5 = hd ∧ Inf.num Vf (p + 10) 4 = hc ∧ Vf % 2 ^ q4 = V4 ∧ Vf % 2 ^ q5 = V5 := fun Vf f => by
   have f1 := Inf.low_of f u2 he.low
   have f5 := Inf.low_of f1 u1 hg.low
   have f4 := Inf.low_of f5 u5 hA.low
   have f3 := Inf.low_of f4 (by omega) hs.low
   have f2 := Inf.low_of f3 (by omega) l3
   have f0 := Inf.low_of f2 (by omega) l2
   exact ⟨Inf.low_of f0 (by omega) l1, Inf.num_put f0 hV (by have : (2 : Nat) ^ 5 = 32 := rfl; omega), Inf.num_put f2 g1 (by have : (2 : Nat) ^ 5 = 32 := rfl; omega), Inf.num_put f3 g2 (by have : (2 : Nat) ^ 4 = 16 := rfl; omega), f4, f5⟩
 refine ⟨(key V2 (Nat.mod_eq_of_lt he.lt)).1, by omega, fun Vf N M f1 f2 f3 => ?_⟩
 obtain ⟨_, k1, k2, k3, k4, k5⟩ := key Vf f1
 have hsh : Inf.short Vf (p + 14) (4 + hc) = S := Inf.short_is (by omega) hS (hs.run Vf k4) hz
 have hln := hA.fin hAl Vf N k5 (by omega)
 have hcd := hg.fin he Vf N M f1 f2 f3
 show Inf.dynamic Vf N M p T = _
 unfold Inf.dynamic
 rw [k1, k2, k3, if_neg (by omega), hsh, if_neg (fun h => h hm), ← e4, hln]
 dsimp only
 rw [if_neg h256, Inf.coded, if_pos ⟨hx, hy⟩]
 exact hcd
structure Inf.Str (n V : Nat) (T : List Int) : Prop where
 lt : V < 2 ^ n
 run : ∀ Vf N M, Vf % 2 ^ n = V → n ≤ N → T.length ≤ M → Inf.inflate Vf N M = Inf.runs (Inf.bstep Vf N M) n T
theorem Inf.Str.nil : Inf.Str 0 0 [] := ⟨by decide, fun _ _ _ _ _ _ => rfl⟩
theorem Inf.Str.go {last n V n' V' : Nat} {T T' : List Int} (h : Inf.Str n V T) (k : Inf.Blk last n V n' V' T T') (hl : ¬ last = 1) : Inf.Str n' V' T' :=
 ⟨k.lt, fun Vf N M f1 f2 f3 => by
   rw [h.run Vf N M (Inf.low_of f1 k.le k.low) (Nat.le_trans k.le f2) (Nat.le_trans k.grow f3)]
   refine Inf.runs_go ?_
   rw [k.run Vf N M f1 f2 f3, if_neg hl]⟩
theorem Inf.Str.fin {last n V n' V' : Nat} {T T' : List Int} (h : Inf.Str n V T) (k : Inf.Blk last n V n' V' T T') (hl : last = 1) (Vf N M : Nat) (f1 : Vf % 2 ^ n' = V') (f2 : n' ≤ N) (f3 : T'.length ≤ M) : Inf.inflate Vf N M = .ok n' T' := by
 rw [h.run Vf N M (Inf.low_of f1 k.le k.low) (Nat.le_trans k.le f2) (Nat.le_trans k.grow f3)]
 refine Inf.runs_fin ?_
 rw [k.run Vf N M f1 f2 f3, if_pos hl]
end Go.Proofs.YtenkkononchgmaaGreatDoor
