/- Laid together: DfSyms. -/
import Derived.Test.YtenkkononchgmaaGreatDoorDkB29
import Derived.Test.YtenkkononchgmaaGreatDoorDkB30

namespace Go.Proofs.YtenkkononchgmaaGreatDoor
open Go.RowKit Go
open Lz (Pc)

theorem step_append_syms (w : World) {ops : Array Oper} {o : Oper} {a : Act} {K : Act → World → Prop} {Q : Exit → Act → World → Prop} {E : Prop} (hgd : o.guard = none) (s x : Operand)
   (ho : o.op = .call { callee := .builtin .append, args := #[s, x], argTypes := #[40, 40] })
   (base : Nat) (v : Value) (n : Nat) (xs : List Value) (hs : a.eval s = v) (hown : w.ownsRow base 95 3 v n xs)
   (g m : Nat) (l : List Inf.Sm) (hx : a.eval x = .slice (some ⟨g, 0, none⟩) m m) (hm : m = l.length) (hg : w.heap[g]? = some (.cells (spk l).toArray 95 (0, 0))) (h63 : n + m ≤ 1000000) (hbase : base ≤ w.heap.size)
   (h : ∀ v' w', Hid (w'.ownsRow base 95 3 v' (n + m) (xs ++ spk l)) → Hid (w.grownBy w' v.ownBlock) → K (a.put o.dst v') w') :
   if Region.wanted o (yielded ops a.tmps) = true then Oper.wp Tryz.prog o a w K Q else E := by
 have hw : Region.wanted o (yielded ops a.tmps) = true := by simp [Region.wanted, hgd]
 rw [if_pos hw]
 obtain ⟨i0, hi, hz0, hz1, hz2⟩ := info_parts infoSm
 obtain ⟨v', w', hr, h2, h3, _, _⟩ := run_append_own_at (P := Tryz.prog) w base 40 o.type 95 i0 _ 3 24 (by kernel_rfl) hi hz0 hz1 hz2 rfl (by decide) v n xs hown ⟨g, 0, none⟩ m m (spk l) (by rw [spk_length, hm]) (World.news_of_block (cs := (spk l).toArray) hg) (spk_one l) (by simp only [maxLen]; omega) (by omega) hbase
 unfold Oper.wp execOp
 simp only [ho, resolve, invoke, builtin, Sem.run_bind, Sem.run_pure, Result.andThen_ok, List.map_toArray, List.map_cons, List.map_nil, hs, hx, hr]
 exact h v' w' h2 h3
theorem run_syms (m : Nat) (hm : m ≤ 1000000) (w : World) : ∃ Z : Array Value, (Instr.makeSlice 40 (.int .i64 0) (.int .i64 (m : Int))).run Tryz.prog w = .ok (.slice (some ⟨w.heap.size, 0, none⟩) 0 m) (w.alloc (.cells Z 95)) ∧ SyS w (w.alloc (.cells Z 95)) (.slice (some ⟨w.heap.size, 0, none⟩) 0 m) [] := by
 obtain ⟨i0, hi, hz0, hz1, hz2⟩ := info_parts infoSm
 have := run_make (P := Tryz.prog) w 40 95 i0 _ (by kernel_rfl) hi hz0 .i64 .i64 0 (m : Int) (by omega) (by omega) (by rw [hz2]; omega) (by omega)
 rw [show (m : Int).toNat = m by omega, hz1] at this
 refine ⟨_, this, (Below.refl _ _).alloc (Nat.le_refl _) _, rfl, .inr ⟨w.heap.size, m, _, rfl, Nat.le_refl _, heap_alloc_new w _, Nat.zero_le _, by simp only [maxLen]; omega, size_madeCells _ _, by simp [spk]⟩⟩
theorem Inf.spl_lst {T : List Nat} {x i m : Nat} (h : Inf.Spl T x (i + 1)) (hm : T.length = m) (h0 : T.getD 0 0 ≤ x) : i = Inf.lst T x m := by
 have hm0 : 0 < m := by have := h.1; omega
 obtain ⟨q1, q2⟩ := Inf.lst_spec T x h0 m hm0
 have ql := Inf.lst_lt T x m hm0
 rcases Nat.lt_trichotomy i (Inf.lst T x m) with c | c | c
 · have := h.2.2 (Inf.lst T x m) (by omega) (by omega); omega
 · exact c
 · have := h.2.1 i (by omega)
   have := q2 i c (by have := h.1; omega)
   omega
structure Sq (w wx : World) (B : Nat) (x y z : Value) : Prop where
 bel : Below w.heap.size w wx
 row : wx.heap[B]? = some (.cells #[x, y, z] 93 (0, 0))
theorem Sq.call {w wx w' : World} {B : Nat} {x y z : Value} (h : Sq w wx B x y z) (hb : Below wx.heap.size wx w') : Sq w w' B x y z := ⟨h.bel.trans (hb.mono h.bel.size), (hb.block _ (Inf.lt_some h.row)).trans h.row⟩
theorem Sq.drew {w wx : World} {B : Nat} {x y z : Value} (h : Sq w wx B x y z) : Sq w wx.drew B x y z := h.call (Below.refl _ _).drew
theorem Sq.alloc {w wx : World} {B : Nat} {x y z : Value} (h : Sq w wx B x y z) (o : Obj) : Sq w (wx.alloc o) B x y z := h.call ((Below.refl _ _).alloc (Nat.le_refl _) _)
theorem Sq.s {w wx : World} {B : Nat} {x y z : Value} (h : Sq w wx B x y z) : wx.cell? ⟨B, 1, none⟩ = some y ∧ wx.cell? ⟨B, 2, none⟩ = some z ∧ Sq w wx B x y z := ⟨(cell_of_row _ _ _ _ _ _ h.row).trans rfl, (cell_of_row _ _ _ _ _ _ h.row).trans rfl, h⟩
theorem SqS.q {w wx : World} {B : Nat} {x y z : Value} (h : wx.cell? ⟨B, 1, none⟩ = some y ∧ wx.cell? ⟨B, 2, none⟩ = some z ∧ Sq w wx B x y z) : Sq w wx B x y z := h.2.2
theorem SyS.dr {w0 w : World} {v : Value} {L : List Inf.Sm} (h : SyS w0 w v L) : SyS w0 w.drew v L := h.later (Below.refl _ _).drew
theorem SyS.al {w0 w : World} {v : Value} {L : List Inf.Sm} (h : SyS w0 w v L) (o : Obj) : SyS w0 (w.alloc o) v L := h.later ((Below.refl _ _).alloc (Nat.le_refl _) _)

set_option maxRecDepth 100000 in
set_option maxHeartbeats 8000000 in
theorem dsymbols_any (L : List Pc) (a : Option Addr) (n cap : Nat) (w : World) (hn : n = L.length) (hn6 : n ≤ 100000) (hP : PcsIn w (.slice a n cap) L (fun _ => True)) (hok : PcOk L) (hT : DTabs w) :
   Calls Tryz.prog 19 #[.slice a n cap] w fun e w' => ∃ v, e = .returned v ∧ SyS w w' v (Inf.txs L) := by
 obtain ⟨m, hm⟩ : ∃ m, m = 2 * n + 1 := ⟨_, rfl⟩
 obtain ⟨n2, hn2⟩ : ∃ n2, n2 = 2 * n := ⟨_, rfl⟩
 have hmI : (n2 : Int) + 1 = (m : Int) := by omega
 have hn2I : 2 * (n : Int) = (n2 : Int) := by omega
 have hm6 : (m : Int) ≤ 1000000 := by omega
 obtain ⟨Z, hmk, hs0⟩ := run_syms m (by omega) w
 have HS0 := Lib.hid hs0
 have HN := Lib.hid hn
 have HN6 := Lib.hid hn6
 have HP := Lib.hid hP
 have HOK := Lib.hid hok
 have HT := Lib.hid hT
 have hnI : (n : Int) ≤ 100000 := by omega
 clear hn hn6 hP hok hT hs0 hm hn2
 go_enter Tryz.func19, Tryz.ntmps19
 go_wp2_with fail
 generalize w.alloc (.cells Z 95) = wa at *
 obtain ⟨G0, hG0⟩ : ∃ G, G = w.heap.size := ⟨_, rfl⟩
 rw [← hG0] at HS0 ⊢
 clear hG0 hmk
 go_loopw [3, 13] (fun v3 v13 wr => ∃ (i z : Nat) (K : List Inf.Sm) (ad : Option Addr) (cp : Nat), i ≤ n ∧ v13 = .int .i64 (i : Int) ∧ v3 = .slice ad z cp ∧ z = K.length ∧ K = Inf.psys (L.take i) ∧ SyS w wr (.slice ad z cp) K) (fun _ v13 _ => (n - intOf v13).toNat)
 case atStart => exact ⟨0, 0, [], _, _, by omega, rfl, rfl, rfl, rfl, HS0.out⟩
 case round =>
   clear HS0
   obtain ⟨i, z, K, ad, cp, hi, rfl, rfl, hz, hk, hs⟩ := hrel
   have HS := Lib.hid hs
   have HZ := Lib.hid hz
   have HK := Lib.hid hk
   have HZ6 : Hid (z + 2 ≤ 1000000) := by
     have h1 := Inf.psys_len (L.take i)
     rw [List.length_take] at h1
     unfold Hid
     rw [hz, hk]; omega
   clear hs hz hk
   by_cases hlt : i < n
   · have d1 : decide (i < n) = true := decide_eq_true hlt
     have d1' : decide ((i : Int) < (n : Int)) = true := decide_eq_true (by omega)
     have HI : Hid (i < n) := hlt
     have hiI : (i : Int) < (n : Int) := by omega
     have hil : i < L.length := by rw [← HN.out]; exact hlt
     obtain ⟨p, hp⟩ : ∃ p, L[i]? = some p := ⟨_, List.getElem?_eq_getElem hil⟩
     have hpm := HOK.out p (List.mem_of_getElem? hp)
     have HTK : Hid (Inf.psys (L.take (i + 1)) = K ++ Inf.psy p) := by
       unfold Hid
       rw [List.take_add_one, hp, Inf.psys_app, HK.out]
       show _ ++ (Inf.psy p ++ []) = _
       rw [List.append_nil]
     obtain ⟨s, o, rfl, -, -, q1, q2, q3⟩ := (HP.out.later HS.out.bel).at_ hp
     have HLO : Hid (w.heap.size ≤ wr.heap.size) := HS.out.bel.size
     have HSB : Hid (∀ ob, SyS w (wr.alloc ob) (.slice ad z cp) K) := fun ob => HS.out.al ob
     clear hi hlt hil hp
     rcases hpm with ⟨⟨hn0, hd0⟩, hc0, hc1⟩ | ⟨hc0, hn3, hn258, hd1, hd2⟩
     · obtain ⟨c, hc⟩ : ∃ c : Nat, p.c = (c : Int) := ⟨p.c.toNat, by omega⟩
       have HPS : Hid (Inf.psy p = [⟨c, 0, 0⟩]) := by unfold Hid Inf.psy; rw [if_pos hn0, hc]; rfl
       rw [hc] at q1
       rw [hn0] at q2
       rw [hd0] at q3
       have hcI : (c : Int) < 256 := by omega
       have hwc : IntKind.i64.wrap (c : Int) = (c : Int) := IntWalk.i64_in _ (by omega)
       obtain ⟨z1, hz1⟩ : ∃ z1, z1 = z + 1 := ⟨_, rfl⟩
       have HZ1 := Lib.hid hz1
       have HNT : Hid (∀ v' w9 o, w9.ownsRow w.heap.size 95 3 v' (z + 1) (spk K ++ spk [⟨c, 0, 0⟩]) → (World.alloc (wr.alloc (.cells #[.int .u8 (c : Nat), .int .i64 0, .int .i64 0] 93)) o).grownBy w9 (Value.slice ad z cp).ownBlock → SyS w w9 v' (K ++ [⟨c, 0, 0⟩]) ∧ ∃ p q, v' = .slice p z1 q) := by
         intro v' w9 o h1 h2
         rw [HZ.out] at h1
         have h3 := (HSB.out _).snoc ((Below.refl _ _).alloc (Nat.le_refl _) o) (R := [⟨c, 0, 0⟩]) h1 h2
         obtain ⟨p, q, e⟩ := h3.form
         exact ⟨h3, p, q, by rw [e, List.length_append, List.length_singleton, HZ1.out, HZ.out]⟩
       have HOW : Hid (World.ownsRow (wr.alloc (.cells #[.int .u8 (c : Nat), .int .i64 0, .int .i64 0] 93)) w.heap.size 95 3 (.slice ad z cp) z (spk K)) := by have := (HSB.out (.cells #[.int .u8 (c : Nat), .int .i64 0, .int .i64 0] 93)).own; rw [← HZ.out] at this; exact this
       have HONE : Hid (SmsIn (World.alloc (wr.alloc (.cells #[.int .u8 (c : Nat), .int .i64 0, .int .i64 0] 93)) (.cells #[.int .i64 (c : Nat), .int .i64 0, .int .i64 0] 95)) (.slice (some ⟨wr.heap.size + 1, 0, none⟩) 1 1) [⟨c, 0, 0⟩] (fun s => s = wr.heap.size + 1)) := by have := one_sym (wr.alloc (.cells #[.int .u8 (c : Nat), .int .i64 0, .int .i64 0] 93)) ⟨c, 0, 0⟩; simp only [World.size_alloc] at this; exact this
       have hz6 : z + 1 ≤ 1099511627776 := by have := HZ6.out; omega
       clear hn0 hd0 hc0 hc1 hc hz1 HS
       go_wp2_with (first | (at_builtin; refine wpList_append_syms rfl (.tmp 20) (.tmp 25) rfl w.heap.size _ z (spk K) rfl (HOW.out.alloc _) _ [⟨c, 0, 0⟩] _ (by rfl) HONE.out (by intro n c e; cases e) hz6 (by have := HLO.out; simp; omega) ?_; intro v9 w9 o9 g9; obtain ⟨q9, ad9, c9, rfl⟩ := HNT.out v9 w9 _ o9.out g9.out; have HP9 := Lib.hid q9; clear o9 g9 q9))
       exact ⟨⟨i + 1, z1, _, ad9, c9, by have := HI.out; omega, by go_num, rfl, by rw [HZ1.out, HZ.out, List.length_append, List.length_singleton], by rw [HTK.out, HPS.out], HP9.out⟩, by have := HI.out; simp [intOf]; omega⟩
     · obtain ⟨pn, hpn⟩ : ∃ pn : Nat, p.n = (pn : Int) := ⟨p.n.toNat, by omega⟩
       obtain ⟨pd, hpd⟩ : ∃ pd : Nat, p.d = (pd : Int) := ⟨p.d.toNat, by omega⟩
       obtain ⟨k1, hk1⟩ : ∃ k1, k1 = Inf.lst Inf.lbs pn 29 := ⟨_, rfl⟩
       obtain ⟨k2, hk2⟩ : ∃ k2, k2 = Inf.lst Inf.dbs pd 30 := ⟨_, rfl⟩
       obtain ⟨j1, hj1⟩ : ∃ j, j = 257 + k1 := ⟨_, rfl⟩
       obtain ⟨j2, hj2⟩ : ∃ j, j = 288 + k2 := ⟨_, rfl⟩
       obtain ⟨x1, hx1⟩ : ∃ x, x = pn - Inf.lbs.getD k1 0 := ⟨_, rfl⟩
       obtain ⟨x2, hx2⟩ : ∃ x, x = pd - Inf.dbs.getD k2 0 := ⟨_, rfl⟩
       obtain ⟨e1, he1⟩ : ∃ x, x = Inf.lxs.getD k1 0 := ⟨_, rfl⟩
       obtain ⟨e2, he2⟩ : ∃ x, x = Inf.dxs.getD k2 0 := ⟨_, rfl⟩
       have HPS : Hid (Inf.psy p = [⟨j1, x1, e1⟩, ⟨j2, x2, e2⟩]) := by
         unfold Hid Inf.psy
         rw [if_neg (by omega), hpn, hpd, Int.toNat_natCast, Int.toNat_natCast, ← hk1, ← hk2, hj1, hj2, hx1, hx2, he1, he2]
       rw [hc0] at q1
       rw [hpn] at q2
       rw [hpd] at q3
       have HLEN : Hid (∀ wx, Sq w wx wr.heap.size (.int .u8 0) (.int .i64 (pn : Nat)) (.int .i64 (pd : Nat)) → Calls Tryz.prog 35 #[.int .i64 (pn : Int)] wx fun e w' => e = .returned (.agg #[.int .i64 (j1 : Nat), .int .i64 (x1 : Nat), .int .i64 (e1 : Nat)]) ∧ Below wx.heap.size wx w' ∧ (w'.cell? ⟨wr.heap.size, 1, none⟩ = some (.int .i64 (pn : Nat)) ∧ w'.cell? ⟨wr.heap.size, 2, none⟩ = some (.int .i64 (pd : Nat)) ∧ Sq w w' wr.heap.size (.int .u8 0) (.int .i64 (pn : Nat)) (.int .i64 (pd : Nat)))) := fun wx hx => by
         refine (dlength_any pn (by omega) (by omega) wx (HT.out.later hx.bel (Nat.le_refl _))).mono ?_
         rintro e w' ⟨i', h1, rfl, h2⟩
         have ei := Inf.spl_lst (m := 29) h1 rfl (by show 3 ≤ pn; omega)
         rw [← hk1] at ei
         subst ei
         refine ⟨?_, h2, (hx.call h2).s⟩
         rw [hj1, hx1, he1]
       have HDIS : Hid (∀ wx, Sq w wx wr.heap.size (.int .u8 0) (.int .i64 (pn : Nat)) (.int .i64 (pd : Nat)) → Calls Tryz.prog 36 #[.int .i64 (pd : Int)] wx fun e w' => e = .returned (.agg #[.int .i64 (j2 : Nat), .int .i64 (x2 : Nat), .int .i64 (e2 : Nat)]) ∧ Below wx.heap.size wx w' ∧ (w'.cell? ⟨wr.heap.size, 1, none⟩ = some (.int .i64 (pn : Nat)) ∧ w'.cell? ⟨wr.heap.size, 2, none⟩ = some (.int .i64 (pd : Nat)) ∧ Sq w w' wr.heap.size (.int .u8 0) (.int .i64 (pn : Nat)) (.int .i64 (pd : Nat)))) := fun wx hx => by
         refine (ddistance_any pd (by omega) (by omega) wx (HT.out.later hx.bel (Nat.le_refl _))).mono ?_
         rintro e w' ⟨i', h1, rfl, h2⟩
         have ei := Inf.spl_lst (m := 30) h1 rfl (by show 1 ≤ pd; omega)
         rw [← hk2] at ei
         subst ei
         refine ⟨?_, h2, (hx.call h2).s⟩
         rw [hj2, hx2, he2]
       have hq := HSB.out (.cells #[.int .u8 0, .int .i64 (pn : Nat), .int .i64 (pd : Nat)] 93)
       have hS0 : Sq w (wr.alloc (.cells #[.int .u8 0, .int .i64 (pn : Nat), .int .i64 (pd : Nat)] 93)) wr.heap.size (.int .u8 0) (.int .i64 (pn : Nat)) (.int .i64 (pd : Nat)) := ⟨hq.bel, heap_alloc_new _ _⟩
       have e0 : ((pn : Int) == 0) = false := by simp; omega
       obtain ⟨z2, hz2⟩ : ∃ z2, z2 = z + 2 := ⟨_, rfl⟩
       have HZ2 := Lib.hid hz2
       have HNT : Hid (∀ v' w7 w9 o, SyS w w7 (.slice ad z cp) K → Sq w w7 wr.heap.size (.int .u8 0) (.int .i64 (pn : Nat)) (.int .i64 (pd : Nat)) → w9.ownsRow w.heap.size 95 3 v' (z + 2) (spk K ++ spk [⟨j1, x1, e1⟩, ⟨j2, x2, e2⟩]) → (World.alloc w7 o).grownBy w9 (Value.slice ad z cp).ownBlock → SyS w w9 v' (K ++ [⟨j1, x1, e1⟩, ⟨j2, x2, e2⟩]) ∧ (w9.cell? ⟨wr.heap.size, 1, none⟩ = some (.int .i64 (pn : Nat)) ∧ w9.cell? ⟨wr.heap.size, 2, none⟩ = some (.int .i64 (pd : Nat)) ∧ Sq w w9 wr.heap.size (.int .u8 0) (.int .i64 (pn : Nat)) (.int .i64 (pd : Nat))) ∧ ∃ p q, v' = .slice p z2 q) := by
         intro v' w7 w9 o h0 hx h1 h2
         rw [HZ.out] at h1
         have h3 := h0.snoc ((Below.refl _ _).alloc (Nat.le_refl _) o) (R := [⟨j1, x1, e1⟩, ⟨j2, x2, e2⟩]) h1 h2
         obtain ⟨p, q, e⟩ := h3.form
         refine ⟨h3, Sq.s ⟨h3.bel, ?_⟩, p, q, by rw [e, List.length_append, HZ2.out, HZ.out]; rfl⟩
         have hlt := Inf.lt_some hx.row
         refine (h2.block _ (by simp; omega) (fun e => ?_)).trans ((heap_alloc_old w7 o hlt).trans hx.row)
         obtain ⟨_, cur, hc⟩ := Inf.own_type h0.own e.symm
         exact Inf.ne_ty hx.row hc (by decide) rfl
       clear hc0 hn3 hn258 hd1 hd2 hpn hpd hk1 hk2 hj1 hj2 hx1 hx2 he1 he2 HS hz2
       go_wp2_with fail
       clear q1 q2 q3 e0
       generalize wr.alloc (.cells #[.int .u8 0, .int .i64 (pn : Nat), .int .i64 (pd : Nat)] 93) = wb at *
       generalize wr.heap.size = B at *
       have hS1 := hS0.s
       clear hS0
       go_region_held3 (fun wx => wx.cell? ⟨B, 1, none⟩ = some (.int .i64 (pn : Nat)) ∧ wx.cell? ⟨B, 2, none⟩ = some (.int .i64 (pd : Nat)) ∧ Sq w wx B (.int .u8 0) (.int .i64 (pn : Nat)) (.int .i64 (pd : Nat))) (first | assumption | exact (SqS.q (by assumption)).drew.s | exact ((SqS.q (by assumption)).alloc _).s | exact ((SqS.q (by assumption)).drew.alloc _).s | exact ((SqS.q (by assumption)).alloc _).drew.s) (first | (refine step_append_syms _ (by rfl) (.tmp 27) (.tmp 34) (by rfl) w.heap.size (.slice ad z cp) z (spk K) (by rfl) (by have := hq.own; rw [← HZ.out] at this; exact this.alloc _) wc.heap.size 2 [⟨j1, x1, e1⟩, ⟨j2, x2, e2⟩] (by rfl) rfl (by exact heap_alloc_new _ _) (by have := HZ6.out; omega) (by have := hq.bel.size; simp; omega) ?_; intro v9 w9 ho9 hg9; obtain ⟨hq9, hs9, ad9, c9, rfl⟩ := HNT.out _ _ _ _ hq (SqS.q hs) ho9.out hg9.out) | (go_at_call 35; (refine (HLEN.out _ (by first | exact SqS.q (by assumption) | exact (SqS.q (by assumption)).drew | exact (SqS.q (by assumption)).alloc _ | exact ((SqS.q (by assumption)).alloc _).drew | exact ((SqS.q (by assumption)).drew).alloc _)).mono ?_); rintro e wc ⟨rfl, hb, hs⟩; (first | have hq := hq.later hb | have hq := hq.dr.later hb)) | (go_at_call 36; (refine (HDIS.out _ (by first | exact SqS.q (by assumption) | exact (SqS.q (by assumption)).drew | exact (SqS.q (by assumption)).alloc _ | exact ((SqS.q (by assumption)).alloc _).drew | exact ((SqS.q (by assumption)).drew).alloc _)).mono ?_); rintro e wc ⟨rfl, hb, hs⟩; (first | have hq := hq.later hb | have hq := hq.dr.later hb)))
       all_goals
         have HP9 := Lib.hid hq9
         clear hq hq9 hs hs9 hb ho9 hg9 hS1
         go_wp2_with fail
         exact ⟨⟨i + 1, z2, _, ad9, c9, by have := HI.out; omega, by go_num, rfl, by rw [HZ2.out, HZ.out, List.length_append]; rfl, by rw [HTK.out, HPS.out], HP9.out⟩, by have := HI.out; simp [intOf]; omega⟩
   · have e : i = n := by omega
     subst e
     have d1 : decide (i < i) = false := decide_eq_false hlt
     have d1' : decide ((i : Int) < (i : Int)) = false := decide_eq_false (by omega)
     have HE : Hid (K = Inf.psys L) := by unfold Hid; rw [HK.out, List.take_of_length_le (by have := HN.out; omega)]
     have HLO : Hid (w.heap.size ≤ wr.heap.size) := HS.out.bel.size
     have HOW : Hid (World.ownsRow wr w.heap.size 95 3 (.slice ad z cp) z (spk K)) := by have := HS.out.own; rw [← HZ.out] at this; exact this
     have HONE : Hid (SmsIn (World.alloc wr (.cells #[.int .i64 256, .int .i64 0, .int .i64 0] 95)) (.slice (some ⟨wr.heap.size, 0, none⟩) 1 1) [⟨256, 0, 0⟩] (fun s => s = wr.heap.size)) := one_sym wr ⟨256, 0, 0⟩
     have HNT : Hid (∀ v' w9 o, w9.ownsRow w.heap.size 95 3 v' (z + 1) (spk K ++ spk [⟨256, 0, 0⟩]) → (World.alloc wr o).grownBy w9 (Value.slice ad z cp).ownBlock → SyS w w9 v' (Inf.txs L)) := by
       intro v' w9 o h1 h2
       rw [HZ.out] at h1
       have h3 := HS.out.snoc ((Below.refl _ _).alloc (Nat.le_refl _) o) (R := [⟨256, 0, 0⟩]) h1 h2
       unfold Inf.txs
       rw [← HE.out]; exact h3
     have hz6 : z + 1 ≤ 1099511627776 := by have := HZ6.out; omega
     clear hi hlt HS
     go_wp2_with (first | (at_builtin; refine wpList_append_syms rfl (.tmp 37) (.tmp 39) rfl w.heap.size _ z (spk K) rfl (HOW.out.alloc _) _ [⟨256, 0, 0⟩] _ (by rfl) HONE.out (by intro n c e; cases e) hz6 (by have := HLO.out; simp; omega) ?_; intro v9 w9 o9 g9; have HP9 := Lib.hid (HNT.out v9 w9 _ o9.out g9.out); clear o9 g9))
     go_ret
     exact ⟨_, rfl, HP9.out⟩
end Go.Proofs.YtenkkononchgmaaGreatDoor
