/- The walk of the law's pieces: by two rows of lengths. -/
import Derived.Test.YteajjanjkhhgdaaDoorIwWalk
import Derived.Test.YteajjanjkhhgdaaDoorIwBlk
import Derived.Deep.RegionHeld3
import Derived.BigQuiet
import Derived.Test.YteajjanjkhhgdaaDoorHmLenC
import Derived.Test.YteajjanjkhhgdaaDoorInfRefF

/- The walk of the law's pieces: by two rows of lengths. -/
namespace Go.Proofs.YteajjanjkhhgdaaDoor
open Go.RowKit Go
open Lz (Pc)

theorem Lz.ex_next {l : List Pc} {T T' T1 : List Int} {i : Nat} {p : Pc} (h : Lz.ex T l = some T') (hp : l[i]? = some p) (h1 : Lz.ex T (l.take i) = some T1) : Lz.fit T1.length p ∧ Lz.ex T (l.take (i + 1)) = some (Lz.one T1 p) := by
  have e1 : l.take (i + 1) = l.take i ++ [p] := by rw [List.take_add_one, hp]; rfl
  have e2 : l = l.take (i + 1) ++ l.drop (i + 1) := (List.take_append_drop _ _).symm
  have h2 : Lz.ex T (l.take (i + 1)) = if Lz.fit T1.length p then some (Lz.one T1 p) else none := by
    rw [e1, Lz.ex_append, h1]; rfl
  by_cases hf : Lz.fit T1.length p
  · rw [if_pos hf] at h2; exact ⟨hf, h2⟩
  · rw [if_neg hf] at h2
    rw [e2, Lz.ex_append, h2] at h
    cases h
theorem getD_lt {l : List Nat} {j : Nat} (h : 1 ≤ l.getD j 0) : j < l.length := by
  rcases Nat.lt_or_ge j l.length with c | c
  · exact c
  · rw [List.getD_eq_getElem?_getD, List.getElem?_eq_none c] at h
    simp at h
/-- what else there was stays, and what came in -/
structure Pk (w0 wr : World) (g : Nat) (wx : World) : Prop where
  kp : Kp g wr wx
  bel : Below w0.heap.size w0 wx
theorem Pk.drew {w0 wr : World} {g : Nat} {wx : World} (h : Pk w0 wr g wx) : Pk w0 wr g wx.drew := ⟨h.kp.trans (Kp.drawn (Drawn.refl wx).drew), h.bel.drew⟩
/-- what pieces' writing holds of: the rows, the tables -/
structure Pr (wb : World) (a1 : Option Addr) (n1 c1 : Nat) (x : List Nat) (a2 : Option Addr) (n2 c2 : Nat) (y : List Nat) (GX GY L1 L2 D1 D2 : Nat) : Prop where
  rx : Irow wb a1 n1 c1 (Inf.lf x)
  ry : Irow wb a2 n2 c2 (Inf.lf y)
  cx : Irow wb (some ⟨GX, 0, none⟩) n1 n1 (fun t => (Huf.code (Inf.lf x) x.length t : Nat))
  cy : Irow wb (some ⟨GY, 0, none⟩) n2 n2 (fun t => (Huf.code (Inf.lf y) y.length t : Nat))
  l1 : Tb wb L1 Inf.lbs
  l2 : Tb wb L2 Inf.lxs
  d1 : Tb wb D1 Inf.dbs
  d2 : Tb wb D2 Inf.dxs
theorem Tb.iw {w0 w wr w' : World} {g n V : Nat} {G : Nat} {l : List Nat} (h : Tb wr G l) (hi : Iw w0 w wr g n V) (hk : Kp g wr w') : Tb w' G l := by
  obtain ⟨c, hc⟩ := hi.row
  have h' : wr.heap[G]? = some (.cells (nv l).toArray 3 (0, 0)) := h
  exact h.kp hk (Inf.ne_ty h' hc (by decide))
theorem Pr.iw {w0 w wb w' : World} {g n V : Nat} {a1 : Option Addr} {n1 c1 : Nat} {x : List Nat} {a2 : Option Addr} {n2 c2 : Nat} {y : List Nat} {GX GY L1 L2 D1 D2 : Nat} (h : Pr wb a1 n1 c1 x a2 n2 c2 y GX GY L1 L2 D1 D2) (hi : Iw w0 w wb g n V) (hk : Kp g wb w') : Pr w' a1 n1 c1 x a2 n2 c2 y GX GY L1 L2 D1 D2 :=
  ⟨h.rx.iw hi hk, h.ry.iw hi hk, h.cx.iw hi hk, h.cy.iw hi hk, h.l1.iw hi hk, h.l2.iw hi hk, h.d1.iw hi hk, h.d2.iw hi hk⟩
theorem Inf.lx_small : ∀ k, k < 29 → Inf.lxs.getD k 0 ≤ 5 ∧ Inf.lbs.getD k 0 ≤ 258 := by decide
theorem Inf.dx_small : ∀ k, k < 30 → Inf.dxs.getD k 0 ≤ 13 ∧ Inf.dbs.getD k 0 ≤ 32768 := by decide

set_option maxRecDepth 100000 in
set_option maxHeartbeats 1000000 in
theorem wpieces_any (x y : List Nat) (hx : Inf.Mk x) (hy : Inf.Mk y) (a1 : Option Addr) (n1 c1 : Nat) (a2 : Option Addr) (n2 c2 : Nat) (ap : Option Addr) (np cp : Nat) (l : List Pc) (w0 w wa : World) (g N V : Nat) (T T' : List Int) (h : Iw w0 w wa g N V) (hN : N ≤ 5000000)
    (hn1 : n1 = x.length) (hn2 : n2 = y.length) (hI1 : Irow wa a1 n1 c1 (Inf.lf x)) (hI2 : Irow wa a2 n2 c2 (Inf.lf y)) (hP : PcsIn w0 (.slice ap np cp) l (fun _ => True)) (hnp : np = l.length) (hnl : np ≤ 1000) (hok : PcOk l) (hcov : Cov x y l) (h256 : 1 ≤ x.getD 256 0) (hex : Lz.ex T l = some T') :
    Calls Tryd.prog 23 #[.pointer (some ⟨g, 0, none⟩), .slice ap np cp, .slice a1 n1 c1, .slice a2 n2 c2] wa fun e w' => e = .returned (.tuple #[]) ∧ ∃ m1 V1 m2 V2, Inf.Go x y N V m1 V1 T T' ∧ Inf.Sy x 256 m1 V1 m2 V2 ∧ Iw w0 w w' g m2 V2 ∧ Kp g wa w' ∧ m2 ≤ N + 48 * l.length + 15 := by
  have HX := Lib.hid hx
  have HY := Lib.hid hy
  have HN := Lib.hid hN
  have HN1 := Lib.hid hn1
  have HN2 := Lib.hid hn2
  have HP := Lib.hid hP
  have HNP := Lib.hid hnp
  have HOK := Lib.hid hok
  have HCOV := Lib.hid hcov
  have H256 := Lib.hid h256
  have HEX := Lib.hid hex
  have HA := Lib.hid h
  have HI1 := Lib.hid hI1
  have HI2 := Lib.hid hI2
  have hx288 : x.length ≤ 288 := hx.1.1
  have hy288 : y.length ≤ 288 := hy.1.1
  have hn1I : (n1 : Int) ≤ 288 := by omega
  have hn2I : (n2 : Int) ≤ 288 := by omega
  have hnpI : (np : Int) ≤ 1000 := by omega
  have HC1 := Lib.hid (codes_any a1 n1 c1 (Inf.lf x) wa hI1.1 (by omega))
  have HC2 := Lib.hid (fun (wx : World) (hb : Below wa.heap.size wa wx) => codes_any a2 n2 c2 (Inf.lf y) wx (hI2.1.later hb) (by omega))
  clear hx hy hN hn1 hn2 hP hnp hnl hok hcov h256 hex h hI1 hI2 hx288 hy288
  go_enter Tryd.func23, Tryd.ntmps23
  go_wp2_with fail
  refine HC1.out.mono ?_
  rintro en w1 ⟨g1, ⟨-, GX, -, g2, rfl⟩ | ⟨g2, -⟩⟩
  case inr => exact absurd (by rw [HN1.out]; exact HX.out) g2
  have A1 := Lib.hid (HA.out.later g1)
  have K1 : Hid (Below wa.heap.size wa w1) := g1
  have X1 := Lib.hid (Irow.ofKi g2)
  clear g1 g2 HC1
  go_wp2_with fail
  refine (HC2.out _ K1.out).mono ?_
  rintro en w2 ⟨g1, ⟨-, GY, -, g2, rfl⟩ | ⟨g2, -⟩⟩
  case inr => exact absurd (by rw [HN2.out]; exact HY.out) g2
  have A2 := Lib.hid (A1.out.later g1)
  have K2 : Hid (Below wa.heap.size wa w2) := K1.out.trans (g1.mono K1.out.size)
  have X2 := Lib.hid (X1.out.later g1)
  have Y2 := Lib.hid (Irow.ofKi g2)
  clear g1 g2 HC2 A1 K1 X1
  go_wp2_with fail
  refine (lengthBases_any _).mono ?_
  rintro en w3 ⟨g1, L1, -, g3, rfl⟩
  have A3 := Lib.hid (A2.out.later g1)
  have K3 : Hid (Below wa.heap.size wa w3) := K2.out.trans (g1.mono K2.out.size)
  have X3 := Lib.hid (X2.out.later g1)
  have Y3 := Lib.hid (Y2.out.later g1)
  have T3 : Hid (Tb w3 L1 Inf.lbs) := g3
  clear g1 g3 A2 K2 X2 Y2
  go_wp2_with fail
  refine (lengthBits_any _).mono ?_
  rintro en w4 ⟨g1, L2, -, g3, rfl⟩
  have A4 := Lib.hid (A3.out.later g1)
  have K4 : Hid (Below wa.heap.size wa w4) := K3.out.trans (g1.mono K3.out.size)
  have X4 := Lib.hid (X3.out.later g1)
  have Y4 := Lib.hid (Y3.out.later g1)
  have T4 : Hid (Tb w4 L1 Inf.lbs ∧ Tb w4 L2 Inf.lxs) := ⟨(g1.block _ (Inf.lt_some T3.out)).trans T3.out, g3⟩
  clear g1 g3 A3 K3 X3 Y3 T3
  go_wp2_with fail
  refine (distBases_any _).mono ?_
  rintro en w5 ⟨g1, D1, -, g3, rfl⟩
  have A5 := Lib.hid (A4.out.later g1)
  have K5 : Hid (Below wa.heap.size wa w5) := K4.out.trans (g1.mono K4.out.size)
  have X5 := Lib.hid (X4.out.later g1)
  have Y5 := Lib.hid (Y4.out.later g1)
  have T5 : Hid (Tb w5 L1 Inf.lbs ∧ Tb w5 L2 Inf.lxs ∧ Tb w5 D1 Inf.dbs) := ⟨(g1.block _ (Inf.lt_some T4.out.1)).trans T4.out.1, (g1.block _ (Inf.lt_some T4.out.2)).trans T4.out.2, g3⟩
  clear g1 g3 A4 K4 X4 Y4 T4
  go_wp2_with fail
  refine (distBits_any _).mono ?_
  rintro en wb ⟨g1, D2, -, g3, rfl⟩
  have AB := Lib.hid (A5.out.later g1)
  have KB : Hid (Below wa.heap.size wa wb) := K5.out.trans (g1.mono K5.out.size)
  have PB : Hid (Pr wb a1 n1 c1 x a2 n2 c2 y GX GY L1 L2 D1 D2) := by
    refine ⟨HI1.out.later KB.out, HI2.out.later KB.out, ?_, ?_, (g1.block _ (Inf.lt_some T5.out.1)).trans T5.out.1, (g1.block _ (Inf.lt_some T5.out.2.1)).trans T5.out.2.1, (g1.block _ (Inf.lt_some T5.out.2.2)).trans T5.out.2.2, g3⟩
    · have := X5.out.later g1
      rw [← HN1.out]; exact this
    · have := Y5.out.later g1
      rw [← HN2.out]; exact this
  have KW : Hid (Kp g wa wb) := Kp.below KB.out
  clear g1 g3 A5 K5 X5 Y5 T5 HA KB
  go_wp2_with fail
  go_loopw [16, 17, 18] (fun v16 _ _ wr => ∃ (i m V1 : Nat) (T1 : List Int), i ≤ np ∧ v16 = .int .i64 (i : Int) ∧ Iw w0 w wr g m V1 ∧ Kp g wb wr ∧ Inf.Go x y N V m V1 T T1 ∧ Lz.ex T (l.take i) = some T1 ∧ m ≤ N + 48 * i) (fun v16 _ _ _ => (np - intOf v16).toNat)
  case atStart => exact ⟨0, N, V, T, by omega, rfl, AB.out, Kp.refl _ _, Inf.Go.refl AB.out.lt T, rfl, by omega⟩
  case round =>
    obtain ⟨i, m, V1, T1, hi, rfl, hs, hk, hgo, hex1, hm⟩ := hrel
    have HS := Lib.hid hs
    have HK := Lib.hid hk
    have HGO := Lib.hid hgo
    have HE1 := Lib.hid hex1
    have HM := Lib.hid hm
    have PR := Lib.hid (PB.out.iw AB.out hk)
    by_cases hlt : i < np
    · have d1 : decide (i < np) = true := decide_eq_true hlt
      have d1' : decide ((i : Int) < (np : Int)) = true := decide_eq_true (by omega)
      have HI : Hid (i < np) := hlt
      have hiI : (i : Int) < (np : Int) := by omega
      have hil : i < l.length := by rw [← HNP.out]; exact hlt
      obtain ⟨p, hp⟩ : ∃ p, l[i]? = some p := ⟨_, List.getElem?_eq_getElem hil⟩
      have hpm := HOK.out p (List.mem_of_getElem? hp)
      have hpc := HCOV.out p (List.mem_of_getElem? hp)
      have HNXT := Lib.hid (Lz.ex_next HEX.out hp HE1.out)
      have HPC : Hid (∀ wx, Below w0.heap.size w0 wx → ∃ s o, ap = some ⟨s, o, none⟩ ∧ wx.cell? ⟨s, o + i * 3, none⟩ = some (.int .u8 p.c) ∧ wx.cell? ⟨s, o + i * 3 + 1, none⟩ = some (.int .i64 p.n) ∧ wx.cell? ⟨s, o + i * 3 + 2, none⟩ = some (.int .i64 p.d)) := fun wx hb => by
        obtain ⟨s, o, e1, -, -, e2⟩ := (HP.out.later hb).at_ hp
        exact ⟨s, o, e1, e2⟩
      obtain ⟨s, o, rfl, q1, q2, q3⟩ := HPC.out wr hs.bel
      have HMN : Hid (m ≤ 6000000) := by have := HN.out; unfold Hid; omega
      clear hi hlt hil hp hs hk hgo hex1 hm
      rcases hpm with ⟨⟨hn0, hd0⟩, hc0, hc1⟩ | ⟨hc0, hn3, hn258, hd1, hd2⟩
      · obtain ⟨c, hc⟩ : ∃ c : Nat, p.c = (c : Int) := ⟨p.c.toNat, by omega⟩
        have hcv := hpc.1 hn0
        rw [hc, Int.toNat_natCast] at hcv
        rw [hc] at q1
        rw [hn0] at q2
        have hwc : IntKind.i64.wrap (c : Int) = (c : Int) := by rw [IntKind.wrap_i64]; omega
        have HCA := Lib.hid (wcode_any x HX.out c (x.getD c 0) (getD_lt hcv) rfl hcv a1 n1 c1 (some ⟨GX, 0, none⟩) n1 n1 w0 w wr g m V1 HS.out (by have := HMN.out; omega) HN1.out HN1.out PR.out.rx PR.out.cx)
        have HON : Hid (Lz.one T1 p = T1 ++ [(c : Int)]) := by unfold Hid Lz.one; rw [if_pos hn0, hc]
        have HD : Hid (x.getD c 0 ≤ 15) := by
          have := (HX.out.1.2 c (getD_lt hcv)).2
          simp only [Inf.lf] at this
          unfold Hid; omega
        have HC6 : Hid (c < 256) := by unfold Hid; omega
        generalize x.getD c 0 = dd at *
        clear hn0 hd0 hc0 hc1 hc hcv hpc q3
        go_wp2_with fail
        refine HCA.out.mono ?_
        rintro en w6 ⟨rfl, V2, g1, g2, g3⟩
        have G1 := Lib.hid (HGO.out.trans (Inf.Go.lit g1 HC6.out T1))
        have G2 := Lib.hid g2
        have G3 := Lib.hid (HK.out.trans g3)
        clear g1 g2 g3 HCA
        go_wp2
        exact ⟨⟨i + 1, m + dd, V2, T1 ++ [(c : Int)], by have := HI.out; omega, by go_num, G2.out, G3.out, G1.out, by rw [HNXT.out.2, HON.out], by have := HM.out; have := HD.out; omega⟩, by have := HI.out; simp [intOf]; omega⟩
      · obtain ⟨pn, hpn⟩ : ∃ pn : Nat, p.n = (pn : Int) := ⟨p.n.toNat, by omega⟩
        obtain ⟨pd, hpd⟩ : ∃ pd : Nat, p.d = (pd : Int) := ⟨p.d.toNat, by omega⟩
        have hcv := hpc.2 (by omega)
        rw [hpn, hpd, Int.toNat_natCast, Int.toNat_natCast] at hcv
        rw [hpn] at q2
        rw [hpd] at q3
        have hlb := Inf.lb_ok (n := pn) (by omega) (by omega)
        have hdb := Inf.db_ok (n := pd) (by omega) (by omega)
        have HSY1 := Lib.hid (fun (wx : World) (h : Tb wx L1 Inf.lbs) => wsym_any Inf.lbs L1 29 pn wx h rfl (by omega) (by omega))
        have HSY2 := Lib.hid (fun (wx : World) (h : Tb wx D1 Inf.dbs) => wsym_any Inf.dbs D1 30 pd wx h rfl (by omega) (by omega))
        generalize Inf.lst Inf.lbs pn 29 = k1 at *
        generalize Inf.lst Inf.dbs pd 30 = k2 at *
        have HON : Hid (Lz.one T1 p = Lz.rep T1 pd pn ∧ pd ≤ T1.length) := by
          unfold Hid Lz.one
          rw [if_neg (by omega), hpn, hpd]
          exact ⟨rfl, by have := HNXT.out.1.2.1; omega⟩
        have HMT : Hid (∀ n1 V2 n2 V3 n3 V4 n4 V5 : Nat, Inf.Sy x (257 + k1) m V1 n1 V2 → (n2 = n1 + Inf.lxs.getD k1 0 ∧ V3 = V2 + (pn - Inf.lbs.getD k1 0) * 2 ^ n1) → Inf.Sy y k2 n2 V3 n3 V4 → (n4 = n3 + Inf.dxs.getD k2 0 ∧ V5 = V4 + (pd - Inf.dbs.getD k2 0) * 2 ^ n3) → Inf.Go x y m V1 n4 V5 T1 (Lz.rep T1 (Inf.dbs.getD k2 0 + (pd - Inf.dbs.getD k2 0)) (Inf.lbs.getD k1 0 + (pn - Inf.lbs.getD k1 0)))) := fun n1 V2 n2 V3 n3 V4 n4 V5 h1 e2 h3 e4 => Inf.Go.mat (y := y) h1 hlb.1 hlb.2.2 e2 h3 hdb.1 hdb.2.2 e4 T1 (by have := HON.out.2; omega)
        rw [show Inf.dbs.getD k2 0 + (pd - Inf.dbs.getD k2 0) = pd by omega, show Inf.lbs.getD k1 0 + (pn - Inf.lbs.getD k1 0) = pn by omega] at HMT
        have HPV : Hid (p.n = (pn : Int) ∧ p.d = (pd : Int)) := ⟨hpn, hpd⟩
        have hls := Inf.lx_small k1 hlb.1
        have hds := Inf.dx_small k2 hdb.1
        have HLB : Hid (∀ wx, Tb wx L1 Inf.lbs → wx.cell? ⟨L1, k1, none⟩ = some (.int .i64 ((Inf.lbs.getD k1 0 : Nat) : Int))) := fun wx h => h.cell (show k1 < 29 from hlb.1)
        have HLX : Hid (∀ wx, Tb wx L2 Inf.lxs → wx.cell? ⟨L2, k1, none⟩ = some (.int .i64 ((Inf.lxs.getD k1 0 : Nat) : Int))) := fun wx h => h.cell (show k1 < 29 from hlb.1)
        have HDB : Hid (∀ wx, Tb wx D1 Inf.dbs → wx.cell? ⟨D1, k2, none⟩ = some (.int .i64 ((Inf.dbs.getD k2 0 : Nat) : Int))) := fun wx h => h.cell (show k2 < 30 from hdb.1)
        have HDX : Hid (∀ wx, Tb wx D2 Inf.dxs → wx.cell? ⟨D2, k2, none⟩ = some (.int .i64 ((Inf.dxs.getD k2 0 : Nat) : Int))) := fun wx h => h.cell (show k2 < 30 from hdb.1)
        obtain ⟨lbv, hlbv⟩ : ∃ v, v = Inf.lbs.getD k1 0 := ⟨_, rfl⟩
        obtain ⟨lxv, hlxv⟩ : ∃ v, v = Inf.lxs.getD k1 0 := ⟨_, rfl⟩
        obtain ⟨dbv, hdbv⟩ : ∃ v, v = Inf.dbs.getD k2 0 := ⟨_, rfl⟩
        obtain ⟨dxv, hdxv⟩ : ∃ v, v = Inf.dxs.getD k2 0 := ⟨_, rfl⟩
        rw [← hlbv, ← hlxv, ← hdbv, ← hdxv] at HMT
        rw [← hlbv] at HLB
        rw [← hlxv] at HLX
        rw [← hdbv] at HDB
        rw [← hdxv] at HDX
        rw [← hlbv, ← hlxv] at hlb hls
        rw [← hdbv, ← hdxv] at hdb hds
        obtain ⟨av, hav⟩ : ∃ v, v = pn - lbv := ⟨_, rfl⟩
        obtain ⟨bv, hbv⟩ : ∃ v, v = pd - dbv := ⟨_, rfl⟩
        rw [← hav] at hlb
        rw [← hbv] at hdb
        rw [← hav, ← hbv] at HMT
        have HAX : Hid (av < 2 ^ lxv ∧ lxv ≤ 5) := ⟨hlb.2.2, hls.1⟩
        have HBX : Hid (bv < 2 ^ dxv ∧ dxv ≤ 13) := ⟨hdb.2.2, hds.1⟩
        have hav6 : (av : Int) ≤ 258 := by omega
        have hbv6 : (bv : Int) ≤ 32768 := by omega
        have hlb6 : (lbv : Int) ≤ 258 := by omega
        have hdb6 : (dbv : Int) ≤ 32768 := by omega
        have hdifa : (pn : Int) - (lbv : Int) = (av : Int) := by omega
        have hdifb : (pd : Int) - (dbv : Int) = (bv : Int) := by omega
        have hwa : IntKind.u32.wrap (av : Int) = (av : Int) := by rw [IntKind.wrap_u32]; omega
        have hwb : IntKind.u32.wrap (bv : Int) = (bv : Int) := by rw [IntKind.wrap_u32]; omega
        have hwa' : IntKind.i64.wrap (av : Int) = (av : Int) := by rw [IntKind.wrap_i64]; omega
        have hwb' : IntKind.i64.wrap (bv : Int) = (bv : Int) := by rw [IntKind.wrap_i64]; omega
        have hk1I : (k1 : Int) < 29 := by omega
        have hk2I : (k2 : Int) < 30 := by omega
        obtain ⟨j, hj⟩ : ∃ j, j = 257 + k1 := ⟨_, rfl⟩
        have hjI : 257 + (k1 : Int) = (j : Int) := by omega
        have e0 : ((pn : Int) == 0) = false := by simp; omega
        have HCA := Lib.hid (fun (wx : World) (h1 : Iw w0 w wx g m V1) (h2 : Pr wx a1 n1 c1 x a2 n2 c2 y GX GY L1 L2 D1 D2) => wcode_any x HX.out (257 + k1) (x.getD (257 + k1) 0) (getD_lt hcv.1) rfl hcv.1 a1 n1 c1 (some ⟨GX, 0, none⟩) n1 n1 w0 w wx g m V1 h1 (by have := HMN.out; omega) HN1.out HN1.out h2.rx h2.cx)
        have HD1 : Hid (x.getD (257 + k1) 0 ≤ 15) := by
          have := (HX.out.1.2 (257 + k1) (getD_lt hcv.1)).2
          simp only [Inf.lf] at this
          unfold Hid; omega
        have HD2 : Hid (y.getD k2 0 ≤ 15) := by
          have := (HY.out.1.2 k2 (getD_lt hcv.2)).2
          simp only [Inf.lf] at this
          unfold Hid; omega
        have HCB := Lib.hid (fun (wx : World) (nx Vx : Nat) (hnx : nx ≤ 7000000) (h1 : Iw w0 w wx g nx Vx) (h2 : Pr wx a1 n1 c1 x a2 n2 c2 y GX GY L1 L2 D1 D2) => wcode_any y HY.out k2 (y.getD k2 0) (getD_lt hcv.2) rfl hcv.2 a2 n2 c2 (some ⟨GY, 0, none⟩) n2 n2 w0 w wx g nx Vx h1 (by omega) HN2.out HN2.out h2.ry h2.cy)
        rw [← hj] at HCA HD1
        have HJ := Lib.hid hj
        generalize x.getD j 0 = dd1 at *
        generalize y.getD k2 0 = dd2 at *
        have HQ1 := Lib.hid (fun (wx : World) (hd : Drawn wr wx) => HSY1.out wx (by unfold Tb; rw [hd.heap]; exact PR.out.l1))
        have HQ2 := Lib.hid (fun (wx : World) (hd : Drawn wr wx) => HSY2.out wx (by unfold Tb; rw [hd.heap]; exact PR.out.d1))
        clear hc0 hn3 hn258 hd1 hd2 hpc hpn hpd hcv hlb hdb hls hds hlbv hlxv hdbv hdxv hav hbv hj HSY1 HSY2
        go_wp2_with fail
        go_quiet ((go_at_call 55; first | with_reducible exact Calls.quiet_of_same (HQ1.out _ ((Drawn.refl _).drewN _)) | with_reducible exact Calls.quiet_of_same (HQ2.out _ ((Drawn.refl _).drewN _)) | fail "no arm"))
        have S2 := Lib.hid (HS.out.drawn ⟨nq, rfl⟩)
        have K2 := Lib.hid (HK.out.trans (Kp.drawn (g := g) ⟨nq, rfl⟩))
        have P2 := Lib.hid (PR.out.iw HS.out.at_ (Kp.drawn (g := g) ⟨nq, rfl⟩))
        generalize World.drewN _ nq = wq at *
        clear nq q1 q2 q3 HQ1 HQ2
        go_wp2_with fail
        refine (HCA.out _ S2.out P2.out).mono ?_
        rintro en w6 ⟨rfl, V2, g1, g2, g3⟩
        have Y6 := Lib.hid g1
        have S6 := Lib.hid g2
        have K6 := Lib.hid (K2.out.trans g3)
        have P6 := Lib.hid (P2.out.iw S2.out.at_ g3)
        obtain ⟨n1', hn1'⟩ : ∃ v, v = m + dd1 := ⟨_, rfl⟩
        rw [← hn1'] at Y6 S6
        have HN1' := Lib.hid hn1'
        clear g1 g2 g3 S2 K2 P2 HCA hn1'
        obtain ⟨c6, hc6⟩ := S6.out.row
        have HCL : Hid (∀ wx, Pk w0 w6 g wx → wx.cell? ⟨s, o + i * 3 + 1, none⟩ = some (.int .i64 (pn : Int)) ∧ wx.cell? ⟨L1, k1, none⟩ = some (.int .i64 (lbv : Int)) ∧ wx.cell? ⟨L2, k1, none⟩ = some (.int .i64 (lxv : Int)) ∧ Pk w0 w6 g wx) := fun wx hpk => by
          obtain ⟨s', o', e, -, f2, -⟩ := HPC.out wx hpk.bel
          cases e
          rw [HPV.out.1] at f2
          exact ⟨f2, HLB.out wx (P6.out.l1.iw S6.out hpk.kp), HLX.out wx (P6.out.l2.iw S6.out hpk.kp), hpk⟩
        have HPT := Lib.hid (fun (wx : World) (hd : Drawn w6 wx) => (S6.out.drawn hd).put av lxv (by omega) (by have := HAX.out.2; omega) HAX.out.1 (by have := HN1'.out; have := HMN.out; have := HD1.out; omega))
        have hpk0 : Pk w0 w6 g w6 := ⟨Kp.refl _ _, S6.out.bel⟩
        obtain ⟨f1, f2, f3, -⟩ := HCL.out w6 hpk0
        clear hc6 c6
        go_wp2_with fail
        go_region_held3 (fun wx => wx.cell? ⟨s, o + i * 3 + 1, none⟩ = some (.int .i64 (pn : Int)) ∧ wx.cell? ⟨L1, k1, none⟩ = some (.int .i64 (lbv : Int)) ∧ wx.cell? ⟨L2, k1, none⟩ = some (.int .i64 (lxv : Int)) ∧ Pk w0 w6 g wx) (first | assumption | exact HCL.out _ (by assumption) | exact HCL.out _ (Pk.drew (by assumption))) ((go_at_call 20; (refine (HPT.out _ (by first | exact Drawn.refl _ | exact (Drawn.refl _).drew)).mono ?_); rintro e w7 ⟨rfl, gi, gk⟩; have hpk7 : Pk w0 w6 g w7 := ⟨(Kp.drawn (by first | exact Drawn.refl _ | exact (Drawn.refl _).drew)).trans gk, gi.bel⟩))
        have S7 := Lib.hid gi
        have K7 := Lib.hid (K6.out.trans hpk7.kp)
        have P7 := Lib.hid (P6.out.iw S6.out.at_ hpk7.kp)
        obtain ⟨n2', hn2'⟩ : ∃ v, v = n1' + lxv := ⟨_, rfl⟩
        obtain ⟨V3, hV3⟩ : ∃ v, v = V2 + av * 2 ^ n1' := ⟨_, rfl⟩
        rw [← hn2', ← hV3] at S7
        have HN2' := Lib.hid hn2'
        have HV3 := Lib.hid hV3
        clear gi gk hpk7 hpk0 f1 f2 f3 HCL HPT hn2' hV3 K6 P6 S6
        go_wp2_with fail
        refine (HCB.out _ n2' V3 (by have := HN2'.out; have := HN1'.out; have := HMN.out; have := HD1.out; have := HAX.out.2; omega) S7.out P7.out).mono ?_
        rintro en w8 ⟨rfl, V4, g1, g2, g3⟩
        have Y8 := Lib.hid g1
        have S8 := Lib.hid g2
        have K8 := Lib.hid (K7.out.trans g3)
        have P8 := Lib.hid (P7.out.iw S7.out.at_ g3)
        obtain ⟨n3', hn3'⟩ : ∃ v, v = n2' + dd2 := ⟨_, rfl⟩
        rw [← hn3'] at Y8 S8
        have HN3' := Lib.hid hn3'
        clear g1 g2 g3 K7 P7 S7 HCB hn3'
        have HCL : Hid (∀ wx, Pk w0 w8 g wx → wx.cell? ⟨s, o + i * 3 + 2, none⟩ = some (.int .i64 (pd : Int)) ∧ wx.cell? ⟨D1, k2, none⟩ = some (.int .i64 (dbv : Int)) ∧ wx.cell? ⟨D2, k2, none⟩ = some (.int .i64 (dxv : Int)) ∧ Pk w0 w8 g wx) := fun wx hpk => by
          obtain ⟨s', o', e, -, -, f2⟩ := HPC.out wx hpk.bel
          cases e
          rw [HPV.out.2] at f2
          exact ⟨f2, HDB.out wx (P8.out.d1.iw S8.out hpk.kp), HDX.out wx (P8.out.d2.iw S8.out hpk.kp), hpk⟩
        have HPT := Lib.hid (fun (wx : World) (hd : Drawn w8 wx) => (S8.out.drawn hd).put bv dxv (by omega) (by have := HBX.out.2; omega) HBX.out.1 (by have := HN3'.out; have := HN2'.out; have := HN1'.out; have := HMN.out; have := HD1.out; have := HD2.out; have := HAX.out.2; omega))
        have hpk0 : Pk w0 w8 g w8 := ⟨Kp.refl _ _, S8.out.bel⟩
        obtain ⟨f1, f2, f3, -⟩ := HCL.out w8 hpk0
        go_wp2_with fail
        go_region_held3 (fun wx => wx.cell? ⟨s, o + i * 3 + 2, none⟩ = some (.int .i64 (pd : Int)) ∧ wx.cell? ⟨D1, k2, none⟩ = some (.int .i64 (dbv : Int)) ∧ wx.cell? ⟨D2, k2, none⟩ = some (.int .i64 (dxv : Int)) ∧ Pk w0 w8 g wx) (first | assumption | exact HCL.out _ (by assumption) | exact HCL.out _ (Pk.drew (by assumption))) ((go_at_call 20; (refine (HPT.out _ (by first | exact Drawn.refl _ | exact (Drawn.refl _).drew)).mono ?_); rintro e w9 ⟨rfl, gi, gk⟩; have hpk9 : Pk w0 w8 g w9 := ⟨(Kp.drawn (by first | exact Drawn.refl _ | exact (Drawn.refl _).drew)).trans gk, gi.bel⟩))
        have S9 := Lib.hid gi
        have K9 := Lib.hid (K8.out.trans hpk9.kp)
        have G1 := Lib.hid (HGO.out.trans (HMT.out _ _ _ _ _ _ _ _ (by rw [← HJ.out]; exact Y6.out) ⟨HN2'.out, HV3.out⟩ Y8.out ⟨rfl, rfl⟩))
        clear gi gk hpk9 hpk0 f1 f2 f3 HCL HPT K8 P8 S8 HMT
        go_wp2
        exact ⟨⟨i + 1, n3' + dxv, _, _, by have := HI.out; omega, by go_num, S9.out, K9.out, G1.out, by rw [HNXT.out.2, HON.out.1], by have := HM.out; have := HN3'.out; have := HN2'.out; have := HN1'.out; have := HD1.out; have := HD2.out; have := HAX.out.2; have := HBX.out.2; omega⟩, by have := HI.out; simp [intOf]; omega⟩
    · have d1 : decide (i < np) = false := decide_eq_false hlt
      have d1' : decide ((i : Int) < (np : Int)) = false := decide_eq_false (by omega)
      have HTT : Hid (T1 = T') := by
        have h1 := HE1.out
        rw [List.take_of_length_le (by have := HNP.out; omega), HEX.out] at h1
        unfold Hid
        injection h1 with h1
        exact h1.symm
      have HCA := Lib.hid (wcode_any x HX.out 256 (x.getD 256 0) (getD_lt H256.out) rfl H256.out a1 n1 c1 (some ⟨GX, 0, none⟩) n1 n1 w0 w wr g m V1 HS.out (by have := HN.out; omega) HN1.out HN1.out PR.out.rx PR.out.cx)
      have HD : Hid (x.getD 256 0 ≤ 15) := by
        have := (HX.out.1.2 256 (getD_lt H256.out)).2
        simp only [Inf.lf] at this
        unfold Hid; omega
      have HIL : Hid (i ≤ l.length) := by rw [← HNP.out]; exact hi
      generalize x.getD 256 0 = dd at *
      clear hi hlt hs hk hgo hex1 hm
      go_wp2_with fail
      refine HCA.out.mono ?_
      rintro en w6 ⟨rfl, V2, g1, g2, g3⟩
      have G1 := Lib.hid g1
      have G2 := Lib.hid g2
      have G3 := Lib.hid ((KW.out.trans HK.out).trans g3)
      clear g1 g2 g3 HCA
      go_wp2
      go_returns
      exact ⟨rfl, m, V1, m + dd, V2, by have := HGO.out; rw [HTT.out] at this; exact this, G1.out, G2.out, G3.out, by have := HM.out; have := HD.out; have := HIL.out; omega⟩
end Go.Proofs.YteajjanjkhhgdaaDoor

/- The walk of the law's dynamic. -/
namespace Go.Proofs.YteajjanjkhhgdaaDoor
open Go.RowKit Go
open Lz (Pc)

theorem Huf.cnt_congr {L L' : Nat → Int} : ∀ m, (∀ i, i < m → L i = L' i) → ∀ k, Huf.cnt L m k = Huf.cnt L' m k
  | 0, _, _ => rfl
  | m + 1, h, k => by rw [Huf.cnt, Huf.cnt, Huf.cnt_congr m (fun i hi => h i (by omega)) k, h m (by omega)]
theorem Huf.Makes.congr {L L' : Nat → Int} {n : Nat} (h : Huf.Makes L n) (e : ∀ i, i < n → L i = L' i) : Huf.Makes L' n := by
  refine ⟨⟨h.1.1, fun i hi => by rw [← e i hi]; exact h.1.2 i hi⟩, ?_⟩
  rw [← show Huf.cnt L n = Huf.cnt L' n from funext fun k => Huf.cnt_congr n e k]
  exact h.2
/-- a row of numbers as a list -/
def lrow (n : Nat) (f : Nat → Nat) : List Nat := (List.range n).map f
theorem lrow_length (n : Nat) (f : Nat → Nat) : (lrow n f).length = n := by simp [lrow]
theorem lrow_get {n j : Nat} (f : Nat → Nat) (h : j < n) : (lrow n f).getD j 0 = f j := by
  rw [List.getD_eq_getElem?_getD, lrow, List.getElem?_map, List.getElem?_range h]; rfl
theorem lrow_ki (n : Nat) (f : Nat → Nat) : ki n (fun i => (f i : Nat)) = (nv (lrow n f)).toArray := by simp [ki, nv, lrow]
theorem lrow_mk {n : Nat} {f : Nat → Nat} (h : Huf.Makes (fun i => (f i : Nat)) n) : Inf.Mk (lrow n f) := by
  unfold Inf.Mk
  rw [lrow_length]
  exact h.congr fun i hi => by simp only [Inf.lf, lrow_get f hi]
/-- lengths that weights have -/
theorem wlengths_any (U : List Nat) (n G : Nat) (wa : World) (hT : Tb wa G U) (hn : U.length = n) (hn8 : n ≤ 286) (hU : ∀ j, U.getD j 0 ≤ 1048576) :
    Calls Tryd.prog 57 #[.slice (some ⟨G, 0, none⟩) n n, .int .i64 15] wa fun e w' => ∃ H la, e = .returned (.tuple #[.slice (some ⟨H, 0, none⟩) n n, .int .i64 0]) ∧ Below wa.heap.size wa w' ∧ Tb w' H la ∧ la.length = n ∧ Inf.Mk la ∧ ∀ j, 1 ≤ U.getD j 0 → 1 ≤ la.getD j 0 := by
  have hI := Irow.ofNv (show wa.heap[G]? = some (.cells (nv U).toArray 3 (0, 0)) from hT) hn
  refine (lengths_any (some ⟨G, 0, none⟩) n n (Inf.lf U) 15 wa hI.1 (by omega)).mono ?_
  have hrk : Hul.Reck (Inf.lf U) n 15 := ⟨by omega, by omega, by omega, fun i _ => by
    have := hU i
    simp only [Inf.lf]
    omega⟩
  have hask : Hul.Asked (Inf.lf U) n 15 := ⟨hrk, by
    have h1 := Hul.pos_length (Inf.lf U) n
    have h2 : (2 : Nat) ^ (15 : Int).toNat = 32768 := by decide
    omega⟩
  rintro e w' ⟨h1, ⟨-, H, len, h2, rfl, h3, h4⟩ | ⟨h2, -⟩⟩
  · have hg := h4.good hask
    rw [lrow_ki] at h3
    refine ⟨H, lrow n len, rfl, h1, h3, lrow_length _ _, lrow_mk hg.makes, fun j hj => ?_⟩
    have hjn : j < n := by rw [← hn]; exact getD_lt hj
    rw [lrow_get _ hjn]
    rcases Nat.eq_zero_or_pos (len j) with c | c
    · have := (hg.zero j hjn).1 c
      simp only [Inf.lf] at this
      omega
    · exact c
  · exact absurd hask h2
/-- the code for lengths of the law: sixteen symbols of 4 bits -/
def Inf.sh : List Nat := [4, 4, 4, 4, 4, 4, 4, 4, 4, 4, 4, 4, 4, 4, 4, 4, 0, 0, 0]
def Inf.shf : Nat → List Nat
  | 0 => List.replicate 19 0
  | i + 1 => if Inf.order.getD i 0 < 16 then (Inf.shf i).set (Inf.order.getD i 0) 4 else Inf.shf i
theorem Inf.shf_end : Inf.shf 19 = Inf.sh := by decide
theorem Inf.shf_at : ∀ i, i < 19 → (Inf.shf (i + 1)).getD (Inf.order.getD i 0) 0 = Inf.sh.getD (Inf.order.getD i 0) 0 ∧ Inf.sh.getD (Inf.order.getD i 0) 0 ≤ 4 := by decide
theorem Inf.shf_len : ∀ i, (Inf.shf i).length = 19
  | 0 => List.length_replicate
  | i + 1 => by
    rw [Inf.shf]
    split
    · rw [List.length_set]; exact Inf.shf_len i
    · exact Inf.shf_len i
theorem Inf.sh_mk : Inf.Mk Inf.sh := ⟨⟨by decide, of_decide_eq_true (by kernel_rfl)⟩, by kernel_rfl⟩
theorem Inf.sh_four : ∀ s, s < 16 → Inf.sh.getD s 0 = 4 := by decide
theorem Inf.sh_get : ∀ s, s < 19 → Inf.sh.getD s 0 ≤ 4 := by decide
theorem Inf.sh_len : Inf.sh.length = 19 := rfl
/-- a length below 16 is told by itself -/
theorem Inf.LGo.one {m s n V n1 V1 : Nat} {A : List Nat} (h : Inf.Sy Inf.sh s n V n1 V1) (hs : s < 16) : Inf.LGo Inf.sh m n V n1 V1 A (A ++ [s]) := by
  have e1 : Inf.lw s = 0 := by unfold Inf.lw; rw [if_neg (by omega), if_neg (by omega), if_neg (by omega)]
  have e2 : Inf.lk s = 1 := by unfold Inf.lk; rw [if_neg (by omega), if_neg (by omega), if_neg (by omega)]
  have e3 : Inf.lv s A = s := by unfold Inf.lv; rw [if_neg (by omega), if_neg (by omega), if_neg (by omega)]
  have := Inf.LGo.sym (m := m) (a := 0) (n2 := n1) (V2 := V1) (A := A) h (by rw [e1]; decide) ⟨by rw [e1]; rfl, by simp⟩ (fun e => by omega)
  rw [e2, e3] at this
  exact this
theorem Inf.mk_le {l : List Nat} (h : Inf.Mk l) {j : Nat} (hj : j < l.length) : l.getD j 0 ≤ 15 := by
  have := (h.1.2 j hj).2
  simp only [Inf.lf] at this
  omega
/-- a row of numbers of the call's own is written -/
theorem Iw.set_new {w0 w wr : World} {g n V G : Nat} {c : Array Value} (h : Iw w0 w wr g n V) (h0 : w0.heap.size ≤ w.heap.size) (hG : w.heap.size ≤ G) (hr : wr.heap[G]? = some (.cells c 3 (0, 0))) (i : Nat) (v : Value) : Iw w0 w (wr.setCell ⟨G, i, none⟩ v) g n V := by
  obtain ⟨u, hu⟩ := h.wr
  refine ⟨h.bel.setCell (show w0.heap.size ≤ G from Nat.le_trans h0 hG) _, h.lo, ⟨u, hu.other (heap_setCell_other _ _ _ _ (Inf.ne_ty hu.row hr (by decide))) (fun k hk => ?_)⟩, ?_⟩
  · obtain ⟨_, cur, hc⟩ := Inf.own_type hu.own hk
    exact heap_setCell_other _ _ _ _ (Inf.ne_ty hc hr (by decide))
  · exact ⟨h.kp.os, h.kp.tape, h.kp.output, by simpa using h.kp.size, fun k o h1 h2 h3 => (heap_setCell_other _ _ _ _ (show k ≠ G from by have := Inf.lt_some h1; omega)).trans (h.kp.blk k o h1 h2 h3)⟩
/-- the rows of dynamic -/
structure Dn (wr : World) (GS H1 H2 GC : Nat) (la lb : List Nat) : Prop where
  ts : Tb wr GS Inf.sh
  ta : Tb wr H1 la
  tb : Tb wr H2 lb
  cc : Irow wr (some ⟨GC, 0, none⟩) 19 19 (fun t => (Huf.code (Inf.lf Inf.sh) 19 t : Nat))
theorem Dn.iw {w0 w wr w' : World} {g n V : Nat} {GS H1 H2 GC : Nat} {la lb : List Nat} (h : Dn wr GS H1 H2 GC la lb) (hi : Iw w0 w wr g n V) (hk : Kp g wr w') : Dn w' GS H1 H2 GC la lb :=
  ⟨h.ts.iw hi hk, h.ta.iw hi hk, h.tb.iw hi hk, h.cc.iw hi hk⟩

set_option maxRecDepth 100000 in
set_option maxHeartbeats 2000000 in
theorem wdynamic_any (ap : Option Addr) (np cp : Nat) (l : List Pc) (w0 wa : World) (g N V : Nat) (T T' : List Int) (h : Iw w0 wa wa g N V) (hN : N ≤ 4000000) (hP : PcsIn w0 (.slice ap np cp) l (fun _ => True)) (hnp : np = l.length) (hnl : np ≤ 1000) (hok : PcOk l) (hex : Lz.ex T l = some T') :
    Calls Tryd.prog 24 #[.pointer (some ⟨g, 0, none⟩), .slice ap np cp] wa fun e w' => e = .returned (.tuple #[]) ∧ ∃ m V', Iw w0 wa w' g m V' ∧ V' % 2 ^ N = V ∧ N ≤ m ∧ m ≤ N + 2000 + 48 * l.length ∧ ∀ Vf Nf M, Vf % 2 ^ m = V' → m ≤ Nf → T'.length ≤ M → Inf.block Vf Nf M 2 N T = .ok m T' := by
  have HA := Lib.hid h
  have HN := Lib.hid hN
  have HP := Lib.hid hP
  have HNP := Lib.hid hnp
  have HOK := Lib.hid hok
  have HEX := Lib.hid hex
  have HNL := Lib.hid hnl
  have hnpI : (np : Int) ≤ 1000 := by omega
  have HL0 : Hid (w0.heap.size ≤ wa.heap.size) := h.bel.size
  have HW := Lib.hid (weights_any ap np cp l wa hnp hnl (hP.later h.bel) hok)
  clear h hN hP hnp hnl hok hex
  go_enter Tryd.func24, Tryd.ntmps24
  go_wp2_with fail
  refine HW.out.mono ?_
  rintro en w1 ⟨GA, GB, GL, GD, U, Q, rfl, hw⟩
  have A1 := Lib.hid (HA.out.later hw.bel)
  have K1 : Hid (Below wa.heap.size wa w1) := hw.bel
  have C1 : Hid (Cov U Q l ∧ 1 ≤ U.getD 256 0) := ⟨hw.cov, hw.e256⟩
  have HT1 : Hid (Tb w1 GA U ∧ Tb w1 GB Q) := ⟨hw.ra, hw.rb⟩
  have HL1 := Lib.hid (wlengths_any U 286 GA w1 hw.ra hw.la (by omega) (fun j => by have := (hw.top j).1; have := HNP.out; have := HNL.out; omega))
  have HL2 := Lib.hid (fun (wx : World) (hb : Below w1.heap.size w1 wx) => wlengths_any Q 30 GB wx ((hb.block _ (Inf.lt_some hw.rb)).trans hw.rb) hw.lb (by omega) (fun j => by have := (hw.top j).2; have := HNP.out; have := HNL.out; omega))
  clear hw HW
  go_wp2_with fail
  refine HL1.out.mono ?_
  rintro en w2 ⟨H1, la, rfl, g1, g2, g3, g4, g5⟩
  have A2 := Lib.hid (A1.out.later g1)
  have K2 : Hid (Below wa.heap.size wa w2) := K1.out.trans (g1.mono K1.out.size)
  have TA2 := Lib.hid g2
  have LA : Hid (la.length = 286 ∧ Inf.Mk la ∧ ∀ j, 1 ≤ U.getD j 0 → 1 ≤ la.getD j 0) := ⟨g3, g4, g5⟩
  have HL3 := Lib.hid (HL2.out w2 g1)
  clear g1 g2 g3 g4 g5 HL1 HL2 A1 K1 HT1
  go_wp2_with fail
  refine HL3.out.mono ?_
  rintro en w3 ⟨H2, lb, rfl, g1, g2, g3, g4, g5⟩
  have A3 := Lib.hid (A2.out.later g1)
  have TA3 : Hid (Tb w3 H1 la) := (g1.block _ (Inf.lt_some TA2.out)).trans TA2.out
  have TB3 := Lib.hid g2
  have LB : Hid (lb.length = 30 ∧ Inf.Mk lb ∧ ∀ j, 1 ≤ Q.getD j 0 → 1 ≤ lb.getD j 0) := ⟨g3, g4, g5⟩
  have CV : Hid (Cov la lb l ∧ 1 ≤ la.getD 256 0) := by
    refine ⟨fun p hp => ?_, LA.out.2.2 256 C1.out.2⟩
    obtain ⟨e1, e2⟩ := C1.out.1 p hp
    exact ⟨fun e => LA.out.2.2 _ (e1 e), fun e => ⟨LA.out.2.2 _ (e2 e).1, g5 _ (e2 e).2⟩⟩
  clear g1 g2 g3 g4 g5 HL3 A2 K2 TA2 C1
  have hp5 : (29 : Nat) < 2 ^ 5 := by decide
  have P1 := Lib.hid (A3.out.put 29 5 (by omega) (by omega) (by decide) (by have := HN.out; omega))
  go_wp2_with fail
  refine P1.out.mono ?_
  rintro en w4 ⟨rfl, g1, g2⟩
  have A4 := Lib.hid g1
  have TA4 := Lib.hid (TA3.out.iw A3.out g2)
  have TB4 := Lib.hid (TB3.out.iw A3.out g2)
  have P2 := Lib.hid (g1.put 29 5 (by omega) (by omega) (by decide) (by have := HN.out; omega))
  clear g1 g2 P1 A3 TA3 TB3
  go_wp2_with fail
  refine P2.out.mono ?_
  rintro en w5 ⟨rfl, g1, g2⟩
  have A5 := Lib.hid g1
  have TA5 := Lib.hid (TA4.out.iw A4.out g2)
  have TB5 := Lib.hid (TB4.out.iw A4.out g2)
  have P3 := Lib.hid (g1.put 15 4 (by omega) (by omega) (by decide) (by have := HN.out; omega))
  clear g1 g2 P2 A4 TA4 TB4
  go_wp2_with fail
  refine P3.out.mono ?_
  rintro en w6 ⟨rfl, g1, g2⟩
  have A6 := Lib.hid g1
  have TA6 := Lib.hid (TA5.out.iw A5.out g2)
  have TB6 := Lib.hid (TB5.out.iw A5.out g2)
  clear g1 g2 P3 A5 TA5 TB5
  rw [show N + 5 + 5 + 4 = N + 14 by omega, show N + 5 + 5 = N + 10 by omega] at A6
  obtain ⟨V0, hV0⟩ : ∃ V0, V0 = V + 29 * 2 ^ N + 29 * 2 ^ (N + 5) + 15 * 2 ^ (N + 10) := ⟨_, rfl⟩
  rw [← hV0] at A6
  have HV0 := Lib.hid hV0
  clear hV0
  go_wp2_with fail
  refine (order_any _).mono ?_
  rintro en w7 ⟨g1, GO, -, g3, rfl⟩
  have A7 := Lib.hid (A6.out.later g1)
  have TA7 : Hid (Tb w7 H1 la) := (g1.block _ (Inf.lt_some TA6.out)).trans TA6.out
  have TB7 : Hid (Tb w7 H2 lb) := (g1.block _ (Inf.lt_some TB6.out)).trans TB6.out
  have TO7 : Hid (Tb w7 GO Inf.order) := g3
  clear g1 g3 A6 TA6 TB6
  obtain ⟨AZ, hAZ⟩ : ∃ AZ : Array Value, AZ = (nv (List.replicate 19 0)).toArray := ⟨_, rfl⟩
  have hmk : ∀ w : World, (Instr.makeSlice 42 (.int .i64 19) (.int .i64 19)).run Tryd.prog w = .ok (.slice (some ⟨w.heap.size, 0, none⟩) 19 19) (w.alloc (.cells AZ 3)) := fun w => (run_ints 19 (by omega) w).trans (by rw [hAZ, show ki 19 (fun _ => 0) = (nv (List.replicate 19 0)).toArray from rfl])
  have hba : Below w7.heap.size w7 (w7.alloc (.cells AZ 3)) := (Below.refl _ _).alloc (Nat.le_refl _) _
  have A8 := Lib.hid (A7.out.later hba)
  have TA8 : Hid (Tb (w7.alloc (.cells AZ 3)) H1 la) := (hba.block _ (Inf.lt_some TA7.out)).trans TA7.out
  have TB8 : Hid (Tb (w7.alloc (.cells AZ 3)) H2 lb) := (hba.block _ (Inf.lt_some TB7.out)).trans TB7.out
  have TO8 : Hid (Tb (w7.alloc (.cells AZ 3)) GO Inf.order) := (hba.block _ (Inf.lt_some TO7.out)).trans TO7.out
  have TS8 : Hid (Tb (w7.alloc (.cells AZ 3)) w7.heap.size (Inf.shf 0)) := by
    show (_ : World).heap[_]? = _
    rw [hAZ]
    exact heap_alloc_new _ _
  obtain ⟨GS, hGS⟩ : ∃ GS, GS = w7.heap.size := ⟨_, rfl⟩
  have HGS : Hid (wa.heap.size ≤ GS) := by rw [hGS]; exact A7.out.kp.size
  have HNE : Hid (H1 ≠ GS ∧ H2 ≠ GS ∧ GO ≠ GS) := by
    rw [hGS]
    exact ⟨Nat.ne_of_lt (Inf.lt_some TA7.out), Nat.ne_of_lt (Inf.lt_some TB7.out), Nat.ne_of_lt (Inf.lt_some TO7.out)⟩
  rw [← hGS] at TS8
  clear hAZ hba
  go_wp2_with fail
  rw [← hGS]
  generalize w7.alloc (.cells AZ 3) = w8 at *
  clear hmk A7 TA7 TB7 TO7 hGS
  go_loopw [12] (fun v12 wr => ∃ (i q V1 : Nat), i ≤ 19 ∧ v12 = .int .i64 (i : Int) ∧ Iw w0 wa wr g q V1 ∧ Tb wr GS (Inf.shf i) ∧ Tb wr GO Inf.order ∧ Tb wr H1 la ∧ Tb wr H2 lb ∧ Inf.Sho Inf.sh i (N + 14) V0 q V1) (fun v12 _ => (19 - intOf v12).toNat)
  case atStart => exact ⟨0, N + 14, V0, by omega, rfl, A8.out, TS8.out, TO8.out, TA8.out, TB8.out, Inf.Sho.nil A8.out.lt⟩
  case round =>
    clear A8 TS8 TO8 TA8 TB8
    obtain ⟨i, q, V1, hi, rfl, hs, hts, hto, hta, htb, hsh⟩ := hrel
    by_cases hlt : i < 19
    · have d1 : decide (i < 19) = true := decide_eq_true hlt
      have d1' : decide ((i : Int) < 19) = true := decide_eq_true (by omega)
      have HI : Hid (i < 19) := hlt
      have hiI : (i : Int) < 19 := by omega
      have co := hto.cell (show i < 19 from hlt)
      obtain ⟨x, hx⟩ : ∃ x, x = Inf.order.getD i 0 := ⟨_, rfl⟩
      have hx19 : x < 19 := by rw [hx]; exact (Inf.ord_a i hlt).2
      have HAT := Lib.hid (Inf.shf_at i hlt)
      have HSF : Hid (Inf.shf (i + 1) = if x < 16 then (Inf.shf i).set x 4 else Inf.shf i) := by unfold Hid; rw [Inf.shf, ← hx]
      rw [← hx] at co HAT
      have HX : Hid (x = Inf.order.getD i 0) := hx
      have hx19' : (x : Int) < 19 := by omega
      have cs := hts.cell (j := x) (by rw [Inf.shf_len]; exact hx19)
      have fs : wr.frozen? ⟨GS, x, none⟩ = false := frozen_of_row _ _ _ _ _ hts
      have HQ : Hid (q = N + 14 + 3 * i) := hsh.le
      have HSH := Lib.hid hsh
      clear hi hlt hx
      by_cases hx16 : x < 16
      case' pos =>
        have d2 : decide (x < 16) = true := decide_eq_true hx16
        have d2' : decide ((x : Int) < 16) = true := decide_eq_true (by omega)
        have Z1 := Lib.hid (hs.set_new HL0.out HGS.out hts x (.int .i64 4))
        have Z2 : Hid (Tb (wr.setCell ⟨GS, x, none⟩ (.int .i64 4)) GS (Inf.shf (i + 1))) := by
          unfold Hid
          rw [HSF.out, if_pos hx16]
          exact hts.set x 4
        have Z3 := Lib.hid (hto.off HNE.out.2.2 x (.int .i64 4))
        have Z4 := Lib.hid (hta.off HNE.out.1 x (.int .i64 4))
        have Z5 := Lib.hid (htb.off HNE.out.2.1 x (.int .i64 4))
        have co2 := Z3.out.cell (show i < 19 from HI.out)
        rw [← HX.out] at co2
        have cs2 := Z2.out.cell (j := x) (by rw [Inf.shf_len]; exact hx19)
        clear hs hts hto hta htb hsh hx16
        rw [HAT.out.1] at cs2
        have hy4 := HAT.out.2
        have HPT := Lib.hid (Z1.out.put (Inf.sh.getD x 0) 3 (by omega) (by omega) (Nat.lt_of_le_of_lt hy4 (by decide)) (by have := HQ.out; have := HN.out; have := HI.out; omega))
        obtain ⟨y, hy⟩ : ∃ y, y = Inf.sh.getD x 0 := ⟨_, rfl⟩
        rw [← hy] at cs2 HPT hy4
        have HY := Lib.hid hy
        have hwy : IntKind.u32.wrap (y : Int) = (y : Int) := by rw [IntKind.wrap_u32]; omega
        clear hy hx19 HAT HSF
        go_wp2_with fail
        refine HPT.out.mono ?_
      case' neg =>
        have d2 : decide (x < 16) = false := decide_eq_false hx16
        have d2' : decide ((x : Int) < 16) = false := decide_eq_false (by omega)
        have Z1 := Lib.hid hs
        have Z2 : Hid (Tb wr GS (Inf.shf (i + 1))) := by
          unfold Hid
          rw [HSF.out, if_neg hx16]
          exact hts
        have Z3 := Lib.hid hto
        have Z4 := Lib.hid hta
        have Z5 := Lib.hid htb
        have cs2 := Z2.out.cell (j := x) (by rw [Inf.shf_len]; exact hx19)
        clear hs hts hto hta htb hsh hx16 cs
        rw [HAT.out.1] at cs2
        have hy4 := HAT.out.2
        have HPT := Lib.hid (Z1.out.put (Inf.sh.getD x 0) 3 (by omega) (by omega) (Nat.lt_of_le_of_lt hy4 (by decide)) (by have := HQ.out; have := HN.out; have := HI.out; omega))
        obtain ⟨y, hy⟩ : ∃ y, y = Inf.sh.getD x 0 := ⟨_, rfl⟩
        rw [← hy] at cs2 HPT hy4
        have HY := Lib.hid hy
        have hwy : IntKind.u32.wrap (y : Int) = (y : Int) := by rw [IntKind.wrap_u32]; omega
        clear hy hx19 HAT HSF
        go_wp2_with fail
        refine HPT.out.mono ?_
      all_goals
        rintro en w9 ⟨rfl, g1, g2⟩
        have F1 := Lib.hid g1
        have F2 := Lib.hid (Z2.out.iw Z1.out g2)
        have F3 := Lib.hid (Z3.out.iw Z1.out g2)
        have F4 := Lib.hid (Z4.out.iw Z1.out g2)
        have F5 := Lib.hid (Z5.out.iw Z1.out g2)
        have F6 : Hid (Inf.Sho Inf.sh (i + 1) (N + 14) V0 (q + 3) (V1 + y * 2 ^ q)) := HSH.out.snoc (by omega) (by rw [HY.out, HX.out])
        clear g1 g2 HPT Z1 Z2 Z3 Z4 Z5
        go_wp2
        exact ⟨⟨i + 1, _, _, by have := HI.out; omega, by go_num, F1.out, F2.out, F3.out, F4.out, F5.out, F6.out⟩, by have := HI.out; simp [intOf]; omega⟩
    · have d1 : decide (i < 19) = false := decide_eq_false hlt
      have d1' : decide ((i : Int) < 19) = false := decide_eq_false (by omega)
      obtain rfl : i = 19 := by omega
      rw [Inf.shf_end] at hts
      have A9 := Lib.hid hs
      have TS9 := Lib.hid hts
      have TA9 := Lib.hid hta
      have TB9 := Lib.hid htb
      have SH9 := Lib.hid hsh
      have HC := Lib.hid (codes_any (some ⟨GS, 0, none⟩) 19 19 (Inf.lf Inf.sh) wr (Irow.ofNv hts rfl).1 (by omega))
      clear hs hts hto hta htb hsh hi hlt
      go_wp2_with fail
      refine HC.out.mono ?_
      rintro en wb ⟨g1, ⟨-, GC, -, g2, rfl⟩ | ⟨g2, -⟩⟩
      case inr => exact absurd Inf.sh_mk g2
      have AB := Lib.hid (A9.out.later g1)
      have DB : Hid (Dn wb GS H1 H2 GC la lb) := ⟨(g1.block _ (Inf.lt_some TS9.out)).trans TS9.out, (g1.block _ (Inf.lt_some TA9.out)).trans TA9.out, (g1.block _ (Inf.lt_some TB9.out)).trans TB9.out, Irow.ofKi g2⟩
      clear g1 g2 HC A9 TS9 TA9 TB9
      go_wp2_with fail
      have HQ9 : Hid (q = N + 14 + 3 * 19) := SH9.out.le
      go_loopw [15] (fun v15 wr => ∃ (i q2 V2 : Nat), i ≤ 286 ∧ v15 = .int .i64 (i : Int) ∧ Iw w0 wa wr g q2 V2 ∧ Dn wr GS H1 H2 GC la lb ∧ Inf.LGo Inf.sh 316 q V1 q2 V2 [] (la.take i) ∧ q2 ≤ q + 4 * i) (fun v15 _ => (286 - intOf v15).toNat)
      case atStart => exact ⟨0, q, V1, by omega, rfl, AB.out, DB.out, by rw [List.take_zero]; exact Inf.LGo.refl AB.out.lt _, by omega⟩
      case round =>
        clear AB DB
        obtain ⟨i, q2, V2, hi, rfl, hs, hd, hlg, hq2⟩ := hrel
        have HLG := Lib.hid hlg
        have HQ2 := Lib.hid hq2
        by_cases hlt : i < 286
        · have d1 : decide (i < 286) = true := decide_eq_true hlt
          have d1' : decide ((i : Int) < 286) = true := decide_eq_true (by omega)
          have HI : Hid (i < 286) := hlt
          have hiI : (i : Int) < 286 := by omega
          have hil : i < la.length := by rw [LA.out.1]; exact hlt
          have cA := hd.ta.cell hil
          have HTK := Lib.hid (Inf.take_next la i hil)
          obtain ⟨s, hsv⟩ : ∃ s, s = la.getD i 0 := ⟨_, rfl⟩
          have hs15 : s ≤ 15 := by rw [hsv]; exact Inf.mk_le LA.out.2.1 hil
          rw [← hsv] at cA HTK
          have HCA := Lib.hid (wcode_any Inf.sh Inf.sh_mk s 4 (by rw [Inf.sh_len]; omega) (Inf.sh_four s (by omega)) (by omega) (some ⟨GS, 0, none⟩) 19 19 (some ⟨GC, 0, none⟩) 19 19 w0 wa wr g q2 V2 hs (by have := HN.out; have := HQ9.out; omega) rfl rfl (Irow.ofNv hd.ts rfl) hd.cc)
          have HS := Lib.hid hs
          have HD := Lib.hid hd
          have HS15 : Hid (s < 16) := by unfold Hid; omega
          clear hi hlt hil hsv hs hd hlg hq2
          go_wp2_with fail
          refine HCA.out.mono ?_
          rintro en w9 ⟨rfl, V3, g1, g2, g3⟩
          have F1 := Lib.hid g2
          have F2 := Lib.hid (HD.out.iw HS.out g3)
          have F3 : Hid (Inf.LGo Inf.sh 316 q V1 (q2 + 4) V3 [] (la.take (i + 1))) := by
            unfold Hid
            rw [HTK.out]
            exact HLG.out.trans (Inf.LGo.one g1 HS15.out)
          clear g1 g2 g3 HCA HS HD
          go_wp2
          exact ⟨⟨i + 1, _, _, by have := HI.out; omega, by go_num, F1.out, F2.out, F3.out, by have := HQ2.out; omega⟩, by have := HI.out; simp [intOf]; omega⟩
        · have d1 : decide (i < 286) = false := decide_eq_false hlt
          have d1' : decide ((i : Int) < 286) = false := decide_eq_false (by omega)
          obtain rfl : i = 286 := by omega
          rw [List.take_of_length_le (by rw [LA.out.1]; omega)] at hlg
          have HLA := Lib.hid hlg
          have AC := Lib.hid hs
          have DC := Lib.hid hd
          clear hi hlt hs hd hlg hq2 HLG
          go_wp2_with fail
          go_loopw [16] (fun v16 wr => ∃ (i q3 V3 : Nat), i ≤ 30 ∧ v16 = .int .i64 (i : Int) ∧ Iw w0 wa wr g q3 V3 ∧ Dn wr GS H1 H2 GC la lb ∧ Inf.LGo Inf.sh 316 q V1 q3 V3 [] (la ++ lb.take i) ∧ q3 ≤ q + 4 * 286 + 4 * i) (fun v16 _ => (30 - intOf v16).toNat)
          case atStart => exact ⟨0, q2, V2, by omega, rfl, AC.out, DC.out, by rw [List.take_zero, List.append_nil]; exact HLA.out, by have := HQ2.out; omega⟩
          case round =>
            clear AC DC
            obtain ⟨i, q3, V3, hi, rfl, hs, hd, hlg, hq3⟩ := hrel
            have HLG := Lib.hid hlg
            have HQ3 := Lib.hid hq3
            by_cases hlt : i < 30
            · have d1 : decide (i < 30) = true := decide_eq_true hlt
              have d1' : decide ((i : Int) < 30) = true := decide_eq_true (by omega)
              have HI : Hid (i < 30) := hlt
              have hiI : (i : Int) < 30 := by omega
              have hil : i < lb.length := by rw [LB.out.1]; exact hlt
              have cA := hd.tb.cell hil
              have HTK := Lib.hid (Inf.take_next lb i hil)
              obtain ⟨s, hsv⟩ : ∃ s, s = lb.getD i 0 := ⟨_, rfl⟩
              have hs15 : s ≤ 15 := by rw [hsv]; exact Inf.mk_le LB.out.2.1 hil
              rw [← hsv] at cA HTK
              have HCA := Lib.hid (wcode_any Inf.sh Inf.sh_mk s 4 (by rw [Inf.sh_len]; omega) (Inf.sh_four s (by omega)) (by omega) (some ⟨GS, 0, none⟩) 19 19 (some ⟨GC, 0, none⟩) 19 19 w0 wa wr g q3 V3 hs (by have := HN.out; have := HQ9.out; omega) rfl rfl (Irow.ofNv hd.ts rfl) hd.cc)
              have HS := Lib.hid hs
              have HD := Lib.hid hd
              have HS15 : Hid (s < 16) := by unfold Hid; omega
              clear hi hlt hil hsv hs hd hlg hq3
              go_wp2_with fail
              refine HCA.out.mono ?_
              rintro en w9 ⟨rfl, V4, g1, g2, g3⟩
              have F1 := Lib.hid g2
              have F2 := Lib.hid (HD.out.iw HS.out g3)
              have F3 : Hid (Inf.LGo Inf.sh 316 q V1 (q3 + 4) V4 [] (la ++ lb.take (i + 1))) := by
                unfold Hid
                rw [HTK.out, ← List.append_assoc]
                exact HLG.out.trans (Inf.LGo.one g1 HS15.out)
              clear g1 g2 g3 HCA HS HD
              go_wp2
              refine ⟨⟨_, _, _, _, _, _, _, _, _, _, _, _, _, ?_, rfl⟩, ?_⟩
              · exact ⟨i + 1, _, _, by have := HI.out; omega, by go_num, F1.out, F2.out, F3.out, by have := HQ3.out; omega⟩
              · have := HI.out; simp [intOf]; omega
            · have d1 : decide (i < 30) = false := decide_eq_false hlt
              have d1' : decide ((i : Int) < 30) = false := decide_eq_false (by omega)
              obtain rfl : i = 30 := by omega
              rw [List.take_of_length_le (by rw [LB.out.1]; omega)] at hlg
              have HLF := Lib.hid hlg
              have HPC := Lib.hid (wpieces_any la lb LA.out.2.1 LB.out.2.1 (some ⟨H1, 0, none⟩) 286 286 (some ⟨H2, 0, none⟩) 30 30 ap np cp l w0 wa wr g q3 V3 T T' hs (by have := HN.out; have := HQ9.out; omega) LA.out.1.symm LB.out.1.symm (Irow.ofNv hd.ta LA.out.1) (Irow.ofNv hd.tb LB.out.1) HP.out HNP.out HNL.out HOK.out CV.out.1 CV.out.2 HEX.out)
              clear hi hlt hs hd hlg hq3 HLG
              go_wp2_with fail
              refine HPC.out.mono ?_
              rintro en w9 ⟨rfl, m1, W1, m2, W2, g1, g2, g3, g4, g5⟩
              have F1 := Lib.hid g1
              have F2 := Lib.hid g2
              have F3 := Lib.hid g3
              have F5 : Hid (m2 ≤ N + 2000 + 48 * l.length) := by have := HQ9.out; have := HQ3.out; unfold Hid; omega
              clear g1 g2 g3 g4 g5 HPC
              go_wp2
              go_returns
              have e1 : (la ++ lb).take (257 + 29) = la := List.take_left' LA.out.1
              have e2 : (la ++ lb).drop (257 + 29) = lb := List.drop_left' LA.out.1
              obtain ⟨k1, k2, k3⟩ := Inf.dyn_put (hl := 29) (hd := 29) (hc := 15) (S := Inf.sh) (A := la ++ lb) (T := T) (T1 := T') HA.out.lt (by omega) (by omega) (by omega) Inf.sh_len Inf.sh_mk (by rw [← HV0.out]; exact SH9.out) (fun i h1 h2 => by omega) HLF.out (by rw [List.length_append, LA.out.1, LB.out.1]) (by
                rw [List.getD_eq_getElem?_getD, List.getElem?_append_left (by rw [LA.out.1]; omega), ← List.getD_eq_getElem?_getD]
                have := CV.out.2
                omega) (by rw [e1]; exact LA.out.2.1) (by rw [e2]; exact LB.out.2.1) (by rw [e1, e2]; exact F1.out) (by rw [e1]; exact F2.out)
              exact ⟨rfl, m2, W2, F3.out, k1, k2, F5.out, k3⟩
end Go.Proofs.YteajjanjkhhgdaaDoor
