/- The walk of the law LzBack: pieces of any bytes say them. -/
import Derived.Test.YtiglbjfieeicpaaLzAwake
import Derived.Test.YtiglbjfieeicpaaLzSameP
import Derived.Test.YtiglbjfieeicpaaKitSame
import Derived.Test.YtiglbjfieeicpaaKitLent
import Derived.Test.YtiglbjfieeicpaaKitRoomApP
namespace Go.Proofs.Ytiglbjfieeicpaa
open Go.RowKit Go
open Lz (Pc)

theorem Ex.bytesB {w0 w : World} {v : Value} {t : List Int} (h : Ex w0 w v t) : BytesIn w v t (fun _ => True) := (own_bytes h.own).mono (Nat.le_refl _) (fun _ _ _ => trivial) (fun _ _ _ _ => rfl)
theorem PaS.pcsB {w0 w : World} {v : Value} {L : List Pc} (h : PaS w0 w v L) : PcsIn w v L (fun _ => True) := (own_pieces h.own).1.mono (Nat.le_refl _) (fun _ _ _ => trivial) (fun _ _ _ _ => rfl)
/-- two rows of pieces of the call's own, one behind the other, lie apart -/
theorem two_apartP (w1 w2 w3 wx : World) (v1 v2 : Value) (t1 t2 : List Pc) (h1 : PaS w1 w2 v1 t1) (h2 : PaS w2 w3 v2 t2) (hx : Below w3.heap.size w3 wx) (hl1 : t1.length ≤ 1000000) (hl2 : t2.length ≤ 1000000) :
    Calls Try.prog 22 #[.slice (some ⟨wx.heap.size, 0, none⟩) 2 2] (wx.alloc (.cells #[v1, v2] 22)) fun e w' => e = .returned (.bool true) ∧ Below w1.heap.size wx w' := by
  have h1x : PaS w1 wx v1 t1 := (h1.later (below_gb (gb_below h2.bel none))).later hx
  have h2x : PaS w2 wx v2 t2 := h2.later hx
  have hs12 := h1.bel.size
  have hs23 := h2.bel.size
  have hs3 := hx.size
  have hlt1 : ∀ b, v1.ownBlock = some b → w1.heap.size ≤ b ∧ b < w2.heap.size := fun b hb => ⟨(h1.own.lt b hb).1, (h1.own.lt b hb).2⟩
  have hlt2 : ∀ b, v2.ownBlock = some b → w2.heap.size ≤ b ∧ b < w3.heap.size := fun b hb => ⟨(h2.own.lt b hb).1, (h2.own.lt b hb).2⟩
  have key : Rl 22 35 3 (wx.alloc (.cells #[v1, v2] 22)) (wx.alloc (.cells #[v1, v2] 22)) w1.heap.size wx.heap.size 2 (fun k => if k = 0 then v1 else v2) (fun k => if k = 0 then t1.length else t2.length) (fun k => pk (if k = 0 then t1 else t2)) := by
    refine ⟨Onl.refl _ _, by simp; omega, ⟨_, heap_alloc_new _ _, fun k hk => ?_⟩, fun k hk => ?_, fun j k hj hk hjk b hb hb' => ?_, fun k hk => ?_, by decide, fun k hk b hb => ?_⟩
    · have : k = 0 ∨ k = 1 := by omega
      rcases this with rfl | rfl <;> rfl
    · have : k = 0 ∨ k = 1 := by omega
      rcases this with rfl | rfl
      · exact h1x.own.alloc _
      · exact own_base (h2x.own.alloc _) (by omega)
    · have h3 : j = 0 ∧ k = 1 ∨ j = 1 ∧ k = 0 := by omega
      rcases h3 with ⟨rfl, rfl⟩ | ⟨rfl, rfl⟩
      · have := hlt1 b hb
        have := hlt2 b hb'
        omega
      · have := hlt2 b hb
        have := hlt1 b hb'
        omega
    · have : k = 0 ∨ k = 1 := by omega
      rcases this with rfl | rfl
      · exact hl1
      · exact hl2
    · have : k = 0 ∨ k = 1 := by omega
      have hsz : (wx.alloc (.cells #[v1, v2] 22)).heap.size = wx.heap.size + 1 := by simp
      rw [hsz]
      rcases this with rfl | rfl
      · have := hlt1 b hb; omega
      · have := hlt2 b hb; omega
  refine (apart_any _ w1.heap.size wx.heap.size 2 2 _ _ _ (by omega) key).mono ?_
  rintro e w' ⟨rfl, ho⟩
  refine ⟨rfl, ((Below.refl _ _).alloc (by omega) _).trans (ho.below (by simp; omega) (fun b hb => ?_))⟩
  obtain ⟨k, hk, hb⟩ := hb
  have : k = 0 ∨ k = 1 := by omega
  rcases this with rfl | rfl
  · exact (hlt1 b hb).1
  · have := (hlt2 b hb).1; omega
/-- what stands in the way of a piece -/
theorem prs_cons {b : List Int} {k t : Nat} {p : Pc} {r : List Pc} (h : p :: r = Lz.prs b k t) :
    ∃ k', k = k' + 1 ∧ t < b.length ∧ ((p = ⟨b.getD t 0, 0, 0⟩ ∧ r = Lz.prs b k' (t + 1)) ∨ ∃ m1 m2, Lz.Good b t (m1, m2) ∧ p = ⟨0, (m1 : Nat), (m2 : Nat)⟩ ∧ r = Lz.prs b k' (t + m1)) := by
  cases k with
  | zero => cases h
  | succ k' =>
    rw [Lz.prs] at h
    by_cases ht : t < b.length
    · rw [if_pos ht] at h
      by_cases ha : Lz.alone b t
      · rw [if_pos ha] at h
        injection h with h1 h2
        exact ⟨k', rfl, ht, .inl ⟨h1, h2⟩⟩
      · rw [if_neg ha] at h
        injection h with h1 h2
        exact ⟨k', rfl, ht, .inr ⟨_, _, Lz.lng_pos (fun e => ha (Or.inl e)), h1, h2⟩⟩
    · rw [if_neg ht] at h; cases h
theorem prs_nil {b : List Int} {k t : Nat} (hk : b.length - t ≤ k) (ht : t ≤ b.length) (h : [] = Lz.prs b k t) : t = b.length := by
  cases k with
  | zero => omega
  | succ k' =>
    rw [Lz.prs] at h
    by_cases hlt : t < b.length
    · rw [if_pos hlt] at h
      split at h <;> cases h
    · omega
set_option maxRecDepth 100000 in
set_option maxHeartbeats 8000000 in
theorem back_walk (a : Option Addr) (n cap : Nat) (B : List Int) (w : World) (hn : n = B.length) (hB : BytesIn w (.slice a n cap) B (fun _ => True)) (hb : ∀ x ∈ B, 0 ≤ x ∧ x < 256) (hna : a = none → cap = 0) (hs : n ≤ 140737488351232) :
    Calls Try.prog 5 #[.slice a n cap] w fun e w' => e = .returned (.bool true) ∧ Below w.heap.size w w' := by
  have HAW := Lib.hid awake_any
  have HN := Lib.hid hn; have HB := Lib.hid hB; have HA := Lib.hid hna
  have HY : Hid (Lz.Byt B) := hb
  clear hn hB hb hna
  by_cases h12 : n ≤ 12000
  · have hd1 : decide ((12000 : Int) < (n : Int)) = false := by simp; omega
    have HL : Hid (n ≤ 12000) := h12
    clear h12
    go_enter Try.func5, Try.ntmps5
    go_wp2_with fail
    refine (HAW.out w).mono ?_
    rintro e w0 ⟨rfl, hb0⟩
    have HB0 := Lib.hid hb0
    clear hb0
    have HLT := Lib.hid (lent_any B a n cap w0 HN.out (later_bytes HB0.out HB.out) HA.out (by have := HL.out; omega))
    go_wp2_with fail
    refine HLT.out.mono ?_
    rintro e w1 ⟨v1, g, rfl, hlp, hg, hb1⟩
    obtain ⟨c3, hv1⟩ : ∃ c3, v1 = .slice (some ⟨g, 0, none⟩) n c3 := by
      obtain ⟨c3, C, e, -⟩ := hlp.blk
      exact ⟨c3, by rw [e, HN.out]⟩
    subst hv1
    have HP1 : Hid (BytesIn w1 (.slice (some ⟨g, 0, none⟩) n c3) B (fun _ => True)) := hlp.bytes.mono (Nat.le_refl _) (fun _ _ _ => trivial) (fun _ _ _ _ => rfl)
    have HLP := Lib.hid hlp
    have HB1 : Hid (Below w.heap.size w w1) := HB0.out.trans (hb1.mono HB0.out.size)
    clear hlp hg hb1 HLT HB0
    obtain ⟨z, hz⟩ : ∃ z, z = (Lz.par B).length := ⟨_, rfl⟩
    have HZ := Lib.hid hz
    have HZN : Hid (z ≤ n) := by unfold Hid; rw [hz, HN.out]; exact Lz.par_length B
    have HPR : Hid (∀ wx, BytesIn wx (.slice (some ⟨g, 0, none⟩) n c3) B (fun _ => True) → Calls Try.prog 18 #[.slice (some ⟨g, 0, none⟩) n c3] wx fun e w' => ∃ ad cp, e = .returned (.slice ad z cp) ∧ PaS wx w' (.slice ad z cp) (Lz.par B)) := fun wx hp => by
      refine (par_any B _ n c3 wx HN.out (by have := HL.out; omega) hp HY.out).mono ?_
      rintro e w' ⟨v, rfl, h1⟩
      obtain ⟨ad, cp, rfl⟩ := h1.form
      rw [← hz] at h1 ⊢
      exact ⟨ad, cp, rfl, h1⟩
    clear hz
    have HX1 := Lib.hid (HPR.out w1 HP1.out)
    go_wp2_with fail
    refine HX1.out.mono ?_
    rintro e w2 ⟨ad2, cp2, rfl, hx2⟩
    have HE2 := Lib.hid hx2
    have HX2 := Lib.hid (HPR.out w2 (later_bytes hx2.bel HP1.out))
    clear hx2 HX1
    go_wp2_with fail
    refine HX2.out.mono ?_
    rintro e w3 ⟨ad3, cp3, rfl, hx3⟩
    have HE3 := Lib.hid hx3
    have HB13 : Hid (Below w1.heap.size w1 w3) := HE2.out.bel.trans (hx3.bel.mono HE2.out.bel.size)
    have HB3 : Hid (Below w.heap.size w w3) := HB1.out.trans (HB13.out.mono HB1.out.size)
    have HE23 : Hid (PaS w1 w3 (.slice ad2 z cp2) (Lz.par B)) := HE2.out.later hx3.bel
    clear hx3 HX2 HPR
    have HK := Lib.hid (kept_any B g _ a n cap w3 HN.out (later_bytes HB3.out HB.out) (by have := HL.out; omega) (HLP.out.keep (HB13.out.block _ (by obtain ⟨c, C, -, -, -, h, -⟩ := HLP.out.blk; exact lt_of_block h))))
    go_wp2_with fail
    refine HK.out.mono ?_
    rintro e w4 ⟨rfl, hd4⟩
    have HD4 := Lib.hid hd4
    have HSP := Lib.hid (samep_any (Lz.par B) ad2 z cp2 ad3 cp3 w4 HZ.out (by have := HZN.out; have := HL.out; omega) (HE23.out.pcsB.later (hd4.below _)) (HE3.out.pcsB.later (hd4.below _)))
    clear hd4 HK
    go_wp2_with fail
    refine HSP.out.mono ?_
    rintro e w5 ⟨rfl, hd5⟩
    have HD5 : Hid (Drawn w3 w5) := by
      obtain ⟨m4, h4⟩ := HD4.out
      obtain ⟨m5, h5⟩ := hd5
      exact ⟨m4 + m5, by rw [h5, h4]; simp only [World.drewN, Nat.add_assoc]⟩
    have hzn : decide (n < z) = false := by have := HZN.out; simp; omega
    clear hd5 HSP HD4
    go_wp2_with fail
    clear hzn
    go_loopw [6, 7] (fun v6 v7 wr => ∃ i t k : Nat, i ≤ z ∧ t ≤ n ∧ n - t ≤ k ∧ v7 = .int .i64 (i : Int) ∧ v6 = .int .i64 (t : Int) ∧ (Lz.par B).drop i = Lz.prs B k t ∧ Drawn w3 wr) (fun _ v7 _ => (z - intOf v7).toNat)
    case atStart => exact ⟨0, 0, n, by omega, by omega, by omega, rfl, rfl, by rw [List.drop_zero, HN.out]; rfl, HD5.out⟩
    case round =>
      clear HD5
      obtain ⟨i, t, k, hi, ht, hk, rfl, rfl, hdr, hd⟩ := hrel
      have HD := Lib.hid hd
      have HDR := Lib.hid hdr
      clear hd hdr
      have HPW : Hid (PcsIn wr (.slice ad2 z cp2) (Lz.par B) (fun _ => True)) := HE23.out.pcsB.later (HD.out.below _)
      have HBW : Hid (BytesIn wr (.slice a n cap) B (fun _ => True)) := later_bytes (HB3.out.trans (HD.out.below _)) HB.out
      have hl := HL.out
      by_cases hlt : i < z
      · obtain ⟨p, hp⟩ : ∃ p, (Lz.par B)[i]? = some p := ⟨_, List.getElem?_eq_getElem (by have := HZ.out; omega)⟩
        have hcons : p :: (Lz.par B).drop (i + 1) = Lz.prs B k t := by
          rw [← HDR.out]
          have hil : i < (Lz.par B).length := by have := HZ.out; omega
          rw [List.drop_eq_getElem_cons hil]
          rw [List.getElem?_eq_getElem hil] at hp
          rw [Option.some.inj hp]
        have HPI := Lib.hid hp
        obtain ⟨s, o, rfl, -, c0, c1, c2⟩ := HPW.out.at hp
        obtain ⟨k', rfl, htn, hcase⟩ := prs_cons hcons
        rw [← HN.out] at htn
        have hzI : (z : Int) ≤ 12000 := by have := HZN.out; omega
        have hdi : decide (i < z) = true := decide_eq_true hlt
        clear hp hcons HDR
        rcases hcase with ⟨rfl, hr⟩ | ⟨m1, m2, hgood, rfl, hr⟩
        · have HR := Lib.hid hr
          clear hr
          obtain ⟨s', o', rfl, x0⟩ : ∃ s o, a = some ⟨s, o, none⟩ ∧ wr.cell? ⟨s, o + t, none⟩ = some (.int .u8 (B.getD t 0)) := by
            obtain ⟨a', cap', e, _, _, hc⟩ := HBW.out
            injection e with e1 _ _
            obtain ⟨s, o, e2, _, _, hc⟩ := hc (by have := HN.out; omega)
            exact ⟨s, o, e1.trans e2, hc t (by have := HN.out; omega)⟩
          generalize B.getD t 0 = x at *
          obtain ⟨y, hy⟩ : ∃ y : Int, y = 1 := ⟨_, rfl⟩
          have hmax : ∀ (ts : Array TypeId) (ty : TypeId) (wx : World), (Builtin.max_ ts ty #[.int .i64 0, .int .i64 1]).run Try.prog wx = .ok (.int .i64 y) wx := fun ts ty wx => by
            rw [run_max_int2, hy]; rfl
          obtain ⟨t1, ht1⟩ : ∃ t1 : Nat, t1 = t + 1 := ⟨_, rfl⟩
          have hty : (t : Int) + y = (t1 : Int) := by omega
          have ht1n : decide (n < t1) = false := by simp; omega
          have ht1I : (t1 : Int) ≤ 12000 := by omega
          have htI : (t : Int) < (n : Int) := by omega
          have htD : decide (t < n) = true := decide_eq_true htn
          have HT1 := Lib.hid ht1
          have HTN := Lib.hid htn
          have HK := Lib.hid hk
          clear hy ht1 hk htn
          go_wp2_with fail
          go_quiet (fail)
          go_wp2_with fail
          have HDQ : Hid (Drawn w3 (wr.drewN nq)) := HD.out.drewN nq
          have q1 : (wr.drewN nq).cell? ⟨s, o + i * 3 + 1, none⟩ = some (.int .i64 0) := c1
          clear c0 c1 c2 x0 HD HPW HBW
          generalize wr.drewN nq = wq at *
          go_loopw [9] (fun v9 wr2 => v9 = .int .i64 0 ∧ wr2 = wq) (fun _ _ => 0)
          case atStart => exact ⟨rfl, rfl⟩
          case round =>
            obtain ⟨rfl, rfl⟩ := hrel
            go_wp2
            go_roundw
            case rel => exact ⟨i + 1, t1, k', by omega, by have := HT1.out; have := HTN.out; omega, by have := HT1.out; have := HK.out; omega, by congr 1, rfl, by rw [HT1.out]; exact HR.out, HDQ.out⟩
            case measure => simp [intOf]; omega
        · have HR := Lib.hid hr
          have HG := Lib.hid hgood
          have g0 := hgood.lo
          have g1 := hgood.hi
          have g2 := hgood.d1
          have g3 := hgood.d2
          have g4 := hgood.d3
          have g5 := hgood.le
          simp only at g0 g1 g2 g3 g4 g5
          rw [← HN.out] at g5
          clear hr hgood
          have hmax : ∀ (ts : Array TypeId) (ty : TypeId) (wx : World), (Builtin.max_ ts ty #[.int .i64 (m1 : Nat), .int .i64 1]).run Try.prog wx = .ok (.int .i64 (m1 : Nat)) wx := fun ts ty wx => by
            rw [run_max_int2]
            congr 2
            split <;> omega
          obtain ⟨mn, hmn⟩ : ∃ mn : Nat, mn = min t 32768 := ⟨_, rfl⟩
          have hmin : ∀ (ts : Array TypeId) (ty : TypeId) (wx : World), (Builtin.min_ ts ty #[.int .i64 (t : Nat), .int .i64 32768]).run Try.prog wx = .ok (.int .i64 (mn : Nat)) wx := fun ts ty wx => by
            rw [run_min_int2]
            congr 2
            split <;> omega
          obtain ⟨t1, ht1⟩ : ∃ t1 : Nat, t1 = t + m1 := ⟨_, rfl⟩
          have hty : (t : Int) + (m1 : Int) = (t1 : Int) := by omega
          have ht1n : decide (n < t1) = false := by simp; omega
          have ht1I : (t1 : Int) ≤ 12000 := by omega
          have hm0 : ((m1 : Int) == 0) = false := by simp; omega
          have e1 : decide ((m1 : Int) < 3) = false := by simp; omega
          have e2 : decide ((258 : Int) < (m1 : Int)) = false := by simp; omega
          have e3 : decide ((m2 : Int) < 1) = false := by simp; omega
          have e4 : decide (mn < m2) = false := by simp; omega
          have HT1 := Lib.hid ht1
          have HTN := Lib.hid htn
          have HK := Lib.hid hk
          have HM := Lib.hid (And.intro g0 (And.intro g1 (And.intro g2 (And.intro g3 (And.intro g4 g5)))))
          clear ht1 hk htn hmn g0 g1 g2 g3 g4 g5
          go_wp2_with fail
          clear e1 e2 e3 e4 hm0 hmin hmax c0 c1 c2 HPW HBW
          go_loopw [9] (fun v9 wr2 => ∃ u : Nat, u ≤ m1 ∧ v9 = .int .i64 (u : Int) ∧ Drawn w3 wr2) (fun v9 _ => (m1 - intOf v9).toNat)
          case atStart => exact ⟨0, by omega, rfl, HD.out⟩
          case round =>
            clear HD
            obtain ⟨u, hu, rfl, hd⟩ := hrel
            have HD := Lib.hid hd
            clear hd
            have HPW : Hid (PcsIn wr (.slice (some ⟨s, o, none⟩) z cp2) (Lz.par B) (fun _ => True)) := HE23.out.pcsB.later (HD.out.below _)
            have HBW : Hid (BytesIn wr (.slice a n cap) B (fun _ => True)) := later_bytes (HB3.out.trans (HD.out.below _)) HB.out
            obtain ⟨s', o', e', -, c0, c1, c2⟩ := HPW.out.at HPI.out
            cases e'
            have c1 : wr.cell? ⟨s, o + i * 3 + 1, none⟩ = some (.int .i64 (m1 : Nat)) := c1
            have c2 : wr.cell? ⟨s, o + i * 3 + 2, none⟩ = some (.int .i64 (m2 : Nat)) := c2
            clear c0
            by_cases hum : u < m1
            · obtain ⟨q, hq⟩ : ∃ q, q = t + u := ⟨_, rfl⟩
              obtain ⟨j, hj⟩ : ∃ j, j = q - m2 := ⟨_, rfl⟩
              obtain ⟨g0, g1, g2, g3, g4, g5⟩ := HM.out
              have hqI : (t : Int) + (u : Int) = (q : Int) := by omega
              have hjI : (q : Int) - (m2 : Int) = (j : Int) := by omega
              have hqn : q < n := by omega
              have hjn : j < n := by omega
              have hwq : IntKind.i64.wrap (q : Int) = (q : Int) := IntWalk.i64_in _ (by omega)
              have hwj : IntKind.i64.wrap (j : Int) = (j : Int) := IntWalk.i64_in _ (by omega)
              obtain ⟨sb, ob, rfl, b1, b2⟩ : ∃ s o, a = some ⟨s, o, none⟩ ∧ wr.cell? ⟨s, o + q, none⟩ = some (.int .u8 (B.getD q 0)) ∧ wr.cell? ⟨s, o + j, none⟩ = some (.int .u8 (B.getD j 0)) := by
                obtain ⟨a', cap', e, _, _, hc⟩ := HBW.out
                injection e with e1 _ _
                obtain ⟨s, o, e2, _, _, hc⟩ := hc (by have := HN.out; omega)
                exact ⟨s, o, e1.trans e2, hc q (by have := HN.out; omega), hc j (by have := HN.out; omega)⟩
              have hsame := HG.out.same u hum
              simp only at hsame
              rw [← hq, ← hj] at hsame
              rw [← hsame] at b2
              generalize B.getD q 0 = x at *
              have hdq : decide (q < n) = true := decide_eq_true hqn
              have hdj : decide (j < n) = true := decide_eq_true hjn
              have hdu : decide (u < m1) = true := decide_eq_true hum
              have HUM := Lib.hid hum
              have hm6 : (m1 : Int) ≤ 258 := by omega
              clear hq hj hum hsame g0 g1 g2 g3 g4 g5 hu
              go_wp2_with fail
              go_quiet (fail)
              go_wp2
              go_roundw
              case rel => exact ⟨u + 1, by have := HUM.out; omega, by congr 1, HD.out.drewN _⟩
              case measure => have := HUM.out; simp [intOf]; omega
            · obtain rfl : u = m1 := by omega
              have hdu : decide (u < u) = false := by simp
              clear hu hum
              go_wp2
              go_roundw
              case rel => exact ⟨i + 1, t1, k', by omega, by have := HT1.out; have := HM.out; omega, by have := HT1.out; have := HK.out; have := HM.out; omega, by congr 1, rfl, by rw [HT1.out]; exact HR.out, HD.out⟩
              case measure => simp [intOf]; omega
      · obtain rfl : i = z := by omega
        have hdr2 : [] = Lz.prs B k t := by
          rw [← HDR.out, List.drop_of_length_le (by rw [← HZ.out]; exact Nat.le_refl _)]
        have htn : t = n := by rw [HN.out]; exact prs_nil (by rw [← HN.out]; exact hk) (by rw [← HN.out]; exact ht) hdr2
        subst htn
        have hdz : decide (i < i) = false := by simp
        have HX : Hid (Calls Try.prog 10 #[.slice ad2 i cp2] wr fun e w' => ∃ ad' cp', e = .returned (.tuple #[.slice ad' t cp', .bool true]) ∧ Ex wr w' (.slice ad' t cp') B) := by
          refine (par_exp B w1 wr _ (HE23.out.later (HD.out.below _)) (by rw [← HN.out]; omega) HY.out).mono ?_
          rintro e w' ⟨v', rfl, h⟩
          obtain ⟨ad', cp', rfl⟩ := h.form
          rw [← HN.out] at h ⊢
          exact ⟨ad', cp', rfl, h⟩
        clear hdr2 hk ht hi hlt HDR
        go_wp2_with fail
        refine HX.out.mono ?_
        rintro e w6 ⟨ad6, cp6, rfl, hx6⟩
        have HB6 : Hid (Below w3.heap.size w3 w6) := (HD.out.below _).trans (hx6.bel.mono (HD.out.below w3.heap.size).size)
        have HBB : Hid (BytesIn w6 (.slice a t cap) B (fun _ => True)) := later_bytes (HB3.out.trans (HB6.out.mono HB3.out.size)) HB.out
        have HS := Lib.hid (same_any B a t cap ad6 cp6 w6 HN.out (by omega) HBB.out hx6.bytesB)
        have htt : ((t : Int) == (t : Int)) = true := by simp
        clear hx6 HX HPW HBW HD
        go_wp2_with fail
        refine HS.out.mono ?_
        rintro e w7 ⟨rfl, hd7⟩
        have HB7 : Hid (Below w3.heap.size w3 w7) := HB6.out.trans (hd7.below _)
        have HAP := Lib.hid (two_apartP w1 w2 w3 w7 _ _ (Lz.par B) (Lz.par B) HE2.out HE3.out HB7.out (by rw [← HZ.out]; have := HZN.out; omega) (by rw [← HZ.out]; have := HZN.out; omega))
        clear hd7 HS
        go_wp2_with fail
        refine HAP.out.mono ?_
        rintro e w8 ⟨rfl, hb8⟩
        go_wp2
        go_returns
        exact ⟨rfl, (HB3.out.trans (HB7.out.mono HB3.out.size)).trans (hb8.mono HB1.out.size)⟩
  · have hd1 : decide ((12000 : Int) < (n : Int)) = true := by simp; omega
    clear h12
    go_enter Try.func5, Try.ntmps5
    go_wp2_with fail
    refine (HAW.out w).mono ?_
    rintro e w1 ⟨rfl, hb1⟩
    go_wp2
    go_returns
    exact ⟨rfl, hb1⟩
end Go.Proofs.Ytiglbjfieeicpaa
