/- A writer of bits, and rows of numbers beside it. -/
import Derived.Test.YteajjanjkhhgdaaDoorIwBlk
import Derived.Test.YteajjanjkhhgdaaDoorInfRefT
namespace Go.Proofs.YteajjanjkhhgdaaDoor
open Go.RowKit Go

theorem Fro.kp {w w' : World} {g n V : Nat} {v : Value} (hv : Wr w g n V v) (h : Fro w w' g v.ownBlock) : Kp g w w' :=
  ⟨h.os, h.tape, h.output, h.size, fun k o h1 h2 h3 => (h.block k (Inf.lt_some h1) h2 (fun e => by
    obtain ⟨_, cur, hc⟩ := Inf.own_type hv.own e
    rw [h1] at hc
    injection hc with hc
    rw [hc] at h3
    simp [Inf.txt] at h3)).trans h1⟩
/-- a writer of a call's own, which has n bits, V; what else there was ahead stays -/
structure Iw (w0 w wz : World) (g n V : Nat) : Prop where
  bel : Below w0.heap.size w0 wz
  lo : w0.heap.size ≤ g
  wr : ∃ v, Wr wz g n V v
  kp : Kp g w wz
theorem Iw.row {w0 w wr : World} {g n V : Nat} (h : Iw w0 w wr g n V) : ∃ c, wr.heap[g]? = some (.cells c 77 (0, 0)) := by
  obtain ⟨v, hv⟩ := h.wr
  exact ⟨_, hv.row⟩
theorem Iw.lt {w0 w wr : World} {g n V : Nat} (h : Iw w0 w wr g n V) : V < 2 ^ n := by
  obtain ⟨v, hv⟩ := h.wr
  exact hv.lt
theorem Iw.later {w0 w wr w' : World} {g n V : Nat} (h : Iw w0 w wr g n V) (hb : Below wr.heap.size wr w') : Iw w0 w w' g n V := by
  obtain ⟨v, hv⟩ := h.wr
  exact ⟨h.bel.trans (hb.mono h.bel.size), h.lo, ⟨v, hv.later hb (Nat.le_refl _)⟩, h.kp.trans (Kp.below hb)⟩
theorem Iw.drawn {w0 w wr w' : World} {g n V : Nat} (h : Iw w0 w wr g n V) (hd : Drawn wr w') : Iw w0 w w' g n V := h.later (hd.below _)
theorem Iw.at_ {w0 w wr : World} {g n V : Nat} (h : Iw w0 w wr g n V) : Iw w0 wr wr g n V := ⟨h.bel, h.lo, h.wr, Kp.refl _ _⟩
theorem Iw.from {w0 w w1 wr : World} {g n V : Nat} (h : Iw w0 w1 wr g n V) (hk : Kp g w w1) : Iw w0 w wr g n V := ⟨h.bel, h.lo, h.wr, hk.trans h.kp⟩
theorem Iw.put {w0 w wr : World} {g n V : Nat} (h : Iw w0 w wr g n V) (x k : Nat) (hx : x < 4294967296) (hk : k ≤ 32) (hxk : x < 2 ^ k) (hn : n ≤ 1000000000) :
    Calls Tryd.prog 20 #[.pointer (some ⟨g, 0, none⟩), .int .u32 (x : Int), .int .i64 (k : Int)] wr fun e w' => e = .returned (.bool true) ∧ Iw w0 w w' g (n + k) (V + x * 2 ^ n) ∧ Kp g wr w' := by
  obtain ⟨v, hv⟩ := h.wr
  refine (put_any g n V x k v wr hv hx hk hn).mono ?_
  rintro e w' ⟨he, v', h1, h2, _⟩
  rw [Nat.mod_eq_of_lt hxk] at h1
  have hkp := h2.kp hv
  exact ⟨he, ⟨h2.below h.bel h.bel.size h.lo (hv.lo h.lo), h.lo, ⟨v', h1⟩, h.kp.trans hkp⟩, hkp⟩
/-- a row of numbers in a block of them -/
def Irow (w : World) (a : Option Addr) (m cap : Nat) (L : Nat → Int) : Prop := Ints w a m cap L ∧ (0 < m → ∃ s o cur, a = some ⟨s, o, none⟩ ∧ w.heap[s]? = some (.cells cur 3 (0, 0)))
theorem Irow.kp {w w' : World} {g : Nat} {c : Array Value} {a : Option Addr} {m cap : Nat} {L : Nat → Int} (h : Irow w a m cap L) (hk : Kp g w w') (hg : w.heap[g]? = some (.cells c 77 (0, 0))) : Irow w' a m cap L := by
  obtain ⟨h1, h2⟩ := h
  refine ⟨⟨h1.le, fun hm => ?_⟩, fun hm => ?_⟩
  · obtain ⟨s, o, e, h3, h4⟩ := h1.ad hm
    obtain ⟨s', o', cur, e', h5⟩ := h2 hm
    rw [e] at e'
    cases e'
    have h6 : w'.heap[s]? = w.heap[s]? := (hk.cells h5 (Inf.ne_ty h5 hg (by decide)) (by decide)).trans h5.symm
    exact ⟨s, o, e, Nat.lt_of_lt_of_le h3 hk.size, fun j hj => (World.cell?_of_block h6).trans (h4 j hj)⟩
  · obtain ⟨s', o', cur, e', h5⟩ := h2 hm
    exact ⟨s', o', cur, e', hk.cells h5 (Inf.ne_ty h5 hg (by decide)) (by decide)⟩
theorem Irow.iw {w0 w wr : World} {g n V : Nat} {a : Option Addr} {m cap : Nat} {L : Nat → Int} {w' : World} (h : Irow wr a m cap L) (hi : Iw w0 w wr g n V) (hk : Kp g wr w') : Irow w' a m cap L := by
  obtain ⟨c, hc⟩ := hi.row
  exact h.kp hk hc
theorem Irow.later {w w' : World} {a : Option Addr} {m cap : Nat} {L : Nat → Int} (h : Irow w a m cap L) (hb : Below w.heap.size w w') : Irow w' a m cap L :=
  ⟨h.1.later hb, fun hm => by
    obtain ⟨s', o', cur, e', h5⟩ := h.2 hm
    exact ⟨s', o', cur, e', (hb.block _ (Inf.lt_some h5)).trans h5⟩⟩
theorem Irow.ofKi {w : World} {G m : Nat} {L : Nat → Int} (h : w.heap[G]? = some (.cells (ki m L) 3 (0, 0))) : Irow w (some ⟨G, 0, none⟩) m m L :=
  ⟨⟨Nat.le_refl _, fun _ => ⟨G, 0, rfl, Inf.lt_some h, fun j hj => by rw [Nat.zero_add, cell_of_row _ _ _ _ _ _ h]; exact ki_get m L j hj⟩⟩, fun _ => ⟨G, 0, _, rfl, h⟩⟩
theorem Irow.ofNv {w : World} {G m : Nat} {l : List Nat} (h : w.heap[G]? = some (.cells (nv l).toArray 3 (0, 0))) (hm : l.length = m) : Irow w (some ⟨G, 0, none⟩) m m (Inf.lf l) :=
  ⟨⟨Nat.le_refl _, fun _ => ⟨G, 0, rfl, Inf.lt_some h, fun j hj => by
    have h' : Tb w G l := h
    rw [Nat.zero_add]
    exact h'.cell (by omega)⟩⟩, fun _ => ⟨G, 0, _, rfl, h⟩⟩
theorem Irow.own {w : World} {base m : Nat} {v : Value} {l : List Nat} (h : w.ownsRow base 3 1 v m (nv l)) (hl : l.length = m) : ∃ a cap, v = .slice a m cap ∧ Irow w a m cap (Inf.lf l) := by
  obtain ⟨a, cap, e, -, hI⟩ := Inf.own_nv h hl
  refine ⟨a, cap, e, hI, fun hm => ?_⟩
  subst e
  rcases h.2 with ⟨e, h0⟩ | ⟨s, cap', cur, e, q1, q2, _⟩
  · omega
  · cases e
    exact ⟨s, 0, cur, rfl, q2⟩
/-- one bit more of a code -/
theorem Inf.vl_put {V N t b : Nat} (hV : V < 2 ^ (N + t)) (hb : b < 2) : (V + b * 2 ^ (N + t)) % 2 ^ N = V % 2 ^ N ∧ Huf.vl (V + b * 2 ^ (N + t)) N (t + 1) = 2 * Huf.vl V N t + b := by
  have h1 : (V + b * 2 ^ (N + t)) % 2 ^ (N + t) = V % 2 ^ (N + t) := Nat.add_mul_mod_self_right ..
  refine ⟨?_, ?_⟩
  · rw [Nat.pow_add, ← Nat.mul_assoc, Nat.mul_right_comm, Nat.add_mul_mod_self_right]
  · rw [Huf.vl, Inf.vl_low h1 N t (Nat.le_refl _), Nat.add_mul_div_right _ _ (Nat.two_pow_pos _), Nat.div_eq_of_lt hV]
    omega
theorem Inf.and32_1 (a : Nat) (ha : a < 4294967296) : bits BinOp.and IntKind.u32 (a : Int) 1 = ((a % 2 : Nat) : Int) := by
  have e : bits BinOp.and IntKind.u32 (a : Int) 1 = IntKind.u32.wrap (((BitVec.ofInt 32 (a : Int)) &&& (BitVec.ofInt 32 1)).toNat : Int) := rfl
  rw [e, BitVec.toNat_and, BitVec.toNat_ofInt]
  have e1 : ((a : Int) % ((2 ^ 32 : Nat) : Int)).toNat = a := by omega
  rw [e1, show (BitVec.ofInt 32 1).toNat = 2 ^ 1 - 1 from by decide, Nat.and_two_pow_sub_one_eq_mod, IntKind.wrap_u32]
  omega

set_option maxRecDepth 100000 in
set_option maxHeartbeats 4000000 in
/-- a code is written, its highest bit first -/
theorem wcode_any (l : List Nat) (hm : Inf.Mk l) (s d : Nat) (hs : s < l.length) (hd : l.getD s 0 = d) (h0 : 0 < d) (a1 : Option Addr) (n1 c1 : Nat) (a2 : Option Addr) (n2 c2 : Nat) (w0 w wb : World) (g N V : Nat) (h : Iw w0 w wb g N V) (hN : N ≤ 10000000)
    (hn1 : n1 = l.length) (hn2 : n2 = l.length) (hI1 : Irow wb a1 n1 c1 (Inf.lf l)) (hI2 : Irow wb a2 n2 c2 (fun t => (Huf.code (Inf.lf l) l.length t : Nat))) :
    Calls Tryd.prog 54 #[.pointer (some ⟨g, 0, none⟩), .slice a1 n1 c1, .slice a2 n2 c2, .int .i64 (s : Int)] wb fun e w' => e = .returned (.tuple #[]) ∧ ∃ V', Inf.Sy l s N V (N + d) V' ∧ Iw w0 w w' g (N + d) V' ∧ Kp g wb w' := by
  obtain ⟨c, hc⟩ : ∃ c, c = Huf.code (Inf.lf l) l.length s := ⟨_, rfl⟩
  have hd15 : d ≤ 15 := by have := (hm.1.2 s hs).2; simp only [Inf.lf] at this; omega
  have hcd : c < 2 ^ d := by
    have := Inf.small hm hs (by omega)
    rw [hd] at this
    rw [hc]; exact this
  have hc6 : c < 65536 := Nat.lt_of_lt_of_le hcd (Nat.le_trans (Nat.pow_le_pow_right (by omega) hd15) (by decide))
  have HFIN : Hid (∀ V', V' % 2 ^ N = V → Huf.vl V' N d = c → V' < 2 ^ (N + d) → Inf.Sy l s N V (N + d) V') := fun V' g1 g2 g3 => Inf.Sy.of hm hs hd h0 (g2.trans hc) g1 g3
  have HC := Lib.hid hc6
  have HCD := Lib.hid hcd
  have HV0 : Hid (V % 2 ^ N = V) := Nat.mod_eq_of_lt h.lt
  have H0 : Hid (Iw w0 w wb g N V) := h
  have HN := Lib.hid hN
  have HD := Lib.hid hd15
  obtain ⟨s1, o1, rfl, -, k1⟩ := hI1.1.at_ (show s < n1 by omega)
  have k1' : wb.cell? ⟨s1, o1 + s, none⟩ = some (.int .i64 (d : Int)) := by rw [k1]; simp only [Inf.lf, hd]
  obtain ⟨s2, o2, rfl, -, -⟩ := hI2.1.at_ (show s < n2 by omega)
  have HK2 : Hid (∀ wx, Kp g wb wx → wx.cell? ⟨s2, o2 + s, none⟩ = some (.int .i64 (c : Int))) := fun wx hk => by
    obtain ⟨s', o', e, -, k2⟩ := (hI2.iw h hk).1.at_ (show s < n2 by omega)
    cases e
    rw [k2, hc]
  have hsn1 : (s : Int) < (n1 : Int) := by omega
  have hsn2 : (s : Int) < (n2 : Int) := by omega
  have d6 : (d : Int) ≤ 15 := by omega
  have c6 : (c : Int) < 65536 := by omega
  clear h hN hd hs hm hn1 hn2 hI1 hI2 k1 hc hd15 hc6 hcd h0
  go_enter Tryd.func54, Tryd.ntmps54
  go_wp2_with fail
  go_loopw [8] (fun v8 wr => ∃ (k t V' : Nat) (z : Int), k + t = d ∧ z = (k : Int) - 1 ∧ v8 = .int .i64 z ∧ V' % 2 ^ N = V ∧ Huf.vl V' N t = c / 2 ^ k ∧ Iw w0 w wr g (N + t) V' ∧ Kp g wb wr) (fun v8 _ => (intOf v8 + 1).toNat)
  case atStart => exact ⟨d, 0, V, _, by omega, rfl, rfl, HV0.out, by rw [Nat.div_eq_of_lt HCD.out]; rfl, H0.out, Kp.refl _ _⟩
  case round =>
    obtain ⟨k, t, V', z, hkt, hz, rfl, hm, hv, hs, hkp⟩ := hrel
    have HS := Lib.hid hs; clear hs
    have HM := Lib.hid hm; clear hm
    have HV := Lib.hid hv; clear hv
    have HKP := Lib.hid hkp; clear hkp
    by_cases hk : 0 < k
    · obtain ⟨j, rfl⟩ : ∃ j, k = j + 1 := ⟨k - 1, by omega⟩
      obtain rfl : z = (j : Int) := by omega
      clear hz
      have hdz : decide ((0 : Int) ≤ (j : Int)) = true := decide_eq_true (by omega)
      have j6 : (j : Int) ≤ 14 := by omega
      obtain ⟨x, hx⟩ : ∃ x, x = c / 2 ^ j := ⟨_, rfl⟩
      have hxI : (c : Int) / 2 ^ j = (x : Int) := by rw [hx]; simp
      have hx5 : x < 65536 := by rw [hx]; exact Nat.lt_of_le_of_lt (Nat.div_le_self _ _) HC.out
      have x6 : (x : Int) < 65536 := by omega
      have hand := Inf.and32_1 x (by omega)
      have hc2 := HK2.out _ HKP.out
      have HPUT := Lib.hid (HS.out.put (x % 2) 1 (by omega) (by omega) (by omega) (by have := HN.out; have := HD.out; omega))
      have HNX : Hid ((V' + x % 2 * 2 ^ (N + t)) % 2 ^ N = V ∧ Huf.vl (V' + x % 2 * 2 ^ (N + t)) N (t + 1) = c / 2 ^ j) := by
        obtain ⟨q1, q2⟩ := Inf.vl_put (b := x % 2) HS.out.lt (by omega)
        refine ⟨q1.trans HM.out, ?_⟩
        rw [q2, HV.out, Nat.pow_succ, ← Nat.div_div_eq_div_mul, ← hx]
        omega
      generalize V' + x % 2 * 2 ^ (N + t) = V2 at *
      generalize x % 2 = b at *
      have hkm : j % 64 = j := by omega
      clear hx hk
      go_wp2_with fail
      refine HPUT.out.mono ?_
      rintro e w5 ⟨rfl, hs5, hk5⟩
      have HS5 := Lib.hid hs5
      have HK5 := Lib.hid (HKP.out.trans hk5)
      clear hs5 HPUT HS hk5
      go_wp2
      exact ⟨⟨j, t + 1, V2, _, by omega, by rfl, by go_num, HNX.out.1, HNX.out.2, HS5.out, HK5.out⟩, by simp [intOf]⟩
    · obtain rfl : k = 0 := by omega
      obtain rfl : t = d := by omega
      have HE : Hid (Huf.vl V' N t = c) := by show _ = _; have := HV.out; simpa using this
      obtain rfl : z = -1 := by omega
      have hdz : decide ((0 : Int) ≤ -1) = false := rfl
      clear hz hk
      go_wp2
      go_returns
      exact ⟨rfl, V', HFIN.out V' HM.out HE.out HS.out.lt, HS.out, HKP.out⟩
end Go.Proofs.YteajjanjkhhgdaaDoor
