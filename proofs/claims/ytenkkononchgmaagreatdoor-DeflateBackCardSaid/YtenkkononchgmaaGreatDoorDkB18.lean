/- Laid together: InfSym. -/
import Derived.Test.YtenkkononchgmaaGreatDoorDkB05
import Derived.Test.YtenkkononchgmaaGreatDoorDkB17
import Derived.Maps.OwnSet
import Derived.Maps.OwnOps
import Derived.Laws.Cover3

namespace Go.Proofs.YtenkkononchgmaaGreatDoor
open Go.RowKit Go

def Inf.er (k e : Int) : Int := if e = 0 then k else e
theorem Inf.er_zero (k : Int) : Inf.er k 0 = k := rfl
theorem Inf.er_some {k e : Int} (h : ¬ e = 0) : Inf.er k e = e := if_neg h
theorem rfail_any (k : Int) (w0 w : World) (g N V : Nat) (vb : Value) (p : Nat) (T : List Int) (vt : Value) (M : Nat) (e : Int) (h : Ri w0 w g N V vb p T vt M e) :
   Calls Tryz.prog 58 #[.pointer (some ⟨g, 0, none⟩), .int .i64 k] w fun en w' => en = .returned (.tuple #[]) ∧ Ri w0 w' g N V vb p T vt M (Inf.er k e) ∧ Kp g w w' := by
 have c4 := h.c4
 have f4 := h.fr 4
 by_cases he : e = 0
 · have d0 : (e == 0) = true := by simp [he]
   have HS : Hid (Ri w0 (w.setCell ⟨g, 4, none⟩ (.int .i64 k)) g N V vb p T vt M (Inf.er k e)) := by rw [Inf.er, if_pos he]; exact h.setE k
   clear h he
   go_enter Tryz.func58, Tryz.ntmps58
   go_wp2
   go_returns
   exact ⟨rfl, HS.out, Kp.set _ _ _⟩
 · have d0 : (e == 0) = false := by simp [he]
   have HS : Hid (Ri w0 w g N V vb p T vt M (Inf.er k e)) := by rw [Inf.er, if_neg he]; exact h
   clear h he
   go_enter Tryz.func58, Tryz.ntmps58
   go_wp2
   go_returns
   exact ⟨rfl, HS.out, Kp.refl _ _⟩

set_option maxRecDepth 100000 in
set_option maxHeartbeats 4000000 in
theorem rnum_no (n : Nat) (w0 w : World) (g N V : Nat) (vb : Value) (p : Nat) (T : List Int) (vt : Value) (M : Nat) (e : Int) (h : Ri w0 w g N V vb p T vt M e) (hN : N ≤ 1000000) (hn : n ≤ 32) (hno : ¬ e = 0 ∨ N < p + n) :
   Calls Tryz.prog 53 #[.pointer (some ⟨g, 0, none⟩), .int .i64 (n : Nat)] w fun en w' => en = .returned (.int .i64 0) ∧ Ri w0 w' g N V vb p T vt M (Inf.er 4 e) ∧ Kp g w w' := by
 obtain ⟨ab, cb, rfl, hbit⟩ := h.bit
 clear hbit
 have c0 := h.c0
 have c1 := h.c1
 have c4 := h.c4
 have hp := h.ple
 have HH := Lib.hid h
 clear h
 have hpI : (p : Int) ≤ 1000000 := by omega
 have hNI : (N : Int) ≤ 1000000 := by omega
 have hnI : (n : Int) ≤ 32 := by omega
 by_cases he : e = 0
 · have d0 : (e != 0) = false := by simp [he]
   obtain ⟨q, hq⟩ : ∃ q, q = p + n := ⟨_, rfl⟩
   have e1 : (p : Int) + (n : Int) = (q : Int) := by omega
   have d1 : decide (N < q) = true := by simp; omega
   have d2 : decide ((N : Int) < (q : Int)) = true := by simp; omega
   clear hq hno he hp hn hN
   go_enter Tryz.func53, Tryz.ntmps53
   go_wp2_with fail
   go_quiet (fail)
   go_wp2_with fail
   refine (rfail_any 4 w0 _ g N V _ p T vt M e (HH.out.drawn ⟨nq, rfl⟩)).mono ?_
   rintro en w1 ⟨rfl, h1, h2⟩
   have H1 := Lib.hid h1
   have H2 := Lib.hid ((Kp.drawn ⟨nq, rfl⟩).trans h2)
   clear h1 h2
   go_wp2
   go_returns
   exact ⟨rfl, H1.out, H2.out⟩
 · have d0 : (e != 0) = true := by simp [he]
   clear hno he hp hn hN
   go_enter Tryz.func53, Tryz.ntmps53
   go_wp2_with fail
   go_quiet (fail)
   go_wp2_with fail
   refine (rfail_any 4 w0 _ g N V _ p T vt M e (HH.out.drawn ⟨nq, rfl⟩)).mono ?_
   rintro en w1 ⟨rfl, h1, h2⟩
   have H1 := Lib.hid h1
   have H2 := Lib.hid ((Kp.drawn ⟨nq, rfl⟩).trans h2)
   clear h1 h2
   go_wp2
   go_returns
   exact ⟨rfl, H1.out, H2.out⟩

set_option maxRecDepth 100000 in
set_option maxHeartbeats 4000000 in
theorem rnum_any (n : Nat) (w0 w : World) (g N V : Nat) (vb : Value) (p : Nat) (T : List Int) (vt : Value) (M : Nat) (h : Ri w0 w g N V vb p T vt M 0) (hN : N ≤ 1000000) (hn : n ≤ 32) (hpn : p + n ≤ N) :
   Calls Tryz.prog 53 #[.pointer (some ⟨g, 0, none⟩), .int .i64 (n : Nat)] w fun en w' => en = .returned (.int .i64 (Inf.num V p n : Nat)) ∧ Ri w0 w' g N V vb (p + n) T vt M 0 ∧ Kp g w w' := by
 obtain ⟨ab, cb, rfl, hbit⟩ := h.bit
 have HBIT := Lib.hid hbit
 clear hbit
 have c0 := h.c0
 have c1 := h.c1
 have c4 := h.c4
 have HH := Lib.hid h
 clear h
 have hpI : (p : Int) ≤ 1000000 := by omega
 have hNI : (N : Int) ≤ 1000000 := by omega
 have hnI : (n : Int) ≤ 32 := by omega
 obtain ⟨q, hq⟩ : ∃ q, q = p + n := ⟨_, rfl⟩
 have e1 : (p : Int) + (n : Int) = (q : Int) := by omega
 have d1 : decide (N < q) = false := by simp; omega
 have d2 : decide ((N : Int) < (q : Int)) = false := by simp; omega
 have HPN := Lib.hid hpn
 have HQ := Lib.hid hq
 clear hq hN hn hpn
 go_enter Tryz.func53, Tryz.ntmps53
 go_wp2_with fail
 go_quiet (fail)
 go_wp2_with fail
 have HD0 : Hid (Drawn w (w.drewN nq)) := ⟨nq, rfl⟩
 generalize w.drewN nq = w1 at *
 clear d1 d2
 go_loopw [5, 6] (fun v5 v6 wr => ∃ k : Nat, k ≤ n ∧ v6 = .int .i64 (k : Int) ∧ v5 = .int .i64 ((Inf.num V p k : Nat) : Int) ∧ Drawn w wr) (fun _ v6 _ => (n - intOf v6).toNat)
 case atStart => exact ⟨0, by omega, rfl, by rw [Inf.num_zero]; rfl, HD0.out⟩
 case round =>
   clear HD0
   obtain ⟨k, hk, rfl, rfl, hdr⟩ := hrel
   have HR := Lib.hid (HH.out.drawn hdr)
   have HD := Lib.hid hdr
   by_cases hlt : k < n
   · have d3 : decide (k < n) = true := decide_eq_true hlt
     obtain ⟨s, o, rfl, cb0⟩ := HBIT.out (p + k) (by have := HPN.out; omega)
     have c0 := HR.out.c0
     have c1 := HR.out.c1
     rw [← hdr.cell] at cb0
     obtain ⟨b, hb⟩ : ∃ b, b = V / 2 ^ (p + k) % 2 := ⟨_, rfl⟩
     have hb2 : b ≤ 1 := by omega
     obtain ⟨v, hv⟩ : ∃ v, v = Inf.num V p k := ⟨_, rfl⟩
     obtain ⟨x, hx⟩ : ∃ x, x = b * 2 ^ k := ⟨_, rfl⟩
     have hp2 : 2 ^ k ≤ 2 ^ 31 := Nat.pow_le_pow_right (by omega) (by omega)
     have hx6 : x ≤ 2147483648 := by
       rw [hx]
       have : b * 2 ^ k ≤ 1 * 2 ^ k := Nat.mul_le_mul_right _ hb2
       omega
     have hv6 : v < 2147483648 := by
       have := Inf.num_lt V p k
       omega
     have HV1 : Hid (v + x = Inf.num V p (k + 1)) := by unfold Hid; rw [Inf.num_succ, hv, hx, hb]
     have hxI : (b : Int) * 2 ^ k = (x : Int) := by rw [hx]; simp
     rw [← hb] at cb0
     rw [← hv]
     obtain ⟨r, hr⟩ : ∃ r, r = p + k := ⟨_, rfl⟩
     have hrI : (p : Int) + (k : Int) = (r : Int) := by omega
     have hrN : (r : Int) < (N : Int) := by have := HPN.out; omega
     rw [← hr] at cb0
     have hkI : (k : Int) < 32 := by omega
     have x6 : (x : Int) ≤ 2147483648 := by omega
     have v6 : (v : Int) < 2147483648 := by omega
     clear hb hx hv hr hp2 hdr
     go_wp2_with fail
     go_quiet (fail)
     go_wp2_with fail
     exact ⟨⟨k + 1, by omega, by congr 1, by rw [← HV1.out]; push_cast; rfl, HD.out.drewN _⟩, by simp [intOf]; omega⟩
   · obtain rfl : k = n := by omega
     have d3 : decide (k < k) = false := decide_eq_false (by omega)
     have HS := Lib.hid (HR.out.setP q (by rw [HQ.out]; exact HPN.out))
     have c1 := HR.out.c1
     have f1 := HR.out.fr 1
     go_wp2_with fail
     go_returns
     exact ⟨rfl, by rw [← HQ.out]; exact HS.out, (Kp.drawn HD.out).trans (Kp.set _ _ _)⟩
end Go.Proofs.YtenkkononchgmaaGreatDoor

/- The document's tree of a code: the map that it is, and the walk of made. -/
namespace Go.Proofs.YtenkkononchgmaaGreatDoor
open Go.RowKit Go
open Go.Maps

theorem Inf.take_up (C : Nat → Nat) (k : Nat) : ∀ d, Huf.take C k ≤ Huf.take C (k + d)
 | 0 => Nat.le_refl _
 | d + 1 => Nat.le_trans (Inf.take_up C k d) (Nat.le_add_right _ _)
theorem Inf.code_small {L : Nat → Int} {n i : Nat} (hm : Huf.Makes L n) (hi : i < n) (h : 0 < L i) : Huf.code L n i < 2 ^ (L i).toNat := by
 have hl := (hm.1.2 i hi).2
 have hlt := Huf.code_lt L n i hi h
 have hc0 := Huf.cnt_zero L n
 obtain ⟨k, hk⟩ : ∃ k, k = (L i).toNat := ⟨_, rfl⟩
 rw [← hk] at hlt ⊢
 have hin := Huf.in_tot (L := L) (n := n) (i := i) (l := k) hi (by omega) (by omega)
 have hup := Huf.tot_up (Huf.cnt L n) (a := k + 1) (b := 16) (by omega)
 have ht2 := Huf.tot2 L n
 have := hm.2
 unfold Huf.mk at this
 simp only [Bool.or_eq_true, Bool.and_eq_true, decide_eq_true_eq] at this
 rcases this with (c | c) | c
 · omega
 · have h1 := Huf.fst_take (Huf.cnt L n) hc0 k (by omega)
   have h2 := Inf.take_up (Huf.cnt L n) (k + 1) (15 - k)
   rw [show k + 1 + (15 - k) = 16 by omega, c, Huf.take, ← h1, ← Nat.add_mul] at h2
   have hp : 2 ^ k * 2 ^ (15 - k) = 32768 := by rw [← Nat.pow_add, show k + (15 - k) = 15 by omega]
   rw [← hp] at h2
   exact Nat.lt_of_lt_of_le hlt (Nat.le_of_mul_le_mul_right h2 (Nat.two_pow_pos _))
 · have hk1 : k = 1 := by
     apply Classical.byContradiction; intro hne
     have := Huf.tot_up (Huf.cnt L n) (a := 2) (b := k) (by omega)
     omega
   subst hk1
   have e : Huf.fst (Huf.cnt L n) 1 = 0 := by rw [Huf.fst, Huf.fst, hc0]
   rw [e] at hlt
   simp; omega
def Inf.tk (l : List Nat) (i : Nat) : Nat := 2 ^ (l.getD i 0) + Huf.code (Inf.lf l) l.length i
theorem Inf.pow_gap {a b x y : Nat} (hx : x < 2 ^ a) (h : 2 ^ a + x = 2 ^ b + y) (hy : y < 2 ^ b) : a = b ∧ x = y := by
 rcases Nat.lt_trichotomy a b with c | c | c
 · have := Nat.pow_le_pow_right (n := 2) (by omega) (show a + 1 ≤ b by omega)
   rw [Nat.pow_succ] at this; omega
 · subst c; exact ⟨rfl, by omega⟩
 · have := Nat.pow_le_pow_right (n := 2) (by omega) (show b + 1 ≤ a by omega)
   rw [Nat.pow_succ] at this; omega
theorem Inf.lf_nat (l : List Nat) (i : Nat) : (Inf.lf l i).toNat = l.getD i 0 := by simp [Inf.lf]
theorem Inf.lf_pos {l : List Nat} {i : Nat} (h : 0 < l.getD i 0) : 0 < Inf.lf l i := by simp only [Inf.lf]; omega
theorem Inf.small {l : List Nat} (hm : Inf.Mk l) {i : Nat} (hi : i < l.length) (h : 0 < l.getD i 0) : Huf.code (Inf.lf l) l.length i < 2 ^ l.getD i 0 := by
 have := Inf.code_small hm hi (Inf.lf_pos h)
 rwa [Inf.lf_nat] at this
theorem Inf.tk_inj {l : List Nat} (hm : Inf.Mk l) {i j : Nat} (hi : i < l.length) (hj : j < l.length) (h1 : 0 < l.getD i 0) (h2 : 0 < l.getD j 0) (h : Inf.tk l i = Inf.tk l j) : i = j := by
 obtain ⟨e1, e2⟩ := Inf.pow_gap (Inf.small hm hi h1) h (Inf.small hm hj h2)
 have e3 : Inf.lf l i = Inf.lf l j := by simp only [Inf.lf, e1]
 rcases Nat.lt_trichotomy i j with c | c | c
 · have := Huf.code_same (Inf.lf l) l.length i j (Inf.lf_pos h1) e3 c; omega
 · exact c
 · have := Huf.code_same (Inf.lf l) l.length j i (Inf.lf_pos h2) e3.symm c; omega
theorem Inf.tk_hit {l : List Nat} (hm : Inf.Mk l) {V p k i : Nat} (hk : 0 < k) (hi : i < l.length) : (0 < l.getD i 0 ∧ Inf.tk l i = 2 ^ k + Huf.vl V p k) ↔ Huf.Hit (Inf.lf l) l.length V p k i := by
 constructor
 · rintro ⟨h1, h2⟩
   obtain ⟨e1, e2⟩ := Inf.pow_gap (Inf.small hm hi h1) h2 (Huf.vl_lt V p k)
   exact ⟨hi, hk, by simp only [Inf.lf, e1], e2⟩
 · rintro ⟨_, _, h3, h4⟩
   have e1 : l.getD i 0 = k := by simp only [Inf.lf] at h3; omega
   exact ⟨by omega, by rw [Inf.tk, e1, h4]⟩
structure Tr (l : List Nat) (m : Nat) (D : DataW Unit) : Prop where
 isMap : IsMap D
 yes : ∀ i, i < m → 0 < l.getD i 0 → Maps.has D (.int .i64 (Inf.tk l i : Nat)) = true ∧ D.atKey (.int .i64 (Inf.tk l i : Nat)) (.lit (.int .i64 0)) = .lit (.int .i64 (i : Nat))
 no : ∀ v : Int, (∀ i, i < m → 0 < l.getD i 0 → v ≠ (Inf.tk l i : Nat)) → Maps.has D (.int .i64 v) = false
theorem Tr.zero (l : List Nat) : Tr l 0 (.map []) := ⟨isMap_empty, fun _ h => by omega, fun _ _ => rfl⟩
theorem Tr.skip {l : List Nat} {m : Nat} {D : DataW Unit} (h : Tr l m D) (h0 : l.getD m 0 = 0) : Tr l (m + 1) D := by
 refine ⟨h.isMap, fun i hi hp => h.yes i ?_ hp, fun v hv => h.no v fun i hi hp => hv i (by omega) hp⟩
 by_cases e : i = m
 · subst e; omega
 · omega
theorem Tr.put {l : List Nat} {m : Nat} {D : DataW Unit} (hm : Inf.Mk l) (h : Tr l m D) (hl : m < l.length) (h0 : 0 < l.getD m 0) : Tr l (m + 1) (D.put (.int .i64 (Inf.tk l m : Nat)) (.lit (.int .i64 (m : Nat)))) := by
 have hk : WideAt.IsKeyLit (.int .i64 (Inf.tk l m : Nat)) := trivial
 have hne : ∀ i, i < m → 0 < l.getD i 0 → Lit.int .i64 ((Inf.tk l i : Nat) : Int) ≠ Lit.int .i64 ((Inf.tk l m : Nat) : Int) := fun i hi hp e => by
   injection e with _ e
   have := Inf.tk_inj hm (by omega) hl hp h0 (by omega)
   omega
 refine ⟨h.isMap.put _ _, fun i hi hp => ?_, fun v hv => ?_⟩
 · by_cases e : i = m
   · subst e
     exact ⟨has_put_same h.isMap hk _, atKey_put_same h.isMap hk _ _⟩
   · obtain ⟨a, b⟩ := h.yes i (by omega) hp
     rw [has_put_other (hne i (by omega) hp), atKey_put_other (hne i (by omega) hp)]
     exact ⟨a, b⟩
 · have hv' : Lit.int .i64 v ≠ Lit.int .i64 ((Inf.tk l m : Nat) : Int) := fun e => by
     injection e with _ e
     exact hv m (by omega) h0 e
   rw [has_put_other hv']
   exact h.no v fun i hi hp => hv i (by omega) hp

theorem Inf.keyInt : Keyed Tryz.prog 3 := int_keyed Tryz.underlying3
theorem Inf.zeroInt (w : World) : (zeroValue 3).run Tryz.prog w = .ok (.int .i64 0) w := by kernel_rfl
structure MdS (w0 w : World) (l : List Nat) (G gm gt : Nat) (i : Nat) : Prop where
 bel : Below w0.heap.size w0 w
 cr : w.heap[G]? = some (.cells (ki l.length fun t => (Huf.code (Inf.lf l) l.length t : Nat)) 3 (0, 0))
 lo : w0.heap.size ≤ gm
 rc : w.heap[w0.heap.size]? = some (.cells #[.map none] 169 (0, 0))
 tc : w.heap[gt]? = some (.cells #[.map (some gm)] 169 (0, 0))
 map : ∃ D, w.ownsMap Tryz.prog 3 (plainElem (H := Unit) Tryz.prog 3) gm i D ∧ Tr l i D
theorem MdS.drew {w0 w : World} {l : List Nat} {G gm gt i : Nat} (h : MdS w0 w l G gm gt i) : MdS w0 w.drew l G gm gt i := ⟨h.bel.drew, h.cr, h.lo, h.rc, h.tc, h.map⟩
theorem Inf.map_ne {w : World} {k : Nat} {n : Nat} {D : DataW Unit} {P : Program} {t : TypeId} {R : Value → Option (DataW Unit × List MemPlace)} (h : w.ownsMap P t R k n D) {j : Nat} {c : Array Value} {s : TypeId} {f : Nat × Nat} (hj : w.heap[j]? = some (.cells c s f)) : j ≠ k := by
 rintro rfl
 obtain ⟨es, cl, h1, _⟩ := h
 rw [hj] at h1
 cases h1
theorem MdS.put {w0 w w' : World} {l : List Nat} {G gm gt i : Nat} {D' : DataW Unit} (h : MdS w0 w l G gm gt i) (hm : w'.ownsMap Tryz.prog 3 (plainElem (H := Unit) Tryz.prog 3) gm (i + 1) D') (hT : Tr l (i + 1) D') (hg : w.grownBy w' (some gm)) : MdS w0 w' l G gm gt (i + 1) := by
 obtain ⟨D, h1, h2⟩ := h.map
 exact ⟨below_of_gb h.bel hg h.lo h.bel.size, (gb_heap hg (lt_of_block h.cr) (Inf.map_ne h1 h.cr)).trans h.cr, h.lo, (gb_heap hg (lt_of_block h.rc) (Inf.map_ne h1 h.rc)).trans h.rc, (gb_heap hg (lt_of_block h.tc) (Inf.map_ne h1 h.tc)).trans h.tc, _, hm, hT⟩
theorem MdS.skip {w0 w : World} {l : List Nat} {G gm gt i : Nat} (h : MdS w0 w l G gm gt i) (h0 : l.getD i 0 = 0) : MdS w0 w l G gm gt (i + 1) := by
 obtain ⟨D, h1, h2⟩ := h.map
 exact ⟨h.bel, h.cr, h.lo, h.rc, h.tc, D, h1.mono (Nat.le_succ _), h2.skip h0⟩

set_option maxRecDepth 100000 in
set_option maxHeartbeats 4000000 in
theorem made_any (l : List Nat) (a : Option Addr) (n cap : Nat) (w : World) (hn : n = l.length) (hI : Ints w a n cap (Inf.lf l)) (hl : n ≤ 1000) :
   Calls Tryz.prog 97 #[.slice a n cap] w fun e w' => Below w.heap.size w w' ∧ ∃ gm, w.heap.size ≤ gm ∧
     ((Inf.Mk l ∧ e = .returned (.tuple #[.agg #[.map (some gm)], .bool true]) ∧ ∃ D, w'.ownsMap Tryz.prog 3 (plainElem (H := Unit) Tryz.prog 3) gm n D ∧ Tr l n D) ∨ (¬ Inf.Mk l ∧ e = .returned (.tuple #[.agg #[.map (some gm)], .bool false]) ∧ ∃ D, w'.ownsMap Tryz.prog 3 (plainElem (H := Unit) Tryz.prog 3) gm n D)) := by
 have HRC := fun (wx : World) (h : Ints wx a n cap (Inf.lf l)) => refCodes_any a n cap (Inf.lf l) wx h (by omega)
 have HI := Lib.hid hI
 have HN := Lib.hid hn
 have n6 : (n : Int) ≤ 1000 := by omega
 have hmm := @run_makeMap Tryz.prog
 clear hI hn hl
 go_enter Tryz.func97, Tryz.ntmps97
 go_wp2_with fail
 have HB0 : Hid (Below w.heap.size w (w.alloc (.cells #[.map none] 169))) := (Below.refl _ _).alloc (Nat.le_refl _) _
 have HR0 : Hid ((w.alloc (.cells #[.map none] 169)).heap[w.heap.size]? = some (.cells #[.map none] 169 (0, 0))) := heap_alloc_new _ _
 refine (HRC _ (HI.out.later HB0.out)).mono ?_
 rintro e w1 ⟨hb1, hr⟩
 have HB1 : Hid (Below w.heap.size w w1) := HB0.out.trans (hb1.mono (by simp))
 have HR1 : Hid (w1.heap[w.heap.size]? = some (.cells #[.map none] 169 (0, 0))) := (hb1.block _ (by simp)).trans HR0.out
 clear hb1 HB0 HR0 HRC
 have hsz1 := HB1.out.size
 rcases hr with ⟨hm, G, hG, hrow, rfl⟩ | ⟨hno, rfl⟩
 · have HM := Lib.hid hm
   have HML : Hid (Inf.Mk l) := by unfold Hid Inf.Mk; rw [← HN.out]; exact hm
   have HS0 : Hid (MdS w ((w1.alloc (.map #[] 0)).alloc (.cells #[.map (some w1.heap.size)] 169)) l G w1.heap.size (w1.heap.size + 1) 0) := by
     have hm0 := World.ownsMap_made w1 Tryz.prog 3 (plainElem (H := Unit) Tryz.prog 3)
     refine ⟨(HB1.out.alloc hsz1 _).alloc (by simp; omega) _, ?_, hsz1, ?_, ?_, _, hm0.alloc _, Tr.zero l⟩
     · rw [heap_alloc_old _ _ (by have := lt_of_block hrow; simp; omega), heap_alloc_old _ _ (lt_of_block hrow), hrow, HN.out]
     · rw [heap_alloc_old _ _ (by have := lt_of_block HR1.out; simp; omega), heap_alloc_old _ _ (lt_of_block HR1.out)]
       exact HR1.out
     · have := heap_alloc_new (w1.alloc (.map #[] 0)) (.cells #[.map (some w1.heap.size)] 169)
       simpa using this
   clear hrow hm HR1 HM
   go_wp2_with fail
   generalize ((w1.alloc (.map #[] 0)).alloc (.cells #[.map (some w1.heap.size)] 169)) = wa at *
   generalize w1.heap.size + 1 = gt at *
   generalize w1.heap.size = gm at *
   clear HB1 hmm
   go_loopw [7] (fun v7 wr => ∃ i : Nat, i ≤ n ∧ v7 = .int .i64 (i : Int) ∧ MdS w wr l G gm gt i) (fun v7 _ => (n - intOf v7).toNat)
   case atStart => exact ⟨0, by omega, rfl, HS0.out⟩
   case round =>
     clear HS0
     obtain ⟨i, hi, rfl, hs⟩ := hrel
     have HS := Lib.hid hs; clear hs
     by_cases hlt : i < n
     · have hdi : decide (i < n) = true := decide_eq_true hlt
       obtain ⟨s, o, rfl, hsz, hc⟩ := (HI.out.later HS.out.bel).at_ hlt
       obtain ⟨x, hx⟩ : ∃ x, x = l.getD i 0 := ⟨_, rfl⟩
       rw [Inf.lf, ← hx] at hc
       have HX := Lib.hid hx
       have hiI : (i : Int) < (n : Int) := by omega
       by_cases hx0 : 0 < x
       · have hd0 : decide (0 < x) = true := decide_eq_true hx0
         have hx15 : (x : Int) ≤ 15 := by
           have := (HML.out.1.2 i (by rw [← HN.out]; exact hlt)).2
           simp only [Inf.lf] at this
           omega
         have c1 := ki_cell HS.out.cr i (by rw [← HN.out]; exact hlt)
         have c2 : wr.cell? ⟨gt, 0, none⟩ = some (.map (some gm)) := (cell_of_row _ _ _ _ _ _ HS.out.tc).trans rfl
         obtain ⟨c, hcd⟩ : ∃ c, c = Huf.code (Inf.lf l) l.length i := ⟨_, rfl⟩
         obtain ⟨pw, hpw⟩ : ∃ pw, pw = 2 ^ x := ⟨_, rfl⟩
         obtain ⟨t, ht⟩ : ∃ t, t = pw + c := ⟨_, rfl⟩
         have HT : Hid (Inf.tk l i = t) := by unfold Hid; rw [Inf.tk, ← hx, ← hcd, ht, hpw]
         have hc6 : c < pw := by
           have := Inf.small HML.out (i := i) (by rw [← HN.out]; exact hlt) (by omega)
           rwa [← hx, ← hcd, ← hpw] at this
         have hpw6 : pw ≤ 32768 := by
           rw [hpw]
           have : 2 ^ x ≤ 2 ^ 15 := Nat.pow_le_pow_right (by omega) (by omega)
           omega
         have q1 : IntKind.u64.wrap (x : Int) = (x : Int) := by rw [IntKind.wrap_u64]; omega
         have q2 : min x 64 = x := by omega
         have q3 : (2 : Int) ^ x = (pw : Int) := by rw [hpw]; simp
         have q4 : IntKind.i64.wrap (pw : Int) = (pw : Int) := by rw [IntKind.wrap_i64]; omega
         have q5 : IntKind.i64.wrap ((pw : Int) + (c : Int)) = (t : Int) := by rw [IntKind.wrap_i64]; omega
         have t6 : (t : Int) ≤ 65536 := by omega
         rw [← hcd] at c1
         have HX0 : Hid (0 < x) := hx0
         clear hx hcd hpw ht hc6 hx0
         go_wp2_with fail
         go_still_tail 14, (by kernel_rfl)
         change wpList _ _ _ _ _ wr.drew
         have c1 : wr.drew.cell? ⟨G, i, none⟩ = some (.int .i64 (c : Int)) := c1
         have c2 : wr.drew.cell? ⟨gt, 0, none⟩ = some (.map (some gm)) := c2
         have hc : wr.drew.cell? ⟨s, o + i, none⟩ = some (.int .i64 (x : Int)) := hc
         have HS := Lib.hid HS.out.drew
         generalize wr.drew = wz at *
         obtain ⟨D, hmap, htr⟩ := HS.out.map
         have HMP := Lib.hid hmap
         have HTR := Lib.hid htr
         clear hmap htr
         go_wp2_with (first | (at_mapUpdate; refine wpList_mapUpdate_own _ rfl _ _ _ 167 rfl 3 3 Inf.keyInt (by kernel_rfl) _ gm i D rfl HMP.out (by unfold maxLen; omega) _ _ _ rfl rfl (keyOf_int_mk Tryz.underlying3 (WalkArith.wf_i64 (by omega))) _ [] (plainElem_int Tryz.underlying3 (WalkArith.wf_i64 (by omega))) ?_; intro w8 hown8 hgrow8))
         have HS8 : Hid (MdS w w8 l G gm gt (i + 1)) := HS.out.put hown8 (by
           have := HTR.out.put HML.out (by rw [← HN.out]; exact hlt) (by have := HX0.out; rw [HX.out] at this; exact this)
           rw [HT.out] at this
           exact this) hgrow8
         clear hown8 hgrow8 c1 c2 hc q1 q2 q3 q4 q5
         go_wp2
         exact ⟨⟨i + 1, by omega, by go_num, HS8.out⟩, by simp [intOf]; omega⟩
       · have hd0 : decide (0 < x) = false := decide_eq_false hx0
         have HNX := Lib.hid (HS.out.skip (by omega))
         clear hx0 hx
         go_wp2
         exact ⟨⟨i + 1, by omega, by go_num, HNX.out⟩, by simp [intOf]; omega⟩
     · obtain rfl : i = n := by omega
       have hdi : decide (i < i) = false := decide_eq_false (by omega)
       have c2 : wr.cell? ⟨gt, 0, none⟩ = some (.map (some gm)) := (cell_of_row _ _ _ _ _ _ HS.out.tc).trans rfl
       have c0 : wr.cell? ⟨w.heap.size, 0, none⟩ = some (.map none) := (cell_of_row _ _ _ _ _ _ HS.out.rc).trans rfl
       have f0 : wr.frozen? ⟨w.heap.size, 0, none⟩ = false := frozen_of_row _ _ _ _ _ HS.out.rc
       have HE : Hid (Below w.heap.size w (wr.setCell ⟨w.heap.size, 0, none⟩ (.map (some gm))) ∧ (wr.setCell ⟨w.heap.size, 0, none⟩ (.map (some gm))).heap[w.heap.size]? = some (.cells #[.map (some gm)] 169 (0, 0)) ∧ ∃ D, (wr.setCell ⟨w.heap.size, 0, none⟩ (.map (some gm))).ownsMap Tryz.prog 3 (plainElem (H := Unit) Tryz.prog 3) gm i D ∧ Tr l i D) := by
         obtain ⟨D, h1, h2⟩ := HS.out.map
         exact ⟨HS.out.bel.setCell (Nat.le_refl _) _, (heap_setCell_same _ _ _ _ _ _ HS.out.rc).trans rfl, D, h1.setCell (fun e => Inf.map_ne h1 HS.out.rc e.symm) _, h2⟩
       have HLO := Lib.hid HS.out.lo
       go_wp2_with fail
       generalize wr.setCell ⟨w.heap.size, 0, none⟩ (.map (some gm)) = we at *
       exact bodyPost_ret (v := .tuple #[.agg #[.map (some gm)], .bool true]) (results_cell_row2 (p := 2) (u := 3) (ty := 169) rfl _ _ w.heap.size 169 _ (0, 0) _ rfl HE.out.2.1 Tryz.underlying169 rfl (by kernel_rfl) _ rfl) rfl
         ⟨HE.out.1, gm, HLO.out, .inl ⟨HML.out, rfl, HE.out.2.2⟩⟩
 · have HM : Hid (¬ Inf.Mk l) := by unfold Inf.Mk; rw [← HN.out]; exact hno
   have HS0 : Hid (Below w.heap.size w ((w1.alloc (.map #[] 0)).alloc (.cells #[.map (some w1.heap.size)] 169)) ∧
       ((w1.alloc (.map #[] 0)).alloc (.cells #[.map (some w1.heap.size)] 169)).heap[w.heap.size]? = some (.cells #[.map none] 169 (0, 0)) ∧
       ((w1.alloc (.map #[] 0)).alloc (.cells #[.map (some w1.heap.size)] 169)).heap[w1.heap.size + 1]? = some (.cells #[.map (some w1.heap.size)] 169 (0, 0)) ∧
       ((w1.alloc (.map #[] 0)).alloc (.cells #[.map (some w1.heap.size)] 169)).ownsMap Tryz.prog 3 (plainElem (H := Unit) Tryz.prog 3) w1.heap.size n (.map [])) := by
     have hm0 := World.ownsMap_made w1 Tryz.prog 3 (plainElem (H := Unit) Tryz.prog 3)
     refine ⟨(HB1.out.alloc hsz1 _).alloc (by simp; omega) _, ?_, ?_, (hm0.alloc _).mono (Nat.zero_le _)⟩
     · rw [heap_alloc_old _ _ (by have := lt_of_block HR1.out; simp; omega), heap_alloc_old _ _ (lt_of_block HR1.out)]
       exact HR1.out
     · have := heap_alloc_new (w1.alloc (.map #[] 0)) (.cells #[.map (some w1.heap.size)] 169)
       simpa using this
   clear hno HR1
   go_wp2_with fail
   generalize ((w1.alloc (.map #[] 0)).alloc (.cells #[.map (some w1.heap.size)] 169)) = wa at *
   generalize w1.heap.size + 1 = gt at *
   generalize w1.heap.size = gm at *
   clear HB1 hmm
   have c2 : wa.cell? ⟨gt, 0, none⟩ = some (.map (some gm)) := (cell_of_row _ _ _ _ _ _ HS0.out.2.2.1).trans rfl
   have c0 : wa.cell? ⟨w.heap.size, 0, none⟩ = some (.map none) := (cell_of_row _ _ _ _ _ _ HS0.out.2.1).trans rfl
   have f0 : wa.frozen? ⟨w.heap.size, 0, none⟩ = false := frozen_of_row _ _ _ _ _ HS0.out.2.1
   have HE : Hid (Below w.heap.size w (wa.setCell ⟨w.heap.size, 0, none⟩ (.map (some gm))) ∧ (wa.setCell ⟨w.heap.size, 0, none⟩ (.map (some gm))).heap[w.heap.size]? = some (.cells #[.map (some gm)] 169 (0, 0)) ∧ ∃ D, (wa.setCell ⟨w.heap.size, 0, none⟩ (.map (some gm))).ownsMap Tryz.prog 3 (plainElem (H := Unit) Tryz.prog 3) gm n D) :=
     ⟨HS0.out.1.setCell (Nat.le_refl _) _, (heap_setCell_same _ _ _ _ _ _ HS0.out.2.1).trans rfl, _, HS0.out.2.2.2.setCell (fun e => Inf.map_ne HS0.out.2.2.2 HS0.out.2.1 e.symm) _⟩
   clear HS0
   go_loopw [7] (fun v7 wr => v7 = .int .i64 0 ∧ wr = wa) (fun _ _ => 0)
   case atStart => exact ⟨rfl, rfl⟩
   case round =>
     obtain ⟨rfl, rfl⟩ := hrel
     go_wp2_with fail
     generalize wr.setCell ⟨w.heap.size, 0, none⟩ (.map (some gm)) = we at *
     exact bodyPost_ret (v := .tuple #[.agg #[.map (some gm)], .bool false]) (results_cell_row2 (p := 2) (u := 3) (ty := 169) rfl _ _ w.heap.size 169 _ (0, 0) _ rfl HE.out.2.1 Tryz.underlying169 rfl (by kernel_rfl) _ rfl) rfl
       ⟨HE.out.1, gm, hsz1, .inr ⟨HM.out, rfl, HE.out.2.2⟩⟩
end Go.Proofs.YtenkkononchgmaaGreatDoor

/- The walk of the document's symbol. -/
namespace Go.Proofs.YtenkkononchgmaaGreatDoor
open Go.RowKit Go
open Go.Maps

def Tree (w : World) (l : List Nat) (gm : Nat) : Prop := ∃ D, w.ownsMap Tryz.prog 3 (plainElem (H := Unit) Tryz.prog 3) gm l.length D ∧ Tr l l.length D
def IsTree (w : World) (gm : Nat) : Prop := ∃ n D, w.ownsMap Tryz.prog 3 (plainElem (H := Unit) Tryz.prog 3) gm n D
theorem Tree.is {w : World} {l : List Nat} {gm : Nat} (h : Tree w l gm) : IsTree w gm := by obtain ⟨D, h1, _⟩ := h; exact ⟨_, D, h1⟩
theorem Inf.map_kp {g : Nat} {w w' : World} {gm n : Nat} {D : DataW Unit} (h : Kp g w w') (hm : w.ownsMap Tryz.prog 3 (plainElem (H := Unit) Tryz.prog 3) gm n D) (hg : gm ≠ g) : w'.ownsMap Tryz.prog 3 (plainElem (H := Unit) Tryz.prog 3) gm n D := by
 obtain ⟨es, cl, h1, h2⟩ := hm
 exact ⟨es, cl, h.blk _ _ h1 hg rfl, h2⟩
theorem Tree.kp {g : Nat} {w w' : World} {l : List Nat} {gm : Nat} (h : Tree w l gm) (hk : Kp g w w') (hg : gm ≠ g) : Tree w' l gm := by
 obtain ⟨D, h1, h2⟩ := h
 exact ⟨D, Inf.map_kp hk h1 hg, h2⟩
theorem Ri.nm {w0 w : World} {g N V : Nat} {vb : Value} {p : Nat} {T : List Int} {vt : Value} {M : Nat} {e : Int} (h : Ri w0 w g N V vb p T vt M e) {gm : Nat} (hm : IsTree w gm) : gm ≠ g := by
 obtain ⟨n, D, h1⟩ := hm
 exact fun e => Inf.map_ne h1 h.row e.symm
def SyO (w0 w : World) (g N V : Nat) (vb : Value) (p : Nat) (T : List Int) (vt : Value) (M : Nat) (l : List Nat) (e : Ending) (w' : World) : Prop :=
 Kp g w w' ∧ ((Inf.sy l V N p = none ∧ e = .returned (.int .i64 0) ∧ ∃ q, Ri w0 w' g N V vb q T vt M 4) ∨ (∃ s q, Inf.sy l V N p = some (s, q) ∧ e = .returned (.int .i64 (s : Nat)) ∧ Ri w0 w' g N V vb q T vt M 0))
structure SmS (w0 w wr : World) (g N V : Nat) (vb : Value) (p : Nat) (T : List Int) (vt : Value) (M : Nat) (l : List Nat) (gm gx : Nat) (q : Nat) (e : Int) : Prop where
 ri : Ri w0 wr g N V vb q T vt M e
 kp : Kp g w wr
 tree : Tree wr l gm
 box : wr.heap[gx]? = some (.cells #[.map (some gm)] 169 (0, 0))
theorem SmS.step {w0 w wr w' : World} {g N V : Nat} {vb : Value} {p : Nat} {T : List Int} {vt : Value} {M : Nat} {l : List Nat} {gm gx : Nat} {q q' : Nat} {e e' : Int} (h : SmS w0 w wr g N V vb p T vt M l gm gx q e) (h1 : Ri w0 w' g N V vb q' T vt M e') (h2 : Kp g wr w') : SmS w0 w w' g N V vb p T vt M l gm gx q' e' :=
 ⟨h1, h.kp.trans h2, h.tree.kp h2 (h.ri.nm h.tree.is), h2.cells h.box (Inf.ne_ty h.box h.ri.row (by decide)) (by decide)⟩
theorem SmS.c {w0 w wr : World} {g N V : Nat} {vb : Value} {p : Nat} {T : List Int} {vt : Value} {M : Nat} {l : List Nat} {gm gx : Nat} {q : Nat} {e : Int} (h : SmS w0 w wr g N V vb p T vt M l gm gx q e) : wr.cell? ⟨gx, 0, none⟩ = some (.map (some gm)) := (cell_of_row _ _ _ _ _ _ h.box).trans rfl

set_option maxRecDepth 100000 in
set_option maxHeartbeats 4000000 in
theorem rsym_any (l : List Nat) (gm : Nat) (w0 w : World) (g N V : Nat) (vb : Value) (p : Nat) (T : List Int) (vt : Value) (M : Nat) (h : Ri w0 w g N V vb p T vt M 0) (hT : Tree w l gm) (hm : Inf.Mk l) (hN : N ≤ 1000000) :
   Calls Tryz.prog 98 #[.pointer (some ⟨g, 0, none⟩), .agg #[.map (some gm)]] w fun en w' => SyO w0 w g N V vb p T vt M l en w' := by
 have HM := Lib.hid hm
 have HN := Lib.hid hN
 have hNI : (N : Int) ≤ 1000000 := by omega
 have HS0 : Hid (SmS w0 w (w.alloc (.cells #[.map (some gm)] 169)) g N V vb p T vt M l gm w.heap.size p 0) := by
   have hb : Below w.heap.size w (w.alloc (.cells #[.map (some gm)] 169)) := (Below.refl _ _).alloc (Nat.le_refl _) _
   exact ⟨h.later hb, Kp.below hb, hT.kp (Kp.below hb) (h.nm hT.is), heap_alloc_new _ _⟩
 clear h hT hm hN
 go_enter Tryz.func98, Tryz.ntmps98
 go_wp2_with fail
 generalize w.alloc (.cells #[.map (some gm)] 169) = wa at *
 generalize w.heap.size = gx at *
 go_loopw [5, 6] (fun v5 v6 wr => ∃ k v q : Nat, ∃ e : Int, v5 = .int .i64 (v : Int) ∧ v6 = .int .i64 (k : Int) ∧ k ≤ 15 ∧ v ≤ 200000 ∧ SmS w0 w wr g N V vb p T vt M l gm gx q e ∧ Hid ((e = 0 ∧ q = p + k ∧ v = 2 ^ k + Huf.vl V p k ∧ ∀ j, j ≤ k → ∀ t, ¬ Huf.Hit (Inf.lf l) l.length V p j t) ∨ (e = 4 ∧ Inf.sy l V N p = none))) (fun _ v6 _ => (15 - intOf v6).toNat)
 case atStart => exact ⟨0, 1, p, 0, rfl, rfl, by omega, by omega, HS0.out, .inl ⟨rfl, rfl, rfl, fun j hj t ht => by have := ht.2.1; omega⟩⟩
 case round =>
   clear HS0
   obtain ⟨k, v, q, e, rfl, rfl, hk, hv6, hs, HD⟩ := hrel
   have HS := Lib.hid hs; clear hs
   have c4 := HS.out.ri.c4
   have k6 : (k : Int) ≤ 15 := by omega
   rcases HD.out with ⟨he, hq, hv, hno⟩ | ⟨he, hsy⟩
   · subst he
     have HQ := Lib.hid hq
     have HV := Lib.hid hv
     have HNH := Lib.hid hno
     clear HD
     have hd4 : ((0 : Int) == 0) = true := rfl
     have v6 : (v : Int) ≤ 65535 := by
       have h1 := Huf.vl_lt V p k
       have h2 : 2 ^ k ≤ 2 ^ 15 := Nat.pow_le_pow_right (by omega) hk
       omega
     clear hq hv hv6
     by_cases hlt : k < 15
     · have hd : decide ((k : Int) < 15) = true := by simp; omega
       clear hno
       rcases Nat.lt_or_ge q N with hqn | hqn
       · have HNUM := Lib.hid (rnum_any 1 w0 wr g N V vb q T vt M HS.out.ri HN.out (by omega) (by omega))
         obtain ⟨b, hb⟩ : ∃ b, b = Inf.num V q 1 := ⟨_, rfl⟩
         rw [← hb] at HNUM
         obtain ⟨v1, hv1⟩ : ∃ v1, v1 = 2 * v + b := ⟨_, rfl⟩
         have b6 : b ≤ 1 := by have := Inf.num_lt V q 1; omega
         have HV1 : Hid (v1 = 2 ^ (k + 1) + Huf.vl V p (k + 1)) := by
           have := HV.out
           unfold Hid
           rw [hv1, Huf.vl, Nat.pow_succ, hb, Inf.num, HQ.out, Nat.pow_one]; omega
         have e1 : 2 * (v : Int) + (b : Int) = (v1 : Int) := by omega
         have v16 : v1 ≤ 131071 := by omega
         have v1I : (v1 : Int) ≤ 131071 := by omega
         have b6I : (b : Int) ≤ 1 := by omega
         clear hb hv1
         go_wp2_with fail
         refine HNUM.out.mono ?_
         rintro en w2 ⟨rfl, h1, h2⟩
         have HS2 := Lib.hid (HS.out.step h1 h2)
         clear h1 h2 HNUM HS
         have c4 := HS2.out.ri.c4
         have cx := HS2.out.c
         obtain ⟨D, hmap, htr⟩ := HS2.out.tree
         have HMP := Lib.hid hmap
         have HTR := Lib.hid htr
         clear hmap htr
         by_cases hit : ∃ i, Huf.Hit (Inf.lf l) l.length V p (k + 1) i
         · obtain ⟨i, hi⟩ := hit
           have HSY : Hid (Inf.sy l V N p = some (i, q + 1)) := by
             unfold Hid
             rw [HQ.out, Nat.add_assoc]
             exact Inf.sy_some ⟨by have := HQ.out; omega, hi, fun j hj => HNH.out j (by omega)⟩
           have hti := (Inf.tk_hit HM.out (by omega) hi.1).2 hi
           obtain ⟨hyes, hat⟩ := HTR.out.yes i hi.1 hti.1
           have HKT : Hid (((Inf.tk l i : Nat) : Int) = (v1 : Int)) := by unfold Hid; rw [hti.2, HV1.out]
           rw [HKT.out] at hyes hat
           have HHAS := Lib.hid hyes
           have HAT : Hid (∀ c : Int, D.atKey (.int .i64 (v1 : Int)) (.lit (.int .i64 0)) = .lit (.int .i64 c) → c = (i : Int)) := by
             intro c h
             rw [hat] at h
             injection h with h
             injection h with _ h
             exact h.symm
           clear hi hti hyes hat
           go_wp2_with (first | (at_lookup; refine wpList_lookup_own_ok_int _ rfl _ _ 167 rfl 3 3 .i64 Inf.keyInt (by kernel_rfl) Tryz.underlying3 (Inf.zeroInt _) gm _ D rfl HMP.out _ _ rfl (keyOf_int_mk Tryz.underlying3 (WalkArith.wf_i64 (by omega))) ?_; intro c hat hwc; rw [HHAS.out]; rw [HAT.out c hat]; clear hat hwc))
           go_returns
           exact ⟨HS2.out.kp, .inr ⟨i, q + 1, HSY.out, rfl, HS2.out.ri⟩⟩
         · have HNX : Hid (∀ j, j ≤ k + 1 → ∀ t, ¬ Huf.Hit (Inf.lf l) l.length V p j t) := fun j hj t ht => by
             rcases Nat.lt_or_ge j (k + 1) with c | c
             · exact HNH.out j (by omega) t ht
             · obtain rfl : j = k + 1 := by omega
               exact hit ⟨t, ht⟩
           have HHAS : Hid (Maps.has D (.int .i64 (v1 : Int)) = false) := HTR.out.no _ fun i hi hp e => hit ⟨i, (Inf.tk_hit HM.out (by omega) hi).1 ⟨hp, by have := HV1.out; omega⟩⟩
           clear hit
           go_wp2_with (first | (at_lookup; refine wpList_lookup_own_ok_int _ rfl _ _ 167 rfl 3 3 .i64 Inf.keyInt (by kernel_rfl) Tryz.underlying3 (Inf.zeroInt _) gm _ D rfl HMP.out _ _ rfl (keyOf_int_mk Tryz.underlying3 (WalkArith.wf_i64 (by omega))) ?_; intro c hat hwc; rw [HHAS.out]; clear hat hwc))
           refine ⟨⟨k + 1, v1, q + 1, 0, by congr 1, by congr 1, by omega, by omega, HS2.out, .inl ⟨rfl, by have := HQ.out; omega, HV1.out, HNX.out⟩⟩, by simp [intOf]; omega⟩
       · have HNUM := Lib.hid (rnum_no 1 w0 wr g N V vb q T vt M 0 HS.out.ri HN.out (by omega) (.inr (by omega)))
         rw [Inf.er_zero] at HNUM
         have HSY : Hid (Inf.sy l V N p = none) := Inf.sy_none fun j t h1 ht => HNH.out j (by have := HQ.out; omega) t ht
         obtain ⟨v1, hv1⟩ : ∃ v1, v1 = 2 * v := ⟨_, rfl⟩
         have e1 : 2 * (v : Int) = (v1 : Int) := by omega
         have v16 : v1 ≤ 131071 := by omega
         have v1I : (v1 : Int) ≤ 131071 := by omega
         clear hv1
         go_wp2_with fail
         refine HNUM.out.mono ?_
         rintro en w2 ⟨rfl, h1, h2⟩
         have HS2 := Lib.hid (HS.out.step h1 h2)
         clear h1 h2 HNUM HS
         have c4 := HS2.out.ri.c4
         have cx := HS2.out.c
         obtain ⟨D, hmap, htr⟩ := HS2.out.tree
         have HMP := Lib.hid hmap
         clear hmap htr
         have hd44 : ((4 : Int) == 0) = false := rfl
         obtain ⟨bb, hbb⟩ : ∃ bb, bb = Maps.has D (.int .i64 (v1 : Int)) := ⟨_, rfl⟩
         cases bb
         · have HHAS := Lib.hid hbb.symm
           clear hbb
           go_wp2_with (first | (at_lookup; refine wpList_lookup_own_ok_int _ rfl _ _ 167 rfl 3 3 .i64 Inf.keyInt (by kernel_rfl) Tryz.underlying3 (Inf.zeroInt _) gm _ D rfl HMP.out _ _ rfl (keyOf_int_mk Tryz.underlying3 (WalkArith.wf_i64 (by omega))) ?_; intro c hat hwc; rw [HHAS.out]; clear hat hwc))
           refine ⟨⟨k + 1, v1, q, 4, by congr 1, by congr 1, by omega, by omega, HS2.out, .inr ⟨rfl, HSY.out⟩⟩, by simp [intOf]; omega⟩
         · have HHAS := Lib.hid hbb.symm
           clear hbb
           go_wp2_with (first | (at_lookup; refine wpList_lookup_own_ok_int _ rfl _ _ 167 rfl 3 3 .i64 Inf.keyInt (by kernel_rfl) Tryz.underlying3 (Inf.zeroInt _) gm _ D rfl HMP.out _ _ rfl (keyOf_int_mk Tryz.underlying3 (WalkArith.wf_i64 (by omega))) ?_; intro c hat hwc; rw [HHAS.out]; clear hat hwc))
           refine ⟨⟨k + 1, v1, q, 4, by congr 1, by congr 1, by omega, by omega, HS2.out, .inr ⟨rfl, HSY.out⟩⟩, by simp [intOf]; omega⟩
     · have hd : decide ((k : Int) < 15) = false := by simp; omega
       have HNO : Hid (Inf.sy l V N p = none) := Inf.sy_none fun j t _ ht => hno j (by
         have h1 := HM.out.1.2 t ht.1
         have h2 := ht.2.2.1
         omega) t ht
       clear hno
       go_wp2_with fail
       refine (rfail_any 4 w0 _ g N V vb q T vt M 0 HS.out.ri).mono ?_
       rintro en w1 ⟨rfl, h1, h2⟩
       have H1 := Lib.hid h1
       have H2 := Lib.hid (HS.out.kp.trans h2)
       clear h1 h2
       go_wp2
       go_returns
       exact ⟨H2.out, .inl ⟨HNO.out, rfl, q, H1.out⟩⟩
   · subst he
     have HNO : Hid (Inf.sy l V N p = none) := hsy
     clear hsy
     have hd4 : ((4 : Int) == 0) = false := rfl
     by_cases hlt : k < 15
     · have hd : decide ((k : Int) < 15) = true := by simp; omega
       go_wp2_with fail
       refine (rfail_any 4 w0 _ g N V vb q T vt M 4 HS.out.ri).mono ?_
       rintro en w1 ⟨rfl, h1, h2⟩
       have H1 := Lib.hid h1
       have H2 := Lib.hid (HS.out.kp.trans h2)
       clear h1 h2
       go_wp2
       go_returns
       exact ⟨H2.out, .inl ⟨HNO.out, rfl, q, H1.out⟩⟩
     · have hd : decide ((k : Int) < 15) = false := by simp; omega
       go_wp2_with fail
       refine (rfail_any 4 w0 _ g N V vb q T vt M 4 HS.out.ri).mono ?_
       rintro en w1 ⟨rfl, h1, h2⟩
       have H1 := Lib.hid h1
       have H2 := Lib.hid (HS.out.kp.trans h2)
       clear h1 h2
       go_wp2
       go_returns
       exact ⟨H2.out, .inl ⟨HNO.out, rfl, q, H1.out⟩⟩

theorem rsym_no (gm : Nat) (w0 w : World) (g N V : Nat) (vb : Value) (p : Nat) (T : List Int) (vt : Value) (M : Nat) (e : Int) (h : Ri w0 w g N V vb p T vt M e) (he : ¬ e = 0) :
   Calls Tryz.prog 98 #[.pointer (some ⟨g, 0, none⟩), .agg #[.map (some gm)]] w fun en w' => en = .returned (.int .i64 0) ∧ Ri w0 w' g N V vb p T vt M e ∧ Kp g w w' := by
 have HS0 : Hid (Ri w0 (w.alloc (.cells #[.map (some gm)] 169)) g N V vb p T vt M e ∧ Kp g w (w.alloc (.cells #[.map (some gm)] 169))) := by
   have hb : Below w.heap.size w (w.alloc (.cells #[.map (some gm)] 169)) := (Below.refl _ _).alloc (Nat.le_refl _) _
   exact ⟨h.later hb, Kp.below hb⟩
 have HE := Lib.hid he
 have hd4 : (e == 0) = false := by simp [he]
 clear h he
 go_enter Tryz.func98, Tryz.ntmps98
 go_wp2_with fail
 generalize w.alloc (.cells #[.map (some gm)] 169) = wa at *
 generalize w.heap.size = gx at *
 have c4 := HS0.out.1.c4
 go_loopw [6] (fun v6 wr => v6 = .int .i64 0 ∧ wr = wa) (fun _ _ => 0)
 case atStart => exact ⟨rfl, rfl⟩
 case round =>
   obtain ⟨rfl, rfl⟩ := hrel
   go_wp2_with fail
   refine (rfail_any 4 w0 _ g N V vb p T vt M e HS0.out.1).mono ?_
   rintro en w1 ⟨rfl, h1, h2⟩
   rw [Inf.er_some HE.out] at h1
   have H1 := Lib.hid h1
   have H2 := Lib.hid (HS0.out.2.trans h2)
   clear h1 h2
   go_wp2
   go_returns
   exact ⟨rfl, H1.out, H2.out⟩
end Go.Proofs.YtenkkononchgmaaGreatDoor
