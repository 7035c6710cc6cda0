/- The walks of the law's symbol and weights. -/
import Derived.Test.YteajjanjkhhgdaaDoorIwWr
import Derived.Test.YteajjanjkhhgdaaDoorLkExp
import Derived.Deep.CutRange
import Derived.Deep.CutBlock

/- The walks of the law's symbol and weights. -/
namespace Go.Proofs.YteajjanjkhhgdaaDoor
open Go.RowKit Go
open Lz (Pc)

/-- the place of the last base that is not above n -/
def Inf.lst (l : List Nat) (n : Nat) : Nat → Nat
  | 0 => 0
  | i + 1 => if l.getD i 0 ≤ n then i else Inf.lst l n i
theorem Inf.lst_lt (l : List Nat) (n : Nat) : ∀ m, 0 < m → Inf.lst l n m < m
  | 0, h => by omega
  | i + 1, _ => by
    rw [Inf.lst]
    split
    · omega
    · rcases Nat.eq_zero_or_pos i with h | h
      · subst h; rw [Inf.lst]; omega
      · have := Inf.lst_lt l n i h; omega
theorem Inf.lst_spec (l : List Nat) (n : Nat) (h0 : l.getD 0 0 ≤ n) : ∀ m, 0 < m → l.getD (Inf.lst l n m) 0 ≤ n ∧ ∀ j, Inf.lst l n m < j → j < m → n < l.getD j 0
  | 0, h => by omega
  | i + 1, _ => by
    rw [Inf.lst]
    split
    · rename_i h; exact ⟨h, fun j h1 h2 => by omega⟩
    · rename_i h
      rcases Nat.eq_zero_or_pos i with h1 | h1
      · subst h1; exact absurd h0 h
      · obtain ⟨q1, q2⟩ := Inf.lst_spec l n h0 i h1
        refine ⟨q1, fun j h2 h3 => ?_⟩
        rcases Nat.lt_or_ge j i with c | c
        · exact q2 j h2 c
        · obtain rfl : j = i := by omega
          omega
theorem Inf.lb_up : ∀ k, k < 28 → Inf.lbs.getD (k + 1) 0 ≤ Inf.lbs.getD k 0 + 2 ^ Inf.lxs.getD k 0 := by decide
theorem Inf.db_up : ∀ k, k < 29 → Inf.dbs.getD (k + 1) 0 ≤ Inf.dbs.getD k 0 + 2 ^ Inf.dxs.getD k 0 := by decide
theorem Inf.lb_ok {n : Nat} (h1 : 3 ≤ n) (h2 : n ≤ 258) : Inf.lst Inf.lbs n 29 < 29 ∧ Inf.lbs.getD (Inf.lst Inf.lbs n 29) 0 ≤ n ∧ n - Inf.lbs.getD (Inf.lst Inf.lbs n 29) 0 < 2 ^ Inf.lxs.getD (Inf.lst Inf.lbs n 29) 0 := by
  have hl := Inf.lst_lt Inf.lbs n 29 (by omega)
  obtain ⟨q1, q2⟩ := Inf.lst_spec Inf.lbs n (show Inf.lbs.getD 0 0 ≤ n from h1) 29 (by omega)
  generalize Inf.lst Inf.lbs n 29 = k at *
  refine ⟨hl, q1, ?_⟩
  rcases Nat.lt_or_ge k 28 with c | c
  · have := q2 (k + 1) (by omega) (by omega)
    have := Inf.lb_up k c
    omega
  · obtain rfl : k = 28 := by omega
    have e1 : Inf.lbs.getD 28 0 = 258 := rfl
    have e2 : Inf.lxs.getD 28 0 = 0 := rfl
    rw [e1, e2]
    omega
theorem Inf.db_ok {n : Nat} (h1 : 1 ≤ n) (h2 : n ≤ 32768) : Inf.lst Inf.dbs n 30 < 30 ∧ Inf.dbs.getD (Inf.lst Inf.dbs n 30) 0 ≤ n ∧ n - Inf.dbs.getD (Inf.lst Inf.dbs n 30) 0 < 2 ^ Inf.dxs.getD (Inf.lst Inf.dbs n 30) 0 := by
  have hl := Inf.lst_lt Inf.dbs n 30 (by omega)
  obtain ⟨q1, q2⟩ := Inf.lst_spec Inf.dbs n (show Inf.dbs.getD 0 0 ≤ n from h1) 30 (by omega)
  generalize Inf.lst Inf.dbs n 30 = k at *
  refine ⟨hl, q1, ?_⟩
  rcases Nat.lt_or_ge k 29 with c | c
  · have := q2 (k + 1) (by omega) (by omega)
    have := Inf.db_up k c
    omega
  · obtain rfl : k = 29 := by omega
    have e1 : Inf.dbs.getD 29 0 = 24577 := rfl
    have e2 : Inf.dxs.getD 29 0 = 13 := rfl
    have e3 : (2 : Nat) ^ 13 = 8192 := rfl
    rw [e1, e2, e3]
    omega
theorem wsym_any (l : List Nat) (G m n : Nat) (w : World) (hT : Tb w G l) (hm : l.length = m) (h1000 : m ≤ 1000) (hn : n ≤ 1000000) :
    Calls Tryd.prog 55 #[.slice (some ⟨G, 0, none⟩) m m, .int .i64 (n : Int)] w fun e w' => e = .returned (.int .i64 ((Inf.lst l n m : Nat) : Int)) ∧ w' = w := by
  have HT := Lib.hid hT
  have HM := Lib.hid hm
  have hmI : (m : Int) ≤ 1000 := by omega
  have hnI : (n : Int) ≤ 1000000 := by omega
  clear hT hm h1000 hn
  go_enter Tryd.func55, Tryd.ntmps55
  go_wp2_with fail
  go_loopw [5, 6] (fun v5 v6 wr => ∃ i : Nat, i ≤ m ∧ v6 = .int .i64 (i : Int) ∧ v5 = .int .i64 ((Inf.lst l n i : Nat) : Int) ∧ wr = w) (fun _ v6 _ => (m - intOf v6).toNat)
  case atStart => exact ⟨0, by omega, rfl, rfl, rfl⟩
  case round =>
    obtain ⟨i, hi, rfl, rfl, rfl⟩ := hrel
    by_cases hlt : i < m
    · have d1 : decide (i < m) = true := decide_eq_true hlt
      have d1' : decide ((i : Int) < (m : Int)) = true := decide_eq_true (by omega)
      obtain ⟨x, hx⟩ : ∃ x, x = l.getD i 0 := ⟨_, rfl⟩
      have hc := HT.out.cell (j := i) (by have := HM.out; omega)
      rw [← hx] at hc
      have HI : Hid (i < m) := hlt
      have hiI : (i : Int) < (m : Int) := by omega
      have HST : Hid (Inf.lst l n (i + 1) = if x ≤ n then i else Inf.lst l n i) := by unfold Hid; rw [Inf.lst, ← hx]
      generalize Inf.lst l n i = y at *
      clear hx hi hlt
      by_cases hxn : x ≤ n
      · have d2 : decide (x ≤ n) = true := decide_eq_true hxn
        have d2' : decide ((x : Int) ≤ (n : Int)) = true := decide_eq_true (by omega)
        have HS : Hid (Inf.lst l n (i + 1) = i) := by unfold Hid; rw [HST.out, if_pos hxn]
        clear hxn
        go_wp2
        exact ⟨⟨i + 1, by have := HI.out; omega, by go_num, by rw [HS.out], by first | rfl | trivial⟩, by have := HI.out; simp [intOf]; omega⟩
      · have d2 : decide (x ≤ n) = false := decide_eq_false hxn
        have d2' : decide ((x : Int) ≤ (n : Int)) = false := decide_eq_false (by omega)
        have HS : Hid (Inf.lst l n (i + 1) = y) := by unfold Hid; rw [HST.out, if_neg hxn]
        clear hxn
        go_wp2
        exact ⟨⟨i + 1, by have := HI.out; omega, by go_num, by rw [HS.out], by first | rfl | trivial⟩, by have := HI.out; simp [intOf]; omega⟩
    · have d1 : decide (i < m) = false := decide_eq_false hlt
      have d1' : decide ((i : Int) < (m : Int)) = false := decide_eq_false (by omega)
      obtain rfl : i = m := by omega
      clear hi hlt
      go_wp2
      go_ret
      exact ⟨rfl, rfl⟩

/-- may these pieces be written? -/
def PcOk (l : List Pc) : Prop := ∀ p ∈ l, (p.isB ∧ 0 ≤ p.c ∧ p.c < 256) ∨ p.isM
/-- does a row of lengths (or weights) tell these pieces? -/
def Cov (U Q : List Nat) (l : List Pc) : Prop := ∀ p ∈ l, (p.n = 0 → 1 ≤ U.getD p.c.toNat 0) ∧ (p.n ≠ 0 → 1 ≤ U.getD (257 + Inf.lst Inf.lbs p.n.toNat 29) 0 ∧ 1 ≤ Q.getD (Inf.lst Inf.dbs p.d.toNat 30) 0)
/-- weights while they are counted -/
structure Wt (w wr : World) (GA GB GL GD : Nat) (U Q : List Nat) (l : List Pc) : Prop where
  bel : Below w.heap.size w wr
  ra : Tb wr GA U
  rb : Tb wr GB Q
  tl : Tb wr GL Inf.lbs
  td : Tb wr GD Inf.dbs
  la : U.length = 286
  lb : Q.length = 30
  loA : w.heap.size ≤ GA
  loB : w.heap.size ≤ GB
  nab : GA ≠ GB
  nal : GL ≠ GA ∧ GD ≠ GA
  nbl : GL ≠ GB ∧ GD ≠ GB
  e256 : 1 ≤ U.getD 256 0
  cov : Cov U Q l
  top : ∀ j, U.getD j 0 ≤ 1 + l.length ∧ Q.getD j 0 ≤ l.length
theorem Tb.set {w : World} {G : Nat} {l : List Nat} (h : Tb w G l) (j x : Nat) : Tb (w.setCell ⟨G, j, none⟩ (.int .i64 (x : Int))) G (l.set j x) := by
  show (w.setCell _ _).heap[G]? = _
  rw [heap_setCell_same _ _ _ _ _ _ h]
  congr 2
  simp [nv, List.map_set]
theorem Tb.off {w : World} {G H : Nat} {l : List Nat} (h : Tb w G l) (hne : G ≠ H) (j : Nat) (v : Value) : Tb (w.setCell ⟨H, j, none⟩ v) G l :=
  (heap_setCell_other _ _ _ _ hne).trans h
theorem set_up (l : List Nat) (j k : Nat) (hj : j < l.length) : l.getD k 0 ≤ (l.set j (l.getD j 0 + 1)).getD k 0 ∧ (l.set j (l.getD j 0 + 1)).getD k 0 ≤ l.getD k 0 + 1 ∧ 1 ≤ (l.set j (l.getD j 0 + 1)).getD j 0 := by
  refine ⟨?_, ?_, ?_⟩
  all_goals simp only [List.getD_eq_getElem?_getD, List.getElem?_set]
  · by_cases e : j = k
    · subst e; rw [if_pos rfl, if_pos hj]; simp
    · rw [if_neg e]; exact Nat.le_refl _
  · by_cases e : j = k
    · subst e; rw [if_pos rfl, if_pos hj]; simp
    · rw [if_neg e]; omega
  · rw [if_pos trivial, if_pos hj]; simp
theorem Cov.up {U U' Q Q' : List Nat} {l : List Pc} (h : Cov U Q l) (hU : ∀ k, U.getD k 0 ≤ U'.getD k 0) (hQ : ∀ k, Q.getD k 0 ≤ Q'.getD k 0) : Cov U' Q' l := fun p hp => by
  obtain ⟨h1, h2⟩ := h p hp
  exact ⟨fun e => Nat.le_trans (h1 e) (hU _), fun e => ⟨Nat.le_trans (h2 e).1 (hU _), Nat.le_trans (h2 e).2 (hQ _)⟩⟩
theorem Cov.snoc {U Q : List Nat} {l : List Pc} {p : Pc} (h : Cov U Q l) (h1 : p.n = 0 → 1 ≤ U.getD p.c.toNat 0) (h2 : p.n ≠ 0 → 1 ≤ U.getD (257 + Inf.lst Inf.lbs p.n.toNat 29) 0 ∧ 1 ≤ Q.getD (Inf.lst Inf.dbs p.d.toNat 30) 0) : Cov U Q (l ++ [p]) := fun q hq => by
  rcases List.mem_append.1 hq with c | c
  · exact h q c
  · simp at c; subst c; exact ⟨h1, h2⟩
/-- a byte is counted -/
theorem Wt.lit {w wr : World} {GA GB GL GD : Nat} {U Q : List Nat} {l : List Pc} (h : Wt w wr GA GB GL GD U Q l) {p : Pc} {c : Nat} (hp : p.n = 0) (hc : p.c = (c : Int)) (hc6 : c < 256) :
    Wt w (wr.setCell ⟨GA, c, none⟩ (.int .i64 ((U.getD c 0 + 1 : Nat) : Int))) GA GB GL GD (U.set c (U.getD c 0 + 1)) Q (l ++ [p]) := by
  have hcl : c < U.length := by rw [h.la]; omega
  have hs := fun k => set_up U c k hcl
  refine ⟨h.bel.setCell h.loA _, h.ra.set _ _, h.rb.off h.nab.symm _ _, h.tl.off h.nal.1 _ _, h.td.off h.nal.2 _ _, by rw [List.length_set]; exact h.la, h.lb, h.loA, h.loB, h.nab, h.nal, h.nbl, Nat.le_trans h.e256 (hs 256).1, ?_, fun j => ?_⟩
  · refine (h.cov.up (fun k => (hs k).1) (fun k => Nat.le_refl _)).snoc (fun _ => ?_) (fun e => absurd hp e)
    rw [hc]
    exact (hs 0).2.2
  · rw [List.length_append, show [p].length = 1 from rfl]
    have := h.top j
    have := (hs j).2.1
    omega
/-- a match is counted -/
theorem Wt.mat {w wr : World} {GA GB GL GD : Nat} {U Q : List Nat} {l : List Pc} (h : Wt w wr GA GB GL GD U Q l) {p : Pc} {k1 k2 : Nat} (hp : p.n ≠ 0) (h1 : k1 = Inf.lst Inf.lbs p.n.toNat 29) (h2 : k2 = Inf.lst Inf.dbs p.d.toNat 30) (hk1 : k1 < 29) (hk2 : k2 < 30) :
    Wt w ((wr.setCell ⟨GA, 257 + k1, none⟩ (.int .i64 ((U.getD (257 + k1) 0 + 1 : Nat) : Int))).setCell ⟨GB, k2, none⟩ (.int .i64 ((Q.getD k2 0 + 1 : Nat) : Int))) GA GB GL GD (U.set (257 + k1) (U.getD (257 + k1) 0 + 1)) (Q.set k2 (Q.getD k2 0 + 1)) (l ++ [p]) := by
  have hcl : 257 + k1 < U.length := by rw [h.la]; omega
  have hdl : k2 < Q.length := by rw [h.lb]; omega
  have hs := fun k => set_up U (257 + k1) k hcl
  have ht := fun k => set_up Q k2 k hdl
  refine ⟨(h.bel.setCell h.loA _).setCell h.loB _, (h.ra.set _ _).off h.nab _ _, (h.rb.off h.nab.symm _ _).set _ _, (h.tl.off h.nal.1 _ _).off h.nbl.1 _ _, (h.td.off h.nal.2 _ _).off h.nbl.2 _ _, by rw [List.length_set]; exact h.la, by rw [List.length_set]; exact h.lb, h.loA, h.loB, h.nab, h.nal, h.nbl, Nat.le_trans h.e256 (hs 256).1, ?_, fun j => ?_⟩
  · refine (h.cov.up (fun k => (hs k).1) (fun k => (ht k).1)).snoc (fun e => absurd e hp) (fun _ => ?_)
    rw [← h1, ← h2]
    exact ⟨(hs 0).2.2, (ht 0).2.2⟩
  · rw [List.length_append, show [p].length = 1 from rfl]
    have := h.top j
    have := (hs j).2.1
    have := (ht j).2.1
    omega
end Go.Proofs.YteajjanjkhhgdaaDoor

/- The walk of the law's weights. -/
namespace Go.Proofs.YteajjanjkhhgdaaDoor
open Go.RowKit Go
open Lz (Pc)

/-- two rows of noughts -/
structure W1 (w wx : World) (GA GB : Nat) : Prop where
  bel : Below w.heap.size w wx
  ra : Tb wx GA (List.replicate 286 0)
  rb : Tb wx GB (List.replicate 30 0)
  loA : w.heap.size ≤ GA
  loB : w.heap.size ≤ GB
  ne : GA ≠ GB
theorem PcsIn.at_ {w : World} {a : Option Addr} {n cap : Nat} {l : List Pc} {ok : Nat → Prop} (h : PcsIn w (.slice a n cap) l ok) {i : Nat} {p : Pc} (hp : l[i]? = some p) : ∃ s o, a = some ⟨s, o, none⟩ ∧ ok s ∧ s < w.heap.size ∧ w.cell? ⟨s, o + i * 3, none⟩ = some (.int .u8 p.c) ∧ w.cell? ⟨s, o + i * 3 + 1, none⟩ = some (.int .i64 p.n) ∧ w.cell? ⟨s, o + i * 3 + 2, none⟩ = some (.int .i64 p.d) := by
  obtain ⟨a', cap', e, h1, h2, h3⟩ := h
  cases e
  have hl := (List.getElem?_eq_some_iff.1 hp).1
  obtain ⟨s, o, e1, e2, e3, e4⟩ := h3 (by omega)
  exact ⟨s, o, e1, e2, e3, e4 i p hp⟩

set_option maxRecDepth 100000 in
set_option maxHeartbeats 8000000 in
theorem weights_any (a : Option Addr) (n cap : Nat) (l : List Pc) (w : World) (hn : n = l.length) (hl : n ≤ 1000) (hP : PcsIn w (.slice a n cap) l (fun _ => True)) (hok : PcOk l) :
    Calls Tryd.prog 56 #[.slice a n cap] w fun e w' => ∃ GA GB GL GD U Q, e = .returned (.tuple #[.slice (some ⟨GA, 0, none⟩) 286 286, .slice (some ⟨GB, 0, none⟩) 30 30]) ∧ Wt w w' GA GB GL GD U Q l := by
  have HN := Lib.hid hn
  have HL := Lib.hid hl
  have HP := Lib.hid hP
  have HOK := Lib.hid hok
  obtain ⟨AZ, hAZ⟩ : ∃ AZ : Array Value, AZ = (nv (List.replicate 286 0)).toArray := ⟨_, rfl⟩
  obtain ⟨BZ, hBZ⟩ : ∃ BZ : Array Value, BZ = (nv (List.replicate 30 0)).toArray := ⟨_, rfl⟩
  have hmkA : ∀ w : World, (Instr.makeSlice 42 (.int .i64 286) (.int .i64 286)).run Tryd.prog w = .ok (.slice (some ⟨w.heap.size, 0, none⟩) 286 286) (w.alloc (.cells AZ 3)) := fun w => (run_ints 286 (by omega) w).trans (by rw [hAZ, show ki 286 (fun _ => 0) = (nv (List.replicate 286 0)).toArray from rfl])
  have hmkB : ∀ w : World, (Instr.makeSlice 42 (.int .i64 30) (.int .i64 30)).run Tryd.prog w = .ok (.slice (some ⟨w.heap.size, 0, none⟩) 30 30) (w.alloc (.cells BZ 3)) := fun w => (run_ints 30 (by omega) w).trans (by rw [hBZ, show ki 30 (fun _ => 0) = (nv (List.replicate 30 0)).toArray from rfl])
  have hnI : (n : Int) ≤ 1000 := by omega
  have hbd : Below w.heap.size w w.drew := (Drawn.refl w).drew.below _
  have HW1 : Hid (W1 w ((w.drew.alloc (.cells AZ 3)).alloc (.cells BZ 3)) w.heap.size (w.heap.size + 1)) := by
    refine ⟨(hbd.alloc (Nat.le_refl _) _).alloc (by simp) _, ?_, ?_, Nat.le_refl _, by omega, by omega⟩
    · show (_ : World).heap[_]? = _
      rw [← hAZ]
      exact (Below.heap_alloc _ _ _ (by simp)).trans (heap_alloc_new w.drew _)
    · show (_ : World).heap[_]? = _
      rw [← hBZ]
      have := heap_alloc_new (w.drew.alloc (.cells AZ 3)) (.cells BZ 3)
      simpa using this
  have HW2 : Hid (W1 w ((w.drew.alloc (.cells BZ 3)).alloc (.cells AZ 3)) (w.heap.size + 1) w.heap.size) := by
    refine ⟨(hbd.alloc (Nat.le_refl _) _).alloc (by simp) _, ?_, ?_, by omega, Nat.le_refl _, by omega⟩
    · show (_ : World).heap[_]? = _
      rw [← hAZ]
      have := heap_alloc_new (w.drew.alloc (.cells BZ 3)) (.cells AZ 3)
      simpa using this
    · show (_ : World).heap[_]? = _
      rw [← hBZ]
      exact (Below.heap_alloc _ _ _ (by simp)).trans (heap_alloc_new w.drew _)
  clear hn hl hP hok hAZ hBZ hbd
  go_enter Tryd.func56, Tryd.ntmps56
  go_upto_region 1 with fail
  go_cut [4, 5] from 9 (fun v4 v5 wx => ∃ GA GB, v4 = .slice (some ⟨GA, 0, none⟩) 286 286 ∧ v5 = .slice (some ⟨GB, 0, none⟩) 30 30 ∧ W1 w wx GA GB)
  case first =>
    go_region
    all_goals go_wp2_with fail
    all_goals go_meet
    all_goals first | exact ⟨_, _, rfl, rfl, HW1.out⟩ | exact ⟨_, _, rfl, rfl, HW2.out⟩
  case rest =>
    obtain ⟨GA, GB, rfl, rfl, hw1⟩ := hcut
    have HA := Lib.hid hw1
    have ca : wc.cell? ⟨GA, 256, none⟩ = some (.int .i64 0) := by have := hw1.ra.cell (j := 256) (by decide); simpa using this
    have fa : wc.frozen? ⟨GA, 256, none⟩ = false := frozen_of_row _ _ _ _ _ hw1.ra
    obtain ⟨U0, hU0⟩ : ∃ U0, U0 = (List.replicate 286 0).set 256 1 := ⟨_, rfl⟩
    obtain ⟨Q0, hQ0⟩ : ∃ Q0, Q0 = List.replicate 30 0 := ⟨_, rfl⟩
    have HB : Hid (Below w.heap.size w (wc.setCell ⟨GA, 256, none⟩ (.int .i64 1)) ∧ Tb (wc.setCell ⟨GA, 256, none⟩ (.int .i64 1)) GA U0 ∧ Tb (wc.setCell ⟨GA, 256, none⟩ (.int .i64 1)) GB Q0) := by
      refine ⟨hw1.bel.setCell hw1.loA _, ?_, ?_⟩
      · rw [hU0]; exact hw1.ra.set 256 1
      · rw [hQ0]; exact hw1.rb.off hw1.ne.symm _ _
    clear hw1
    go_wp2_with fail
    generalize wc.setCell ⟨GA, 256, none⟩ (.int .i64 1) = wd at *
    refine (lengthBases_any _).mono ?_
    rintro en w2 ⟨h1, GL, h2, h3, rfl⟩
    have B2 : Hid (Below w.heap.size w w2) := HB.out.1.trans (h1.mono HB.out.1.size)
    have A2 : Hid (Tb w2 GA U0) := (h1.block _ (Inf.lt_some HB.out.2.1)).trans HB.out.2.1
    have C2 : Hid (Tb w2 GB Q0) := (h1.block _ (Inf.lt_some HB.out.2.2)).trans HB.out.2.2
    have L2 : Hid (Tb w2 GL Inf.lbs ∧ GL ≠ GA ∧ GL ≠ GB) := ⟨h3, Nat.ne_of_gt (Nat.lt_of_lt_of_le (Inf.lt_some HB.out.2.1) h2), Nat.ne_of_gt (Nat.lt_of_lt_of_le (Inf.lt_some HB.out.2.2) h2)⟩
    clear h1 h2 h3 HB ca fa
    go_wp2_with fail
    refine (distBases_any _).mono ?_
    rintro en w3 ⟨h1, GD, h2, h3, rfl⟩
    have HS0 : Hid (Wt w w3 GA GB GL GD U0 Q0 []) := by
      have a3 : Tb w3 GA U0 := (h1.block _ (Inf.lt_some A2.out)).trans A2.out
      have c3 : Tb w3 GB Q0 := (h1.block _ (Inf.lt_some C2.out)).trans C2.out
      have l3 : Tb w3 GL Inf.lbs := (h1.block _ (Inf.lt_some L2.out.1)).trans L2.out.1
      refine ⟨B2.out.trans (h1.mono B2.out.size), a3, c3, l3, h3, by rw [hU0]; simp, by rw [hQ0]; simp, HA.out.loA, HA.out.loB, HA.out.ne, ⟨L2.out.2.1, Nat.ne_of_gt (Nat.lt_of_lt_of_le (Inf.lt_some A2.out) h2)⟩, ⟨L2.out.2.2, Nat.ne_of_gt (Nat.lt_of_lt_of_le (Inf.lt_some C2.out) h2)⟩, by rw [hU0]; decide, fun p hp => by simp at hp, fun j => ⟨?_, ?_⟩⟩
      · rw [hU0, List.getD_eq_getElem?_getD, List.getElem?_set]
        split
        · simp
        · rw [List.getElem?_replicate]; split <;> simp
      · rw [hQ0, List.getD_eq_getElem?_getD, List.getElem?_replicate]; split <;> simp
    clear h1 h2 h3 B2 A2 C2 L2 HA hU0 hQ0
    go_wp2_with fail
    go_loopw [8] (fun v8 wr => ∃ (i : Nat) (U Q : List Nat), i ≤ n ∧ v8 = .int .i64 (i : Int) ∧ Wt w wr GA GB GL GD U Q (l.take i)) (fun v8 _ => (n - intOf v8).toNat)
    case atStart => exact ⟨0, U0, Q0, by omega, rfl, by rw [List.take_zero]; exact HS0.out⟩
    case round =>
      clear HS0
      obtain ⟨i, U, Q, hi, rfl, hs⟩ := hrel
      have HS := Lib.hid hs
      by_cases hlt : i < n
      · have d1 : decide (i < n) = true := decide_eq_true hlt
        have d1' : decide ((i : Int) < (n : Int)) = true := decide_eq_true (by omega)
        have HI : Hid (i < n) := hlt
        have hiI : (i : Int) < (n : Int) := by omega
        have hil : i < l.length := by rw [← HN.out]; exact hlt
        obtain ⟨p, hp⟩ : ∃ p, l[i]? = some p := ⟨_, List.getElem?_eq_getElem hil⟩
        have hpm := HOK.out p (List.mem_of_getElem? hp)
        have HTK : Hid (l.take (i + 1) = l.take i ++ [p]) := by unfold Hid; rw [List.take_add_one, hp]; rfl
        have HPC : Hid (∀ wx, Below w.heap.size w wx → ∃ s o, a = some ⟨s, o, none⟩ ∧ wx.cell? ⟨s, o + i * 3, none⟩ = some (.int .u8 p.c) ∧ wx.cell? ⟨s, o + i * 3 + 1, none⟩ = some (.int .i64 p.n) ∧ wx.cell? ⟨s, o + i * 3 + 2, none⟩ = some (.int .i64 p.d)) := fun wx hb => by
          obtain ⟨s, o, e1, -, -, e2⟩ := (HP.out.later hb).at_ hp
          exact ⟨s, o, e1, e2⟩
        obtain ⟨s, o, rfl, q1, q2, q3⟩ := HPC.out wr hs.bel
        clear hi hlt hil hp
        rcases hpm with ⟨⟨hn0, hd0⟩, hc0, hc1⟩ | ⟨hc0, hn3, hn258, hd1, hd2⟩
        · obtain ⟨c, hc⟩ : ∃ c : Nat, p.c = (c : Int) := ⟨p.c.toNat, by omega⟩
          rw [hc] at q1
          rw [hn0] at q2
          have hc6 : c < 256 := by omega
          have cU := hs.ra.cell (j := c) (by rw [hs.la]; omega)
          have fU : wr.frozen? ⟨GA, c, none⟩ = false := frozen_of_row _ _ _ _ _ hs.ra
          have HNX := Lib.hid (hs.lit hn0 hc hc6)
          have htop := (hs.top c).1
          rw [List.length_take] at htop
          have hwc : IntKind.i64.wrap (c : Int) = (c : Int) := by rw [IntKind.wrap_i64]; omega
          have hcI : (c : Int) < 286 := by omega
          obtain ⟨u, hu⟩ : ∃ u, u = U.getD c 0 := ⟨_, rfl⟩
          rw [← hu] at cU HNX htop
          have huI : (u : Int) ≤ 2000 := by omega
          rw [show ((u + 1 : Nat) : Int) = (u : Int) + 1 from by omega] at HNX
          clear hs hn0 hd0 hc0 hc1 hc6 hu htop hc q3
          go_wp2_with fail
          exact ⟨⟨i + 1, _, _, by have := HI.out; omega, by go_num, by rw [HTK.out]; exact HNX.out⟩, by have := HI.out; simp [intOf]; omega⟩
        · obtain ⟨pn, hpn⟩ : ∃ pn : Nat, p.n = (pn : Int) := ⟨p.n.toNat, by omega⟩
          obtain ⟨pd, hpd⟩ : ∃ pd : Nat, p.d = (pd : Int) := ⟨p.d.toNat, by omega⟩
          rw [hpn] at q2
          rw [hpd] at q3
          have hpn3 : 3 ≤ pn := by omega
          have hpn258 : pn ≤ 258 := by omega
          have hpd1 : 1 ≤ pd := by omega
          have hpd2 : pd ≤ 32768 := by omega
          obtain ⟨k1, hk1⟩ : ∃ k1, k1 = Inf.lst Inf.lbs pn 29 := ⟨_, rfl⟩
          obtain ⟨k2, hk2⟩ : ∃ k2, k2 = Inf.lst Inf.dbs pd 30 := ⟨_, rfl⟩
          have hk1l : k1 < 29 := by rw [hk1]; exact (Inf.lb_ok hpn3 hpn258).1
          have hk2l : k2 < 30 := by rw [hk2]; exact (Inf.db_ok hpd1 hpd2).1
          have HNX := Lib.hid (hs.mat (p := p) (k1 := k1) (k2 := k2) (by omega) (by rw [hpn]; exact hk1) (by rw [hpd]; exact hk2) hk1l hk2l)
          have ht1 := (hs.top (257 + k1)).1
          have ht2 := (hs.top k2).2
          rw [List.length_take] at ht1 ht2
          obtain ⟨j, hj⟩ : ∃ j, j = 257 + k1 := ⟨_, rfl⟩
          have hjI : 257 + (k1 : Int) = (j : Int) := by omega
          rw [← hj] at HNX ht1
          obtain ⟨u, hu⟩ : ∃ u, u = U.getD j 0 := ⟨_, rfl⟩
          obtain ⟨v, hv⟩ : ∃ v, v = Q.getD k2 0 := ⟨_, rfl⟩
          have cU := hs.ra.cell (j := j) (by rw [hs.la]; omega)
          have fU : wr.frozen? ⟨GA, j, none⟩ = false := frozen_of_row _ _ _ _ _ hs.ra
          rw [← hu] at cU HNX ht1
          rw [← hv] at HNX ht2
          have huI : (u : Int) ≤ 2000 := by omega
          have hvI : (v : Int) ≤ 2000 := by omega
          rw [show ((u + 1 : Nat) : Int) = (u : Int) + 1 from by omega, show ((v + 1 : Nat) : Int) = (v : Int) + 1 from by omega] at HNX
          have HSY1 := Lib.hid (fun (wx : World) (h : Tb wx GL Inf.lbs) => wsym_any Inf.lbs GL 29 pn wx h rfl (by omega) (by omega))
          have HSY2 := Lib.hid (fun (wx : World) (h : Tb wx GD Inf.dbs) => wsym_any Inf.dbs GD 30 pd wx h rfl (by omega) (by omega))
          rw [← hk1] at HSY1
          rw [← hk2] at HSY2
          have hbs : Below w.heap.size w (wr.setCell ⟨GA, j, none⟩ (.int .i64 ((u : Int) + 1))) := hs.bel.setCell hs.loA _
          have HTD : Hid (Tb (wr.setCell ⟨GA, j, none⟩ (.int .i64 ((u : Int) + 1))) GD Inf.dbs) := hs.td.off hs.nal.2 _ _
          have HTB : Tb (wr.setCell ⟨GA, j, none⟩ (.int .i64 ((u : Int) + 1))) GB Q := hs.rb.off hs.nab.symm _ _
          have cQ := HTB.cell (j := k2) (by rw [hs.lb]; omega)
          rw [← hv] at cQ
          have fQ : (wr.setCell ⟨GA, j, none⟩ (.int .i64 ((u : Int) + 1))).frozen? ⟨GB, k2, none⟩ = false := frozen_of_row _ _ _ _ _ HTB
          obtain ⟨s', o', e', -, -, q3'⟩ := HPC.out _ hbs
          cases e'
          rw [hpd] at q3'
          have HTL := Lib.hid hs.tl
          have hj286 : (j : Int) < 286 := by omega
          have hk2I : (k2 : Int) < 30 := by omega
          have e0 : ((pn : Int) == 0) = false := by simp; omega
          clear hs hc0 hn3 hn258 hd1 hd2 hk1 hk2 hk1l hk2l ht1 ht2 hj hu hv hbs HTB hpn hpd hpn3 hpn258 hpd1 hpd2
          go_wp2_with fail
          refine (HSY1.out _ HTL.out).mono ?_
          rintro en w5 ⟨rfl, rfl⟩
          go_wp2_with fail
          refine (HSY2.out _ HTD.out).mono ?_
          rintro en w6 ⟨rfl, rfl⟩
          go_wp2_with fail
          exact ⟨⟨i + 1, _, _, by have := HI.out; omega, by go_num, by rw [HTK.out]; exact HNX.out⟩, by have := HI.out; simp [intOf]; omega⟩
      · have d1 : decide (i < n) = false := decide_eq_false hlt
        have d1' : decide ((i : Int) < (n : Int)) = false := decide_eq_false (by omega)
        have HE : Hid (l.take i = l) := List.take_of_length_le (by have := HN.out; omega)
        clear hs hi hlt
        go_wp2
        go_ret2
        exact ⟨GA, GB, GL, GD, U, Q, rfl, by have := HS.out; rw [HE.out] at this; exact this⟩
end Go.Proofs.YteajjanjkhhgdaaDoor
