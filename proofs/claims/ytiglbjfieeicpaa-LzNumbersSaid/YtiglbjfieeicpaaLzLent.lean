/- The kit's marks of pieces; its list of pieces that is lent, with marks behind its end; whether it is kept. -/
import Derived.Test.YtiglbjfieeicpaaLzSmall
import Derived.Test.YtiglbjfieeicpaaKitMark
import Derived.Test.YtiglbjfieeicpaaKitMake
import Derived.BigQuiet
import Derived.BigRegion
import Derived.RegionTactic
import Derived.Deep.QuietTactic
import Derived.StillTailTactics
import Derived.Shelf.SlSortCmp.QuietGrown
import Derived.Handy
namespace Go.Proofs.Ytiglbjfieeicpaa
open Go.RowKit Go Go.Sort
open Lz (Pc)

/-- the mark of a place in a list of pieces -/
def Kit.mp (k i : Nat) : Pc := ⟨0, 1000003 * ((k : Int) + 7) + i, 0⟩
theorem mixedOrders : Try.prog.follows .mixedOrders = true := by kernel_rfl
set_option maxRecDepth 100000 in
theorem markPiece_any (k i : Nat) (w : World) (hk : k ≤ 1048576) (hi : i ≤ 1099511627776) :
    Calls Try.prog 26 #[.int .i64 k, .int .i64 i] w fun e w' => e = .returned (.agg #[.int .u8 (Kit.mp k i).c, .int .i64 (Kit.mp k i).n, .int .i64 (Kit.mp k i).d]) ∧ w' = w.alloc (.cells #[.int .u8 0, .int .i64 (Kit.mp k i).n, .int .i64 0] 35) := by
  obtain ⟨r, hr⟩ : ∃ r : Int, 1000003 * ((k : Int) + 7) + i = r := ⟨_, rfl⟩
  have hr0 : 0 ≤ r := by omega
  have hr1 : r ≤ 1100561683457624 := by omega
  have HM := Lib.hid (fun wx => mark_any k i wx hk hi)
  rw [hr] at HM
  have HE : Hid (Kit.mp k i = ⟨0, r, 0⟩) := by unfold Hid Kit.mp; rw [hr]
  clear hr
  go_enter Try.func26, Try.ntmps26
  go_wp2_with fail
  refine (HM.out _).mono ?_
  rintro e w1 ⟨rfl, rfl⟩
  go_wp2
  go_returns
  rw [HE.out]
  exact ⟨rfl, rfl⟩
theorem markPiece_grown (k i : Nat) (w : World) (n : Nat) (os : Array Obj) (hk : k ≤ 1048576) (hi : i ≤ 1099511627776) :
    Calls Try.prog 26 #[.int .i64 k, .int .i64 i] (grow (w.drewN n) os) fun e w' => e = .returned (.agg #[.int .u8 (Kit.mp k i).c, .int .i64 (Kit.mp k i).n, .int .i64 (Kit.mp k i).d]) ∧ ∃ p : GrownBy, w' = grow (w.drewN p.n) p.os :=
  Calls.grown_of ((markPiece_any k i _ hk hi).mono fun _ _ ⟨he, hw⟩ => ⟨he, 0, #[_], hw.trans (alloc_eq_grow _ _)⟩)
/-- the marks of row k, n of them -/
def mps (k n : Nat) : List Pc := (List.range n).map (Kit.mp k)
theorem mps_length (k n : Nat) : (mps k n).length = n := by simp [mps]
theorem mps_get (k n i : Nat) (h : i < n) : (mps k n)[i]? = some (Kit.mp k i) := by
  rw [mps, List.getElem?_map, List.getElem?_range h]; rfl
theorem mps_succ (k n : Nat) : mps k (n + 1) = mps k n ++ [Kit.mp k n] := by simp [mps, List.range_succ]
/-- some world behind, with draws and new blocks alone -/
theorem below_grow (w : World) (n : Nat) (os : Array Obj) : Below w.heap.size w (grow (w.drewN n) os) :=
  ⟨rfl, rfl, rfl, by rw [size_grow]; exact Nat.le_add_right _ _, fun k hk => heap_grow_old (w.drewN n) os hk⟩

/-- a lent list of pieces -/
structure LentP (w : World) (v : Value) (l : List Pc) (g : Nat) : Prop where
  blk : ∃ cap C, v = .slice (some ⟨g, 0, none⟩) l.length cap ∧ l.length + 12 ≤ cap ∧ cap ≤ 9223372036854775807 ∧ w.heap[g]? = some (.cells C 35 (0, 0)) ∧ C.toList.take ((l.length + 12) * 3) = pk (l ++ mps 1 12)
theorem LentP.keep {w w' : World} {v : Value} {l : List Pc} {g : Nat} (h : LentP w v l g) (he : w'.heap[g]? = w.heap[g]?) : LentP w' v l g := by
  obtain ⟨cap, C, e, h1, h2, h3, h4⟩ := h.blk
  exact ⟨cap, C, e, h1, h2, he.trans h3, h4⟩
theorem LentP.cells {w : World} {v : Value} {l : List Pc} {g : Nat} (h : LentP w v l g) {j : Nat} {p : Pc} (hj : (l ++ mps 1 12)[j]? = some p) :
    w.cell? ⟨g, j * 3, none⟩ = some (.int .u8 p.c) ∧ w.cell? ⟨g, j * 3 + 1, none⟩ = some (.int .i64 p.n) ∧ w.cell? ⟨g, j * 3 + 2, none⟩ = some (.int .i64 p.d) := by
  obtain ⟨cap, C, e, h1, h2, h3, h4⟩ := h.blk
  obtain ⟨q1, q2, q3⟩ := pk_get _ j p hj
  have hl : j < l.length + 12 := by have := (List.getElem?_eq_some_iff.1 hj).1; rw [List.length_append, mps_length] at this; exact this
  have key : ∀ t u, t < (l.length + 12) * 3 → (pk (l ++ mps 1 12))[t]? = some u → w.cell? ⟨g, t, none⟩ = some u := fun t u ht hu => by
    rw [← h4, List.getElem?_take, if_pos ht, Array.getElem?_toList] at hu
    rw [cell_of_row _ _ _ _ _ _ h3]; exact hu
  exact ⟨key _ _ (by omega) q1, key _ _ (by omega) q2, key _ _ (by omega) q3⟩
theorem LentP.pcs {w : World} {v : Value} {l : List Pc} {g : Nat} (h : LentP w v l g) : PcsIn w v l (fun s => s = g) := by
  obtain ⟨cap, C, rfl, h1, h2, h3, h4⟩ := h.blk
  refine ⟨_, cap, rfl, by omega, h2, fun _ => ⟨g, 0, rfl, rfl, lt_of_block h3, fun j p hj => ?_⟩⟩
  rw [Nat.zero_add]
  exact h.cells (by rw [List.getElem?_append_left (List.getElem?_eq_some_iff.1 hj).1]; exact hj)

set_option maxRecDepth 100000 in
set_option maxHeartbeats 2000000 in
theorem lentp_any (B : List Pc) (a : Option Addr) (n cap : Nat) (w : World) (hn : n = B.length) (hB : PcsIn w (.slice a n cap) B (fun _ => True)) (hna : a = none → cap = 0) (hl : n ≤ 1000000) :
    Calls Try.prog 9 #[.slice a n cap] w fun e w' => ∃ v g, e = .returned v ∧ LentP w' v B g ∧ w.heap.size ≤ g ∧ Below w.heap.size w w' := by
  have HN := Lib.hid hn; clear hn
  have HB := Lib.hid hB; clear hB
  have HNA := Lib.hid hna; clear hna
  obtain ⟨i0, hi, hz0, hz1, hz2⟩ := info_parts infoPc
  obtain ⟨Z, hZ⟩ : ∃ Z, Z = madeCells #[Value.int .u8 0, .int .i64 0, .int .i64 0] ((n + 12) * 3) := ⟨_, rfl⟩
  have hmk : ∀ wx : World, (Instr.makeSlice 22 (.int .i64 0) (.int .i64 ((n : Int) + 12))).run Try.prog wx = .ok (.slice (some ⟨wx.heap.size, 0, none⟩) 0 (n + 12)) (wx.alloc (.cells Z 35)) := by
    intro wx
    have := run_make (P := Try.prog) wx 22 35 i0 _ (by kernel_rfl) hi hz0 .i64 .i64 0 ((n : Int) + 12) (by omega) (by omega) (by rw [hz2]; omega) (by omega)
    rw [this, hz1, hZ, show (0 : Int).toNat = 0 by rfl, show ((n : Int) + 12).toNat = n + 12 by omega]
    rfl
  have HZ : Hid (Z.size = (n + 12) * 3) := by show Z.size = _; rw [hZ, size_madeCells]
  clear hZ hi hz0 hz1 hz2 i0
  go_enter Try.func9, Try.ntmps9
  have HNT : Hid (∀ v' w1, Hid (w1.ownsRow w.heap.size 35 3 v' (0 + B.length) ([] ++ pk B)) → Hid ((w.alloc (.cells Z 35)).grownBy w1 (Value.slice (some ⟨w.heap.size, 0, none⟩) 0 (n + 12)).ownBlock) → ∃ a1 c1, v' = .slice a1 (n + 0) c1 ∧ Hid (w1.ownsRow w.heap.size 35 3 (.slice a1 (n + 0) c1) (n + 0) (pk (B ++ mps 1 0)) ∧ Below w.heap.size w w1)) := by
    intro v' w1 ho hg
    have ho := ho.out
    rw [Nat.zero_add, List.nil_append, ← HN.out] at ho
    rcases own_pieces ho with ⟨⟨a1, c1, rfl, -⟩, -⟩
    rw [← HN.out] at ho ⊢
    refine ⟨a1, c1, rfl, by simpa [mps] using ho, ((Below.refl _ _).alloc (Nat.le_refl _) (.cells Z 35)).grown hg.out (by simp) (fun k hk => by cases hk; exact Nat.le_refl _)⟩
  go_wp2_with (first | (at_builtin; refine wpList_append_pieces rfl (.tmp 9) (.tmp 10) rfl w.heap.size _ 0 [] rfl (show World.ownsRow _ _ _ _ _ _ _ from ⟨rfl, .inr ⟨w.heap.size, n + 12, Z, rfl, Nat.le_refl _, heap_alloc_new _ _, by omega, by simp only [maxLen]; omega, by rw [HZ.out], by simp⟩⟩) _ B (fun _ => True) rfl (HB.out.later ((Below.refl _ _).alloc (Nat.le_refl _) _)) (by intro n c e; cases e; exact HNA.out rfl) (by have := HN.out; omega) (by simp) ?_; intro v1 w1 o1 b1; obtain ⟨a1, c1, rfl, hx⟩ := HNT.out v1 w1 o1 b1; clear o1 b1))
  have HO1 := hx
  clear hx HNT HB HNA
  go_loopw [3, 4] (fun v3 v4 wr => ∃ (k : Nat) (a : Option Addr) (c : Nat), k ≤ 12 ∧ v4 = .int .i64 (k : Int) ∧ v3 = .slice a (n + k) c ∧ wr.ownsRow w.heap.size 35 3 (.slice a (n + k) c) (n + k) (pk (B ++ mps 1 k)) ∧ Below w.heap.size w wr)
    (fun _ v4 _ => (12 - intOf v4).toNat)
  case atStart => exact ⟨0, a1, c1, by omega, rfl, rfl, HO1.out.1, HO1.out.2⟩
  case round =>
    clear HO1
    obtain ⟨k, a3, c3, hk, rfl, rfl, ho, hb⟩ := hrel
    have HO := Lib.hid ho; clear ho
    have HBL := Lib.hid hb; clear hb
    by_cases hlt : k < 12
    · have HMP := Lib.hid (markPiece_any 1 k wr (by omega) (by omega))
      obtain ⟨p, hp⟩ : ∃ p, p = Kit.mp 1 k := ⟨_, rfl⟩
      rw [← hp] at HMP
      have hd1 : decide ((k : Int) < 12) = true := by simp; omega
      have HMS : Hid (mps 1 (k + 1) = mps 1 k ++ [p]) := by unfold Hid; rw [mps_succ, hp]
      clear hp
      obtain ⟨c, N, d⟩ := p
      have HKL := Lib.hid hlt
      go_wp2_with fail
      refine HMP.out.mono ?_
      rintro e w4 ⟨rfl, hw4⟩
      have hb4 : Below wr.heap.size wr w4 := by rw [hw4]; exact (Below.refl _ _).alloc (Nat.le_refl _) _
      have HO4 : Hid (w4.ownsRow w.heap.size 35 3 (.slice a3 (n + k) c3) (n + k) (pk (B ++ mps 1 k))) := by unfold Hid; rw [hw4]; exact HO.out.alloc _
      have HB4 : Hid (Below w.heap.size w w4) := HBL.out.trans (hb4.mono HBL.out.size)
      clear hw4 hb4 HO HBL HMP
      have HNT : Hid (∀ v' w9 o, Hid (w9.ownsRow w.heap.size 35 3 v' (n + k + 1) (pk (B ++ mps 1 k) ++ pk [⟨c, N, d⟩])) → Hid ((w4.alloc o).grownBy w9 (Value.slice a3 (n + k) c3).ownBlock) → ∃ a4 c4, v' = .slice a4 (n + (k + 1)) c4 ∧ Hid (w9.ownsRow w.heap.size 35 3 (.slice a4 (n + (k + 1)) c4) (n + (k + 1)) (pk (B ++ mps 1 (k + 1))) ∧ Below w.heap.size w w9)) := by
        intro v' w9 o ho hg
        have ho := ho.out
        rw [← pk_app, List.append_assoc, ← HMS.out] at ho
        obtain ⟨⟨a4, c4, rfl, -⟩, hlen⟩ := own_pieces ho
        rw [← hlen] at ho ⊢
        exact ⟨a4, c4, rfl, ho, (HB4.out.alloc HB4.out.size o).grown hg.out (by have := HB4.out.size; simp; omega) (fun q hq => (HO4.out.lt q hq).1)⟩
      go_wp2_with (first | (at_builtin; refine wpList_append_pieces rfl (.tmp 16) (.tmp 19) rfl w.heap.size _ _ _ rfl (HO4.out.alloc _) _ [⟨c, N, d⟩] _ rfl (pcs_new w4 [⟨c, N, d⟩] (by simp) _ rfl) (by intro n c e; cases e) (by show n + k + 1 ≤ _; omega) (by have := HB4.out.size; simp; omega) ?_; intro v9 w9 o9 g9; obtain ⟨a9, c9, rfl, hx9⟩ := HNT.out v9 w9 _ o9 g9; clear o9 g9))
      go_roundw
      case rel => exact ⟨k + 1, a9, c9, by omega, by congr 1, rfl, hx9.out.1, hx9.out.2⟩
      case measure => simp [intOf]; omega
    · obtain rfl : k = 12 := by omega
      obtain ⟨g, hg, hgb, C, hC, hLc, hcm, hCs, hCt⟩ : ∃ g, a3 = some ⟨g, 0, none⟩ ∧ w.heap.size ≤ g ∧ ∃ C, wr.heap[g]? = some (.cells C 35 (0, 0)) ∧ n + 12 ≤ c3 ∧ c3 ≤ maxLen ∧ C.size = c3 * 3 ∧ C.toList.take ((n + 12) * 3) = pk (B ++ mps 1 12) := by
        rcases HO.out.2 with ⟨e, h0⟩ | ⟨g, cap', cur, e, hg, hh, hnc, hcm, hcs, ht⟩
        · omega
        · cases e
          exact ⟨g, rfl, hg, cur, hh, hnc, hcm, hcs, ht⟩
      subst hg
      have HEND : Hid (LentP wr (.slice (some ⟨g, 0, none⟩) n c3) B g ∧ w.heap.size ≤ g ∧ Below w.heap.size w wr) :=
        ⟨⟨c3, C, by rw [HN.out], by have := HN.out; omega, by simp only [maxLen] at hcm; omega, hC, by rw [← HN.out]; exact hCt⟩, hgb, HBL.out⟩
      have hc1 : n ≤ c3 := by omega
      have hc2 : (n : Int) ≤ (c3 : Int) := by omega
      clear hC hLc hcm hCs hCt hgb HO HBL
      go_wp2
      go_returns
      exact ⟨_, g, rfl, HEND.out⟩
set_option maxRecDepth 100000 in
theorem eql_piece (wx : World) (c n d : Int) : (binOp .eql 35 (.agg #[.int .u8 c, .int .i64 n, .int .i64 d]) (.agg #[.int .u8 c, .int .i64 n, .int .i64 d])).run Try.prog wx = .ok (.bool true) wx := by
  have h1 : Try.prog.underlying 35 = some (.struct (Try.prog.fieldsOf 35)) := by kernel_rfl
  have h2 : Try.prog.stoodInHeld 35 = false := by kernel_rfl
  rw [run_eql_struct, run_equalIn_agg wx 9999 35 _ _ h1 h2]
  simp [go_sem]
set_option maxRecDepth 100000 in
theorem neq_piece (wx : World) (c n d : Int) : (binOp .neq 35 (.agg #[.int .u8 c, .int .i64 n, .int .i64 d]) (.agg #[.int .u8 c, .int .i64 n, .int .i64 d])).run Try.prog wx = .ok (.bool false) wx := by
  have h1 : Try.prog.underlying 35 = some (.struct (Try.prog.fieldsOf 35)) := by kernel_rfl
  have h2 : Try.prog.stoodInHeld 35 = false := by kernel_rfl
  rw [run_neq_struct, run_equalIn_agg wx 9999 35 _ _ h1 h2]
  simp [go_sem]
theorem eqg_piece (x y : Operand) (wx : World) (c n d : Int) : (eqGuard .eql 35 x y (.agg #[.int .u8 c, .int .i64 n, .int .i64 d]) (.agg #[.int .u8 c, .int .i64 n, .int .i64 d])).run Try.prog wx = .ok () wx :=
  run_eqGuard_agg wx .eql _ x y _ _ (by kernel_rfl)
theorem nqg_piece (x y : Operand) (wx : World) (c n d : Int) : (eqGuard .neq 35 x y (.agg #[.int .u8 c, .int .i64 n, .int .i64 d]) (.agg #[.int .u8 c, .int .i64 n, .int .i64 d])).run Try.prog wx = .ok () wx :=
  run_eqGuard_agg wx .neq _ x y _ _ (by kernel_rfl)
set_option maxRecDepth 100000 in
set_option maxHeartbeats 4000000 in
theorem keptp_any (B : List Pc) (g : Nat) (v : Value) (a : Option Addr) (n cap : Nat) (w : World) (hn : n = B.length) (hB : PcsIn w (.slice a n cap) B (fun _ => True)) (hl : n ≤ 1000000) (hV : LentP w v B g) :
    Calls Try.prog 13 #[v, .slice a n cap] w fun e w' => e = .returned (.bool true) ∧ Below w.heap.size w w' := by
  have HV := Lib.hid hV
  obtain ⟨c3, C, rfl, h1, h2, h3, -⟩ := hV.blk
  have HG : Hid (g < w.heap.size) := lt_of_block h3
  have HN := Lib.hid hn
  have HB : Hid (∀ j p, B[j]? = some p → ∃ s o, a = some ⟨s, o, none⟩ ∧ s < w.heap.size ∧ w.cell? ⟨s, o + j * 3, none⟩ = some (.int .u8 p.c) ∧ w.cell? ⟨s, o + j * 3 + 1, none⟩ = some (.int .i64 p.n) ∧ w.cell? ⟨s, o + j * 3 + 2, none⟩ = some (.int .i64 p.d)) := by
    intro j p hj
    obtain ⟨a', cap', e, -, -, h⟩ := hB
    cases e
    obtain ⟨s, o, e, -, hs, hc⟩ := h (by have := (List.getElem?_eq_some_iff.1 hj).1; omega)
    exact ⟨s, o, e, hs, hc j p hj⟩
  have hc1 : (n : Int) + 12 ≤ c3 := by omega
  rw [← hn]
  clear hB hV h1 h2 h3 hn
  have mixed := mixedOrders
  go_enter Try.func13, Try.ntmps13
  go_wp2
  go_loopw [6] (fun v6 wr => ∃ j : Nat, j ≤ n + 12 ∧ v6 = .int .i64 (j : Int) ∧ Below w.heap.size w wr)
    (fun v6 _ => (n + 12 - intOf v6).toNat)
  case atStart => exact ⟨0, by omega, rfl, Below.refl _ _⟩
  case round =>
    obtain ⟨j, hj, rfl, hd⟩ := hrel
    have HD := Lib.hid hd; clear hd
    by_cases hlt : j < n + 12
    · obtain ⟨p, hp⟩ : ∃ p, (B ++ mps 1 12)[j]? = some p := ⟨_, List.getElem?_eq_getElem (by rw [List.length_append, mps_length, ← HN.out]; exact hlt)⟩
      obtain ⟨c0, c1, c2⟩ := HV.out.cells hp
      by_cases hjn : j < n
      · rw [List.getElem?_append_left (by rw [← HN.out]; exact hjn)] at hp
        obtain ⟨s, o, rfl, hs, k0, k1, k2⟩ := HB.out j p hp
        rw [← HD.out.cell (by exact HG.out)] at c0 c1 c2
        rw [← HD.out.cell (by exact hs)] at k0 k1 k2
        have hle : decide (n ≤ j) = false := by simp; omega
        have hle2 : decide (j < n) = true := decide_eq_true hjn
        obtain ⟨c, N, d⟩ := p
        clear hp hs
        go_wp2_with fail
        go_quiet (fail)
        go_wp2
        go_roundw
        case rel => exact ⟨j + 1, by omega, by congr 1, HD.out.trans ((Drawn.refl _).drewN _ |>.below _)⟩
        case measure => simp [intOf]; omega
      · obtain ⟨q, hjq, hq⟩ : ∃ q, j = n + q ∧ q < 12 := ⟨j - n, by omega, by omega⟩
        have hpq : p = Kit.mp 1 q := by
          rw [List.getElem?_append_right (by rw [← HN.out]; omega), ← HN.out, hjq, Nat.add_sub_cancel_left, mps_get 1 12 q hq] at hp
          exact (Option.some.inj hp).symm
        have hgw : g < wr.heap.size := Nat.lt_of_lt_of_le HG.out HD.out.size
        have hmp : ∀ m os, Calls Try.prog 26 #[.int .i64 1, .int .i64 (q : Nat)] (grow (wr.drewN m) os) fun e w' => e = .returned (.agg #[.int .u8 p.c, .int .i64 p.n, .int .i64 p.d]) ∧ ∃ p : GrownBy, w' = grow (wr.drewN p.n) p.os := fun m os => by
          rw [hpq]; exact markPiece_grown 1 q wr m os (by omega) (by omega)
        have k0 := fun m os => cell_grown (w := wr) (a := ⟨g, j * 3, none⟩) hgw ((HD.out.cell (by exact HG.out)).trans c0) m os
        have k1 := fun m os => cell_grown (w := wr) (a := ⟨g, j * 3 + 1, none⟩) hgw ((HD.out.cell (by exact HG.out)).trans c1) m os
        have k2 := fun m os => cell_grown (w := wr) (a := ⟨g, j * 3 + 2, none⟩) hgw ((HD.out.cell (by exact HG.out)).trans c2) m os
        have heq := fun wx => eql_piece wx p.c p.n p.d
        have heg := fun x y wx => eqg_piece x y wx p.c p.n p.d
        have hle3 : decide (j < n) = false := by simp; omega
        have hle4 : decide (n ≤ j) = true := by simp; omega
        have hsub : IntKind.i64.wrap ((j : Int) - n) = (q : Int) := by rw [IntKind.wrap_i64]; omega
        obtain ⟨c, N, d⟩ := p
        have HJ := Lib.hid hjq
        clear hp hpq c0 c1 c2 hgw hjq
        go_wp2_with fail
        refine wp_region_quiet_grown (by assumption) (by kernel_rfl) ?_
        repeat (go_big_quiet_step (first | (go_at_call 26; refine hmp _ _)))
        refine wpQuiet_nil ?_
        intro _ hw'
        obtain ⟨⟨nq, osq⟩, hw''⟩ := hw'
        subst hw''
        go_wp2
        go_roundw
        case rel => exact ⟨j + 1, by omega, by congr 1, HD.out.trans ((below_grow wr nq osq).mono HD.out.size)⟩
        case measure => simp [intOf]; omega
    · go_wp2
      go_returns
      exact ⟨rfl, HD.out⟩
end Go.Proofs.Ytiglbjfieeicpaa
