/- The walk of the laws' ApartBytes, of rows that lie apart, whatever room is behind their ends. -/
import Derived.Test.YthnpgnnnijpofaaDoorIkRoomB
import Derived.Test.YthnpgnnnijpofaaDoorIkFlatNil1
import Derived.Test.YthnpgnnnijpofaaDoorIkFlatNil2
import Derived.Deep.AppendLies
import Derived.Handy
namespace Go.Proofs.YthnpgnnnijpofaaDoor
open Go.RowKit Go

theorem Onl.after {w w' w'' : World} {S : Nat → Prop} (h : Onl w' w'' S) (hb : Below w.heap.size w w') : Onl w w'' S :=
  ⟨h.os.trans hb.os, h.tape.trans hb.tape, h.output.trans hb.output, Nat.le_trans hb.size h.size, fun b hl hS => (h.block b (Nat.lt_of_lt_of_le hl hb.size) hS).trans (hb.block b hl)⟩
/-- the cells of a bag that has lists of bytes alone -/
def bagCells (v : Value) : Array Value := #[.slice none 0 0, .slice none 0 0, .slice none 0 0, .slice none 0 0, .slice none 0 0, v, .slice none 0 0, .slice none 0 0, .slice none 0 0, .slice none 0 0, .slice none 0 0, .slice none 0 0, .slice none 0 0, .slice none 0 0, .slice none 0 0, .slice none 0 0, .slice none 0 0, .slice none 0 0, .slice none 0 0, .slice none 0 0, .slice none 0 0]
/-- what a call of the bag's list leaves of it -/
theorem bag_built : Tryd.prog.built 108 [] = some (bagCells (.slice none 0 0)) := by kernel_rfl
/-- the bag at b, with k rows of v in its list vb, in a world that a call has come to -/
structure Bag (w0 w : World) (b : Nat) (v : Nat → Value) (k : Nat) (vb : Value) : Prop where
  bel : Below w0.heap.size w0 w
  lo : w0.heap.size ≤ b
  row : w.heap[b]? = some (.cells (bagCells vb) 108 (0, 0))
  own : w.ownsRow (b + 1) 22 1 vb k ((List.range k).map v)
theorem Bag.next {w0 w w3 : World} {b : Nat} {v : Nat → Value} {k : Nat} {vb vb' : Value} {o : Obj} (h : Bag w0 w b v k vb) (hown : w3.ownsRow (b + 1) 22 1 vb' (k + 1) ((List.range k).map v ++ [v k])) (hg : (w.alloc o).grownBy w3 vb.ownBlock) :
    (∃ x, w3.cell? ⟨b, 5, none⟩ = some x) ∧ w3.frozen? ⟨b, 5, none⟩ = false ∧ Bag w0 (w3.setCell ⟨b, 5, none⟩ vb') b v (k + 1) vb' := by
  have hb := lt_of_block h.row
  have hr : w3.heap[b]? = some (.cells (bagCells vb) 108 (0, 0)) := (hg.block b (by simp; omega) (fun e => by
    have := (h.own.lt b e.symm).1
    omega)).trans ((Below.heap_alloc _ _ _ hb).trans h.row)
  refine ⟨⟨_, (cell_of_row _ _ _ _ _ _ hr).trans rfl⟩, frozen_of_row _ _ _ _ _ hr, ?_, h.lo, (heap_setCell_same _ _ _ _ _ _ hr).trans rfl, ?_⟩
  · exact ((h.bel.alloc h.bel.size o).grown hg (by have := h.bel.size; simp; omega) (fun j hj => by have := (h.own.lt j hj).1; have := h.lo; omega)).setCell h.lo _
  · rw [List.range_succ, List.map_append]
    exact ownsRow_setCell_below hown (by simp) _
theorem own_shape {w : World} {base n : Nat} {e : TypeId} {size : Nat} {v : Value} {xs : List Value} (h : w.ownsRow base e size v n xs) : ∃ a cap, v = .slice a n cap := by
  rcases h.2 with ⟨rfl, rfl⟩ | ⟨g, cap, cur, rfl, _⟩
  · exact ⟨_, _, rfl⟩
  · exact ⟨_, _, rfl⟩
set_option maxRecDepth 100000 in
theorem putBytes_any (w0 : World) (b k : Nat) (v : Nat → Value) (vb : Value) (w : World) (h : Bag w0 w b v k vb) (hk : k ≤ 1000) (a : Option Addr) (m c : Nat) (hv : v k = .slice a m c) :
    Calls Tryd.prog 52 #[.pointer (some ⟨b, 0, none⟩), .slice a m c] w fun e w' => e = .returned (.tuple #[]) ∧ ∃ vb', Bag w0 w' b v (k + 1) vb' := by
  have c5 : w.cell? ⟨b, 5, none⟩ = some vb := (cell_of_row _ _ _ _ _ _ h.row).trans rfl
  obtain ⟨i0, hi, hz0, hz1, hz2⟩ := info_parts infoSl
  have HNX : Hid (∀ o w3 vb', w3.ownsRow (b + 1) 22 1 vb' (k + 1) ((List.range k).map v ++ [.slice a m c]) → (w.alloc o).grownBy w3 vb.ownBlock → (∃ x, w3.cell? ⟨b, 5, none⟩ = some x) ∧ w3.frozen? ⟨b, 5, none⟩ = false ∧ Hid (Bag w0 (w3.setCell ⟨b, 5, none⟩ vb') b v (k + 1) vb')) := fun o w3 vb' h1 h2 => h.next (o := o) (by rw [hv]; exact h1) h2
  have HOWN := Lib.hid h.own
  have HLO : Hid (b < w.heap.size) := lt_of_block h.row
  clear h hv
  have HKB := Lib.hid hk; clear hk
  go_enter Tryd.func52, Tryd.ntmps52
  go_wp2_with (first | (at_builtin; refine wpList_append_own _ rfl (.tmp 8) (.tmp 10) 50 rfl (b + 1) 22 i0 _ 1 24 (by kernel_rfl) hi hz0 hz1 hz2 rfl (by decide) vb _ _ rfl (HOWN.out.alloc _) ⟨w.heap.size, 0, none⟩ 1 1 [.slice a m c] rfl rfl (World.news_of_block (cs := #[.slice a m c]) (heap_alloc_new w _)) (by simp [Value.oneCell']) (by simp only [maxLen]; have := HKB.out; omega) (by have := HKB.out; omega) (by have := HLO.out; simp; omega) ?_; intro vb' w7 ho7 hg7 _; obtain ⟨a7, c7, rfl⟩ := own_shape ho7; obtain ⟨⟨y7, k7⟩, f7, H7⟩ := HNX.out _ _ _ ho7 hg7; clear ho7 hg7))
  go_returns
  exact ⟨rfl, _, H7.out⟩
set_option maxRecDepth 100000 in
set_option maxHeartbeats 4000000 in
theorem apart_core (b : Nat) (vb : Value) (w : World) (hr : w.heap[b]? = some (.cells (bagCells vb) 108 (0, 0))) (S : Nat → Prop)
    (hb0 : ¬ S b)
    (hf : ∀ wx, Below w.heap.size w wx → Calls Tryd.prog 78 #[vb] wx fun e w' => e = .returned (.bool true) ∧ Onl wx w' S) :
    Calls Tryd.prog 53 #[.pointer (some ⟨b, 0, none⟩)] w fun e w' => e = .returned (.bool true) ∧ Onl w w' S := by

  have HFB : Hid (∀ wx, Below w.heap.size w wx → Calls Tryd.prog 78 #[vb] wx fun e w' => e = .returned (.bool true) ∧ Hid (Onl w w' S)) := fun wx hb => (hf wx hb).mono fun _ _ ⟨he, ho⟩ => ⟨he, ho.os.trans hb.os, ho.tape.trans hb.tape, ho.output.trans hb.output, Nat.le_trans hb.size ho.size, fun j hj hjS => (ho.block j (Nat.lt_of_lt_of_le hj hb.size) hjS).trans (hb.block j hj)⟩
  have HR := Lib.hid hr; clear hr hf
  have hbl := lt_of_block HR.out
  have HC : Hid (∀ wx, Onl w wx S → ∀ i, wx.cell? ⟨b, i, none⟩ = (bagCells vb)[i]?) := fun wx ho i => cell_of_row _ _ _ _ _ _ ((ho.block b hbl hb0).trans HR.out)
  have H0 : Hid (Below w.heap.size w w) := Below.refl _ _
  have HBO : Hid (∀ wx, Below w.heap.size w wx → Onl w wx S) := fun wx hb => (Onl.refl w S).later hb
  clear hb0 hbl
  go_enter Tryd.func53, Tryd.ntmps53
  have c0 : World.cell? w ⟨b, 0, none⟩ = some (.slice none 0 0) := (HC.out w (HBO.out _ H0.out) 0).trans rfl
  go_wp2_with fail
  refine (flatnil_Limbs w).mono ?_
  rintro e w0 ⟨rfl, h0⟩
  have G0 := Lib.hid (H0.out.trans (h0.mono H0.out.size))
  clear h0
  clear c0
  have c1 : World.cell? w0 ⟨b, 1, none⟩ = some (.slice none 0 0) := (HC.out w0 (HBO.out _ G0.out) 1).trans rfl
  go_wp2_with fail
  refine (flatnil_Words w0).mono ?_
  rintro e w1 ⟨rfl, h1⟩
  have G1 := Lib.hid (G0.out.trans (h1.mono G0.out.size))
  clear h1
  clear c1
  clear G0
  have c2 : World.cell? w1 ⟨b, 2, none⟩ = some (.slice none 0 0) := (HC.out w1 (HBO.out _ G1.out) 2).trans rfl
  go_wp2_with fail
  refine (flatnil_Ints w1).mono ?_
  rintro e w2 ⟨rfl, h2⟩
  have G2 := Lib.hid (G1.out.trans (h2.mono G1.out.size))
  clear h2
  clear c2
  clear G1
  have c3 : World.cell? w2 ⟨b, 3, none⟩ = some (.slice none 0 0) := (HC.out w2 (HBO.out _ G2.out) 3).trans rfl
  go_wp2_with fail
  refine (flatnil_Longs w2).mono ?_
  rintro e w3 ⟨rfl, h3⟩
  have G3 := Lib.hid (G2.out.trans (h3.mono G2.out.size))
  clear h3
  clear c3
  clear G2
  have c4 : World.cell? w3 ⟨b, 4, none⟩ = some (.slice none 0 0) := (HC.out w3 (HBO.out _ G3.out) 4).trans rfl
  go_wp2_with fail
  refine (flatnil_Texts w3).mono ?_
  rintro e w4 ⟨rfl, h4⟩
  have G4 := Lib.hid (G3.out.trans (h4.mono G3.out.size))
  clear h4
  clear c4
  clear G3
  have c5 : World.cell? w4 ⟨b, 5, none⟩ = some (vb) := (HC.out w4 (HBO.out _ G4.out) 5).trans rfl
  go_wp2_with fail
  refine (HFB.out _ G4.out).mono ?_
  rintro e w5 ⟨rfl, h5⟩
  have G5 := h5
  clear h5
  clear c5
  clear G4
  have c6 : World.cell? w5 ⟨b, 6, none⟩ = some (.slice none 0 0) := (HC.out w5 (G5.out) 6).trans rfl
  go_wp2_with fail
  refine (flatnil_TreeKeys w5).mono ?_
  rintro e w6 ⟨rfl, h6⟩
  have G6 := Lib.hid (G5.out.later h6)
  clear h6
  clear c6
  clear G5
  have c7 : World.cell? w6 ⟨b, 7, none⟩ = some (.slice none 0 0) := (HC.out w6 (G6.out) 7).trans rfl
  go_wp2_with fail
  refine (flatnil_Pieces w6).mono ?_
  rintro e w7 ⟨rfl, h7⟩
  have G7 := Lib.hid (G6.out.later h7)
  clear h7
  clear c7
  clear G6
  have c8 : World.cell? w7 ⟨b, 8, none⟩ = some (.slice none 0 0) := (HC.out w7 (G7.out) 8).trans rfl
  go_wp2_with fail
  refine (flatnil_Fates w7).mono ?_
  rintro e w8 ⟨rfl, h8⟩
  have G8 := Lib.hid (G7.out.later h8)
  clear h8
  clear c8
  clear G7
  have c9 : World.cell? w8 ⟨b, 9, none⟩ = some (.slice none 0 0) := (HC.out w8 (G8.out) 9).trans rfl
  go_wp2_with fail
  refine (flatnil_Frames w8).mono ?_
  rintro e w9 ⟨rfl, h9⟩
  have G9 := Lib.hid (G8.out.later h9)
  clear h9
  clear c9
  clear G8
  have c10 : World.cell? w9 ⟨b, 10, none⟩ = some (.slice none 0 0) := (HC.out w9 (G9.out) 10).trans rfl
  go_wp2_with fail
  refine (flatnil_Places w9).mono ?_
  rintro e w10 ⟨rfl, h10⟩
  have G10 := Lib.hid (G9.out.later h10)
  clear h10
  clear c10
  clear G9
  have c11 : World.cell? w10 ⟨b, 11, none⟩ = some (.slice none 0 0) := (HC.out w10 (G10.out) 11).trans rfl
  go_wp2_with fail
  refine (flatnil_Entries w10).mono ?_
  rintro e w11 ⟨rfl, h11⟩
  have G11 := Lib.hid (G10.out.later h11)
  clear h11
  clear c11
  clear G10
  have c12 : World.cell? w11 ⟨b, 12, none⟩ = some (.slice none 0 0) := (HC.out w11 (G11.out) 12).trans rfl
  go_wp2_with fail
  refine (flatnil_Nodes w11).mono ?_
  rintro e w12 ⟨rfl, h12⟩
  have G12 := Lib.hid (G11.out.later h12)
  clear h12
  clear c12
  clear G11
  have c13 : World.cell? w12 ⟨b, 13, none⟩ = some (.slice none 0 0) := (HC.out w12 (G12.out) 13).trans rfl
  go_wp2_with fail
  refine (flatnil_Items w12).mono ?_
  rintro e w13 ⟨rfl, h13⟩
  have G13 := Lib.hid (G12.out.later h13)
  clear h13
  clear c13
  clear G12
  have c14 : World.cell? w13 ⟨b, 14, none⟩ = some (.slice none 0 0) := (HC.out w13 (G13.out) 14).trans rfl
  go_wp2_with fail
  refine (flatnil_Counts w13).mono ?_
  rintro e w14 ⟨rfl, h14⟩
  have G14 := Lib.hid (G13.out.later h14)
  clear h14
  clear c14
  clear G13
  have c15 : World.cell? w14 ⟨b, 15, none⟩ = some (.slice none 0 0) := (HC.out w14 (G14.out) 15).trans rfl
  go_wp2_with fail
  refine (flatnil_Freshes w14).mono ?_
  rintro e w15 ⟨rfl, h15⟩
  have G15 := Lib.hid (G14.out.later h15)
  clear h15
  clear c15
  clear G14
  have c16 : World.cell? w15 ⟨b, 16, none⟩ = some (.slice none 0 0) := (HC.out w15 (G15.out) 16).trans rfl
  go_wp2_with fail
  refine (flatnil_Puts w15).mono ?_
  rintro e w16 ⟨rfl, h16⟩
  have G16 := Lib.hid (G15.out.later h16)
  clear h16
  clear c16
  clear G15
  have c17 : World.cell? w16 ⟨b, 17, none⟩ = some (.slice none 0 0) := (HC.out w16 (G16.out) 17).trans rfl
  go_wp2_with fail
  refine (flatnil_Ops w16).mono ?_
  rintro e w17 ⟨rfl, h17⟩
  have G17 := Lib.hid (G16.out.later h17)
  clear h17
  clear c17
  clear G16
  have c18 : World.cell? w17 ⟨b, 18, none⟩ = some (.slice none 0 0) := (HC.out w17 (G17.out) 18).trans rfl
  go_wp2_with fail
  refine (flatnil_Steps w17).mono ?_
  rintro e w18 ⟨rfl, h18⟩
  have G18 := Lib.hid (G17.out.later h18)
  clear h18
  clear c18
  clear G17
  have c19 : World.cell? w18 ⟨b, 19, none⟩ = some (.slice none 0 0) := (HC.out w18 (G18.out) 19).trans rfl
  go_wp2_with fail
  refine (flatnil_Stats w18).mono ?_
  rintro e w19 ⟨rfl, h19⟩
  have G19 := Lib.hid (G18.out.later h19)
  clear h19
  clear c19
  clear G18
  have c20 : World.cell? w19 ⟨b, 20, none⟩ = some (.slice none 0 0) := (HC.out w19 (G19.out) 20).trans rfl
  go_wp2_with fail
  refine (flatnil_Tales w19).mono ?_
  rintro e w20 ⟨rfl, h20⟩
  have G20 := Lib.hid (G19.out.later h20)
  clear h20
  clear c20
  clear G19
  go_wp2
  go_ret
  exact ⟨rfl, G20.out⟩
set_option maxRecDepth 100000 in
set_option maxHeartbeats 1000000 in
/-- rows that lie apart, in a list at Gl: they are told to lie apart -/
theorem apart_any (w : World) (base Gl N cp : Nat) (v : Nat → Value) (n : Nat → Nat) (X : Nat → List Int) (hN : N ≤ 1000) (h : Rl 22 5 1 w w base Gl N v n (fun j => k8 (X j))) :
    Calls Tryd.prog 24 #[.slice (some ⟨Gl, 0, none⟩) N cp] w fun e w' => e = .returned (.bool true) ∧ Onl w w' (Rowb N v) := by
  have HROW : Hid (∀ k, k < N → ∃ a c, v k = .slice a (n k) c) := fun k hk => h.val hk
  have HSL : Hid (∀ k, k < N → w.cell? ⟨Gl, k, none⟩ = some (v k)) := fun k hk => h.slot hk
  have HGL : Hid (Gl < w.heap.size) := h.gl
  have HAP : Hid (∀ b vb wx, Bag w wx b v N vb → Calls Tryd.prog 53 #[.pointer (some ⟨b, 0, none⟩)] wx fun e w' => e = .returned (.bool true) ∧ Onl w w' (Rowb N v)) := by
    intro b vb wx hbag
    refine Calls.mono (apart_core b vb wx hbag.row (Rowb N v) (fun ⟨k, hk, hj⟩ => ?_) (fun wy hby => ?_)) fun _ _ ⟨he, ho⟩ => ⟨he, ho.after hbag.bel⟩
    · have := (own_type' (h.row k hk) hj).2.1
      have := hbag.lo
      omega
    · rcases Nat.eq_zero_or_pos N with h0 | h0
      · subst h0
        obtain ⟨hl, ho⟩ := hbag.own
        rcases ho with ⟨rfl, _⟩ | ⟨gg, cap, cur, rfl, q1, q2, _⟩
        · exact (flatnil_Bytes wy).mono fun _ _ ⟨he, hb⟩ => ⟨he, (Onl.refl _ _).later hb⟩
        · refine (flatroom_core wy base gg 0 cap v n X (by omega) ⟨Onl.refl _ _, Nat.le_trans h.hb (Nat.le_trans hbag.bel.size hby.size), ⟨cur, (hby.block _ (lt_of_block q2)).trans q2, fun k hk => by omega⟩, fun k hk => by omega, fun j k hj => by omega, fun k hk => by omega, h.ne, fun k hk => by omega⟩)
      · obtain ⟨gg, cap, cur, rfl, q1, q2, q3, q4, q5, q6⟩ : ∃ g cap cur, vb = .slice (some ⟨g, 0, none⟩) N cap ∧ b + 1 ≤ g ∧ wx.heap[g]? = some (.cells cur 22 (0, 0)) ∧ N ≤ cap ∧ cap ≤ maxLen ∧ cur.size = cap * 1 ∧ cur.toList.take (N * 1) = (List.range N).map v := by
          rcases hbag.own.2 with ⟨_, h1⟩ | h1
          · omega
          · exact h1
        have hlater : ∀ k, k < N → ∀ j, (v k).ownBlock = some j → wy.heap[j]? = w.heap[j]? := fun k hk j hj => by
          have hl := (own_type' (h.row k hk) hj).2.1
          exact (hby.block j (Nat.lt_of_lt_of_le hl hbag.bel.size)).trans (hbag.bel.block j hl)
        refine flatroom_core wy base gg N cap v n X hN ⟨Onl.refl _ _, Nat.le_trans h.hb (Nat.le_trans hbag.bel.size hby.size), ⟨cur, (hby.block _ (lt_of_block q2)).trans q2, fun k hk => ?_⟩, fun k hk => own_other' (h.row k hk) (hlater k hk), h.apt, h.bd, h.ne, fun k hk b hb => Nat.lt_of_lt_of_le ((own_type' (h.row k hk) hb).2.1) (Nat.le_trans hbag.bel.size hby.size)⟩
        rw [Nat.mul_one] at q6
        have e1 : (cur.toList.take N)[k]? = some (v k) := by rw [q6, List.getElem?_map, List.getElem?_range hk]; rfl
        rw [List.getElem?_take, if_pos hk, Array.getElem?_toList] at e1
        exact e1
  clear h
  have hNI : (N : Int) ≤ 1000 := by omega
  have HN := Lib.hid hN; clear hN
  go_enter Tryd.func24, Tryd.ntmps24
  go_wp2_with (refine wpList_build_to rfl 108 _ rfl (bagCells (.slice none 0 0)) (by kernel_rfl) ?_)
  have HB : Hid (Bag w (w.alloc (.cells (bagCells (.slice none 0 0)) 108)) w.heap.size v 0 (.slice none 0 0)) := ⟨(Below.refl _ _).alloc (Nat.le_refl _) _, Nat.le_refl _, heap_alloc_new _ _, World.ownsRow_nil _ _ _ _⟩
  generalize w.alloc (.cells (bagCells (.slice none 0 0)) 108) = w2 at *
  obtain ⟨b, hb⟩ : ∃ b, w.heap.size = b := ⟨_, rfl⟩
  rw [hb] at HB
  rw [hb]
  clear hb
  go_loopw [4] (fun v4 wr => ∃ k : Nat, k ≤ N ∧ v4 = .int .i64 (k : Int) ∧ ∃ vb, Bag w wr b v k vb) (fun v4 _ => (N - intOf v4).toNat)
  case atStart => exact ⟨0, by omega, rfl, _, HB.out⟩
  case round =>
    clear HB
    obtain ⟨k, hk, rfl, vb, hbag⟩ := hrel
    have HB := Lib.hid hbag; clear hbag
    by_cases hlt : k < N
    · obtain ⟨a, cq, hva⟩ := HROW.out k hlt
      have k1 := (HB.out.bel.cell (p := ⟨Gl, k, none⟩) HGL.out).trans (HSL.out k hlt)
      rw [hva] at k1
      have HPB := Lib.hid (putBytes_any w b k v vb wr HB.out (by have := HN.out; omega) a _ _ hva)
      have hk0 : (0 : Int) ≤ (k : Int) := by omega
      have hkI : (k : Int) < (N : Int) := by omega
      have hdk : decide (k < N) = true := decide_eq_true hlt
      clear hva
      go_wp2_with fail
      refine HPB.out.mono ?_
      rintro e w5 ⟨rfl, h5⟩
      have H5 := Lib.hid h5; clear h5 HPB k1
      go_wp2
      exact ⟨⟨k + 1, by omega, by go_num, H5.out⟩, by simp [intOf]; omega⟩
    · obtain rfl : k = N := by omega
      have hdk : decide (k < k) = false := decide_eq_false (by omega)
      go_wp2_with fail
      refine (HAP.out _ _ _ HB.out).mono ?_
      rintro e w5 ⟨rfl, h5⟩
      have H5 := Lib.hid h5; clear h5
      go_wp2
      go_ret
      exact ⟨rfl, H5.out⟩
end Go.Proofs.YthnpgnnnijpofaaDoor
