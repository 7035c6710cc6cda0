/- The walk of a writer's Put. -/
import Derived.Test.YtkfbcekhegdmjaaBitNew
namespace Go.Proofs.Ytkfbcekhegdmjaa
open Go.RowKit Go

theorem still_of {P : Program} {f : FuncId} {args : Array Value} {w : World} {v : Value} (h : Calls P f args w fun e w' => e = .returned v ∧ w = w') : Calls P f args w fun e w' => e = .returned v ∧ w' = w :=
  h.mono fun _ _ ⟨he, hw⟩ => ⟨he, hw.symm⟩
/-- what differs between two worlds lies in the block g, in the block r, or is new -/
structure Fro (w w' : World) (g : Nat) (r : Option Nat) : Prop where
  os : w'.os = w.os
  tape : w'.tape = w.tape
  output : w'.output = w.output
  size : w.heap.size ≤ w'.heap.size
  block : ∀ k, k < w.heap.size → k ≠ g → r ≠ some k → w'.heap[k]? = w.heap[k]?
theorem Fro.refl (w : World) (g : Nat) (r : Option Nat) : Fro w w g r := ⟨rfl, rfl, rfl, Nat.le_refl _, fun _ _ _ _ => rfl⟩
theorem Fro.drew {w w' : World} {g : Nat} {r : Option Nat} (h : Fro w w' g r) : Fro w w'.drew g r := ⟨h.os, h.tape, h.output, h.size, h.block⟩
theorem Fro.drawn {w w' w'' : World} {g : Nat} {r : Option Nat} (h : Fro w w' g r) (hd : Drawn w' w'') : Fro w w'' g r := by
  obtain ⟨n, rfl⟩ := hd
  exact ⟨h.os, h.tape, h.output, h.size, h.block⟩
theorem Fro.setCell {w w' : World} {g : Nat} {r : Option Nat} (h : Fro w w' g r) (i : Nat) (v : Value) : Fro w (w'.setCell ⟨g, i, none⟩ v) g r :=
  have hg := gb_setCell (gb_refl w' (some g)) (i := i) v
  ⟨hg.os.trans h.os, hg.tape.trans h.tape, hg.output.trans h.output, Nat.le_trans h.size hg.size, fun k hk hkg hkr => (hg.block k (Nat.lt_of_lt_of_le hk h.size) (by simp; exact hkg)).trans (h.block k hk hkg hkr)⟩
theorem Fro.alloc {w w' : World} {g : Nat} {r : Option Nat} (h : Fro w w' g r) (o : Obj) : Fro w (w'.alloc o) g r :=
  have hg := gb_alloc (gb_refl w' none) o
  ⟨hg.os.trans h.os, hg.tape.trans h.tape, hg.output.trans h.output, Nat.le_trans h.size hg.size, fun k hk hkg hkr => (hg.block k (Nat.lt_of_lt_of_le hk h.size) (by simp)).trans (h.block k hk hkg hkr)⟩
/-- a row grows that was r's, or is new -/
theorem Fro.grown {w w' w'' : World} {g : Nat} {r s : Option Nat} (h : Fro w w' g r) (hg : w'.grownBy w'' s) (hs : ∀ k, s = some k → k < w.heap.size → r = some k) : Fro w w'' g r :=
  ⟨hg.os.trans h.os, hg.tape.trans h.tape, hg.output.trans h.output, Nat.le_trans h.size hg.size, fun k hk hkg hkr => (hg.block k (Nat.lt_of_lt_of_le hk h.size) (fun e => hkr (hs k e.symm hk))).trans (h.block k hk hkg hkr)⟩
theorem Fro.below {w w' : World} {g : Nat} {r : Option Nat} {B : Nat} {w0 : World} (h : Fro w w' g r) (h0 : Below B w0 w) (hB : B ≤ w.heap.size) (hg : B ≤ g) (hr : ∀ k, r = some k → B ≤ k) : Below B w0 w' :=
  ⟨h.os.trans h0.os, h.tape.trans h0.tape, h.output.trans h0.output, Nat.le_trans h0.size h.size, fun k hk => (h.block k (Nat.lt_of_lt_of_le hk hB) (by omega) (fun e => by have := hr k e; omega)).trans (h0.block k hk)⟩

/-- a writer at g has n bits, V; v are its whole bytes -/
structure Wr (w : World) (g n V : Nat) (v : Value) : Prop where
  row : w.heap[g]? = some (.cells (wrCells (.pointer (some ⟨g, 0, none⟩)) v ((V / 2 ^ (8 * (n / 8)) : Nat)) ((n % 8 : Nat))) 53 (0, 0))
  own : w.ownsRow (g + 1) 5 1 v (n / 8) (k8 (Bit.by V (n / 8)))
  lt : V < 2 ^ n
/-- a writer in the midst of Put: q bytes have left its word, of h bits -/
structure Wm (w0 w : World) (g q V : Nat) (h : Int) (v v0 : Value) : Prop where
  row : w.heap[g]? = some (.cells (wrCells (.pointer (some ⟨g, 0, none⟩)) v ((V / 2 ^ (8 * q) : Nat)) h) 53 (0, 0))
  own : w.ownsRow (g + 1) 5 1 v q (k8 (Bit.by V q))
  fro : Fro w0 w g v0.ownBlock
  blk : ∀ k, v.ownBlock = some k → k < w0.heap.size → v0.ownBlock = some k

theorem Wm.kept {w0 w w3 : World} {g q V : Nat} {h : Int} {v v0 : Value} {o : Obj} (m : Wm w0 w g q V h v v0) (hg : (w.alloc o).drew.grownBy w3 v.ownBlock) : w3.heap[g]? = w.heap[g]? := by
  have lw : g < w.heap.size := lt_of_block m.row
  refine (hg.block g (by show g < (w.alloc o).heap.size; simp; omega) (fun e => ?_)).trans (Below.heap_alloc w o g lw)
  have := (m.own.lt g e.symm).1
  omega
theorem Wm.next {w0 w w3 : World} {g q V : Nat} {h : Int} {v v0 : Value} {o : Obj} (m : Wm w0 w g q V h v v0) (gg cap : Nat)
    (hown : w3.ownsRow (g + 1) 5 1 (.slice (some ⟨gg, 0, none⟩) (q + 1) cap) (q + 1) (k8 (Bit.by V q) ++ [.int .u8 (((V / 2 ^ (8 * q) : Nat) : Int) % 256)]))
    (hg : (w.alloc o).drew.grownBy w3 v.ownBlock) (hat : v.ownBlock = some gg ∨ gg = w.heap.size + 1) :
    Wm w0 ((w3.setCell ⟨g, 1, none⟩ (.slice (some ⟨gg, 0, none⟩) (q + 1) cap)).setCell ⟨g, 2, none⟩ (.int .u64 (((V / 2 ^ (8 * q) : Nat) : Int) / 256))) g (q + 1) V h (.slice (some ⟨gg, 0, none⟩) (q + 1) cap) v0 := by
  have hr := (m.kept hg).trans m.row
  refine ⟨?_, ?_, (((m.fro.alloc o).drew.grown hg m.blk).setCell 1 _).setCell 2 _, ?_⟩
  · refine (heap_setCell_same _ _ _ _ _ _ (heap_setCell_same _ _ _ _ _ _ hr)).trans ?_
    rw [← Bit.word_next]; rfl
  · have e : k8 (Bit.by V (q + 1)) = k8 (Bit.by V q) ++ [.int .u8 (((V / 2 ^ (8 * q) : Nat) : Int) % 256)] := by
      rw [Bit.by_succ, k8_app]; rfl
    rw [e]
    exact ownsRow_setCell_below (ownsRow_setCell_below hown (by simp) _) (by simp) _
  · intro k hk hk0
    obtain rfl : gg = k := by simpa [Value.ownBlock] using hk
    rcases hat with h | h
    · exact m.blk _ h hk0
    · have := m.fro.size; omega

theorem put_or {n V x k V' : Nat} (hV : V < 2 ^ n) (hk : k ≤ 32) (hV' : V' = V + x % 2 ^ k * 2 ^ n) :
    bits BinOp.or IntKind.u64 ((V / 2 ^ (8 * (n / 8)) : Nat)) (IntKind.u64.wrap (((x % 2 ^ k : Nat) : Int) * 2 ^ (n % 8))) = ((V' / 2 ^ (8 * (n / 8)) : Nat) : Int) := by
  have h1 : V / 2 ^ (8 * (n / 8)) < 2 ^ (n % 8) := by
    have := Bit.word_lt hV (k := n / 8) (by omega)
    rwa [show n - 8 * (n / 8) = n % 8 by omega] at this
  have h2 : V' / 2 ^ (8 * (n / 8)) = V / 2 ^ (8 * (n / 8)) + x % 2 ^ k * 2 ^ (n % 8) := by
    rw [hV', Bit.word_add _ _ _ _ (by omega), show n - 8 * (n / 8) = n % 8 by omega]
  have h3 : x % 2 ^ k < 2 ^ k := Nat.mod_lt _ (Nat.two_pow_pos _)
  have h4 : V / 2 ^ (8 * (n / 8)) + x % 2 ^ k * 2 ^ (n % 8) < 2 ^ (n % 8 + k) := Bit.add_lt h1 h3
  have h5 := Bit.pow40 (k := n % 8 + k) (by omega)
  have e : ((x % 2 ^ k : Nat) : Int) * 2 ^ (n % 8) = ((x % 2 ^ k * 2 ^ (n % 8) : Nat) : Int) := by push_cast; rfl
  rw [e, h2, ← Bit.or_add _ _ _ h1]
  generalize x % 2 ^ k * 2 ^ (n % 8) = z at *
  generalize V / 2 ^ (8 * (n / 8)) = y at *
  rw [Bit.wrap64 _ (by omega), Bit.or64 _ _ (by omega) (by omega)]
set_option maxRecDepth 100000 in
set_option maxHeartbeats 2000000 in
theorem put_core (g n V x k : Nat) (v : Value) (w : World) (h : Wr w g n V v) (hx : x < 4294967296) (hk : k ≤ 32) (hn : n ≤ 1000000000)
    (V' : Nat) (hV' : V' = V + x % 2 ^ k * 2 ^ n) :
    Calls Try.prog 12 #[.pointer (some ⟨g, 0, none⟩), .int .u32 (x : Int), .int .i64 (k : Int)] w fun e w' => e = .returned (.bool true) ∧ ∃ v', Wm w w' g ((n + k) / 8) V' ((n + k) % 8 : Nat) v' v := by
  have c0 : w.cell? ⟨g, 0, none⟩ = some (.pointer (some ⟨g, 0, none⟩)) := (cell_of_row _ _ _ _ _ _ h.row).trans rfl
  have c2 : w.cell? ⟨g, 2, none⟩ = some (.int .u64 ((V / 2 ^ (8 * (n / 8)) : Nat))) := (cell_of_row _ _ _ _ _ _ h.row).trans rfl
  have c3 : w.cell? ⟨g, 3, none⟩ = some (.int .i64 ((n % 8 : Nat))) := (cell_of_row _ _ _ _ _ _ h.row).trans rfl
  have fz : ∀ i, w.frozen? ⟨g, i, none⟩ = false := fun i => frozen_of_row _ _ _ _ _ h.row
  have f2 := fz 2
  have f3 := fz 3
  clear fz
  have hw : bits BinOp.or IntKind.u64 ((V / 2 ^ (8 * (n / 8)) : Nat)) (IntKind.u64.wrap (((x % 2 ^ k : Nat) : Int) * 2 ^ (n % 8))) = ((V' / 2 ^ (8 * (n / 8)) : Nat) : Int) := put_or h.lt hk hV'
  have HL := Lib.hid (fun wx => lowest_any x k wx (by omega) (by omega))
  have hq0 : (0 : Int) ≤ ((n % 8 : Nat) : Int) := by omega
  have hq8 : ((n % 8 : Nat) : Int) < 8 := by omega
  have hxI : (x : Int) < 4294967296 := by omega
  generalize hr : n % 8 = r at *
  generalize hW : V / 2 ^ (8 * (n / 8)) = W0 at *
  generalize x % 2 ^ k = lo at *
  generalize hW' : V' / 2 ^ (8 * (n / 8)) = W1 at *
  have HH := Lib.hid h
  clear h
  have HV := Lib.hid hV'; clear hV'
  have HR := Lib.hid hr; clear hr
  have HW0 := Lib.hid hW; clear hW
  have HW1 := Lib.hid hW'; clear hW'
  have HOR := Lib.hid hw; clear hw
  have HN := Lib.hid hn; clear hn
  go_enter Try.func12, Try.ntmps12
  go_wp2_with fail
  refine (wmade_yes g _ c0).mono ?_
  rintro e w' ⟨rfl, rfl⟩
  have d1 : decide ((k : Int) < 0) = false := decide_eq_false (by omega)
  have d2 : decide ((32 : Int) < (k : Int)) = false := decide_eq_false (by omega)
  have d3 : (k : Int) ≤ 32 := by omega
  have HK := Lib.hid hk; clear hk
  have HX := Lib.hid hx; clear hx
  have hwx : IntKind.u64.wrap (x : Int) = (x : Int) := Bit.wrap64 _ (by omega)
  go_wp2_with fail
  refine wp_region_still_tail 16 (by kernel_rfl) (by kernel_rfl) ?_
  simp only [List.take_succ_cons, List.take_zero, List.drop_succ_cons, List.drop_zero]
  repeat still_step
  still_call (still_of (HL.out _))
  repeat still_step
  try refine wpStill_nil ?_
  change wpList _ _ _ _ _ w.drew
  rw [HOR.out]
  obtain ⟨Q, hQ⟩ : ∃ Q : Nat, ((r : Int) + (k : Int)) / 8 = (Q : Int) := ⟨(r + k) / 8, by omega⟩
  have hQQ : Q = (n + k) / 8 - n / 8 := by have := HR.out; omega
  have HQQ := Lib.hid hQQ; clear hQQ
  go_wp2
  have HM : Hid (Wm w ((w.setCell ⟨g, 2, none⟩ (.int .u64 (W1 : Int))).setCell ⟨g, 3, none⟩ (.int .i64 ((r : Int) + (k : Int)))).drew g (n / 8) V' ((r : Int) + (k : Int)) v v) := by
    have h := HH.out
    refine ⟨?_, ?_, (((Fro.refl w g _).setCell 2 _).setCell 3 _).drew, fun k hk _ => hk⟩
    · refine (heap_setCell_same _ _ _ _ _ _ (heap_setCell_same _ _ _ _ _ _ h.row)).trans ?_
      rw [HW1.out]; rfl
    · have e : Bit.by V' (n / 8) = Bit.by V (n / 8) := Bit.by_congr fun j hj => by rw [HV.out]; exact Bit.b_add _ _ _ _ (by omega)
      rw [e]
      exact (ownsRow_setCell_below (ownsRow_setCell_below h.own (by simp) _) (by simp) _).drew
  clear c0 c2 c3 f2 f3 d1 d2 HL hwx
  rw [hQ]
  generalize ((w.setCell ⟨g, 2, none⟩ (.int .u64 (W1 : Int))).setCell ⟨g, 3, none⟩ (.int .i64 ((r : Int) + (k : Int)))).drew = w2 at *
  clear hq0 hq8 d3
  go_loopw [47] (fun v47 wr => ∃ (j : Nat) (v1 : Value), j ≤ Q ∧ v47 = .int .i64 (j : Int) ∧ Wm w wr g (n / 8 + j) V' ((r : Int) + (k : Int)) v1 v) (fun v47 _ => (Q - intOf v47).toNat)
  case atStart => exact ⟨0, v, by omega, rfl, HM.out⟩
  case round =>
    clear HM
    obtain ⟨j, v1, hj, rfl, hm⟩ := hrel
    have HM := Lib.hid hm; clear hm
    by_cases hlt : j < Q
    · have c1 : wr.cell? ⟨g, 1, none⟩ = some v1 := (cell_of_row _ _ _ _ _ _ HM.out.row).trans rfl
      have c2 : wr.cell? ⟨g, 2, none⟩ = some (.int .u64 ((V' / 2 ^ (8 * (n / 8 + j)) : Nat))) := (cell_of_row _ _ _ _ _ _ HM.out.row).trans rfl
      have f1 : wr.frozen? ⟨g, 1, none⟩ = false := frozen_of_row _ _ _ _ _ HM.out.row
      have f2 : wr.frozen? ⟨g, 2, none⟩ = false := frozen_of_row _ _ _ _ _ HM.out.row
      have hjb : j ≤ 100 := by have := HQQ.out; have := HK.out; omega
      have hqb : n / 8 + j ≤ 200000000 := by have := HQQ.out; have := HN.out; have := HK.out; omega
      have HNX := Lib.hid (fun (o : Obj) (w3 : World) (gg cap : Nat) => HM.out.next (o := o) (w3 := w3) gg cap)
      have HKE := Lib.hid (fun (o : Obj) (w3 : World) (hg : (wr.alloc o).drew.grownBy w3 v1.ownBlock) => HM.out.kept hg)
      have hown := HM.out.own
      have lw : g < wr.heap.size := lt_of_block HM.out.row
      have HRW := Lib.hid HM.out.row
      generalize V' / 2 ^ (8 * (n / 8 + j)) = W2 at *
      generalize hq : n / 8 + j = q at *
      have HQ1 := Lib.hid hq; clear hq HM
      clear hQ
      obtain ⟨i0, hi, hz0, hz1, hz2⟩ := info_parts info5
      go_wp2_with fail
      go_region_law ((refine step_append_lies _ (by rfl) _ _ _ (by rfl) (g + 1) 5 i0 _ 1 1 (by kernel_rfl) hi hz0 hz1 hz2 rfl (by decide) v1 _ _ (by rfl) ((hown.alloc _).drew) ⟨wr.heap.size, 0, none⟩ 1 1 [.int .u8 ((W2 : Int) % 256)] (by rfl) (by rfl) (World.news_of_block (cs := #[.int .u8 ((W2 : Int) % 256)]) (t := 5) (fr := (0, 0)) (heap_alloc_new wr _)) (by simp [Value.oneCell']) (by omega) (by simp only [maxLen]; omega) (by omega) (by simp; omega) (wr.heap.size + 1) (by simp) ?_; intro gg cap w3 hown3 hgrow hat hlt3; have hrow3 := (HKE.out _ _ hgrow).trans HRW.out; have k1 : w3.cell? ⟨g, 1, none⟩ = some v1 := (cell_of_row _ _ _ _ _ _ hrow3).trans rfl; have k2 : w3.cell? ⟨g, 2, none⟩ = some (.int .u64 (W2 : Int)) := (cell_of_row _ _ _ _ _ _ hrow3).trans rfl; have g1 : w3.frozen? ⟨g, 1, none⟩ = false := frozen_of_row _ _ _ _ _ hrow3; have g2 : w3.frozen? ⟨g, 2, none⟩ = false := frozen_of_row _ _ _ _ _ hrow3; have HNY := Lib.hid (HNX.out _ w3 gg cap hown3 hgrow hat); clear hown3 hgrow hat hrow3))
      all_goals clear hown
      all_goals go_wp2
      all_goals go_roundw
      all_goals first
        | (simp [intOf]; omega; done)
        | (refine ⟨j + 1, .slice (some ⟨gg, 0, none⟩) (q + 1) cap, by omega, by go_num, ?_⟩
           have e1 := HQ1.out
           rw [show n / 8 + (j + 1) = q + 1 by omega]
           exact HNY.out)
    · obtain rfl : j = Q := by omega
      have c3 : wr.cell? ⟨g, 3, none⟩ = some (.int .i64 ((r : Int) + (k : Int))) := (cell_of_row _ _ _ _ _ _ HM.out.row).trans rfl
      have f3 : wr.frozen? ⟨g, 3, none⟩ = false := frozen_of_row _ _ _ _ _ HM.out.row
      clear hQ
      go_wp2
      go_ret
      refine ⟨rfl, v1, ?_, ?_, HM.out.fro.setCell 3 _, HM.out.blk⟩
      · refine (heap_setCell_same _ _ _ _ _ _ HM.out.row).trans ?_
        have e1 : (n + k) / 8 = n / 8 + j := by have := HQQ.out; omega
        have e2 : ((r : Int) + (k : Int)) % 8 = (((n + k) % 8 : Nat) : Int) := by have := HR.out; omega
        rw [e1, e2]; rfl
      · have e1 : (n + k) / 8 = n / 8 + j := by have := HQQ.out; omega
        rw [e1]
        exact ownsRow_setCell_below HM.out.own (by simp) _
theorem put_any (g n V x k : Nat) (v : Value) (w : World) (h : Wr w g n V v) (hx : x < 4294967296) (hk : k ≤ 32) (hn : n ≤ 1000000000) :
    Calls Try.prog 12 #[.pointer (some ⟨g, 0, none⟩), .int .u32 (x : Int), .int .i64 (k : Int)] w fun e w' => e = .returned (.bool true) ∧
      ∃ v', Wr w' g (n + k) (V + x % 2 ^ k * 2 ^ n) v' ∧ Fro w w' g v.ownBlock ∧ ∀ k, v'.ownBlock = some k → k < w.heap.size → v.ownBlock = some k := by
  refine (put_core g n V x k v w h hx hk hn _ rfl).mono ?_
  rintro e w' ⟨he, v', m⟩
  exact ⟨he, v', ⟨m.row, m.own, Bit.add_lt h.lt (Nat.mod_lt _ (Nat.two_pow_pos _))⟩, m.fro, m.blk⟩
/-- a length that may not be -/
theorem put_bad (g n V : Nat) (x k : Int) (v : Value) (w : World) (h : Wr w g n V v) (hk : k < 0 ∨ 32 < k) :
    Calls Try.prog 12 #[.pointer (some ⟨g, 0, none⟩), .int .u32 x, .int .i64 k] w fun e w' => e = .returned (.bool false) ∧ w = w' := by
  have c0 : w.cell? ⟨g, 0, none⟩ = some (.pointer (some ⟨g, 0, none⟩)) := (cell_of_row _ _ _ _ _ _ h.row).trans rfl
  clear h
  by_cases h0 : k < 0
  · go_enter Try.func12, Try.ntmps12
    go_wp2_with fail
    refine (wmade_yes g _ c0).mono ?_
    rintro e w' ⟨rfl, rfl⟩
    go_wp2
    go_ret
    exact ⟨rfl, rfl⟩
  · have h1 : 32 < k := by omega
    go_enter Try.func12, Try.ntmps12
    go_wp2_with fail
    refine (wmade_yes g _ c0).mono ?_
    rintro e w' ⟨rfl, rfl⟩
    go_wp2
    go_ret
    exact ⟨rfl, rfl⟩
theorem wlen_any (g n V : Nat) (v : Value) (w : World) (h : Wr w g n V v) (hn : n ≤ 1000000000) :
    Calls Try.prog 14 #[.pointer (some ⟨g, 0, none⟩)] w fun e w' => e = .returned (.int .i64 (n : Int)) ∧ Drawn w w' := by
  obtain ⟨a, cap, rfl⟩ := own_slice h.own
  have c0 : w.cell? ⟨g, 0, none⟩ = some (.pointer (some ⟨g, 0, none⟩)) := (cell_of_row _ _ _ _ _ _ h.row).trans rfl
  have c1 : w.cell? ⟨g, 1, none⟩ = some (.slice a (n / 8) cap) := (cell_of_row _ _ _ _ _ _ h.row).trans rfl
  have c3 : w.cell? ⟨g, 3, none⟩ = some (.int .i64 ((n % 8 : Nat))) := (cell_of_row _ _ _ _ _ _ h.row).trans rfl
  have HE := Lib.hid (show 8 * ((n / 8 : Nat) : Int) + ((n % 8 : Nat) : Int) = (n : Int) by omega)
  have q1 : ((n / 8 : Nat) : Int) ≤ 1000000000 := by omega
  have q2 : ((n % 8 : Nat) : Int) < 8 := by omega
  clear h
  generalize n / 8 = q at *
  generalize n % 8 = r at *
  go_enter Try.func14, Try.ntmps14
  go_wp2_with fail
  refine (wmade_yes g _ c0).mono ?_
  rintro e w' ⟨rfl, rfl⟩
  go_wp2_with fail
  go_quiet (fail)
  go_wp2
  go_ret
  exact ⟨ret_int HE.out, (Drawn.refl _).drewN _⟩
theorem Wr.drawn {w w' : World} {g n V : Nat} {v : Value} (h : Wr w g n V v) (hd : Drawn w w') : Wr w' g n V v := by
  obtain ⟨m, rfl⟩ := hd
  exact ⟨h.row, h.own, h.lt⟩
theorem walign_any (g n V : Nat) (v : Value) (w : World) (h : Wr w g n V v) (hn : n ≤ 1000000000) :
    Calls Try.prog 10 #[.pointer (some ⟨g, 0, none⟩)] w fun e w' => e = .returned (.tuple #[]) ∧
      ∃ v', Wr w' g (n + (8 - n % 8) % 8) V v' ∧ Fro w w' g v.ownBlock ∧ ∀ k, v'.ownBlock = some k → k < w.heap.size → v.ownBlock = some k := by
  have HPUT : Hid (∀ wx, Drawn w wx → Calls Try.prog 12 #[.pointer (some ⟨g, 0, none⟩), .int .u32 0, .int .i64 (((8 - n % 8) % 8 : Nat) : Int)] wx fun e w' => e = .returned (.bool true) ∧
      Hid (∃ v', Wr w' g (n + (8 - n % 8) % 8) V v' ∧ Fro w w' g v.ownBlock ∧ ∀ k, v'.ownBlock = some k → k < w.heap.size → v.ownBlock = some k)) := by
    intro wx hd
    refine (put_any g n V 0 ((8 - n % 8) % 8) v wx (h.drawn hd) (by omega) (by omega) hn).mono ?_
    rintro e w' ⟨he, v', h1, h2, h3⟩
    rw [Nat.zero_mod, Nat.zero_mul, Nat.add_zero] at h1
    refine ⟨he, v', h1, ?_, ?_⟩
    · obtain ⟨m, rfl⟩ := hd
      exact ⟨h2.os, h2.tape, h2.output, h2.size, h2.block⟩
    · obtain ⟨m, rfl⟩ := hd
      exact h3
  have HLEN := Lib.hid (wlen_any g n V v w h hn)
  clear h
  have HTW := Lib.hid (fun wx => toWhole_any n wx (by omega))
  clear hn
  generalize (8 - n % 8) % 8 = q at *
  go_enter Try.func10, Try.ntmps10
  go_wp2_with fail
  refine HLEN.out.mono ?_
  rintro e w1 ⟨rfl, hd⟩
  have HD := Lib.hid hd; clear hd
  go_wp2_with fail
  refine (HTW.out _).mono ?_
  rintro e w' ⟨rfl, rfl⟩
  go_wp2_with fail
  refine (HPUT.out _ HD.out).mono ?_
  rintro e w2 ⟨rfl, hp⟩
  go_wp2
  go_returns
  exact ⟨rfl, hp.out⟩
theorem k8_last (A : List Int) (x y : Int) : (k8 (A ++ [x])).toArray.setIfInBounds A.length (.int .u8 y) = (k8 (A ++ [y])).toArray := by
  simp [k8, List.set_append_right]
set_option maxRecDepth 100000 in
set_option maxHeartbeats 1000000 in
theorem wbytes_any (g n V : Nat) (v : Value) (w : World) (h : Wr w g n V v) (hn : n ≤ 1000000000) :
    Calls Try.prog 15 #[.pointer (some ⟨g, 0, none⟩)] w fun e w' => e = .returned (.slice (some ⟨w.heap.size, 0, none⟩) ((n + 7) / 8) ((n + 7) / 8)) ∧
      w'.heap[w.heap.size]? = some (.cells (k8 (Bit.by V ((n + 7) / 8))).toArray 5 (0, 0)) ∧ Below w.heap.size w w' := by
  have HLEN := Lib.hid (wlen_any g n V v w h hn)
  have HTW := Lib.hid (fun wx => toWhole_any n wx (by omega))
  have c0 : w.cell? ⟨g, 0, none⟩ = some (.pointer (some ⟨g, 0, none⟩)) := (cell_of_row _ _ _ _ _ _ h.row).trans rfl
  have hw : g < w.heap.size := lt_of_block h.row
  have hnI : (n : Int) ≤ 1000000000 := by omega
  have hqI : (((8 - n % 8) % 8 : Nat) : Int) < 8 := by omega
  have HH := Lib.hid h; clear h
  obtain ⟨m, hm⟩ : ∃ m, (n + 7) / 8 = m := ⟨_, rfl⟩
  have hmI : ((n : Int) + (((8 - n % 8) % 8 : Nat) : Int)) / 8 = (m : Int) := by omega
  have hz := run_zeros m (by omega)
  rw [hm]
  have HM := Lib.hid hm; clear hm
  generalize hq : (8 - n % 8) % 8 = q at *
  have HQ := Lib.hid hq; clear hq
  have HN := Lib.hid hn; clear hn
  obtain ⟨a, cap, rfl⟩ := own_slice HH.out.own
  go_enter Try.func15, Try.ntmps15
  go_wp2_with fail
  refine (wmade_yes g _ c0).mono ?_
  rintro e w' ⟨rfl, rfl⟩
  go_wp2_with fail
  refine HLEN.out.mono ?_
  rintro e w1 ⟨rfl, hd⟩
  have h1 := HH.out.drawn hd
  have hsz : w1.heap.size = w.heap.size := by rw [hd.heap]
  have HB1 : Hid (Below w.heap.size w w1) := hd.below _
  clear hd HLEN HH c0
  go_wp2_with fail
  refine (HTW.out _).mono ?_
  rintro e w' ⟨rfl, rfl⟩
  clear HTW
  have hB2 : BytesIn w1 (.slice a (n / 8) cap) (Bit.by V (n / 8)) (fun _ => True) := (own_bytes h1.own).mono (Nat.le_refl _) (fun _ _ _ => trivial) (fun _ _ _ _ => rfl)
  obtain ⟨w3, hcp, hb3, hg3⟩ := run_copy_bytes 3 (w1.alloc (.cells (k8 (List.replicate m 0)).toArray 5)) w1.heap.size m m a (n / 8) cap (List.replicate m 0) (Bit.by V (n / 8)) (heap_alloc_new _ _) (by simp) (by rw [Bit.by_length]) (by have := HM.out; omega)
    (hB2.mono (by simp) (fun _ _ h => h) (fun s o hs _ => World.cell?_alloc_lt _ _ _ hs))
  have hr3 : w3.heap[g]? = some (.cells (wrCells (.pointer (some ⟨g, 0, none⟩)) (.slice a (n / 8) cap) ((V / 2 ^ (8 * (n / 8)) : Nat)) ((n % 8 : Nat))) 53 (0, 0)) :=
    (gb_heap hg3 (by simp; omega) (by omega)).trans ((Below.heap_alloc _ _ _ (by omega)).trans h1.row)
  have k1 : (w1.alloc (.cells (k8 (List.replicate m 0)).toArray 5)).cell? ⟨g, 1, none⟩ = some (.slice a (n / 8) cap) := (World.cell?_alloc_lt _ _ _ (by show g < _; omega)).trans ((cell_of_row _ _ _ _ _ _ h1.row).trans rfl)
  have k2 : w3.cell? ⟨g, 2, none⟩ = some (.int .u64 ((V / 2 ^ (8 * (n / 8)) : Nat))) := (cell_of_row _ _ _ _ _ _ hr3).trans rfl
  have HB3 : Hid (Below w.heap.size w w3) := (HB1.out.alloc (by omega) _).grown hg3 (by simp; omega) (fun k hk => by cases hk; omega)
  have HR3 := Lib.hid hb3; clear hb3
  have HMB : Hid (m ≤ 200000000) := by have := HN.out; have := HM.out; exact (by omega : m ≤ 200000000)
  clear h1 hB2 hg3 hr3 HB1
  by_cases hl : n / 8 < m
  · have hme : m = n / 8 + 1 := by have := HM.out; omega
    have k4 : w3.cell? ⟨w1.heap.size, n / 8, none⟩ = some (.int .u8 0) := by
      refine (cell_of_row _ _ _ _ _ _ HR3.out).trans ?_
      rw [List.getElem?_toArray, k8_get _ _ (by simp [Bit.by_length]; omega), getD_app_right _ _ _ (by rw [Bit.by_length]; omega), Bit.by_length]
      simp [hme]
    have k5 : w3.frozen? ⟨w1.heap.size, n / 8, none⟩ = false := frozen_of_row _ _ _ _ _ HR3.out
    have HE : Hid ((w3.setCell ⟨w1.heap.size, n / 8, none⟩ (.int .u8 (((V / 2 ^ (8 * (n / 8)) : Nat) : Int) % 256))).heap[w.heap.size]? = some (.cells (k8 (Bit.by V m)).toArray 5 (0, 0)) ∧ Below w.heap.size w (w3.setCell ⟨w1.heap.size, n / 8, none⟩ (.int .u8 (((V / 2 ^ (8 * (n / 8)) : Nat) : Int) % 256)))) := by
      refine ⟨?_, HB3.out.setCell (by show _ ≤ w1.heap.size; omega) _⟩
      rw [← hsz]
      refine (heap_setCell_same _ _ _ _ _ _ HR3.out).trans ?_
      have e1 : (List.replicate m (0 : Int)).drop (n / 8) = [0] := by rw [hme, List.drop_replicate, Nat.add_sub_cancel_left]; rfl
      have e2 := k8_last (Bit.by V (n / 8)) 0 (((V / 2 ^ (8 * (n / 8)) : Nat) : Int) % 256)
      rw [Bit.by_length] at e2
      rw [e1, e2, hme, Bit.by_succ]; rfl
    have hls : (n / 8 : Nat) + 1 = m := hme.symm
    have hi1 : (m : Int) - 1 = ((n / 8 : Nat) : Int) := by omega
    have hi2 : ((n / 8 : Nat) : Int) < (m : Int) := by omega
    have hi3 : (m : Int) ≤ 200000000 := by have := HMB.out; omega
    clear HR3 hme hls
    generalize V / 2 ^ (8 * (n / 8)) = W2 at *
    generalize n / 8 = p at *
    have HSZ := Lib.hid hsz; clear hsz
    go_wp2
    go_ret
    exact ⟨by rw [HSZ.out]; rfl, HE.out⟩
  · have hme : m = n / 8 := by have := HM.out; omega
    have HE : Hid (w3.heap[w.heap.size]? = some (.cells (k8 (Bit.by V m)).toArray 5 (0, 0)) ∧ Below w.heap.size w w3) := by
      refine ⟨?_, HB3.out⟩
      rw [← hsz, HR3.out, hme]; simp
    have hi2 : ((n / 8 : Nat) : Int) = (m : Int) := by omega
    clear HR3 hme k2
    have HSZ := Lib.hid hsz; clear hsz
    go_wp2
    go_ret
    exact ⟨by rw [HSZ.out]; rfl, HE.out⟩
end Go.Proofs.Ytkfbcekhegdmjaa
