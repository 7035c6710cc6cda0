/- The walks of slices.Repeat of one number, of the program's equal, and of slices.Concat of four rows. -/
import Derived.Test.YteajjanjkhhgdaaDoorInfPgB
import Derived.Laws.Bits64b
import Derived.Deep.RegionLaw
import Derived.Deep.RegionHeld3
namespace Go.Proofs.YteajjanjkhhgdaaDoor
open Go.RowKit Go

theorem mul64_one (n : Nat) (w : World) (hn : n ≤ 1000000) :
    Calls Tryd.prog 189 #[.int .u64 1, .int .u64 (n : Int)] w fun e w' => e = .returned (.tuple #[.int .u64 0, .int .u64 (n : Int)]) ∧ w = w' := by
  have b1 : bits .and .u64 1 4294967295 = 1 := rfl
  have b0 : bits .and .u64 0 4294967295 = 0 := rfl
  have bn : bits .and .u64 (n : Int) 4294967295 = (n : Int) := by
    have h := bits_and_u64_nat n 4294967295 (by omega) (by omega)
    have e : n &&& 4294967295 = n % 4294967296 := Nat.and_two_pow_sub_one_eq_mod n 32
    rw [e, Nat.mod_eq_of_lt (by omega)] at h
    exact h
  have d0 : (n : Int) / 4294967296 = 0 := by omega
  have d1 : (1 : Int) / 4294967296 = 0 := rfl
  have hnI : (n : Int) ≤ 1000000 := by omega
  clear hn
  go_enter Tryd.func189, Tryd.ntmps189
  go_wp2
  go_ret2
  exact ⟨rfl, rfl⟩
theorem mul_one (n : Nat) (w : World) (hn : n ≤ 1000000) :
    Calls Tryd.prog 182 #[.int .u64 1, .int .u64 (n : Int)] w fun e w' => e = .returned (.tuple #[.int .u64 0, .int .u64 (n : Int)]) ∧ w = w' := by
  have HM := Lib.hid (mul64_one n w hn)
  clear hn
  go_enter Tryd.func182, Tryd.ntmps182
  go_wp2_with fail
  refine HM.out.mono ?_
  rintro e w1 ⟨rfl, rfl⟩
  go_wp2
  go_ret2
  exact ⟨rfl, rfl⟩
theorem Inf.elemInts : Tryd.prog.underlying 42 = some (.slice (Tryd.prog.elem 42)) := by kernel_rfl
theorem Inf.sizeInts (w : World) : (sizeOf (Tryd.prog.elem 42)).run Tryd.prog w = .ok 1 w := by kernel_rfl
theorem Inf.ints_to (a : Option Addr) (n cap c : Nat) (hc : c ≤ cap) (w : World) : (Instr.sliceAt 42 (.slice a n cap) none (some (.int .i64 (c : Int))) none).run Tryd.prog w = .ok (.slice a c cap) w := by
  rw [run_sliceAt_slice w _ _ _ _ _ Inf.elemInts, run_slice_h w _ a n cap Inf.elemInts .i64 c (by omega) (by omega), Inf.sizeInts]
  cases a <;> simp [Result.andThen, sliced, Addr.add]
theorem Inf.ints_from (a : Option Addr) (n cap c : Nat) (hn : c ≤ n) (w : World) :
    (Instr.sliceAt 42 (.slice a n cap) (some (.int .i64 (c : Int))) none none).run Tryd.prog w = .ok (.slice (if cap = c then a else a.map (·.add c)) (n - c) (cap - c)) w := by
  rw [run_sliceAt_slice w _ _ _ _ _ Inf.elemInts, run_slice_l w _ a n cap Inf.elemInts .i64 c (by omega) (by omega), Inf.sizeInts]
  simp [Result.andThen, sliced]
/-- copy of numbers into a block of them -/
theorem run_copy_ints (ty : TypeId) (w : World) (G o d dc N s so sl sc z : Nat) (C F : Nat → Int) (hg : w.heap[G]? = some (.cells (ki N C) 3 (0, 0))) (hz : z = Nat.min sl d) (hsrc : ∀ j, j < z → w.cell? ⟨s, so + j, none⟩ = some (.int .i64 (F j))) (hfit : o + z ≤ N) :
    ∃ w', (Builtin.copy_ #[42, 42] ty #[.slice (some ⟨G, o, none⟩) d dc, .slice (some ⟨s, so, none⟩) sl sc]).run Tryd.prog w = .ok (.int .i64 (z : Int)) w' ∧
      w'.heap[G]? = some (.cells (ki N fun t => if o ≤ t ∧ t < o + z then F (t - o) else C t) 3 (0, 0)) ∧ w.grownBy w' (some G) := by
  have hl : ((List.range z).map fun i => Value.int .i64 (F i)).length = z := by simp
  have hr := run_copy_row (P := Tryd.prog) w 42 42 ty 3 G o d dc ⟨s, so, none⟩ sl sc _ _ ((List.range z).map fun i => Value.int .i64 (F i)) (by kernel_rfl) (by kernel_rfl) hg (by rw [hl, hz])
    (fun j v hj => by
      have hjl : j < z := by have := (List.getElem?_eq_some_iff.1 hj).1; rwa [hl] at this
      rw [Addr.add_mid, hsrc j hjl, ← hj, List.getElem?_map, List.getElem?_range hjl]; rfl) (by rw [hl, ki_size]; exact hfit) (fun v hv => by obtain ⟨j, _, rfl⟩ := List.mem_map.1 hv; rfl)
  refine ⟨_, hr.trans (by rw [hl]; rfl), ?_, ?_⟩
  · refine (setRow_heap w G _ _ _ _ hg).trans ?_
    have e : ((ki N C).toList.take o ++ ((List.range z).map fun i => Value.int .i64 (F i)) ++ (ki N C).toList.drop (o + z)).toArray = ki N fun t => if o ≤ t ∧ t < o + z then F (t - o) else C t := by
      have hk : (ki N C).toList.length = N := by rw [Array.length_toList, ki_size]
      have ht : ((ki N C).toList.take o).length = o := by rw [List.length_take, hk]; omega
      refine ki_eq (by simp [hk]; omega) fun j hj => ?_
      rw [List.getElem?_toArray]
      by_cases h1 : j < o
      · rw [List.getElem?_append_left (by rw [List.length_append, ht]; omega), List.getElem?_append_left (by omega), List.getElem?_take, if_pos h1, Array.getElem?_toList, ki_get _ _ _ hj, if_neg (by omega)]
      · by_cases h2 : j < o + z
        · rw [List.getElem?_append_left (by rw [List.length_append, ht, hl]; omega), List.getElem?_append_right (by omega), ht, List.getElem?_map, List.getElem?_range (by omega), if_pos (by omega)]; rfl
        · rw [List.getElem?_append_right (by rw [List.length_append, ht, hl]; omega), List.length_append, ht, hl, List.getElem?_drop, Array.getElem?_toList, show o + z + (j - (o + z)) = j by omega, ki_get _ _ _ hj, if_neg (by omega)]
    rw [e]
  · exact ⟨rfl, rfl, rfl, by simp [World.setRow], fun k hk hkg => setRow_other w G k _ (fun e => hkg (by rw [e]))⟩

/-- copy within a region that draws its order -/
theorem step_copy_eq (w w7 : World) {ops : Array Oper} {o : Oper} {a : Act} {K : Act → World → Prop} {Q : Exit → Act → World → Prop} {E : Prop} (hgd : o.guard = none) (s x : Operand) (t : TypeId)
    (ho : o.op = .call { callee := .builtin .copy, args := #[s, x], argTypes := #[t, t] }) (v u res : Value) (hs : a.eval s = v) (hx : a.eval x = u)
    (hr : (Builtin.copy_ #[t, t] o.type #[v, u]).run Tryd.prog w = .ok res w7) (h : K (a.put o.dst res) w7) :
    if Region.wanted o (yielded ops a.tmps) = true then Oper.wp Tryd.prog o a w K Q else E := by
  have hw : Region.wanted o (yielded ops a.tmps) = true := by simp [Region.wanted, hgd]
  rw [if_pos hw]
  unfold Oper.wp execOp
  simp only [ho, resolve, invoke, builtin, Sem.run_bind, Sem.run_pure, Result.andThen_ok, List.map_toArray, List.map_cons, List.map_nil, hs, hx, hr]
  exact h

/-- a row of n numbers c in a block of its own -/
def RpO (w : World) (c : Int) (n : Nat) (e : Ending) (w' : World) : Prop :=
  Below w.heap.size w w' ∧ ∃ G, w.heap.size ≤ G ∧ w'.heap[G]? = some (.cells (ki n fun _ => c) 3 (0, 0)) ∧ e = .returned (.slice (some ⟨G, 0, none⟩) n n)
set_option maxRecDepth 100000 in
set_option maxHeartbeats 4000000 in
theorem repeat_any (c : Int) (n H : Nat) (w : World) (hn : 1 ≤ n) (hn6 : n ≤ 100000) (hH : w.heap[H]? = some (.cells #[.int .i64 c] 3 (0, 0))) :
    Calls Tryd.prog 164 #[.slice (some ⟨H, 0, none⟩) 1 1, .int .i64 (n : Int)] w fun e w' => RpO w c n e w' := by
  have HM := fun wx => mul_one n wx (by omega)
  have hmk := run_ints n (by omega)
  have hnI : (n : Int) ≤ 100000 := by omega
  have hnp : (1 : Int) ≤ (n : Int) := by omega
  have hw1 : IntKind.u64.wrap (n : Int) = (n : Int) := by rw [IntKind.wrap_u64]; omega
  have hw2 : IntKind.i64.wrap (n : Int) = (n : Int) := by rw [IntKind.wrap_i64]; omega
  have hw3 : decide ((n : Int) < 0) = false := decide_eq_false (by omega)
  have hw4 : decide (9223372036854775807 < (n : Int)) = false := decide_eq_false (by omega)
  have HN := Lib.hid hn
  have hb1 : (w.alloc (.cells (ki n (fun _ => 0)) 3)).heap[w.heap.size]? = some (.cells (ki n (fun _ => 0)) 3 (0, 0)) := heap_alloc_new _ _
  obtain ⟨w3, hcp, h3, hg3⟩ := run_copy_ints 3 (w.alloc (.cells (ki n (fun _ => 0)) 3)) w.heap.size 0 n n n H 0 1 1 1 _ (fun _ => c) hb1 (by show 1 = min 1 n; omega) (fun j hj => by
    obtain rfl : j = 0 := by omega
    rw [World.cell?_alloc_lt _ _ _ (lt_of_block hH), cell_of_row _ _ _ _ _ _ hH]; rfl) (by omega)
  have HB3 : Hid (Below w.heap.size w w3) := ((Below.refl _ _).alloc (Nat.le_refl _) _).grown hg3 (by simp) (fun k hk => by cases hk; exact Nat.le_refl _)
  have H3 : Hid (w3.heap[w.heap.size]? = some (.cells (ki n fun t => if t < 1 then c else 0) 3 (0, 0))) := by
    unfold Hid
    rw [h3]
    congr 2
    refine ki_congr fun i hi => ?_
    by_cases e : i < 1
    · rw [if_pos (by omega), if_pos e]
    · rw [if_neg (by omega), if_neg e]
  clear h3 hg3 hb1 hn hn6 hH
  go_enter Tryd.func164, Tryd.ntmps164
  go_wp2_with fail
  refine (HM _).mono ?_
  rintro e w1 ⟨rfl, rfl⟩
  clear HM
  go_wp2_with fail
  generalize hG : w.heap.size = G at *
  clear hcp hmk
  go_loopw [8] (fun v8 wr => ∃ k : Nat, 1 ≤ k ∧ k ≤ n ∧ v8 = .int .i64 (k : Int) ∧ Below G w wr ∧ wr.heap[G]? = some (.cells (ki n fun t => if t < k then c else 0) 3 (0, 0))) (fun v8 _ => (n - intOf v8).toNat)
  case atStart => exact ⟨1, by omega, HN.out, rfl, HB3.out, H3.out⟩
  case round =>
    clear H3 HB3
    obtain ⟨k, hk1, hk, rfl, hb, hrow⟩ := hrel
    have HB := Lib.hid hb
    have HR := Lib.hid hrow
    clear hb
    by_cases hlt : k < n
    · have hd1 : decide (k < n) = true := decide_eq_true hlt
      have hd2 : decide ((k : Int) < (n : Int)) = true := decide_eq_true (by omega)
      obtain ⟨z, hz⟩ : ∃ z, z = min k (n - k) := ⟨_, rfl⟩
      have hfr := Inf.ints_from (some ⟨G, 0, none⟩) n n k hk
      rw [if_neg (by omega), show Option.map (fun x : Addr => x.add k) (some ⟨G, 0, none⟩) = some ⟨G, k, none⟩ by simp [Addr.add_mid]] at hfr
      have hto := Inf.ints_to (some ⟨G, 0, none⟩) n n k hk
      have hrow2 : wr.drew.heap[G]? = some (.cells (ki n fun t => if t < k then c else 0) 3 (0, 0)) := hrow
      obtain ⟨w7, hcp, h7, hg7⟩ := run_copy_ints 3 wr.drew G k (n - k) (n - k) n G 0 k n z _ (fun _ => c) hrow2 (by rw [hz]) (fun j hj => by
        rw [Nat.zero_add, ki_cell hrow2 j (by omega), if_pos (by omega)]) (by omega)
      have HX : Hid (Below G w w7) := (HB.out.drew).grown hg7 (by have := HB.out.size; simp; omega) (fun k hk => by cases hk; exact Nat.le_refl _)
      obtain ⟨k1, hk1e⟩ : ∃ k1, k1 = k + z := ⟨_, rfl⟩
      have H7 : Hid (w7.heap[G]? = some (.cells (ki n fun t => if t < k1 then c else 0) 3 (0, 0))) := by
        unfold Hid
        rw [h7]
        congr 2
        refine ki_congr fun i hi => ?_
        by_cases e1 : i < k
        · rw [if_neg (by omega), if_pos e1, if_pos (by omega)]
        · by_cases e2 : i < k1
          · rw [if_pos (by omega), if_pos e2]
          · rw [if_neg (by omega), if_neg e1, if_neg e2]
      have hkz : (k : Int) + (z : Int) = (k1 : Int) := by omega
      have hzI : (z : Int) ≤ 100000 := by omega
      have hkI : (k : Int) ≤ 100000 := by omega
      have hkw : IntKind.i64.wrap (k1 : Int) = (k1 : Int) := by rw [IntKind.wrap_i64]; omega
      have HK1 : Hid (k < k1 ∧ k1 ≤ n) := by unfold Hid; omega
      clear h7 hg7 hrow hrow2 hz hk1e
      go_wp2_with fail
      go_region_held3 (fun _ => True) (trivial) ((refine step_copy_eq _ w7 (by rfl) _ _ _ (by rfl) _ _ _ (by rfl) (by rfl) hcp ?_))
      all_goals go_wp2
      all_goals go_roundw
      all_goals first
        | (have := HK1.out; simp only [intOf]; omega; done)
        | exact ⟨k1, by have := HK1.out; omega, HK1.out.2, by go_num, HX.out, H7.out⟩
    · obtain rfl : k = n := by omega
      have hd1 : decide (k < k) = false := decide_eq_false (by omega)
      have hd2 : decide ((k : Int) < (k : Int)) = false := decide_eq_false (by omega)
      clear hrow
      go_wp2
      go_ret
      have e : ki k (fun t => if t < k then c else 0) = ki k (fun _ => c) := ki_congr fun i hi => if_pos hi
      refine ⟨by rw [hG]; exact HB.out, G, by omega, ?_, rfl⟩
      rw [← e]
      exact HR.out

set_option maxHeartbeats 1000000 in
theorem equal_any (c : Int) (n : Nat) (w : World) (hn : 1 ≤ n) (hn6 : n ≤ 100000) :
    Calls Tryd.prog 126 #[.int .i64 c, .int .i64 (n : Int)] w fun e w' => RpO w c n e w' := by
  have HR := Lib.hid (repeat_any c n w.heap.size (w.alloc (.cells #[.int .i64 c] 3)) hn hn6 (heap_alloc_new _ _))
  have HS : Hid ((w.alloc (.cells #[.int .i64 c] 3)).heap.size = w.heap.size + 1) := by simp [Hid]
  have HB : Hid (Below w.heap.size w (w.alloc (.cells #[.int .i64 c] 3))) := (Below.refl _ _).alloc (Nat.le_refl _) _
  clear hn hn6
  go_enter Tryd.func126, Tryd.ntmps126
  go_wp2_with fail
  refine HR.out.mono ?_
  rintro e w1 ⟨h1, G, h2, h3, rfl⟩
  have H1 : Hid (Below w.heap.size w w1) := HB.out.trans (h1.mono (by have := HS.out; omega))
  have H2 : Hid (w.heap.size ≤ G) := by have := HS.out; unfold Hid; omega
  have H3 := Lib.hid h3
  clear h1 h2 h3 HR HB HS
  go_wp2
  go_ret
  exact ⟨H1.out, G, H2.out, H3.out, rfl⟩
end Go.Proofs.YteajjanjkhhgdaaDoor
