/- The walks of slices.Grow of none, and of slices.Concat of rows of one number each. -/
import Derived.Test.YthnpgnnnijpofaaDoorInfRow
import Derived.Lib.AppendZeros
namespace Go.Proofs.YthnpgnnnijpofaaDoor
open Go.RowKit Go

set_option maxRecDepth 100000 in
set_option maxHeartbeats 2000000 in
theorem grow_any (n : Nat) (w : World) (hn : 1 ≤ n) (hn6 : n ≤ 100000) :
    Calls Tryd.prog 137 #[.slice none 0 0, .int .i64 (n : Int)] w fun e w' => ∃ v, e = .returned v ∧ w'.ownsRow w.heap.size 3 1 v 0 [] ∧ Below w.heap.size w w' := by
  obtain ⟨i0, hi, hz0, hz1, hz2⟩ := info_parts infoInt
  have hr := fun ty => Lib.run_append_nil_zeros (P := Tryd.prog) w 42 3 ty 3 i0 _ .i64 .i64 (by kernel_rfl) (by kernel_rfl) hi hz0 n (by omega) (by rw [hz1]; omega) (by omega) (by rw [hz2]; omega)
  have hge := grownCap_ge w n 0 3
  have hcm := grownCap_le_maxLen w n 0 3 (by simp only [maxLen]; omega)
  have hsl := Inf.ints_to none 0 0 0 (Nat.le_refl _)
  generalize grownCap w n 0 3 = gc at *
  have HO : Hid ((w.drew.alloc (.cells (Builtin.zeroCells (Value.int .i64 0).cells n ++ Builtin.zeroCells (Value.int .i64 0).cells (gc - n)) 3)).ownsRow w.heap.size 3 1 (.slice (some ⟨w.heap.size, 0, none⟩) 0 gc) 0 []) := by
    refine ⟨rfl, .inr ⟨w.heap.size, gc, _, rfl, Nat.le_refl _, heap_alloc_new w.drew _, Nat.zero_le _, hcm, ?_, by simp⟩⟩
    simp only [Array.size_append, size_zeroCells]
    show n * 1 + (gc - n) * 1 = gc * 1
    omega
  have HB : Hid (Below w.heap.size w (w.drew.alloc (.cells (Builtin.zeroCells (Value.int .i64 0).cells n ++ Builtin.zeroCells (Value.int .i64 0).cells (gc - n)) 3))) := (Below.refl _ _).drew.alloc (Nat.le_refl _) _
  obtain ⟨wz, hwz⟩ : ∃ wz, wz = w.drew.alloc (.cells (Builtin.zeroCells (Value.int .i64 0).cells n ++ Builtin.zeroCells (Value.int .i64 0).cells (gc - n)) 3) := ⟨_, rfl⟩
  rw [← hwz] at hr HO HB
  have hs2 := Inf.ints_to (some ⟨w.heap.size, 0, none⟩) n gc 0 (Nat.zero_le _)
  have hd0 : decide ((n : Int) < 0) = false := decide_eq_false (by omega)
  have hd1 : decide (0 < (n : Int)) = true := decide_eq_true (by omega)
  have hd2 : decide (0 < n) = true := decide_eq_true (by omega)
  have hnI : (n : Int) ≤ 100000 := by omega
  clear hwz hge hcm hn hn6 hi hz0 hz1 hz2
  go_enter Tryd.func137, Tryd.ntmps137
  go_wp2_with (first | (at_builtin; refine Lib.wpList_append_run _ rfl _ _ _ _ rfl _ _ rfl rfl _ _ (hr _) ?_))
  go_ret
  exact ⟨_, rfl, HO.out, HB.out⟩

/-- rows behind each other -/
def Inf.cat (N C : Nat → Nat) : Nat → List Nat
  | 0 => []
  | i + 1 => Inf.cat N C i ++ List.replicate (N i) (C i)
def Inf.sm (N : Nat → Nat) : Nat → Nat
  | 0 => 0
  | i + 1 => Inf.sm N i + N i
theorem Inf.cat_length (N C : Nat → Nat) : ∀ k, (Inf.cat N C k).length = Inf.sm N k
  | 0 => rfl
  | k + 1 => by rw [Inf.cat, Inf.sm, List.length_append, List.length_replicate, Inf.cat_length N C k]
theorem Inf.sm_up (N : Nat → Nat) (k : Nat) : ∀ d, Inf.sm N k ≤ Inf.sm N (k + d)
  | 0 => Nat.le_refl _
  | d + 1 => Nat.le_trans (Inf.sm_up N k d) (Nat.le_add_right _ _)
theorem Inf.sm_le (N : Nat → Nat) {i k : Nat} (h : i < k) : Inf.sm N i + N i ≤ Inf.sm N k := by
  have := Inf.sm_up N (i + 1) (k - (i + 1))
  rwa [show i + 1 + (k - (i + 1)) = k by omega] at this

set_option maxRecDepth 100000 in
set_option maxHeartbeats 4000000 in
theorem concat_any (H k : Nat) (N C G : Nat → Nat) (w : World) (hk : k ≤ 100) (hs1 : 1 ≤ Inf.sm N k) (hs : Inf.sm N k ≤ 1000) (hH : H < w.heap.size)
    (hc : ∀ i, i < k → w.cell? ⟨H, i, none⟩ = some (.slice (some ⟨G i, 0, none⟩) (N i) (N i))) (hG : ∀ i, i < k → w.heap[G i]? = some (.cells (ki (N i) fun _ => (C i : Int)) 3 (0, 0))) :
    Calls Tryd.prog 99 #[.slice (some ⟨H, 0, none⟩) k k] w fun e w' => ∃ v, e = .returned v ∧ w'.ownsRow w.heap.size 3 1 v (Inf.sm N k) (nv (Inf.cat N C k)) ∧ Below w.heap.size w w' := by
  have HC := Lib.hid hc
  have HG := Lib.hid hG
  have HGR := Lib.hid (fun wx => grow_any (Inf.sm N k) wx hs1 (by omega))
  have HK := Lib.hid hk
  have HS := Lib.hid hs
  have HH := Lib.hid hH
  have hkI : (k : Int) ≤ 100 := by omega
  clear hc hG hk hs1 hs hH
  go_enter Tryd.func99, Tryd.ntmps99
  go_wp2_with fail
  go_loopw [3, 11] (fun v3 v11 wr => ∃ i : Nat, i ≤ k ∧ v11 = .int .i64 (i : Int) ∧ v3 = .int .i64 ((Inf.sm N i : Nat) : Int) ∧ wr = w) (fun _ v11 _ => (k - intOf v11).toNat)
  case atStart => exact ⟨0, by omega, rfl, rfl, rfl⟩
  case round =>
    obtain ⟨i, hi, rfl, rfl, hw⟩ := hrel
    subst wr
    by_cases hlt : i < k
    · have hd1 : decide (i < k) = true := decide_eq_true hlt
      have hd2 : decide ((i : Int) < (k : Int)) = true := decide_eq_true (by omega)
      have hle := Inf.sm_le N hlt
      have hS := HS.out
      have c1 := HC.out i hlt
      obtain ⟨m, hm⟩ : ∃ m, m = N i := ⟨_, rfl⟩
      obtain ⟨a, ha⟩ : ∃ a, a = Inf.sm N i := ⟨_, rfl⟩
      obtain ⟨b, hb⟩ : ∃ b, b = Inf.sm N (i + 1) := ⟨_, rfl⟩
      have hab : a + m = b := by rw [ha, hm, hb, Inf.sm]
      have habI : (a : Int) + (m : Int) = (b : Int) := by omega
      have hb6 : b ≤ 1000 := by rw [hb, Inf.sm]; omega
      have hbI : (b : Int) ≤ 1000 := by omega
      have haI : (a : Int) ≤ 1000 := by omega
      have hmI : (m : Int) ≤ 1000 := by omega
      have hb0 : decide ((b : Int) < 0) = false := decide_eq_false (by omega)
      rw [← hm] at c1
      rw [← ha]
      have HLT := Lib.hid hlt
      have HB := Lib.hid hb
      have hikI : (i : Int) < (k : Int) := by omega
      clear hm ha hb hab hb6 hle hS hlt
      go_wp2
      exact ⟨⟨i + 1, by have := HLT.out; omega, by go_num, by rw [← HB.out], trivial⟩, by have := HLT.out; simp [intOf]; omega⟩
    · obtain rfl : i = k := by omega
      have hd1 : decide (i < i) = false := decide_eq_false (by omega)
      have hd2 : decide ((i : Int) < (i : Int)) = false := decide_eq_false (by omega)
      clear hlt hi
      go_wp2_with fail
      refine (HGR.out _).mono ?_
      rintro e w1 ⟨v, rfl, h1, h2⟩
      obtain ⟨av, cv, rfl⟩ := own_form h1
      have HO := Lib.hid h1
      have HB := Lib.hid h2
      clear h1 h2 HGR
      go_wp2_with fail
      go_loopw [6, 27] (fun v6 v27 wr => ∃ (j z : Nat) (ad : Option Addr) (cp : Nat), j ≤ i ∧ v27 = .int .i64 (j : Int) ∧ v6 = .slice ad z cp ∧ z = Inf.sm N j ∧ wr.ownsRow w.heap.size 3 1 (.slice ad z cp) z (nv (Inf.cat N C j)) ∧ Below w.heap.size w wr) (fun _ v27 _ => (i - intOf v27).toNat)
      case atStart => exact ⟨0, 0, av, cv, by omega, rfl, rfl, rfl, HO.out, HB.out⟩
      case round =>
        clear HO HB
        obtain ⟨j, z, ad, cp, hj, rfl, rfl, hz, ho, hb⟩ := hrel
        have HO := Lib.hid ho
        have HB := Lib.hid hb
        have HZ := Lib.hid hz
        clear ho hb
        by_cases hlt : j < i
        · have hd3 : decide (j < i) = true := decide_eq_true hlt
          have hd4 : decide ((j : Int) < (i : Int)) = true := decide_eq_true (by omega)
          have c1 : wr.cell? ⟨H, j, none⟩ = some (.slice (some ⟨G j, 0, none⟩) (N j) (N j)) := (HB.out.cell (by exact HH.out)).trans (HC.out j hlt)
          have HGJ : Hid (wr.heap[G j]? = some (.cells (ki (N j) fun _ => (C j : Int)) 3 (0, 0))) := (HB.out.block _ (Inf.lt_some (HG.out j hlt))).trans (HG.out j hlt)
          have hle := Inf.sm_le N hlt
          have hS := HS.out
          obtain ⟨m, hm⟩ : ∃ m, m = N j := ⟨_, rfl⟩
          obtain ⟨gj, hgj⟩ : ∃ gj, gj = G j := ⟨_, rfl⟩
          have HCAT : Hid (Inf.cat N C (j + 1) = Inf.cat N C j ++ List.replicate m (C j) ∧ Inf.sm N (j + 1) = z + m) := by rw [Inf.cat, Inf.sm, hm, hz]; exact ⟨rfl, rfl⟩
          have hzm : z + m ≤ 1000000 := by omega
          rw [← hm, ← hgj] at c1 HGJ
          have HLT := Lib.hid hlt
          have hjI : (j : Int) < (i : Int) := by omega
          have hown := HO.out
          have HSZ : Hid (w.heap.size ≤ wr.heap.size) := HB.out.size
          clear hm hgj hle hS hlt hz
          go_wp2_with (first | (at_builtin; refine wpList_append_rep rfl (.tmp 31) (.tmp 32) rfl w.heap.size _ z (nv (Inf.cat N C j)) rfl hown gj m (C j : Int) rfl HGJ.out hzm HSZ.out ?_; intro v' w8 ho8 hg8; obtain ⟨a8, c8, rfl⟩ := own_form ho8.out))
          refine ⟨⟨j + 1, z + m, a8, c8, by have := HLT.out; omega, by go_num, rfl, HCAT.out.2.symm, ?_, HB.out.grown hg8.out HB.out.size (fun k hk => (Inf.own_type HO.out hk).1)⟩, by have := HLT.out; simp [intOf]; omega⟩
          rw [HCAT.out.1, nv_rep]
          exact ho8.out
        · obtain rfl : j = i := by omega
          have hd3 : decide (j < j) = false := decide_eq_false (by omega)
          have hd4 : decide ((j : Int) < (j : Int)) = false := decide_eq_false (by omega)
          subst hz
          go_wp2
          go_ret
          exact ⟨_, rfl, HO.out, HB.out⟩
end Go.Proofs.YthnpgnnnijpofaaDoor
