/- The walk of the document's Fixed. -/
import Derived.Test.YteajjanjkhhgdaaDoorInfRefC
namespace Go.Proofs.YteajjanjkhhgdaaDoor
open Go.RowKit Go

theorem Inf.fix_get : ∀ i, i < 288 → Inf.fixl.getD i 0 = if 256 ≤ i ∧ i < 280 then 7 else if 144 ≤ i ∧ i < 256 then 9 else 8 := of_decide_eq_true (by kernel_rfl)
theorem Inf.fix_len2 : Inf.fixl.length = 288 := by kernel_rfl
theorem own_base' {w : World} {b0 b1 : Nat} {e : TypeId} {size : Nat} {v : Value} {n : Nat} {xs : List Value} (h : w.ownsRow b1 e size v n xs) (hb : b0 ≤ b1) : w.ownsRow b0 e size v n xs := by
  refine ⟨h.1, ?_⟩
  rcases h.2 with h0 | ⟨g, cap, cur, e, q1, q2, q3⟩
  · exact .inl h0
  · exact .inr ⟨g, cap, cur, e, by omega, q2, q3⟩
theorem Inf.take_next (l : List Nat) (i : Nat) (h : i < l.length) : l.take (i + 1) = l.take i ++ [l.getD i 0] := by
  rw [List.take_add_one, List.getElem?_eq_getElem h, List.getD_eq_getElem?_getD, List.getElem?_eq_getElem h]; rfl
theorem nv_one (l : List Nat) (x : Nat) : nv (l ++ [x]) = nv l ++ [.int .i64 (x : Int)] := by simp [nv]
set_option maxRecDepth 100000 in
set_option maxHeartbeats 4000000 in
theorem rfixed_any (w : World) :
    Calls Tryd.prog 22 #[] w fun e w' => ∃ v1 v2, e = .returned (.tuple #[v1, v2]) ∧ Below w.heap.size w w' ∧ w'.ownsRow w.heap.size 3 1 v1 288 (nv Inf.fixl) ∧ w'.ownsRow w.heap.size 3 1 v2 32 (nv Inf.fixd) := by
  go_enter Tryd.func22, Tryd.ntmps22
  go_wp2_with fail
  go_loopw [2, 4] (fun v2 v4 wr => ∃ (i : Nat) (ad : Option Addr) (cp : Nat), i ≤ 288 ∧ v4 = .int .i64 (i : Int) ∧ v2 = .slice ad i cp ∧ Below w.heap.size w wr ∧ wr.ownsRow w.heap.size 3 1 (.slice ad i cp) i (nv (Inf.fixl.take i))) (fun _ v4 _ => (288 - intOf v4).toNat)
  case atStart => exact ⟨0, none, 0, by omega, rfl, rfl, Below.refl _ _, World.ownsRow_nil _ _ _ _⟩
  case round =>
    obtain ⟨i, ad, cp, hi, rfl, rfl, hb, ho⟩ := hrel
    have HB := Lib.hid hb
    have HO := Lib.hid ho
    clear hb ho
    by_cases hlt : i < 288
    · have hd : decide ((i : Int) < 288) = true := decide_eq_true (by omega)
      obtain ⟨y, hy⟩ : ∃ y, y = Inf.fixl.getD i 0 := ⟨_, rfl⟩
      have hy2 := Inf.fix_get i hlt
      have HNX : Hid (Inf.fixl.take (i + 1) = Inf.fixl.take i ++ [y]) := by unfold Hid; rw [hy]; exact Inf.take_next _ _ (by rw [Inf.fix_len2]; exact hlt)
      have HSZ : Hid (w.heap.size ≤ wr.heap.size) := HB.out.size
      have HI : Hid (i < 288) := hlt
      have hown := HO.out
      rw [← hy] at hy2
      clear hy
      rcases (by omega : i < 144 ∨ (144 ≤ i ∧ i < 256) ∨ (256 ≤ i ∧ i < 280) ∨ 280 ≤ i) with c | c | c | c
      · have y1 : y = 8 := by rw [hy2, if_neg (by omega), if_neg (by omega)]
        subst y1
        have g1 : decide (144 ≤ (i : Int)) = false := decide_eq_false (by omega)
        have g2 : decide (256 ≤ (i : Int)) = false := decide_eq_false (by omega)
        have hiI : (i : Int) < 288 := by omega
        clear hy2 hlt c hi
        go_wp2_with (first | (at_builtin; refine wpList_append_int rfl (.tmp 23) (.tmp 25) rfl w.heap.size _ i (nv (Inf.fixl.take i)) rfl (hown.alloc _) wr.heap.size 8 rfl (heap_alloc_new _ _) (by have := HI.out; omega) (by have := HSZ.out; simp; omega) ?_; intro v' w8 ho8 hg8; obtain ⟨a8, c8, rfl⟩ := own_form ho8.out; have HB8 := Lib.hid ((HB.out.alloc HB.out.size _).grown hg8.out (by have := HSZ.out; simp; omega) (fun k hk => (Inf.own_type HO.out hk).1)); have HO8 := Lib.hid ho8.out; clear ho8 hg8))
        exact ⟨⟨i + 1, a8, c8, by have := HI.out; omega, by go_num, rfl, HB8.out, by rw [HNX.out, nv_one]; exact HO8.out⟩, by have := HI.out; simp [intOf]; omega⟩
      · have y1 : y = 9 := by rw [hy2, if_neg (by omega), if_pos (by omega)]
        subst y1
        have g1 : decide (144 ≤ (i : Int)) = true := decide_eq_true (by omega)
        have g3 : decide ((i : Int) < 256) = true := decide_eq_true (by omega)
        have g2 : decide (256 ≤ (i : Int)) = false := decide_eq_false (by omega)
        have hiI : (i : Int) < 288 := by omega
        clear hy2 hlt c hi
        go_wp2_with (first | (at_builtin; refine wpList_append_int rfl (.tmp 23) (.tmp 25) rfl w.heap.size _ i (nv (Inf.fixl.take i)) rfl (hown.alloc _) wr.heap.size 9 rfl (heap_alloc_new _ _) (by have := HI.out; omega) (by have := HSZ.out; simp; omega) ?_; intro v' w8 ho8 hg8; obtain ⟨a8, c8, rfl⟩ := own_form ho8.out; have HB8 := Lib.hid ((HB.out.alloc HB.out.size _).grown hg8.out (by have := HSZ.out; simp; omega) (fun k hk => (Inf.own_type HO.out hk).1)); have HO8 := Lib.hid ho8.out; clear ho8 hg8))
        exact ⟨⟨i + 1, a8, c8, by have := HI.out; omega, by go_num, rfl, HB8.out, by rw [HNX.out, nv_one]; exact HO8.out⟩, by have := HI.out; simp [intOf]; omega⟩
      · have y1 : y = 7 := by rw [hy2, if_pos (by omega)]
        subst y1
        have g1 : decide (144 ≤ (i : Int)) = true := decide_eq_true (by omega)
        have g3 : decide ((i : Int) < 256) = false := decide_eq_false (by omega)
        have g2 : decide (256 ≤ (i : Int)) = true := decide_eq_true (by omega)
        have g4 : decide ((i : Int) < 280) = true := decide_eq_true (by omega)
        have hiI : (i : Int) < 288 := by omega
        clear hy2 hlt c hi
        go_wp2_with (first | (at_builtin; refine wpList_append_int rfl (.tmp 23) (.tmp 25) rfl w.heap.size _ i (nv (Inf.fixl.take i)) rfl (hown.alloc _) wr.heap.size 7 rfl (heap_alloc_new _ _) (by have := HI.out; omega) (by have := HSZ.out; simp; omega) ?_; intro v' w8 ho8 hg8; obtain ⟨a8, c8, rfl⟩ := own_form ho8.out; have HB8 := Lib.hid ((HB.out.alloc HB.out.size _).grown hg8.out (by have := HSZ.out; simp; omega) (fun k hk => (Inf.own_type HO.out hk).1)); have HO8 := Lib.hid ho8.out; clear ho8 hg8))
        exact ⟨⟨i + 1, a8, c8, by have := HI.out; omega, by go_num, rfl, HB8.out, by rw [HNX.out, nv_one]; exact HO8.out⟩, by have := HI.out; simp [intOf]; omega⟩
      · have y1 : y = 8 := by rw [hy2, if_neg (by omega), if_neg (by omega)]
        subst y1
        have g1 : decide (144 ≤ (i : Int)) = true := decide_eq_true (by omega)
        have g3 : decide ((i : Int) < 256) = false := decide_eq_false (by omega)
        have g2 : decide (256 ≤ (i : Int)) = true := decide_eq_true (by omega)
        have g4 : decide ((i : Int) < 280) = false := decide_eq_false (by omega)
        have hiI : (i : Int) < 288 := by omega
        clear hy2 hlt c hi
        go_wp2_with (first | (at_builtin; refine wpList_append_int rfl (.tmp 23) (.tmp 25) rfl w.heap.size _ i (nv (Inf.fixl.take i)) rfl (hown.alloc _) wr.heap.size 8 rfl (heap_alloc_new _ _) (by have := HI.out; omega) (by have := HSZ.out; simp; omega) ?_; intro v' w8 ho8 hg8; obtain ⟨a8, c8, rfl⟩ := own_form ho8.out; have HB8 := Lib.hid ((HB.out.alloc HB.out.size _).grown hg8.out (by have := HSZ.out; simp; omega) (fun k hk => (Inf.own_type HO.out hk).1)); have HO8 := Lib.hid ho8.out; clear ho8 hg8))
        exact ⟨⟨i + 1, a8, c8, by have := HI.out; omega, by go_num, rfl, HB8.out, by rw [HNX.out, nv_one]; exact HO8.out⟩, by have := HI.out; simp [intOf]; omega⟩
    · have hd : decide ((i : Int) < 288) = false := decide_eq_false (by omega)
      have HI : Hid (i = 288) := by unfold Hid; omega
      clear hlt hi
      go_wp2_with fail
      generalize wr = w1 at *
      go_loopw [3, 6] (fun v3 v6 wr => ∃ (j : Nat) (aj : Option Addr) (cj : Nat), j ≤ 32 ∧ v6 = .int .i64 (j : Int) ∧ v3 = .slice aj j cj ∧ Below w1.heap.size w1 wr ∧ wr.ownsRow w1.heap.size 3 1 (.slice aj j cj) j (nv (List.replicate j 5))) (fun _ v6 _ => (32 - intOf v6).toNat)
      case atStart => exact ⟨0, none, 0, by omega, rfl, rfl, Below.refl _ _, World.ownsRow_nil _ _ _ _⟩
      case round =>
        obtain ⟨j, aj, cj, hj, rfl, rfl, hb, ho⟩ := hrel
        have HB2 := Lib.hid hb
        have HO2 := Lib.hid ho
        clear hb ho
        by_cases hlt : j < 32
        · have hd2 : decide ((j : Int) < 32) = true := decide_eq_true (by omega)
          have HSZ : Hid (w1.heap.size ≤ wr.heap.size) := HB2.out.size
          have HJ : Hid (j < 32) := hlt
          have hown := HO2.out
          have hjI : (j : Int) < 32 := by omega
          clear hlt hj
          go_wp2_with (first | (at_builtin; refine wpList_append_int rfl (.tmp 31) (.tmp 32) rfl w1.heap.size _ j (nv (List.replicate j 5)) rfl (hown.alloc _) wr.heap.size 5 rfl (heap_alloc_new _ _) (by have := HJ.out; omega) (by have := HSZ.out; simp; omega) ?_; intro v' w8 ho8 hg8; obtain ⟨a8, c8, rfl⟩ := own_form ho8.out; have HB8 := Lib.hid ((HB2.out.alloc HB2.out.size _).grown hg8.out (by have := HSZ.out; simp; omega) (fun k hk => (Inf.own_type HO2.out hk).1)); have HO8 := Lib.hid ho8.out; clear ho8 hg8))
          refine ⟨⟨j + 1, a8, c8, by have := HJ.out; omega, by go_num, rfl, HB8.out, ?_⟩, by have := HJ.out; simp [intOf]; omega⟩
          have e : List.replicate (j + 1) 5 = List.replicate j 5 ++ [5] := by rw [List.replicate_succ']
          rw [e, nv_one]
          exact HO8.out
        · have hd2 : decide ((j : Int) < 32) = false := decide_eq_false (by omega)
          obtain rfl : j = 32 := by omega
          clear hlt hj
          go_wp2
          go_ret2
          refine ⟨_, _, rfl, HB.out.trans (HB2.out.mono HB.out.size), ?_, own_base' HO2.out HB.out.size⟩
          have h1 := Inf.own_other HO.out fun k hk => by obtain ⟨_, _, hc⟩ := Inf.own_type HO.out hk; exact HB2.out.block k (Inf.lt_some hc)
          have e := HI.out
          subst e
          rw [List.take_of_length_le (by rw [Inf.fix_len2]; omega)] at h1
          exact h1
end Go.Proofs.YteajjanjkhhgdaaDoor
