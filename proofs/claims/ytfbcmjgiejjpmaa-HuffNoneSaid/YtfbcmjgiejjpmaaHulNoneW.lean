/- The walk of the law HuffNone. -/
import Derived.Test.YtfbcmjgiejjpmaaHmLenB
namespace Go.Proofs.Ytfbcmjgiejjpmaa
open Go.RowKit Go Go.Sort

set_option maxRecDepth 100000 in
set_option maxHeartbeats 1000000 in
theorem next_nil (r : Value) (w : World) : Calls Try.prog 23 #[.pointer none, r] w fun e w' => e = .returned (.tuple #[.int .i64 0, .bool false]) ∧ w' = w := by
  go_enter Try.func23, Try.ntmps23
  go_wp2_with fail
  refine (dmade_nil _).mono ?_
  rintro e w' ⟨rfl, rfl⟩
  go_wp2
  go_returns
  exact ⟨rfl, rfl⟩
set_option maxRecDepth 100000 in
set_option maxHeartbeats 1000000 in
theorem next_not (D : Nat) (r : Value) (w : World) (h : w.cell? ⟨D, 0, none⟩ = some (.pointer none)) : Calls Try.prog 23 #[.pointer (some ⟨D, 0, none⟩), r] w fun e w' => e = .returned (.tuple #[.int .i64 0, .bool false]) ∧ w' = w := by
  have HX := Lib.hid (dmade_not D w h)
  go_enter Try.func23, Try.ntmps23
  go_wp2_with fail
  refine HX.out.mono ?_
  rintro e w' ⟨rfl, rfl⟩
  go_wp2
  go_returns
  exact ⟨rfl, rfl⟩
set_option maxRecDepth 100000 in
set_option maxHeartbeats 1000000 in
theorem next_nor (D m : Nat) (a : Option Addr) (c : Nat) (w : World) (h : w.cell? ⟨D, 0, none⟩ = some (.pointer (some ⟨D, 0, none⟩))) (h2 : w.cell? ⟨D, 17, none⟩ = some (.slice a m c)) (hm : 0 < m) : Calls Try.prog 23 #[.pointer (some ⟨D, 0, none⟩), .pointer none] w fun e w' => e = .returned (.tuple #[.int .i64 0, .bool false]) ∧ w' = w := by
  have HX := Lib.hid (dmade_yes D w h)
  have hmI : (0 : Int) < (m : Int) := by omega
  go_enter Try.func23, Try.ntmps23
  go_wp2_with fail
  refine HX.out.mono ?_
  rintro e w' ⟨rfl, rfl⟩
  clear HX
  go_wp2_with fail
  go_loopw [6, 7, 8, 9] (fun v6 v7 v8 v9 wr => v8 = .int .i64 0 ∧ wr = w) (fun _ _ _ _ _ => 0)
  case atStart => exact ⟨rfl, rfl⟩
  case round =>
    obtain ⟨rfl, rfl⟩ := hrel
    go_wp2_with fail
    refine (get_nil 1 _).mono ?_
    rintro e w1 ⟨rfl, rfl⟩
    go_wp2
    go_returns
    exact ⟨rfl, rfl⟩
theorem lit2_ints (w : World) (a : Int) : Ints (w.alloc (.cells #[.int .i64 a, .int .i64 a] 3)) (some ⟨w.heap.size, 0, none⟩) 2 2 (fun _ => a) := by
  have e : #[Value.int .i64 a, Value.int .i64 a] = ki 2 (fun _ => a) := rfl
  have := heap_alloc_new w (.cells (ki 2 (fun _ => a)) 3)
  rw [e]
  exact ki_ints this
theorem two_makes : Huf.Makes (fun _ => (1 : Int)) 2 := ⟨⟨by omega, fun _ _ => ⟨show (0 : Int) ≤ 1 by omega, show (1 : Int) ≤ 15 by omega⟩⟩, by decide⟩

/-- what HuffNone holds of -/
structure NnS (w0 w : World) (gd gl g L V G : Nat) : Prop where
  rs : RS w0 w g 0 L V G
  d : w.cell? ⟨gd, 0, none⟩ = some (.pointer none)
  l0 : w.cell? ⟨gl, 0, none⟩ = some (.pointer none)
  l1 : w.cell? ⟨gl, 1, none⟩ = some (.pointer (some ⟨gd, 0, none⟩))

set_option maxRecDepth 100000 in
set_option maxHeartbeats 4000000 in
theorem none_walk (a : Option Addr) (n cap : Nat) (B : List Int) (w : World) (hn : n = B.length) (hB : BytesIn w (.slice a n cap) B (fun _ => True)) (hbd : ∀ x ∈ B, 0 ≤ x ∧ x < 256) (_hna : a = none → cap = 0) (hl : n ≤ 140737488351232) :
    Calls Try.prog 6 #[.slice a n cap] w fun e w' => e = .returned (.bool true) ∧ Below w.heap.size w w' := by
  have HAW := Lib.hid (awake_any w)
  have nI : (n : Int) ≤ 140737488351232 := by omega
  have HB : Hid (n = B.length ∧ BytesIn w (.slice a n cap) B (fun _ => True) ∧ ∀ x ∈ B, 0 ≤ x ∧ x < 256) := ⟨hn, hB, hbd⟩
  clear hn hB hbd hl _hna
  go_enter Try.func6, Try.ntmps6
  go_wp2_with fail
  refine HAW.out.mono ?_
  rintro e w1 ⟨rfl, hb1⟩
  have HB1 := Lib.hid hb1
  clear hb1 HAW
  by_cases h300 : 300 < n
  · have hd : decide (300 < n) = true := decide_eq_true h300
    go_wp2
    go_returns
    exact ⟨rfl, HB1.out⟩
  · have hd : decide (300 < n) = false := decide_eq_false h300
    have H3 : Hid (n ≤ 300) := by show _ ≤ _; omega
    go_wp2_with (first | (refine wpList_build_to rfl 49 _ rfl dec0 (by kernel_rfl) ?_))
    have HW2 : Hid (Below w.heap.size w ((w1.alloc (.cells dec0 49)).alloc (.cells #[.pointer none, .pointer (some ⟨w1.heap.size, 0, none⟩)] 29))) := (HB1.out.alloc HB1.out.size _).alloc (by have := HB1.out.size; simp; omega) _
    have hd0 : ((w1.alloc (.cells dec0 49)).alloc (.cells #[.pointer none, .pointer (some ⟨w1.heap.size, 0, none⟩)] 29)).heap[w1.heap.size]? = some (.cells dec0 49 (0, 0)) := by
      rw [heap_alloc_old _ _ (by simp)]; exact heap_alloc_new _ _
    have hl0 : ((w1.alloc (.cells dec0 49)).alloc (.cells #[.pointer none, .pointer (some ⟨w1.heap.size, 0, none⟩)] 29)).heap[w1.heap.size + 1]? = some (.cells #[.pointer none, .pointer (some ⟨w1.heap.size, 0, none⟩)] 29 (0, 0)) := heap_alloc2_new _ _ _
    have HD0 := Lib.hid hd0
    have HL0 := Lib.hid hl0
    clear hd0 hl0
    generalize (w1.alloc (.cells dec0 49)).alloc (.cells #[.pointer none, .pointer (some ⟨w1.heap.size, 0, none⟩)] 29) = w2 at *
    generalize w1.heap.size = gd at *
    have HRN := rnew_any B a n cap w2 HB.out.1 (HB.out.2.1.mono HW2.out.size (fun _ _ h => h) (fun s o hs _ => HW2.out.cell (by exact hs))) HB.out.2.2 (by have := H3.out; omega)
    refine HRN.mono ?_
    rintro e w3 ⟨rfl, hrd, hb3⟩
    have HS0 : Hid (NnS w w3 gd (gd + 1) (w2.heap.size + 1) n (Bit.val B) w2.heap.size) := by
      refine ⟨⟨HW2.out.trans (hb3.mono HW2.out.size), Nat.le_succ_of_le HW2.out.size, hrd⟩, ?_, ?_, ?_⟩
      · rw [hb3.cell (by exact lt_of_block HD0.out), cell_of_row _ _ _ _ _ _ HD0.out]; rfl
      · rw [hb3.cell (by exact lt_of_block HL0.out), cell_of_row _ _ _ _ _ _ HL0.out]; rfl
      · rw [hb3.cell (by exact lt_of_block HL0.out), cell_of_row _ _ _ _ _ _ HL0.out]; rfl
    clear hrd hb3 HRN HW2 HB HB1 HD0 HL0
    generalize w2.heap.size = G at *
    go_wp2_with fail
    go_loopw [5] (fun v5 wr => ∃ i : Nat, i ≤ 2 ∧ v5 = .int .i64 (i : Int) ∧ NnS w wr gd (gd + 1) (G + 1) n (Bit.val B) G) (fun v5 _ => (2 - intOf v5).toNat)
    case atStart => exact ⟨0, by omega, rfl, HS0.out⟩
    case round =>
      clear HS0
      obtain ⟨i, hi, rfl, hs⟩ := hrel
      have HS := Lib.hid hs; clear hs
      by_cases hlt : i < 2
      · have hdi : decide (i < 2) = true := decide_eq_true hlt
        have c0 := HS.out.l0
        have c1 := HS.out.l1
        have HN1 : Hid (∀ r, Calls Try.prog 23 #[.pointer (some ⟨gd, 0, none⟩), r] wr fun e w' => e = .returned (.tuple #[.int .i64 0, .bool false]) ∧ w' = wr) := fun r => next_not gd r wr HS.out.d
        have HAT := HS.out.rs.place
        obtain rfl | rfl : i = 0 ∨ i = 1 := by omega
        · go_wp2_with fail
          refine (next_nil _ _).mono ?_
          rintro e w5 ⟨rfl, rfl⟩
          go_wp2_with fail
          refine (at_any _ _ _ _ _ _ HS.out.rs.rd).mono ?_
          rintro e w6 ⟨rfl, rfl⟩
          go_wp2
          exact ⟨⟨1, by omega, rfl, HS.out⟩, by simp [intOf]⟩
        · go_wp2_with fail
          refine (HN1.out _).mono ?_
          rintro e w5 ⟨rfl, rfl⟩
          go_wp2_with fail
          refine (at_any _ _ _ _ _ _ HS.out.rs.rd).mono ?_
          rintro e w6 ⟨rfl, rfl⟩
          go_wp2
          exact ⟨⟨2, by omega, rfl, HS.out⟩, by simp [intOf]⟩
      · obtain rfl : i = 2 := by omega
        have HBW := Lib.hid HS.out.rs.bel
        have HNW : Hid (Calls Try.prog 16 #[.slice (some ⟨wr.heap.size, 0, none⟩) 2 2] (wr.alloc (.cells #[.int .i64 1, .int .i64 1] 3)) fun e w' => Below w.heap.size w w' ∧ ∃ D v, e = .returned (.pointer (some ⟨D, 0, none⟩)) ∧ w'.cell? ⟨D, 0, none⟩ = some (.pointer (some ⟨D, 0, none⟩)) ∧ ∃ a m c, v = Value.slice a m c ∧ 0 < m ∧ w'.cell? ⟨D, 17, none⟩ = some v) :=
          (new_any _ 2 2 _ _ (lit2_ints wr 1) (by omega)).mono fun e w' ⟨hb, hr⟩ => by
            rcases hr with ⟨_, D, hns, h3⟩ | ⟨h, _⟩
            · obtain ⟨v, q1, q2⟩ := hns.dec
              obtain ⟨a, c, rfl⟩ := own_form q2
              exact ⟨(HBW.out.alloc HBW.out.size _).trans (hb.mono (by have := HBW.out.size; simp; omega)), D, _, h3, q1.c0, a, _, c, rfl, by decide, q1.c17⟩
            · exact absurd two_makes h
        clear HS
        go_wp2_with fail
        refine HNW.out.mono ?_
        rintro e w5 ⟨hb5, D, v, rfl, c0, aa, m, c, rfl, hm, c17⟩
        have HB5 := Lib.hid hb5
        have HNR := Lib.hid (next_nor D m aa c w5 c0 c17 hm)
        clear hb5 c0 c17 hm HNW
        go_wp2_with fail
        refine HNR.out.mono ?_
        rintro e w6 ⟨rfl, rfl⟩
        go_wp2
        go_returns
        exact ⟨rfl, HB5.out⟩
end Go.Proofs.Ytfbcmjgiejjpmaa
