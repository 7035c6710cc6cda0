/- The walk of InflateAlike. -/
import Derived.Test.YthnpgnnnijpofaaDoorInfAwake
import Derived.Test.YthnpgnnnijpofaaDoorIkSame
import Derived.Test.YthnpgnnnijpofaaDoorIkCopy
import Derived.Test.YthnpgnnnijpofaaDoorIkRoomApB
namespace Go.Proofs.YthnpgnnnijpofaaDoor
open Go.RowKit Go

theorem own_past {w w' : World} {base n : Nat} {e : TypeId} {size : Nat} {v : Value} {xs : List Value} (h : w.ownsRow base e size v n xs) (hb : Below w.heap.size w w') : w'.ownsRow base e size v n xs :=
  Inf.own_other h fun k hk => by obtain ⟨_, _, hc⟩ := Inf.own_type h hk; exact hb.block k (Inf.lt_some hc)
theorem three_apart (base s1 s2 : Nat) (wx : World) (v1 v2 v3 : Value) (t1 t2 t3 : List Int) (o1 : wx.ownsRow base 5 1 v1 t1.length (k8 t1)) (o2 : wx.ownsRow base 5 1 v2 t2.length (k8 t2)) (o3 : wx.ownsRow base 5 1 v3 t3.length (k8 t3))
    (l1 : ∀ b, v1.ownBlock = some b → b < s1) (l2 : ∀ b, v2.ownBlock = some b → s1 ≤ b ∧ b < s2) (l3 : ∀ b, v3.ownBlock = some b → s2 ≤ b) (h12 : s1 ≤ s2) (hbase : base ≤ wx.heap.size) (b1 : t1.length ≤ 1000000) (b2 : t2.length ≤ 1000000) (b3 : t3.length ≤ 1000000) :
    Calls Tryd.prog 24 #[.slice (some ⟨wx.heap.size, 0, none⟩) 3 3] (wx.alloc (.cells #[v1, v2, v3] 22)) fun e w' => e = .returned (.bool true) ∧ Below base wx w' := by
  have key : Rl 22 5 1 (wx.alloc (.cells #[v1, v2, v3] 22)) (wx.alloc (.cells #[v1, v2, v3] 22)) base wx.heap.size 3 (fun k => if k = 0 then v1 else if k = 1 then v2 else v3) (fun k => if k = 0 then t1.length else if k = 1 then t2.length else t3.length) (fun k => k8 (if k = 0 then t1 else if k = 1 then t2 else t3)) := by
    refine ⟨Onl.refl _ _, by simp; omega, ⟨_, heap_alloc_new _ _, fun k hk => ?_⟩, fun k hk => ?_, fun j k hj hk hjk b hb hb' => ?_, fun k hk => ?_, by decide, fun k hk b hb => ?_⟩
    · obtain rfl | rfl | rfl : k = 0 ∨ k = 1 ∨ k = 2 := by omega
      all_goals rfl
    · obtain rfl | rfl | rfl : k = 0 ∨ k = 1 ∨ k = 2 := by omega
      · exact o1.alloc _
      · exact o2.alloc _
      · exact o3.alloc _
    · obtain rfl | rfl | rfl : j = 0 ∨ j = 1 ∨ j = 2 := by omega
      all_goals obtain rfl | rfl | rfl : k = 0 ∨ k = 1 ∨ k = 2 := by omega
      · exact absurd rfl hjk
      · have := l1 b hb; have := l2 b hb'; omega
      · have := l1 b hb; have := l3 b hb'; omega
      · have := l2 b hb; have := l1 b hb'; omega
      · exact absurd rfl hjk
      · have := l2 b hb; have := l3 b hb'; omega
      · have := l3 b hb; have := l1 b hb'; omega
      · have := l3 b hb; have := l2 b hb'; omega
      · exact absurd rfl hjk
    · obtain rfl | rfl | rfl : k = 0 ∨ k = 1 ∨ k = 2 := by omega
      · exact b1
      · exact b2
      · exact b3
    · have hsz : (wx.alloc (.cells #[v1, v2, v3] 22)).heap.size = wx.heap.size + 1 := by simp
      rw [hsz]
      obtain rfl | rfl | rfl : k = 0 ∨ k = 1 ∨ k = 2 := by omega
      · have := (o1.lt b hb).2; omega
      · have := (o2.lt b hb).2; omega
      · have := (o3.lt b hb).2; omega
  refine (apart_any _ base wx.heap.size 3 3 _ _ _ (by omega) key).mono ?_
  rintro e w' ⟨rfl, ho⟩
  refine ⟨rfl, ((Below.refl _ _).alloc (by omega) _).trans (ho.below (by simp; omega) (fun b hb => ?_))⟩
  obtain ⟨k, hk, hb⟩ := hb
  obtain rfl | rfl | rfl : k = 0 ∨ k = 1 ∨ k = 2 := by omega
  · exact (o1.lt b hb).1
  · exact (o2.lt b hb).1
  · exact (o3.lt b hb).1
/-- Inflate answers alike in each world -/
def Alk (B : List Int) (a : Option Addr) (n cap M : Nat) (T : List Int) (qi ki : Int) : Prop :=
  T.length ≤ M ∧ ∀ wx : World, Tabs wx → BytesIn wx (.slice a n cap) B (fun _ => True) → Calls Tryd.prog 10 #[.slice a n cap, .int .i64 (M : Int)] wx fun e w' => Below wx.heap.size wx w' ∧ ∃ at_ c, e = .returned (.tuple #[.slice at_ T.length c, .int .i64 qi, .int .i64 ki]) ∧ w'.ownsRow (wx.heap.size + 1) 5 1 (.slice at_ T.length c) T.length (k8 T)
theorem alk_any (B : List Int) (a : Option Addr) (n cap M : Nat) (hn : n = B.length) (hb : ∀ x ∈ B, 0 ≤ x ∧ x < 256) (hl : n ≤ 1000000) (hM : M ≤ 65536) : ∃ T qi ki, Alk B a n cap M T qi ki := by
  cases h : Inf.inflate (Bit.val B) (8 * n) M with
  | err k =>
    refine ⟨[], 0, k, Nat.zero_le _, fun wx hT hB => (inflate_any ownC B a n cap M wx hn hB hb hl hM hT).mono fun e w' hx => ?_⟩
    obtain ⟨h1, h2, -⟩ := Inf.eq_err hx h
    exact ⟨h1, none, 0, h2, World.ownsRow_nil _ _ _ _⟩
  | ok q T =>
    by_cases hT : T.length ≤ M
    · refine ⟨T, (((q + 7) / 8 : Nat) : Int), 0, hT, fun wx hTb hB => (inflate_any ownC B a n cap M wx hn hB hb hl hM hTb).mono fun e w' hx => ?_⟩
      obtain ⟨h1, at_, c, h2, h3, h4⟩ := Inf.eq_ok hx h
      exact ⟨h1, at_, c, h2, h4⟩
    · refine ⟨[], 0, 0, Nat.zero_le _, fun wx hTb hB => (inflate_any ownC B a n cap M wx hn hB hb hl hM hTb).mono fun e w' hx => ?_⟩
      obtain ⟨h1, at_, c, h2, h3, h4⟩ := Inf.eq_ok hx h
      exact absurd h3 hT
theorem own_in {w : World} {base : Nat} {v : Value} {T : List Int} (h : w.ownsRow base 5 1 v T.length (k8 T)) : BytesIn w v T (fun _ => True) :=
  (own_bytes h).mono (Nat.le_refl _) (fun _ _ _ => trivial) (fun _ _ _ _ => rfl)

set_option maxRecDepth 100000 in
set_option maxHeartbeats 4000000 in
theorem alike_walk (a : Option Addr) (n cap : Nat) (B : List Int) (w : World) (hT : Tabs w) (hn : n = B.length) (hB : BytesIn w (.slice a n cap) B (fun _ => True)) (hb : ∀ x ∈ B, 0 ≤ x ∧ x < 256) (hna : a = none → cap = 0) (_hl : n ≤ 140737488351232) :
    Calls Tryd.prog 7 #[.slice a n cap] w fun e w' => e = .returned (.bool true) ∧ Below w.heap.size w w' := by
  have HAW := Lib.hid (awake_any w hT)
  have HT := Lib.hid hT
  have HN := Lib.hid hn
  have HB := Lib.hid hB
  have HNA := Lib.hid hna
  by_cases hl : 1500 < n
  · have d1 : decide (1500 < (n : Int)) = true := decide_eq_true (by omega)
    clear hT hn hB hb hna hl _hl
    go_enter Tryd.func7, Tryd.ntmps7
    go_wp2_with fail
    refine HAW.out.mono ?_
    rintro e w1 ⟨rfl, h1⟩
    have K := Lib.hid h1
    clear h1 HAW
    go_wp2
    go_ret
    exact ⟨rfl, K.out⟩
  · have d1 : decide (1500 < (n : Int)) = false := decide_eq_false (by omega)
    obtain ⟨T, qi, ki, hak⟩ := alk_any B a n cap 5000 hn hb (by omega) (by omega)
    have HLEN := Lib.hid hak.1
    have HAK := Lib.hid hak.2
    have HNL : Hid (n ≤ 1500) := by unfold Hid; omega
    clear hT hn hB hb hna hl hak _hl
    go_enter Tryd.func7, Tryd.ntmps7
    go_wp2_with fail
    refine HAW.out.mono ?_
    rintro e w1 ⟨rfl, h1⟩
    have B1 := Lib.hid h1
    have HI1 := Lib.hid (HAK.out w1 (HT.out.later h1 (Nat.le_refl _)) (later_bytes h1 HB.out))
    clear h1 HAW
    go_wp2_with fail
    refine HI1.out.mono ?_
    rintro e w2 ⟨h1, a2, c2, rfl, h2⟩
    have B2 : Hid (Below w.heap.size w w2) := B1.out.trans (h1.mono B1.out.size)
    have O1 := Lib.hid h2
    have HI2 := Lib.hid (HAK.out w2 (HT.out.later B2.out (Nat.le_refl _)) (later_bytes B2.out HB.out))
    have Z1 := Lib.hid B1.out.size
    clear h1 h2 HI1 B1
    go_wp2_with fail
    refine HI2.out.mono ?_
    rintro e w3 ⟨h1, a3, c3, rfl, h2⟩
    have B3 : Hid (Below w.heap.size w w3) := B2.out.trans (h1.mono B2.out.size)
    have O2 := Lib.hid h2
    have O1' := Lib.hid (own_past O1.out h1)
    have L1 := Lib.hid (fun b hb => (O1.out.lt b hb))
    have Z2 := Lib.hid h1.size
    have HSM := Lib.hid (same_any T a2 T.length c2 a3 c3 w3 rfl (by have := HLEN.out; omega) (own_in O1'.out) (own_in O2.out))
    clear h1 h2 HI2 O1 HAK
    go_wp2_with fail
    refine HSM.out.mono ?_
    rintro e w4 ⟨rfl, h1⟩
    have B4 : Hid (Below w.heap.size w w4) := B3.out.trans (h1.below _)
    have O1 := Lib.hid (own_past O1'.out (h1.below _))
    have O2' := Lib.hid (own_past O2.out (h1.below _))
    have L2 := Lib.hid (fun b hb => (O2.out.lt b hb))
    have Z3 : Hid (w3.heap.size = w4.heap.size) := by unfold Hid; rw [h1.heap]
    have HCP := Lib.hid (copy_any B a n cap w4 HN.out (later_bytes B4.out HB.out) HNA.out (by have := HNL.out; omega))
    clear h1 HSM O1' O2 B3
    go_wp2_with fail
    refine HCP.out.mono ?_
    rintro e w5 ⟨v3, rfl, h1, h2⟩
    obtain ⟨a5, c5, rfl⟩ := own_slice h1
    have B5 : Hid (Below w.heap.size w w5) := B4.out.trans (h2.mono B4.out.size)
    have O1' := Lib.hid (own_past O1.out h2)
    have O2 := Lib.hid (own_past O2'.out h2)
    have O3 := Lib.hid h1
    have Z4 := Lib.hid B4.out.size
    have hap := three_apart w.heap.size w2.heap.size w3.heap.size w5 _ _ _ T T B (own_base O1'.out (by have := Z1.out; omega)) (own_base O2.out (by have := Z1.out; have := B2.out.size; omega)) (own_base h1 Z4.out)
      (fun b hb => (L1.out b hb).2) (fun b hb => ⟨by have := (L2.out b hb).1; omega, (L2.out b hb).2⟩) (fun b hb => by have := (h1.lt b hb).1; have := Z3.out; omega) Z2.out B5.out.size (by have := HLEN.out; omega) (by have := HLEN.out; omega) (by have := HNL.out; have := HN.out; omega)
    have HAP := Lib.hid hap
    clear h1 h2 HCP O1 O2' hap
    go_wp2_with fail
    refine HAP.out.mono ?_
    rintro e w6 ⟨rfl, h1⟩
    have B6 : Hid (Below w.heap.size w w6) := B5.out.trans h1
    clear h1 HAP
    go_wp2
    go_ret
    exact ⟨rfl, B6.out⟩
end Go.Proofs.YthnpgnnnijpofaaDoor
