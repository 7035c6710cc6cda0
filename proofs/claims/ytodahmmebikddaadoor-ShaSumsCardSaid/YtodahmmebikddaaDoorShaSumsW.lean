/- The walk of the law ShaSums: any bytes have the document's digest, and stay. -/
import Derived.Test.YtodahmmebikddaaDoorKitLent
import Derived.Test.YtodahmmebikddaaDoorShaRefS
import Derived.Test.YtodahmmebikddaaDoorShaTwoW
namespace Go.Proofs.YtodahmmebikddaaDoor
open Go.RowKit Go

set_option maxRecDepth 100000 in
set_option maxHeartbeats 2000000 in
theorem sums_walk (a : Option Addr) (n cap : Nat) (B : List Int) (w : World) (h0w : 0 < w.heap.size) (hG : ∀ j, j < 64 → w.cell? ⟨0, j, none⟩ = some (.int .u32 (Sha.kk j)))
    (hn : n = B.length) (hB : BytesIn w (.slice a n cap) B (fun _ => True)) (hBb : ∀ x ∈ B, 0 ≤ x ∧ x < 256) (hna : a = none → cap = 0) (hm : n ≤ 140737488351232) :
    Calls Tryd.prog 3 #[.slice a n cap] w fun e w' => e = .returned (.bool true) ∧ Below w.heap.size w w' := by
  have HAW := Lib.hid (awake_any w h0w hG)
  by_cases hn3 : n ≤ 3000
  · have hn3' : (n : Int) ≤ 3000 := by omega
    have HEND : Hid (∀ w1, Below w.heap.size w w1 → Calls Tryd.prog 9 #[.slice a n cap] w1 fun e w2 => ∃ v, e = .returned v ∧ Hid (
        Calls Tryd.prog 10 #[v] w2 fun e w3 => e = .returned (.agg (k8 (Sha.digest B)).toArray) ∧ Hid (
          Calls Tryd.prog 11 #[.slice a n cap] w3 fun e w4 => e = .returned (.agg (k8 (Sha.digest B)).toArray) ∧ Hid (
            Calls Tryd.prog 12 #[v, .slice a n cap] w4 fun e w5 => e = .returned (.bool true) ∧ Hid (Below w.heap.size w w5))))) := by
      intro w1 hb1
      refine (lent_any B a n cap w1 hn (later_bytes hb1 hB) hna (by omega)).mono ?_
      rintro e w2 ⟨v, g, he, hv, hg, hb2⟩
      refine ⟨v, he, ?_⟩
      have c2 : Below w.heap.size w w2 := hb1.trans (hb2.mono hb1.size)
      refine (sum_later (w := w) B v c2 hBb _ hv.bytes (by omega) h0w hG).mono ?_
      rintro e w3 ⟨he3, hb3⟩
      refine ⟨he3, ?_⟩
      have c3 : Below w.heap.size w w3 := c2.trans (hb3.out.mono c2.size)
      have hgw : g < w2.heap.size := by obtain ⟨_, _, _, _, _, h, _⟩ := hv.blk; exact lt_of_block h
      have v3 := hv.keep (hb3.out.block g hgw)
      refine (rsum_any B a n cap w3 hn (later_bytes c3 hB) hBb hna (by omega)).mono ?_
      rintro e w4 ⟨he4, hb4⟩
      refine ⟨he4, ?_⟩
      have c4 : Below w.heap.size w w4 := c3.trans (hb4.mono c3.size)
      have v4 := v3.keep (hb4.block g (Nat.lt_of_lt_of_le hgw hb3.out.size))
      refine (kept_any B g v a n cap w4 hn (later_bytes c4 hB) (by omega) v4).mono ?_
      rintro e w5 ⟨he5, hd5⟩
      exact ⟨he5, c4.trans (hd5.below _)⟩
    have hq1 : ∀ wx : World, (Op.equalIn 10000 26 (.agg (k8 (Sha.digest B)).toArray) (.agg (k8 (Sha.digest B)).toArray)).run Tryd.prog wx = .ok true wx := fun wx => run_same_bytes wx 9998 26 5 32 (by kernel_rfl) (by kernel_rfl) (fun w => by kernel_rfl) _ (Sha.digest_length _)
    clear hB hBb hna hG hn
    go_enter Tryd.func3, Tryd.ntmps3
    go_wp2_with fail
    refine HAW.out.mono ?_
    rintro e w1 ⟨rfl, hb1⟩
    have HB1 := Lib.hid hb1; clear hb1 HAW
    go_wp2_with fail
    refine (HEND.out _ HB1.out).mono ?_
    rintro e w2 ⟨v, rfl, k2⟩
    clear HEND HB1
    go_wp2_with fail
    refine k2.out.mono ?_
    rintro e w3 ⟨rfl, k3⟩
    go_wp2_with fail
    refine k3.out.mono ?_
    rintro e w4 ⟨rfl, k4⟩
    go_wp2_with fail
    refine k4.out.mono ?_
    rintro e w5 ⟨rfl, k5⟩
    go_wp2
    go_ret
    exact ⟨rfl, k5.out⟩
  · have hn' : 3000 < n := by omega
    go_enter Tryd.func3, Tryd.ntmps3
    go_wp2_with fail
    refine HAW.out.mono ?_
    rintro e w1 ⟨rfl, hb1⟩
    have HB1 := Lib.hid hb1; clear hb1 HAW
    go_wp2
    go_ret
    exact ⟨rfl, HB1.out⟩
end Go.Proofs.YtodahmmebikddaaDoor
