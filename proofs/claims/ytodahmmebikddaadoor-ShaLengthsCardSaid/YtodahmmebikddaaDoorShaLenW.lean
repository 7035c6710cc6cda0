/- The walk of the law ShaLengths: so many equal bytes. -/
import Derived.Test.YtodahmmebikddaaDoorShaRefS
import Derived.Test.YtodahmmebikddaaDoorKitPick
import Derived.Test.YtodahmmebikddaaDoorShaTwoW
namespace Go.Proofs.YtodahmmebikddaaDoor
open Go.RowKit Go

set_option maxRecDepth 100000 in
set_option maxHeartbeats 2000000 in
theorem len_walk (c n : Int) (w : World) (hc : 0 ≤ c ∧ c < 256) (hn : -9223372036854775808 ≤ n ∧ n ≤ 9223372036854775807) (h0w : 0 < w.heap.size) (hG : ∀ j, j < 64 → w.cell? ⟨0, j, none⟩ = some (.int .u32 (Sha.kk j))) :
    Calls Tryd.prog 4 #[.int .u8 c, .int .i64 n] w fun e w' => e = .returned (.bool true) ∧ Below w.heap.size w w' := by
  have HAW := Lib.hid (awake_any w h0w hG)
  have HG := Lib.hid hG; clear hG
  have HPK : Hid (∀ wx, Calls Tryd.prog 13 #[.int .i64 n, .int .i64 201] wx fun e w' => e = .returned (.int .i64 (n % 201)) ∧ w' = wx) := fun wx => pick_any n 201 wx hn.1 hn.2 (by decide) (by decide)
  obtain ⟨k, hk, hk201⟩ : ∃ k : Nat, n % 201 = (k : Int) ∧ k < 201 := ⟨(n % 201).toNat, by omega, by omega⟩
  rw [hk] at HPK
  clear hk hn
  go_enter Tryd.func4, Tryd.ntmps4
  go_wp2_with fail
  refine HAW.out.mono ?_
  rintro e w1 ⟨rfl, hb1⟩
  have HB1 := Lib.hid hb1; clear hb1 HAW
  go_wp2_with fail
  refine (HPK.out _).mono ?_
  rintro e w2 ⟨rfl, rfl⟩
  clear HPK
  go_wp2_with fail
  have h02 : Hid (w2.ownsRow w.heap.size 5 1 (.slice none 0 0) 0 (k8 (List.replicate 0 c))) := ⟨rfl, .inl ⟨rfl, rfl⟩⟩
  go_loopw [6, 7] (fun v6 v7 wr => ∃ (m : Nat) (a : Option Addr) (cp : Nat), m ≤ k ∧ v7 = .int .i64 (m : Int) ∧ v6 = .slice a m cp ∧ wr.ownsRow w.heap.size 5 1 (.slice a m cp) m (k8 (List.replicate m c)) ∧ Below w.heap.size w wr)
    (fun _ v7 _ => (k - intOf v7).toNat)
  case atStart => exact ⟨0, none, 0, by omega, rfl, rfl, h02.out, HB1.out⟩
  case round =>
    clear h02 HB1
    obtain ⟨m, a, cp, hm, rfl, rfl, ho, hb⟩ := hrel
    have HO := Lib.hid ho; clear ho
    have HB := Lib.hid hb; clear hb
    by_cases hlt : m < k
    · go_wp2_with (at_builtin; refine wpList_append_bytes_b rfl (.tmp 17) (.tmp 19) rfl w.heap.size _ _ _ rfl (HO.out.alloc _) _ [c] (fun _ => True) rfl (one_bytes wr c) (by intro n c e; cases e) (by simp; omega) (HB.out.alloc HB.out.size _) (by have := HB.out.size; simp; omega) ?_; intro v4 w4 o4 b4; obtain ⟨a4, c4, rfl⟩ := own_slice o4.out)
      go_roundw
      case rel =>
        refine ⟨m + 1, a4, c4, by omega, by congr 1, rfl, ?_, b4.out⟩
        have := o4.out
        rw [← k8_app, ← List.replicate_succ'] at this
        exact this
      case measure => simp [intOf]; omega
    · have hmk : Hid (m = k) := by show m = k; omega
      have hq : ∀ (K : List Int), K.length = 32 → ∀ wx : World, (Op.equalIn 10000 26 (.agg (k8 K).toArray) (.agg (k8 K).toArray)).run Tryd.prog wx = .ok true wx := fun K hK wx => run_same_bytes wx 9998 26 5 32 (by kernel_rfl) (by kernel_rfl) (fun w => by kernel_rfl) K hK
      have hq1 := hq (Sha.digest (List.replicate m c)) (Sha.digest_length _)
      clear hq
      have HEND : Hid (Calls Tryd.prog 10 #[.slice a m cp] wr fun e w5 => e = .returned (.agg (k8 (Sha.digest (List.replicate m c))).toArray) ∧ Hid (
          Calls Tryd.prog 11 #[.slice a m cp] w5 fun e w6 => e = .returned (.agg (k8 (Sha.digest (List.replicate m c))).toArray) ∧ Hid (Below w.heap.size w w6))) := by
        have hrb : ∀ x ∈ List.replicate m c, 0 ≤ x ∧ x < 256 := fun x hx => by rw [(List.mem_replicate.1 hx).2]; exact hc
        refine (sum_later (w := w) _ _ HB.out hrb _ (own_bytes HO.out) (by simp; omega) h0w HG.out).mono ?_
        rintro e w5 ⟨he, hb5⟩
        refine ⟨he, ?_⟩
        have hna : a = none → cp = 0 := fun e => by
          rcases HO.out.2 with ⟨h, _⟩ | ⟨g, cap', cur, h, _⟩
          · cases h; rfl
          · cases h; cases e
        refine (rsum_any (List.replicate m c) a m cp w5 (by simp) ((later_bytes hb5.out (own_bytes HO.out)).mono (Nat.le_refl _) (fun _ _ _ => trivial) (fun _ _ _ _ => rfl)) hrb hna (by omega)).mono ?_
        rintro e w6 ⟨he6, hb6⟩
        have hb7 : Below w.heap.size w w5 := HB.out.trans (hb5.out.mono HB.out.size)
        exact ⟨he6, hb7.trans (hb6.mono hb7.size)⟩
      go_wp2_with fail
      refine HEND.out.mono ?_
      rintro e w5 ⟨rfl, h5⟩
      go_wp2_with fail
      refine h5.out.mono ?_
      rintro e w6 ⟨rfl, h6⟩
      go_wp2
      go_ret
      exact ⟨rfl, h6.out⟩
end Go.Proofs.YtodahmmebikddaaDoor
