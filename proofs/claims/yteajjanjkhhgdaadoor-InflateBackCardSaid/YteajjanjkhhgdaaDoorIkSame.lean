/- The walk of the laws' SameBytes, of equal bytes. -/
import Derived.Test.YteajjanjkhhgdaaDoorHmBase
import Derived.BigQuiet
import Derived.BigRegion
import Derived.RegionTactic
import Derived.Deep.QuietTactic
import Derived.Lib.Hide
namespace Go.Proofs.YteajjanjkhhgdaaDoor
open Go.RowKit Go

set_option maxRecDepth 100000 in
set_option maxHeartbeats 1000000 in
theorem same_any (B : List Int) (a : Option Addr) (n cap : Nat) (a2 : Option Addr) (c2 : Nat) (w : World) (hn : n = B.length) (hl : n ≤ 1000000) (h1 : BytesIn w (.slice a n cap) B (fun _ => True)) (h2 : BytesIn w (.slice a2 n c2) B (fun _ => True)) :
    Calls Tryd.prog 14 #[.slice a n cap, .slice a2 n c2] w fun e w' => e = .returned (.bool true) ∧ Drawn w w' := by
  have H1 := Lib.hid h1; clear h1
  have H2 := Lib.hid h2; clear h2
  have HN := Lib.hid hn; clear hn
  have HL := Lib.hid hl; clear hl
  go_enter Tryd.func14, Tryd.ntmps14
  go_wp2_with fail
  go_loopw [5] (fun v5 wr => ∃ i : Nat, i ≤ n ∧ v5 = .int .i64 (i : Int) ∧ Drawn w wr) (fun v5 _ => (n - intOf v5).toNat)
  case atStart => exact ⟨0, by omega, rfl, Drawn.refl _⟩
  case round =>
    obtain ⟨i, hi, rfl, hd⟩ := hrel
    have HD := Lib.hid hd; clear hd
    by_cases hlt : i < n
    · obtain ⟨s, o, rfl, k1⟩ : ∃ s o, a = some ⟨s, o, none⟩ ∧ w.cell? ⟨s, o + i, none⟩ = some (.int .u8 (B.getD i 0)) := by
        obtain ⟨a', cap', e, _, _, hc⟩ := H1.out
        injection e with e1 _ _
        obtain ⟨s, o, e2, _, _, hc⟩ := hc (by have := HN.out; omega)
        exact ⟨s, o, e1.trans e2, hc i (by have := HN.out; omega)⟩
      obtain ⟨s', o', rfl, k2⟩ : ∃ s o, a2 = some ⟨s, o, none⟩ ∧ w.cell? ⟨s, o + i, none⟩ = some (.int .u8 (B.getD i 0)) := by
        obtain ⟨a', cap', e, _, _, hc⟩ := H2.out
        injection e with e1 _ _
        obtain ⟨s, o, e2, _, _, hc⟩ := hc (by have := HN.out; omega)
        exact ⟨s, o, e1.trans e2, hc i (by have := HN.out; omega)⟩
      rw [← HD.out.cell] at k1 k2
      generalize B.getD i 0 = x at *
      have hi0 : (0 : Int) ≤ (i : Int) := by omega
      have hiI : (i : Int) < (n : Int) := by omega
      have hdn : decide (i < n) = true := decide_eq_true hlt
      have hnI : (n : Int) ≤ 1000000 := by have := HL.out; omega
      go_wp2_with fail
      go_quiet (fail)
      go_wp2
      exact ⟨⟨i + 1, by omega, by go_num, HD.out.drewN _⟩, by simp [intOf]; omega⟩
    · obtain rfl : i = n := by omega
      have hdn : decide (i < i) = false := decide_eq_false (by omega)
      go_wp2
      go_ret
      exact ⟨rfl, HD.out⟩
end Go.Proofs.YteajjanjkhhgdaaDoor
