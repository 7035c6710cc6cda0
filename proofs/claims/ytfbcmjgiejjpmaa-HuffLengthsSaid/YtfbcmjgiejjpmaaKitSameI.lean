/- The walk of the laws' SameInts, of equal numbers; numbers as lists. -/
import Derived.Test.YtfbcmjgiejjpmaaKitLentI
import Derived.BigQuiet
import Derived.BigRegion
import Derived.RegionTactic
import Derived.Deep.QuietTactic
import Derived.Lib.Hide
namespace Go.Proofs.Ytfbcmjgiejjpmaa
open Go.RowKit Go

/-- numbers as a list -/
def lst (L : Nat → Int) (n : Nat) : List Int := (List.range n).map L
theorem lst_length (L : Nat → Int) (n : Nat) : (lst L n).length = n := by simp [lst]
theorem lst_get (L : Nat → Int) (n i : Nat) (h : i < n) : (lst L n).getD i 0 = L i := by
  rw [List.getD_eq_getElem?_getD, lst, List.getElem?_map, List.getElem?_range h]; rfl
theorem Ints.list {w : World} {a : Option Addr} {n cap : Nat} {L : Nat → Int} (h : Ints w a n cap L) (hc : cap ≤ 9223372036854775807) : IntsL w (.slice a n cap) (lst L n) (fun _ => True) := by
  refine ⟨a, cap, by rw [lst_length], by rw [lst_length]; exact h.le, hc, fun hp => ?_⟩
  rw [lst_length] at hp
  obtain ⟨s, o, e, h1, h2⟩ := h.ad hp
  exact ⟨s, o, e, trivial, h1, fun j hj => by rw [lst_length] at hj; rw [lst_get _ _ _ hj]; exact h2 j hj⟩
theorem IntsL.ints {w : World} {v : Value} {n : Nat} {L : Nat → Int} {ok : Nat → Prop} (h : IntsL w v (lst L n) ok) : ∃ a cap, v = .slice a n cap ∧ Ints w a n cap L := by
  obtain ⟨a, cap, e, h1, h2, h3⟩ := h
  rw [lst_length] at *
  refine ⟨a, cap, e, h1, fun hn => ?_⟩
  obtain ⟨s, o, e, _, h4, h5⟩ := h3 hn
  exact ⟨s, o, e, h4, fun j hj => by rw [h5 j hj, lst_get _ _ _ hj]⟩
theorem LentI.lt {w : World} {v : Value} {B : List Int} {M : Nat → Int} {g : Nat} (h : LentI w v B M g) : g < w.heap.size := by
  obtain ⟨_, _, _, _, _, h, _⟩ := h.blk; exact lt_of_block h
theorem LentI.below {w w' : World} {v : Value} {B : List Int} {M : Nat → Int} {g : Nat} (h : LentI w v B M g) (hb : Below w.heap.size w w') : LentI w' v B M g := h.keep (hb.block g h.lt)

set_option maxRecDepth 100000 in
set_option maxHeartbeats 1000000 in
theorem sameI_any (L : Nat → Int) (a : Option Addr) (n cap : Nat) (a2 : Option Addr) (c2 : Nat) (w : World) (hl : n ≤ 1000000) (h1 : Ints w a n cap L) (h2 : Ints w a2 n c2 L) :
    Calls Try.prog 14 #[.slice a n cap, .slice a2 n c2] w fun e w' => e = .returned (.bool true) ∧ Drawn w w' := by
  have H1 := Lib.hid h1; clear h1
  have H2 := Lib.hid h2; clear h2
  have HL := Lib.hid hl; clear hl
  go_enter Try.func14, Try.ntmps14
  go_wp2_with fail
  go_loopw [5] (fun v5 wr => ∃ i : Nat, i ≤ n ∧ v5 = .int .i64 (i : Int) ∧ Drawn w wr) (fun v5 _ => (n - intOf v5).toNat)
  case atStart => exact ⟨0, by omega, rfl, Drawn.refl _⟩
  case round =>
    obtain ⟨i, hi, rfl, hd⟩ := hrel
    have HD := Lib.hid hd; clear hd
    by_cases hlt : i < n
    · obtain ⟨s, o, rfl, _, k1⟩ := H1.out.at_ hlt
      obtain ⟨s', o', rfl, _, k2⟩ := H2.out.at_ hlt
      rw [← HD.out.cell] at k1 k2
      generalize L i = x at *
      have hi0 : (0 : Int) ≤ (i : Int) := by omega
      have hiI : (i : Int) < (n : Int) := by omega
      have hdn : decide (i < n) = true := decide_eq_true hlt
      have hnI : (n : Int) ≤ 1000000 := by have := HL.out; omega
      go_wp2_with fail
      go_quiet (fail)
      go_wp2
      exact ⟨⟨i + 1, by omega, by go_num, HD.out.drewN _⟩, by simp [intOf]; omega⟩
    · obtain rfl : i = n := by omega
      have hdn : decide (i < i) = false := decide_eq_false (by omega)
      go_wp2
      go_returns
      exact ⟨rfl, HD.out⟩
end Go.Proofs.Ytfbcmjgiejjpmaa
