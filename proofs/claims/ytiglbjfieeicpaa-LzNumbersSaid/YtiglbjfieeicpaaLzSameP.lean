/- The walks of the kit's SamePieces, of equal pieces, and CopyPieces. -/
import Derived.Test.YtiglbjfieeicpaaLzSmall
import Derived.BigQuiet
import Derived.BigRegion
import Derived.RegionTactic
import Derived.Deep.QuietTactic
import Derived.Lib.Hide
import Derived.Test.YtiglbjfieeicpaaKitMake
namespace Go.Proofs.Ytiglbjfieeicpaa
open Go.RowKit Go
open Lz (Pc)

theorem PcsIn.at {w : World} {a : Option Addr} {n cap : Nat} {l : List Pc} {ok : Nat → Prop} (h : PcsIn w (.slice a n cap) l ok) {j : Nat} {p : Pc} (hj : l[j]? = some p) :
    ∃ s o, a = some ⟨s, o, none⟩ ∧ s < w.heap.size ∧ w.cell? ⟨s, o + j * 3, none⟩ = some (.int .u8 p.c) ∧ w.cell? ⟨s, o + j * 3 + 1, none⟩ = some (.int .i64 p.n) ∧ w.cell? ⟨s, o + j * 3 + 2, none⟩ = some (.int .i64 p.d) := by
  obtain ⟨a', cap', e, -, -, hc⟩ := h
  injection e with e1 _ _
  obtain ⟨s, o, e2, -, hs, hc⟩ := hc (by have := (List.getElem?_eq_some_iff.1 hj).1; omega)
  exact ⟨s, o, e1.trans e2, hs, hc j p hj⟩
set_option maxRecDepth 100000 in
set_option maxHeartbeats 2000000 in
theorem samep_any (B : List Pc) (a : Option Addr) (n cap : Nat) (a2 : Option Addr) (c2 : Nat) (w : World) (hn : n = B.length) (hl : n ≤ 1000000) (h1 : PcsIn w (.slice a n cap) B (fun _ => True)) (h2 : PcsIn w (.slice a2 n c2) B (fun _ => True)) :
    Calls Try.prog 21 #[.slice a n cap, .slice a2 n c2] w fun e w' => e = .returned (.bool true) ∧ Drawn w w' := by
  have H1 := Lib.hid h1; clear h1
  have H2 := Lib.hid h2; clear h2
  have HN := Lib.hid hn; clear hn
  have HL := Lib.hid hl; clear hl
  go_enter Try.func21, Try.ntmps21
  go_wp2_with fail
  go_loopw [5] (fun v5 wr => ∃ i : Nat, i ≤ n ∧ v5 = .int .i64 (i : Int) ∧ Drawn w wr) (fun v5 _ => (n - intOf v5).toNat)
  case atStart => exact ⟨0, by omega, rfl, Drawn.refl _⟩
  case round =>
    obtain ⟨i, hi, rfl, hd⟩ := hrel
    have HD := Lib.hid hd; clear hd
    by_cases hlt : i < n
    · obtain ⟨p, hp⟩ : ∃ p, B[i]? = some p := ⟨_, List.getElem?_eq_getElem (by have := HN.out; omega)⟩
      obtain ⟨s, o, rfl, -, c0, c1, c2⟩ := H1.out.at hp
      obtain ⟨s', o', rfl, -, d0, d1, d2⟩ := H2.out.at hp
      rw [← HD.out.cell] at c0 c1 c2 d0 d1 d2
      obtain ⟨c, N, d⟩ := p
      have hi0 : (0 : Int) ≤ (i : Int) := by omega
      have hiI : (i : Int) < (n : Int) := by omega
      have hdn : decide (i < n) = true := decide_eq_true hlt
      have hnI : (n : Int) ≤ 1000000 := by have := HL.out; omega
      clear hp
      go_wp2_with fail
      go_quiet (fail)
      go_wp2
      exact ⟨⟨i + 1, by omega, by go_num, HD.out.drewN _⟩, by simp [intOf]; omega⟩
    · obtain rfl : i = n := by omega
      have hdn : decide (i < i) = false := decide_eq_false (by omega)
      go_wp2
      go_ret
      exact ⟨rfl, HD.out⟩
set_option maxRecDepth 100000 in
theorem copyp_any (B : List Pc) (a : Option Addr) (n cap : Nat) (w : World) (hn : n = B.length) (hB : PcsIn w (.slice a n cap) B (fun _ => True)) (hna : a = none → cap = 0) (hl : n ≤ 1000000) :
    Calls Try.prog 17 #[.slice a n cap] w fun e w' => ∃ v, e = .returned v ∧ w'.ownsRow w.heap.size 35 3 v B.length (pk B) ∧ Below w.heap.size w w' := by
  have HN := Lib.hid hn; clear hn
  have HB := Lib.hid hB; clear hB
  have HNA := Lib.hid hna; clear hna
  go_enter Try.func17, Try.ntmps17
  go_wp2_with (first | (at_builtin; refine wpList_append_pieces rfl (.tmp 4) (.tmp 5) rfl w.heap.size (.slice none 0 0) 0 [] rfl ⟨rfl, .inl ⟨rfl, rfl⟩⟩ _ B (fun _ => True) rfl HB.out (by intro n c e; cases e; exact HNA.out rfl) (by have := HN.out; omega) (Nat.le_refl _) ?_; intro v1 w1 o1 b1))
  have HO1 : Hid (w1.ownsRow w.heap.size 35 3 v1 B.length (pk B)) := by
    have := o1.out
    rw [Nat.zero_add, List.nil_append] at this
    exact this
  clear o1 HB
  go_ret
  exact ⟨v1, rfl, HO1.out, below_gb b1.out⟩
end Go.Proofs.Ytiglbjfieeicpaa
