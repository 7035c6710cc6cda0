/- The walk of the program's Inflate. -/
import Derived.Test.YteajjanjkhhgdaaDoorInfBlock
namespace Go.Proofs.YteajjanjkhhgdaaDoor
open Go.RowKit Go

theorem Inf.up_div (q : Nat) : Inf.up q / 8 = (q + 7) / 8 := by unfold Inf.up; omega
theorem Inf.up_le {q L : Nat} (h : q ≤ 8 * L) : Inf.up q ≤ 8 * L := by unfold Inf.up; omega
theorem Inf.bstep_few {V N M p : Nat} {T : List Int} (h : N < p + 3) : Inf.bstep V N M p T = .fin (.err 4) := by unfold Inf.bstep; rw [if_pos h]
theorem Inf.bstep_err {V N M p : Nat} {T : List Int} {k : Int} (h : p + 3 ≤ N) (h2 : Inf.block V N M (Inf.num V (p + 1) 2) (p + 3) T = .err k) : Inf.bstep V N M p T = .fin (.err k) := by unfold Inf.bstep; rw [if_neg (by omega), h2]
theorem Inf.bstep_end {V N M p q : Nat} {T U : List Int} (h : p + 3 ≤ N) (h2 : Inf.block V N M (Inf.num V (p + 1) 2) (p + 3) T = .ok q U) (h3 : Inf.num V p 1 = 1) : Inf.bstep V N M p T = .fin (.ok q U) := by unfold Inf.bstep; rw [if_neg (by omega), h2]; dsimp only; rw [if_pos h3]
theorem Inf.bstep_go {V N M p q : Nat} {T U : List Int} (h : p + 3 ≤ N) (h2 : Inf.block V N M (Inf.num V (p + 1) 2) (p + 3) T = .ok q U) (h3 : ¬ Inf.num V p 1 = 1) : Inf.bstep V N M p T = .go q U := by unfold Inf.bstep; rw [if_neg (by omega), h2]; dsimp only; rw [if_neg h3]
/-- Inflate's answer -/
def IfO (w : World) (V N M : Nat) (e : Ending) (w' : World) : Prop :=
  Below w.heap.size w w' ∧ ((∃ k : Int, Inf.inflate V N M = .err k ∧ ¬ k = 0 ∧ e = .returned (.tuple #[.slice none 0 0, .int .i64 0, .int .i64 k])) ∨
    (∃ q T vt, Inf.inflate V N M = .ok q T ∧ T.length ≤ M ∧ e = .returned (.tuple #[vt, .int .i64 (((q + 7) / 8 : Nat) : Int), .int .i64 0]) ∧ w'.ownsRow (w.heap.size + 1) 5 1 vt T.length (k8 T)))
theorem inflate_no (a : Option Addr) (n cap : Nat) (M : Int) (w : World) (hM : M < 0 ∨ 65536 < M) :
    Calls Tryd.prog 12 #[.slice a n cap, .int .i64 M] w fun e w' => e = .returned (.tuple #[.slice none 0 0, .int .i64 0, .int .i64 2]) ∧ w = w' := by
  by_cases h0 : M < 0
  · have d0 : decide (M < 0) = true := decide_eq_true h0
    clear hM h0
    go_enter Tryd.func12, Tryd.ntmps12
    go_wp2
    go_returns
    exact ⟨rfl, rfl⟩
  · have d0 : decide (M < 0) = false := decide_eq_false h0
    have d1 : decide (65536 < M) = true := decide_eq_true (by omega)
    clear hM h0
    go_enter Tryd.func12, Tryd.ntmps12
    go_wp2
    go_returns
    exact ⟨rfl, rfl⟩

set_option maxRecDepth 100000 in
set_option maxHeartbeats 8000000 in
theorem inflate_any (HOC : OwnC) (B : List Int) (a : Option Addr) (n cap M : Nat) (w : World) (hn : n = B.length) (hB : BytesIn w (.slice a n cap) B (fun _ => True)) (hb : ∀ x ∈ B, 0 ≤ x ∧ x < 256) (hl : n ≤ 1000000) (hM : M ≤ 65536) (hT : Tabs w) :
    Calls Tryd.prog 12 #[.slice a n cap, .int .i64 (M : Int)] w fun e w' => IfO w (Bit.val B) (8 * n) M e w' := by
  have HNW := Lib.hid (rnew_any B a n cap w hn hB hb (by omega))
  have HTB := Lib.hid hT
  have HL := Lib.hid hl
  have HM := Lib.hid hM
  have HO := Lib.hid HOC
  have d0 : decide ((M : Int) < 0) = false := decide_eq_false (by omega)
  have d1 : decide (65536 < (M : Int)) = false := decide_eq_false (by omega)
  generalize Bit.val B = V at *
  obtain ⟨RS, hrs⟩ : ∃ RS, RS = Inf.inflate V (8 * n) M := ⟨_, rfl⟩
  unfold IfO
  rw [← hrs]
  have HRS0 : Hid (RS = Inf.runs (Inf.bstep V (8 * n) M) 0 []) := hrs
  clear hn hB hb hl hM hT HOC hrs
  go_enter Tryd.func12, Tryd.ntmps12
  go_wp2_with fail
  refine HNW.out.mono ?_
  rintro e w1 ⟨rfl, h1, h2⟩
  obtain ⟨r, hr⟩ : ∃ r, r = w.heap.size + 1 := ⟨_, rfl⟩
  rw [← hr] at h1 ⊢
  have HS0 : Hid (Sx w (w1.alloc (.cells #[.pointer (some ⟨r, 0, none⟩), .slice none 0 0, .int .i64 (M : Int), .pointer none, .pointer none] 65)) w1.heap.size r n V 0 [] (.slice none 0 0) M (.pointer none) (.pointer none)) := by
    refine ⟨h2.alloc h2.size _, HTB.out, h2.size, hr, heap_alloc_new _ _, h1.later ((Below.refl _ _).alloc (Nat.le_refl _) _) (Nat.le_refl _), World.ownsRow_nil _ _ _ _⟩
  clear h1 h2 hr HNW
  go_wp2_with fail
  generalize w1.alloc (.cells #[.pointer (some ⟨r, 0, none⟩), .slice none 0 0, .int .i64 (M : Int), .pointer none, .pointer none] 65) = wa at *
  generalize w1.heap.size = g at *
  go_loopw [8] (fun v8 wr => ∃ (last : Bool) (q : Nat) (U : List Int) (vt fl fd : Value), v8 = .bool last ∧ Sx w wr g r n V q U vt M fl fd ∧ Fx wr fl fd ∧ U.length ≤ M ∧ ((last = false ∧ RS = Inf.runs (Inf.bstep V (8 * n) M) q U) ∨ (last = true ∧ RS = .ok q U))) (fun _ wr => 8 * n - Inf.pos wr r)
  case atStart => exact ⟨false, 0, [], _, _, _, rfl, HS0.out, .inl ⟨rfl, rfl⟩, Nat.zero_le _, .inl ⟨rfl, HRS0.out⟩⟩
  case round =>
    clear HS0 HRS0
    obtain ⟨last, q, U, vt, fl, fd, rfl, hs, hf, hU, hc⟩ := hrel
    obtain ⟨av, cv, rfl⟩ := hs.form
    have HS := Lib.hid hs
    have HF := Lib.hid hf
    have HU := Lib.hid hU
    have HPOS : Hid (Inf.pos wr r = q) := hs.pos
    have hql := hs.rd.le
    clear hs hf hU
    rcases hc with ⟨rfl, hrs⟩ | ⟨rfl, hrs⟩
    · have HRS := Lib.hid hrs
      clear hrs
      by_cases hfew : q + 3 ≤ 8 * n
      · have HBL := Lib.hid (block_any HO.out w wr g r n V q U _ M fl fd HS.out HF.out HL.out HU.out HM.out hfew)
        have HFW := Lib.hid hfew
        clear hfew hql
        go_wp2_with fail
        refine HBL.out.mono ?_
        rintro e w2 (⟨k, b', h1, h2, rfl, h3⟩ | ⟨q2, U2, v2, fl2, fd2, h1, h2, h3, rfl, h4, h5⟩)
        · have K1 : Hid (RS = .err k) := HRS.out.trans (Inf.runs_fin (Inf.bstep_err HFW.out h1))
          have K2 := Lib.hid h2
          have K3 := Lib.hid h3
          have hk0 : (k != 0) = true := by simpa using h2
          clear h1 h2 h3 HBL
          go_wp2
          go_returns
          exact ⟨K3.out, .inl ⟨k, K1.out, K2.out, rfl⟩⟩
        · have K4 := Lib.hid h4
          have K5 := Lib.hid h5
          have K6 := Lib.hid h2
          have K7 : Hid (Inf.pos w2 r = q2) := h4.pos
          have K8 : Hid (q2 ≤ 8 * n) := h4.rd.le
          have K9 := Lib.hid h3
          by_cases hl1 : Inf.num V q 1 = 1
          · have K1 : Hid (RS = .ok q2 U2) := HRS.out.trans (Inf.runs_fin (Inf.bstep_end HFW.out h1 hl1))
            rw [decide_eq_true hl1]
            clear h1 h2 h3 h4 h5 HBL hl1
            go_wp2
            exact ⟨⟨true, q2, U2, v2, fl2, fd2, rfl, K4.out, K5.out, K6.out, .inr ⟨rfl, K1.out⟩⟩, by have := K7.out; have := HPOS.out; have := K8.out; have := K9.out; omega⟩
          · have K1 : Hid (RS = Inf.runs (Inf.bstep V (8 * n) M) q2 U2) := HRS.out.trans (Inf.runs_go (Inf.bstep_go HFW.out h1 hl1))
            rw [decide_eq_false hl1]
            clear h1 h2 h3 h4 h5 HBL hl1
            go_wp2
            exact ⟨⟨false, q2, U2, v2, fl2, fd2, rfl, K4.out, K5.out, K6.out, .inl ⟨rfl, K1.out⟩⟩, by have := K7.out; have := HPOS.out; have := K8.out; have := K9.out; omega⟩
      · have HBL := Lib.hid (block_few w wr g r n V q U _ M fl fd HS.out HL.out (by omega))
        have K1 : Hid (RS = .err 4) := HRS.out.trans (Inf.runs_fin (Inf.bstep_few (by omega)))
        clear hfew hql
        go_wp2_with fail
        refine HBL.out.mono ?_
        rintro e w2 ⟨rfl, h3⟩
        have K3 := Lib.hid h3
        clear h3 HBL
        go_wp2
        go_returns
        exact ⟨K3.out, .inl ⟨4, K1.out, by decide, rfl⟩⟩
    · have HRS := Lib.hid hrs
      have c0 := HS.out.c0
      have HAL := Lib.hid (ralign_any r q n V w.heap.size wr HS.out.rd (by have := HL.out; omega))
      clear hrs hql
      go_wp2_with fail
      refine HAL.out.mono ?_
      rintro e w2 ⟨rfl, h1, h2⟩
      have K1 := Lib.hid (HS.out.go h1 h2).1
      clear h1 h2 HAL c0
      have c0 := K1.out.c0
      have c1 := K1.out.c1
      obtain ⟨u, hu⟩ : ∃ u, u = q + (8 - q % 8) % 8 := ⟨_, rfl⟩
      rw [← hu] at K1
      have HUP : Hid (u / 8 = (q + 7) / 8) := by unfold Hid; omega
      have hu6 : (u : Int) ≤ 8000000 := by have := K1.out.rd.le; have := HL.out; omega
      obtain ⟨u8, hu8⟩ : ∃ u8, u8 = u / 8 := ⟨_, rfl⟩
      have hdiv : (u : Int) / 8 = (u8 : Int) := by omega
      have hdiv2 : Int.tdiv (u : Int) 8 = (u8 : Int) := by rw [Int.tdiv_eq_ediv_of_nonneg (by omega)]; exact hdiv
      have HAT := Lib.hid (fun (wx : World) (h : Drawn w2 wx) => (at_any r u n V w.heap.size wx (K1.out.drawn h).rd).mono fun _ _ ⟨h1, h2⟩ => (⟨h1, h2.symm⟩ : _ ∧ _))
      have HU8 := Lib.hid hu8
      clear hu hu8
      go_wp2_with fail
      go_quiet ((go_at_call 36; exact Calls.quiet_of_same (HAT.out _ ⟨_, rfl⟩)))
      have K2 := Lib.hid (K1.out.drawn ⟨nq, rfl⟩)
      clear K1 c0 c1
      go_wp2
      go_returns
      exact ⟨K2.out.bel, .inr ⟨q, U, .slice av U.length cv, HRS.out, HU.out, by rw [← HUP.out, ← HU8.out]; rfl, K2.out.txt⟩⟩
end Go.Proofs.YteajjanjkhhgdaaDoor
