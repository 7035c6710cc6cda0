/- The walk of longest: the longest match at a place. -/
import Derived.Test.YtiglbjfieeicpaaLzAhead
import Derived.Test.YtiglbjfieeicpaaLzAlike
namespace Go.Proofs.Ytiglbjfieeicpaa
open Go.RowKit Go

theorem PB.frozen {w : World} {g : Nat} {c n d : Int} (h : PB w g c n d) (j : Nat) : w.frozen? ⟨g, j, none⟩ = false := frozen_of_row _ _ _ _ _ h
/-- what longest looks into: the bytes behind the closure's variable, and the places ahead -/
structure Lk (w : World) (b : List Int) (n : Nat) (g ga : Nat) : Prop where
  len : n = b.length
  le : n ≤ 65536
  byt : ∃ a cap, w.heap[g]? = some (.cells #[.slice a n cap] 25 (0, 0)) ∧ BytesIn w (.slice a n cap) b (fun _ => True)
  row : ∃ C, w.heap[ga]? = some (.cells C 3 (0, 0)) ∧ C.size = n ∧ ∀ j, j < n → C[j]? = some (.int .i64 (Lz.ahd b j))
theorem Lk.later {w w' : World} {b : List Int} {n g ga : Nat} (h : Lk w b n g ga) (hb : Below w.heap.size w w') : Lk w' b n g ga := by
  obtain ⟨a, cap, h1, h2⟩ := h.byt
  obtain ⟨C, h3, h4⟩ := h.row
  exact ⟨h.len, h.le, ⟨a, cap, (hb.block _ (lt_of_block h1)).trans h1, later_bytes hb h2⟩, ⟨C, (hb.block _ (lt_of_block h3)).trans h3, h4⟩⟩
theorem Lk.call {w : World} {b : List Int} {n g ga : Nat} (h : Lk w b n g ga) {f t : Nat} (hft : f < t) (htn : t ≤ n) :
    Calls Try.prog 34 #[.int .i64 (f : Nat), .int .i64 (t : Nat), .pointer (some ⟨g, 0, none⟩)] w fun e w' => e = .returned (.int .i64 (Lz.alk b f t 258 0 : Nat)) ∧ Drawn w w' := by
  obtain ⟨a, cap, h1, h2⟩ := h.byt
  exact alike_any b a n cap f t g w h.len h.le h2 hft htn h1
theorem Lk.cell {w : World} {b : List Int} {n g ga : Nat} (h : Lk w b n g ga) {j : Nat} (hj : j < n) : w.cell? ⟨ga, j, none⟩ = some (.int .i64 (Lz.ahd b j)) := by
  obtain ⟨C, h3, -, h4⟩ := h.row
  rw [cell_of_row _ _ _ _ _ _ h3]
  exact h4 j hj
/-- longest's own state -/
structure LgS (w wr : World) (b : List Int) (n g ga : Nat) (m1 m2 : Nat) : Prop where
  bel : Below w.heap.size w wr
  lk : Lk wr b n g ga
  r0 : PB wr w.heap.size 0 0 0
  r1 : PB wr (w.heap.size + 1) 0 (m1 : Nat) (m2 : Nat)
theorem LgS.put {w wr : World} {b : List Int} {n g ga m1 m2 : Nat} (h : LgS w wr b n g ga m1 m2) (hk : Lk w b n g ga) (a d : Nat) :
    LgS w (((wr.setCell ⟨w.heap.size + 1, 0, none⟩ (.int .u8 0)).setCell ⟨w.heap.size + 1, 1, none⟩ (.int .i64 (a : Nat))).setCell ⟨w.heap.size + 1, 2, none⟩ (.int .i64 (d : Nat))) b n g ga a d := by
  have ho : ∀ k, k ≠ w.heap.size + 1 → (((wr.setCell ⟨w.heap.size + 1, 0, none⟩ (.int .u8 0)).setCell ⟨w.heap.size + 1, 1, none⟩ (.int .i64 (a : Nat))).setCell ⟨w.heap.size + 1, 2, none⟩ (.int .i64 (d : Nat))).heap[k]? = wr.heap[k]? := fun k hk => by
    rw [heap_setCell_other _ _ _ _ hk, heap_setCell_other _ _ _ _ hk, heap_setCell_other _ _ _ _ hk]
  have hb : Below w.heap.size w (((wr.setCell ⟨w.heap.size + 1, 0, none⟩ (.int .u8 0)).setCell ⟨w.heap.size + 1, 1, none⟩ (.int .i64 (a : Nat))).setCell ⟨w.heap.size + 1, 2, none⟩ (.int .i64 (d : Nat))) :=
    ((h.bel.setCell (Nat.le_succ _) _).setCell (Nat.le_succ _) _).setCell (Nat.le_succ _) _
  exact ⟨hb, hk.later hb, (ho _ (by omega)).trans h.r0, heap_setCell_same _ _ _ _ _ _ (heap_setCell_same _ _ _ _ _ _ (heap_setCell_same _ _ _ _ _ _ h.r1))⟩
theorem LgS.drawn {w wr w' : World} {b : List Int} {n g ga m1 m2 : Nat} (h : LgS w wr b n g ga m1 m2) (hd : Drawn wr w') : LgS w w' b n g ga m1 m2 :=
  ⟨h.bel.trans (hd.below _), h.lk.later (hd.below _), h.r0.later (hd.below _), h.r1.later (hd.below _)⟩

set_option maxRecDepth 100000 in
set_option maxHeartbeats 4000000 in
theorem lng_any (b : List Int) (n g ga t : Nat) (w : World) (hk : Lk w b n g ga) (ht : t < n) :
    Calls Try.prog 35 #[.int .i64 (t : Nat), .slice (some ⟨ga, 0, none⟩) n n, .func (.func 34) #[] #[.pointer (some ⟨g, 0, none⟩)]] w fun e w' =>
      e = .returned (.agg #[.int .u8 0, .int .i64 ((Lz.lng b t).1 : Nat), .int .i64 ((Lz.lng b t).2 : Nat)]) ∧ Below w.heap.size w w' := by
  have HK := Lib.hid hk; clear hk
  obtain ⟨R, hR⟩ : ∃ R, R = Lz.lng b t := ⟨_, rfl⟩
  rw [← hR]
  have HR := Lib.hid hR; clear hR
  have hn6 : n ≤ 65536 := HK.out.le
  go_enter Try.func35, Try.ntmps35
  go_wp2_with fail
  have HS0 : Hid (LgS w ((w.alloc (.cells #[.int .u8 0, .int .i64 0, .int .i64 0] 35)).alloc (.cells #[.int .u8 0, .int .i64 0, .int .i64 0] 35)) b n g ga 0 0) := by
    have h1 := (Below.refl w.heap.size w).alloc (Nat.le_refl _) (.cells #[.int .u8 0, .int .i64 0, .int .i64 0] 35)
    have h2 := h1.alloc (by simp) (.cells #[.int .u8 0, .int .i64 0, .int .i64 0] 35)
    exact ⟨h2, HK.out.later h2, (heap_alloc_old _ _ (by simp)).trans (heap_alloc_new _ _), heap_alloc2_new _ _ _⟩
  go_loopw [8, 11] (fun v8 v11 wr => ∃ (i f m1 m2 : Nat), i ≤ 16 ∧ f ≤ t ∧ v8 = .int .i64 (f : Int) ∧ v11 = .int .i64 (i : Int) ∧ R = Lz.lgo b t (16 - i) f (m1, m2) ∧ m1 ≤ 258 ∧ LgS w wr b n g ga m1 m2)
    (fun _ v11 _ => (16 - intOf v11).toNat)
  case atStart => exact ⟨0, t, 0, 0, by omega, Nat.le_refl _, rfl, rfl, HR.out, by omega, HS0.out⟩
  case round =>
    clear HS0
    obtain ⟨i, f, m1, m2, hi, hf, rfl, rfl, hRi, hm, hS⟩ := hrel
    have HS := Lib.hid hS; clear hS
    have HM := Lib.hid hm; clear hm
    obtain ⟨d0, d1, d2⟩ := HS.out.r1.cells
    obtain ⟨e0, e1, e2⟩ := HS.out.r0.cells
    have f0 := HS.out.r0.frozen 0
    have f1 := HS.out.r0.frozen 1
    have f2 := HS.out.r0.frozen 2
    have HEND : Hid (∀ v0 v1 v2, (((wr.setCell ⟨w.heap.size, 0, none⟩ v0).setCell ⟨w.heap.size, 1, none⟩ v1).setCell ⟨w.heap.size, 2, none⟩ v2).heap[w.heap.size]? = some (.cells #[v0, v1, v2] 35 (0, 0)) ∧ Below w.heap.size w (((wr.setCell ⟨w.heap.size, 0, none⟩ v0).setCell ⟨w.heap.size, 1, none⟩ v1).setCell ⟨w.heap.size, 2, none⟩ v2)) :=
      fun v0 v1 v2 => ⟨heap_setCell_same _ _ _ _ _ _ (heap_setCell_same _ _ _ _ _ _ (heap_setCell_same _ _ _ _ _ _ HS.out.r0)), ((HS.out.bel.setCell (by exact Nat.le_refl _) _).setCell (by exact Nat.le_refl _) _).setCell (by exact Nat.le_refl _) _⟩
    by_cases hlt : i < 16
    · have hd16 : decide ((i : Int) < 16) = true := by simp; omega
      have hcell := HS.out.lk.cell (j := f) (by omega)
      have hfn : (f : Int) < (n : Int) := by omega
      have hfn' : decide (f < n) = true := decide_eq_true (by omega)
      have HST : Hid (R = if Lz.ahd b f = -1 ∨ (t : Int) - Lz.ahd b f > 32768 then (m1, m2) else Lz.lgo b t (16 - (i + 1)) (Lz.ahd b f).toNat (if Lz.alk b (Lz.ahd b f).toNat t 258 0 > m1 then (Lz.alk b (Lz.ahd b f).toNat t 258 0, t - (Lz.ahd b f).toNat) else (m1, m2))) := by
        unfold Hid
        rw [hRi, show 16 - i = (16 - (i + 1)) + 1 from by omega, Lz.lgo]
      clear hRi
      rcases Lz.ahd_cases b f with h1 | ⟨j, hj, h1, -, -⟩
      · rw [h1] at hcell
        have HE : Hid (R = (m1, m2)) := by have := HST.out; rwa [if_pos (Or.inl h1)] at this
        clear HST h1
        go_wp2
        refine bodyPost_ret (results_cell_row (p := 6) (ty := 35) rfl _ _ w.heap.size 35 _ (0, 0) _ rfl (HEND.out _ _ _).1 Try.underlying35 rfl rfl) rfl ?_
        rw [HE.out]
        exact ⟨rfl, (HEND.out _ _ _).2⟩
      · rw [h1] at hcell
        have hj1 : ((j : Int) == -1) = false := by simp
        obtain ⟨d, hd⟩ : ∃ d, d = t - j := ⟨_, rfl⟩
        have hdI : (t : Int) - (j : Int) = (d : Int) := by omega
        have hST2 : R = if (j : Int) = -1 ∨ (t : Int) - (j : Int) > 32768 then (m1, m2) else Lz.lgo b t (16 - (i + 1)) j (if Lz.alk b j t 258 0 > m1 then (Lz.alk b j t 258 0, d) else (m1, m2)) := by
          have := HST.out
          rw [h1] at this
          rw [hd]
          exact this
        clear HST h1
        have HJ : Hid (j < f) := hj
        have hd6 : d ≤ 65536 := by omega
        by_cases hw : d > 32768
        · have HE : Hid (R = (m1, m2)) := by unfold Hid; rwa [if_pos (Or.inr (by omega))] at hST2
          have hwd : decide ((32768 : Int) < (d : Int)) = true := by simp; omega
          clear hST2 hd hw hj
          go_wp2
          refine bodyPost_ret (results_cell_row (p := 6) (ty := 35) rfl _ _ w.heap.size 35 _ (0, 0) _ rfl (HEND.out _ _ _).1 Try.underlying35 rfl rfl) rfl ?_
          rw [HE.out]
          exact ⟨rfl, (HEND.out _ _ _).2⟩
        · have hwd : decide ((32768 : Int) < (d : Int)) = false := by simp; omega
          have HE : Hid (R = Lz.lgo b t (16 - (i + 1)) j (if Lz.alk b j t 258 0 > m1 then (Lz.alk b j t 258 0, d) else (m1, m2))) := by unfold Hid; rwa [if_neg (by omega)] at hST2
          have HCALL : Hid (Calls Try.prog 34 #[.int .i64 (j : Nat), .int .i64 (t : Nat), .pointer (some ⟨g, 0, none⟩)] wr fun e w' => e = .returned (.int .i64 (Lz.alk b j t 258 0 : Nat)) ∧ Drawn wr w') := HS.out.lk.call (by omega) (by omega)
          obtain ⟨A, hA⟩ : ∃ A, A = Lz.alk b j t 258 0 := ⟨_, rfl⟩
          have hA6 : A ≤ 258 := by
            have := (Lz.alk_spec b j t 258 0 (fun j hj => absurd hj (by omega)) (Or.inl rfl)).2.1
            omega
          rw [← hA] at HE HCALL
          clear hA hST2 hd hw hj
          go_wp2_with fail
          refine HCALL.out.mono ?_
          rintro e w4 ⟨rfl, hd4⟩
          have HS4 := Lib.hid (HS.out.drawn hd4)
          clear HS HCALL hd4 d0 d1 d2 e0 e1 e2 f0 f1 f2 hcell HEND
          obtain ⟨d0, d1, d2⟩ := HS4.out.r1.cells
          have f0 := HS4.out.r1.frozen 0
          have f1 := HS4.out.r1.frozen 1
          have f2 := HS4.out.r1.frozen 2
          by_cases hbest : A > m1
          · have hb1 : decide (m1 < A) = true := decide_eq_true hbest
            have HR1 : Hid (R = Lz.lgo b t (16 - (i + 1)) j (A, d)) := by have := HE.out; rwa [if_pos hbest] at this
            have HSP := Lib.hid (HS4.out.put HK.out A d)
            clear HE hbest
            go_wp2
            go_roundw
            case rel => exact ⟨i + 1, j, A, d, by omega, by have := HJ.out; omega, rfl, by congr 1, HR1.out, hA6, HSP.out⟩
            case measure => simp [intOf]; omega
          · have hb1 : decide (m1 < A) = false := decide_eq_false hbest
            have HR1 : Hid (R = Lz.lgo b t (16 - (i + 1)) j (m1, m2)) := by have := HE.out; rwa [if_neg hbest] at this
            clear HE hbest
            go_wp2
            go_roundw
            case rel => exact ⟨i + 1, j, m1, m2, by omega, by have := HJ.out; omega, rfl, by congr 1, HR1.out, HM.out, HS4.out⟩
            case measure => simp [intOf]; omega
    · obtain rfl : i = 16 := by omega
      have HE : Hid (R = (m1, m2)) := hRi
      clear hRi hi hlt
      go_wp2
      refine bodyPost_ret (results_cell_row (p := 6) (ty := 35) rfl _ _ w.heap.size 35 _ (0, 0) _ rfl (HEND.out _ _ _).1 Try.underlying35 rfl rfl) rfl ?_
      rw [HE.out]
      exact ⟨rfl, (HEND.out _ _ _).2⟩
end Go.Proofs.Ytiglbjfieeicpaa
