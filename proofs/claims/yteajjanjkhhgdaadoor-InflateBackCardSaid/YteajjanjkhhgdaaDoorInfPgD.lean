/- The walk of the program's symbols. -/
import Derived.Test.YteajjanjkhhgdaaDoorInfPgC
namespace Go.Proofs.YteajjanjkhhgdaaDoor
open Go.RowKit Go

/-- the answer of a reading of the text -/
def ReO (w0 w : World) (g r L V : Nat) (M : Nat) (fl fd : Value) (st : Inf.R (List Int)) (e : Ending) (w' : World) : Prop :=
  (∃ k : Int, st = .err k ∧ ¬ k = 0 ∧ e = .returned (.int .i64 k) ∧ Below w0.heap.size w0 w') ∨
  (∃ q U vt', st = .ok q U ∧ U.length ≤ M ∧ e = .returned (.int .i64 0) ∧ Sx w0 w' g r L V q U vt' M fl fd ∧ Ks w w')
/-- Next, from wherever it stands -/
def NxQ (w0 w : World) (g r L V p : Nat) (T : List Int) (vt : Value) (M : Nat) (fl fd : Value) (l : List Nat) (s : Nat) (ok : Bool) (w' : World) : Prop :=
  (ok = false ∧ Inf.sy l V (8 * L) p = none ∧ Below w0.heap.size w0 w') ∨ (ok = true ∧ ∃ q, Inf.sy l V (8 * L) p = some (s, q) ∧ Sx w0 w' g r L V q T vt M fl fd ∧ Ks w w')
theorem snext_dz (l : List Nat) (D p : Nat) (w0 w : World) (g r L V : Nat) (T : List Int) (vt : Value) (M : Nat) (fl fd : Value) (hL : L ≤ 1000000) (hm : Inf.Mk l) (hd : Dcl w l D) (wx : World) (h : Any w0 w g r L V T vt M fl fd wx) :
    Calls Tryd.prog 123 #[.pointer (some ⟨D, 0, none⟩), .pointer (some ⟨r, 0, none⟩)] wx fun e w' => ∃ (s : Nat) (ok : Bool), e = .returned (.tuple #[.int .i64 (s : Int), .bool ok]) ∧ Any w0 w g r L V T vt M fl fd w' ∧ (Dz w0 w g r L V p T vt M fl fd wx → NxQ w0 w g r L V p T vt M fl fd l s ok w') := by
  by_cases hp : Dz w0 w g r L V p T vt M fl fd wx
  · refine (snext_any l D w0 wx g r L V p T vt M fl fd hp.sx hL hm (hd.ks hp.ks)).mono fun _ _ hx => ?_
    rcases hx with ⟨h1, h2, ⟨q, h3⟩, h4⟩ | ⟨s, q, h1, h2, h3, h4⟩
    · exact ⟨0, false, h2, ⟨q, h3, hp.ks.trans h4⟩, fun _ => .inl ⟨rfl, h1, h3.bel⟩⟩
    · exact ⟨s, true, h2, ⟨_, h3, hp.ks.trans h4⟩, fun _ => .inr ⟨rfl, q, h1, h3, hp.ks.trans h4⟩⟩
  · obtain ⟨q, h⟩ := h
    refine (snext_any l D w0 wx g r L V q T vt M fl fd h.sx hL hm (hd.ks h.ks)).mono fun _ _ hx => ?_
    rcases hx with ⟨h1, h2, ⟨q, h3⟩, h4⟩ | ⟨s, q, h1, h2, h3, h4⟩
    · exact ⟨0, false, h2, ⟨q, h3, h.ks.trans h4⟩, fun c => absurd c hp⟩
    · exact ⟨s, true, h2, ⟨_, h3, h.ks.trans h4⟩, fun c => absurd c hp⟩
/-- where the stream's reader stands -/
def Inf.pos (w : World) (r : Nat) : Nat := match w.cell? ⟨r, 2, none⟩ with
  | some v => (intOf v).toNat
  | none => 0
theorem Sx.pos {w0 w : World} {g r L V p : Nat} {T : List Int} {vt : Value} {M : Nat} {fl fd : Value} (h : Sx w0 w g r L V p T vt M fl fd) : Inf.pos w r = p := by
  have c2 : w.cell? ⟨r, 2, none⟩ = some (.int .i64 (p : Int)) := (cell_of_row _ _ _ _ _ _ h.rd.row).trans rfl
  unfold Inf.pos
  rw [c2]
  simp [intOf]
theorem Inf.cstep_none {x y : List Nat} {V N M p : Nat} {T : List Int} (h : Inf.sy x V N p = none) : Inf.cstep x y V N M p T = .fin (.err 4) := by unfold Inf.cstep; rw [h]
theorem Inf.cstep_end {x y : List Nat} {V N M p q : Nat} {T : List Int} (h : Inf.sy x V N p = some (256, q)) : Inf.cstep x y V N M p T = .fin (.ok q T) := by unfold Inf.cstep; rw [h]; rfl
theorem Inf.cstep_match {x y : List Nat} {V N M p q s : Nat} {T : List Int} (h : Inf.sy x V N p = some (s, q)) (h2 : 256 < s) : Inf.cstep x y V N M p T = Inf.mstep y V N M s q T := by
  unfold Inf.cstep; rw [h]; dsimp only; rw [if_neg (by omega), if_pos h2]
theorem Inf.cstep_long {x y : List Nat} {V N M p q s : Nat} {T : List Int} (h : Inf.sy x V N p = some (s, q)) (h2 : s < 256) (h3 : M ≤ T.length) : Inf.cstep x y V N M p T = .fin (.err 3) := by
  unfold Inf.cstep; rw [h]; dsimp only; rw [if_neg (by omega), if_neg (by omega), if_pos h3]
theorem Inf.cstep_go {x y : List Nat} {V N M p q s : Nat} {T : List Int} (h : Inf.sy x V N p = some (s, q)) (h2 : s < 256) (h3 : T.length < M) : Inf.cstep x y V N M p T = .go q (T ++ [(s : Int)]) := by
  unfold Inf.cstep; rw [h]; dsimp only; rw [if_neg (by omega), if_neg (by omega), if_neg (by omega)]
theorem Inf.mstep_on {y : List Nat} {V N M s q t : Nat} {T U : List Int} (h : Inf.mstep y V N M s q T = .go t U) : q < t ∧ t ≤ N := by
  unfold Inf.mstep Inf.mfar at h
  split at h
  · cases h
  · split at h
    · cases h
    · rename_i k r hk
      have := Inf.sy_lt hk
      split at h
      · cases h
      · split at h
        · cases h
        · split at h
          · cases h
          · cases h; constructor <;> omega
theorem Inf.cstep_on {x y : List Nat} {V N M p t : Nat} {T U : List Int} (h : Inf.cstep x y V N M p T = .go t U) : p < t ∧ t ≤ N := by
  rcases Inf.sy_cases x V N p with e | ⟨k, i, h1, e⟩
  · rw [Inf.cstep_none e] at h; cases h
  · have hl := Inf.sy_lt e
    rcases Nat.lt_trichotomy i 256 with c | c | c
    · rcases Nat.lt_or_ge T.length M with d | d
      · rw [Inf.cstep_go e c d] at h; cases h; exact ⟨hl.2.1, hl.2.2⟩
      · rw [Inf.cstep_long e c d] at h; cases h
    · subst c; rw [Inf.cstep_end e] at h; cases h
    · rw [Inf.cstep_match e c] at h
      have := Inf.mstep_on h
      constructor <;> omega

set_option maxRecDepth 100000 in
set_option maxHeartbeats 4000000 in
theorem symbols_any (x y : List Nat) (A D : Nat) (w0 w : World) (g r L V p : Nat) (T : List Int) (vt : Value) (M : Nat) (fl fd : Value) (h : Sx w0 w g r L V p T vt M fl fd) (hL : L ≤ 1000000) (hmx : Inf.Mk x) (hmy : Inf.Mk y) (hx : Dcl w x A) (hy : Dcl w y D) (hT : T.length ≤ M) (hM : M ≤ 65536) :
    Calls Tryd.prog 69 #[.pointer (some ⟨g, 0, none⟩), .agg #[.pointer (some ⟨A, 0, none⟩), .pointer (some ⟨D, 0, none⟩)]] w fun e w' => ReO w0 w g r L V M fl fd (Inf.runs (Inf.cstep x y V (8 * L) M) p T) e w' := by
  have HL := Lib.hid hL
  have HM := Lib.hid hM
  have HX := Lib.hid hmx
  have HY := Lib.hid hmy
  have HXL : Hid (x.length ≤ 288) := hmx.1.1
  obtain ⟨RS, hrs⟩ : ∃ RS, RS = Inf.runs (Inf.cstep x y V (8 * L) M) p T := ⟨_, rfl⟩
  rw [← hrs]
  have hb : Below w.heap.size w (w.alloc (.cells #[.pointer (some ⟨A, 0, none⟩), .pointer (some ⟨D, 0, none⟩)] 63)) := (Below.refl _ _).alloc (Nat.le_refl _) _
  have HS0 : Hid (∃ q U vt', Sx w0 (w.alloc (.cells #[.pointer (some ⟨A, 0, none⟩), .pointer (some ⟨D, 0, none⟩)] 63)) g r L V q U vt' M fl fd ∧ U.length ≤ M ∧ RS = Inf.runs (Inf.cstep x y V (8 * L) M) q U) := ⟨p, T, vt, h.later hb, hT, hrs⟩
  have HK0 : Hid (Ks w (w.alloc (.cells #[.pointer (some ⟨A, 0, none⟩), .pointer (some ⟨D, 0, none⟩)] 63))) := Ks.below hb
  have HB0 : Hid ((w.alloc (.cells #[.pointer (some ⟨A, 0, none⟩), .pointer (some ⟨D, 0, none⟩)] 63)).heap[w.heap.size]? = some (.cells #[.pointer (some ⟨A, 0, none⟩), .pointer (some ⟨D, 0, none⟩)] 63 (0, 0))) := heap_alloc_new _ _
  have HDX := Lib.hid hx
  have HDY := Lib.hid hy
  clear h hx hy hmx hmy hL hM hT hrs hb
  go_enter Tryd.func69, Tryd.ntmps69
  go_wp2_with fail
  generalize w.alloc (.cells #[.pointer (some ⟨A, 0, none⟩), .pointer (some ⟨D, 0, none⟩)] 63) = wa at *
  generalize w.heap.size = gx at *
  go_loopw [5] (fun _ wr => (∃ q U vt', Sx w0 wr g r L V q U vt' M fl fd ∧ U.length ≤ M ∧ RS = Inf.runs (Inf.cstep x y V (8 * L) M) q U) ∧ Ks w wr ∧ wr.heap[gx]? = some (.cells #[.pointer (some ⟨A, 0, none⟩), .pointer (some ⟨D, 0, none⟩)] 63 (0, 0))) (fun _ wr => 8 * L - Inf.pos wr r)
  case atStart => exact ⟨HS0.out, HK0.out, HB0.out⟩
  case round =>
    clear HS0 HK0 HB0
    obtain ⟨⟨q, U, vt', hs, hU, hRS⟩, hk, hbx⟩ := hrel
    have HS := Lib.hid hs
    have HU := Lib.hid hU
    have HRS := Lib.hid hRS
    have HK := Lib.hid hk
    have HBX := Lib.hid hbx
    have HPOS : Hid (Inf.pos wr r = q) := hs.pos
    have HNX := Lib.hid (snext_dz x A q w0 wr g r L V U vt' M fl fd HL.out HX.out (HDX.out.ks hk))
    have HC : Hid (∀ wx, Any w0 wr g r L V U vt' M fl fd wx → wx.cell? ⟨gx, 0, none⟩ = some (.pointer (some ⟨A, 0, none⟩)) ∧ wx.cell? ⟨g, 0, none⟩ = some (.pointer (some ⟨r, 0, none⟩)) ∧ Any w0 wr g r L V U vt' M fl fd wx) :=
      fun wx h => ⟨by obtain ⟨_, h⟩ := h; exact (cell_of_row _ _ _ _ _ _ (h.ks.cells HBX.out rfl)).trans rfl, by obtain ⟨_, h⟩ := h; exact h.sx.c0, h⟩
    have hdz : Dz w0 wr g r L V q U vt' M fl fd wr := ⟨hs, Ks.refl _⟩
    have HDZ := Lib.hid hdz.drew
    have hany : Any w0 wr g r L V U vt' M fl fd wr := ⟨q, hdz⟩
    clear hs hU hRS hk hbx hdz
    go_wp2_with fail
    go_region_held3 (fun wx => wx.cell? ⟨gx, 0, none⟩ = some (.pointer (some ⟨A, 0, none⟩)) ∧ wx.cell? ⟨g, 0, none⟩ = some (.pointer (some ⟨r, 0, none⟩)) ∧ Any w0 wr g r L V U vt' M fl fd wx) (first | assumption | exact HC.out _ (by assumption) | exact HC.out _ (Any.drew (by assumption))) ((go_at_call 123; (with_reducible refine (HNX.out _ (And.right (And.right (by assumption)))).mono ?_); rintro e w5 ⟨s5, ok5, rfl, ha5, hs5⟩))
    have HS5 := Lib.hid (hs5 HDZ.out)
    clear hs5 hany HC HDZ ha5 HNX
    rcases HS5.out with ⟨rfl, G1, G2⟩ | ⟨rfl, t, G1, G2, G3⟩
    · have K1 : Hid (RS = .err 4) := HRS.out.trans (Inf.runs_fin (Inf.cstep_none G1))
      have K2 := Lib.hid G2
      clear G1 G2 HS5
      go_wp2
      go_ret
      exact .inl ⟨4, K1.out, by decide, rfl, K2.out⟩
    · have K1 := Lib.hid G1
      have K2 := Lib.hid G2
      have K3 := Lib.hid (HK.out.trans G3)
      have K4 := Lib.hid (G3.cells HBX.out rfl)
      have hs288 : s5 < 288 := by have := (Inf.sy_lt G1).1; have := HXL.out; omega
      have HPT : Hid (q < t ∧ t ≤ 8 * L) := ⟨(Inf.sy_lt G1).2.1, (Inf.sy_lt G1).2.2⟩
      clear G1 G2 G3 HS5
      rcases Nat.lt_trichotomy s5 256 with c | c | c
      · have d1 : ((s5 : Int) == 256) = false := by simp; omega
        have d2 : decide ((s5 : Int) < 256) = true := decide_eq_true (by omega)
        have hwr : IntKind.u8.wrap (s5 : Int) = (s5 : Int) := by rw [IntKind.wrap_u8]; omega
        have HLE := Lib.hid (letter_any (s5 : Int) w0 w5 g r L V t U vt' M fl fd K2.out (by have := HU.out; have := HM.out; omega) HM.out)
        have HC5 := Lib.hid c
        clear c hs288
        go_wp2_with fail
        refine HLE.out.mono ?_
        rintro e w6 (⟨h1, rfl, h2⟩ | ⟨h1, rfl, ⟨v6, h2⟩, h3⟩)
        · have E1 : Hid (RS = .err 3) := HRS.out.trans (Inf.runs_fin (Inf.cstep_long K1.out HC5.out h1))
          have E2 := Lib.hid h2
          clear h1 h2 HLE
          go_wp2
          go_ret
          exact .inl ⟨3, E1.out, by decide, rfl, E2.out⟩
        · have E1 : Hid (RS = Inf.runs (Inf.cstep x y V (8 * L) M) t (U ++ [(s5 : Int)])) := HRS.out.trans (Inf.runs_go (Inf.cstep_go K1.out HC5.out h1))
          have E2 := Lib.hid h2
          have E3 := Lib.hid (K3.out.trans h3)
          have E4 := Lib.hid (h3.cells K4.out rfl)
          have E5 : Hid ((U ++ [(s5 : Int)]).length ≤ M) := by unfold Hid; rw [List.length_append]; simp; omega
          have E6 : Hid (Inf.pos w6 r = t) := h2.pos
          clear h1 h2 h3 HLE
          go_wp2
          exact ⟨⟨⟨_, _, _, E2.out, E5.out, E1.out⟩, E3.out, E4.out⟩, by have := E6.out; have := HPOS.out; have := HPT.out; omega⟩
      · subst c
        have d1 : (((256 : Nat) : Int) == 256) = true := rfl
        have E1 : Hid (RS = .ok t U) := HRS.out.trans (Inf.runs_fin (Inf.cstep_end K1.out))
        go_wp2
        go_ret
        exact .inr ⟨t, U, vt', E1.out, HU.out, rfl, K2.out, K3.out⟩
      · have d1 : ((s5 : Int) == 256) = false := by simp; omega
        have d2 : decide ((s5 : Int) < 256) = false := decide_eq_false (by omega)
        obtain ⟨m, hm⟩ : ∃ m, m = s5 - 257 := ⟨_, rfl⟩
        have hmI : (s5 : Int) - 257 = (m : Int) := by omega
        have hs5I : (s5 : Int) < 288 := by omega
        have h257 : 257 + m = s5 := by omega
        have hmt := match_any y D m w0 w5 g r L V t U vt' M fl fd K2.out HL.out HY.out (HDY.out.ks K3.out) (by omega) HU.out HM.out
        rw [h257] at hmt
        have HMT := Lib.hid hmt
        have HC5 := Lib.hid c
        have cx1 : w5.cell? ⟨gx, 1, none⟩ = some (.pointer (some ⟨D, 0, none⟩)) := (cell_of_row _ _ _ _ _ _ K4.out).trans rfl
        clear c hs288 hm h257 hmt
        go_wp2_with fail
        refine HMT.out.mono ?_
        rintro e w6 (⟨k, h1, h2, rfl, h3⟩ | ⟨q6, U6, v6, h1, h2, rfl, h3, h4⟩)
        · have E1 : Hid (RS = .err k) := HRS.out.trans (Inf.runs_fin ((Inf.cstep_match K1.out HC5.out).trans h1))
          have E2 := Lib.hid h2
          have E3 := Lib.hid h3
          have hk0 : (k != 0) = true := by simpa using h2
          clear h1 h2 h3 HMT cx1
          go_wp2
          go_ret
          exact .inl ⟨k, E1.out, E2.out, rfl, E3.out⟩
        · have E1 : Hid (RS = Inf.runs (Inf.cstep x y V (8 * L) M) q6 U6) := HRS.out.trans (Inf.runs_go ((Inf.cstep_match K1.out HC5.out).trans h1))
          have E2 := Lib.hid h3
          have E3 := Lib.hid (K3.out.trans h4)
          have E4 := Lib.hid (h4.cells K4.out rfl)
          have E5 := Lib.hid h2
          have E6 : Hid (Inf.pos w6 r = q6) := h3.pos
          have E7 := Lib.hid (Inf.mstep_on h1)
          clear h1 h2 h3 h4 HMT cx1
          go_wp2
          exact ⟨⟨⟨_, _, _, E2.out, E5.out, E1.out⟩, E3.out, E4.out⟩, by have := E6.out; have := HPOS.out; have := HPT.out; have := E7.out; omega⟩
end Go.Proofs.YteajjanjkhhgdaaDoor
