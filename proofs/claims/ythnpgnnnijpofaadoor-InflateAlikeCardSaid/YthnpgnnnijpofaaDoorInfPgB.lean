/- The walks of the program's times and distance. -/
import Derived.Test.YthnpgnnnijpofaaDoorInfPgA
namespace Go.Proofs.YthnpgnnnijpofaaDoor
open Go.RowKit Go

theorem times_any (s : Nat) (w0 w : World) (g r L V p : Nat) (T : List Int) (vt : Value) (M : Nat) (fl fd : Value) (h : Sx w0 w g r L V p T vt M fl fd) (hL : L ≤ 1000000) :
    Calls Tryd.prog 139 #[.pointer (some ⟨g, 0, none⟩), .int .i64 (s : Int)] w fun e w' => AbO w0 w g r L V p T vt M fl fd (Inf.lk s) (Inf.lw s) e w' := by
  have HA := fun b n h1 h2 => Lib.hid (above_any b n w0 w g r L V p T vt M fl fd h hL h1 h2)
  by_cases h16 : s = 16
  · subst h16
    have HA := HA 3 2 (by omega) (by omega)
    clear h hL
    go_enter Tryd.func139, Tryd.ntmps139
    go_wp2_with fail
    refine HA.out.mono ?_
    rintro e w1 (⟨h1, rfl, h2⟩ | ⟨h1, rfl, h2⟩)
    · have H1 := Lib.hid h1
      have H2 := Lib.hid h2
      clear h1 h2 HA
      go_wp2
      go_ret2
      exact .inl ⟨H1.out, rfl, H2.out⟩
    · have H1 := Lib.hid h1
      have H2 := Lib.hid h2
      clear h1 h2 HA
      go_wp2
      go_ret2
      exact .inr ⟨H1.out, rfl, H2.out⟩
  by_cases h17 : s = 17
  · subst h17
    have HA := HA 3 3 (by omega) (by omega)
    clear h hL
    go_enter Tryd.func139, Tryd.ntmps139
    go_wp2_with fail
    refine HA.out.mono ?_
    rintro e w1 (⟨h1, rfl, h2⟩ | ⟨h1, rfl, h2⟩)
    · have H1 := Lib.hid h1
      have H2 := Lib.hid h2
      clear h1 h2 HA
      go_wp2
      go_ret2
      exact .inl ⟨H1.out, rfl, H2.out⟩
    · have H1 := Lib.hid h1
      have H2 := Lib.hid h2
      clear h1 h2 HA
      go_wp2
      go_ret2
      exact .inr ⟨H1.out, rfl, H2.out⟩
  by_cases h18 : s = 18
  · subst h18
    have HA := HA 11 7 (by omega) (by omega)
    clear h hL
    go_enter Tryd.func139, Tryd.ntmps139
    go_wp2_with fail
    refine HA.out.mono ?_
    rintro e w1 (⟨h1, rfl, h2⟩ | ⟨h1, rfl, h2⟩)
    · have H1 := Lib.hid h1
      have H2 := Lib.hid h2
      clear h1 h2 HA
      go_wp2
      go_ret2
      exact .inl ⟨H1.out, rfl, H2.out⟩
    · have H1 := Lib.hid h1
      have H2 := Lib.hid h2
      clear h1 h2 HA
      go_wp2
      go_ret2
      exact .inr ⟨H1.out, rfl, H2.out⟩
  have HLW : Hid (Inf.lw s = 0 ∧ Inf.lk s = 1) := by unfold Hid Inf.lw Inf.lk; rw [if_neg h16, if_neg h17, if_neg h18, if_neg h16, if_neg h17, if_neg h18]; exact ⟨rfl, rfl⟩
  have d16 : ((s : Int) == 16) = false := by simp; omega
  have d17 : ((s : Int) == 17) = false := by simp; omega
  have d18 : ((s : Int) == 18) = false := by simp; omega
  have HH := Lib.hid h
  clear h hL HA h16 h17 h18
  go_enter Tryd.func139, Tryd.ntmps139
  go_wp2
  go_ret2
  refine .inr ?_
  rw [HLW.out.1, HLW.out.2]
  exact ⟨HH.out.rd.le, by rw [Inf.num_zero]; rfl, HH.out, Ks.refl _⟩

/-- a stream that w left, still at p -/
structure Dz (w0 w : World) (g r L V p : Nat) (T : List Int) (vt : Value) (M : Nat) (fl fd : Value) (wx : World) : Prop where
  sx : Sx w0 wx g r L V p T vt M fl fd
  ks : Ks w wx
theorem Dz.drew {w0 w : World} {g r L V p : Nat} {T : List Int} {vt : Value} {M : Nat} {fl fd : Value} {wx : World} (h : Dz w0 w g r L V p T vt M fl fd wx) : Dz w0 w g r L V p T vt M fl fd wx.drew :=
  ⟨h.sx.drawn (Drawn.refl _).drew, h.ks.trans (Ks.drawn (Drawn.refl _).drew)⟩
/-- it stands somewhere -/
def Any (w0 w : World) (g r L V : Nat) (T : List Int) (vt : Value) (M : Nat) (fl fd : Value) (wx : World) : Prop := ∃ q, Dz w0 w g r L V q T vt M fl fd wx
theorem Any.drew {w0 w : World} {g r L V : Nat} {T : List Int} {vt : Value} {M : Nat} {fl fd : Value} {wx : World} (h : Any w0 w g r L V T vt M fl fd wx) : Any w0 w g r L V T vt M fl fd wx.drew := by
  obtain ⟨q, h⟩ := h; exact ⟨q, h.drew⟩
theorem Any.tabs {w0 w : World} {g r L V : Nat} {T : List Int} {vt : Value} {M : Nat} {fl fd : Value} {wx : World} (h : Any w0 w g r L V T vt M fl fd wx) : Tabs wx := by obtain ⟨q, h⟩ := h; exact h.sx.tabs
/-- above's answer, by its parts -/
def AbQ (w0 w : World) (g r L V p : Nat) (T : List Int) (vt : Value) (M : Nat) (fl fd : Value) (b n x : Nat) (ok : Bool) (w' : World) : Prop :=
  (ok = false ∧ 8 * L < p + n ∧ Below w0.heap.size w0 w') ∨ (ok = true ∧ p + n ≤ 8 * L ∧ x = b + Inf.num V p n ∧ Sx w0 w' g r L V (p + n) T vt M fl fd ∧ Ks w w')
theorem above_dz (b n p : Nat) (w0 w : World) (g r L V : Nat) (T : List Int) (vt : Value) (M : Nat) (fl fd : Value) (hL : L ≤ 1000000) (hb : b ≤ 100000) (hn : n ≤ 16) (wx : World) (h : Any w0 w g r L V T vt M fl fd wx) :
    Calls Tryd.prog 135 #[.pointer (some ⟨g, 0, none⟩), .int .i64 (b : Int), .int .i64 (n : Int)] wx fun e w' => ∃ (x : Nat) (ok : Bool), e = .returned (.tuple #[.int .i64 (x : Int), .bool ok]) ∧ Any w0 w g r L V T vt M fl fd w' ∧ (Dz w0 w g r L V p T vt M fl fd wx → AbQ w0 w g r L V p T vt M fl fd b n x ok w') := by
  by_cases hp : Dz w0 w g r L V p T vt M fl fd wx
  · refine (above_any b n w0 wx g r L V p T vt M fl fd hp.sx hL hb hn).mono fun _ _ hx => ?_
    rcases hx with ⟨h1, h2, h3, h4⟩ | ⟨h1, h2, h3, h4⟩
    · exact ⟨b, false, h2, ⟨p, h3, hp.ks.trans h4⟩, fun _ => .inl ⟨rfl, h1, h3.bel⟩⟩
    · exact ⟨_, true, h2, ⟨_, h3, hp.ks.trans h4⟩, fun _ => .inr ⟨rfl, h1, rfl, h3, hp.ks.trans h4⟩⟩
  · obtain ⟨q, h⟩ := h
    refine (above_any b n w0 wx g r L V q T vt M fl fd h.sx hL hb hn).mono fun _ _ hx => ?_
    rcases hx with ⟨h1, h2, h3, h4⟩ | ⟨h1, h2, h3, h4⟩
    · exact ⟨b, false, h2, ⟨q, h3, h.ks.trans h4⟩, fun c => absurd c hp⟩
    · exact ⟨_, true, h2, ⟨_, h3, h.ks.trans h4⟩, fun c => absurd c hp⟩

theorem Inf.dist_small : ∀ k, k < 30 → Inf.dbs.getD k 0 ≤ 24577 ∧ Inf.dxs.getD k 0 ≤ 13 := by decide
theorem Inf.len_small : ∀ k, k < 29 → Inf.lbs.getD k 0 ≤ 258 ∧ Inf.lxs.getD k 0 ≤ 5 := by decide
/-- a distance, or none -/
def DiO (w0 w : World) (g r L V p : Nat) (T : List Int) (vt : Value) (M : Nat) (fl fd : Value) (y : List Nat) (e : Ending) (w' : World) : Prop :=
  ((∃ b : Nat, e = .returned (.tuple #[.int .i64 (b : Nat), .bool false])) ∧ Below w0.heap.size w0 w' ∧ (Inf.sy y V (8 * L) p = none ∨ ∃ k q, Inf.sy y V (8 * L) p = some (k, q) ∧ (29 < k ∨ 8 * L < q + Inf.dxs.getD k 0))) ∨
  (∃ k q, Inf.sy y V (8 * L) p = some (k, q) ∧ k < 30 ∧ q + Inf.dxs.getD k 0 ≤ 8 * L ∧ e = .returned (.tuple #[.int .i64 ((Inf.dbs.getD k 0 + Inf.num V q (Inf.dxs.getD k 0) : Nat) : Int), .bool true]) ∧ Sx w0 w' g r L V (q + Inf.dxs.getD k 0) T vt M fl fd ∧ Ks w w')
set_option maxRecDepth 100000 in
set_option maxHeartbeats 1000000 in
theorem distance_any (y : List Nat) (D : Nat) (w0 w : World) (g r L V p : Nat) (T : List Int) (vt : Value) (M : Nat) (fl fd : Value) (h : Sx w0 w g r L V p T vt M fl fd) (hL : L ≤ 1000000) (hm : Inf.Mk y) (hd : Dcl w y D) :
    Calls Tryd.prog 136 #[.pointer (some ⟨g, 0, none⟩), .pointer (some ⟨D, 0, none⟩)] w fun e w' => DiO w0 w g r L V p T vt M fl fd y e w' := by
  have c0 := h.c0
  have HN := Lib.hid (snext_any y D w0 w g r L V p T vt M fl fd h hL hm hd)
  have HL := Lib.hid hL
  have HLEN : Hid (y.length ≤ 288) := hm.1.1
  clear h hL hm hd
  go_enter Tryd.func136, Tryd.ntmps136
  go_wp2_with fail
  refine HN.out.mono ?_
  rintro e w1 (⟨h1, rfl, ⟨q, h2⟩, -⟩ | ⟨k, q, h1, rfl, h2, h3⟩)
  · have H1 := Lib.hid h1
    have H2 := Lib.hid h2.bel
    clear h1 h2 HN c0
    go_wp2
    go_ret2
    exact .inl ⟨⟨0, rfl⟩, H2.out, .inl H1.out⟩
  · have H1 := Lib.hid h1
    have H2 := Lib.hid h2
    have H3 := Lib.hid h3
    have hk6 := (Inf.sy_lt h1).1
    clear h1 h2 h3 HN c0
    by_cases hk : k < 30
    · have hd30 : decide (30 ≤ (k : Int)) = false := decide_eq_false (by omega)
      obtain ⟨b1, b2⟩ := Inf.dist_small k hk
      have HTB := Lib.hid (H2.out.tabs)
      have d3 := HTB.out.db k hk
      have d4 := HTB.out.dx k hk
      have HB1 := Lib.hid b1
      have HB2 := Lib.hid b2
      have HK := Lib.hid hk
      clear b1 b2 hk6
      obtain ⟨x, hx⟩ : ∃ x, x = Inf.dbs.getD k 0 := ⟨_, rfl⟩
      obtain ⟨z, hz⟩ : ∃ z, z = Inf.dxs.getD k 0 := ⟨_, rfl⟩
      rw [← hx] at d3
      rw [← hz] at d4
      have HX := Lib.hid hx
      have HZ := Lib.hid hz
      have hkI : (k : Int) < 30 := by omega
      clear hx hz hk
      have HAB := Lib.hid (above_dz x z q w0 w g r L V T vt M fl fd HL.out (by rw [HX.out]; exact Nat.le_trans HB1.out (by omega)) (by rw [HZ.out]; exact Nat.le_trans HB2.out (by omega)))
      have HC : Hid (∀ wx, Any w0 w g r L V T vt M fl fd wx → wx.cell? ⟨3, k, none⟩ = some (.int .i64 (x : Int)) ∧ wx.cell? ⟨4, k, none⟩ = some (.int .i64 (z : Int)) ∧ Any w0 w g r L V T vt M fl fd wx) :=
        fun wx h => ⟨by rw [HX.out]; exact h.tabs.db k HK.out, by rw [HZ.out]; exact h.tabs.dx k HK.out, h⟩
      have hdz : Dz w0 w g r L V q T vt M fl fd w1 := ⟨H2.out, H3.out⟩
      have HDZ := Lib.hid hdz.drew
      have hany : Any w0 w g r L V T vt M fl fd w1 := ⟨q, hdz⟩
      clear H2 H3 HTB hdz
      go_wp2_with fail
      go_region_held3 (fun wx => wx.cell? ⟨3, k, none⟩ = some (.int .i64 (x : Int)) ∧ wx.cell? ⟨4, k, none⟩ = some (.int .i64 (z : Int)) ∧ Any w0 w g r L V T vt M fl fd wx) (first | assumption | exact HC.out _ (by assumption) | exact HC.out _ (Any.drew (by assumption))) ((go_at_call 135; (with_reducible refine (HAB.out _ (And.right (And.right (by assumption)))).mono ?_); rintro e w5 ⟨x5, ok5, rfl, ha5, hs5⟩))
      have HS5 := Lib.hid (hs5 HDZ.out)
      clear hs5 hany d3 d4 HAB HC HDZ ha5
      go_wp2
      go_ret2
      rcases HS5.out with ⟨rfl, G1, G2⟩ | ⟨rfl, G1, G2, G3, G4⟩
      · exact .inl ⟨⟨x5, rfl⟩, G2, .inr ⟨k, q, H1.out, .inr (by rw [← HZ.out]; exact G1)⟩⟩
      · refine .inr ⟨k, q, H1.out, HK.out, ?_, ?_, ?_, G4⟩
        · rw [← HZ.out]; exact G1
        · rw [← HZ.out, ← HX.out, ← G2]; rfl
        · rw [← HZ.out]; exact G3
    · have hd30 : decide (30 ≤ (k : Int)) = true := decide_eq_true (by omega)
      have HK := Lib.hid hk
      clear hk
      go_wp2
      go_ret2
      exact .inl ⟨⟨0, rfl⟩, H2.out.bel, .inr ⟨k, q, H1.out, .inl (by have := HK.out; omega)⟩⟩
end Go.Proofs.YthnpgnnnijpofaaDoor
