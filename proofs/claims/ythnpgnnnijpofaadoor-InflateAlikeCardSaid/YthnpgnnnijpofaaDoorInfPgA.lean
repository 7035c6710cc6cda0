/- The walks of the program's room, letter, above, times, distance. -/
import Derived.Test.YthnpgnnnijpofaaDoorInfPg
namespace Go.Proofs.YthnpgnnnijpofaaDoor
open Go.RowKit Go

theorem room_any (k : Nat) (w0 w : World) (g r L V p : Nat) (T : List Int) (vt : Value) (M : Nat) (fl fd : Value) (h : Sx w0 w g r L V p T vt M fl fd) (hk : k ≤ 100000) (hT : T.length ≤ 65536) (hM : M ≤ 65536) :
    Calls Tryd.prog 95 #[.pointer (some ⟨g, 0, none⟩), .int .i64 (k : Int)] w fun e w' => e = .returned (.bool (decide ((k : Int) ≤ (M : Int) - (T.length : Int)))) ∧ Drawn w w' := by
  obtain ⟨a, cap, rfl⟩ := h.form
  have c1 := h.c1
  have c2 := h.c2
  have hkI : (k : Int) ≤ 100000 := by omega
  have hTI : (T.length : Int) ≤ 65536 := by omega
  have hMI : (M : Int) ≤ 65536 := by omega
  clear h hk hM hT
  generalize T.length = t at *
  go_enter Tryd.func95, Tryd.ntmps95
  go_wp2_with fail
  go_quiet (fail)
  go_wp2
  go_ret
  exact ⟨rfl, ⟨nq, rfl⟩⟩

/-- a byte behind the text, or no room -/
def LeO (w0 w : World) (g r L V p : Nat) (T : List Int) (M : Nat) (fl fd : Value) (c : Int) (e : Ending) (w' : World) : Prop :=
  (M ≤ T.length ∧ e = .returned (.int .i64 3) ∧ Below w0.heap.size w0 w') ∨ (T.length < M ∧ e = .returned (.int .i64 0) ∧ (∃ vt', Sx w0 w' g r L V p (T ++ [c]) vt' M fl fd) ∧ Ks w w')
set_option maxHeartbeats 1000000 in
theorem letter_any (c : Int) (w0 w : World) (g r L V p : Nat) (T : List Int) (vt : Value) (M : Nat) (fl fd : Value) (h : Sx w0 w g r L V p T vt M fl fd) (hT : T.length ≤ 65536) (hM : M ≤ 65536) :
    Calls Tryd.prog 97 #[.pointer (some ⟨g, 0, none⟩), .int .u8 c] w fun e w' => LeO w0 w g r L V p T M fl fd c e w' := by
  have HR := Lib.hid (room_any 1 w0 w g r L V p T vt M fl fd h (by omega) hT hM)
  obtain ⟨a1, cp1, rfl⟩ := h.form
  have HH := Lib.hid h
  clear h
  by_cases hlt : T.length < M
  · have hd : decide (((1 : Nat) : Int) ≤ (M : Int) - (T.length : Int)) = true := decide_eq_true (by omega)
    rw [hd] at HR
    have HLT := Lib.hid hlt
    have HT := Lib.hid hT
    clear hlt hd hT hM
    go_enter Tryd.func97, Tryd.ntmps97
    go_wp2_with fail
    refine HR.out.mono ?_
    rintro e w1 ⟨rfl, hd⟩
    have HS1 := Lib.hid (HH.out.drawn hd)
    have HK1 := Lib.hid (Ks.drawn hd)
    clear HH hd HR
    have c1 := HS1.out.c1
    have HS2 : Hid (Sx w0 (w1.alloc (.cells #[.int .u8 c] 5)) g r L V p T (.slice a1 T.length cp1) M fl fd) := HS1.out.later ((Below.refl _ _).alloc (Nat.le_refl _) _)
    have HK2 : Hid (Ks w (w1.alloc (.cells #[.int .u8 c] 5))) := HK1.out.trans (Ks.below ((Below.refl _ _).alloc (Nat.le_refl _) _))
    clear HS1 HK1
    have hown := HS2.out.txt
    have hsz := HS2.out.bel.size
    have hszr := HS2.out.rd.row
    go_wp2_with (first | (at_builtin; refine wpList_append_bytes rfl (.tmp 12) (.tmp 14) rfl (w0.heap.size + 1) _ T.length (k8 T) rfl hown (.slice (some ⟨w1.heap.size, 0, none⟩) 1 1) [c] (fun _ => True) rfl (one_bytes _ c) (fun n c h => by cases h) (by have := HT.out; simp; omega) (by have := Inf.lt_some hszr; have := HS2.out.rlo; omega) ?_; intro v' w7 ho7 hg7; obtain ⟨a7, c7, rfl⟩ := own_form ho7.out; obtain ⟨⟨u, k1⟩, k2, k3, k4⟩ := HS2.out.app ho7.out hg7.out; have HNX := Lib.hid k3; have HNK := Lib.hid k4; clear k3 k4 ho7 hg7))
    go_ret
    exact .inr ⟨HLT.out, rfl, ⟨_, HNX.out⟩, HK2.out.trans HNK.out⟩
  · have hd : decide (((1 : Nat) : Int) ≤ (M : Int) - (T.length : Int)) = false := decide_eq_false (by omega)
    rw [hd] at HR
    have HLT := Lib.hid hlt
    clear hlt hd hT hM
    go_enter Tryd.func97, Tryd.ntmps97
    go_wp2_with fail
    refine HR.out.mono ?_
    rintro e w1 ⟨rfl, hd⟩
    have HB := Lib.hid (HH.out.drawn hd).bel
    clear hd
    go_wp2
    go_ret
    exact .inl ⟨by have := HLT.out; omega, rfl, HB.out⟩

/-- a number above a base, or none -/
def AbO (w0 w : World) (g r L V p : Nat) (T : List Int) (vt : Value) (M : Nat) (fl fd : Value) (b n : Nat) (e : Ending) (w' : World) : Prop :=
  (8 * L < p + n ∧ e = .returned (.tuple #[.int .i64 (b : Nat), .bool false]) ∧ Sx w0 w' g r L V p T vt M fl fd ∧ Ks w w') ∨
  (p + n ≤ 8 * L ∧ e = .returned (.tuple #[.int .i64 ((b + Inf.num V p n : Nat) : Int), .bool true]) ∧ Sx w0 w' g r L V (p + n) T vt M fl fd ∧ Ks w w')
theorem above_any (b n : Nat) (w0 w : World) (g r L V p : Nat) (T : List Int) (vt : Value) (M : Nat) (fl fd : Value) (h : Sx w0 w g r L V p T vt M fl fd) (hL : L ≤ 1000000) (hb : b ≤ 100000) (hn : n ≤ 16) :
    Calls Tryd.prog 135 #[.pointer (some ⟨g, 0, none⟩), .int .i64 (b : Int), .int .i64 (n : Int)] w fun e w' => AbO w0 w g r L V p T vt M fl fd b n e w' := by
  have c0 := h.c0
  have HH := Lib.hid h
  clear h
  by_cases hlt : p + n ≤ 8 * L
  · have HG := Lib.hid (sget_any n w0 w g r L V p T vt M fl fd HH.out hL (by omega) hlt)
    have HLT := Lib.hid hlt
    obtain ⟨x, hx⟩ : ∃ x, x = Inf.num V p n := ⟨_, rfl⟩
    have hx6 : x < 65536 := by
      rw [hx]
      have h1 := Inf.num_lt V p n
      have h2 : 2 ^ n ≤ 2 ^ 16 := Nat.pow_le_pow_right (by omega) hn
      omega
    rw [← hx] at HG
    have HX := Lib.hid hx
    obtain ⟨y, hy⟩ : ∃ y, y = b + x := ⟨_, rfl⟩
    have hyI : (b : Int) + (x : Int) = (y : Int) := by omega
    have HY := Lib.hid hy
    have hxI : (x : Int) < 65536 := by omega
    have hbI : (b : Int) ≤ 100000 := by omega
    have hyw : IntKind.i64.wrap (x : Int) = (x : Int) := by rw [IntKind.wrap_i64]; omega
    clear hlt hx hy hx6 hb hn hL
    go_enter Tryd.func135, Tryd.ntmps135
    go_wp2_with fail
    refine HG.out.mono ?_
    rintro e w1 ⟨rfl, h1, h2⟩
    have H1 := Lib.hid h1
    have H2 := Lib.hid h2
    clear h1 h2 c0
    go_wp2
    go_ret2
    exact .inr ⟨HLT.out, by rw [← HX.out, ← HY.out]; rfl, H1.out, H2.out⟩
  · have HG := Lib.hid (sget_no n w0 w g r L V p T vt M fl fd HH.out hL (by omega))
    have HLT := Lib.hid hlt
    have hbI : (b : Int) ≤ 100000 := by omega
    clear hlt hb hn hL
    go_enter Tryd.func135, Tryd.ntmps135
    go_wp2_with fail
    refine HG.out.mono ?_
    rintro e w1 ⟨rfl, h1⟩
    have H1 := Lib.hid (HH.out.drawn h1)
    have H2 := Lib.hid (Ks.drawn h1)
    clear h1 c0
    go_wp2
    go_ret2
    exact .inl ⟨by have := HLT.out; omega, rfl, H1.out, H2.out⟩
end Go.Proofs.YthnpgnnnijpofaaDoor
