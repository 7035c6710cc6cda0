/- The walk of the document's Expand. -/
import Derived.Test.YtiglbjfieeicpaaLzExpS
namespace Go.Proofs.Ytiglbjfieeicpaa
open Go.RowKit Go
open Lz (Pc)

set_option maxRecDepth 100000 in
set_option maxHeartbeats 4000000 in
theorem rexp_any (l : List Pc) (a : Option Addr) (n cap : Nat) (w : World) (hn : n = l.length) (hl : n ≤ 1000000) (hB : PcsIn w (.slice a n cap) l (fun _ => True)) (hW : PcWf l) :
    Calls Try.prog 11 #[.slice a n cap] w fun e w' => ∃ v, e = .returned (.tuple #[v, .bool (Lz.ex [] l).isSome]) ∧ Ex w w' v ((Lz.ex [] l).getD []) ∧ Lz.Byt ((Lz.ex [] l).getD []) := by
  have HN := Lib.hid hn; clear hn
  have HP : Hid (∀ k p, l[k]? = some p → ∃ s o, a = some ⟨s, o, none⟩ ∧ s < w.heap.size ∧ w.cell? ⟨s, o + k * 3, none⟩ = some (.int .u8 p.c) ∧ w.cell? ⟨s, o + k * 3 + 1, none⟩ = some (.int .i64 p.n) ∧ w.cell? ⟨s, o + k * 3 + 2, none⟩ = some (.int .i64 p.d)) := by
    intro k p hk
    obtain ⟨a', cap', e, -, -, h⟩ := hB
    cases e
    obtain ⟨s, o, e, -, hs, hc⟩ := h (by have := (List.getElem?_eq_some_iff.1 hk).1; omega)
    exact ⟨s, o, e, hs, hc k p hk⟩
  have HW := Lib.hid hW; clear hW hB
  go_enter Try.func11, Try.ntmps11
  go_wp2_with fail
  go_loopw [4, 5] (fun v4 v9 wr => ∃ (k m : Nat) (t : List Int) (ad : Option Addr) (cp : Nat), k ≤ n ∧ v9 = .int .i64 (k : Int) ∧ v4 = .slice ad m cp ∧ m = t.length ∧ m ≤ 65536 ∧ Lz.ex [] (l.take k) = some t ∧ Ex w wr (.slice ad m cp) t ∧ Lz.Byt t)
    (fun _ v9 _ => (n - intOf v9).toNat)
  case atStart => exact ⟨0, 0, [], none, 0, by omega, rfl, rfl, rfl, by omega, rfl, Ex.nil w, fun x hx => by cases hx⟩
  case round =>
    obtain ⟨k, m, t, ad, cp, hk, rfl, rfl, hm, hm6, hex, hE, hbt⟩ := hrel
    have HM := Lib.hid hm; clear hm
    have HX := Lib.hid hex; clear hex
    have HE := Lib.hid hE; clear hE
    have HBT := Lib.hid hbt; clear hbt
    by_cases hlt : k < n
    · obtain ⟨p, hp⟩ : ∃ p, l[k]? = some p := ⟨_, List.getElem?_eq_getElem (by have := HN.out; omega)⟩
      obtain ⟨s, o, rfl, hs, c0, c1, c2⟩ := HP.out k p hp
      have hwf := HW.out.get hp
      have HSTEP : Hid (Lz.ex [] (l.take (k + 1)) = if Lz.fit m p then some (Lz.one t p) else none) := by
        have hkl : k < l.length := by have := HN.out; omega
        have := Lz.ex_take hkl HX.out
        rw [← HM.out] at this
        have e : l[k] = p := by rw [List.getElem?_eq_getElem hkl] at hp; exact Option.some.inj hp
        rw [e] at this
        exact this
      clear HP hp
      obtain ⟨c, N, d⟩ := p
      have hbl := HE.out.bel
      replace c0 : wr.cell? ⟨s, o + k * 3, none⟩ = some (.int .u8 c) := (hbl.cell (by exact hs)).trans c0
      replace c1 : wr.cell? ⟨s, o + k * 3 + 1, none⟩ = some (.int .i64 N) := (hbl.cell (by exact hs)).trans c1
      replace c2 : wr.cell? ⟨s, o + k * 3 + 2, none⟩ = some (.int .i64 d) := (hbl.cell (by exact hs)).trans c2
      clear hbl hs
      have HWF : Hid ((0 ≤ c ∧ c < 256) ∧ (-9223372036854775808 ≤ N ∧ N ≤ 9223372036854775807) ∧ (-9223372036854775808 ≤ d ∧ d ≤ 9223372036854775807)) := hwf
      clear hwf
      have HPB : Hid (PB (wr.alloc (.cells #[.int .u8 c, .int .i64 N, .int .i64 d] 35)) wr.heap.size c N d) := heap_alloc_new _ _
      have HE1 : Hid (Ex w (wr.alloc (.cells #[.int .u8 c, .int .i64 N, .int .i64 d] 35)) (.slice ad m cp) t) := HE.out.later ((Below.refl _ _).alloc (Nat.le_refl _) _)
      clear HE
      have hki : (k : Int) < (n : Int) := by omega
      go_wp2_with fail
      refine (right_any c N d _).mono ?_
      rintro e w2 ⟨rfl, hb2⟩
      have HPB2 := Lib.hid (HPB.out.later hb2)
      have HE2 := Lib.hid (HE1.out.later hb2)
      clear HPB HE1 hb2 c0 c1 c2
      obtain ⟨d0, d1, d2⟩ := HPB2.out.cells
      generalize hg : wr.heap.size = g at *
      clear hg
      by_cases hB : N = 0 ∧ d = 0
      · obtain ⟨rfl, rfl⟩ := hB
        rw [show (if ((0 : Int) == 0) = true then (0 : Int) == 0 else c == 0 && decide ((3 : Int) ≤ 0) && decide ((0 : Int) ≤ 258) && decide ((1 : Int) ≤ 0) && decide ((0 : Int) ≤ 32768)) = true from rfl]
        obtain ⟨y, hy⟩ : ∃ y : Int, y = max 0 1 := ⟨_, rfl⟩
        have hmax : ∀ (ts : Array TypeId) (t : TypeId) (wx : World), (Builtin.max_ ts t #[.int .i64 0, .int .i64 1]).run Try.prog wx = .ok (.int .i64 y) wx := fun ts t wx => by
          rw [run_max_int2, hy]; rfl
        replace hy : y = 1 := hy
        have hm0 : decide ((m : Int) < 0) = false := by simp
        by_cases hF : (m : Int) + 1 ≤ 65536
        · have HS : Hid (Lz.ex [] (l.take (k + 1)) = some (t ++ [c])) := by
            unfold Hid
            rw [HSTEP.out, if_pos ⟨Or.inl ⟨rfl, rfl⟩, by show (0 : Int) ≤ _; omega, by show (m : Int) + max 0 1 ≤ 65536; omega⟩]
            rfl
          have HF := Lib.hid hF
          have HM6 := Lib.hid hm6
          have HL := Lib.hid hl
          obtain ⟨q, hq⟩ : ∃ q : Int, q = (m : Int) + y := ⟨_, rfl⟩
          have hw1 : (m : Int) + y = q := hq.symm
          have hq1 : q ≤ 65536 := by omega
          have hq0 : 1 ≤ q := by omega
          have hd1 : decide ((65536 : Int) < q) = false := by simp; omega
          clear hF hm6 hl hy hq
          obtain ⟨z, hz⟩ : ∃ z, z = m + 1 := ⟨_, rfl⟩
          have HZ := Lib.hid hz
          clear hz
          have HNT : Hid (∀ v' w9 o, w9.ownsRow w.heap.size 5 1 v' (m + 1) (k8 t ++ k8 [c]) → (w2.alloc o).grownBy w9 (Value.slice ad m cp).ownBlock → Ex w w9 v' (t ++ [c]) ∧ PB w9 g c 0 0) := by
            intro v' w9 o h1 h2
            rw [HM.out] at h1
            exact ⟨HE2.out.snoc h1 h2, HPB2.out.grown HE2.out h2⟩
          go_wp2_with (first | (at_builtin; refine wpList_append_bytes rfl (.tmp 41) (.tmp 44) rfl w.heap.size _ m (k8 t) rfl (show World.ownsRow _ _ _ _ _ _ _ from by have := HE2.out.own.alloc (.cells #[.int .u8 c] 5); rw [← HM.out] at this; exact this) _ [c] (fun _ => True) rfl (one_bytes _ c) (by intro n c e; cases e) (by have := HM6.out; show m + 1 ≤ _; omega) (by have := HE2.out.bel.size; simp; omega) ?_; intro v5 w5 o5 g5; obtain ⟨q5, r5⟩ := HNT.out v5 w5 _ o5.out g5.out; obtain ⟨ad5, c5, rfl⟩ : ∃ x y, v5 = .slice x z y := (by obtain ⟨x, y, e⟩ := q5.form; exact ⟨x, y, by rw [e, List.length_append, List.length_singleton, HZ.out, HM.out]⟩); have HE5 := Lib.hid q5; have HPB5 := Lib.hid r5; clear o5 g5 q5 r5; obtain ⟨d0, d1, d2⟩ := HPB5.out.cells))
          have hl := HL.out
          clear hmax hd1 hw1 hq0 hq1
          go_loopw [4, 7] (fun v4 v45 wr2 => v4 = .slice ad5 z c5 ∧ v45 = .int .i64 0 ∧ wr2 = w5) (fun _ _ _ => 0)
          case atStart => exact ⟨rfl, rfl, rfl⟩
          case round =>
            obtain ⟨rfl, rfl, rfl⟩ := hrel
            go_wp2
            go_roundw
            case rel => exact ⟨k + 1, z, t ++ [c], ad5, c5, by omega, by congr 1, rfl, by rw [HZ.out, HM.out, List.length_append, List.length_singleton], by have := HZ.out; have := HF.out; omega, HS.out, HE5.out, Lz.byt_snoc HBT.out HWF.out.1⟩
            case measure => simp [intOf]; omega
        · have HEND : Hid (Lz.ex [] l = none) := by
            refine Lz.ex_bad (k := k + 1) ?_
            rw [HSTEP.out, if_neg]
            rintro ⟨-, -, h3⟩
            exact hF (by have h3 : (m : Int) + max 0 1 ≤ 65536 := h3; omega)
          obtain ⟨q, hq⟩ : ∃ q : Int, q = (m : Int) + y := ⟨_, rfl⟩
          have hw1 : (m : Int) + y = q := hq.symm
          have hq1 : q ≤ 100000 := by omega
          have hq0 : 1 ≤ q := by omega
          have hd1 : decide ((65536 : Int) < q) = true := by simp; omega
          clear hF hy hq
          go_wp2
          go_returns
          rw [HEND.out]
          exact ⟨_, rfl, Ex.zero HE2.out.bel, fun x hx => by cases hx⟩
      · by_cases hM : (⟨c, N, d⟩ : Pc).isM
        · obtain ⟨m0, m1, m2, m3, m4⟩ := hM
          have hrt : (if (N == 0) = true then d == 0 else c == 0 && decide (3 ≤ N) && decide (N ≤ 258) && decide (1 ≤ d) && decide (d ≤ 32768)) = true := by
            have hN0 : (N == 0) = false := by have m1 : (3 : Int) ≤ N := m1; simp; omega
            rw [hN0]
            simp_all
          rw [hrt]
          clear hrt
          obtain ⟨X, hX⟩ : ∃ X : Nat, N = X := ⟨N.toNat, by have m1 : (3 : Int) ≤ N := m1; omega⟩
          obtain ⟨D, hD⟩ : ∃ D : Nat, d = D := ⟨d.toNat, by have m3 : (1 : Int) ≤ d := m3; omega⟩
          subst hX hD
          have hX0 : 3 ≤ X := by have m1 : (3 : Int) ≤ X := m1; omega
          have hX1 : X ≤ 258 := by have m2 : (X : Int) ≤ 258 := m2; omega
          have hD0 : 1 ≤ D := by have m3 : (1 : Int) ≤ D := m3; omega
          have hD1 : D ≤ 32768 := by have m4 : (D : Int) ≤ 32768 := m4; omega
          have HM4 : Hid ((⟨c, X, D⟩ : Pc).isM) := ⟨m0, m1, m2, m3, m4⟩
          clear m0 m1 m2 m3 m4
          have HB := Lib.hid hB
          have hl0 := Lib.hid hl
          have hm60 := Lib.hid hm6
          clear hB
          by_cases hdm : D ≤ m
          · have hdd : decide (m < D) = false := by simp; omega
            have HX1 := Lib.hid hX1
            have HD1 := Lib.hid hD1
            clear hX1 hD1 hm6
            obtain ⟨y, hy⟩ : ∃ y : Int, y = max (X : Int) 1 := ⟨_, rfl⟩
            have hmax : ∀ (ts : Array TypeId) (t : TypeId) (wx : World), (Builtin.max_ ts t #[.int .i64 X, .int .i64 1]).run Try.prog wx = .ok (.int .i64 y) wx := fun ts t wx => by
              rw [run_max_int2, hy]
              congr 2
              split <;> omega
            replace hy : y = X := by rw [hy]; omega
            obtain ⟨q, hq⟩ : ∃ q : Int, q = (m : Int) + y := ⟨_, rfl⟩
            have hw1 : (m : Int) + y = q := hq.symm
            have hq9 : q ≤ 100000 := by have := HX1.out; have := hm60.out; omega
            have hq0 : 1 ≤ q := by omega
            by_cases hF : q ≤ 65536
            · have hd1 : decide ((65536 : Int) < q) = false := by simp; omega
              have HF : Hid (m + X ≤ 65536) := by unfold Hid; omega
              have HQ : Hid (y = X) := hy
              clear hy hq hF hl
              have hX00 : ((X : Int) == 0) = false := by simp; omega
              go_wp2_with fail
              clear d0 d1 d2
              go_loopw [4, 7] (fun v4 v45 wr2 => ∃ (i z : Nat) (ad' : Option Addr) (c' : Nat), i ≤ X ∧ v45 = .int .i64 (i : Int) ∧ v4 = .slice ad' z c' ∧ z = m + i ∧ Ex w wr2 (.slice ad' z c') (Lz.rep t D i) ∧ PB wr2 g c X D)
                (fun _ v45 _ => (X - intOf v45).toNat)
              case atStart => exact ⟨0, m, ad, cp, by omega, rfl, rfl, rfl, HE2.out, HPB2.out⟩
              case round =>
                obtain ⟨i, z, ad', c', hi, rfl, rfl, hz, hE6, hPB6⟩ := hrel
                have HZ := Lib.hid hz
                have HE6 := Lib.hid hE6
                have HPB6 := Lib.hid hPB6
                clear hz hE6 hPB6 HE2 HPB2
                obtain ⟨d0, d1, d2⟩ := HPB6.out.cells
                have hlen : Hid ((Lz.rep t D i).length = z) := by show (Lz.rep t D i).length = z; rw [Lz.rep_length, HZ.out, HM.out]
                by_cases hiX : i < X
                · obtain ⟨j, hj⟩ : ∃ j, z = j + D := ⟨z - D, by have := HZ.out; omega⟩
                  have hsub : (z : Int) - (D : Int) = (j : Int) := by omega
                  have hjz : j < z := by omega
                  have hz6 : z ≤ 65536 := by have := HZ.out; have := HF.out; omega
                  obtain ⟨g', rfl, k0⟩ := HE6.out.get j (by rw [hlen.out]; exact hjz)
                  have HX6 : Hid (Lz.rep t D (i + 1) = Lz.rep t D i ++ [(Lz.rep t D i).getD j 0]) := by
                    show Lz.rep t D i ++ [(Lz.rep t D i).getD ((Lz.rep t D i).length - D) 0] = _
                    rw [hlen.out, show z - D = j from by omega]
                  obtain ⟨x, hx⟩ : ∃ x, x = (Lz.rep t D i).getD j 0 := ⟨_, rfl⟩
                  rw [← hx] at HX6 k0
                  have hbx : Hid (0 ≤ x ∧ x < 256) := by unfold Hid; rw [hx]; exact Lz.byt_getD (Lz.byt_rep HBT.out D i) j
                  clear hx hj
                  obtain ⟨y1, hy1⟩ : ∃ y1, y1 = z + 1 := ⟨_, rfl⟩
                  have HY1 := Lib.hid hy1
                  clear hy1
                  have hX1 := HX1.out
                  have HNT : Hid (∀ v' w9 o, w9.ownsRow w.heap.size 5 1 v' (z + 1) (k8 (Lz.rep t D i) ++ k8 [x]) → (wr.alloc o).grownBy w9 (Value.slice (some ⟨g', 0, none⟩) z c').ownBlock → Ex w w9 v' (Lz.rep t D (i + 1)) ∧ PB w9 g c X D ∧ ∃ p q, v' = .slice p y1 q) := by
                    intro v' w9 o h1 h2
                    have h0 := h1
                    rw [← hlen.out] at h1
                    have h5 := HE6.out.snoc h1 h2
                    rw [← HX6.out] at h5
                    obtain ⟨p, q, e⟩ := own_slice h0
                    exact ⟨h5, HPB6.out.grown HE6.out h2, p, q, by rw [e, HY1.out]⟩
                  go_wp2_with (first | (at_builtin; refine wpList_append_bytes rfl (.tmp 60) (.tmp 62) rfl w.heap.size _ z (k8 (Lz.rep t D i)) rfl (show World.ownsRow _ _ _ _ _ _ _ from by have := HE6.out.own.alloc (.cells #[.int .u8 x] 5); rw [hlen.out] at this; exact this) _ [x] (fun _ => True) rfl (one_bytes _ x) (by intro n c e; cases e) (by show z + 1 ≤ _; omega) (by have := HE6.out.bel.size; simp; omega) ?_; intro v7 w7 o7 g7; obtain ⟨q7, r7, ad7, c7, rfl⟩ := HNT.out v7 w7 _ o7.out g7.out; have HE7 := Lib.hid q7; have HPB7 := Lib.hid r7; clear o7 g7 q7 r7 d0 d1 d2 hsub k0))
                  go_roundw
                  case rel => exact ⟨i + 1, y1, ad7, c7, by omega, by congr 1, rfl, by rw [HY1.out, HZ.out, Nat.add_assoc], HE7.out, HPB7.out⟩
                  case measure => simp [intOf]; omega
                · obtain rfl : i = X := by omega
                  have hl := hl0.out
                  clear hd1 hq0 hmax
                  go_wp2
                  go_roundw
                  case rel =>
                    refine ⟨k + 1, z, Lz.rep t D i, ad', c', by omega, by congr 1, rfl, hlen.out.symm, by have := HZ.out; have := HF.out; omega, ?_, HE6.out, Lz.byt_rep HBT.out _ _⟩
                    rw [HSTEP.out, if_pos ⟨Or.inr HM4.out, by show (D : Int) ≤ m; omega, by have := HF.out; show (m : Int) + max (i : Int) 1 ≤ 65536; omega⟩]
                    show some (if (i : Int) = 0 then _ else Lz.rep t (D : Int).toNat (i : Int).toNat) = _
                    rw [if_neg (by omega), Int.toNat_natCast, Int.toNat_natCast]
                  case measure => simp [intOf]; omega
            · have HEND : Hid (Lz.ex [] l = none) := by
                refine Lz.ex_bad (k := k + 1) ?_
                rw [HSTEP.out, if_neg]
                rintro ⟨-, -, h3⟩
                have h3 : (m : Int) + max (X : Int) 1 ≤ 65536 := h3
                omega
              have hd1 : decide ((65536 : Int) < q) = true := by simp; omega
              go_wp2
              go_returns
              rw [HEND.out]
              exact ⟨_, rfl, Ex.zero HE2.out.bel, fun x hx => by cases hx⟩
          · have HEND : Hid (Lz.ex [] l = none) := by
              refine Lz.ex_bad (k := k + 1) ?_
              rw [HSTEP.out, if_neg]
              rintro ⟨-, h2, -⟩
              have h2 : (D : Int) ≤ m := h2
              omega
            have hdd : decide (m < D) = true := by simp; omega
            clear hdm
            go_wp2
            go_returns
            rw [HEND.out]
            exact ⟨_, rfl, Ex.zero HE2.out.bel, fun x hx => by cases hx⟩
        · have hrf : (if (N == 0) = true then d == 0 else c == 0 && decide (3 ≤ N) && decide (N ≤ 258) && decide (1 ≤ d) && decide (d ≤ 32768)) = false := by
            by_cases hN0 : N = 0
            · have hd0 : d ≠ 0 := fun e => hB ⟨hN0, e⟩
              simp [hN0, hd0]
            · rw [if_neg (by simpa using hN0)]
              by_cases h : (c == 0 && decide (3 ≤ N) && decide (N ≤ 258) && decide (1 ≤ d) && decide (d ≤ 32768)) = true
              · simp only [Bool.and_eq_true, beq_iff_eq, decide_eq_true_eq] at h
                exact absurd ⟨h.1.1.1.1, h.1.1.1.2, h.1.1.2, h.1.2, h.2⟩ hM
              · simpa using h
          rw [hrf]
          have HEND : Hid (Lz.ex [] l = none) := by
            refine Lz.ex_bad (k := k + 1) ?_
            rw [HSTEP.out, if_neg]
            rintro ⟨h1 | h1, -⟩
            · exact hB h1
            · exact hM h1
          go_wp2
          go_returns
          rw [HEND.out]
          exact ⟨_, rfl, Ex.zero HE2.out.bel, fun x hx => by cases hx⟩
    · obtain rfl : k = n := by omega
      have HEND : Hid (Lz.ex [] l = some t) := by
        have := HX.out
        rw [HN.out, List.take_length] at this
        exact this
      go_wp2
      go_returns
      rw [HEND.out]
      refine ⟨_, rfl, ?_, HBT.out⟩
      exact HE.out
end Go.Proofs.Ytiglbjfieeicpaa
