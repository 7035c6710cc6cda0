/- The walk of the law BitioParts. -/
import Derived.Test.YtkfbcekhegdmjaaBitPartsS
namespace Go.Proofs.Ytkfbcekhegdmjaa
open Go.RowKit Go

set_option maxRecDepth 100000 in
set_option maxHeartbeats 4000000 in
theorem bparts_core (a : Option Addr) (n cap : Nat) (B : List Int) (a2 : Option Addr) (m c2 : Nat) (N : Nat → Int) (w : World) (hn : n = B.length) (hB : BytesIn w (.slice a n cap) B (fun _ => True)) (hb : ∀ x ∈ B, 0 ≤ x ∧ x < 256) (hl : n ≤ 200) (hI : Ints w a2 m c2 N) (hm : m ≤ 300) :
    Calls Try.prog 8 #[.slice a n cap, .slice a2 m c2] w fun e w' => e = .returned (.bool true) ∧ Below w.heap.size w w' := by
  have HNEW := Lib.hid (fun wx hb0 => PP.new w wx B a n cap hb0 hn hB hb (by omega))
  obtain ⟨V, hV⟩ : ∃ V, V = Bit.val B := ⟨_, rfl⟩
  have HDONE := Lib.hid (fun wx gw gr G h => PP.done (w0 := w) (w := wx) (gw := gw) (gr := gr) (L := n) (V := V) (G := G) B a cap (by omega) hB hn hb hV h)
  rw [← hV] at HNEW
  clear hV hn hB hb
  have HI := Lib.hid hI; clear hI
  have HL := Lib.hid hl
  have hlI : (n : Int) ≤ 200 := by omega
  have hmI : (m : Int) ≤ 300 := by omega
  have HM := Lib.hid hm; clear hm hl
  have HAW := Lib.hid (awake_any w)
  go_enter Try.func8, Try.ntmps8
  go_wp2_with fail
  refine HAW.out.mono ?_
  rintro e w1 ⟨rfl, hb1⟩
  have HB1 := Lib.hid hb1; clear hb1 HAW
  go_wp2_with fail
  refine (HNEW.out _ HB1.out).mono ?_
  rintro e w2 ⟨gw, rfl, h2⟩
  clear HNEW HB1
  go_wp2_with fail
  refine h2.out.mono ?_
  rintro e w3 ⟨gr, rfl, h3⟩
  clear h2
  obtain ⟨G, hpp⟩ := h3.out
  have HPP := Lib.hid hpp; clear hpp h3
  go_wp2_with fail
  go_loopw [7] (fun v7 wr => ∃ i p : Nat, i ≤ p ∧ p ≤ 8 * n ∧ v7 = .int .i64 (i : Int) ∧ PP w wr gw p (V % 2 ^ p) gr p n V G) (fun v7 _ => (8 * n - intOf v7).toNat)
  case atStart => exact ⟨0, 0, by omega, by omega, rfl, HPP.out⟩
  case round =>
    clear HPP
    obtain ⟨i, p, hip, hp, rfl, hpp⟩ := hrel
    have HPP := Lib.hid hpp; clear hpp
    have HLF : Hid (∀ wx, PP w wx gw p (V % 2 ^ p) gr p n V G → Calls Try.prog 30 #[.pointer (some ⟨gr, 0, none⟩)] wx fun e w' => e = .returned (.int .i64 ((8 * n - p : Nat) : Int)) ∧ Hid (PP w w' gw p (V % 2 ^ p) gr p n V G)) := fun wx h => h.left (by have := HL.out; omega)
    by_cases hlt : p < 8 * n
    · have hp8 : (p : Int) ≤ 1600 := by have := HL.out; omega
      have hi8 : (i : Int) ≤ 1600 := by omega
      have HST := Lib.hid (fun wx k hn hl h => PP.step (w0 := w) (w := wx) (gw := gw) (gr := gr) (p := p) (L := n) (V := V) (G := G) k (by have := HL.out; omega) hn hl h)
      obtain ⟨rs, hrs⟩ : ∃ rs, 8 * n - p = rs := ⟨_, rfl⟩
      rw [hrs] at HLF
      have hrs0 : (0 : Int) < (rs : Int) := by omega
      have hrsI : 8 * (n : Int) - (p : Int) = (rs : Int) := by omega
      obtain ⟨s7, hs7⟩ : ∃ s7 : Nat, (i : Int) % 7 = (s7 : Int) := ⟨i % 7, by omega⟩
      have hs77 : (s7 : Int) < 7 := by omega
      have HRS := Lib.hid hrs; clear hrs
      have HLT := Lib.hid hlt; clear hlt
      have HIP := Lib.hid hip; clear hip
      have HPL := Lib.hid hp; clear hp
      rcases Nat.eq_zero_or_pos m with hm0 | hm0
      · obtain ⟨k, hk⟩ : ∃ k : Nat, (if (rs : Int) < 1 + (s7 : Int) then (rs : Int) else 1 + (s7 : Int)) = (k : Int) := ⟨min rs (1 + s7), by split <;> omega⟩
        have HKB : Hid (1 ≤ k ∧ k ≤ 32 ∧ k ≤ rs) := by
          have : 1 ≤ k ∧ k ≤ 32 ∧ k ≤ rs := by split at hk <;> omega
          exact this
        have hmin : ∀ (ts : Array TypeId) (t : TypeId) (wx : World), (Builtin.min_ ts t #[.int .i64 (1 + (s7 : Int)), .int .i64 (rs : Int)]).run Try.prog wx = .ok (.int .i64 (k : Int)) wx := fun ts t wx => by rw [run_min_int2, hk]
        clear hk
        have HG := Lib.hid (fun wx h => HST.out wx k (by have := HKB.out; omega) (by have := HKB.out; have := HRS.out; omega) h)
        have hd0 : decide (0 < m) = false := decide_eq_false (by omega)
        clear HST hm0
        go_wp2_with fail
        refine (HLF.out _ HPP.out).mono ?_
        rintro e w4 ⟨rfl, h4⟩
        clear HPP
        go_wp2_with fail
        refine (HLF.out _ h4.out).mono ?_
        rintro e w5 ⟨rfl, h5⟩
        clear HLF h4
        go_wp2_with fail
        refine (HG.out _ h5.out).mono ?_
        rintro e w6 ⟨rfl, h6⟩
        clear HG h5
        go_wp2_with fail
        refine h6.out.mono ?_
        rintro e w7 ⟨rfl, h7⟩
        clear h6
        go_wp2_with fail
        refine h7.out.mono ?_
        rintro e w8 ⟨rfl, h8⟩
        clear h7
        have HR : Hid (i + 1 ≤ p + k ∧ p + k ≤ 8 * n ∧ i < 8 * n) := by
          have h1 := HKB.out; have h2 := HRS.out; have h3 := HLT.out; have h4 := HIP.out
          exact ⟨by omega, by omega, by omega⟩
        clear hs7 hrsI hmin hs77 hrs0
        go_wp2
        exact ⟨⟨i + 1, p + k, HR.out.1, HR.out.2.1, by go_num, h8.out⟩, by have := HR.out; simp [intOf]; omega⟩
      · obtain ⟨s, o, rfl, hsw, k0⟩ := HI.out.at_ (i % m) (Nat.mod_lt _ hm0)
        have HK : Hid (∀ wx, Below w.heap.size w wx → wx.cell? ⟨s, o + i % m, none⟩ = some (.int .i64 (N (i % m)))) := fun wx hb => (hb.cell (by exact hsw)).trans k0
        clear k0 hsw
        obtain ⟨sz, hsz⟩ : ∃ sz : Nat, N (i % m) % 32 = (sz : Int) := ⟨(N (i % m) % 32).toNat, by omega⟩
        have hsz32 : (sz : Int) < 32 := by omega
        have HPK : Hid (∀ wx, Calls Try.prog 32 #[.int .i64 (N (i % m)), .int .i64 32] wx fun e w' => e = .returned (.int .i64 (sz : Int)) ∧ w' = wx) := fun wx => by
          have := pick_any (N (i % m)) 32 wx (HI.out.n _).1 (HI.out.n _).2 (by omega) (by omega)
          rw [hsz] at this
          exact this
        have hmod : i % m < m := Nat.mod_lt _ hm0
        have hem : (i : Int) % (m : Int) = ((i % m : Nat) : Int) := by omega
        have hmodI : ((i % m : Nat) : Int) < (m : Int) := by omega
        clear hsz
        generalize N (i % m) = ni at *
        generalize i % m = im at *
        have hm0I : (0 : Int) < (m : Int) := by omega
        have hmne : (m : Int) ≠ 0 := by omega
        obtain ⟨k, hk⟩ : ∃ k : Nat, (if (rs : Int) < 1 + (sz : Int) then (rs : Int) else 1 + (sz : Int)) = (k : Int) := ⟨min rs (1 + sz), by split <;> omega⟩
        have HKB : Hid (1 ≤ k ∧ k ≤ 32 ∧ k ≤ rs) := by
          have : 1 ≤ k ∧ k ≤ 32 ∧ k ≤ rs := by split at hk <;> omega
          exact this
        have hmin : ∀ (ts : Array TypeId) (t : TypeId) (wx : World), (Builtin.min_ ts t #[.int .i64 (1 + (sz : Int)), .int .i64 (rs : Int)]).run Try.prog wx = .ok (.int .i64 (k : Int)) wx := fun ts t wx => by rw [run_min_int2, hk]
        clear hk
        have HG := Lib.hid (fun wx h => HST.out wx k (by have := HKB.out; omega) (by have := HKB.out; have := HRS.out; omega) h)
        clear HST
        go_wp2_with fail
        refine (HLF.out _ HPP.out).mono ?_
        rintro e w4 ⟨rfl, h4⟩
        clear HPP
        have kk := HK.out w4 h4.out.bel
        go_wp2_with fail
        refine (HPK.out _).mono ?_
        rintro e w' ⟨rfl, rfl⟩
        clear HPK kk
        go_wp2_with fail
        refine (HLF.out _ h4.out).mono ?_
        rintro e w5 ⟨rfl, h5⟩
        clear HLF h4
        go_wp2_with fail
        refine (HG.out _ h5.out).mono ?_
        rintro e w6 ⟨rfl, h6⟩
        clear HG h5
        go_wp2_with fail
        refine h6.out.mono ?_
        rintro e w7 ⟨rfl, h7⟩
        clear h6
        go_wp2_with fail
        refine h7.out.mono ?_
        rintro e w8 ⟨rfl, h8⟩
        clear h7
        have HR : Hid (i + 1 ≤ p + k ∧ p + k ≤ 8 * n ∧ i < 8 * n) := by
          have h1 := HKB.out; have h2 := HRS.out; have h3 := HLT.out; have h4 := HIP.out
          exact ⟨by omega, by omega, by omega⟩
        go_wp2
        exact ⟨⟨i + 1, p + k, HR.out.1, HR.out.2.1, by go_num, h8.out⟩, by have := HR.out; simp [intOf]; omega⟩
    · obtain rfl : p = 8 * n := by omega
      rw [Nat.sub_self] at HLF
      have HD := HDONE
      clear HDONE
      go_wp2_with fail
      refine (HLF.out _ HPP.out).mono ?_
      rintro e w4 ⟨rfl, h4⟩
      have HX := HD.out _ _ _ _ h4.out
      have HX := Lib.hid HX
      clear HD HLF HPP h4
      have h8 : ((8 * n : Nat) : Int) = 8 * (n : Int) := by omega
      rw [h8] at HX
      go_wp2_with fail
      refine HX.out.mono ?_
      rintro e w5 ⟨rfl, h5⟩
      clear HX
      go_wp2_with fail
      refine h5.out.mono ?_
      rintro e w6 ⟨v, rfl, h6⟩
      clear h5
      go_wp2_with fail
      refine h6.out.mono ?_
      rintro e w7 ⟨rfl, h7⟩
      clear h6
      go_wp2
      go_ret
      exact ⟨rfl, h7.out⟩
theorem bparts_walk (a : Option Addr) (n cap : Nat) (B : List Int) (a2 : Option Addr) (m c2 : Nat) (N : Nat → Int) (w : World) (hn : n = B.length) (hB : BytesIn w (.slice a n cap) B (fun _ => True)) (hb : ∀ x ∈ B, 0 ≤ x ∧ x < 256) (_ : a = none → cap = 0) (_ : n ≤ 140737488351232)
    (hI : Ints w a2 m c2 N) :
    Calls Try.prog 8 #[.slice a n cap, .slice a2 m c2] w fun e w' => e = .returned (.bool true) ∧ Below w.heap.size w w' := by
  by_cases hl : n ≤ 200 ∧ m ≤ 300
  · exact bparts_core a n cap B a2 m c2 N w hn hB hb hl.1 hI hl.2
  · have HA := Lib.hid (awake_any w)
    clear hn hB hb hI
    by_cases h1 : n ≤ 200
    · have d1 : decide ((200 : Int) < (n : Int)) = false := decide_eq_false (by omega)
      have d2 : decide ((300 : Int) < (m : Int)) = true := decide_eq_true (by omega)
      clear hl h1
      go_enter Try.func8, Try.ntmps8
      go_wp2_with fail
      refine HA.out.mono ?_
      rintro e w6 ⟨rfl, hb6⟩
      have HE6 := Lib.hid hb6; clear hb6
      go_wp2
      go_ret
      exact ⟨rfl, HE6.out⟩
    · have d1 : decide ((200 : Int) < (n : Int)) = true := decide_eq_true (by omega)
      clear hl h1
      go_enter Try.func8, Try.ntmps8
      go_wp2_with fail
      refine HA.out.mono ?_
      rintro e w6 ⟨rfl, hb6⟩
      have HE6 := Lib.hid hb6; clear hb6
      go_wp2
      go_ret
      exact ⟨rfl, HE6.out⟩
end Go.Proofs.Ytkfbcekhegdmjaa
