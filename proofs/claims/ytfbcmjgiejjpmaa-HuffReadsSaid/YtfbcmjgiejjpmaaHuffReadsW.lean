/- The walk of the law HuffReads. -/
import Derived.Test.YtfbcmjgiejjpmaaHufReadS
namespace Go.Proofs.Ytfbcmjgiejjpmaa
open Go.RowKit Go

theorem Ints.congr {w : World} {a : Option Addr} {n cap : Nat} {L L' : Nat → Int} (h : Ints w a n cap L) (e : ∀ t, t < n → L t = L' t) : Ints w a n cap L' :=
  ⟨h.le, fun hn => by
    obtain ⟨s, o, e1, h1, h2⟩ := h.ad hn
    exact ⟨s, o, e1, h1, fun j hj => by rw [h2 j hj, e j hj]⟩⟩

set_option maxRecDepth 100000 in
set_option maxHeartbeats 4000000 in
theorem reads_walk (a : Option Addr) (n cap : Nat) (L : Nat → Int) (a2 : Option Addr) (n2 cap2 : Nat) (B : List Int) (w : World) (hI : Ints w a n cap L) (_hb : ∀ i, -9223372036854775808 ≤ L i ∧ L i ≤ 9223372036854775807) (_hn : a = none → cap = 0)
    (hn2 : n2 = B.length) (hB : BytesIn w (.slice a2 n2 cap2) B (fun _ => True)) (hbd : ∀ x ∈ B, 0 ≤ x ∧ x < 256) (_hna : a2 = none → cap2 = 0) (_hl : n2 ≤ 140737488351232) :
    Calls Try.prog 5 #[.slice a n cap, .slice a2 n2 cap2] w fun e w' => e = .returned (.bool true) ∧ Below w.heap.size w w' := by
  have HAW := Lib.hid (awake_any w)
  have HI : Hid (Ints w a n cap L) := hI
  have HB : Hid (n2 = B.length ∧ BytesIn w (.slice a2 n2 cap2) B (fun _ => True) ∧ ∀ x ∈ B, 0 ≤ x ∧ x < 256) := ⟨hn2, hB, hbd⟩
  clear hI _hb _hn hn2 hB hbd _hna _hl
  go_enter Try.func5, Try.ntmps5
  go_wp2_with fail
  refine HAW.out.mono ?_
  rintro e w1 ⟨rfl, hb1⟩
  have HB1 := Lib.hid hb1
  clear hb1 HAW
  by_cases h300 : 300 < n
  · have hd : decide (300 < n) = true := decide_eq_true h300
    go_wp2
    go_returns
    exact ⟨rfl, HB1.out⟩
  · have hd : decide (300 < n) = false := decide_eq_false h300
    by_cases h40 : 40 < n2
    · have hd2 : decide (40 < n2) = true := decide_eq_true h40
      go_wp2
      go_returns
      exact ⟨rfl, HB1.out⟩
    · have hd2 : decide (40 < n2) = false := decide_eq_false h40
      have hnI : (n : Int) ≤ 300 := by omega
      have hn2I : (n2 : Int) ≤ 40 := by omega
      have HNW := new_any a n cap L w1 (HI.out.later HB1.out) (by omega)
      go_wp2_with fail
      refine HNW.mono ?_
      rintro e w2 ⟨hb2, hr⟩
      have HB2 : Hid (Below w.heap.size w w2) := HB1.out.trans (hb2.mono HB1.out.size)
      clear hb2 HNW HB1
      have HMK := refMakes_any a n cap L w2 (HI.out.later HB2.out) (by omega)
      rcases hr with ⟨hm, D, hns, rfl⟩ | ⟨hno, rfl⟩
      · have HM := Lib.hid hm; clear hm
        have HDC : Hid (DcR w2 D (Huf.cnt L n) (Huf.syms L n 16)) := hns.dcr
        clear hns
        go_wp2_with fail
        refine HMK.mono ?_
        rintro e w3 ⟨rfl, hr⟩
        clear HMK
        rcases hr with ⟨_, rfl⟩ | ⟨hno, _⟩
        · obtain ⟨V, hV⟩ : ∃ V, V = Bit.val B := ⟨_, rfl⟩
          have HV := Lib.hid hV; clear hV
          have HBY : Hid (BytesIn w3 (.slice a2 n2 cap2) (Bit.by V n2) (fun _ => True)) := by
            rw [HV.out, HB.out.1, Bit.by_val B HB.out.2.2, ← HB.out.1]
            exact later_bytes HB2.out HB.out.2.1
          go_wp2_with fail
          go_loopw [6, 7] (fun v6 v7 wr => ∃ (i : Nat) (a6 : Option Addr) (c6 : Nat), i ≤ 8 * n2 ∧ v7 = .int .i64 (i : Int) ∧ v6 = .slice a6 i c6 ∧ Grw w3 wr (bl V i) (.slice a6 i c6)) (fun _ v7 _ => (8 * n2 - intOf v7).toNat)
          case atStart => exact ⟨0, none, 0, by omega, rfl, rfl, Below.refl _ _, World.ownsRow_nil _ _ _ _⟩
          case round =>
            obtain ⟨i, a6, c6, hi, rfl, rfl, hgw⟩ := hrel
            have HG := Lib.hid hgw; clear hgw
            have hi6 : (i : Int) ≤ 320 := by omega
            by_cases hlt : i < 8 * n2
            · have hdi : decide (i < 8 * n2) = true := decide_eq_true hlt
              have hdi2 : decide ((i : Int) < 8 * (n2 : Int)) = true := decide_eq_true (by omega)
              have hq : i / 8 < n2 := by omega
              have hby := later_bytes HG.out.bel HBY.out
              obtain ⟨s, o, rfl, c2⟩ : ∃ s o, a2 = some ⟨s, o, none⟩ ∧ wr.cell? ⟨s, o + i / 8, none⟩ = some (.int .u8 ((Bit.b V (i / 8) : Nat) : Int)) := by
                obtain ⟨a', cap', e, _, _, hc⟩ := hby
                obtain ⟨s, o, e1, _, _, hc⟩ := hc (by rw [Bit.by_length]; omega)
                injection e with e2 _ _
                rw [← e2] at e1
                refine ⟨s, o, e1, ?_⟩
                rw [hc _ (by rw [Bit.by_length]; exact hq), Bit.by_get _ _ _ hq]
              have hbb : Bit.b V (i / 8) < 256 := Nat.mod_lt _ (by omega)
              have hbit := Bit.bit8 V i
              have e1 : (i : Int) / 8 = ((i / 8 : Nat) : Int) := by omega
              have e2 : (i : Int) % 8 = ((i % 8 : Nat) : Int) := by omega
              have e3 : ((i / 8 : Nat) : Int) < (n2 : Int) := by omega
              have e4 : ((i % 8 : Nat) : Int) < 8 := by omega
              have HOWN : Hid (wr.ownsRow w3.heap.size 3 1 (.slice a6 i c6) i (nv (bl V i))) := by
                have := HG.out.own
                rw [bl_length] at this
                exact this
              have HNX0 : Hid (∀ v' w7 o, World.ownsRow w7 w3.heap.size 3 1 v' (i + 1) (nv (bl V i) ++ [.int .i64 (V / 2 ^ i % 2 : Nat)]) → (wr.alloc o).grownBy w7 (Value.slice a6 i c6).ownBlock → ∃ a7 c7, v' = .slice a7 (i + 1) c7 ∧ Grw w3 w7 (bl V (i + 1)) (.slice a7 (i + 1) c7)) := fun v' w7 o h1 h2 => by
                obtain ⟨a7, c7, rfl⟩ := own_form h1
                refine ⟨a7, c7, rfl, ?_⟩
                rw [bl_succ]; exact HG.out.app (by rw [bl_length]; exact h1) h2
              have HSZ : Hid (w3.heap.size ≤ wr.heap.size) := HG.out.bel.size
              have HLEN : Hid (i ≤ 1000000) := by show _ ≤ _; omega
              generalize Bit.b V (i / 8) = y at *
              generalize hgq : i / 8 = q at *
              generalize hgr : i % 8 = r at *
              have ey : (y : Int) / 2 ^ r = ((y / 2 ^ r : Nat) : Int) := by push_cast; rfl
              have hy8 : y / 2 ^ r < 256 := Nat.lt_of_le_of_lt (Nat.div_le_self _ _) hbb
              have hand := Bit.and64_1 _ hy8
              rw [hbit] at hand
              generalize y / 2 ^ r = z at *
              generalize V / 2 ^ i % 2 = t at *
              clear hbit hbb hgq hgr hby HG
              go_wp2_with (first | (at_builtin; refine wpList_append_int rfl (.tmp 40) (.tmp 52) rfl w3.heap.size (.slice a6 i c6) i (nv (bl V i)) rfl (HOWN.out.alloc _) wr.heap.size t rfl (heap_alloc_new _ _) HLEN.out (by have := HSZ.out; simp; omega) ?_; intro v' w7 ho7 hg7; obtain ⟨a7, c7, rfl, hnx⟩ := HNX0.out _ _ _ ho7.out hg7.out; have HNX := Lib.hid hnx; clear hnx ho7 hg7))
              exact ⟨⟨i + 1, a7, c7, by omega, by go_num, rfl, HNX.out⟩, by simp [intOf]; omega⟩
            · obtain ⟨m, hm⟩ : ∃ m, m = 8 * n2 := ⟨_, rfl⟩
              obtain rfl : i = m := by omega
              have hdi : decide (i < 8 * n2) = false := decide_eq_false (by omega)
              have hdi2 : decide ((i : Int) < 8 * (n2 : Int)) = false := decide_eq_false (by omega)
              have HIM := Lib.hid hm; clear hm
              have HOWN : Hid (wr.ownsRow w3.heap.size 3 1 (.slice a6 i c6) (bl V i).length (nv (bl V i))) := HG.out.own
              have HBR : Hid (Below w.heap.size w wr) := HB2.out.trans (HG.out.bel.mono HB2.out.size)
              have HRN := rnew_any B a2 n2 cap2 wr HB.out.1 (later_bytes HBR.out HB.out.2.1) HB.out.2.2 (by omega)
              have HDC2 : Hid (DcR wr D (Huf.cnt L n) (Huf.syms L n 16)) := HDC.out.later HG.out.bel
              rw [← HV.out] at HRN
              clear HBY HG HB2 HDC
              go_wp2_with fail
              refine HRN.mono ?_
              rintro e w5 ⟨rfl, hrd, hb5⟩
              have HS0 : Hid (Rds w w5 (wr.heap.size + 1) D 0 n2 V wr.heap.size (Huf.cnt L n) (Huf.syms L n 16) w3.heap.size (.slice a6 i c6) (bl V i)) :=
                ⟨HBR.out.trans (hb5.mono HBR.out.size), by have := HBR.out.size; omega, hrd, HDC2.out.later hb5, own_later HOWN.out hb5⟩
              clear hrd hb5 HRN HBR HDC2 HOWN
              generalize wr.heap.size = G at *
              generalize w3.heap.size = base at *
              obtain ⟨g, hg⟩ : ∃ g, g = G + 1 := ⟨_, rfl⟩
              rw [← hg] at HS0 ⊢
              clear hg
              go_wp2_with fail
              clear hlt hdi hdi2
              go_loopw [9, 10] (fun v9 v10 wr => ∃ p j : Nat, j ≤ 321 ∧ v9 = .int .i64 (p : Int) ∧ v10 = .int .i64 (j : Int) ∧ Rds w wr g D p n2 V G (Huf.cnt L n) (Huf.syms L n 16) base (.slice a6 i c6) (bl V i)) (fun _ v10 _ => (321 - intOf v10).toNat)
              case atStart => exact ⟨0, 0, by omega, rfl, rfl, HS0.out⟩
              case round =>
                clear HS0
                obtain ⟨p, j, hj, rfl, rfl, hs⟩ := hrel
                have HS := Lib.hid hs; clear hs
                have p6 : (p : Int) ≤ 320 := by have := HS.out.rd.le; omega
                have hpi : p ≤ i := by have := HS.out.rd.le; have := HIM.out; omega
                by_cases hlj : j ≤ 320
                · have hdj : decide (j ≤ 320) = true := decide_eq_true hlj
                  have HX := HS.out.next (by omega) (fun k => Nat.le_trans (Huf.cnt_le L k n) HM.out.1.1) (Huf.cnt_zero L n) (Huf.syms_length L n 16)
                  go_wp2_with fail
                  refine HX.mono ?_
                  rintro e w6 ⟨s, ok, q, rfl, hq, hs6⟩
                  clear HX HS
                  have HS6 := Lib.hid hs6; clear hs6
                  obtain ⟨k, hqk, htl⟩ := Huf.agree HM.out hq
                  rw [← HIM.out] at htl
                  have HTL := Lib.hid htl
                  clear hq htl
                  obtain ⟨a8, c8, he8, -, hin8⟩ := own_nv HS6.out.own rfl
                  simp only [Value.slice.injEq] at he8
                  obtain ⟨rfl, hlb, rfl⟩ := he8
                  have hin9 : Ints w6 a6 i c6 (fun t => (V / 2 ^ t % 2 : Nat)) := by
                    rw [bl_length] at hin8
                    exact hin8.congr fun t ht => by rw [List.getD_eq_getElem?_getD, bl_get _ _ _ ht]; rfl
                  clear hin8 hlb
                  have hsl := slice_ints_from a6 i c6 p hpi
                  have HRX := refNext_any V p (i - p) a n cap L (if c6 = p then a6 else a6.map (·.add p)) (c6 - p) w6 HM.out (HI.out.later HS6.out.bel) (hin9.from p hpi) (by omega)
                  clear hin9
                  generalize (if c6 = p then a6 else a6.map (·.add p)) = a9 at *
                  generalize c6 - p = c9 at *
                  generalize i - p = m9 at *
                  go_wp2_with fail
                  refine HRX.mono ?_
                  rintro e w7 ⟨hb7, s', ok', k', rfl, htl'⟩
                  clear HRX
                  obtain ⟨rfl, rfl, rfl⟩ := Huf.tells_one HTL.out htl'
                  have HS7 := Lib.hid (HS6.out.later hb7)
                  clear hb7 htl' HTL HS6
                  have q6 : (q : Int) ≤ 320 := by have := HS7.out.rd.le; omega
                  have hqI : (p : Int) + (k : Int) = (q : Int) := by omega
                  have HAT := at_any _ _ _ _ _ _ HS7.out.rd
                  clear hqk
                  have qs : (s == s) = true := by simp
                  cases ok with
                  | true =>
                    go_wp2_with fail
                    refine HAT.mono ?_
                    rintro e w8 ⟨rfl, rfl⟩
                    go_wp2
                    exact ⟨⟨q, j + 1, by omega, by go_num, by go_num, HS7.out⟩, by simp [intOf]; omega⟩
                  | false =>
                    go_wp2_with fail
                    refine HAT.mono ?_
                    rintro e w8 ⟨rfl, rfl⟩
                    go_wp2
                    go_returns
                    exact ⟨rfl, HS7.out.bel⟩
                · obtain rfl : j = 321 := by omega
                  have hdj : decide (321 ≤ 320) = false := rfl
                  go_wp2
                  go_returns
                  exact ⟨rfl, HS.out.bel⟩
        · exact absurd HM.out hno
      · have HNO := Lib.hid hno; clear hno
        go_wp2_with fail
        refine HMK.mono ?_
        rintro e w3 ⟨rfl, hr⟩
        rcases hr with ⟨hm, _⟩ | ⟨_, rfl⟩
        · exact absurd hm HNO.out
        · go_wp2
          go_returns
          exact ⟨rfl, HB2.out⟩
end Go.Proofs.Ytfbcmjgiejjpmaa
