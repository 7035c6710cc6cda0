/- The walk of the law HuffBack. -/
import Derived.Test.YtfbcmjgiejjpmaaHufWrite
import Derived.Test.YtfbcmjgiejjpmaaHufTurn
import Derived.Test.YtfbcmjgiejjpmaaRefAsked
import Derived.StillTailTactics
namespace Go.Proofs.Ytfbcmjgiejjpmaa
open Go.RowKit Go

set_option maxRecDepth 100000 in
set_option maxHeartbeats 4000000 in
theorem back_walk (a : Option Addr) (n cap : Nat) (F : Nat → Int) (most : Int) (a3 : Option Addr) (n3 cap3 : Nat) (X : Nat → Int) (w : World) (hI : Ints w a n cap F) (_hb : ∀ i, -9223372036854775808 ≤ F i ∧ F i ≤ 9223372036854775807) (_hn : a = none → cap = 0)
    (_hm0 : -9223372036854775808 ≤ most) (_hm1 : most ≤ 9223372036854775807) (hX : Ints w a3 n3 cap3 X) (hXb : ∀ i, -9223372036854775808 ≤ X i ∧ X i ≤ 9223372036854775807) (_hn3 : a3 = none → cap3 = 0) :
    Calls Try.prog 7 #[.slice a n cap, .int .i64 most, .slice a3 n3 cap3] w fun e w' => e = .returned (.bool true) ∧ Below w.heap.size w w' := by
  have HAW := Lib.hid (awake_any w)
  have HI : Hid (Ints w a n cap F) := hI
  have HX : Hid (Ints w a3 n3 cap3 X ∧ ∀ i, -9223372036854775808 ≤ X i ∧ X i ≤ 9223372036854775807) := ⟨hX, hXb⟩
  clear hI _hb _hn hX hXb _hn3
  go_enter Try.func7, Try.ntmps7
  go_wp2_with fail
  refine HAW.out.mono ?_
  rintro e w1 ⟨rfl, hb1⟩
  have HB1 := Lib.hid hb1
  clear hb1 HAW
  by_cases h300 : 300 < n
  · have hd : decide (300 < n) = true := decide_eq_true h300
    go_wp2
    go_returns
    exact ⟨rfl, HB1.out⟩
  · have hd : decide (300 < n) = false := decide_eq_false h300
    by_cases h400 : 400 < n3
    · have hd2 : decide (400 < n3) = true := decide_eq_true h400
      go_wp2
      go_returns
      exact ⟨rfl, HB1.out⟩
    · have hd2 : decide (400 < n3) = false := decide_eq_false h400
      have hnI : (n : Int) ≤ 300 := by omega
      have hn3I : (n3 : Int) ≤ 400 := by omega
      have HASK := refAsked_any a n cap F most w1 (HI.out.later HB1.out) (by omega)
      go_wp2_with fail
      refine HASK.mono ?_
      rintro e w2 ⟨rfl, hr⟩
      clear HASK
      rcases hr with ⟨hask, rfl⟩ | ⟨_, rfl⟩
      · have HAS := Lib.hid hask; clear hask
        have HLN := lengths_any a n cap F most w2 (HI.out.later HB1.out) (by omega)
        go_wp2_with fail
        refine HLN.mono ?_
        rintro e w3 ⟨hb3, hr⟩
        have HB3 : Hid (Below w.heap.size w w3) := HB1.out.trans (hb3.mono HB1.out.size)
        clear HLN hb3
        rcases hr with ⟨_, Gn, d, _, rfl, hrow, hmade⟩ | ⟨hno, _⟩
        · have HGD := Lib.hid (hmade.good HAS.out)
          have HRN := Lib.hid hrow
          clear hmade hrow HB1
          have HCD := codes_any (some ⟨Gn, 0, none⟩) n n (fun i => (d i : Nat)) w3 (ki_ints HRN.out) (by omega)
          go_wp2_with fail
          refine HCD.mono ?_
          rintro e w4 ⟨hb4, hr⟩
          have HB4 : Hid (Below w.heap.size w w4) := HB3.out.trans (hb4.mono HB3.out.size)
          have HRN4 : Hid (w4.heap[Gn]? = _) := (hb4.block _ (lt_of_block HRN.out)).trans HRN.out
          clear HCD hb4 HB3 HRN
          rcases hr with ⟨_, Gc, _, hrowc, rfl⟩ | ⟨hno, _⟩
          · have HRC := Lib.hid hrowc; clear hrowc
            have HNW := new_any (some ⟨Gn, 0, none⟩) n n (fun i => (d i : Nat)) w4 (ki_ints HRN4.out) (by omega)
            go_wp2_with fail
            refine HNW.mono ?_
            rintro e w5 ⟨hb5, hr⟩
            have HB5 : Hid (Below w.heap.size w w5) := HB4.out.trans (hb5.mono HB4.out.size)
            have HRN5 : Hid (w5.heap[Gn]? = _) := (hb5.block _ (lt_of_block HRN4.out)).trans HRN4.out
            have HRC5 : Hid (w5.heap[Gc]? = _) := (hb5.block _ (lt_of_block HRC.out)).trans HRC.out
            clear HNW hb5 HB4 HRN4 HRC
            rcases hr with ⟨_, D, hns, rfl⟩ | ⟨hno, _⟩
            · have HDC : Hid (DcR w5 D (Huf.cnt (fun i => (d i : Nat)) n) (Huf.syms (fun i => (d i : Nat)) n 16)) := hns.dcr
              clear hns
              have HNWR := WS.new w5 w5 (Below.refl _ _)
              have hnn : ((n : Int) == (n : Int)) = true := by simp
              go_wp2_with fail
              refine HNWR.mono ?_
              rintro e w6 ⟨rfl, hws⟩
              have HS0 : Hid (Bkw w5 w6 w5.heap.size 0 0 (.slice none 0 0) []) := ⟨hws.bel, hws.lo, hws.wr, World.ownsRow_nil _ _ _ _⟩
              clear hws HNWR hnn
              go_wp2_with fail
              obtain ⟨g, hg⟩ : ∃ g, g = w5.heap.size := ⟨_, rfl⟩
              rw [← hg] at HS0 ⊢
              have HG := Lib.hid hg; clear hg
              have HEN0 : Hid (Enc (Huf.code (fun i => (d i : Nat)) n) d n [] 0) := ⟨(fun s hs => by cases hs), (fun i s hs => by simp at hs)⟩
              go_loopw [13, 14, 15] (fun v13 v14 v15 wr => ∃ (i : Nat) (l : List Nat) (a6 : Option Addr) (c6 m N V : Nat), i ≤ n3 ∧ m ≤ i ∧ m = l.length ∧ N = tl d l ∧ v13 = .slice a6 m c6 ∧ v14 = .int .i64 (N : Int) ∧ v15 = .int .i64 (i : Int) ∧ Bkw w5 wr g N V (.slice a6 m c6) l ∧ Enc (Huf.code (fun i => (d i : Nat)) n) d n l V) (fun _ _ v15 _ => (n3 - intOf v15).toNat)
              case atStart => exact ⟨0, [], none, 0, 0, 0, 0, by omega, by omega, rfl, rfl, rfl, rfl, rfl, HS0.out, HEN0.out⟩
              case round =>
                clear HS0 HEN0
                obtain ⟨i, l, a6, c6, m, N, V, hi, hmi, hml, hNl, rfl, rfl, rfl, hs, hen⟩ := hrel
                have HS := Lib.hid hs; clear hs
                have HEN := Lib.hid hen; clear hen
                have HML := Lib.hid hml; clear hml
                have HNL := Lib.hid hNl; clear hNl
                have N6 : N ≤ 6000 := by
                  have := tl_bound (d := d) (M := 15) (l := l) (fun s hs => (HEN.out.mem s hs).2.2)
                  have := HML.out; have := HNL.out; omega
                have hN6 : (N : Int) ≤ 6000 := by omega
                by_cases hc : i < n3 ∧ 0 < n
                · obtain ⟨hin, hn0⟩ := hc
                  have hdi : decide (i < n3) = true := decide_eq_true hin
                  have hdn : decide (0 < n) = true := decide_eq_true hn0
                  have HBR : Hid (Below w.heap.size w wr) := HB5.out.trans (HS.out.bel.mono HB5.out.size)
                  obtain ⟨s3, o3, rfl, _, cx⟩ := (HX.out.1.later HBR.out).at_ hin
                  have hxb := HX.out.2 i
                  obtain ⟨x, hx⟩ : ∃ x, x = X i := ⟨_, rfl⟩
                  rw [← hx] at cx hxb
                  clear hx
                  obtain ⟨s, hs⟩ : ∃ s : Nat, x % (n : Int) = (s : Int) := ⟨(x % (n : Int)).toNat, by have := Int.emod_nonneg x (b := (n : Int)) (by omega); omega⟩
                  have hsn : s < n := by have := Int.emod_lt_of_pos x (b := (n : Int)) (by omega); omega
                  have HPK := pick_any x n wr hxb.1 hxb.2 (by omega) (by omega)
                  rw [hs] at HPK
                  clear hs hxb
                  have hiI : (i : Int) < (n3 : Int) := by omega
                  have hsI : (s : Int) < (n : Int) := by omega
                  have hd15 : d s ≤ 15 := by
                    have : ((d s : Nat) : Int) ≤ 15 := (HGD.out.makes.1.2 s hsn).2
                    omega
                  have cn := ki_cell ((HS.out.bel.block _ (lt_of_block HRN5.out)).trans HRN5.out) s hsn
                  have cc := ki_cell ((HS.out.bel.block _ (lt_of_block HRC5.out)).trans HRC5.out) s hsn
                  have HCS : Hid (0 < d s → Huf.code (fun i => (d i : Nat)) n s < 2 ^ d s) := fun h => by
                    have := Huf.code_small (L := fun i => (d i : Nat)) HGD.out.makes hsn (by show (0 : Int) < (d s : Int); omega)
                    simpa using this
                  have HENX : Hid (∀ V', V' % 2 ^ N = V % 2 ^ N → 0 < d s → Huf.vl V' N (d s) = Huf.code (fun i => (d i : Nat)) n s → Enc (Huf.code (fun i => (d i : Nat)) n) d n (l ++ [s]) V' ∧ N + d s = tl d (l ++ [s])) := fun V' h1 h2 h3 => by
                    have := HNL.out
                    subst this
                    exact ⟨HEN.out.app h1 ⟨hsn, h2, hd15⟩ h3, (tl_app d s l).symm⟩
                  generalize hC : Huf.code (fun i => ((d i : Nat) : Int)) n = CD at *
                  obtain ⟨k, hk⟩ : ∃ k, k = d s := ⟨_, rfl⟩
                  obtain ⟨c, hcode⟩ : ∃ c, c = CD s := ⟨_, rfl⟩
                  rw [← hk] at cn hd15 HCS HENX
                  rw [← hcode] at cc HCS HENX
                  have HKD := Lib.hid hk
                  have k6 : (k : Int) ≤ 15 := by omega
                  clear hk hcode hC
                  have hi3 : (i : Int) ≤ 400 := by omega
                  by_cases hk0 : k = 0
                  · subst hk0
                    go_wp2_with fail
                    refine HPK.mono ?_
                    rintro e w7 ⟨rfl, rfl⟩
                    go_wp2
                    exact ⟨⟨i + 1, l, a6, c6, m, N, V, by omega, by omega, HML.out, HNL.out, rfl, rfl, by go_num, HS.out, HEN.out⟩, by simp [intOf]; omega⟩
                  · have hkz : ((k : Int) == 0) = false := by simp; omega
                    have hcs := HCS.out (by omega)
                    have hc16 : c < 65536 := Nat.lt_of_lt_of_le hcs (Nat.le_trans (Nat.pow_le_pow_right (by omega) (show k ≤ 16 by omega)) (by decide))
                    have c16' : (c : Int) < 65536 := by omega
                    have HWR := write_any w5 g N V c k (.slice a6 m c6) l wr.drew HS.out.drew hd15 hc16 (by omega) (Nat.div_eq_of_lt hcs)
                    have hs0 : (0 : Int) ≤ (s : Int) := by omega
                    clear hcs hc16
                    go_wp2_with fail
                    refine HPK.mono ?_
                    rintro e wy ⟨rfl, rfl⟩
                    go_wp2_with fail
                    go_still_tail 9, (by kernel_rfl)
                    change wpList _ _ _ _ _ wy.drew
                    have cn2 : wy.drew.cell? ⟨Gn, s, none⟩ = some (.int .i64 (k : Int)) := cn
                    have cc2 : wy.drew.cell? ⟨Gc, s, none⟩ = some (.int .i64 (c : Int)) := cc
                    generalize wy.drew = wz at *
                    go_wp2_with fail
                    refine HWR.mono ?_
                    rintro e w7 ⟨rfl, V2, hv1, hv2, hs7⟩
                    have HS7 := Lib.hid hs7
                    obtain ⟨hen2, hnl2⟩ := HENX.out V2 hv1 (by omega) hv2
                    have HEN2 := Lib.hid hen2
                    have HNL2 := Lib.hid hnl2
                    clear hv1 hv2 hs7 HWR HENX HCS HEN hen2 hnl2 cn2 cc2 cn cc
                    have HOWN : Hid (w7.ownsRow w5.heap.size 3 1 (.slice a6 m c6) m (nv l)) := by
                      have := HS7.out.own
                      rw [← HML.out] at this
                      exact this
                    have HNT : Hid (∀ v' w9 o, World.ownsRow w9 w5.heap.size 3 1 v' (m + 1) (nv l ++ [.int .i64 (s : Nat)]) → (w7.alloc o).grownBy w9 (Value.slice a6 m c6).ownBlock → ∃ a7 c7, v' = .slice a7 (m + 1) c7 ∧ Bkw w5 w9 g (N + k) V2 (.slice a7 (m + 1) c7) (l ++ [s]) ∧ w9.cell? ⟨Gn, s, none⟩ = some (.int .i64 (k : Int))) := fun v' w9 o h1 h2 => by
                      obtain ⟨a7, c7, rfl⟩ := own_form h1
                      have hbk : Bkw w5 w9 g (N + k) V2 (.slice a7 (m + 1) c7) (l ++ [s]) := HS7.out.note (by rw [← HML.out]; exact h1) h2
                      refine ⟨a7, c7, rfl, hbk, ?_⟩
                      rw [HKD.out]
                      exact ki_cell ((hbk.bel.block _ (lt_of_block HRN5.out)).trans HRN5.out) s hsn
                    have HSZ : Hid (w5.heap.size ≤ w7.heap.size) := HS7.out.bel.size
                    have HM6 : Hid (m ≤ 1000000) := by show _ ≤ _; omega
                    go_wp2_with (first | (at_builtin; refine wpList_append_int rfl (.tmp 101) (.tmp 103) rfl w5.heap.size (.slice a6 m c6) m (nv l) rfl (HOWN.out.alloc _) w7.heap.size s rfl (heap_alloc_new _ _) HM6.out (by have := HSZ.out; simp; omega) ?_; intro v' w9 ho9 hg9; obtain ⟨a7, c7, rfl, hbk, hcn⟩ := HNT.out _ _ _ ho9.out hg9.out; have HBK := Lib.hid hbk; clear hbk ho9 hg9))
                    exact ⟨⟨i + 1, l ++ [s], a7, c7, m + 1, N + k, V2, by omega, by omega, by rw [List.length_append, List.length_singleton, HML.out], HNL2.out, rfl, by go_num, by go_num, HBK.out, HEN2.out⟩, by simp [intOf]; omega⟩
                · have hex : decide (i < n3) = false ∨ (decide (i < n3) = true ∧ decide (0 < n) = false) := by
                    by_cases q : i < n3
                    · exact .inr ⟨decide_eq_true q, decide_eq_false (fun h => hc ⟨q, h⟩)⟩
                    · exact .inl (decide_eq_false q)
                  clear hc
                  rcases hex with q1 | ⟨q1, q2⟩ <;> (
                    obtain ⟨Lb, hLb⟩ : ∃ Lb, Lb = (N + 7) / 8 := ⟨_, rfl⟩
                    have HTN := HS.out.turn (by omega) HDC.out
                    rw [← hLb] at HTN
                    have HLB : Hid (N ≤ 8 * Lb ∧ Lb ≤ 1000000) := by show _ ∧ _; omega
                    clear hLb HS
                    go_wp2_with fail
                    refine HTN.mono ?_
                    rintro e w7 ⟨G0, rfl, h7⟩
                    clear HTN
                    go_wp2_with fail
                    refine h7.out.mono ?_
                    rintro e w8 ⟨gr, rfl, h8⟩
                    clear h7
                    obtain ⟨G, hrds⟩ := h8.out
                    have HR0 := Lib.hid hrds
                    clear hrds h8
                    have hm6 : (m : Int) ≤ 400 := by omega
                    go_wp2_with fail
                    go_loopw [18] (fun v18 wr => ∃ j : Nat, j ≤ m ∧ v18 = .int .i64 (j : Int) ∧ Rds w5 wr gr D (tl d (l.take j)) Lb V G (Huf.cnt (fun i => (d i : Nat)) n) (Huf.syms (fun i => (d i : Nat)) n 16) w5.heap.size (.slice a6 m c6) l) (fun v18 _ => (m - intOf v18).toNat)
                    case atStart => exact ⟨0, by omega, rfl, HR0.out⟩
                    case round =>
                      clear HR0
                      obtain ⟨j, hj, rfl, hs⟩ := hrel
                      have HS := Lib.hid hs; clear hs
                      by_cases hjm : j < m
                      · have hdj : decide (j < m) = true := decide_eq_true hjm
                        have HX := HS.out.next (by have := HLB.out; omega) (fun k => Nat.le_trans (Huf.cnt_le _ k n) HGD.out.makes.1.1) (Huf.cnt_zero _ n) (Huf.syms_length _ n 16)
                        obtain ⟨t, ht⟩ : ∃ t, l[j]? = some t := ⟨_, List.getElem?_eq_getElem (by have := HML.out; omega)⟩
                        have hmem := HEN.out.mem t (List.mem_of_getElem? ht)
                        have hsay := HEN.out.say j t ht
                        have hnx := tl_next d l j t ht
                        have hle := tl_take_le d l (j + 1)
                        have HNX : Hid (∀ s ok q, Huf.NextQ (Huf.cnt (fun i => (d i : Nat)) n) (Huf.syms (fun i => (d i : Nat)) n 16) V Lb (tl d (l.take j)) s ok q → s = (t : Nat) ∧ ok = true ∧ q = tl d (l.take (j + 1))) := fun s ok q hq => by
                          obtain ⟨r1, r2, r3⟩ := Huf.next_is (L := fun i => (d i : Nat)) HGD.out.makes hmem.1 hmem.2.1 rfl hsay (by have := HLB.out; have := HNL.out; omega) hq
                          exact ⟨r1, r2, by omega⟩
                        have HT := Lib.hid ht
                        clear hmem hsay hnx hle ht HS
                        have hjI : (j : Int) < (m : Int) := by omega
                        go_wp2_with fail
                        refine HX.mono ?_
                        rintro e w9 ⟨s, ok, q, rfl, hq, hs9⟩
                        obtain ⟨rfl, rfl, rfl⟩ := HNX.out s ok q hq
                        have HS9 := Lib.hid hs9
                        clear hq hs9 HX HNX
                        obtain ⟨a8, c8, he8, -, hin8⟩ := own_nv HS9.out.own rfl
                        simp only [Value.slice.injEq] at he8
                        obtain ⟨rfl, hlb, rfl⟩ := he8
                        obtain ⟨s8, o8, rfl, _, c9⟩ := hin8.at_ (i := j) (by omega)
                        rw [List.getD_eq_getElem?_getD, HT.out, Option.getD_some] at c9
                        clear hin8 hlb
                        have htt : ((t : Int) == (t : Int)) = true := by simp
                        go_wp2
                        exact ⟨⟨j + 1, by omega, by go_num, HS9.out⟩, by simp [intOf]; omega⟩
                      · obtain rfl : j = m := by omega
                        have hdj : decide (j < j) = false := decide_eq_false (by omega)
                        have HSE : Hid (Rds w5 wr gr D N Lb V G (Huf.cnt (fun i => (d i : Nat)) n) (Huf.syms (fun i => (d i : Nat)) n 16) w5.heap.size (.slice a6 j c6) l) := by
                          have := HS.out
                          rw [HML.out, List.take_length, ← HNL.out, ← HML.out] at this
                          exact this
                        have HAT := at_any _ _ _ _ _ _ HSE.out.rd
                        have hNN : ((N : Int) == (N : Int)) = true := by simp
                        clear HS
                        go_wp2_with fail
                        refine HAT.mono ?_
                        rintro e w9 ⟨rfl, rfl⟩
                        go_wp2
                        go_returns
                        exact ⟨rfl, HB5.out.trans (HSE.out.bel.mono HB5.out.size)⟩)
            · exact absurd HGD.out.makes hno
          · exact absurd HGD.out.makes hno
        · exact absurd HAS.out hno
      · go_wp2
        go_returns
        exact ⟨rfl, HB1.out⟩
end Go.Proofs.Ytfbcmjgiejjpmaa
