/- The walk of the document's Least. -/
import Derived.Test.YtfbcmjgiejjpmaaHulLeast
import Derived.Test.YtfbcmjgiejjpmaaHufApp
namespace Go.Proofs.Ytfbcmjgiejjpmaa
open Go.RowKit Go

theorem Grw.ints {w0 w : World} {a : Option Addr} {n c : Nat} {f : Nat → Nat} (h : Grw w0 w ((List.range n).map f) (.slice a n c)) : Ints w a n c (fun t => (f t : Nat)) := by
  have ho := h.own
  rw [List.length_map, List.length_range] at ho
  obtain ⟨a', c', e, _, hi⟩ := own_nv ho (by simp)
  simp only [Value.slice.injEq, true_and] at e
  obtain ⟨rfl, rfl⟩ := e
  refine ⟨hi.le, fun hn => ?_⟩
  obtain ⟨s, o, e1, h1, h2⟩ := hi.ad hn
  exact ⟨s, o, e1, h1, fun j hj => by rw [h2 j hj, List.getD_eq_getElem?_getD, List.getElem?_map, List.getElem?_range hj]; rfl⟩

theorem one_ints (w : World) (x : Int) : Ints (w.alloc (.cells #[.int .i64 x] 3)) (some ⟨w.heap.size, 0, none⟩) 1 1 (fun _ => x) :=
  ⟨Nat.le_refl _, fun _ => ⟨w.heap.size, 0, rfl, by simp, fun j hj => by
    obtain rfl : j = 0 := by omega
    rw [cell_of_row _ _ _ _ _ _ (heap_alloc_new w _)]; rfl⟩⟩
theorem cell_al {w : World} {s j : Nat} {v : Value} (hs : s < w.heap.size) (h : w.cell? ⟨s, j, none⟩ = some v) (o : Obj) : (w.alloc o).cell? ⟨s, j, none⟩ = some v := by
  rw [World.cell?_of_block (Below.heap_alloc _ _ _ hs)]; exact h

set_option maxRecDepth 100000 in
set_option maxHeartbeats 4000000 in
theorem refLeast_any (a : Option Addr) (n cap : Nat) (F : Nat → Int) (K m : Nat) (y : Nat → Nat) (R : Nat → Nat → Int × Bool) (w : World) (hI : Ints w a n cap F) (hn : n ≤ 300) (hF : ∀ i, i < n → 0 ≤ F i ∧ F i ≤ 1048576)
    (hs : Hul.Sym F n m y) (hl : Hul.Lev (fun t => F (y t)) m R K) (hm : m ≤ 2 ^ K) (hK1 : 1 ≤ K) (hK : K ≤ 15) :
    Calls Try.prog 21 #[.slice a n cap, .int .i64 (K : Int)] w fun e w' => e = .returned (.int .i64 (sm (fun t => (R (K - 1) t).1.toNat) (max (2 * m - 2) m) : Nat)) ∧ Below w.heap.size w w' := by
  have HLG := refLight_any a n cap F w hI hn hF
  have hmn : m ≤ 300 := by rw [hs.len]; exact Nat.le_trans (Hul.pos_length F n) hn
  have HO0 : Hid (∀ t, t < m → 0 ≤ F (y t) ∧ F (y t) ≤ 1048576) := fun t ht => hF _ (hs.mem t ht).1
  have HUP : Hid (Up (fun t => F (y t)) 0 m) := fun i j _ hij hj => hs.up i j hij hj
  have HLS : Hid (∀ l : List Nat, l.Perm ((Hul.pos F n).map fun i => (F i).toNat) → l.Pairwise (· ≤ ·) → l = (List.range m).map fun t => (F (y t)).toNat) := fun l h1 h2 => hs.list h1 h2
  have HL := Lib.hid hl
  have HM := Lib.hid hm
  obtain ⟨res, hres⟩ : ∃ res, res = sm (fun t => (R (K - 1) t).1.toNat) (max (2 * m - 2) m) := ⟨_, rfl⟩
  rw [← hres]
  have HRES := Lib.hid hres
  have HK : Hid (1 ≤ K ∧ K ≤ 15) := ⟨hK1, hK⟩
  have K6 : (K : Int) ≤ 15 := by omega
  clear hI hn hF hs hl hm hres
  go_enter Try.func21, Try.ntmps21
  go_wp2_with fail
  refine HLG.mono ?_
  rintro e w1 ⟨aw, mm, cw, l, rfl, hlen, hperm, hsort, hgrw⟩
  obtain rfl := HLS.out l hperm hsort
  obtain rfl : m = mm := by simpa using hlen
  have HB1 : Hid (Below w.heap.size w w1) := hgrw.bel
  have HW : Hid (Ints w1 aw m cw (fun t => ((F (y t)).toNat : Nat))) := hgrw.ints
  clear HLG hlen hperm hsort hgrw HLS
  have hm3 : (m : Int) ≤ 300 := by omega
  have HOB : Hid (∀ t, t < m → (F (y t)).toNat ≤ 1048576) := fun t ht => by have := HO0.out t ht; omega
  by_cases hm2 : m < 2
  · have hd : decide (m < 2) = true := decide_eq_true hm2
    have HFEW : Hid (res = sm (fun t => (F (y t)).toNat) m) := HRES.out.trans (HL.out.few HUP.out HO0.out HK.out.1 hm2)
    go_wp2_with fail
    go_loopw [6, 7] (fun v6 v7 wr => ∃ i c : Nat, i ≤ m ∧ c = sm (fun t => (F (y t)).toNat) i ∧ v6 = .int .i64 (c : Int) ∧ v7 = .int .i64 (i : Int) ∧ wr = w1) (fun _ v7 _ => (m - intOf v7).toNat)
    case atStart => exact ⟨0, 0, by omega, rfl, rfl, rfl, rfl⟩
    case round =>
      obtain ⟨i, c, hi, hc, rfl, rfl, rfl⟩ := hrel
      have hcb := sm_bound (f := fun t => (F (y t)).toNat) i (fun t ht => HOB.out t (by omega))
      rw [← hc] at hcb
      have HC := Lib.hid hc; clear hc
      have c6 : (c : Int) ≤ 5000000 := by omega
      by_cases hlt : i < m
      · have hdi : decide (i < m) = true := decide_eq_true hlt
        obtain ⟨s, o, rfl, _, c1⟩ := HW.out.at_ hlt
        have hxb := HOB.out i hlt
        obtain ⟨x, hx⟩ : ∃ x, x = (F (y i)).toNat := ⟨_, rfl⟩
        rw [← hx] at c1 hxb
        have HNX : Hid (c + x = sm (fun t => (F (y t)).toNat) (i + 1)) := by show _ = _; rw [sm, ← HC.out, hx]
        have hiI : (i : Int) < (m : Int) := by omega
        clear hx hcb
        go_wp2
        exact ⟨⟨i + 1, c + x, by omega, HNX.out, by go_num, by go_num, trivial⟩, by simp [intOf]; omega⟩
      · obtain rfl : i = m := by omega
        have hdi : decide (i < i) = false := decide_eq_false (by omega)
        have HE : Hid (res = c) := by rw [HFEW.out, HC.out]; exact rfl
        go_wp2
        go_returns
        exact ⟨by rw [HE.out]; rfl, HB1.out⟩
  · have hd : decide (m < 2) = false := decide_eq_false hm2
    have HUPO : Hid (∀ s t, s ≤ t → t < m → (F (y s)).toNat ≤ (F (y t)).toNat) := fun s t h1 h2 => by have : F (y s) ≤ F (y t) := HUP.out s t (Nat.zero_le _) h1 h2
                                                                                                      omega
    go_wp2_with fail
    go_loopw [8, 9] (fun v8 v9 wr => ∃ (d : Nat) (a6 : Option Addr) (c6 L : Nat), d ≤ K ∧ L = LL m d ∧ v8 = .slice a6 L c6 ∧ v9 = .int .i64 (d : Int) ∧ Below w1.heap.size w1 wr ∧ Ints wr a6 L c6 (fun t => (SS R d t : Nat))) (fun _ v9 _ => (K - intOf v9).toNat)
    case atStart => exact ⟨0, none, 0, 0, by omega, rfl, rfl, rfl, Below.refl _ _, Nat.le_refl _, fun h => by omega⟩
    case round =>
      obtain ⟨d, a6, c6, L, hd', hL, rfl, rfl, hb, hi⟩ := hrel
      have HB := Lib.hid hb; clear hb
      have HS := Lib.hid hi; clear hi
      have HLL := Lib.hid hL
      have hL6 : L ≤ 600 := by
        rw [hL]; cases d with
        | zero => rw [LL]; omega
        | succ d => rw [LL]; have := Hul.ln_le m d; omega
      clear hL
      have hL6I : (L : Int) ≤ 600 := by omega
      have HSB : Hid (∀ t, t < L → SS R d t ≤ 34359738368) := by have := SS_bd HL.out HO0.out HK.out.2 hd'; rw [← HLL.out] at this; exact this
      by_cases hdk : d < K
      · have hdd : decide (d < K) = true := decide_eq_true hdk
        go_wp2_with fail
        generalize wr = wz at *
        go_loopw [10, 11] (fun v10 v11 wr => ∃ (b i : Nat) (a7 : Option Addr) (c7 : Nat), i = 2 * b ∧ b ≤ L / 2 ∧ v10 = .slice a7 b c7 ∧ v11 = .int .i64 (i : Int) ∧ Grw wz wr ((List.range b).map (PP R d)) (.slice a7 b c7)) (fun _ v11 _ => (L + 2 - intOf v11).toNat)
        case atStart => exact ⟨0, 0, none, 0, rfl, by omega, rfl, rfl, Below.refl _ _, World.ownsRow_nil _ _ _ _⟩
        case round =>
          obtain ⟨b, i, a7, c7, hib, hbq, rfl, rfl, hg⟩ := hrel
          have HG := Lib.hid hg; clear hg
          have HIB := Lib.hid hib
          have hi6 : (i : Int) ≤ 600 := by omega
          by_cases hlt : i + 1 < L
          · obtain ⟨i1, hi1⟩ : ∃ i1, i1 = i + 1 := ⟨_, rfl⟩
            have hi1I : (i : Int) + 1 = (i1 : Int) := by omega
            have hd1 : decide (i1 < L) = true := decide_eq_true (by omega)
            obtain ⟨s, o', he, hsz, cz1⟩ := HS.out.at_ (i := i) (by omega)
            obtain ⟨s2, o2, he2, _, cz2⟩ := HS.out.at_ (i := i1) (by omega)
            rw [he] at he2
            simp only [Option.some.injEq, Addr.mk.injEq, and_true] at he2
            obtain ⟨rfl, rfl⟩ := he2
            subst he
            have hszr : s < wr.heap.size := Nat.lt_of_lt_of_le hsz HG.out.bel.size
            have hx1 := HSB.out i (by omega)
            have hx2 := HSB.out i1 (by omega)
            have hpp : PP R d b = SS R d i + SS R d i1 := by rw [PP, ← hib, ← hi1]
            obtain ⟨x1, hxx1⟩ : ∃ x, x = SS R d i := ⟨_, rfl⟩
            obtain ⟨x2, hxx2⟩ : ∃ x, x = SS R d i1 := ⟨_, rfl⟩
            obtain ⟨pv, hpv⟩ : ∃ x, x = PP R d b := ⟨_, rfl⟩
            rw [← hxx1] at cz1 hx1 hpp
            rw [← hxx2] at cz2 hx2 hpp
            have c1 : wr.cell? ⟨s, o' + i, none⟩ = some (.int .i64 (x1 : Int)) := (HG.out.bel.cell (by exact hsz)).trans cz1
            have c2 : wr.cell? ⟨s, o' + i1, none⟩ = some (.int .i64 (x2 : Int)) := (HG.out.bel.cell (by exact hsz)).trans cz2
            rw [← hpv] at hpp
            have HPV := Lib.hid hpv
            have hpI : (x1 : Int) + (x2 : Int) = (pv : Int) := by omega
            have pv6 : (pv : Int) ≤ 70000000000 := by omega
            have wi1 : IntKind.i64.wrap (i1 : Int) = (i1 : Int) := IntWalk.i64_in _ (by omega)
            have wpv : IntKind.i64.wrap (pv : Int) = (pv : Int) := IntWalk.i64_in _ (by omega)
            have hi0 : (0 : Int) ≤ (i : Int) := by omega
            have hi10 : (0 : Int) ≤ (i1 : Int) := by omega
            have hiI : (i : Int) < (L : Int) := by omega
            have hi1L : (i1 : Int) < (L : Int) := by omega
            have HI1 := Lib.hid hi1
            have HOWN : Hid (wr.ownsRow wz.heap.size 3 1 (.slice a7 b c7) b (nv ((List.range b).map (PP R d)))) := by
              have := HG.out.own
              rw [List.length_map, List.length_range] at this
              exact this
            have HNT : Hid (∀ v' w9 o, World.ownsRow w9 wz.heap.size 3 1 v' (b + 1) (nv ((List.range b).map (PP R d)) ++ kc (fun _ => (pv : Int)) 1) → (wr.alloc o).grownBy w9 (Value.slice a7 b c7).ownBlock → ∃ a8 c8, v' = .slice a8 (b + 1) c8 ∧ Grw wz w9 ((List.range (b + 1)).map (PP R d)) (.slice a8 (b + 1) c8) ∧ w9.cell? ⟨s, o' + i, none⟩ = some (.int .i64 (x1 : Int)) ∧ w9.cell? ⟨s, o' + i1, none⟩ = some (.int .i64 (x2 : Int))) := fun v' w9 o h1 h2 => by
              obtain ⟨a8, c8, rfl⟩ := own_form h1
              have hgn : Grw wz w9 ((List.range (b + 1)).map (PP R d)) (.slice a8 (b + 1) c8) := by
                rw [List.range_succ, List.map_append, List.map_singleton, ← HPV.out]
                exact HG.out.app (by rw [List.length_map, List.length_range]; exact h1) h2
              exact ⟨a8, c8, rfl, hgn, by rw [hgn.bel.cell (by exact hsz)]; exact cz1, by rw [hgn.bel.cell (by exact hsz)]; exact cz2⟩
            have ca1 := cell_al hszr c1
            have ca2 := cell_al hszr c2
            have HSZA : Hid (∀ o, wz.heap.size ≤ (wr.alloc o).heap.size) := fun o => by have := HG.out.bel.size; simp; omega
            have HB6 : Hid (b ≤ 1000) := by show _ ≤ _; omega
            have c12 : wr.drew.cell? ⟨s, o' + i, none⟩ = some (.int .i64 (x1 : Int)) := c1
            have c22 : wr.drew.cell? ⟨s, o' + i1, none⟩ = some (.int .i64 (x2 : Int)) := c2
            clear hxx1 hxx2 hpv hpp hi1 hib hlt HG hx1 hx2 c1 c2 cz1 cz2
            go_wp2_with fail
            go_region_held3 (fun wx => wx.cell? ⟨s, o' + i, none⟩ = some (.int .i64 (x1 : Int)) ∧ wx.cell? ⟨s, o' + i1, none⟩ = some (.int .i64 (x2 : Int))) (first | exact ⟨c12, c22⟩ | exact ⟨ca1 _, ca2 _⟩ | exact ⟨c19, c29⟩) ((refine step_append_ints _ (by rfl) (.tmp 47) (.tmp 58) (by rfl) wz.heap.size (.slice a7 b c7) b (nv ((List.range b).map (PP R d))) (by rfl) (by exact HOWN.out.alloc _) wr.heap.size 0 1 1 (fun _ => (pv : Int)) (by rfl) (by exact (one_ints wr pv).drawn (Drawn.refl _).drew) (by have := HB6.out; omega) (by exact HSZA.out _) ?_; intro v' w9 ho9 hg9; obtain ⟨a8, c8, rfl, hbk, c19, c29⟩ := HNT.out _ w9 (.cells #[.int .i64 (pv : Int)] 3) ho9.out ⟨hg9.out.os, hg9.out.tape, hg9.out.output, hg9.out.size, hg9.out.block⟩; have HBK := Lib.hid hbk; clear hbk ho9 hg9))
            go_wp2
            have h1 := HI1.out
            have h2 := HIB.out
            exact ⟨⟨b + 1, i + 2, a8, c8, by omega, by omega, rfl, by go_num, HBK.out⟩, by simp [intOf]; omega⟩
          · obtain ⟨i1, hi1⟩ : ∃ i1, i1 = i + 1 := ⟨_, rfl⟩
            have hi1I : (i : Int) + 1 = (i1 : Int) := by omega
            have hd1 : decide (i1 < L) = false := decide_eq_false (by omega)
            have HQ : Hid (b = LL m d / 2) := by show _ = _; rw [← HLL.out]; omega
            have HP : Hid (Ints wr a7 b c7 (fun t => (PP R d t : Nat))) := HG.out.ints
            have HBR : Hid (Below w1.heap.size w1 wr) := HB.out.trans (HG.out.bel.mono HB.out.size)
            have HPU : Hid (∀ s t, s ≤ t → t < b → PP R d s ≤ PP R d t) := by rw [HQ.out]; exact PP_up HL.out hd'
            have hb6 : (b : Int) ≤ 300 := by omega
            clear hi1 hib hlt HG HB HS HIB
            go_wp2_with fail
            clear hi1I hd1 hi6
            generalize wr = wq at *
            go_loopw [12, 13, 14] (fun v12 v13 v14 wr => ∃ (x y' z : Nat) (X : List Nat) (a8 : Option Addr) (c8 : Nat), x ≤ m ∧ y' ≤ b ∧ z = x + y' ∧ v12 = .slice a8 z c8 ∧ v13 = .int .i64 (x : Int) ∧ v14 = .int .i64 (y' : Int) ∧ Grw wq wr X (.slice a8 z c8) ∧ Mrg (fun t => (F (y t)).toNat) (PP R d) m b x y' X) (fun _ v13 v14 _ => (m + b - intOf v13 - intOf v14).toNat)
            case atStart => exact ⟨0, 0, 0, [], none, 0, by omega, by omega, rfl, rfl, rfl, rfl, ⟨Below.refl _ _, World.ownsRow_nil _ _ _ _⟩, Mrg.start _ _ _ _⟩
            case round =>
              obtain ⟨x, y', z, X, a8, c8, hxm, hyb, hz, rfl, rfl, rfl, hg, hmg⟩ := hrel
              have HG := Lib.hid hg; clear hg
              have HMG := Lib.hid hmg; clear hmg
              have HZ := Lib.hid hz; clear hz
              have HBG : Hid (Below w1.heap.size w1 wr) := HBR.out.trans (HG.out.bel.mono HBR.out.size)
              have hz6 : z ≤ 1000 := by have := HZ.out; omega
              have HZ6 : Hid (z ≤ 1000) := hz6
              have hlenX : X.length = z := by rw [HMG.out.len, HZ.out]
              have HOWN : Hid (∀ nn o, ((wr.drewN nn).alloc o).ownsRow wq.heap.size 3 1 (.slice a8 z c8) z (nv X)) := fun nn o => by
                have := (HG.out.drewN nn).own
                rw [hlenX] at this
                exact this.alloc _
              have HNT : Hid (∀ nn v' w9 o (e : Nat), World.ownsRow w9 wq.heap.size 3 1 v' (z + 1) (nv X ++ [.int .i64 (e : Nat)]) → ((wr.drewN nn).alloc o).grownBy w9 (Value.slice a8 z c8).ownBlock → ∃ a9 c9, v' = .slice a9 (z + 1) c9 ∧ Grw wq w9 (X ++ [e]) (.slice a9 (z + 1) c9)) := fun nn v' w9 o e h1 h2 => by
                obtain ⟨a9, c9, rfl⟩ := own_form h1
                exact ⟨a9, c9, rfl, (HG.out.drewN nn).app (by rw [hlenX]; exact h1) h2⟩
              have HSZ : Hid (wq.heap.size ≤ wr.heap.size) := HG.out.bel.size
              have hx6 : (x : Int) ≤ 300 := by omega
              have hy6 : (y' : Int) ≤ 300 := by omega
              have hx0 : (0 : Int) ≤ (x : Int) := by omega
              have hy0 : (0 : Int) ≤ (y' : Int) := by omega
              by_cases hx : x < m
              · have dx : decide (x < m) = true := decide_eq_true hx
                have hxI : (x : Int) < (m : Int) := by omega
                obtain ⟨sw, ow, hsw, _, c1⟩ := (HW.out.later HBG.out).at_ (i := x) (by omega)
                subst hsw
                obtain ⟨e1, he1⟩ : ∃ e, e = (F (y x)).toNat := ⟨_, rfl⟩
                rw [← he1] at c1
                have HL1 : Hid ((y' < b → e1 ≤ PP R d y') → Mrg (fun t => (F (y t)).toNat) (PP R d) m b (x + 1) y' (X ++ [e1])) := fun h => by
                  rw [he1] at h ⊢
                  exact HMG.out.left HUPO.out HPU.out hx h
                by_cases hy : y' < b
                · have dy : decide (b ≤ y') = false := decide_eq_false (by omega)
                  have hyI : (y' : Int) < (b : Int) := by omega
                  obtain ⟨sp, op, hsp, _, c2⟩ := (HP.out.later HG.out.bel).at_ (i := y') (by omega)
                  subst hsp
                  obtain ⟨e2, he2⟩ : ∃ e, e = PP R d y' := ⟨_, rfl⟩
                  rw [← he2] at c2
                  by_cases hle : e1 ≤ e2
                  · have d3 : decide (e1 ≤ e2) = true := decide_eq_true hle
                    have HNX := Lib.hid (HL1.out (fun _ => by rw [← he2]; exact hle))
                    clear he1 he2 HL1 hlenX
                    go_wp2_with fail
                    go_quiet (fail)
                    go_wp2_with (first | (at_builtin; refine wpList_append_int rfl (.tmp 91) (.tmp 96) rfl wq.heap.size (.slice a8 z c8) z (nv X) rfl (HOWN.out _ _) _ (e1 : Nat) rfl (heap_alloc_new _ _) (by have := HZ6.out; omega) (by have := HSZ.out; simp; omega) ?_; intro v' w9 ho9 hg9; obtain ⟨a9, c9, rfl, hbk⟩ := HNT.out _ _ _ _ _ ho9.out hg9.out; have HBK := Lib.hid hbk; clear hbk ho9 hg9))
                    have hz3 := HZ.out
                    exact ⟨⟨x + 1, y', z + 1, X ++ [e1], a9, c9, by omega, by omega, by omega, rfl, by go_num, rfl, HBK.out, HNX.out⟩, by simp [intOf]; omega⟩
                  · have d3 : decide (e1 ≤ e2) = false := decide_eq_false hle
                    have HNX : Hid (Mrg (fun t => (F (y t)).toNat) (PP R d) m b x (y' + 1) (X ++ [e2])) := by
                      rw [he2]
                      exact HMG.out.right HUPO.out HPU.out hy (fun _ => by show PP R d y' ≤ (F (y x)).toNat; rw [← he1, ← he2]; omega)
                    clear he1 he2 HL1 hlenX
                    go_wp2_with fail
                    go_quiet (fail)
                    go_wp2_with (first | (at_builtin; refine wpList_append_int rfl (.tmp 100) (.tmp 105) rfl wq.heap.size (.slice a8 z c8) z (nv X) rfl (HOWN.out _ _) _ (e2 : Nat) rfl (heap_alloc_new _ _) (by have := HZ6.out; omega) (by have := HSZ.out; simp; omega) ?_; intro v' w9 ho9 hg9; obtain ⟨a9, c9, rfl, hbk⟩ := HNT.out _ _ _ _ _ ho9.out hg9.out; have HBK := Lib.hid hbk; clear hbk ho9 hg9))
                    have hz3 := HZ.out
                    exact ⟨⟨x, y' + 1, z + 1, X ++ [e2], a9, c9, by omega, by omega, by omega, rfl, rfl, by go_num, HBK.out, HNX.out⟩, by simp [intOf]; omega⟩
                · have dy : decide (b ≤ y') = true := decide_eq_true (by omega)
                  have HNX := Lib.hid (HL1.out (fun h => absurd h hy))
                  clear he1 HL1 hlenX
                  go_wp2_with fail
                  go_quiet (fail)
                  go_wp2_with (first | (at_builtin; refine wpList_append_int rfl (.tmp 91) (.tmp 96) rfl wq.heap.size (.slice a8 z c8) z (nv X) rfl (HOWN.out _ _) _ (e1 : Nat) rfl (heap_alloc_new _ _) (by have := HZ6.out; omega) (by have := HSZ.out; simp; omega) ?_; intro v' w9 ho9 hg9; obtain ⟨a9, c9, rfl, hbk⟩ := HNT.out _ _ _ _ _ ho9.out hg9.out; have HBK := Lib.hid hbk; clear hbk ho9 hg9))
                  have hz3 := HZ.out
                  exact ⟨⟨x + 1, y', z + 1, X ++ [e1], a9, c9, by omega, by omega, by omega, rfl, by go_num, rfl, HBK.out, HNX.out⟩, by simp [intOf]; omega⟩
              · have dx : decide (x < m) = false := decide_eq_false hx
                by_cases hy : y' < b
                · have dy : decide (b ≤ y') = false := decide_eq_false (by omega)
                  have dy2 : decide (y' < b) = true := decide_eq_true hy
                  have hyI : (y' : Int) < (b : Int) := by omega
                  obtain ⟨sp, op, hsp, _, c2⟩ := (HP.out.later HG.out.bel).at_ (i := y') (by omega)
                  subst hsp
                  obtain ⟨e2, he2⟩ : ∃ e, e = PP R d y' := ⟨_, rfl⟩
                  rw [← he2] at c2
                  have HNX : Hid (Mrg (fun t => (F (y t)).toNat) (PP R d) m b x (y' + 1) (X ++ [e2])) := by
                    rw [he2]
                    exact HMG.out.right HUPO.out HPU.out hy (fun h => absurd h hx)
                  clear he2 hlenX
                  go_wp2_with fail
                  go_quiet (fail)
                  go_wp2_with (first | (at_builtin; refine wpList_append_int rfl (.tmp 100) (.tmp 105) rfl wq.heap.size (.slice a8 z c8) z (nv X) rfl (HOWN.out _ _) _ (e2 : Nat) rfl (heap_alloc_new _ _) (by have := HZ6.out; omega) (by have := HSZ.out; simp; omega) ?_; intro v' w9 ho9 hg9; obtain ⟨a9, c9, rfl, hbk⟩ := HNT.out _ _ _ _ _ ho9.out hg9.out; have HBK := Lib.hid hbk; clear hbk ho9 hg9))
                  have hz3 := HZ.out
                  exact ⟨⟨x, y' + 1, z + 1, X ++ [e2], a9, c9, by omega, by omega, by omega, rfl, rfl, by go_num, HBK.out, HNX.out⟩, by simp [intOf]; omega⟩
                · have dy2 : decide (y' < b) = false := decide_eq_false hy
                  have HEX : Hid (z = LL m (d + 1) ∧ Ints wr a8 z c8 (fun t => (SS R (d + 1) t : Nat))) := by
                    obtain rfl : x = m := by omega
                    obtain rfl : y' = b := by omega
                    have hz2 : z = Hul.ln x d := by rw [HZ.out, LL_ln, HQ.out]
                    have hmg := HMG.out
                    rw [HQ.out] at hmg
                    have hX := hmg.level HL.out HO0.out hdk
                    have hg2 := HG.out
                    rw [hX, hz2] at hg2
                    refine ⟨hz2, ?_⟩
                    rw [hz2]
                    exact hg2.ints
                  clear hlenX HOWN HNT HSZ
                  go_wp2
                  exact ⟨⟨d + 1, a8, c8, z, by omega, HEX.out.1, rfl, by go_num, HBG.out, HEX.out.2⟩, by simp [intOf]; omega⟩
      · obtain rfl : d = K := by omega
        have hdd : decide (d < d) = false := decide_eq_false (by omega)
        obtain ⟨T, hT⟩ : ∃ T, T = 2 * m - 2 := ⟨_, rfl⟩
        have hTI : 2 * (m : Int) - 2 = (T : Int) := by omega
        have hTL : T ≤ L := by
          have h1 := Hul.ln_top HM.out HK.out.1
          have h2 := HK.out.1
          obtain ⟨j, rfl⟩ : ∃ j, d = j + 1 := ⟨d - 1, by omega⟩
          rw [HLL.out, LL]
          rw [show j + 1 - 1 = j by omega] at h1
          omega
        have HRE : Hid (res = sm (SS R d) T) := by
          show _ = _
          rw [HRES.out, show max (2 * m - 2) m = T by omega]
          have h2 := HK.out.1
          obtain ⟨j, rfl⟩ : ∃ j, d = j + 1 := ⟨d - 1, by omega⟩
          rw [show j + 1 - 1 = j by omega]
          exact sm_congr fun t _ => rfl
        have hT6 : (T : Int) ≤ 600 := by omega
        clear hT
        go_wp2_with fail
        generalize wr = wz at *
        go_loopw [15, 16] (fun v15 v16 wr => ∃ i c : Nat, i ≤ T ∧ c = sm (SS R d) i ∧ v15 = .int .i64 (c : Int) ∧ v16 = .int .i64 (i : Int) ∧ wr = wz) (fun _ v16 _ => (T - intOf v16).toNat)
        case atStart => exact ⟨0, 0, by omega, rfl, rfl, rfl, rfl⟩
        case round =>
          obtain ⟨i, c, hi, hc, rfl, rfl, rfl⟩ := hrel
          have hcb := sm_bound (f := SS R d) i (fun t ht => HSB.out t (by omega))
          rw [← hc] at hcb
          have HC := Lib.hid hc; clear hc
          have c6 : (c : Int) ≤ 21000000000000 := by omega
          by_cases hlt : i < T
          · have hdi : decide (i < T) = true := decide_eq_true hlt
            obtain ⟨s, o, rfl, _, c1⟩ := HS.out.at_ (i := i) (by omega)
            have hxb := HSB.out i (by omega)
            obtain ⟨x, hx⟩ : ∃ x, x = SS R d i := ⟨_, rfl⟩
            rw [← hx] at c1 hxb
            have HNX : Hid (c + x = sm (SS R d) (i + 1)) := by show _ = _; rw [sm, ← HC.out, hx]
            have hiI : (i : Int) < (L : Int) := by omega
            clear hx hcb
            go_wp2
            exact ⟨⟨i + 1, c + x, by omega, HNX.out, by go_num, by go_num, trivial⟩, by simp [intOf]; omega⟩
          · obtain rfl : i = T := by omega
            have hdi : decide (i < i) = false := decide_eq_false (by omega)
            have HE : Hid (res = c) := by rw [HRE.out, HC.out]; exact rfl
            go_wp2
            go_returns
            exact ⟨by rw [HE.out]; rfl, HB1.out.trans (HB.out.mono HB1.out.size)⟩
end Go.Proofs.Ytfbcmjgiejjpmaa
