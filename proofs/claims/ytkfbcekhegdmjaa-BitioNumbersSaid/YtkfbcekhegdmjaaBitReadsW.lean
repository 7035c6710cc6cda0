/- The walk of the law BitioReads. -/
import Derived.Test.YtkfbcekhegdmjaaBitReadsS
namespace Go.Proofs.Ytkfbcekhegdmjaa
open Go.RowKit Go

theorem reads_begin (a : Option Addr) (n cap : Nat) (B : List Int) (w : World) (hn : n = B.length) (hB : BytesIn w (.slice a n cap) B (fun _ => True)) (hb : ∀ x ∈ B, 0 ≤ x ∧ x < 256) (hna : a = none → cap = 0) (hl : n ≤ 5000) :
    Calls Try.prog 21 #[.slice a n cap] w fun e w1 => ∃ v, e = .returned v ∧ Hid (Calls Try.prog 22 #[v] w1 fun e w2 => ∃ gr, e = .returned (.pointer (some ⟨gr, 0, none⟩)) ∧
      Hid (∀ w3, w3 = w2.alloc (.cells #[.slice a n cap, .int .i64 0] 47) → Calls Try.prog 23 #[v, .slice a n cap] w3 fun e w4 => e = .returned (.bool true) ∧
        Hid (Calls Try.prog 24 #[v] w4 fun e w5 => e = .returned (.tuple #[]) ∧ Hid (∃ G, BR w w5 a cap n (Bit.val B) gr G 0 w2.heap.size 0)))) := by
  refine (lent_any B a n cap w hn hB hna (by omega)).mono ?_
  rintro e w1 ⟨v, g, rfl, hv, hg, hb1⟩
  refine ⟨v, rfl, ?_⟩
  obtain ⟨c3, C, rfl, _, _, hC, _⟩ := hv.blk
  have hgs : g < w1.heap.size := lt_of_block hC
  refine (rnew_any B _ B.length c3 w1 rfl (hv.bytes.mono (Nat.le_refl _) (fun _ _ _ => trivial) (fun _ _ _ _ => rfl)) hb (by omega)).mono ?_
  rintro e w2 ⟨he, h2, hb2⟩
  refine ⟨_, he, ?_⟩
  rintro w3 rfl
  have hv2 := hv.keep (hb2.block g hgs)
  have hv3 := hv2.keep (Below.heap_alloc w2 (.cells #[.slice a n cap, .int .i64 0] 47) g (Nat.lt_of_lt_of_le hgs hb2.size))
  have c2 : Below w.heap.size w w2 := hb1.trans (hb2.mono hb1.size)
  have c3' : Below w.heap.size w (w2.alloc (.cells #[.slice a n cap, .int .i64 0] 47)) := c2.alloc c2.size _
  refine (kept_any B g _ a n cap _ hn (later_bytes c3' hB) (by omega) hv3).mono ?_
  rintro e w4 ⟨he4, hd4⟩
  refine ⟨he4, ?_⟩
  refine (over_core B _ g _ w4 (by omega) (hv3.keep (by rw [hd4.heap]))).mono ?_
  rintro e w5 ⟨he5, hg5⟩
  refine ⟨he5, w1.heap.size, ?_⟩
  have c4 : Below w.heap.size w w4 := c3'.trans (hd4.below _)
  have s3 : w2.heap.size < w4.heap.size := by rw [hd4.heap]; simp
  have l1 := lt_of_block h2.row
  have l2 := lt_of_block h2.byt
  have keep : ∀ k, k ≠ g → k < w2.heap.size → w5.heap[k]? = w2.heap[k]? := fun k hk hl => by
    rw [gb_heap hg5 (by omega) hk, hd4.heap]
    exact Below.heap_alloc _ _ _ hl
  refine ⟨c4.grown hg5 c4.size (fun k hk => by cases hk; exact hg), ?_, ?_, ?_, ?_, c2.size, by omega⟩
  · rw [hn]
    exact h2.keep (keep _ (by omega) l1) (keep _ (by omega) l2)
  · rw [gb_heap hg5 s3 (by have := hb2.size; omega), hd4.heap]
    exact heap_alloc_new _ _
  · rw [hn, Bit.by_val B hb, ← hn]; exact hB
  · have := hb1.size; omega

theorem quiet_of {P : Program} {f : FuncId} {args : Array Value} {w wx : World} {v : Value} (hx : Drawn w wx) (h : Calls P f args wx fun e w'' => e = .returned v ∧ Drawn wx w'') : Calls P f args wx fun e w'' => e = .returned v ∧ ∃ m, w'' = w.drewN m :=
  h.mono fun _ _ ⟨he, hd⟩ => ⟨he, by
    obtain ⟨k, rfl⟩ := hx
    obtain ⟨j, rfl⟩ := hd
    exact (Drawn.drewN ⟨k, rfl⟩ j)⟩
set_option maxRecDepth 100000 in
set_option maxHeartbeats 4000000 in
theorem reads_core (a : Option Addr) (n cap : Nat) (B : List Int) (a2 : Option Addr) (m c2 : Nat) (PV PN : Nat → Int) (PA : Nat → Bool) (w : World) (hn : n = B.length) (hB : BytesIn w (.slice a n cap) B (fun _ => True)) (hb : ∀ x ∈ B, 0 ≤ x ∧ x < 256) (hna : a = none → cap = 0) (hl : n ≤ 5000)
    (hP : Pcs w a2 m c2 PV PN PA) :
    Calls Try.prog 4 #[.slice a n cap, .slice a2 m c2] w fun e w' => e = .returned (.bool true) ∧ Below w.heap.size w w' := by
  have HBEG := Lib.hid (reads_begin a n cap B w hn hB hb hna hl)
  have HLN := Lib.hid hl
  have hlI : (n : Int) ≤ 5000 := by omega
  have HP := Lib.hid hP; clear hP hn hB hb hna hl
  generalize Bit.val B = V at *
  have hz : ∀ wx, (zeroValue 47).run Try.prog wx = .ok (.agg #[.slice none 0 0, .int .i64 0]) wx := fun wx => by kernel_rfl
  go_enter Try.func4, Try.ntmps4
  go_wp2_with fail
  refine HBEG.out.mono ?_
  rintro e w1 ⟨v, rfl, h1⟩
  clear HBEG
  go_wp2_with fail
  refine h1.out.mono ?_
  rintro e w2 ⟨gr, rfl, h2⟩
  clear h1
  go_wp2_with (refine wpList_build_to rfl 47 _ rfl #[.slice a n cap, .int .i64 0] (by kernel_rfl) ?_)
  refine (h2.out _ rfl).mono ?_
  rintro e w4 ⟨rfl, h4⟩
  clear h2 hz
  generalize w2.heap.size = gd at *
  go_wp2_with fail
  refine h4.out.mono ?_
  rintro e w5 ⟨rfl, h5⟩
  clear h4
  obtain ⟨G, hbr⟩ := h5.out
  have HBR := Lib.hid hbr; clear hbr h5
  go_wp2_with fail
  go_loopw [8] (fun v8 wr => ∃ i p : Nat, i ≤ m ∧ i ≤ 300 ∧ v8 = .int .i64 (i : Int) ∧ BR w wr a cap n V gr G p gd p) (fun v8 _ => (300 - intOf v8).toNat)
  case atStart => exact ⟨0, 0, by omega, by omega, rfl, HBR.out⟩
  case round =>
    clear HBR
    obtain ⟨i, p, hi, hi3, rfl, hbr⟩ := hrel
    have HBR := Lib.hid hbr; clear hbr
    by_cases hlt : i < m ∧ i < 300
    · obtain ⟨hlt1, hlt2⟩ := hlt
      obtain ⟨s, o, rfl, hs, k0, k1, k2⟩ := HP.out.at_ i hlt1
      have HK1 : Hid (∀ wx, Below w.heap.size w wx → wx.cell? ⟨s, o + i * 3 + 1, none⟩ = some (.int .i64 (PN i))) := fun wx hb => (hb.cell (by exact hs)).trans k1
      have HK2 : Hid (∀ wx, Below w.heap.size w wx → wx.cell? ⟨s, o + i * 3 + 2, none⟩ = some (.bool (PA i))) := fun wx hb => (hb.cell (by exact hs)).trans k2
      have hdm : decide (i < m) = true := decide_eq_true hlt1
      have hd3 : decide ((i : Int) < 300) = true := decide_eq_true (by omega)
      have hi0 : (0 : Int) ≤ (i : Int) := by omega
      have him : (i : Int) < (m : Int) := by omega
      clear k0 k1 k2 hs
      have q2 := HK2.out wr HBR.out.bel
      obtain ⟨p1, hp1, HA⟩ : ∃ p1 : Nat, p1 ≤ 8 * n ∧ Hid (if PA i = true then p1 = p + (8 - p % 8) % 8 else p1 = p) := by
        have hle := HBR.out.qle
        by_cases hA : PA i = true
        · exact ⟨p + (8 - p % 8) % 8, by omega, (if_pos hA).mpr rfl⟩
        · exact ⟨p, hle, (if_neg hA).mpr rfl⟩
      have HAL : Hid (PA i = true → ∀ wx, BR w wx a cap n V gr G p gd p → Calls Try.prog 25 #[.pointer (some ⟨gr, 0, none⟩)] wx fun e w' => e = .returned (.tuple #[]) ∧ Hid (BR w w' a cap n V gr G p1 gd p)) := by
        intro hA wx h
        have e1 := HA.out
        rw [if_pos hA] at e1
        rw [e1]
        exact h.ralign (by have := HLN.out; omega)
      have HDA : Hid (PA i = true → ∀ wx, BR w wx a cap n V gr G p1 gd p → Calls Try.prog 26 #[.pointer (some ⟨gd, 0, none⟩)] wx fun e w' => e = .returned (.tuple #[]) ∧ Hid (BR w w' a cap n V gr G p1 gd p1)) := by
        intro hA wx h
        have e1 := HA.out
        rw [if_pos hA] at e1
        have := h.dalign (by have := HLN.out; omega)
        rw [← e1] at this
        exact this
      have HSA : Hid (PA i = false → p1 = p) := fun hA => by
        have e1 := HA.out
        rw [if_neg (by rw [hA]; decide)] at e1
        exact e1
      obtain ⟨x, ok, p2, hg, hd, hp2⟩ := BR.both (w0 := w) (a := a) (cap := cap) (L := n) (V := V) (gr := gr) (G := G) (p := p1) (gd := gd) (PN i) (by have := HLN.out; omega) hp1
      have HG := Lib.hid hg; clear hg
      have HD := Lib.hid hd; clear hd
      have HP2 := Lib.hid hp2; clear hp2 hp1 HA
      generalize PN i = pn at *
      rcases hA : PA i with _ | _
      · rw [hA] at q2
        have e1 := HSA.out hA
        rw [e1] at HG HD
        clear hA HSA HAL HDA e1
        have q1 := HK1.out wr HBR.out.bel
        go_wp2_with fail
        refine (HG.out _ HBR.out).mono ?_
        rintro e w8 ⟨rfl, h8⟩
        have H8 := Lib.hid h8
        clear HG HBR q1 h8
        have q1 := HK1.out w8 H8.out.bel
        go_wp2_with fail
        refine (HD.out _ H8.out).mono ?_
        rintro e w9 ⟨rfl, h9⟩
        have H9 := Lib.hid h9
        clear HD H8 q1 h9
        have k3 : w9.cell? ⟨gd, 1, none⟩ = some (.int .i64 (p2 : Int)) := (cell_of_row _ _ _ _ _ _ H9.out.dr).trans rfl
        have QA : Hid (∀ wx, Drawn w9 wx → Calls Try.prog 29 #[.pointer (some ⟨gr, 0, none⟩)] wx fun e w' => e = .returned (.int .i64 (p2 : Int)) ∧ ∃ m, w' = w9.drewN m) := fun wx hd => quiet_of hd ((at_any gr p2 n V G wx (H9.out.rd.drawn hd)).mono fun _ _ ⟨he, hw⟩ => ⟨he, hw ▸ Drawn.refl _⟩)
        have QL : Hid (∀ wx, Drawn w9 wx → Calls Try.prog 30 #[.pointer (some ⟨gr, 0, none⟩)] wx fun e w' => e = .returned (.int .i64 ((8 * n - p2 : Nat) : Int)) ∧ ∃ m, w' = w9.drewN m) := fun wx hd => quiet_of hd (left_any gr p2 n V G wx (H9.out.rd.drawn hd) (by have := HLN.out; omega))
        have QD : Hid (∀ wx, Drawn w9 wx → Calls Try.prog 31 #[.pointer (some ⟨gd, 0, none⟩)] wx fun e w' => e = .returned (.int .i64 ((8 * n - p2 : Nat) : Int)) ∧ ∃ m, w' = w9.drewN m) := fun wx hd => quiet_of hd (dleft_any gd p2 n V a cap wx (H9.out.doc.drawn hd) (by have := HLN.out; omega))
        generalize 8 * n - p2 = lf at *
        go_wp2_with fail
        go_quiet ((first | (go_at_call 29; exact QA.out _ ⟨_, rfl⟩) | (go_at_call 30; exact QL.out _ ⟨_, rfl⟩) | (go_at_call 31; exact QD.out _ ⟨_, rfl⟩)))
        go_wp2
        exact ⟨⟨i + 1, p2, by omega, by omega, by go_num, H9.out.drawn ⟨_, rfl⟩⟩, by simp [intOf]; omega⟩
      · rw [hA] at q2
        have HAL := Lib.hid (HAL.out hA)
        have HDA := Lib.hid (HDA.out hA)
        clear hA HSA
        go_wp2_with fail
        refine (HAL.out _ HBR.out).mono ?_
        rintro e w6 ⟨rfl, h6⟩
        clear HAL HBR q2
        go_wp2_with fail
        refine (HDA.out _ h6.out).mono ?_
        rintro e w7 ⟨rfl, h7⟩
        clear HDA h6
        have q1 := HK1.out w7 h7.out.bel
        go_wp2_with fail
        refine (HG.out _ h7.out).mono ?_
        rintro e w8 ⟨rfl, h8⟩
        have H8 := Lib.hid h8
        clear HG h7 q1 h8
        have q1 := HK1.out w8 H8.out.bel
        go_wp2_with fail
        refine (HD.out _ H8.out).mono ?_
        rintro e w9 ⟨rfl, h9⟩
        have H9 := Lib.hid h9
        clear HD H8 q1 h9
        have k3 : w9.cell? ⟨gd, 1, none⟩ = some (.int .i64 (p2 : Int)) := (cell_of_row _ _ _ _ _ _ H9.out.dr).trans rfl
        have QA : Hid (∀ wx, Drawn w9 wx → Calls Try.prog 29 #[.pointer (some ⟨gr, 0, none⟩)] wx fun e w' => e = .returned (.int .i64 (p2 : Int)) ∧ ∃ m, w' = w9.drewN m) := fun wx hd => quiet_of hd ((at_any gr p2 n V G wx (H9.out.rd.drawn hd)).mono fun _ _ ⟨he, hw⟩ => ⟨he, hw ▸ Drawn.refl _⟩)
        have QL : Hid (∀ wx, Drawn w9 wx → Calls Try.prog 30 #[.pointer (some ⟨gr, 0, none⟩)] wx fun e w' => e = .returned (.int .i64 ((8 * n - p2 : Nat) : Int)) ∧ ∃ m, w' = w9.drewN m) := fun wx hd => quiet_of hd (left_any gr p2 n V G wx (H9.out.rd.drawn hd) (by have := HLN.out; omega))
        have QD : Hid (∀ wx, Drawn w9 wx → Calls Try.prog 31 #[.pointer (some ⟨gd, 0, none⟩)] wx fun e w' => e = .returned (.int .i64 ((8 * n - p2 : Nat) : Int)) ∧ ∃ m, w' = w9.drewN m) := fun wx hd => quiet_of hd (dleft_any gd p2 n V a cap wx (H9.out.doc.drawn hd) (by have := HLN.out; omega))
        generalize 8 * n - p2 = lf at *
        go_wp2_with fail
        go_quiet ((first | (go_at_call 29; exact QA.out _ ⟨_, rfl⟩) | (go_at_call 30; exact QL.out _ ⟨_, rfl⟩) | (go_at_call 31; exact QD.out _ ⟨_, rfl⟩)))
        go_wp2
        exact ⟨⟨i + 1, p2, by omega, by omega, by go_num, H9.out.drawn ⟨_, rfl⟩⟩, by simp [intOf]; omega⟩
    · have HE := Lib.hid HBR.out.bel
      clear HBR
      by_cases hlm : i < m
      · have hi300 : i = 300 := by omega
        subst hi300
        have hdm : decide (300 < m) = true := decide_eq_true hlm
        go_wp2_with fail
        refine (awake_any _).mono ?_
        rintro e w6 ⟨rfl, hb6⟩
        have HE6 : Hid (Below w.heap.size w w6) := HE.out.trans (hb6.mono HE.out.size)
        clear hb6
        go_wp2
        go_ret
        exact ⟨rfl, HE6.out⟩
      · have hdm : decide (i < m) = false := decide_eq_false hlm
        go_wp2_with fail
        refine (awake_any _).mono ?_
        rintro e w6 ⟨rfl, hb6⟩
        have HE6 : Hid (Below w.heap.size w w6) := HE.out.trans (hb6.mono HE.out.size)
        clear hb6
        go_wp2
        go_ret
        exact ⟨rfl, HE6.out⟩
theorem reads_walk (a : Option Addr) (n cap : Nat) (B : List Int) (a2 : Option Addr) (m c2 : Nat) (PV PN : Nat → Int) (PA : Nat → Bool) (w : World) (hn : n = B.length) (hB : BytesIn w (.slice a n cap) B (fun _ => True)) (hb : ∀ x ∈ B, 0 ≤ x ∧ x < 256) (hna : a = none → cap = 0) (_ : n ≤ 140737488351232)
    (hP : Pcs w a2 m c2 PV PN PA) :
    Calls Try.prog 4 #[.slice a n cap, .slice a2 m c2] w fun e w' => e = .returned (.bool true) ∧ Below w.heap.size w w' := by
  by_cases hl : n ≤ 5000
  · exact reads_core a n cap B a2 m c2 PV PN PA w hn hB hb hna hl hP
  · have hlI : (5000 : Int) < (n : Int) := by omega
    have HA := Lib.hid (awake_any w)
    clear hn hB hb hna hP hl
    go_enter Try.func4, Try.ntmps4
    go_wp2_with fail
    refine HA.out.mono ?_
    rintro e w6 ⟨rfl, hb6⟩
    have HE6 := Lib.hid hb6; clear hb6
    go_wp2
    go_ret
    exact ⟨rfl, HE6.out⟩
end Go.Proofs.Ytkfbcekhegdmjaa
