/- The walk of the law BitioWrites. -/
import Derived.Test.YtkfbcekhegdmjaaBitWritesE
import Derived.Deep.RegionHeld3
namespace Go.Proofs.Ytkfbcekhegdmjaa
open Go.RowKit Go

theorem BX.new (w w1 : World) (h : WS w w1 w.heap.size 0 0) : BX w (w1.alloc (.cells #[.slice none 0 0] 28)) w.heap.size 0 0 w1.heap.size 0 0 (.slice none 0 0) := by
  have h2 := h.later ((Below.refl w1.heap.size w1).alloc (Nat.le_refl _) (.cells #[.slice none 0 0] 28))
  obtain ⟨v, hv⟩ := h2.wr
  exact ⟨h2.bel, h2.lo, h.bel.size, ⟨v, hv, fun b hb => by cases hb⟩, ⟨.slice none 0 0, heap_alloc_new _ _, World.ownsRow_nil _ _ _ _, by decide⟩, 0, [], by omega, rfl, .inl ⟨rfl, rfl⟩⟩
/-- both writers, however far they are -/
structure BAny (w wx : World) (gw gd : Nat) : Prop where
  at_ : ∃ n V n' V' vb, BX w wx gw n V gd n' V' vb
set_option maxRecDepth 100000 in
set_option maxHeartbeats 8000000 in
theorem writes_walk (a2 : Option Addr) (m c2 : Nat) (PV PN : Nat → Int) (PA : Nat → Bool) (w : World) (hP : Pcs w a2 m c2 PV PN PA) :
    Calls Try.prog 3 #[.slice a2 m c2] w fun e w' => e = .returned (.bool true) ∧ Below w.heap.size w w' := by
  have HP := Lib.hid hP; clear hP
  have HNEW := Lib.hid (WS.new w w (Below.refl _ _))
  go_enter Try.func3, Try.ntmps3
  go_wp2_with fail
  refine HNEW.out.mono ?_
  rintro e w1 ⟨rfl, h1⟩
  have HB0 := Lib.hid (BX.new w w1 h1); clear h1 HNEW
  go_wp2_with (refine wpList_build_to rfl 28 _ rfl #[.slice none 0 0] (by kernel_rfl) ?_)
  generalize w1.alloc (.cells #[.slice none 0 0] 28) = w2 at *
  generalize w1.heap.size = gd at *
  obtain ⟨gw, hgw⟩ : ∃ gw, w.heap.size = gw := ⟨_, rfl⟩
  have HGW := Lib.hid hgw
  rw [hgw] at HB0 ⊢
  clear hgw
  go_loopw [5, 6] (fun v5 v6 wr => ∃ i n V : Nat, i ≤ m ∧ i ≤ 300 ∧ v6 = .int .i64 (i : Int) ∧ n ≤ 39 * i ∧ BX w wr gw n V gd n V v5) (fun _ v6 _ => (300 - intOf v6).toNat)
  case atStart => exact ⟨0, 0, 0, by omega, by omega, rfl, by omega, HB0.out⟩
  case round =>
    clear HB0
    obtain ⟨i, n, V, hi, hi3, rfl, hn, hbx⟩ := hrel
    have HB := Lib.hid hbx; clear hbx
    by_cases hlt : i < m ∧ i < 300
    · obtain ⟨hlt1, hlt2⟩ := hlt
      obtain ⟨s, o, rfl, hs, k0, k1, k2⟩ := HP.out.at_ i hlt1
      have HK0 : Hid (∀ wx, Below w.heap.size w wx → wx.cell? ⟨s, o + i * 3, none⟩ = some (.int .u32 (PV i))) := fun wx hb => (hb.cell (by exact hs)).trans k0
      have HK1 : Hid (∀ wx, Below w.heap.size w wx → wx.cell? ⟨s, o + i * 3 + 1, none⟩ = some (.int .i64 (PN i))) := fun wx hb => (hb.cell (by exact hs)).trans k1
      have HK2 : Hid (∀ wx, Below w.heap.size w wx → wx.cell? ⟨s, o + i * 3 + 2, none⟩ = some (.bool (PA i))) := fun wx hb => (hb.cell (by exact hs)).trans k2
      have hdm : decide (i < m) = true := decide_eq_true hlt1
      have hd3 : decide ((i : Int) < 300) = true := decide_eq_true (by omega)
      have hi0 : (0 : Int) ≤ (i : Int) := by omega
      have him : (i : Int) < (m : Int) := by omega
      have hi300 : (i : Int) < 300 := by omega
      clear k0 k1 k2 hs
      have q2 := HK2.out wr HB.out.bel
      have HNB : Hid (n ≤ 39 * i ∧ i < 300) := ⟨hn, hlt2⟩
      clear hn
      obtain ⟨n0, HN0, HA⟩ : ∃ n0 : Nat, Hid (n0 ≤ n + 7) ∧ Hid (if PA i = true then n0 = n + (8 - n % 8) % 8 else n0 = n) := by
        by_cases hA : PA i = true
        · exact ⟨n + (8 - n % 8) % 8, (by omega : n + (8 - n % 8) % 8 ≤ n + 7), (if_pos hA).mpr rfl⟩
        · exact ⟨n, (by omega : n ≤ n + 7), (if_neg hA).mpr rfl⟩
      have HWA : Hid (PA i = true → ∀ wx vb, BX w wx gw n V gd n V vb → Calls Try.prog 10 #[.pointer (some ⟨gw, 0, none⟩)] wx fun e w' => e = .returned (.tuple #[]) ∧ Hid (BX w w' gw n0 V gd n V vb)) := fun hA wx vb h => by
        have e1 := HA.out
        rw [if_pos hA] at e1
        rw [e1]
        exact h.walign (by have := HNB.out; omega)
      have HDA : Hid (PA i = true → ∀ wx vb, BX w wx gw n0 V gd n V vb → Calls Try.prog 11 #[.pointer (some ⟨gd, 0, none⟩)] wx fun e w' => e = .returned (.tuple #[]) ∧ Hid (BX w w' gw n0 V gd n0 V vb)) := fun hA wx vb h => by
        have e1 := HA.out
        rw [if_pos hA] at e1
        have := h.dalign (by have := HNB.out; omega)
        rw [← e1] at this
        exact this
      have HSA : Hid (PA i = false → n0 = n) := fun hA => by
        have e1 := HA.out
        rw [if_neg (by rw [hA]; decide)] at e1
        exact e1
      obtain ⟨ok, n1, V1, hn1, hp, hd⟩ := BX.puts (w0 := w) (gw := gw) (n := n0) (V := V) (gd := gd) (PV i) (PN i) (HP.out.v i) (by have := HNB.out; have := HN0.out; omega)
      have HPUT := Lib.hid hp; clear hp
      have HDPUT := Lib.hid hd; clear hd
      have HN1 : Hid (n1 ≤ 39 * (i + 1) ∧ n1 ≤ 100000) := by have := HNB.out; have := HN0.out; exact ⟨by omega, by omega⟩
      have HLEN : Hid (∀ wx vb, BX w wx gw n1 V1 gd n1 V1 vb → Calls Try.prog 14 #[.pointer (some ⟨gw, 0, none⟩)] wx fun e w' => e = .returned (.int .i64 ((n1 : Nat) : Int)) ∧ BX w w' gw n1 V1 gd n1 V1 vb ∧ ∀ a, w'.cell? a = wx.cell? a) := fun wx vb h => h.len (by have := HN1.out; omega)
      have HMID : Hid (∀ wx vb, BX w wx gw n1 V1 gd n1 V1 vb → _) := fun wx vb h => h.middle (by have := HN1.out; omega)
      clear hn1 HA
      generalize PV i = pv at *
      generalize PN i = pn at *
      have HOLD : Hid (∀ wx, BAny w wx gw gd → wx.cell? ⟨s, o + i * 3, none⟩ = some (.int .u32 pv) ∧ wx.cell? ⟨s, o + i * 3 + 1, none⟩ = some (.int .i64 pn) ∧ BAny w wx gw gd) := fun wx h => by
        obtain ⟨_, _, _, _, _, hb⟩ := h.at_
        exact ⟨HK0.out wx hb.bel, HK1.out wx hb.bel, h⟩
      rcases hA : PA i with _ | _
      case false =>
        rw [hA] at q2
        have e1 := HSA.out hA
        rw [e1] at HPUT HDPUT
        clear hA HSA HWA HDA e1
        obtain ⟨w6, h6, hrw⟩ : ∃ w6, Hid (BX w w6 gw n V gd n V u5) ∧ w6 = wr := ⟨wr, HB, rfl⟩
        subst hrw
        go_wp2_with fail
        clear HB q2
        have hb6 := h6.out.drawn (w' := w6.drew) ⟨1, rfl⟩
        refine wp_region_held_drew (S := fun wx => wx.cell? ⟨s, o + i * 3, none⟩ = some (.int .u32 pv) ∧ wx.cell? ⟨s, o + i * 3 + 1, none⟩ = some (.int .i64 pn) ∧ BAny w wx gw gd) (by kernel_rfl) (HOLD.out _ ⟨_, _, _, _, _, hb6⟩) (fun hHeld => ?_)
        refine wpAnyH_take (i := 0) (v := ?_) rfl (by kernel_rfl) (by kernel_rfl) (by kernel_rfl) (fun _ _ _ h => h) (Or.inl ⟨by rfl, ?_⟩) (by assumption) ?_
        rotate_left
        · intro w hSw
          go_simp
          try with_reducible rfl
        show wpAnyH _ _ _ _ _ _ _ (Act.put _ (some 31) _) _
        simp only [Act.put, List.setIfInBounds_toArray, List.set_cons_zero, List.set_cons_succ]
        refine wpAnyH_take (i := 1) (v := ?_) rfl (by kernel_rfl) (by kernel_rfl) (by kernel_rfl) (fun _ _ _ h => h) (Or.inl ⟨by rfl, ?_⟩) (by assumption) ?_
        rotate_left
        · intro w hSw
          go_simp
          try with_reducible rfl
        show wpAnyH _ _ _ _ _ _ _ (Act.put _ (some 32) _) _
        simp only [Act.put, List.setIfInBounds_toArray, List.set_cons_zero, List.set_cons_succ]
        refine wpAnyH_take (i := 2) (v := ?_) rfl (by kernel_rfl) (by kernel_rfl) (by kernel_rfl) (fun _ _ _ h => h) (Or.inl ⟨by rfl, ?_⟩) (by assumption) ?_
        rotate_left
        · intro w hSw
          go_simp
          try with_reducible rfl
        show wpAnyH _ _ _ _ _ _ _ (Act.put _ (some 33) _) _
        simp only [Act.put, List.setIfInBounds_toArray, List.set_cons_zero, List.set_cons_succ]
        refine wpAnyH_take (i := 3) (v := ?_) rfl (by kernel_rfl) (by kernel_rfl) (by kernel_rfl) (fun _ _ _ h => h) (Or.inl ⟨by rfl, ?_⟩) (by assumption) ?_
        rotate_left
        · intro w hSw
          go_simp
          try with_reducible rfl
        show wpAnyH _ _ _ _ _ _ _ (Act.put _ (some 34) _) _
        simp only [Act.put, List.setIfInBounds_toArray, List.set_cons_zero, List.set_cons_succ]
        refine wpAnyH_take (i := 4) (v := ?_) rfl (by kernel_rfl) (by kernel_rfl) (by kernel_rfl) (fun _ _ _ h => h) (Or.inl ⟨by rfl, ?_⟩) (by assumption) ?_
        rotate_left
        · intro w hSw
          go_simp
          try with_reducible rfl
        show wpAnyH _ _ _ _ _ _ _ (Act.put _ (some 35) _) _
        simp only [Act.put, List.setIfInBounds_toArray, List.set_cons_zero, List.set_cons_succ]
        refine wpAnyH_take (i := 5) (v := ?_) rfl (by kernel_rfl) (by kernel_rfl) (by kernel_rfl) (fun _ _ _ h => h) (Or.inl ⟨by rfl, ?_⟩) (by assumption) ?_
        rotate_left
        · intro w hSw
          go_simp
          try with_reducible rfl
        show wpAnyH _ _ _ _ _ _ _ (Act.put _ (some 36) _) _
        simp only [Act.put, List.setIfInBounds_toArray, List.set_cons_zero, List.set_cons_succ]
        refine wpAnyH_take (i := 6) (v := ?_) rfl (by kernel_rfl) (by kernel_rfl) (by kernel_rfl) (fun _ _ _ h => h) (Or.inl ⟨by rfl, ?_⟩) (by assumption) ?_
        rotate_left
        · intro w hSw
          go_simp
          try with_reducible rfl
        show wpAnyH _ _ _ _ _ _ _ (Act.put _ (some 37) _) _
        simp only [Act.put, List.setIfInBounds_toArray, List.set_cons_zero, List.set_cons_succ]
        refine wpAnyH_take (i := 7) (v := ?_) rfl (by kernel_rfl) (by kernel_rfl) (by kernel_rfl) (fun _ _ _ h => h) (Or.inl ⟨by rfl, ?_⟩) (by assumption) ?_
        rotate_left
        · intro w hSw
          go_simp
          try with_reducible rfl
        show wpAnyH _ _ _ _ _ _ _ (Act.put _ (some 38) _) _
        simp only [Act.put, List.setIfInBounds_toArray, List.set_cons_zero, List.set_cons_succ]
        refine wpAnyH_take (i := 8) (v := ?_) rfl (by kernel_rfl) (by kernel_rfl) (by kernel_rfl) (fun _ _ _ h => h) (Or.inl ⟨by rfl, ?_⟩) (by assumption) ?_
        rotate_left
        · intro w hSw
          go_simp
          try with_reducible rfl
        show wpAnyH _ _ _ _ _ _ _ (Act.put _ (some 39) _) _
        simp only [Act.put, List.setIfInBounds_toArray, List.set_cons_zero, List.set_cons_succ]
        refine wpAnyH_take (i := 9) (v := ?_) rfl (by kernel_rfl) (by kernel_rfl) (by kernel_rfl) (fun _ _ _ h => h) (Or.inl ⟨by rfl, ?_⟩) (by assumption) ?_
        rotate_left
        · intro w hSw
          go_simp
          try with_reducible rfl
        show wpAnyH _ _ _ _ _ _ _ (Act.put _ (some 40) _) _
        simp only [Act.put, List.setIfInBounds_toArray, List.set_cons_zero, List.set_cons_succ]
        refine wpAnyH_take (i := 10) (v := ?_) rfl (by kernel_rfl) (by kernel_rfl) (by kernel_rfl) (fun _ _ _ h => h) (Or.inl ⟨by rfl, ?_⟩) (by assumption) ?_
        rotate_left
        · intro w hSw
          go_simp
          try with_reducible rfl
        show wpAnyH _ _ _ _ _ _ _ (Act.put _ (some 41) _) _
        simp only [Act.put, List.setIfInBounds_toArray, List.set_cons_zero, List.set_cons_succ]
        refine wpAnyH_take (i := 12) (v := ?_) rfl (by kernel_rfl) (by kernel_rfl) (by kernel_rfl) (fun _ _ _ h => h) (Or.inl ⟨by rfl, ?_⟩) (by assumption) ?_
        rotate_left
        · intro w hSw
          go_simp
          try with_reducible rfl
        show wpAnyH _ _ _ _ _ _ _ (Act.put _ (some 43) _) _
        simp only [Act.put, List.setIfInBounds_toArray, List.set_cons_zero, List.set_cons_succ]
        refine wpAnyH_take (i := 13) (v := ?_) rfl (by kernel_rfl) (by kernel_rfl) (by kernel_rfl) (fun _ _ _ h => h) (Or.inl ⟨by rfl, ?_⟩) (by assumption) ?_
        rotate_left
        · intro w hSw
          go_simp
          try with_reducible rfl
        show wpAnyH _ _ _ _ _ _ _ (Act.put _ (some 44) _) _
        simp only [Act.put, List.setIfInBounds_toArray, List.set_cons_zero, List.set_cons_succ]
        refine wpAnyH_take (i := 14) (v := ?_) rfl (by kernel_rfl) (by kernel_rfl) (by kernel_rfl) (fun _ _ _ h => h) (Or.inl ⟨by rfl, ?_⟩) (by assumption) ?_
        rotate_left
        · intro w hSw
          go_simp
          try with_reducible rfl
        show wpAnyH _ _ _ _ _ _ _ (Act.put _ (some 45) _) _
        simp only [Act.put, List.setIfInBounds_toArray, List.set_cons_zero, List.set_cons_succ]
        refine wpAnyH_take (i := 15) (v := ?_) rfl (by kernel_rfl) (by kernel_rfl) (by kernel_rfl) (fun _ _ _ h => h) (Or.inl ⟨by rfl, ?_⟩) (by assumption) ?_
        rotate_left
        · intro w hSw
          go_simp
          try with_reducible rfl
        show wpAnyH _ _ _ _ _ _ _ (Act.put _ (some 46) _) _
        simp only [Act.put, List.setIfInBounds_toArray, List.set_cons_zero, List.set_cons_succ]
        refine wpAnyH_take (i := 16) (v := ?_) rfl (by kernel_rfl) (by kernel_rfl) (by kernel_rfl) (fun _ _ _ h => h) (Or.inl ⟨by rfl, ?_⟩) (by assumption) ?_
        rotate_left
        · intro w hSw
          go_simp
          try with_reducible rfl
        show wpAnyH _ _ _ _ _ _ _ (Act.put _ (some 47) _) _
        simp only [Act.put, List.setIfInBounds_toArray, List.set_cons_zero, List.set_cons_succ]
        refine wpAnyH_take (i := 17) (v := ?_) rfl (by kernel_rfl) (by kernel_rfl) (by kernel_rfl) (fun _ _ _ h => h) (Or.inl ⟨by rfl, ?_⟩) (by assumption) ?_
        rotate_left
        · intro w hSw
          go_simp
          try with_reducible rfl
        show wpAnyH _ _ _ _ _ _ _ (Act.put _ (some 48) _) _
        simp only [Act.put, List.setIfInBounds_toArray, List.set_cons_zero, List.set_cons_succ]
        refine wpAnyH_take (i := 18) (v := ?_) rfl (by kernel_rfl) (by kernel_rfl) (by kernel_rfl) (fun _ _ _ h => h) (Or.inl ⟨by rfl, ?_⟩) (by assumption) ?_
        rotate_left
        · intro w hSw
          go_simp
          try with_reducible rfl
        show wpAnyH _ _ _ _ _ _ _ (Act.put _ (some 49) _) _
        simp only [Act.put, List.setIfInBounds_toArray, List.set_cons_zero, List.set_cons_succ]
        refine wpAnyH_take (i := 19) (v := ?_) rfl (by kernel_rfl) (by kernel_rfl) (by kernel_rfl) (fun _ _ _ h => h) (Or.inl ⟨by rfl, ?_⟩) (by assumption) ?_
        rotate_left
        · intro w hSw
          go_simp
          try with_reducible rfl
        show wpAnyH _ _ _ _ _ _ _ (Act.put _ (some 50) _) _
        simp only [Act.put, List.setIfInBounds_toArray, List.set_cons_zero, List.set_cons_succ]
        refine wpAnyH_take (i := 20) (v := ?_) rfl (by kernel_rfl) (by kernel_rfl) (by kernel_rfl) (fun _ _ _ h => h) (Or.inl ⟨by rfl, ?_⟩) (by assumption) ?_
        rotate_left
        · intro w hSw
          go_simp
          try with_reducible rfl
        show wpAnyH _ _ _ _ _ _ _ (Act.put _ (some 51) _) _
        simp only [Act.put, List.setIfInBounds_toArray, List.set_cons_zero, List.set_cons_succ]
        refine wpAnyH_take (i := 21) (v := ?_) rfl (by kernel_rfl) (by kernel_rfl) (by kernel_rfl) (fun _ _ _ h => h) (Or.inl ⟨by rfl, ?_⟩) (by assumption) ?_
        rotate_left
        · intro w hSw
          go_simp
          try with_reducible rfl
        show wpAnyH _ _ _ _ _ _ _ (Act.put _ (some 52) _) _
        simp only [Act.put, List.setIfInBounds_toArray, List.set_cons_zero, List.set_cons_succ]
        refine wpAnyH_take (i := 22) (v := ?_) rfl (by kernel_rfl) (by kernel_rfl) (by kernel_rfl) (fun _ _ _ h => h) (Or.inl ⟨by rfl, ?_⟩) (by assumption) ?_
        rotate_left
        · intro w hSw
          go_simp
          try with_reducible rfl
        show wpAnyH _ _ _ _ _ _ _ (Act.put _ (some 53) _) _
        simp only [Act.put, List.setIfInBounds_toArray, List.set_cons_zero, List.set_cons_succ]
        refine wpAnyH_ready (rs := [11]) (by kernel_rfl) (by simp) (AllReadyH.cons rfl (fun K' hK' => ?_) AllReadyH.nil)
        go_simp
        refine (HPUT.out _ _ hb6).mono ?_; rintro e w7 ⟨rfl, h7⟩
        go_wp2_with fail
        refine hK'.out _ _ (HOLD.out _ ⟨_, _, _, _, _, h7⟩) (fun hf7 => ?_)
        clear hK'
        clear hHeld
        refine wpAnyH_ready (rs := [23]) (by kernel_rfl) (by simp) (AllReadyH.cons rfl (fun K' hK' => ?_) AllReadyH.nil)
        go_simp
        refine (HDPUT.out _ _ h7).mono ?_; rintro e w8 ⟨rfl, h8, a8, c8, k8⟩
        go_wp2_with fail
        refine hK'.out _ _ (HOLD.out _ ⟨_, _, _, _, _, h8⟩) (fun hf8 => ?_)
        clear hK'
        clear hf7
        refine wpAnyH_take (i := 24) (v := ?_) rfl (by kernel_rfl) (by kernel_rfl) (by kernel_rfl) (fun _ _ _ h => h) (Or.inl ⟨by rfl, ?_⟩) (by assumption) ?_
        rotate_left
        · intro w hSw
          go_simp
          try with_reducible rfl
        show wpAnyH _ _ _ _ _ _ _ (Act.put _ (some 55) _) _
        simp only [Act.put, List.setIfInBounds_toArray, List.set_cons_zero, List.set_cons_succ]
        refine wpAnyH_take (i := 25) (v := ?_) rfl (by kernel_rfl) (by kernel_rfl) (by kernel_rfl) (fun _ _ _ h => h) (Or.inl ⟨by rfl, ?_⟩) (by assumption) ?_
        rotate_left
        · intro w hSw
          go_simp
          try with_reducible rfl
        show wpAnyH _ _ _ _ _ _ _ (Act.put _ (some 56) _) _
        simp only [Act.put, List.setIfInBounds_toArray, List.set_cons_zero, List.set_cons_succ]
        refine wpAnyH_take (i := 26) (v := ?_) rfl (by kernel_rfl) (by kernel_rfl) (by kernel_rfl) (fun _ _ _ h => h) (Or.inl ⟨by rfl, ?_⟩) (by assumption) ?_
        rotate_left
        · intro w hSw
          go_simp
          try with_reducible rfl
        show wpAnyH _ _ _ _ _ _ _ (Act.put _ (some 57) _) _
        simp only [Act.put, List.setIfInBounds_toArray, List.set_cons_zero, List.set_cons_succ]
        refine wpAnyH_take (i := 28) (v := ?_) rfl (by kernel_rfl) (by kernel_rfl) (by kernel_rfl) (fun _ _ _ h => h) (Or.inl ⟨by rfl, ?_⟩) (by assumption) ?_
        rotate_left
        · intro w hSw
          go_simp
          try with_reducible rfl
        show wpAnyH _ _ _ _ _ _ _ (Act.put _ (some 59) _) _
        simp only [Act.put, List.setIfInBounds_toArray, List.set_cons_zero, List.set_cons_succ]
        refine wpAnyH_take (i := 29) (v := ?_) rfl (by kernel_rfl) (by kernel_rfl) (by kernel_rfl) (fun _ _ _ h => h) (Or.inl ⟨by rfl, ?_⟩) (by assumption) ?_
        rotate_left
        · intro w hSw
          go_simp
          try with_reducible rfl
        show wpAnyH _ _ _ _ _ _ _ (Act.put _ (some 60) _) _
        simp only [Act.put, List.setIfInBounds_toArray, List.set_cons_zero, List.set_cons_succ]
        refine wpAnyH_take (i := 30) (v := ?_) rfl (by kernel_rfl) (by kernel_rfl) (by kernel_rfl) (fun _ _ _ h => h) (Or.inl ⟨by rfl, ?_⟩) (by assumption) ?_
        rotate_left
        · intro w hSw
          go_simp
          try with_reducible rfl
        show wpAnyH _ _ _ _ _ _ _ (Act.put _ (some 61) _) _
        simp only [Act.put, List.setIfInBounds_toArray, List.set_cons_zero, List.set_cons_succ]
        refine wpAnyH_ready (rs := [27, 31]) (by kernel_rfl) (by simp) (AllReadyH.cons rfl (fun K' hK' => ?_) (AllReadyH.cons rfl (fun K' hK' => ?_) AllReadyH.nil))
        · go_simp
          refine (HLEN.out _ _ h8).mono ?_; rintro e w9 ⟨rfl, h9, q9⟩
          go_wp2_with fail
          refine hK'.out _ _ (HOLD.out _ ⟨_, _, _, _, _, h9⟩) (fun hf9 => ?_)
          clear hK'
          clear hf8
          have k9 := (q9 ⟨gd, 0, none⟩).trans k8
          refine wpAnyH_ready (rs := [31]) (by kernel_rfl) (by simp) (AllReadyH.cons rfl (fun K' hK' => ?_) AllReadyH.nil)
          go_simp
          refine hK'.out _ _ (HOLD.out _ ⟨_, _, _, _, _, h9⟩) (fun hf10 => ?_)
          clear hK'
          try simp only [Act.put, List.setIfInBounds_toArray, List.set_cons_zero, List.set_cons_succ]
          clear hf9
          refine wpAnyH_take (i := 32) (v := ?_) rfl (by kernel_rfl) (by kernel_rfl) (by kernel_rfl) (fun _ _ _ h => h) (Or.inl ⟨by rfl, ?_⟩) (by assumption) ?_
          rotate_left
          · intro w hSw
            go_simp
            try with_reducible rfl
          show wpAnyH _ _ _ _ _ _ _ (Act.put _ (some 63) _) _
          simp only [Act.put, List.setIfInBounds_toArray, List.set_cons_zero, List.set_cons_succ]
          refine wpAnyH_take (i := 33) (v := ?_) rfl (by kernel_rfl) (by kernel_rfl) (by kernel_rfl) (fun _ _ _ h => h) (Or.inl ⟨by rfl, ?_⟩) (by assumption) ?_
          rotate_left
          · intro w hSw
            go_simp
            try with_reducible rfl
          show wpAnyH _ _ _ _ _ _ _ (Act.put _ (some 64) _) _
          simp only [Act.put, List.setIfInBounds_toArray, List.set_cons_zero, List.set_cons_succ]
          refine wpAnyH_take (i := 34) (v := ?_) rfl (by kernel_rfl) (by kernel_rfl) (by kernel_rfl) (fun _ _ _ h => h) (Or.inl ⟨by rfl, ?_⟩) (by assumption) ?_
          rotate_left
          · intro w hSw
            go_simp
            try with_reducible rfl
          show wpAnyH _ _ _ _ _ _ _ (Act.put _ (some 65) _) _
          simp only [Act.put, List.setIfInBounds_toArray, List.set_cons_zero, List.set_cons_succ]
          refine wpAnyH_done (by kernel_rfl) ?_ _
          by_cases h5 : (i : Int) % 64 = 5
          · have HM := Lib.hid (HMID.out _ _ h9)
            go_wp2_with fail
            refine HM.out.mono ?_
            rintro e wa ⟨G, M, rfl, ha⟩
            clear HM h5
            go_wp2_with fail
            refine ha.out.mono ?_
            rintro e wb ⟨v2, rfl, hb⟩
            clear ha
            go_wp2_with fail
            refine hb.out.mono ?_
            rintro e wc ⟨rfl, hc⟩
            clear hb
            go_wp2_with fail
            refine hc.out.mono ?_
            rintro e wd ⟨rfl, hd⟩
            clear hc
            go_wp2
            exact ⟨⟨i + 1, n1, V1, by omega, by omega, by go_num, HN1.out.1, hd.out⟩, by simp [intOf]; omega⟩
          · have H9 := Lib.hid h9
            go_wp2
            exact ⟨⟨i + 1, n1, V1, by omega, by omega, by go_num, HN1.out.1, H9.out⟩, by simp [intOf]; omega⟩
        · go_simp
          refine hK'.out _ _ (HOLD.out _ ⟨_, _, _, _, _, h8⟩) (fun hf9 => ?_)
          clear hK'
          try simp only [Act.put, List.setIfInBounds_toArray, List.set_cons_zero, List.set_cons_succ]
          clear hf8
          refine wpAnyH_take (i := 32) (v := ?_) rfl (by kernel_rfl) (by kernel_rfl) (by kernel_rfl) (fun _ _ _ h => h) (Or.inl ⟨by rfl, ?_⟩) (by assumption) ?_
          rotate_left
          · intro w hSw
            go_simp
            try with_reducible rfl
          show wpAnyH _ _ _ _ _ _ _ (Act.put _ (some 63) _) _
          simp only [Act.put, List.setIfInBounds_toArray, List.set_cons_zero, List.set_cons_succ]
          refine wpAnyH_ready (rs := [27]) (by kernel_rfl) (by simp) (AllReadyH.cons rfl (fun K' hK' => ?_) AllReadyH.nil)
          go_simp
          refine (HLEN.out _ _ h8).mono ?_; rintro e w9 ⟨rfl, h9, q9⟩
          go_wp2_with fail
          refine hK'.out _ _ (HOLD.out _ ⟨_, _, _, _, _, h9⟩) (fun hf10 => ?_)
          clear hK'
          clear hf9
          refine wpAnyH_take (i := 33) (v := ?_) rfl (by kernel_rfl) (by kernel_rfl) (by kernel_rfl) (fun _ _ _ h => h) (Or.inl ⟨by rfl, ?_⟩) (by assumption) ?_
          rotate_left
          · intro w hSw
            go_simp
            try with_reducible rfl
          show wpAnyH _ _ _ _ _ _ _ (Act.put _ (some 64) _) _
          simp only [Act.put, List.setIfInBounds_toArray, List.set_cons_zero, List.set_cons_succ]
          refine wpAnyH_take (i := 34) (v := ?_) rfl (by kernel_rfl) (by kernel_rfl) (by kernel_rfl) (fun _ _ _ h => h) (Or.inl ⟨by rfl, ?_⟩) (by assumption) ?_
          rotate_left
          · intro w hSw
            go_simp
            try with_reducible rfl
          show wpAnyH _ _ _ _ _ _ _ (Act.put _ (some 65) _) _
          simp only [Act.put, List.setIfInBounds_toArray, List.set_cons_zero, List.set_cons_succ]
          refine wpAnyH_done (by kernel_rfl) ?_ _
          by_cases h5 : (i : Int) % 64 = 5
          · have HM := Lib.hid (HMID.out _ _ h9)
            go_wp2_with fail
            refine HM.out.mono ?_
            rintro e wa ⟨G, M, rfl, ha⟩
            clear HM h5
            go_wp2_with fail
            refine ha.out.mono ?_
            rintro e wb ⟨v2, rfl, hb⟩
            clear ha
            go_wp2_with fail
            refine hb.out.mono ?_
            rintro e wc ⟨rfl, hc⟩
            clear hb
            go_wp2_with fail
            refine hc.out.mono ?_
            rintro e wd ⟨rfl, hd⟩
            clear hc
            go_wp2
            exact ⟨⟨i + 1, n1, V1, by omega, by omega, by go_num, HN1.out.1, hd.out⟩, by simp [intOf]; omega⟩
          · have H9 := Lib.hid h9
            go_wp2
            exact ⟨⟨i + 1, n1, V1, by omega, by omega, by go_num, HN1.out.1, H9.out⟩, by simp [intOf]; omega⟩
      case true =>
        rw [hA] at q2
        have HWA := Lib.hid (HWA.out hA)
        have HDA := Lib.hid (HDA.out hA)
        clear hA HSA
        go_wp2_with fail
        refine (HWA.out _ _ HB.out).mono ?_
        rintro e w5 ⟨rfl, h5⟩
        clear HWA
        go_wp2_with fail
        refine (HDA.out _ _ h5.out).mono ?_
        rintro e w6 ⟨rfl, h6⟩
        clear HDA h5
        go_wp2_with fail
        clear HB q2
        have hb6 := h6.out.drawn (w' := w6.drew) ⟨1, rfl⟩
        refine wp_region_held_drew (S := fun wx => wx.cell? ⟨s, o + i * 3, none⟩ = some (.int .u32 pv) ∧ wx.cell? ⟨s, o + i * 3 + 1, none⟩ = some (.int .i64 pn) ∧ BAny w wx gw gd) (by kernel_rfl) (HOLD.out _ ⟨_, _, _, _, _, hb6⟩) (fun hHeld => ?_)
        refine wpAnyH_take (i := 0) (v := ?_) rfl (by kernel_rfl) (by kernel_rfl) (by kernel_rfl) (fun _ _ _ h => h) (Or.inl ⟨by rfl, ?_⟩) (by assumption) ?_
        rotate_left
        · intro w hSw
          go_simp
          try with_reducible rfl
        show wpAnyH _ _ _ _ _ _ _ (Act.put _ (some 31) _) _
        simp only [Act.put, List.setIfInBounds_toArray, List.set_cons_zero, List.set_cons_succ]
        refine wpAnyH_take (i := 1) (v := ?_) rfl (by kernel_rfl) (by kernel_rfl) (by kernel_rfl) (fun _ _ _ h => h) (Or.inl ⟨by rfl, ?_⟩) (by assumption) ?_
        rotate_left
        · intro w hSw
          go_simp
          try with_reducible rfl
        show wpAnyH _ _ _ _ _ _ _ (Act.put _ (some 32) _) _
        simp only [Act.put, List.setIfInBounds_toArray, List.set_cons_zero, List.set_cons_succ]
        refine wpAnyH_take (i := 2) (v := ?_) rfl (by kernel_rfl) (by kernel_rfl) (by kernel_rfl) (fun _ _ _ h => h) (Or.inl ⟨by rfl, ?_⟩) (by assumption) ?_
        rotate_left
        · intro w hSw
          go_simp
          try with_reducible rfl
        show wpAnyH _ _ _ _ _ _ _ (Act.put _ (some 33) _) _
        simp only [Act.put, List.setIfInBounds_toArray, List.set_cons_zero, List.set_cons_succ]
        refine wpAnyH_take (i := 3) (v := ?_) rfl (by kernel_rfl) (by kernel_rfl) (by kernel_rfl) (fun _ _ _ h => h) (Or.inl ⟨by rfl, ?_⟩) (by assumption) ?_
        rotate_left
        · intro w hSw
          go_simp
          try with_reducible rfl
        show wpAnyH _ _ _ _ _ _ _ (Act.put _ (some 34) _) _
        simp only [Act.put, List.setIfInBounds_toArray, List.set_cons_zero, List.set_cons_succ]
        refine wpAnyH_take (i := 4) (v := ?_) rfl (by kernel_rfl) (by kernel_rfl) (by kernel_rfl) (fun _ _ _ h => h) (Or.inl ⟨by rfl, ?_⟩) (by assumption) ?_
        rotate_left
        · intro w hSw
          go_simp
          try with_reducible rfl
        show wpAnyH _ _ _ _ _ _ _ (Act.put _ (some 35) _) _
        simp only [Act.put, List.setIfInBounds_toArray, List.set_cons_zero, List.set_cons_succ]
        refine wpAnyH_take (i := 5) (v := ?_) rfl (by kernel_rfl) (by kernel_rfl) (by kernel_rfl) (fun _ _ _ h => h) (Or.inl ⟨by rfl, ?_⟩) (by assumption) ?_
        rotate_left
        · intro w hSw
          go_simp
          try with_reducible rfl
        show wpAnyH _ _ _ _ _ _ _ (Act.put _ (some 36) _) _
        simp only [Act.put, List.setIfInBounds_toArray, List.set_cons_zero, List.set_cons_succ]
        refine wpAnyH_take (i := 6) (v := ?_) rfl (by kernel_rfl) (by kernel_rfl) (by kernel_rfl) (fun _ _ _ h => h) (Or.inl ⟨by rfl, ?_⟩) (by assumption) ?_
        rotate_left
        · intro w hSw
          go_simp
          try with_reducible rfl
        show wpAnyH _ _ _ _ _ _ _ (Act.put _ (some 37) _) _
        simp only [Act.put, List.setIfInBounds_toArray, List.set_cons_zero, List.set_cons_succ]
        refine wpAnyH_take (i := 7) (v := ?_) rfl (by kernel_rfl) (by kernel_rfl) (by kernel_rfl) (fun _ _ _ h => h) (Or.inl ⟨by rfl, ?_⟩) (by assumption) ?_
        rotate_left
        · intro w hSw
          go_simp
          try with_reducible rfl
        show wpAnyH _ _ _ _ _ _ _ (Act.put _ (some 38) _) _
        simp only [Act.put, List.setIfInBounds_toArray, List.set_cons_zero, List.set_cons_succ]
        refine wpAnyH_take (i := 8) (v := ?_) rfl (by kernel_rfl) (by kernel_rfl) (by kernel_rfl) (fun _ _ _ h => h) (Or.inl ⟨by rfl, ?_⟩) (by assumption) ?_
        rotate_left
        · intro w hSw
          go_simp
          try with_reducible rfl
        show wpAnyH _ _ _ _ _ _ _ (Act.put _ (some 39) _) _
        simp only [Act.put, List.setIfInBounds_toArray, List.set_cons_zero, List.set_cons_succ]
        refine wpAnyH_take (i := 9) (v := ?_) rfl (by kernel_rfl) (by kernel_rfl) (by kernel_rfl) (fun _ _ _ h => h) (Or.inl ⟨by rfl, ?_⟩) (by assumption) ?_
        rotate_left
        · intro w hSw
          go_simp
          try with_reducible rfl
        show wpAnyH _ _ _ _ _ _ _ (Act.put _ (some 40) _) _
        simp only [Act.put, List.setIfInBounds_toArray, List.set_cons_zero, List.set_cons_succ]
        refine wpAnyH_take (i := 10) (v := ?_) rfl (by kernel_rfl) (by kernel_rfl) (by kernel_rfl) (fun _ _ _ h => h) (Or.inl ⟨by rfl, ?_⟩) (by assumption) ?_
        rotate_left
        · intro w hSw
          go_simp
          try with_reducible rfl
        show wpAnyH _ _ _ _ _ _ _ (Act.put _ (some 41) _) _
        simp only [Act.put, List.setIfInBounds_toArray, List.set_cons_zero, List.set_cons_succ]
        refine wpAnyH_take (i := 12) (v := ?_) rfl (by kernel_rfl) (by kernel_rfl) (by kernel_rfl) (fun _ _ _ h => h) (Or.inl ⟨by rfl, ?_⟩) (by assumption) ?_
        rotate_left
        · intro w hSw
          go_simp
          try with_reducible rfl
        show wpAnyH _ _ _ _ _ _ _ (Act.put _ (some 43) _) _
        simp only [Act.put, List.setIfInBounds_toArray, List.set_cons_zero, List.set_cons_succ]
        refine wpAnyH_take (i := 13) (v := ?_) rfl (by kernel_rfl) (by kernel_rfl) (by kernel_rfl) (fun _ _ _ h => h) (Or.inl ⟨by rfl, ?_⟩) (by assumption) ?_
        rotate_left
        · intro w hSw
          go_simp
          try with_reducible rfl
        show wpAnyH _ _ _ _ _ _ _ (Act.put _ (some 44) _) _
        simp only [Act.put, List.setIfInBounds_toArray, List.set_cons_zero, List.set_cons_succ]
        refine wpAnyH_take (i := 14) (v := ?_) rfl (by kernel_rfl) (by kernel_rfl) (by kernel_rfl) (fun _ _ _ h => h) (Or.inl ⟨by rfl, ?_⟩) (by assumption) ?_
        rotate_left
        · intro w hSw
          go_simp
          try with_reducible rfl
        show wpAnyH _ _ _ _ _ _ _ (Act.put _ (some 45) _) _
        simp only [Act.put, List.setIfInBounds_toArray, List.set_cons_zero, List.set_cons_succ]
        refine wpAnyH_take (i := 15) (v := ?_) rfl (by kernel_rfl) (by kernel_rfl) (by kernel_rfl) (fun _ _ _ h => h) (Or.inl ⟨by rfl, ?_⟩) (by assumption) ?_
        rotate_left
        · intro w hSw
          go_simp
          try with_reducible rfl
        show wpAnyH _ _ _ _ _ _ _ (Act.put _ (some 46) _) _
        simp only [Act.put, List.setIfInBounds_toArray, List.set_cons_zero, List.set_cons_succ]
        refine wpAnyH_take (i := 16) (v := ?_) rfl (by kernel_rfl) (by kernel_rfl) (by kernel_rfl) (fun _ _ _ h => h) (Or.inl ⟨by rfl, ?_⟩) (by assumption) ?_
        rotate_left
        · intro w hSw
          go_simp
          try with_reducible rfl
        show wpAnyH _ _ _ _ _ _ _ (Act.put _ (some 47) _) _
        simp only [Act.put, List.setIfInBounds_toArray, List.set_cons_zero, List.set_cons_succ]
        refine wpAnyH_take (i := 17) (v := ?_) rfl (by kernel_rfl) (by kernel_rfl) (by kernel_rfl) (fun _ _ _ h => h) (Or.inl ⟨by rfl, ?_⟩) (by assumption) ?_
        rotate_left
        · intro w hSw
          go_simp
          try with_reducible rfl
        show wpAnyH _ _ _ _ _ _ _ (Act.put _ (some 48) _) _
        simp only [Act.put, List.setIfInBounds_toArray, List.set_cons_zero, List.set_cons_succ]
        refine wpAnyH_take (i := 18) (v := ?_) rfl (by kernel_rfl) (by kernel_rfl) (by kernel_rfl) (fun _ _ _ h => h) (Or.inl ⟨by rfl, ?_⟩) (by assumption) ?_
        rotate_left
        · intro w hSw
          go_simp
          try with_reducible rfl
        show wpAnyH _ _ _ _ _ _ _ (Act.put _ (some 49) _) _
        simp only [Act.put, List.setIfInBounds_toArray, List.set_cons_zero, List.set_cons_succ]
        refine wpAnyH_take (i := 19) (v := ?_) rfl (by kernel_rfl) (by kernel_rfl) (by kernel_rfl) (fun _ _ _ h => h) (Or.inl ⟨by rfl, ?_⟩) (by assumption) ?_
        rotate_left
        · intro w hSw
          go_simp
          try with_reducible rfl
        show wpAnyH _ _ _ _ _ _ _ (Act.put _ (some 50) _) _
        simp only [Act.put, List.setIfInBounds_toArray, List.set_cons_zero, List.set_cons_succ]
        refine wpAnyH_take (i := 20) (v := ?_) rfl (by kernel_rfl) (by kernel_rfl) (by kernel_rfl) (fun _ _ _ h => h) (Or.inl ⟨by rfl, ?_⟩) (by assumption) ?_
        rotate_left
        · intro w hSw
          go_simp
          try with_reducible rfl
        show wpAnyH _ _ _ _ _ _ _ (Act.put _ (some 51) _) _
        simp only [Act.put, List.setIfInBounds_toArray, List.set_cons_zero, List.set_cons_succ]
        refine wpAnyH_take (i := 21) (v := ?_) rfl (by kernel_rfl) (by kernel_rfl) (by kernel_rfl) (fun _ _ _ h => h) (Or.inl ⟨by rfl, ?_⟩) (by assumption) ?_
        rotate_left
        · intro w hSw
          go_simp
          try with_reducible rfl
        show wpAnyH _ _ _ _ _ _ _ (Act.put _ (some 52) _) _
        simp only [Act.put, List.setIfInBounds_toArray, List.set_cons_zero, List.set_cons_succ]
        refine wpAnyH_take (i := 22) (v := ?_) rfl (by kernel_rfl) (by kernel_rfl) (by kernel_rfl) (fun _ _ _ h => h) (Or.inl ⟨by rfl, ?_⟩) (by assumption) ?_
        rotate_left
        · intro w hSw
          go_simp
          try with_reducible rfl
        show wpAnyH _ _ _ _ _ _ _ (Act.put _ (some 53) _) _
        simp only [Act.put, List.setIfInBounds_toArray, List.set_cons_zero, List.set_cons_succ]
        refine wpAnyH_ready (rs := [11]) (by kernel_rfl) (by simp) (AllReadyH.cons rfl (fun K' hK' => ?_) AllReadyH.nil)
        go_simp
        refine (HPUT.out _ _ hb6).mono ?_; rintro e w7 ⟨rfl, h7⟩
        go_wp2_with fail
        refine hK'.out _ _ (HOLD.out _ ⟨_, _, _, _, _, h7⟩) (fun hf7 => ?_)
        clear hK'
        clear hHeld
        refine wpAnyH_ready (rs := [23]) (by kernel_rfl) (by simp) (AllReadyH.cons rfl (fun K' hK' => ?_) AllReadyH.nil)
        go_simp
        refine (HDPUT.out _ _ h7).mono ?_; rintro e w8 ⟨rfl, h8, a8, c8, k8⟩
        go_wp2_with fail
        refine hK'.out _ _ (HOLD.out _ ⟨_, _, _, _, _, h8⟩) (fun hf8 => ?_)
        clear hK'
        clear hf7
        refine wpAnyH_take (i := 24) (v := ?_) rfl (by kernel_rfl) (by kernel_rfl) (by kernel_rfl) (fun _ _ _ h => h) (Or.inl ⟨by rfl, ?_⟩) (by assumption) ?_
        rotate_left
        · intro w hSw
          go_simp
          try with_reducible rfl
        show wpAnyH _ _ _ _ _ _ _ (Act.put _ (some 55) _) _
        simp only [Act.put, List.setIfInBounds_toArray, List.set_cons_zero, List.set_cons_succ]
        refine wpAnyH_take (i := 25) (v := ?_) rfl (by kernel_rfl) (by kernel_rfl) (by kernel_rfl) (fun _ _ _ h => h) (Or.inl ⟨by rfl, ?_⟩) (by assumption) ?_
        rotate_left
        · intro w hSw
          go_simp
          try with_reducible rfl
        show wpAnyH _ _ _ _ _ _ _ (Act.put _ (some 56) _) _
        simp only [Act.put, List.setIfInBounds_toArray, List.set_cons_zero, List.set_cons_succ]
        refine wpAnyH_take (i := 26) (v := ?_) rfl (by kernel_rfl) (by kernel_rfl) (by kernel_rfl) (fun _ _ _ h => h) (Or.inl ⟨by rfl, ?_⟩) (by assumption) ?_
        rotate_left
        · intro w hSw
          go_simp
          try with_reducible rfl
        show wpAnyH _ _ _ _ _ _ _ (Act.put _ (some 57) _) _
        simp only [Act.put, List.setIfInBounds_toArray, List.set_cons_zero, List.set_cons_succ]
        refine wpAnyH_take (i := 28) (v := ?_) rfl (by kernel_rfl) (by kernel_rfl) (by kernel_rfl) (fun _ _ _ h => h) (Or.inl ⟨by rfl, ?_⟩) (by assumption) ?_
        rotate_left
        · intro w hSw
          go_simp
          try with_reducible rfl
        show wpAnyH _ _ _ _ _ _ _ (Act.put _ (some 59) _) _
        simp only [Act.put, List.setIfInBounds_toArray, List.set_cons_zero, List.set_cons_succ]
        refine wpAnyH_take (i := 29) (v := ?_) rfl (by kernel_rfl) (by kernel_rfl) (by kernel_rfl) (fun _ _ _ h => h) (Or.inl ⟨by rfl, ?_⟩) (by assumption) ?_
        rotate_left
        · intro w hSw
          go_simp
          try with_reducible rfl
        show wpAnyH _ _ _ _ _ _ _ (Act.put _ (some 60) _) _
        simp only [Act.put, List.setIfInBounds_toArray, List.set_cons_zero, List.set_cons_succ]
        refine wpAnyH_take (i := 30) (v := ?_) rfl (by kernel_rfl) (by kernel_rfl) (by kernel_rfl) (fun _ _ _ h => h) (Or.inl ⟨by rfl, ?_⟩) (by assumption) ?_
        rotate_left
        · intro w hSw
          go_simp
          try with_reducible rfl
        show wpAnyH _ _ _ _ _ _ _ (Act.put _ (some 61) _) _
        simp only [Act.put, List.setIfInBounds_toArray, List.set_cons_zero, List.set_cons_succ]
        refine wpAnyH_ready (rs := [27, 31]) (by kernel_rfl) (by simp) (AllReadyH.cons rfl (fun K' hK' => ?_) (AllReadyH.cons rfl (fun K' hK' => ?_) AllReadyH.nil))
        · go_simp
          refine (HLEN.out _ _ h8).mono ?_; rintro e w9 ⟨rfl, h9, q9⟩
          go_wp2_with fail
          refine hK'.out _ _ (HOLD.out _ ⟨_, _, _, _, _, h9⟩) (fun hf9 => ?_)
          clear hK'
          clear hf8
          have k9 := (q9 ⟨gd, 0, none⟩).trans k8
          refine wpAnyH_ready (rs := [31]) (by kernel_rfl) (by simp) (AllReadyH.cons rfl (fun K' hK' => ?_) AllReadyH.nil)
          go_simp
          refine hK'.out _ _ (HOLD.out _ ⟨_, _, _, _, _, h9⟩) (fun hf10 => ?_)
          clear hK'
          try simp only [Act.put, List.setIfInBounds_toArray, List.set_cons_zero, List.set_cons_succ]
          clear hf9
          refine wpAnyH_take (i := 32) (v := ?_) rfl (by kernel_rfl) (by kernel_rfl) (by kernel_rfl) (fun _ _ _ h => h) (Or.inl ⟨by rfl, ?_⟩) (by assumption) ?_
          rotate_left
          · intro w hSw
            go_simp
            try with_reducible rfl
          show wpAnyH _ _ _ _ _ _ _ (Act.put _ (some 63) _) _
          simp only [Act.put, List.setIfInBounds_toArray, List.set_cons_zero, List.set_cons_succ]
          refine wpAnyH_take (i := 33) (v := ?_) rfl (by kernel_rfl) (by kernel_rfl) (by kernel_rfl) (fun _ _ _ h => h) (Or.inl ⟨by rfl, ?_⟩) (by assumption) ?_
          rotate_left
          · intro w hSw
            go_simp
            try with_reducible rfl
          show wpAnyH _ _ _ _ _ _ _ (Act.put _ (some 64) _) _
          simp only [Act.put, List.setIfInBounds_toArray, List.set_cons_zero, List.set_cons_succ]
          refine wpAnyH_take (i := 34) (v := ?_) rfl (by kernel_rfl) (by kernel_rfl) (by kernel_rfl) (fun _ _ _ h => h) (Or.inl ⟨by rfl, ?_⟩) (by assumption) ?_
          rotate_left
          · intro w hSw
            go_simp
            try with_reducible rfl
          show wpAnyH _ _ _ _ _ _ _ (Act.put _ (some 65) _) _
          simp only [Act.put, List.setIfInBounds_toArray, List.set_cons_zero, List.set_cons_succ]
          refine wpAnyH_done (by kernel_rfl) ?_ _
          by_cases h5 : (i : Int) % 64 = 5
          · have HM := Lib.hid (HMID.out _ _ h9)
            go_wp2_with fail
            refine HM.out.mono ?_
            rintro e wa ⟨G, M, rfl, ha⟩
            clear HM h5
            go_wp2_with fail
            refine ha.out.mono ?_
            rintro e wb ⟨v2, rfl, hb⟩
            clear ha
            go_wp2_with fail
            refine hb.out.mono ?_
            rintro e wc ⟨rfl, hc⟩
            clear hb
            go_wp2_with fail
            refine hc.out.mono ?_
            rintro e wd ⟨rfl, hd⟩
            clear hc
            go_wp2
            exact ⟨⟨i + 1, n1, V1, by omega, by omega, by go_num, HN1.out.1, hd.out⟩, by simp [intOf]; omega⟩
          · have H9 := Lib.hid h9
            go_wp2
            exact ⟨⟨i + 1, n1, V1, by omega, by omega, by go_num, HN1.out.1, H9.out⟩, by simp [intOf]; omega⟩
        · go_simp
          refine hK'.out _ _ (HOLD.out _ ⟨_, _, _, _, _, h8⟩) (fun hf9 => ?_)
          clear hK'
          try simp only [Act.put, List.setIfInBounds_toArray, List.set_cons_zero, List.set_cons_succ]
          clear hf8
          refine wpAnyH_take (i := 32) (v := ?_) rfl (by kernel_rfl) (by kernel_rfl) (by kernel_rfl) (fun _ _ _ h => h) (Or.inl ⟨by rfl, ?_⟩) (by assumption) ?_
          rotate_left
          · intro w hSw
            go_simp
            try with_reducible rfl
          show wpAnyH _ _ _ _ _ _ _ (Act.put _ (some 63) _) _
          simp only [Act.put, List.setIfInBounds_toArray, List.set_cons_zero, List.set_cons_succ]
          refine wpAnyH_ready (rs := [27]) (by kernel_rfl) (by simp) (AllReadyH.cons rfl (fun K' hK' => ?_) AllReadyH.nil)
          go_simp
          refine (HLEN.out _ _ h8).mono ?_; rintro e w9 ⟨rfl, h9, q9⟩
          go_wp2_with fail
          refine hK'.out _ _ (HOLD.out _ ⟨_, _, _, _, _, h9⟩) (fun hf10 => ?_)
          clear hK'
          clear hf9
          refine wpAnyH_take (i := 33) (v := ?_) rfl (by kernel_rfl) (by kernel_rfl) (by kernel_rfl) (fun _ _ _ h => h) (Or.inl ⟨by rfl, ?_⟩) (by assumption) ?_
          rotate_left
          · intro w hSw
            go_simp
            try with_reducible rfl
          show wpAnyH _ _ _ _ _ _ _ (Act.put _ (some 64) _) _
          simp only [Act.put, List.setIfInBounds_toArray, List.set_cons_zero, List.set_cons_succ]
          refine wpAnyH_take (i := 34) (v := ?_) rfl (by kernel_rfl) (by kernel_rfl) (by kernel_rfl) (fun _ _ _ h => h) (Or.inl ⟨by rfl, ?_⟩) (by assumption) ?_
          rotate_left
          · intro w hSw
            go_simp
            try with_reducible rfl
          show wpAnyH _ _ _ _ _ _ _ (Act.put _ (some 65) _) _
          simp only [Act.put, List.setIfInBounds_toArray, List.set_cons_zero, List.set_cons_succ]
          refine wpAnyH_done (by kernel_rfl) ?_ _
          by_cases h5 : (i : Int) % 64 = 5
          · have HM := Lib.hid (HMID.out _ _ h9)
            go_wp2_with fail
            refine HM.out.mono ?_
            rintro e wa ⟨G, M, rfl, ha⟩
            clear HM h5
            go_wp2_with fail
            refine ha.out.mono ?_
            rintro e wb ⟨v2, rfl, hb⟩
            clear ha
            go_wp2_with fail
            refine hb.out.mono ?_
            rintro e wc ⟨rfl, hc⟩
            clear hb
            go_wp2_with fail
            refine hc.out.mono ?_
            rintro e wd ⟨rfl, hd⟩
            clear hc
            go_wp2
            exact ⟨⟨i + 1, n1, V1, by omega, by omega, by go_num, HN1.out.1, hd.out⟩, by simp [intOf]; omega⟩
          · have H9 := Lib.hid h9
            go_wp2
            exact ⟨⟨i + 1, n1, V1, by omega, by omega, by go_num, HN1.out.1, H9.out⟩, by simp [intOf]; omega⟩
    · obtain ⟨mb, Y, _, hF⟩ := HB.out.btw
      obtain ⟨ab, hab, _⟩ := hF.val
      clear hF
      subst hab
      have HFIN := Lib.hid (HB.out.finish (by omega))
      clear HB hn
      by_cases hlm : i < m
      · have hi300 : i = 300 := by omega
        have hdm : decide (i < m) = true := decide_eq_true hlm
        have hd3 : decide ((i : Int) < 300) = false := decide_eq_false (by omega)
        clear hi300 hlt hi hi3 hlm
        go_wp2_with fail
        refine HFIN.out.mono ?_
        rintro e wa ⟨Ga, M, rfl, h1⟩
        clear HFIN
        go_wp2_with fail
        refine h1.out.mono ?_
        rintro e wb ⟨Gb, rfl, h2⟩
        clear h1
        go_wp2_with fail
        refine h2.out.mono ?_
        rintro e wc ⟨v3, rfl, h3⟩
        clear h2
        go_wp2_with fail
        refine h3.out.mono ?_
        rintro e wd ⟨rfl, h4⟩
        clear h3
        go_wp2_with fail
        refine (h4.out _ rfl).mono ?_
        rintro e we ⟨rfl, h5⟩
        clear h4
        go_wp2_with fail
        refine h5.out.mono ?_
        rintro e wf ⟨v7, rfl, h6⟩
        clear h5
        go_wp2_with fail
        refine h6.out.mono ?_
        rintro e wg ⟨v8, rfl, h7⟩
        clear h6
        go_wp2_with fail
        refine h7.out.mono ?_
        rintro e wh ⟨rfl, h8⟩
        clear h7
        go_wp2_with fail
        refine h8.out.mono ?_
        rintro e wi ⟨rfl, h9⟩
        clear h8
        go_wp2
        go_ret
        exact ⟨rfl, by have := h9.out; first | exact this | (rw [HGW.out] at this; exact this)⟩
      · have hdm : decide (i < m) = false := decide_eq_false hlm
        clear hlt hi hi3 hlm
        go_wp2_with fail
        refine HFIN.out.mono ?_
        rintro e wa ⟨Ga, M, rfl, h1⟩
        clear HFIN
        go_wp2_with fail
        refine h1.out.mono ?_
        rintro e wb ⟨Gb, rfl, h2⟩
        clear h1
        go_wp2_with fail
        refine h2.out.mono ?_
        rintro e wc ⟨v3, rfl, h3⟩
        clear h2
        go_wp2_with fail
        refine h3.out.mono ?_
        rintro e wd ⟨rfl, h4⟩
        clear h3
        go_wp2_with fail
        refine (h4.out _ rfl).mono ?_
        rintro e we ⟨rfl, h5⟩
        clear h4
        go_wp2_with fail
        refine h5.out.mono ?_
        rintro e wf ⟨v7, rfl, h6⟩
        clear h5
        go_wp2_with fail
        refine h6.out.mono ?_
        rintro e wg ⟨v8, rfl, h7⟩
        clear h6
        go_wp2_with fail
        refine h7.out.mono ?_
        rintro e wh ⟨rfl, h8⟩
        clear h7
        go_wp2_with fail
        refine h8.out.mono ?_
        rintro e wi ⟨rfl, h9⟩
        clear h8
        go_wp2
        go_ret
        exact ⟨rfl, by have := h9.out; first | exact this | (rw [HGW.out] at this; exact this)⟩
end Go.Proofs.Ytkfbcekhegdmjaa
