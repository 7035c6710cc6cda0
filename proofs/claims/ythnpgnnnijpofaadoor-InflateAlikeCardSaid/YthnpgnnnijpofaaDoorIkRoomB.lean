/- The walk of the laws' flatBytes, of rows that lie apart, whatever room is behind their ends. Made by wip/tools/genroom.py out of wip/kit/XKitFlat. -/
import Derived.Test.YthnpgnnnijpofaaDoorIkRoomS
import Derived.BigQuiet
import Derived.BigRegion
import Derived.RegionTactic
import Derived.Deep.QuietTactic
import Derived.StillTailTactics
import Derived.Lib.Hide
import Derived.Deep.AppendLies
namespace Go.Proofs.YthnpgnnnijpofaaDoor
open Go.RowKit Go

theorem quiet_markR {w wx : World} {k i : Nat} (hk : k ≤ 1048576) (hi : i ≤ 1099511627776) (hx : Drawn w wx) :
    Calls Tryd.prog 25 #[.int .i64 (k : Nat), .int .i64 (i : Nat)] wx fun e w' => e = .returned (.int .u8 (Kit.mb k i)) ∧ ∃ m, w' = w.drewN m :=
  (markByte_any k i wx hk hi).mono fun _ _ ⟨he, hw⟩ => ⟨he, by subst hw; exact hx⟩

/-- the first loop, at row k, place i -/
structure F1b (w0 w : World) (base G N : Nat) (v : Nat → Value) (n : Nat → Nat) (k i : Nat) : Prop where
  fl : ∃ X : Nat → List Int, Rl 22 5 1 w0 w base G N v n (fun j => k8 (X j)) ∧ (∀ j, j < k → X j = mks j (n j)) ∧ ∀ t, t < i → (X k).getD t 0 = Kit.mb k t
theorem F1b.slot {w0 w : World} {base G N : Nat} {v : Nat → Value} {n : Nat → Nat} {k i : Nat} (h : F1b w0 w base G N v n k i) {j : Nat} (hj : j < N) : w.cell? ⟨G, j, none⟩ = some (v j) := by
  obtain ⟨X, h1, _⟩ := h.fl
  exact h1.slot hj
theorem F1b.drawn {w0 w w' : World} {base G N : Nat} {v : Nat → Value} {n : Nat → Nat} {k i : Nat} (h : F1b w0 w base G N v n k i) (hd : Drawn w w') : F1b w0 w' base G N v n k i := by
  obtain ⟨X, h1, h2⟩ := h.fl
  exact ⟨X, h1.drawn hd, h2⟩
theorem F1b.at_ {w0 w : World} {base G N : Nat} {v : Nat → Value} {n : Nat → Nat} {k i : Nat} (h : F1b w0 w base G N v n k i) (hk : k < N) (hi : i < n k) :
    ∃ g c x, v k = .slice (some ⟨g, 0, none⟩) (n k) c ∧ w.cell? ⟨g, i, none⟩ = some x ∧ w.frozen? ⟨g, i, none⟩ = false ∧ F1b w0 (w.setCell ⟨g, i, none⟩ (.int .u8 (Kit.mb k i))) base G N v n k (i + 1) := by
  obtain ⟨X, h1, h2, h3⟩ := h.fl
  obtain ⟨a, c, hv⟩ := h1.val hk
  have hr := h1.row k hk
  rw [hv] at hr
  have hXl : (X k).length = n k := by have := hr.1; rw [k8_length, Nat.mul_one] at this; exact this
  obtain ⟨g, rfl, hc, hf⟩ := own_cell' hr (k8_get (X k) i (by omega))
  have ho : Onl w (w.setCell ⟨g, i, none⟩ (.int .u8 (Kit.mb k i))) (fun b => (v k).ownBlock = some b) := (Onl.refl w _).setCell (.inl (by rw [hv]; rfl)) i _
  have hr2 := own_set' hr i (.int .u8 (Kit.mb k i))
  have e1 : (k8 (X k)).set i (.int .u8 (Kit.mb k i)) = k8 ((X k).set i (Kit.mb k i)) := by simp [k8, List.map_set]
  rw [e1] at hr2
  have h4 := h1.upd hk ho (Y := k8 ((X k).set i (Kit.mb k i))) (by rw [hv]; exact hr2)
  refine ⟨g, c, _, hv, hc, hf, fun j => if j = k then (X k).set i (Kit.mb k i) else X j, ?_, fun j hj => ?_, fun t ht => ?_⟩
  · have e2 : (fun j => k8 (if j = k then (X k).set i (Kit.mb k i) else X j)) = fun j => if j = k then k8 ((X k).set i (Kit.mb k i)) else k8 (X j) := by
      funext j
      by_cases hj : j = k
      · rw [if_pos hj, if_pos hj]
      · rw [if_neg hj, if_neg hj]
    rw [e2]; exact h4
  · show (if j = k then _ else _) = _
    rw [if_neg (by omega)]; exact h2 j hj
  · show (if k = k then (X k).set i (Kit.mb k i) else X k).getD t 0 = _
    rw [if_pos rfl, set_get _ _ _ _ (by omega)]
    by_cases e : i = t
    · rw [if_pos e, e]
    · rw [if_neg e]; exact h3 t (by omega)
theorem F1b.next {w0 w : World} {base G N : Nat} {v : Nat → Value} {n : Nat → Nat} {k : Nat} (h : F1b w0 w base G N v n k (n k)) (hk : k < N) : F1b w0 w base G N v n (k + 1) 0 := by
  obtain ⟨X, h1, h2, h3⟩ := h.fl
  refine ⟨X, h1, fun j hj => ?_, fun t ht => by omega⟩
  by_cases e : j = k
  · subst e
    exact mks_of (by have := (h1.row j hk).1; rw [k8_length, Nat.mul_one] at this; exact this) h3
  · exact h2 j (by omega)
theorem F1b.done {w0 w : World} {base G N : Nat} {v : Nat → Value} {n : Nat → Nat} (h : F1b w0 w base G N v n N 0) : Rl 22 5 1 w0 w base G N v n (fun j => k8 (mks j (n j))) := by
  obtain ⟨X, h1, h2, _⟩ := h.fl
  exact ⟨h1.bel, h1.hb, h1.ls, fun k hk => by have := h1.row k hk; rw [h2 k hk] at this; exact this, h1.apt, h1.bd, h1.ne, h1.lt⟩

set_option maxRecDepth 100000 in
set_option maxHeartbeats 8000000 in
theorem flatroom_core (w : World) (base G N cp : Nat) (v : Nat → Value) (n : Nat → Nat) (X : Nat → List Int) (hN : N ≤ 1000) (h : Rl 22 5 1 w w base G N v n (fun j => k8 (X j))) :
    Calls Tryd.prog 78 #[.slice (some ⟨G, 0, none⟩) N cp] w fun e w' => e = .returned (.bool true) ∧ Onl w w' (Rowb N v) := by
  have HF0 : Hid (F1b w w base G N v n 0 0) := ⟨X, h, fun j hj => by omega, fun t ht => by omega⟩
  have HVAL : Hid (∀ k, k < N → ∃ a c, v k = .slice a (n k) c) := fun k hk => h.val hk
  have HBD : Hid (∀ k, k < N → n k ≤ 1000000) := h.bd
  have HGW : Hid (G < w.heap.size) := h.gl
  have hNI : (N : Int) ≤ 1000 := by omega
  obtain ⟨i0, hi, hz0, hz1, hz2⟩ := info_parts info5
  clear h
  have HN := Lib.hid hN; clear hN
  go_enter Tryd.func78, Tryd.ntmps78
  go_wp2_with fail
  go_loopw [3] (fun v3 wr => ∃ k : Nat, k ≤ N ∧ v3 = .int .i64 (k : Int) ∧ F1b w wr base G N v n k 0) (fun v3 _ => (N - intOf v3).toNat)
  case atStart => exact ⟨0, by omega, rfl, HF0.out⟩
  case round =>
    clear HF0
    obtain ⟨k, hk, rfl, hf⟩ := hrel
    have HF := Lib.hid hf; clear hf
    by_cases hlt : k < N
    · obtain ⟨a, cq, hva⟩ := HVAL.out k hlt
      have HVA := Lib.hid hva; clear hva
      have hk0 : (0 : Int) ≤ (k : Int) := by omega
      have hkI : (k : Int) < (N : Int) := by omega
      have hdk : decide (k < N) = true := decide_eq_true hlt
      have HKB : Hid (k ≤ 1000) := by have := HN.out; exact (by omega : k ≤ 1000)
      have HNK : Hid (n k ≤ 1000000) := HBD.out k hlt
      have hnkI : ((n k : Nat) : Int) ≤ 1000000 := by have := HNK.out; omega
      go_wp2_with fail
      go_loopw [4] (fun v4 wr => ∃ i : Nat, i ≤ n k ∧ v4 = .int .i64 (i : Int) ∧ F1b w wr base G N v n k i) (fun v4 _ => (n k - intOf v4).toNat)
      case atStart => exact ⟨0, by omega, rfl, HF.out⟩
      case round =>
        clear HF
        obtain ⟨i, hi', rfl, hf⟩ := hrel
        have HF := Lib.hid hf; clear hf
        have k1 := HF.out.slot hlt
        rw [HVA.out] at k1
        by_cases hil : i < n k
        · obtain ⟨g, cg, x, hg, k2, f2, hnx⟩ := HF.out.at_ hlt hil
          have ha : a = some ⟨g, 0, none⟩ := by
            have := HVA.out.symm.trans hg
            injection this
          subst ha
          have HNX := Lib.hid hnx; clear hnx hg
          have hi0 : (0 : Int) ≤ (i : Int) := by omega
          have hiI : (i : Int) < ((n k : Nat) : Int) := by omega
          have hdi : decide (i < n k) = true := decide_eq_true hil
          have HMB : Hid (∀ wx, Calls Tryd.prog 25 #[.int .i64 (k : Nat), .int .i64 (i : Nat)] wx fun e w' => e = .returned (.int .u8 (Kit.mb k i)) ∧ w' = wx) := fun wx => markByte_any k i wx (by have := HKB.out; omega) (by have := HNK.out; omega)
          have HFD : Hid (∀ y, y = Kit.mb k i → F1b w ((wr.setCell ⟨g, i, none⟩ (.int .u8 y)).drew) base G N v n k (i + 1)) := fun y hy => by subst hy; exact HNX.out.drawn ⟨1, rfl⟩
          clear HF HNX
          obtain ⟨y, hy⟩ : ∃ y, Kit.mb k i = y := ⟨_, rfl⟩
          rw [hy] at HMB HFD
          have HFE := Lib.hid (HFD.out y rfl)
          clear hy HFD
          generalize n k = nk at k1 hiI hdi hnkI
          go_wp2_with fail
          refine wp_region_still_tail 9 (by kernel_rfl) (by kernel_rfl) ?_
          simp only [List.take_succ_cons, List.take_zero, List.drop_succ_cons, List.drop_zero]
          repeat still_step
          still_call (HMB.out _)
          repeat still_step
          try refine wpStill_nil ?_
          change wpList _ _ _ _ _ wr.drew
          go_wp2
          exact ⟨⟨i + 1, of_decide_eq_true hdi, by go_num, HFE.out⟩, by have := of_decide_eq_true hdi; simp [intOf]; omega⟩
        · obtain rfl : i = n k := by omega
          have HFN := Lib.hid (HF.out.next hlt)
          have hdi : decide (n k < n k) = false := decide_eq_false (by omega)
          clear HF
          go_wp2
          exact ⟨⟨k + 1, by omega, by go_num, HFN.out⟩, by simp [intOf]; omega⟩
    · obtain rfl : k = N := by omega
      have HF1 : Hid (Rl 22 5 1 w wr base G k v n (fun j => k8 (mks j (n j)))) := HF.out.done
      have hdk : decide (k < k) = false := decide_eq_false (by omega)
      obtain ⟨Z, hZ, hz⟩ := run_rows k (by have := HN.out; omega) wr
      have HHG : Hid (w.heap.size ≤ wr.heap.size) := HF1.out.bel.size
      have HF2 : Hid (Rl 22 5 1 w (wr.alloc (.cells Z 22)) base G k v n (fun j => k8 (mks j (n j))) ∧ Gq 22 5 1 (wr.alloc (.cells Z 22)) wr.heap.size k v (fun j => n j + 64) (fun j => k8 (mks j (n j + 64))) 0) :=
        ⟨HF1.out.later ((Below.refl _ _).alloc (Nat.le_refl _) _), ⟨Z, heap_alloc_new _ _, hZ, fun j hj => by omega⟩, by decide⟩
      clear HF HF1 hZ
      go_wp2_with fail
      clear hz
      generalize wr.alloc (.cells Z 22) = w2 at *
      generalize wr.heap.size = H at *
      go_loopw [6] (fun v6 wr => ∃ j : Nat, j ≤ k ∧ v6 = .int .i64 (j : Int) ∧ Rl 22 5 1 w wr base G k v n (fun j => k8 (mks j (n j))) ∧ Gq 22 5 1 wr H k v (fun j => n j + 64) (fun j => k8 (mks j (n j + 64))) j) (fun v6 _ => (k - intOf v6).toNat)
      case atStart => exact ⟨0, by omega, rfl, HF2.out⟩
      case round =>
        clear HF2
        obtain ⟨j, hj, rfl, hf, hgs⟩ := hrel
        have HF := Lib.hid hf; clear hf
        have HG := Lib.hid hgs; clear hgs
        by_cases hlt : j < k
        · obtain ⟨a, cq, hva⟩ := HVAL.out j hlt
          have hj0 : (0 : Int) ≤ (j : Int) := by omega
          have hjI : (j : Int) < (k : Int) := by omega
          have hdj : decide (j < k) = true := decide_eq_true hlt
          have HJB : Hid (j ≤ 1000) := by have := HN.out; exact (by omega : j ≤ 1000)
          have HNK : Hid (n j ≤ 1000000) := HBD.out j hlt
          have hnkI : ((n j : Nat) : Int) ≤ 1000000 := by have := HNK.out; omega
          have k1 := HF.out.slot hlt
          rw [hva] at k1
          have HK1 : Hid (wr.cell? ⟨G, j, none⟩ = some (.slice a (n j) cq)) := k1
          have HGR0 : Hid (Gr wr wr base 5 1 (v j) (n j) (k8 (mks j (n j))) (.slice a (n j) cq) (n j + 0) (k8 (mks j (n j + 0)))) := by
            have := Gr.start (HF.out.row j hlt) (Nat.le_trans HF.out.hb HF.out.bel.size)
            unfold Hid
            rw [← hva]
            exact this
          have HGC : Hid (∀ wx, Onl wr wx (fun b => (v j).ownBlock = some b) → wx.cell? ⟨G, j, none⟩ = some (.slice a (n j) cq)) := fun wx ho => (World.cell?_of_block (ho.block G HF.out.gl (fun hb => HF.out.neG hlt hb rfl))).trans HK1.out
          clear hva
          go_wp2_with fail
          clear k1
          generalize wr = wo at *
          go_loopw [7, 8] (fun v7 v8 wr => ∃ i : Nat, i ≤ 64 ∧ v8 = .int .i64 (i : Int) ∧ Gr wo wr base 5 1 (v j) (n j) (k8 (mks j (n j))) v7 (n j + i) (k8 (mks j (n j + i)))) (fun _ v8 _ => (64 - intOf v8).toNat)
          case atStart => exact ⟨0, by omega, rfl, HGR0.out⟩
          case round =>
            clear HGR0
            obtain ⟨i, hi', rfl, hgr⟩ := hrel
            have HGR := Lib.hid hgr; clear hgr
            have k1 := HGC.out wr HGR.out.onl
            by_cases hil : i < 64
            · have HMB : Hid (∀ wx, Calls Tryd.prog 25 #[.int .i64 (j : Nat), .int .i64 (((n j : Nat) : Int) + (i : Int))] wx fun e w' => e = .returned (.int .u8 (Kit.mb j (n j + i))) ∧ wx = w') := fun wx => by
                have := markByte_any j (n j + i) wx (by have := HJB.out; omega) (by have := HNK.out; omega)
                rw [Int.natCast_add] at this
                exact this.mono fun _ _ ⟨he, hw⟩ => ⟨he, hw.symm⟩
              have hiI : (i : Int) < 64 := by omega
              have HNKB : Hid (n j + i ≤ 1000064) := by have := HNK.out; exact (by omega : n j + i ≤ 1000064)
              have HEND : Hid (∀ (v' : Value) (w7 : World), Eith (wr.alloc (.cells #[.int .u8 (Kit.mb j (n j + i))] 5)) w7 base 5 1 u7 (n j + i) v' (n j + i + 1) (k8 (mks j (n j + i)) ++ [.int .u8 (Kit.mb j (n j + i))]) → Hid (Gr wo w7 base 5 1 (v j) (n j) (k8 (mks j (n j))) v' (n j + (i + 1)) (k8 (mks j (n j + (i + 1)))))) := fun v' w7 hE => by
                have h1 := (HGR.out.later ((Below.refl _ _).alloc (Nat.le_refl _) (.cells #[.int .u8 (Kit.mb j (n j + i))] 5))).app (m := 1) hE
                unfold Hid
                rw [show n j + (i + 1) = n j + i + 1 by omega, mks_succ, k8_app]; exact h1
              have HR7 : Hid (∀ o, (wr.alloc o).ownsRow base 5 1 u7 (n j + i) (k8 (mks j (n j + i)))) := fun o => HGR.out.row7.alloc o
              generalize Kit.mb j (n j + i) = y at *
              clear HGR HF HG HGC
              go_wp2_with (first | (go_at_call 25; refine (HMB.out _).mono ?_; rintro e w4 ⟨rfl, rfl⟩) | (at_builtin; refine wpList_append_either _ rfl (.tmp 57) (.tmp 67) 22 rfl base 5 i0 _ 1 1 (by kernel_rfl) hi hz0 hz1 hz2 rfl (by decide) u7 _ _ rfl (HR7.out _) ⟨wr.heap.size, 0, none⟩ 1 1 [.int .u8 y] rfl rfl (World.news_of_block (cs := #[.int .u8 y]) (heap_alloc_new wr _)) (by simp [Value.oneCell']) (by omega) (by simp only [maxLen]; have := HNKB.out; omega) (by have := HNKB.out; omega) ?_; intro v7' w7 hE; have H7 := HEND.out v7' w7 hE; clear hE))
              exact ⟨⟨i + 1, by omega, by go_num, H7.out⟩, by simp [intOf]; omega⟩
            · obtain rfl : i = 64 := by omega
              obtain ⟨⟨x7, k7⟩, f7, hX1, hX2⟩ := grown_done HF.out HG.out hlt HGR.out rfl rfl (by have := HGW.out; have := HHG.out; omega) (by have := HHG.out; omega)
              obtain ⟨a7, c7, rfl⟩ := own_shape' HGR.out.row7
              have HX : Hid (Rl 22 5 1 w (wr.setCell ⟨H, j, none⟩ (.slice a7 (n j + 64) c7)) base G k v n (fun j => k8 (mks j (n j))) ∧ Gq 22 5 1 (wr.setCell ⟨H, j, none⟩ (.slice a7 (n j + 64) c7)) H k v (fun j => n j + 64) (fun j => k8 (mks j (n j + 64))) (j + 1)) := ⟨hX1, hX2⟩
              clear hX1 hX2 HGR k1 HF HG HGC
              go_wp2
              exact ⟨⟨j + 1, by omega, by go_num, HX.out⟩, by simp [intOf]; omega⟩
        · obtain rfl : j = k := by omega
          have hdj : decide (j < j) = false := decide_eq_false (by omega)
          go_wp2_with fail
          clear hdj
          generalize wr = w3 at *
          go_loopw [9] (fun v9 wr => ∃ q : Nat, q ≤ j ∧ v9 = .int .i64 (q : Int) ∧ Drawn w3 wr) (fun v9 _ => (j - intOf v9).toNat)
          case atStart => exact ⟨0, by omega, rfl, Drawn.refl _⟩
          case round =>
            obtain ⟨q, hq, rfl, hd⟩ := hrel
            have HD := Lib.hid hd; clear hd
            by_cases hlt : q < j
            · obtain ⟨a, cq, hva⟩ := HVAL.out q hlt
              have HQB : Hid (q ≤ 1000) := by have := HN.out; exact (by omega : q ≤ 1000)
              have HNK : Hid (n q ≤ 1000000) := HBD.out q hlt
              have hnkI : ((n q : Nat) : Int) ≤ 1000000 := by have := HNK.out; omega
              have hq0 : (0 : Int) ≤ (q : Int) := by omega
              have hqI : (q : Int) < (j : Int) := by omega
              have hdq : decide (q < j) = true := decide_eq_true hlt
              obtain ⟨a2, c2, hk2, hb2⟩ := HG.out.get hlt
              have hk1 := HF.out.slot hlt
              have hb1 : w3.ownsRow base 5 1 (.slice a (n q) cq) (n q) (k8 (mks q (n q))) := by
                have := HF.out.row q hlt
                rw [hva] at this; exact this
              rw [hva] at hk1
              have hk2 : w3.cell? ⟨H, q, none⟩ = some (.slice a2 (n q + 64) c2) := hk2
              have hb2 : w3.ownsRow 0 5 1 (.slice a2 (n q + 64) c2) (n q + 64) (k8 (mks q (n q + 64))) := hb2
              have HK1 := Lib.hid hk1; clear hk1 hva
              have HK2 := Lib.hid hk2; clear hk2
              have HB1 := Lib.hid hb1; clear hb1
              have HB2 := Lib.hid hb2; clear hb2
              go_wp2_with fail
              go_loopw [10] (fun v10 wr => ∃ i : Nat, i ≤ n q + 64 ∧ v10 = .int .i64 (i : Int) ∧ Drawn w3 wr) (fun v10 _ => (n q + 64 - intOf v10).toNat)
              case atStart => exact ⟨0, by omega, rfl, HD.out⟩
              case round =>
                clear HD
                obtain ⟨i, hi', rfl, hd⟩ := hrel
                have HD := Lib.hid hd; clear hd
                have k2 := (HD.out.cell ⟨H, q, none⟩).trans HK2.out
                by_cases hil : i < n q + 64
                · obtain ⟨s2, rfl, l2, -⟩ := own_cell' HB2.out (t := i) (u := .int .u8 (Kit.mb q i)) (by rw [k8_get _ _ (by rw [mks_length]; exact hil), mks_get _ _ _ hil])
                  have l2' := (HD.out.cell _).trans l2
                  have HQ : Hid (∀ wx, Drawn wr wx → Calls Tryd.prog 25 #[.int .i64 (q : Nat), .int .i64 (i : Nat)] wx fun e w' => e = .returned (.int .u8 (Kit.mb q i)) ∧ ∃ m, w' = wr.drewN m) := fun wx hx => quiet_markR (by have := HQB.out; omega) (by have := HNK.out; omega) hx
                  have k1 := (HD.out.cell ⟨G, q, none⟩).trans HK1.out
                  have hi0 : (0 : Int) ≤ (i : Int) := by omega
                  have HIL : Hid (i < n q + 64) := hil
                  have hiI : (i : Int) < ((n q + 64 : Nat) : Int) := by omega
                  have hdi : decide (i < n q + 64) = true := decide_eq_true hil
                  have hi6 : (i : Int) ≤ 1000100 := by have := HNK.out; omega
                  clear l2 hil
                  by_cases hin : i < n q
                  · obtain ⟨s1, rfl, l1, -⟩ := own_cell' HB1.out (t := i) (u := .int .u8 (Kit.mb q i)) (by rw [k8_get _ _ (by rw [mks_length]; exact hin), mks_get _ _ _ hin])
                    have l1' := (HD.out.cell _).trans l1
                    have hdn : decide (i < n q) = true := decide_eq_true hin
                    have hinI : (i : Int) < ((n q : Nat) : Int) := by omega
                    clear l1 hin
                    generalize Kit.mb q i = y at *
                    generalize hNQ : n q + 64 = nq64 at *
                    have HNQ := Lib.hid hNQ; clear hNQ
                    generalize hNN : n q = nn at k1 hdn hinI hnkI ⊢
                    have HNN := Lib.hid hNN; clear hNN
                    go_wp2_with fail
                    go_quiet ((go_at_call 25; exact HQ.out _ ⟨_, rfl⟩))
                    go_wp2
                    exact ⟨⟨i + 1, of_decide_eq_true hdi, by go_num, HD.out.drewN nq⟩, by have := of_decide_eq_true hdi; have := HNQ.out; have := HNN.out; simp [intOf]; omega⟩
                  · have hdn : decide (i < n q) = false := decide_eq_false hin
                    clear hin
                    generalize Kit.mb q i = y at *
                    generalize hNQ : n q + 64 = nq64 at *
                    have HNQ := Lib.hid hNQ; clear hNQ
                    generalize hNN : n q = nn at k1 hdn hnkI ⊢
                    have HNN := Lib.hid hNN; clear hNN
                    go_wp2_with fail
                    go_quiet ((go_at_call 25; exact HQ.out _ ⟨_, rfl⟩))
                    go_wp2
                    exact ⟨⟨i + 1, of_decide_eq_true hdi, by go_num, HD.out.drewN nq⟩, by have := of_decide_eq_true hdi; have := HNQ.out; have := HNN.out; simp [intOf]; omega⟩
                · obtain rfl : i = n q + 64 := by omega
                  have hdi : decide (n q + 64 < n q + 64) = false := decide_eq_false (by omega)
                  generalize n q + 64 = nq64 at *
                  go_wp2
                  exact ⟨⟨q + 1, by omega, by go_num, HD.out⟩, by simp [intOf]; omega⟩
            · obtain rfl : q = j := by omega
              have hdq : decide (q < q) = false := decide_eq_false (by omega)
              have HF3 : Hid (Rl 22 5 1 w wr base G q v n (fun j => k8 (mks j (n j))) ∧ Gq 22 5 1 wr H q v (fun j => n j + 64) (fun j => k8 (mks j (n j) ++ mks (j + q) 64)) 0) := ⟨HF.out.drawn HD.out, (HG.out.drawn HD.out).zero⟩
              clear HF HG HD
              go_wp2_with fail
              clear hdq
              go_loopw [11] (fun v11 wr => ∃ k : Nat, k ≤ q ∧ v11 = .int .i64 (k : Int) ∧ Rl 22 5 1 w wr base G q v n (fun j => k8 (mks j (n j))) ∧ Gq 22 5 1 wr H q v (fun j => n j + 64) (fun j => k8 (mks j (n j) ++ mks (j + q) 64)) k) (fun v11 _ => (q - intOf v11).toNat)
              case atStart => exact ⟨0, by omega, rfl, HF3.out⟩
              case round =>
                clear HF3
                obtain ⟨k, hk, rfl, hf, hgs⟩ := hrel
                have HF := Lib.hid hf; clear hf
                have HG := Lib.hid hgs; clear hgs
                by_cases hlt : k < q
                · obtain ⟨a, cq, hva⟩ := HVAL.out k hlt
                  have hk0 : (0 : Int) ≤ (k : Int) := by omega
                  have hkI : (k : Int) < (q : Int) := by omega
                  have hdk : decide (k < q) = true := decide_eq_true hlt
                  have HKB : Hid (k ≤ 1000 ∧ q ≤ 1000) := by have := HN.out; exact ⟨by omega, by omega⟩
                  have HNK : Hid (n k ≤ 1000000) := HBD.out k hlt
                  have hnkI : ((n k : Nat) : Int) ≤ 1000000 := by have := HNK.out; omega
                  have k1 := HF.out.slot hlt
                  rw [hva] at k1
                  have HGR0 : Hid (Gr wr wr base 5 1 (v k) (n k) (k8 (mks k (n k))) (.slice a (n k) cq) (n k) (k8 (mks k (n k)))) := by
                    have := Gr.start (HF.out.row k hlt) (Nat.le_trans HF.out.hb HF.out.bel.size)
                    unfold Hid
                    rw [← hva]
                    exact this
                  have HGL := Lib.hid HF.out.gl
                  have HK1 : Hid (wr.cell? ⟨G, k, none⟩ = some (.slice a (n k) cq)) := k1
                  obtain ⟨O, hO⟩ : ∃ O : Obj, O = .cells (k8 (List.replicate 64 0)).toArray 5 := ⟨_, rfl⟩
                  have hz64 : ∀ wx : World, (Instr.makeSlice 22 (.int .i64 64) (.int .i64 64)).run Tryd.prog wx = .ok (.slice (some ⟨wx.heap.size, 0, none⟩) 64 64) (wx.alloc O) := by
                    rw [hO]; exact run_zeros 64 (by omega)
                  clear hva k1
                  have HM0 : Hid (Mr wr (wr.alloc O) wr.heap.size (k + q) 0) :=
                    ⟨(Below.refl _ _).alloc (Nat.le_refl _) _, List.replicate 64 0, by rw [hO]; exact heap_alloc_new _ _, by simp, fun t ht => by omega⟩
                  clear hO
                  go_wp2_with fail
                  clear hz64
                  generalize wr.alloc O = wm at *
                  generalize wr = wo at *
                  obtain ⟨M, hM⟩ : ∃ M, wo.heap.size = M := ⟨_, rfl⟩
                  rw [hM] at HM0
                  rw [hM]
                  have HMM := Lib.hid hM; clear hM
                  go_loopw [13] (fun v13 wr => ∃ i : Nat, i ≤ 64 ∧ v13 = .int .i64 (i : Int) ∧ Mr wo wr M (k + q) i) (fun v13 _ => (64 - intOf v13).toNat)
                  case atStart => exact ⟨0, by omega, rfl, HM0.out⟩
                  case round =>
                    clear HM0
                    obtain ⟨i, hi', rfl, hmr⟩ := hrel
                    have HMR := Lib.hid hmr; clear hmr
                    by_cases hil : i < 64
                    · have HMB : Hid (∀ wx, Calls Tryd.prog 25 #[.int .i64 ((k : Int) + (q : Int)), .int .i64 (i : Nat)] wx fun e w' => e = .returned (.int .u8 (Kit.mb (k + q) i)) ∧ wx = w') := fun wx => by
                        have := markByte_any (k + q) i wx (by have := HKB.out; omega) (by omega)
                        rw [Int.natCast_add] at this
                        exact this.mono fun _ _ ⟨he, hw⟩ => ⟨he, hw.symm⟩
                      obtain ⟨⟨x, k3⟩, f3, hnx⟩ := HMR.out.room hil
                      have HNX := Lib.hid hnx; clear hnx
                      have hiI : (i : Int) < 64 := by omega
                      have hi0 : (0 : Int) ≤ (i : Int) := by omega
                      have hq3 : (q : Int) ≤ 1000 := by have := HKB.out; omega
                      generalize Kit.mb (k + q) i = y at *
                      clear HMR
                      go_wp2_with (first | (go_at_call 25; refine (HMB.out _).mono ?_; rintro e w4 ⟨rfl, rfl⟩))
                      exact ⟨⟨i + 1, by omega, by go_num, HNX.out⟩, by simp [intOf]; omega⟩
                    · obtain rfl : i = 64 := by omega
                      have hmd := HMR.out.done
                      have HB : Hid (Below wo.heap.size wo wr) := by rw [HMM.out]; exact HMR.out.bel
                      have k1 := (HB.out.cell (p := ⟨G, k, none⟩) HGL.out).trans HK1.out
                      have HGR := Lib.hid (HGR0.out.later HB.out)
                      have HNEW : Hid (∀ t u, (k8 (mks (k + q) 64))[t]? = some u → wr.cell? ((⟨M, 0, none⟩ : Addr).add t) = some u) := World.news_of_block (cs := (k8 (mks (k + q) 64)).toArray) hmd
                      have HLEN : Hid ((k8 (mks (k + q) 64)).length = 64 * 1) := by show (k8 (mks (k + q) 64)).length = 64 * 1; rw [k8_length, mks_length]
                      have HS7 : Hid (∀ (v7 : Value) (w7 : World), Eith wr w7 base 5 1 (.slice a (n k) cq) (n k) v7 (n k + 64) (k8 (mks k (n k)) ++ k8 (mks (k + q) 64)) → ∃ a7 c7 x, v7 = .slice a7 (n k + 64) c7 ∧ w7.cell? ⟨H, k, none⟩ = some x ∧ w7.frozen? ⟨H, k, none⟩ = false ∧
                          Hid (Rl 22 5 1 w (w7.setCell ⟨H, k, none⟩ (.slice a7 (n k + 64) c7)) base G q v n (fun j => k8 (mks j (n j))) ∧ Gq 22 5 1 (w7.setCell ⟨H, k, none⟩ (.slice a7 (n k + 64) c7)) H q v (fun j => n j + 64) (fun j => k8 (mks j (n j) ++ mks (j + q) 64)) (k + 1))) := by
                        intro v7 w7 hE
                        have h1 := HGR.out.app (m := 64) hE
                        obtain ⟨⟨x7, k7⟩, f7, hX1, hX2⟩ := grown_done HF.out HG.out hlt h1 rfl (by rw [k8_app]) (by have := HGW.out; have := HHG.out; omega) (by have := HHG.out; omega)
                        obtain ⟨a7, c7, rfl⟩ := own_shape' h1.row7
                        exact ⟨a7, c7, x7, rfl, k7, f7, hX1, hX2⟩
                      have HR7 := Lib.hid HGR.out.row7
                      clear hmd HB HMR HGR HGR0 HF HG
                      go_wp2_with (first | (at_builtin; refine wpList_append_either _ rfl (.tmp 148) (.tmp 149) 22 rfl base 5 i0 _ 1 1 (by kernel_rfl) hi hz0 hz1 hz2 rfl (by decide) (.slice a (n k) cq) (n k) (k8 (mks k (n k))) rfl HR7.out ⟨M, 0, none⟩ 64 64 (k8 (mks (k + q) 64)) rfl HLEN.out HNEW.out (k8_one _) (by omega) (by simp only [maxLen]; have := HNK.out; omega) (by have := HNK.out; omega) ?_; intro v7' w7 hE; obtain ⟨a7, c7, x7, rfl, k7, f7, H7⟩ := HS7.out v7' w7 hE; clear hE))
                      exact ⟨⟨k + 1, by omega, by go_num, H7.out⟩, by simp [intOf]; omega⟩
                · obtain rfl : k = q := by omega
                  have hdk : decide (k < k) = false := decide_eq_false (by omega)
                  go_wp2_with fail
                  clear hdk
                  generalize wr = w5 at *
                  go_loopw [14] (fun v14 wr => ∃ q : Nat, q ≤ k ∧ v14 = .int .i64 (q : Int) ∧ Drawn w5 wr) (fun v14 _ => (k - intOf v14).toNat)
                  case atStart => exact ⟨0, by omega, rfl, Drawn.refl _⟩
                  case round =>
                    obtain ⟨q, hq, rfl, hd⟩ := hrel
                    have HD := Lib.hid hd; clear hd
                    by_cases hlt : q < k
                    · obtain ⟨a, cq, hva⟩ := HVAL.out q hlt
                      have HQB : Hid (q ≤ 1000) := by have := HN.out; exact (by omega : q ≤ 1000)
                      have HNK : Hid (n q ≤ 1000000) := HBD.out q hlt
                      have hnkI : ((n q : Nat) : Int) ≤ 1000000 := by have := HNK.out; omega
                      have hq0 : (0 : Int) ≤ (q : Int) := by omega
                      have hqI : (q : Int) < (k : Int) := by omega
                      have hdq : decide (q < k) = true := decide_eq_true hlt
                      obtain ⟨a2, c2, hk2, hb2⟩ := HG.out.get hlt
                      have hk1 := HF.out.slot hlt
                      have hb1 : w5.ownsRow base 5 1 (.slice a (n q) cq) (n q) (k8 (mks q (n q))) := by
                        have := HF.out.row q hlt
                        rw [hva] at this; exact this
                      rw [hva] at hk1
                      have hk2 : w5.cell? ⟨H, q, none⟩ = some (.slice a2 (n q + 64) c2) := hk2
                      have hb2 : w5.ownsRow 0 5 1 (.slice a2 (n q + 64) c2) (n q + 64) (k8 (mks q (n q) ++ mks (q + k) 64)) := hb2
                      have HK1 := Lib.hid hk1; clear hva
                      have HK2 := Lib.hid hk2; clear hk2
                      have HB1 := Lib.hid hb1; clear hb1
                      have HB2 := Lib.hid hb2; clear hb2
                      have hk1' := (HD.out.cell ⟨G, q, none⟩).trans hk1
                      clear hk1
                      go_wp2_with fail
                      clear hk1'
                      go_loopw [15] (fun v15 wr => ∃ i : Nat, i ≤ n q ∧ v15 = .int .i64 (i : Int) ∧ Drawn w5 wr) (fun v15 _ => (n q - intOf v15).toNat)
                      case atStart => exact ⟨0, by omega, rfl, HD.out⟩
                      case round =>
                        clear HD
                        obtain ⟨i, hi', rfl, hd⟩ := hrel
                        have HD := Lib.hid hd; clear hd
                        have k1 := (HD.out.cell ⟨G, q, none⟩).trans HK1.out
                        by_cases hil : i < n q
                        · have k2 := (HD.out.cell ⟨H, q, none⟩).trans HK2.out
                          obtain ⟨s2, rfl, l2, -⟩ := own_cell' HB2.out (t := i) (u := .int .u8 (Kit.mb q i)) (by rw [k8_get _ _ (by rw [List.length_append, mks_length, mks_length]; omega), getD_app_left _ _ _ (by rw [mks_length]; exact hil), mks_get _ _ _ hil])
                          have l2' := (HD.out.cell _).trans l2
                          obtain ⟨s1, rfl, l1, -⟩ := own_cell' HB1.out (t := i) (u := .int .u8 (Kit.mb q i)) (by rw [k8_get _ _ (by rw [mks_length]; exact hil), mks_get _ _ _ hil])
                          have l1' := (HD.out.cell _).trans l1
                          have HQ : Hid (∀ wx, Drawn wr wx → Calls Tryd.prog 25 #[.int .i64 (q : Nat), .int .i64 (i : Nat)] wx fun e w' => e = .returned (.int .u8 (Kit.mb q i)) ∧ ∃ m, w' = wr.drewN m) := fun wx hx => quiet_markR (by have := HQB.out; omega) (by have := HNK.out; omega) hx
                          have hi0 : (0 : Int) ≤ (i : Int) := by omega
                          have hiI : (i : Int) < ((n q : Nat) : Int) := by omega
                          have hi64 : (i : Int) < ((n q + 64 : Nat) : Int) := by omega
                          have hdi : decide (i < n q) = true := decide_eq_true hil
                          clear l1 l2 hil
                          generalize Kit.mb q i = y at *
                          generalize n q + 64 = nq64 at k2 hi64
                          generalize hNN : n q = nn at k1 hiI hdi hnkI ⊢
                          have HNN := Lib.hid hNN; clear hNN
                          go_wp2_with fail
                          go_quiet ((go_at_call 25; exact HQ.out _ ⟨_, rfl⟩))
                          go_wp2
                          exact ⟨⟨i + 1, of_decide_eq_true hdi, by go_num, HD.out.drewN nq⟩, by have := of_decide_eq_true hdi; simp [intOf]; omega⟩
                        · obtain rfl : i = n q := by omega
                          have hdi : decide (n q < n q) = false := decide_eq_false (by omega)
                          generalize n q = nn at *
                          go_wp2
                          exact ⟨⟨q + 1, by omega, by go_num, HD.out⟩, by simp [intOf]; omega⟩
                    · obtain rfl : q = k := by omega
                      have hdq : decide (q < q) = false := decide_eq_false (by omega)
                      have HE := Lib.hid (HF.out.bel.later (HD.out.below _))
                      go_wp2
                      go_ret
                      exact ⟨rfl, HE.out⟩
end Go.Proofs.YthnpgnnnijpofaaDoor
