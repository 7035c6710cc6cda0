/- The walk of the laws' flatBytes, of rows that lie apart and have no room behind their ends. -/
import Derived.Test.YtkfbcekhegdmjaaKitFlatS
import Derived.BigQuiet
import Derived.BigRegion
import Derived.RegionTactic
import Derived.Deep.QuietTactic
import Derived.StillTailTactics
import Derived.Lib.Hide
import Derived.Deep.AppendLies
namespace Go.Proofs.Ytkfbcekhegdmjaa
open Go.RowKit Go

theorem quiet_mark {w wx : World} {k i : Nat} (hk : k ≤ 1048576) (hi : i ≤ 1099511627776) (hx : Drawn w wx) :
    Calls Try.prog 38 #[.int .i64 (k : Nat), .int .i64 (i : Nat)] wx fun e w' => e = .returned (.int .u8 (Kit.mb k i)) ∧ ∃ m, w' = w.drewN m :=
  (markByte_any k i wx hk hi).mono fun _ _ ⟨he, hw⟩ => ⟨he, by subst hw; exact hx⟩

set_option maxRecDepth 100000 in
set_option maxHeartbeats 8000000 in
theorem flat_core (w : World) (base G N cp : Nat) (v : Nat → Value) (n : Nat → Nat) (X : Nat → List Int) (hN : N ≤ 1000) (h : Fl w w base G N v n X) :
    Calls Try.prog 45 #[.slice (some ⟨G, 0, none⟩) N cp] w fun e w' => e = .returned (.bool true) ∧ Onl w w' (Rowb N v) := by
  have HF0 : Hid (F1 w w base G N v n 0 0) := ⟨X, h, fun j hj => by omega, fun t ht => by omega⟩
  have HVAL : Hid (∀ k, k < N → ∃ a, v k = .slice a (n k) (n k) ∧ (a = none → n k = 0)) := fun k hk => (h.row k hk).val
  have HBD : Hid (∀ k, k < N → n k ≤ 1000000) := h.bd
  have HGW : Hid (G < w.heap.size) := h.gl
  have hNI : (N : Int) ≤ 1000 := by omega
  obtain ⟨i0, hi, hz0, hz1, hz2⟩ := info_parts info5
  clear h
  have HN := Lib.hid hN; clear hN
  go_enter Try.func45, Try.ntmps45
  go_wp2_with fail
  go_loopw [3] (fun v3 wr => ∃ k : Nat, k ≤ N ∧ v3 = .int .i64 (k : Int) ∧ F1 w wr base G N v n k 0) (fun v3 _ => (N - intOf v3).toNat)
  case atStart => exact ⟨0, by omega, rfl, HF0.out⟩
  case round =>
    clear HF0
    obtain ⟨k, hk, rfl, hf⟩ := hrel
    have HF := Lib.hid hf; clear hf
    by_cases hlt : k < N
    · obtain ⟨a, hva, han⟩ := HVAL.out k hlt
      have HVA := Lib.hid hva; clear hva
      have hk0 : (0 : Int) ≤ (k : Int) := by omega
      have hkI : (k : Int) < (N : Int) := by omega
      have hdk : decide (k < N) = true := decide_eq_true hlt
      have HKB : Hid (k ≤ 1000) := by have := HN.out; exact (by omega : k ≤ 1000)
      have HNK : Hid (n k ≤ 1000000) := HBD.out k hlt
      have hnkI : ((n k : Nat) : Int) ≤ 1000000 := by have := HNK.out; omega
      go_wp2_with fail
      go_loopw [4] (fun v4 wr => ∃ i : Nat, i ≤ n k ∧ v4 = .int .i64 (i : Int) ∧ F1 w wr base G N v n k i) (fun v4 _ => (n k - intOf v4).toNat)
      case atStart => exact ⟨0, by omega, rfl, HF.out⟩
      case round =>
        clear HF
        obtain ⟨i, hi', rfl, hf⟩ := hrel
        have HF := Lib.hid hf; clear hf
        have k1 := HF.out.slot hlt
        rw [HVA.out] at k1
        by_cases hil : i < n k
        · obtain ⟨g, x, hg, k2, f2, hnx⟩ := HF.out.at_ hlt hil
          have ha : a = some ⟨g, 0, none⟩ := by
            have := HVA.out.symm.trans hg
            injection this
          subst ha
          have HNX := Lib.hid hnx; clear hnx hg
          have hi0 : (0 : Int) ≤ (i : Int) := by omega
          have hiI : (i : Int) < ((n k : Nat) : Int) := by omega
          have hdi : decide (i < n k) = true := decide_eq_true hil
          have HMB : Hid (∀ wx, Calls Try.prog 38 #[.int .i64 (k : Nat), .int .i64 (i : Nat)] wx fun e w' => e = .returned (.int .u8 (Kit.mb k i)) ∧ w' = wx) := fun wx => markByte_any k i wx (by have := HKB.out; omega) (by have := HNK.out; omega)
          have HFD : Hid (∀ y, y = Kit.mb k i → F1 w ((wr.setCell ⟨g, i, none⟩ (.int .u8 y)).drew) base G N v n k (i + 1)) := fun y hy => by subst hy; exact HNX.out.drawn ⟨1, rfl⟩
          clear HF HNX
          obtain ⟨y, hy⟩ : ∃ y, Kit.mb k i = y := ⟨_, rfl⟩
          rw [hy] at HMB HFD
          have HFE := Lib.hid (HFD.out y rfl)
          clear hy HFD
          generalize n k = nk at k1 hiI hdi hnkI
          go_wp2_with fail
          refine wp_region_still_tail 9 (by kernel_rfl) (by kernel_rfl) ?_
          simp only [List.take_succ_cons, List.take_zero, List.drop_succ_cons, List.drop_zero]
          repeat still_step
          still_call (HMB.out _)
          repeat still_step
          try refine wpStill_nil ?_
          change wpList _ _ _ _ _ wr.drew
          go_wp2
          exact ⟨⟨i + 1, of_decide_eq_true hdi, by go_num, HFE.out⟩, by have := of_decide_eq_true hdi; simp [intOf]; omega⟩
        · obtain rfl : i = n k := by omega
          have HFN := Lib.hid (HF.out.next hlt)
          have hdi : decide (n k < n k) = false := decide_eq_false (by omega)
          clear HF
          go_wp2
          exact ⟨⟨k + 1, by omega, by go_num, HFN.out⟩, by simp [intOf]; omega⟩
    · obtain rfl : k = N := by omega
      have HF1 : Hid (Fl w wr base G k v n (fun j => mks j (n j))) := HF.out.done
      have hdk : decide (k < k) = false := decide_eq_false (by omega)
      obtain ⟨Z, hZ, hz⟩ := run_rows k (by have := HN.out; omega) wr
      have HHG : Hid (w.heap.size ≤ wr.heap.size) := HF1.out.bel.size
      have HF2 : Hid (Fl w (wr.alloc (.cells Z 29)) base G k v n (fun j => mks j (n j)) ∧ Gs (wr.alloc (.cells Z 29)) wr.heap.size k (fun j => mks j (n j + 64)) 0) :=
        ⟨HF1.out.later ((Below.refl _ _).alloc (Nat.le_refl _) _), Z, heap_alloc_new _ _, hZ, fun j hj => by omega⟩
      clear HF HF1 hZ
      go_wp2_with fail
      clear hz
      generalize wr.alloc (.cells Z 29) = w2 at *
      generalize wr.heap.size = H at *
      go_loopw [6] (fun v6 wr => ∃ j : Nat, j ≤ k ∧ v6 = .int .i64 (j : Int) ∧ Fl w wr base G k v n (fun j => mks j (n j)) ∧ Gs wr H k (fun j => mks j (n j + 64)) j) (fun v6 _ => (k - intOf v6).toNat)
      case atStart => exact ⟨0, by omega, rfl, HF2.out⟩
      case round =>
        clear HF2
        obtain ⟨j, hj, rfl, hf, hgs⟩ := hrel
        have HF := Lib.hid hf; clear hf
        have HG := Lib.hid hgs; clear hgs
        by_cases hlt : j < k
        · obtain ⟨a, hva, han⟩ := HVAL.out j hlt
          have hj0 : (0 : Int) ≤ (j : Int) := by omega
          have hjI : (j : Int) < (k : Int) := by omega
          have hdj : decide (j < k) = true := decide_eq_true hlt
          have HJB : Hid (j ≤ 1000) := by have := HN.out; exact (by omega : j ≤ 1000)
          have HNK : Hid (n j ≤ 1000000) := HBD.out j hlt
          have hnkI : ((n j : Nat) : Int) ≤ 1000000 := by have := HNK.out; omega
          have k1 := HF.out.slot hlt
          rw [hva] at k1
          have HROW : Hid (Full wr base (.slice a (n j) (n j)) (n j) (mks j (n j))) := by have := HF.out.row j hlt; rw [hva] at this; exact this
          have HGL := Lib.hid HF.out.gl
          have HK1 : Hid (wr.cell? ⟨G, j, none⟩ = some (.slice a (n j) (n j))) := k1
          clear hva
          go_wp2_with fail
          clear k1
          generalize wr = wo at *
          go_loopw [7, 8] (fun v7 v8 wr => ∃ i : Nat, i ≤ 64 ∧ v8 = .int .i64 (i : Int) ∧ Below wo.heap.size wo wr ∧ ((i = 0 ∧ v7 = .slice a (n j) (n j)) ∨ (0 < i ∧ wr.ownsRow wo.heap.size 5 1 v7 (n j + i) (k8 (mks j (n j + i)))))) (fun _ v8 _ => (64 - intOf v8).toNat)
          case atStart => exact ⟨0, by omega, rfl, Below.refl _ _, .inl ⟨rfl, rfl⟩⟩
          case round =>
            obtain ⟨i, hi', rfl, hb, hrow⟩ := hrel
            have HB := Lib.hid hb; clear hb
            have k1 := (HB.out.cell (p := ⟨G, j, none⟩) HGL.out).trans HK1.out
            by_cases hil : i < 64
            · have HMB : Hid (∀ wx, Calls Try.prog 38 #[.int .i64 (j : Nat), .int .i64 (((n j : Nat) : Int) + (i : Int))] wx fun e w' => e = .returned (.int .u8 (Kit.mb j (n j + i))) ∧ wx = w') := fun wx => by
                have := markByte_any j (n j + i) wx (by have := HJB.out; omega) (by have := HNK.out; omega)
                rw [Int.natCast_add] at this
                exact this.mono fun _ _ ⟨he, hw⟩ => ⟨he, hw.symm⟩
              have hiI : (i : Int) < 64 := by omega
              have HNKB : Hid (n j + i ≤ 1000064) := by have := HNK.out; exact (by omega : n j + i ≤ 1000064)
              have HEND : Hid (∀ (v7 : Value) (w7 : World), w7.ownsRow wo.heap.size 5 1 v7 (n j + i + 1) (k8 (mks j (n j + i)) ++ [.int .u8 (Kit.mb j (n j + i))]) → w7.ownsRow wo.heap.size 5 1 v7 (n j + (i + 1)) (k8 (mks j (n j + (i + 1))))) := fun v7 w7 h => by
                rw [show n j + (i + 1) = n j + i + 1 by omega, mks_succ, k8_app]; exact h
              generalize Kit.mb j (n j + i) = y at *
              rcases hrow with ⟨rfl, rfl⟩ | ⟨hi0, hown⟩
              · have HOLD : Hid (∀ b, a = some b → ∀ t u, (k8 (mks j (n j)))[t]? = some u → (wr.alloc (.cells #[.int .u8 y] 5)).cell? (b.add t) = some u) := by
                  rintro b rfl t u ht
                  rcases HROW.out.at_ with ⟨e, _⟩ | ⟨g, e, _, hg⟩
                  · cases e
                  · cases e
                    have htl : t < (mks j (n j)).length := by have := (List.getElem?_eq_some_iff.1 ht).1; rwa [k8_length] at this
                    have hgl := lt_of_block hg
                    rw [Addr.add_mid, Nat.zero_add, World.cell?_alloc_lt _ _ _ (by show g < _; have := HB.out.size; omega), HB.out.cell (p := ⟨g, t, none⟩) hgl, k8_cell hg t htl, ← ht, k8_get _ _ htl]
                have HNONE : Hid (a = none → n j = 0 ∧ n j = 0) := fun e => ⟨han e, han e⟩
                have HS7 : Hid (∀ (v7 : Value) (w7 : World), w7.ownsRow (wr.heap.size + 1) 5 1 v7 (n j + 1) (k8 (mks j (n j)) ++ [.int .u8 y]) → (wr.alloc (.cells #[.int .u8 y] 5)).grownBy w7 none → Hid (w7.ownsRow wo.heap.size 5 1 v7 (n j + (0 + 1)) (k8 (mks j (n j + (0 + 1)))) ∧ Below wo.heap.size wo w7)) := fun v7 w7 h1 h2 =>
                  ⟨HEND.out v7 w7 (own_base h1 (by have := HB.out.size; omega)), (HB.out.alloc HB.out.size _).grown h2 (by have := HB.out.size; simp; omega) (fun k hk => by cases hk)⟩
                clear HROW HEND HB han
                go_wp2_with (first | (go_at_call 38; refine (HMB.out _).mono ?_; rintro e w4 ⟨rfl, rfl⟩) | (at_builtin; refine wpList_append_grows _ rfl (.tmp 57) (.tmp 67) 29 rfl 5 i0 _ 1 1 (by kernel_rfl) hi hz0 hz1 hz2 rfl (by decide) a (n j) (n j) (k8 (mks j (n j))) rfl HNONE.out (by rw [k8_length, mks_length]; omega) HOLD.out ⟨wr.heap.size, 0, none⟩ 1 1 [.int .u8 y] rfl rfl (World.news_of_block (cs := #[.int .u8 y]) (heap_alloc_new wr _)) (by simp [Value.oneCell']) (by omega) (by simp only [maxLen]; have := HNK.out; omega) (by have := HNK.out; omega) ?_; intro v7' w7 ho7 hg7; have H7 := HS7.out v7' w7 (by simpa using ho7) hg7; clear ho7 hg7))
                exact ⟨⟨1, by omega, rfl, H7.out.2, .inr ⟨by omega, H7.out.1⟩⟩, by simp [intOf]⟩
              · have HOWN := Lib.hid hown; clear hown
                have HS7 : Hid (∀ (v7 : Value) (w7 : World), w7.ownsRow wo.heap.size 5 1 v7 (n j + i + 1) (k8 (mks j (n j + i)) ++ [.int .u8 y]) → (wr.alloc (.cells #[.int .u8 y] 5)).grownBy w7 u7.ownBlock → Hid (w7.ownsRow wo.heap.size 5 1 v7 (n j + (i + 1)) (k8 (mks j (n j + (i + 1)))) ∧ Below wo.heap.size wo w7)) := fun v7 w7 h1 h2 =>
                  ⟨HEND.out v7 w7 h1, (HB.out.alloc HB.out.size _).grown h2 (by have := HB.out.size; simp; omega) (fun k hk => (HOWN.out.lt k hk).1)⟩
                have HBS := Lib.hid HB.out.size
                clear HROW HEND HB han
                go_wp2_with (first | (go_at_call 38; refine (HMB.out _).mono ?_; rintro e w4 ⟨rfl, rfl⟩) | (at_builtin; refine wpList_append_own _ rfl (.tmp 57) (.tmp 67) 29 rfl wo.heap.size 5 i0 _ 1 1 (by kernel_rfl) hi hz0 hz1 hz2 rfl (by decide) u7 _ _ rfl (HOWN.out.alloc _) ⟨wr.heap.size, 0, none⟩ 1 1 [.int .u8 y] rfl rfl (World.news_of_block (cs := #[.int .u8 y]) (heap_alloc_new wr _)) (by simp [Value.oneCell']) (by simp only [maxLen]; have := HNKB.out; omega) (by have := HNKB.out; omega) (by have := HBS.out; simp; omega) ?_; intro v7' w7 ho7 hg7 _; have H7 := HS7.out v7' w7 ho7 hg7; clear ho7 hg7))
                exact ⟨⟨i + 1, by omega, by go_num, H7.out.2, .inr ⟨by omega, H7.out.1⟩⟩, by simp [intOf]; omega⟩
            · obtain rfl : i = 64 := by omega
              rcases hrow with ⟨h0, _⟩ | ⟨_, hown⟩
              · omega
              obtain ⟨a7, c7, rfl⟩ := own_slice hown
              have hfl := HF.out.later HB.out
              have hgs := HG.out.later HB.out
              obtain ⟨⟨x7, k7⟩, f7⟩ := hgs.room hlt
              have HHL : Hid (H < wo.heap.size) := by obtain ⟨D, h1, _⟩ := HG.out.at_; exact lt_of_block h1
              have hby : BytesIn wr (.slice a7 (n j + 64) c7) (mks j (n j + 64)) (fun s => s ≠ H) := (own_bytes hown).mono (Nat.le_refl _) (fun s _ hs => by have := HHL.out; omega) (fun _ _ _ _ => rfl)
              have HX : Hid (Fl w (wr.setCell ⟨H, j, none⟩ (.slice a7 (n j + 64) c7)) base G k v n (fun j => mks j (n j)) ∧ Gs (wr.setCell ⟨H, j, none⟩ (.slice a7 (n j + 64) c7)) H k (fun j => mks j (n j + 64)) (j + 1)) := by
                obtain ⟨D, h1, _⟩ := hgs.at_
                exact ⟨hfl.store h1 (by have := HGW.out; have := HHG.out; omega) (by have := HHG.out; omega) j _, hgs.set hlt a7 _ c7 (mks_length _ _) hby⟩
              clear hown hfl hgs hby HROW HB k1
              go_wp2
              exact ⟨⟨j + 1, by omega, by go_num, HX.out⟩, by simp [intOf]; omega⟩
        · obtain rfl : j = k := by omega
          have hdj : decide (j < j) = false := decide_eq_false (by omega)
          go_wp2_with fail
          clear hdj
          generalize wr = w3 at *
          go_loopw [9] (fun v9 wr => ∃ q : Nat, q ≤ j ∧ v9 = .int .i64 (q : Int) ∧ Drawn w3 wr) (fun v9 _ => (j - intOf v9).toNat)
          case atStart => exact ⟨0, by omega, rfl, Drawn.refl _⟩
          case round =>
            obtain ⟨q, hq, rfl, hd⟩ := hrel
            have HD := Lib.hid hd; clear hd
            by_cases hlt : q < j
            · obtain ⟨a, hva, han⟩ := HVAL.out q hlt
              have HQB : Hid (q ≤ 1000) := by have := HN.out; exact (by omega : q ≤ 1000)
              have HNK : Hid (n q ≤ 1000000) := HBD.out q hlt
              have hnkI : ((n q : Nat) : Int) ≤ 1000000 := by have := HNK.out; omega
              have hq0 : (0 : Int) ≤ (q : Int) := by omega
              have hqI : (q : Int) < (j : Int) := by omega
              have hdq : decide (q < j) = true := decide_eq_true hlt
              obtain ⟨a2, c2, hk2, hb2⟩ := HG.out.get hlt
              have hk1 := HF.out.slot hlt
              have hb1 : BytesIn w3 (.slice a (n q) (n q)) (mks q (n q)) (fun s => base ≤ s) := by
                have := (HF.out.row q hlt).bytes HNK.out
                rw [hva] at this; exact this
              rw [hva] at hk1
              rw [mks_length] at hk2 hb2
              have HK1 := Lib.hid hk1; clear hk1 hva han
              have HK2 := Lib.hid hk2; clear hk2
              have HB1 := Lib.hid hb1; clear hb1
              have HB2 := Lib.hid hb2; clear hb2
              go_wp2_with fail
              go_loopw [10] (fun v10 wr => ∃ i : Nat, i ≤ n q + 64 ∧ v10 = .int .i64 (i : Int) ∧ Drawn w3 wr) (fun v10 _ => (n q + 64 - intOf v10).toNat)
              case atStart => exact ⟨0, by omega, rfl, HD.out⟩
              case round =>
                clear HD
                obtain ⟨i, hi', rfl, hd⟩ := hrel
                have HD := Lib.hid hd; clear hd
                have k2 := (HD.out.cell ⟨H, q, none⟩).trans HK2.out
                by_cases hil : i < n q + 64
                · obtain ⟨s2, o2, rfl, l2⟩ := bytes_cell HB2.out (i := i) (by rw [mks_length]; exact hil)
                  rw [mks_get _ _ _ hil] at l2
                  have l2' := (HD.out.cell _).trans l2
                  have HQ : Hid (∀ wx, Drawn wr wx → Calls Try.prog 38 #[.int .i64 (q : Nat), .int .i64 (i : Nat)] wx fun e w' => e = .returned (.int .u8 (Kit.mb q i)) ∧ ∃ m, w' = wr.drewN m) := fun wx hx => quiet_mark (by have := HQB.out; omega) (by have := HNK.out; omega) hx
                  have k1 := (HD.out.cell ⟨G, q, none⟩).trans HK1.out
                  have hi0 : (0 : Int) ≤ (i : Int) := by omega
                  have HIL : Hid (i < n q + 64) := hil
                  have hiI : (i : Int) < ((n q + 64 : Nat) : Int) := by omega
                  have hdi : decide (i < n q + 64) = true := decide_eq_true hil
                  have hi6 : (i : Int) ≤ 1000100 := by have := HNK.out; omega
                  clear l2 hil
                  by_cases hin : i < n q
                  · obtain ⟨s1, o1, rfl, l1⟩ := bytes_cell HB1.out (i := i) (by rw [mks_length]; exact hin)
                    rw [mks_get _ _ _ hin] at l1
                    have l1' := (HD.out.cell _).trans l1
                    have hdn : decide (i < n q) = true := decide_eq_true hin
                    have hinI : (i : Int) < ((n q : Nat) : Int) := by omega
                    clear l1 hin
                    generalize Kit.mb q i = y at *
                    generalize hNQ : n q + 64 = nq64 at *
                    have HNQ := Lib.hid hNQ; clear hNQ
                    generalize hNN : n q = nn at k1 hdn hinI hnkI ⊢
                    have HNN := Lib.hid hNN; clear hNN
                    go_wp2_with fail
                    go_quiet ((go_at_call 38; exact HQ.out _ ⟨_, rfl⟩))
                    go_wp2
                    exact ⟨⟨i + 1, of_decide_eq_true hdi, by go_num, HD.out.drewN nq⟩, by have := of_decide_eq_true hdi; have := HNQ.out; have := HNN.out; simp [intOf]; omega⟩
                  · have hdn : decide (i < n q) = false := decide_eq_false hin
                    clear hin
                    generalize Kit.mb q i = y at *
                    generalize hNQ : n q + 64 = nq64 at *
                    have HNQ := Lib.hid hNQ; clear hNQ
                    generalize hNN : n q = nn at k1 hdn hnkI ⊢
                    have HNN := Lib.hid hNN; clear hNN
                    go_wp2_with fail
                    go_quiet ((go_at_call 38; exact HQ.out _ ⟨_, rfl⟩))
                    go_wp2
                    exact ⟨⟨i + 1, of_decide_eq_true hdi, by go_num, HD.out.drewN nq⟩, by have := of_decide_eq_true hdi; have := HNQ.out; have := HNN.out; simp [intOf]; omega⟩
                · obtain rfl : i = n q + 64 := by omega
                  have hdi : decide (n q + 64 < n q + 64) = false := decide_eq_false (by omega)
                  generalize n q + 64 = nq64 at *
                  go_wp2
                  exact ⟨⟨q + 1, by omega, by go_num, HD.out⟩, by simp [intOf]; omega⟩
            · obtain rfl : q = j := by omega
              have hdq : decide (q < q) = false := decide_eq_false (by omega)
              have HF3 : Hid (Fl w wr base G q v n (fun j => mks j (n j)) ∧ Gs wr H q (fun j => mks j (n j) ++ mks (j + q) 64) 0) := ⟨HF.out.drawn HD.out, (HG.out.drawn HD.out).zero⟩
              clear HF HG HD
              go_wp2_with fail
              clear hdq
              go_loopw [11] (fun v11 wr => ∃ k : Nat, k ≤ q ∧ v11 = .int .i64 (k : Int) ∧ Fl w wr base G q v n (fun j => mks j (n j)) ∧ Gs wr H q (fun j => mks j (n j) ++ mks (j + q) 64) k) (fun v11 _ => (q - intOf v11).toNat)
              case atStart => exact ⟨0, by omega, rfl, HF3.out⟩
              case round =>
                clear HF3
                obtain ⟨k, hk, rfl, hf, hgs⟩ := hrel
                have HF := Lib.hid hf; clear hf
                have HG := Lib.hid hgs; clear hgs
                by_cases hlt : k < q
                · obtain ⟨a, hva, han⟩ := HVAL.out k hlt
                  have hk0 : (0 : Int) ≤ (k : Int) := by omega
                  have hkI : (k : Int) < (q : Int) := by omega
                  have hdk : decide (k < q) = true := decide_eq_true hlt
                  have HKB : Hid (k ≤ 1000 ∧ q ≤ 1000) := by have := HN.out; exact ⟨by omega, by omega⟩
                  have HNK : Hid (n k ≤ 1000000) := HBD.out k hlt
                  have hnkI : ((n k : Nat) : Int) ≤ 1000000 := by have := HNK.out; omega
                  have k1 := HF.out.slot hlt
                  rw [hva] at k1
                  have HROW : Hid (Full wr base (.slice a (n k) (n k)) (n k) (mks k (n k))) := by have := HF.out.row k hlt; rw [hva] at this; exact this
                  have HGL := Lib.hid HF.out.gl
                  have HK1 : Hid (wr.cell? ⟨G, k, none⟩ = some (.slice a (n k) (n k))) := k1
                  obtain ⟨O, hO⟩ : ∃ O : Obj, O = .cells (k8 (List.replicate 64 0)).toArray 5 := ⟨_, rfl⟩
                  have hz64 : ∀ wx : World, (Instr.makeSlice 29 (.int .i64 64) (.int .i64 64)).run Try.prog wx = .ok (.slice (some ⟨wx.heap.size, 0, none⟩) 64 64) (wx.alloc O) := by
                    rw [hO]; exact run_zeros 64 (by omega)
                  clear hva k1
                  have HM0 : Hid (Mr wr (wr.alloc O) wr.heap.size (k + q) 0) :=
                    ⟨(Below.refl _ _).alloc (Nat.le_refl _) _, List.replicate 64 0, by rw [hO]; exact heap_alloc_new _ _, by simp, fun t ht => by omega⟩
                  clear hO
                  go_wp2_with fail
                  clear hz64
                  generalize wr.alloc O = wm at *
                  generalize wr = wo at *
                  obtain ⟨M, hM⟩ : ∃ M, wo.heap.size = M := ⟨_, rfl⟩
                  rw [hM] at HM0
                  rw [hM]
                  have HMM := Lib.hid hM; clear hM
                  go_loopw [13] (fun v13 wr => ∃ i : Nat, i ≤ 64 ∧ v13 = .int .i64 (i : Int) ∧ Mr wo wr M (k + q) i) (fun v13 _ => (64 - intOf v13).toNat)
                  case atStart => exact ⟨0, by omega, rfl, HM0.out⟩
                  case round =>
                    clear HM0
                    obtain ⟨i, hi', rfl, hmr⟩ := hrel
                    have HMR := Lib.hid hmr; clear hmr
                    by_cases hil : i < 64
                    · have HMB : Hid (∀ wx, Calls Try.prog 38 #[.int .i64 ((k : Int) + (q : Int)), .int .i64 (i : Nat)] wx fun e w' => e = .returned (.int .u8 (Kit.mb (k + q) i)) ∧ wx = w') := fun wx => by
                        have := markByte_any (k + q) i wx (by have := HKB.out; omega) (by omega)
                        rw [Int.natCast_add] at this
                        exact this.mono fun _ _ ⟨he, hw⟩ => ⟨he, hw.symm⟩
                      obtain ⟨⟨x, k3⟩, f3, hnx⟩ := HMR.out.room hil
                      have HNX := Lib.hid hnx; clear hnx
                      have hiI : (i : Int) < 64 := by omega
                      have hi0 : (0 : Int) ≤ (i : Int) := by omega
                      have hq3 : (q : Int) ≤ 1000 := by have := HKB.out; omega
                      generalize Kit.mb (k + q) i = y at *
                      clear HMR
                      go_wp2_with (first | (go_at_call 38; refine (HMB.out _).mono ?_; rintro e w4 ⟨rfl, rfl⟩))
                      exact ⟨⟨i + 1, by omega, by go_num, HNX.out⟩, by simp [intOf]; omega⟩
                    · obtain rfl : i = 64 := by omega
                      have hmd := HMR.out.done
                      have HB : Hid (Below wo.heap.size wo wr) := by rw [HMM.out]; exact HMR.out.bel
                      have k1 := (HB.out.cell (p := ⟨G, k, none⟩) HGL.out).trans HK1.out
                      have hfl := HF.out.later HB.out
                      have hgs := HG.out.later HB.out
                      have HHL : Hid (H < wo.heap.size) := by obtain ⟨D, h1, _⟩ := HG.out.at_; exact lt_of_block h1
                      have HOLD : Hid (∀ b, a = some b → ∀ t u, (k8 (mks k (n k)))[t]? = some u → wr.cell? (b.add t) = some u) := by
                        rintro b rfl t u ht
                        rcases HROW.out.at_ with ⟨e, _⟩ | ⟨g, e, _, hg⟩
                        · cases e
                        · cases e
                          have htl : t < (mks k (n k)).length := by have := (List.getElem?_eq_some_iff.1 ht).1; rwa [k8_length] at this
                          have hgl := lt_of_block hg
                          rw [Addr.add_mid, Nat.zero_add, HB.out.cell (p := ⟨g, t, none⟩) hgl, k8_cell hg t htl, ← ht, k8_get _ _ htl]
                      have HNONE : Hid (a = none → n k = 0 ∧ n k = 0) := fun e => ⟨han e, han e⟩
                      have HNEW : Hid (∀ t u, (k8 (mks (k + q) 64))[t]? = some u → wr.cell? ((⟨M, 0, none⟩ : Addr).add t) = some u) := World.news_of_block (cs := (k8 (mks (k + q) 64)).toArray) hmd
                      have HLEN : Hid ((k8 (mks (k + q) 64)).length = 64 * 1) := by show (k8 (mks (k + q) 64)).length = 64 * 1; rw [k8_length, mks_length]
                      have HLN2 : Hid ((k8 (mks k (n k))).length = n k * 1) := by show (k8 (mks k (n k))).length = n k * 1; rw [k8_length, mks_length, Nat.mul_one]
                      have HS7 : Hid (∀ (v7 : Value) (w7 : World), w7.ownsRow wr.heap.size 5 1 v7 (n k + 64) (k8 (mks k (n k)) ++ k8 (mks (k + q) 64)) → wr.grownBy w7 none → ∃ a7 c7 x, v7 = .slice a7 (n k + 64) c7 ∧ w7.cell? ⟨H, k, none⟩ = some x ∧ w7.frozen? ⟨H, k, none⟩ = false ∧
                          Hid (Fl w (w7.setCell ⟨H, k, none⟩ (.slice a7 (n k + 64) c7)) base G q v n (fun j => mks j (n j)) ∧ Gs (w7.setCell ⟨H, k, none⟩ (.slice a7 (n k + 64) c7)) H q (fun j => mks j (n j) ++ mks (j + q) 64) (k + 1))) := by
                        intro v7 w7 ho hg
                        have hb7 : Below wr.heap.size wr w7 := below_gb hg
                        have hfl7 := hfl.later hb7
                        have hgs7 := hgs.later hb7
                        rw [← k8_app] at ho
                        obtain ⟨a7, c7, rfl⟩ := own_slice ho
                        obtain ⟨⟨x, kx⟩, fx⟩ := hgs7.room hlt
                        obtain ⟨D, h1, _⟩ := hgs7.at_
                        have hs := HB.out.size
                        exact ⟨a7, c7, x, rfl, kx, fx, hfl7.store h1 (by have := HGW.out; have := HHG.out; omega) (by have := HHG.out; omega) k _, hgs7.set hlt a7 _ c7 (by rw [List.length_append, mks_length, mks_length]) ((own_bytes ho).mono (Nat.le_refl _) (fun s _ hs7 => by have := HHL.out; omega) (fun _ _ _ _ => rfl))⟩
                      clear hmd hfl hgs HROW HB HMR
                      go_wp2_with (first | (at_builtin; refine wpList_append_grows _ rfl (.tmp 148) (.tmp 149) 29 rfl 5 i0 _ 1 1 (by kernel_rfl) hi hz0 hz1 hz2 rfl (by decide) a (n k) (n k) (k8 (mks k (n k))) rfl HNONE.out HLN2.out HOLD.out ⟨M, 0, none⟩ 64 64 (k8 (mks (k + q) 64)) rfl HLEN.out HNEW.out (k8_one _) (by omega) (by simp only [maxLen]; have := HNK.out; omega) (by have := HNK.out; omega) ?_; intro v7' w7 ho7 hg7; obtain ⟨a7, c7, x7, rfl, k7, f7, H7⟩ := HS7.out v7' w7 ho7 hg7; clear ho7 hg7))
                      exact ⟨⟨k + 1, by omega, by go_num, H7.out⟩, by simp [intOf]; omega⟩
                · obtain rfl : k = q := by omega
                  have hdk : decide (k < k) = false := decide_eq_false (by omega)
                  go_wp2_with fail
                  clear hdk
                  generalize wr = w5 at *
                  go_loopw [14] (fun v14 wr => ∃ q : Nat, q ≤ k ∧ v14 = .int .i64 (q : Int) ∧ Drawn w5 wr) (fun v14 _ => (k - intOf v14).toNat)
                  case atStart => exact ⟨0, by omega, rfl, Drawn.refl _⟩
                  case round =>
                    obtain ⟨q, hq, rfl, hd⟩ := hrel
                    have HD := Lib.hid hd; clear hd
                    by_cases hlt : q < k
                    · obtain ⟨a, hva, han⟩ := HVAL.out q hlt
                      have HQB : Hid (q ≤ 1000) := by have := HN.out; exact (by omega : q ≤ 1000)
                      have HNK : Hid (n q ≤ 1000000) := HBD.out q hlt
                      have hnkI : ((n q : Nat) : Int) ≤ 1000000 := by have := HNK.out; omega
                      have hq0 : (0 : Int) ≤ (q : Int) := by omega
                      have hqI : (q : Int) < (k : Int) := by omega
                      have hdq : decide (q < k) = true := decide_eq_true hlt
                      obtain ⟨a2, c2, hk2, hb2⟩ := HG.out.get hlt
                      have hk1 := HF.out.slot hlt
                      have hb1 : BytesIn w5 (.slice a (n q) (n q)) (mks q (n q)) (fun s => base ≤ s) := by
                        have := (HF.out.row q hlt).bytes HNK.out
                        rw [hva] at this; exact this
                      rw [hva] at hk1
                      have hl2 : (mks q (n q) ++ mks (q + k) 64).length = n q + 64 := by rw [List.length_append, mks_length, mks_length]
                      rw [hl2] at hk2 hb2
                      have HK1 := Lib.hid hk1; clear hva han
                      have HK2 := Lib.hid hk2; clear hk2
                      have HB1 := Lib.hid hb1; clear hb1
                      have HB2 := Lib.hid hb2; clear hb2 hl2
                      have hk1' := (HD.out.cell ⟨G, q, none⟩).trans hk1
                      clear hk1
                      go_wp2_with fail
                      clear hk1'
                      go_loopw [15] (fun v15 wr => ∃ i : Nat, i ≤ n q ∧ v15 = .int .i64 (i : Int) ∧ Drawn w5 wr) (fun v15 _ => (n q - intOf v15).toNat)
                      case atStart => exact ⟨0, by omega, rfl, HD.out⟩
                      case round =>
                        clear HD
                        obtain ⟨i, hi', rfl, hd⟩ := hrel
                        have HD := Lib.hid hd; clear hd
                        have k1 := (HD.out.cell ⟨G, q, none⟩).trans HK1.out
                        by_cases hil : i < n q
                        · have k2 := (HD.out.cell ⟨H, q, none⟩).trans HK2.out
                          obtain ⟨s2, o2, rfl, l2⟩ := bytes_cell HB2.out (i := i) (by rw [List.length_append, mks_length, mks_length]; omega)
                          rw [getD_app_left _ _ _ (by rw [mks_length]; exact hil), mks_get _ _ _ hil] at l2
                          have l2' := (HD.out.cell _).trans l2
                          obtain ⟨s1, o1, rfl, l1⟩ := bytes_cell HB1.out (i := i) (by rw [mks_length]; exact hil)
                          rw [mks_get _ _ _ hil] at l1
                          have l1' := (HD.out.cell _).trans l1
                          have HQ : Hid (∀ wx, Drawn wr wx → Calls Try.prog 38 #[.int .i64 (q : Nat), .int .i64 (i : Nat)] wx fun e w' => e = .returned (.int .u8 (Kit.mb q i)) ∧ ∃ m, w' = wr.drewN m) := fun wx hx => quiet_mark (by have := HQB.out; omega) (by have := HNK.out; omega) hx
                          have hi0 : (0 : Int) ≤ (i : Int) := by omega
                          have hiI : (i : Int) < ((n q : Nat) : Int) := by omega
                          have hi64 : (i : Int) < ((n q + 64 : Nat) : Int) := by omega
                          have hdi : decide (i < n q) = true := decide_eq_true hil
                          clear l1 l2 hil
                          generalize Kit.mb q i = y at *
                          generalize n q + 64 = nq64 at k2 hi64
                          generalize hNN : n q = nn at k1 hiI hdi hnkI ⊢
                          have HNN := Lib.hid hNN; clear hNN
                          go_wp2_with fail
                          go_quiet ((go_at_call 38; exact HQ.out _ ⟨_, rfl⟩))
                          go_wp2
                          exact ⟨⟨i + 1, of_decide_eq_true hdi, by go_num, HD.out.drewN nq⟩, by have := of_decide_eq_true hdi; simp [intOf]; omega⟩
                        · obtain rfl : i = n q := by omega
                          have hdi : decide (n q < n q) = false := decide_eq_false (by omega)
                          generalize n q = nn at *
                          go_wp2
                          exact ⟨⟨q + 1, by omega, by go_num, HD.out⟩, by simp [intOf]; omega⟩
                    · obtain rfl : q = k := by omega
                      have hdq : decide (q < q) = false := decide_eq_false (by omega)
                      have HE := Lib.hid (HF.out.bel.later (HD.out.below _))
                      go_wp2
                      go_ret
                      exact ⟨rfl, HE.out⟩
end Go.Proofs.Ytkfbcekhegdmjaa
