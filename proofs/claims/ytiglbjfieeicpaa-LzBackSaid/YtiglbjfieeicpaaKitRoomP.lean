/- The walk of the laws' flatPieces, of rows that lie apart, whatever room is behind their ends. Made by wip/tools/genroomp.py. -/
import Derived.Test.YtiglbjfieeicpaaKitRoomPS
import Derived.BigQuiet
import Derived.BigRegion
import Derived.RegionTactic
import Derived.Deep.QuietTactic
import Derived.Deep.RegionHeld3
import Derived.StillTailTactics
import Derived.Lib.Hide
import Derived.Deep.AppendLies
namespace Go.Proofs.Ytiglbjfieeicpaa
open Go.RowKit Go Go.Sort
open Lz (Pc)

set_option maxRecDepth 100000 in
set_option maxHeartbeats 8000000 in
theorem flatroom_coreP (w : World) (base G N cp : Nat) (v : Nat → Value) (n : Nat → Nat) (X : Nat → List Pc) (hN : N ≤ 1000) (h : Rl 22 35 3 w w base G N v n (fun j => pk (X j))) :
    Calls Try.prog 46 #[.slice (some ⟨G, 0, none⟩) N cp] w fun e w' => e = .returned (.bool true) ∧ Onl w w' (Rowb N v) := by
  have HF0 : Hid (F1p w w base G N v n 0 0) := ⟨X, h, fun j hj => by omega, fun t ht => by omega⟩
  have HVAL : Hid (∀ k, k < N → ∃ a c, v k = .slice a (n k) c) := fun k hk => h.val hk
  have HBD : Hid (∀ k, k < N → n k ≤ 1000000) := h.bd
  have HGW : Hid (G < w.heap.size) := h.gl
  have hNI : (N : Int) ≤ 1000 := by omega
  obtain ⟨i0, hi, hz0, hz1, hz2⟩ := info_parts infoPc
  clear h
  have mixed := mixedOrders
  have HN := Lib.hid hN; clear hN
  go_enter Try.func46, Try.ntmps46
  go_wp2_with fail
  go_loopw [3] (fun v3 wr => ∃ k : Nat, k ≤ N ∧ v3 = .int .i64 (k : Int) ∧ F1p w wr base G N v n k 0) (fun v3 _ => (N - intOf v3).toNat)
  case atStart => exact ⟨0, by omega, rfl, HF0.out⟩
  case round =>
    clear HF0
    obtain ⟨k, hk, rfl, hf⟩ := hrel
    have HF := Lib.hid hf; clear hf
    by_cases hlt : k < N
    · obtain ⟨a, cq, hva⟩ := HVAL.out k hlt
      have HVA := Lib.hid hva; clear hva
      have hk0 : (0 : Int) ≤ (k : Int) := by omega
      have hkI : (k : Int) < (N : Int) := by omega
      have hdk : decide (k < N) = true := decide_eq_true hlt
      have HKB : Hid (k ≤ 1000) := by have := HN.out; exact (by omega : k ≤ 1000)
      have HNK : Hid (n k ≤ 1000000) := HBD.out k hlt
      have hnkI : ((n k : Nat) : Int) ≤ 1000000 := by have := HNK.out; omega
      go_wp2_with fail
      go_loopw [4] (fun v4 wr => ∃ i : Nat, i ≤ n k ∧ v4 = .int .i64 (i : Int) ∧ F1p w wr base G N v n k i) (fun v4 _ => (n k - intOf v4).toNat)
      case atStart => exact ⟨0, by omega, rfl, HF.out⟩
      case round =>
        clear HF
        obtain ⟨i, hi', rfl, hf⟩ := hrel
        have HF := Lib.hid hf; clear hf
        have k1 := HF.out.slot hlt
        rw [HVA.out] at k1
        by_cases hil : i < n k
        · have hi0 : (0 : Int) ≤ (i : Int) := by omega
          have hiI : (i : Int) < ((n k : Nat) : Int) := by omega
          have hdi : decide (i < n k) = true := decide_eq_true hil
          obtain ⟨p, hp⟩ : ∃ p, p = Kit.mp k i := ⟨_, rfl⟩
          obtain ⟨g, rfl, -⟩ := HF.out.at_ hlt hil HVA.out
          have HMB : Hid (∀ wx, (wx.cell? ⟨G, k, none⟩ = some (.slice (some ⟨g, 0, none⟩) (n k) cq) ∧ F1p w wx base G N v n k i) → Calls Try.prog 26 #[.int .i64 (k : Nat), .int .i64 (i : Nat)] wx fun e w' => e = .returned (.agg #[.int .u8 p.c, .int .i64 p.n, .int .i64 p.d]) ∧
              (w'.cell? ⟨G, k, none⟩ = some (.slice (some ⟨g, 0, none⟩) (n k) cq) ∧ F1p w w' base G N v n k i)) := by
            intro wx ⟨_, hx2⟩
            refine (markPiece_any k i wx (by have := HKB.out; omega) (by have := HNK.out; omega)).mono ?_
            rintro e w' ⟨rfl, rfl⟩
            have h3 := hx2.later ((Below.refl _ _).alloc (Nat.le_refl _) (.cells #[.int .u8 0, .int .i64 (Kit.mp k i).n, .int .i64 0] 35))
            exact ⟨by rw [hp], by rw [← HVA.out]; exact h3.slot hlt, h3⟩
          have HAT : Hid (∀ wx, F1p w wx base G N v n k i → (∃ x, wx.cell? ⟨g, i * 3, none⟩ = some x) ∧ (∃ x, wx.cell? ⟨g, i * 3 + 1, none⟩ = some x) ∧ (∃ x, wx.cell? ⟨g, i * 3 + 2, none⟩ = some x) ∧
              wx.frozen? ⟨g, i * 3, none⟩ = false ∧ wx.frozen? ⟨g, i * 3 + 1, none⟩ = false ∧ wx.frozen? ⟨g, i * 3 + 2, none⟩ = false ∧
              F1p w (((wx.setCell ⟨g, i * 3, none⟩ (.int .u8 p.c)).setCell ⟨g, i * 3 + 1, none⟩ (.int .i64 p.n)).setCell ⟨g, i * 3 + 2, none⟩ (.int .i64 p.d)) base G N v n k (i + 1)) := by
            intro wx hx
            obtain ⟨g', e', r0, r1, r2, f0, f1, f2, hnx⟩ := hx.at_ hlt hil HVA.out
            cases e'
            exact ⟨r0, r1, r2, f0, f1, f2, hnx p hp⟩
          have HSL : Hid (∀ wx, F1p w wx base G N v n k (i + 1) → (wx.cell? ⟨G, k, none⟩ = some (.slice (some ⟨g, 0, none⟩) (n k) cq) ∧ F1p w wx base G N v n k i)) := fun wx hx => ⟨by rw [← HVA.out]; exact hx.slot hlt, hx.back⟩
          have hs0 : wr.cell? ⟨G, k, none⟩ = some (.slice (some ⟨g, 0, none⟩) (n k) cq) ∧ F1p w wr base G N v n k i := ⟨k1, HF.out⟩
          have HSD : Hid (∀ wx : World, (wx.cell? ⟨G, k, none⟩ = some (.slice (some ⟨g, 0, none⟩) (n k) cq) ∧ F1p w wx base G N v n k i) → (wx.drew.cell? ⟨G, k, none⟩ = some (.slice (some ⟨g, 0, none⟩) (n k) cq) ∧ F1p w wx.drew base G N v n k i)) := fun wx hx => ⟨hx.1, hx.2.later ((Drawn.refl wx).drew.below _)⟩
          clear HF hp
          obtain ⟨c, NN, d⟩ := p
          go_wp2_with fail
          go_region_held3 (fun wx => wx.cell? ⟨G, k, none⟩ = some (.slice (some ⟨g, 0, none⟩) (n k) cq) ∧ F1p w wx base G N v n k i) (first | assumption | exact ⟨(by assumption), (by assumption)⟩ | exact HSD.out _ (by assumption) | exact HSD.out _ ⟨(by assumption), (by assumption)⟩ | exact HSL.out _ (by assumption)) ((go_at_call 26; (with_reducible refine (HMB.out _ (by assumption)).mono ?_); rintro e w5 ⟨rfl, hs5⟩; obtain ⟨⟨x0, r0⟩, ⟨x1, r1⟩, ⟨x2, r2⟩, f0, f1, f2, hnx⟩ := HAT.out w5 hs5.2))
          go_wp2
          exact ⟨⟨i + 1, of_decide_eq_true hdi, by go_num, hnx⟩, by have := of_decide_eq_true hdi; simp [intOf]; omega⟩
        · obtain rfl : i = n k := by omega
          have HFN := Lib.hid (HF.out.next hlt)
          have hdi : decide (n k < n k) = false := decide_eq_false (by omega)
          clear HF
          go_wp2
          exact ⟨⟨k + 1, by omega, by go_num, HFN.out⟩, by simp [intOf]; omega⟩
    · obtain rfl : k = N := by omega
      have HF1 : Hid (Rl 22 35 3 w wr base G k v n (fun j => pk (mps j (n j)))) := HF.out.done
      have hdk : decide (k < k) = false := decide_eq_false (by omega)
      obtain ⟨Z, hZ, hz⟩ := run_rowsP k (by have := HN.out; omega) wr
      have HHG : Hid (w.heap.size ≤ wr.heap.size) := HF1.out.bel.size
      have HF2 : Hid (Rl 22 35 3 w (wr.alloc (.cells Z 22)) base G k v n (fun j => pk (mps j (n j))) ∧ Gq 22 35 3 (wr.alloc (.cells Z 22)) wr.heap.size k v (fun j => n j + 64) (fun j => pk (mps j (n j + 64))) 0) :=
        ⟨HF1.out.later ((Below.refl _ _).alloc (Nat.le_refl _) _), ⟨Z, heap_alloc_new _ _, hZ, fun j hj => by omega⟩, by decide⟩
      clear HF HF1 hZ
      go_wp2_with fail
      clear hz
      generalize wr.alloc (.cells Z 22) = w2 at *
      generalize wr.heap.size = H at *
      go_loopw [6] (fun v6 wr => ∃ j : Nat, j ≤ k ∧ v6 = .int .i64 (j : Int) ∧ Rl 22 35 3 w wr base G k v n (fun j => pk (mps j (n j))) ∧ Gq 22 35 3 wr H k v (fun j => n j + 64) (fun j => pk (mps j (n j + 64))) j) (fun v6 _ => (k - intOf v6).toNat)
      case atStart => exact ⟨0, by omega, rfl, HF2.out⟩
      case round =>
        clear HF2
        obtain ⟨j, hj, rfl, hf, hgs⟩ := hrel
        have HF := Lib.hid hf; clear hf
        have HG := Lib.hid hgs; clear hgs
        by_cases hlt : j < k
        · obtain ⟨a, cq, hva⟩ := HVAL.out j hlt
          have hj0 : (0 : Int) ≤ (j : Int) := by omega
          have hjI : (j : Int) < (k : Int) := by omega
          have hdj : decide (j < k) = true := decide_eq_true hlt
          have HJB : Hid (j ≤ 1000) := by have := HN.out; exact (by omega : j ≤ 1000)
          have HNK : Hid (n j ≤ 1000000) := HBD.out j hlt
          have hnkI : ((n j : Nat) : Int) ≤ 1000000 := by have := HNK.out; omega
          have k1 := HF.out.slot hlt
          rw [hva] at k1
          have HK1 : Hid (wr.cell? ⟨G, j, none⟩ = some (.slice a (n j) cq)) := k1
          have HGR0 : Hid (Gr wr wr base 35 3 (v j) (n j) (pk (mps j (n j))) (.slice a (n j) cq) (n j + 0) (pk (mps j (n j + 0)))) := by
            have := Gr.start (HF.out.row j hlt) (Nat.le_trans HF.out.hb HF.out.bel.size)
            unfold Hid
            rw [← hva]
            exact this
          have HGC : Hid (∀ wx, Onl wr wx (fun b => (v j).ownBlock = some b) → wx.cell? ⟨G, j, none⟩ = some (.slice a (n j) cq)) := fun wx ho => (World.cell?_of_block (ho.block G HF.out.gl (fun hb => HF.out.neG hlt hb rfl))).trans HK1.out
          clear hva
          go_wp2_with fail
          clear k1
          generalize wr = wo at *
          go_loopw [7, 8] (fun v7 v8 wr => ∃ i : Nat, i ≤ 64 ∧ v8 = .int .i64 (i : Int) ∧ Gr wo wr base 35 3 (v j) (n j) (pk (mps j (n j))) v7 (n j + i) (pk (mps j (n j + i)))) (fun _ v8 _ => (64 - intOf v8).toNat)
          case atStart => exact ⟨0, by omega, rfl, HGR0.out⟩
          case round =>
            clear HGR0
            obtain ⟨i, hi', rfl, hgr⟩ := hrel
            have HGR := Lib.hid hgr; clear hgr
            have k1 := HGC.out wr HGR.out.onl
            by_cases hil : i < 64
            · obtain ⟨p, hp⟩ : ∃ p, p = Kit.mp j (n j + i) := ⟨_, rfl⟩
              have HMB : Hid (Calls Try.prog 26 #[.int .i64 (j : Nat), .int .i64 (((n j : Nat) : Int) + (i : Int))] wr fun e w' => e = .returned (.agg #[.int .u8 p.c, .int .i64 p.n, .int .i64 p.d]) ∧ Below wr.heap.size wr w') := by
                have := markPiece_any j (n j + i) wr (by have := HJB.out; omega) (by have := HNK.out; omega)
                rw [Int.natCast_add] at this
                exact this.mono fun _ _ ⟨he, hw⟩ => ⟨by rw [he, hp], by rw [hw]; exact (Below.refl _ _).alloc (Nat.le_refl _) _⟩
              have hiI : (i : Int) < 64 := by omega
              have HNKB : Hid (n j + i ≤ 1000064) := by have := HNK.out; exact (by omega : n j + i ≤ 1000064)
              have HEND : Hid (∀ (w4 : World) (v' : Value) (w7 : World), Below wr.heap.size wr w4 → Eith (w4.alloc (.cells #[.int .u8 p.c, .int .i64 p.n, .int .i64 p.d] 35)) w7 base 35 3 u7 (n j + i) v' (n j + i + 1) (pk (mps j (n j + i)) ++ [.int .u8 p.c, .int .i64 p.n, .int .i64 p.d]) → Hid (Gr wo w7 base 35 3 (v j) (n j) (pk (mps j (n j))) v' (n j + (i + 1)) (pk (mps j (n j + (i + 1)))))) := fun w4 v' w7 hb4 hE => by
                have h1 := ((HGR.out.later hb4).later ((Below.refl _ _).alloc (Nat.le_refl _) (.cells #[.int .u8 p.c, .int .i64 p.n, .int .i64 p.d] 35))).app (m := 1) hE
                unfold Hid
                rw [show n j + (i + 1) = n j + i + 1 by omega, mps_succ, pk_app, ← hp]; exact h1
              have HR7 : Hid (∀ w4 o, Below wr.heap.size wr w4 → (w4.alloc o).ownsRow base 35 3 u7 (n j + i) (pk (mps j (n j + i)))) := fun w4 o hb4 => (HGR.out.later hb4).row7.alloc o
              clear HGR HF HG HGC hp
              obtain ⟨c, NN, d⟩ := p
              go_wp2_with fail
              refine HMB.out.mono ?_
              rintro e w4 ⟨rfl, hb4⟩
              have HB4 := Lib.hid hb4; clear hb4 k1
              go_wp2_with (first | (at_builtin; refine wpList_append_either _ rfl (.tmp 57) (.tmp 67) 22 rfl base 35 i0 _ 3 24 (by kernel_rfl) hi hz0 hz1 hz2 rfl (by decide) u7 _ _ rfl (HR7.out _ _ HB4.out) ⟨w4.heap.size, 0, none⟩ 1 1 [.int .u8 c, .int .i64 NN, .int .i64 d] rfl rfl (World.news_of_block (cs := #[.int .u8 c, .int .i64 NN, .int .i64 d]) (heap_alloc_new w4 _)) (by simp [Value.oneCell']) (by omega) (by simp only [maxLen]; have := HNKB.out; omega) (by have := HNKB.out; omega) ?_; intro v7' w7 hE; have H7 := HEND.out w4 v7' w7 HB4.out hE; clear hE))
              exact ⟨⟨i + 1, by omega, by go_num, H7.out⟩, by simp [intOf]; omega⟩
            · obtain rfl : i = 64 := by omega
              obtain ⟨⟨x7, k7⟩, f7, hX1, hX2⟩ := grown_done HF.out HG.out hlt HGR.out rfl rfl (by have := HGW.out; have := HHG.out; omega) (by have := HHG.out; omega)
              obtain ⟨a7, c7, rfl⟩ := own_shape' HGR.out.row7
              have HX : Hid (Rl 22 35 3 w (wr.setCell ⟨H, j, none⟩ (.slice a7 (n j + 64) c7)) base G k v n (fun j => pk (mps j (n j))) ∧ Gq 22 35 3 (wr.setCell ⟨H, j, none⟩ (.slice a7 (n j + 64) c7)) H k v (fun j => n j + 64) (fun j => pk (mps j (n j + 64))) (j + 1)) := ⟨hX1, hX2⟩
              clear hX1 hX2 HGR k1 HF HG HGC
              go_wp2
              exact ⟨⟨j + 1, by omega, by go_num, HX.out⟩, by simp [intOf]; omega⟩
        · obtain rfl : j = k := by omega
          have hdj : decide (j < j) = false := decide_eq_false (by omega)
          go_wp2_with fail
          clear hdj
          generalize wr = w3 at *
          go_loopw [9] (fun v9 wr => ∃ q : Nat, q ≤ j ∧ v9 = .int .i64 (q : Int) ∧ Below w3.heap.size w3 wr) (fun v9 _ => (j - intOf v9).toNat)
          case atStart => exact ⟨0, by omega, rfl, Below.refl _ _⟩
          case round =>
            obtain ⟨q, hq, rfl, hd⟩ := hrel
            have HD := Lib.hid hd; clear hd
            by_cases hlt : q < j
            · obtain ⟨a, cq, hva⟩ := HVAL.out q hlt
              have HQB : Hid (q ≤ 1000) := by have := HN.out; exact (by omega : q ≤ 1000)
              have HNK : Hid (n q ≤ 1000000) := HBD.out q hlt
              have hnkI : ((n q : Nat) : Int) ≤ 1000000 := by have := HNK.out; omega
              have hq0 : (0 : Int) ≤ (q : Int) := by omega
              have hqI : (q : Int) < (j : Int) := by omega
              have hdq : decide (q < j) = true := decide_eq_true hlt
              go_wp2_with fail
              go_loopw [10] (fun v10 wr => ∃ i : Nat, i ≤ n q + 64 ∧ v10 = .int .i64 (i : Int) ∧ Below w3.heap.size w3 wr) (fun v10 _ => (n q + 64 - intOf v10).toNat)
              case atStart => exact ⟨0, by omega, rfl, HD.out⟩
              case round =>
                clear HD
                obtain ⟨i, hi', rfl, hd⟩ := hrel
                have HF5 := HF.out.later hd
                have HG5 := HG.out.later hd
                have HD := Lib.hid hd; clear hd
                obtain ⟨a2, c2, hk2, hb2⟩ := HG5.get hlt
                have k2 : wr.cell? ⟨H, q, none⟩ = some (.slice a2 (n q + 64) c2) := hk2
                have hb2 : wr.ownsRow 0 35 3 (.slice a2 (n q + 64) c2) (n q + 64) (pk (mps q (n q + 64))) := hb2
                have k1 := HF5.slot hlt
                have hb1 : wr.ownsRow base 35 3 (v q) (n q) (pk (mps q (n q))) := HF5.row q hlt
                rw [hva] at k1 hb1
                have HHL : Hid (H < wr.heap.size) := HG5.lt
                have HGL : Hid (G < wr.heap.size) := HF5.gl
                clear hk2 HF5 HG5
                by_cases hil : i < n q + 64
                · obtain ⟨p, hp⟩ : ∃ p, p = Kit.mp q i := ⟨_, rfl⟩
                  obtain ⟨l0, l1, l2⟩ := pk_get _ i _ (mps_get q (n q + 64) i hil)
                  rw [← hp] at l0 l1 l2
                  obtain ⟨s2, rfl, l0, -⟩ := own_cell' hb2 l0
                  obtain ⟨s2', e2, l1, -⟩ := own_cell' hb2 l1
                  cases e2
                  obtain ⟨s2', e2, l2, -⟩ := own_cell' hb2 l2
                  cases e2
                  have hs2 : s2 < wr.heap.size := (own_type' hb2 rfl).2.1
                  have hmp : ∀ m os, Calls Try.prog 26 #[.int .i64 (q : Nat), .int .i64 (i : Nat)] (grow (wr.drewN m) os) fun e w' => e = .returned (.agg #[.int .u8 p.c, .int .i64 p.n, .int .i64 p.d]) ∧ ∃ p : GrownBy, w' = grow (wr.drewN p.n) p.os := fun m os => by
                    rw [hp]; exact markPiece_grown q i wr m os (by have := HQB.out; omega) (by have := HNK.out; omega)
                  have hi0 : (0 : Int) ≤ (i : Int) := by omega
                  have HIL : Hid (i < n q + 64) := hil
                  have hiI : (i : Int) < ((n q + 64 : Nat) : Int) := by omega
                  have hdi : decide (i < n q + 64) = true := decide_eq_true hil
                  have hi6 : (i : Int) ≤ 1000100 := by have := HNK.out; omega
                  have y2 := fun m os => cell_grown (w := wr) (a := ⟨H, q, none⟩) HHL.out k2 m os
                  have y1 := fun m os => cell_grown (w := wr) (a := ⟨G, q, none⟩) HGL.out k1 m os
                  have z0 := fun m os => cell_grown (w := wr) (a := ⟨s2, i * 3, none⟩) hs2 l0 m os
                  have z1 := fun m os => cell_grown (w := wr) (a := ⟨s2, i * 3 + 1, none⟩) hs2 l1 m os
                  have z2 := fun m os => cell_grown (w := wr) (a := ⟨s2, i * 3 + 2, none⟩) hs2 l2 m os
                  clear hb2 l0 l1 l2 hs2
                  by_cases hin : i < n q
                  · obtain ⟨l0, l1, l2⟩ := pk_get _ i _ (mps_get q (n q) i hin)
                    rw [← hp] at l0 l1 l2
                    obtain ⟨s1, rfl, l0, -⟩ := own_cell' hb1 l0
                    obtain ⟨s1', e2, l1, -⟩ := own_cell' hb1 l1
                    cases e2
                    obtain ⟨s1', e2, l2, -⟩ := own_cell' hb1 l2
                    cases e2
                    have hs1 : s1 < wr.heap.size := (own_type' hb1 rfl).2.1
                    have x0 := fun m os => cell_grown (w := wr) (a := ⟨s1, i * 3, none⟩) hs1 l0 m os
                    have x1 := fun m os => cell_grown (w := wr) (a := ⟨s1, i * 3 + 1, none⟩) hs1 l1 m os
                    have x2 := fun m os => cell_grown (w := wr) (a := ⟨s1, i * 3 + 2, none⟩) hs1 l2 m os
                    have hdn : decide (i < n q) = true := decide_eq_true hin
                    have hinI : (i : Int) < ((n q : Nat) : Int) := by omega
                    clear hb1 l0 l1 l2 hs1 hin hva hil hp
                    obtain ⟨c, NN, d⟩ := p
                    generalize hNQ : n q + 64 = nq64 at *
                    have HNQ := Lib.hid hNQ; clear hNQ
                    generalize hNN : n q = nn at k1 y1 hdn hinI hnkI ⊢
                    have HNN := Lib.hid hNN; clear hNN
                    go_wp2_with fail
                    refine wp_region_quiet_grown (by assumption) (by kernel_rfl) ?_
                    repeat (go_big_quiet_step (first | (go_at_call 26; refine hmp _ _)))
                    refine wpQuiet_nil ?_
                    intro _ hw'
                    obtain ⟨⟨nq, osq⟩, hw''⟩ := hw'
                    subst hw''
                    go_wp2
                    exact ⟨⟨i + 1, of_decide_eq_true hdi, by go_num, HD.out.trans ((below_grow wr nq osq).mono HD.out.size)⟩, by have := of_decide_eq_true hdi; have := HNQ.out; have := HNN.out; simp [intOf]; omega⟩
                  · have hdn : decide (i < n q) = false := decide_eq_false hin
                    clear hb1 hin hva hil hp
                    obtain ⟨c, NN, d⟩ := p
                    generalize hNQ : n q + 64 = nq64 at *
                    have HNQ := Lib.hid hNQ; clear hNQ
                    generalize hNN : n q = nn at k1 y1 hdn hnkI ⊢
                    have HNN := Lib.hid hNN; clear hNN
                    go_wp2_with fail
                    refine wp_region_quiet_grown (by assumption) (by kernel_rfl) ?_
                    repeat (go_big_quiet_step (first | (go_at_call 26; refine hmp _ _)))
                    refine wpQuiet_nil ?_
                    intro _ hw'
                    obtain ⟨⟨nq, osq⟩, hw''⟩ := hw'
                    subst hw''
                    go_wp2
                    exact ⟨⟨i + 1, of_decide_eq_true hdi, by go_num, HD.out.trans ((below_grow wr nq osq).mono HD.out.size)⟩, by have := of_decide_eq_true hdi; have := HNQ.out; have := HNN.out; simp [intOf]; omega⟩
                · obtain rfl : i = n q + 64 := by omega
                  have hdi : decide (n q + 64 < n q + 64) = false := decide_eq_false (by omega)
                  clear hb1 hb2
                  generalize n q + 64 = nq64 at *
                  go_wp2
                  exact ⟨⟨q + 1, by omega, by go_num, HD.out⟩, by simp [intOf]; omega⟩
            · obtain rfl : q = j := by omega
              have hdq : decide (q < q) = false := decide_eq_false (by omega)
              have HF3 : Hid (Rl 22 35 3 w wr base G q v n (fun j => pk (mps j (n j))) ∧ Gq 22 35 3 wr H q v (fun j => n j + 64) (fun j => pk (mps j (n j) ++ mps (j + q) 64)) 0) := ⟨HF.out.later HD.out, (HG.out.later HD.out).zero⟩
              clear HF HG HD
              go_wp2_with fail
              clear hdq
              go_loopw [11] (fun v11 wr => ∃ k : Nat, k ≤ q ∧ v11 = .int .i64 (k : Int) ∧ Rl 22 35 3 w wr base G q v n (fun j => pk (mps j (n j))) ∧ Gq 22 35 3 wr H q v (fun j => n j + 64) (fun j => pk (mps j (n j) ++ mps (j + q) 64)) k) (fun v11 _ => (q - intOf v11).toNat)
              case atStart => exact ⟨0, by omega, rfl, HF3.out⟩
              case round =>
                clear HF3
                obtain ⟨k, hk, rfl, hf, hgs⟩ := hrel
                have HF := Lib.hid hf; clear hf
                have HG := Lib.hid hgs; clear hgs
                by_cases hlt : k < q
                · obtain ⟨a, cq, hva⟩ := HVAL.out k hlt
                  have hk0 : (0 : Int) ≤ (k : Int) := by omega
                  have hkI : (k : Int) < (q : Int) := by omega
                  have hdk : decide (k < q) = true := decide_eq_true hlt
                  have HKB : Hid (k ≤ 1000 ∧ q ≤ 1000) := by have := HN.out; exact ⟨by omega, by omega⟩
                  have HNK : Hid (n k ≤ 1000000) := HBD.out k hlt
                  have hnkI : ((n k : Nat) : Int) ≤ 1000000 := by have := HNK.out; omega
                  have k1 := HF.out.slot hlt
                  rw [hva] at k1
                  have HGR0 : Hid (Gr wr wr base 35 3 (v k) (n k) (pk (mps k (n k))) (.slice a (n k) cq) (n k) (pk (mps k (n k)))) := by
                    have := Gr.start (HF.out.row k hlt) (Nat.le_trans HF.out.hb HF.out.bel.size)
                    unfold Hid
                    rw [← hva]
                    exact this
                  have HGL := Lib.hid HF.out.gl
                  have HK1 : Hid (wr.cell? ⟨G, k, none⟩ = some (.slice a (n k) cq)) := k1
                  obtain ⟨C64, hC64, hz64⟩ := run_64p
                  obtain ⟨O, hO⟩ : ∃ O : Obj, O = .cells C64 35 := ⟨_, rfl⟩
                  rw [← hO] at hz64
                  clear hva k1
                  have HM0 : Hid (Mp wr (wr.alloc O) wr.heap.size (k + q) 0) :=
                    ⟨(Below.refl _ _).alloc (Nat.le_refl _) _, by simp, C64, by rw [hO]; exact heap_alloc_new _ _, hC64, fun t ht => by omega⟩
                  clear hC64
                  clear hO
                  go_wp2_with fail
                  clear hz64
                  generalize wr.alloc O = wm at *
                  generalize wr = wo at *
                  obtain ⟨M, hM⟩ : ∃ M, wo.heap.size = M := ⟨_, rfl⟩
                  rw [hM] at HM0
                  rw [hM]
                  have HMM := Lib.hid hM; clear hM
                  go_loopw [13] (fun v13 wr => ∃ i : Nat, i ≤ 64 ∧ v13 = .int .i64 (i : Int) ∧ Mp wo wr M (k + q) i) (fun v13 _ => (64 - intOf v13).toNat)
                  case atStart => exact ⟨0, by omega, rfl, HM0.out⟩
                  case round =>
                    clear HM0
                    obtain ⟨i, hi', rfl, hmr⟩ := hrel
                    have HMR := Lib.hid hmr; clear hmr
                    by_cases hil : i < 64
                    · obtain ⟨p, hp⟩ : ∃ p, p = Kit.mp (k + q) i := ⟨_, rfl⟩
                      have HMB : Hid (Calls Try.prog 26 #[.int .i64 ((k : Int) + (q : Int)), .int .i64 (i : Nat)] wr fun e w' => e = .returned (.agg #[.int .u8 p.c, .int .i64 p.n, .int .i64 p.d]) ∧ Mp wo w' M (k + q) i) := by
                        have := markPiece_any (k + q) i wr (by have := HKB.out; omega) (by omega)
                        rw [Int.natCast_add] at this
                        exact this.mono fun _ _ ⟨he, hw⟩ => ⟨by rw [he, hp], by rw [hw]; exact HMR.out.alloc _⟩
                      have hiI : (i : Int) < 64 := by omega
                      have hi0 : (0 : Int) ≤ (i : Int) := by omega
                      have hq3 : (q : Int) ≤ 1000 := by have := HKB.out; omega
                      have HPP := Lib.hid hp
                      clear HMR hp
                      go_wp2_with fail
                      refine HMB.out.mono ?_
                      rintro e w4 ⟨rfl, hm4⟩
                      obtain ⟨⟨x0, r0⟩, ⟨x1, r1⟩, ⟨x2, r2⟩, f0, f1, f2, hnx⟩ := hm4.room hil
                      have HNX := Lib.hid (hnx p HPP.out); clear hnx hm4
                      obtain ⟨c, NN, d⟩ := p
                      go_wp2
                      exact ⟨⟨i + 1, by omega, by go_num, HNX.out⟩, by simp [intOf]; omega⟩
                    · obtain rfl : i = 64 := by omega
                      have hmd := HMR.out.done
                      have HB : Hid (Below wo.heap.size wo wr) := by rw [HMM.out]; exact HMR.out.bel
                      have k1 := (HB.out.cell (p := ⟨G, k, none⟩) HGL.out).trans HK1.out
                      have HGR := Lib.hid (HGR0.out.later HB.out)
                      have HNEW : Hid (∀ t u, (pk (mps (k + q) 64))[t]? = some u → wr.cell? ((⟨M, 0, none⟩ : Addr).add t) = some u) := World.news_of_block (cs := (pk (mps (k + q) 64)).toArray) hmd
                      have HLEN : Hid ((pk (mps (k + q) 64)).length = 64 * 3) := by show (pk (mps (k + q) 64)).length = 64 * 3; rw [pk_length, mps_length]
                      have HS7 : Hid (∀ (v7 : Value) (w7 : World), Eith wr w7 base 35 3 (.slice a (n k) cq) (n k) v7 (n k + 64) (pk (mps k (n k)) ++ pk (mps (k + q) 64)) → ∃ a7 c7 x, v7 = .slice a7 (n k + 64) c7 ∧ w7.cell? ⟨H, k, none⟩ = some x ∧ w7.frozen? ⟨H, k, none⟩ = false ∧
                          Hid (Rl 22 35 3 w (w7.setCell ⟨H, k, none⟩ (.slice a7 (n k + 64) c7)) base G q v n (fun j => pk (mps j (n j))) ∧ Gq 22 35 3 (w7.setCell ⟨H, k, none⟩ (.slice a7 (n k + 64) c7)) H q v (fun j => n j + 64) (fun j => pk (mps j (n j) ++ mps (j + q) 64)) (k + 1))) := by
                        intro v7 w7 hE
                        have h1 := HGR.out.app (m := 64) hE
                        obtain ⟨⟨x7, k7⟩, f7, hX1, hX2⟩ := grown_done HF.out HG.out hlt h1 rfl (by rw [pk_app]) (by have := HGW.out; have := HHG.out; omega) (by have := HHG.out; omega)
                        obtain ⟨a7, c7, rfl⟩ := own_shape' h1.row7
                        exact ⟨a7, c7, x7, rfl, k7, f7, hX1, hX2⟩
                      have HR7 := Lib.hid HGR.out.row7
                      clear hmd HB HMR HGR HGR0 HF HG
                      go_wp2_with (first | (at_builtin; refine wpList_append_either _ rfl (.tmp 148) (.tmp 149) 22 rfl base 35 i0 _ 3 24 (by kernel_rfl) hi hz0 hz1 hz2 rfl (by decide) (.slice a (n k) cq) (n k) (pk (mps k (n k))) rfl HR7.out ⟨M, 0, none⟩ 64 64 (pk (mps (k + q) 64)) rfl HLEN.out HNEW.out (pk_one _) (by omega) (by simp only [maxLen]; have := HNK.out; omega) (by have := HNK.out; omega) ?_; intro v7' w7 hE; obtain ⟨a7, c7, x7, rfl, k7, f7, H7⟩ := HS7.out v7' w7 hE; clear hE))
                      exact ⟨⟨k + 1, by omega, by go_num, H7.out⟩, by simp [intOf]; omega⟩
                · obtain rfl : k = q := by omega
                  have hdk : decide (k < k) = false := decide_eq_false (by omega)
                  go_wp2_with fail
                  clear hdk
                  generalize wr = w5 at *
                  go_loopw [14] (fun v14 wr => ∃ q : Nat, q ≤ k ∧ v14 = .int .i64 (q : Int) ∧ Below w5.heap.size w5 wr) (fun v14 _ => (k - intOf v14).toNat)
                  case atStart => exact ⟨0, by omega, rfl, Below.refl _ _⟩
                  case round =>
                    obtain ⟨q, hq, rfl, hd⟩ := hrel
                    have HD := Lib.hid hd; clear hd
                    by_cases hlt : q < k
                    · obtain ⟨a, cq, hva⟩ := HVAL.out q hlt
                      have HQB : Hid (q ≤ 1000) := by have := HN.out; exact (by omega : q ≤ 1000)
                      have HNK : Hid (n q ≤ 1000000) := HBD.out q hlt
                      have hnkI : ((n q : Nat) : Int) ≤ 1000000 := by have := HNK.out; omega
                      have hq0 : (0 : Int) ≤ (q : Int) := by omega
                      have hqI : (q : Int) < (k : Int) := by omega
                      have hdq : decide (q < k) = true := decide_eq_true hlt
                      go_wp2_with fail
                      go_loopw [15] (fun v15 wr => ∃ i : Nat, i ≤ n q ∧ v15 = .int .i64 (i : Int) ∧ Below w5.heap.size w5 wr) (fun v15 _ => (n q - intOf v15).toNat)
                      case atStart => exact ⟨0, by omega, rfl, HD.out⟩
                      case round =>
                        clear HD
                        obtain ⟨i, hi', rfl, hd⟩ := hrel
                        have HF5 := HF.out.later hd
                        have HG5 := HG.out.later hd
                        have HD := Lib.hid hd; clear hd
                        obtain ⟨a2, c2, hk2, hb2⟩ := HG5.get hlt
                        have k2 : wr.cell? ⟨H, q, none⟩ = some (.slice a2 (n q + 64) c2) := hk2
                        have hb2 : wr.ownsRow 0 35 3 (.slice a2 (n q + 64) c2) (n q + 64) (pk (mps q (n q) ++ mps (q + k) 64)) := hb2
                        have k1 := HF5.slot hlt
                        have hb1 : wr.ownsRow base 35 3 (v q) (n q) (pk (mps q (n q))) := HF5.row q hlt
                        rw [hva] at k1 hb1
                        have HHL : Hid (H < wr.heap.size) := HG5.lt
                        have HGL : Hid (G < wr.heap.size) := HF5.gl
                        clear hk2 HF5 HG5
                        by_cases hil : i < n q
                        · obtain ⟨p, hp⟩ : ∃ p, p = Kit.mp q i := ⟨_, rfl⟩
                          have hget : (mps q (n q) ++ mps (q + k) 64)[i]? = some (Kit.mp q i) := by rw [List.getElem?_append_left (by rw [mps_length]; exact hil)]; exact mps_get q (n q) i hil
                          obtain ⟨l0, l1, l2⟩ := pk_get _ i _ hget
                          rw [← hp] at l0 l1 l2
                          obtain ⟨s2, rfl, l0, -⟩ := own_cell' hb2 l0
                          obtain ⟨s2', e2, l1, -⟩ := own_cell' hb2 l1
                          cases e2
                          obtain ⟨s2', e2, l2, -⟩ := own_cell' hb2 l2
                          cases e2
                          have hs2 : s2 < wr.heap.size := (own_type' hb2 rfl).2.1
                          have hmp : ∀ m os, Calls Try.prog 26 #[.int .i64 (q : Nat), .int .i64 (i : Nat)] (grow (wr.drewN m) os) fun e w' => e = .returned (.agg #[.int .u8 p.c, .int .i64 p.n, .int .i64 p.d]) ∧ ∃ p : GrownBy, w' = grow (wr.drewN p.n) p.os := fun m os => by
                            rw [hp]; exact markPiece_grown q i wr m os (by have := HQB.out; omega) (by have := HNK.out; omega)
                          have y2 := fun m os => cell_grown (w := wr) (a := ⟨H, q, none⟩) HHL.out k2 m os
                          have y1 := fun m os => cell_grown (w := wr) (a := ⟨G, q, none⟩) HGL.out k1 m os
                          have z0 := fun m os => cell_grown (w := wr) (a := ⟨s2, i * 3, none⟩) hs2 l0 m os
                          have z1 := fun m os => cell_grown (w := wr) (a := ⟨s2, i * 3 + 1, none⟩) hs2 l1 m os
                          have z2 := fun m os => cell_grown (w := wr) (a := ⟨s2, i * 3 + 2, none⟩) hs2 l2 m os
                          clear hb2 l0 l1 l2 hs2 hget
                          obtain ⟨l0, l1, l2⟩ := pk_get _ i _ (mps_get q (n q) i hil)
                          rw [← hp] at l0 l1 l2
                          obtain ⟨s1, rfl, l0, -⟩ := own_cell' hb1 l0
                          obtain ⟨s1', e2, l1, -⟩ := own_cell' hb1 l1
                          cases e2
                          obtain ⟨s1', e2, l2, -⟩ := own_cell' hb1 l2
                          cases e2
                          have hs1 : s1 < wr.heap.size := (own_type' hb1 rfl).2.1
                          have x0 := fun m os => cell_grown (w := wr) (a := ⟨s1, i * 3, none⟩) hs1 l0 m os
                          have x1 := fun m os => cell_grown (w := wr) (a := ⟨s1, i * 3 + 1, none⟩) hs1 l1 m os
                          have x2 := fun m os => cell_grown (w := wr) (a := ⟨s1, i * 3 + 2, none⟩) hs1 l2 m os
                          have hi0 : (0 : Int) ≤ (i : Int) := by omega
                          have hiI : (i : Int) < ((n q : Nat) : Int) := by omega
                          have hi64 : (i : Int) < ((n q + 64 : Nat) : Int) := by omega
                          have hdi : decide (i < n q) = true := decide_eq_true hil
                          have hdi2 : decide (i < n q + 64) = true := decide_eq_true (by omega)
                          clear hb1 l0 l1 l2 hs1 hva hil hp
                          obtain ⟨c, NN, d⟩ := p
                          generalize n q + 64 = nq64 at k2 y2 hi64 hdi2
                          generalize hNN : n q = nn at k1 y1 hiI hdi hnkI ⊢
                          have HNN := Lib.hid hNN; clear hNN
                          go_wp2_with fail
                          refine wp_region_quiet_grown (by assumption) (by kernel_rfl) ?_
                          repeat (go_big_quiet_step (first | (go_at_call 26; refine hmp _ _)))
                          refine wpQuiet_nil ?_
                          intro _ hw'
                          obtain ⟨⟨nq, osq⟩, hw''⟩ := hw'
                          subst hw''
                          go_wp2
                          exact ⟨⟨i + 1, of_decide_eq_true hdi, by go_num, HD.out.trans ((below_grow wr nq osq).mono HD.out.size)⟩, by have := of_decide_eq_true hdi; simp [intOf]; omega⟩
                        · obtain rfl : i = n q := by omega
                          have hdi : decide (n q < n q) = false := decide_eq_false (by omega)
                          clear hb1 hb2 k2
                          generalize n q = nn at *
                          go_wp2
                          exact ⟨⟨q + 1, by omega, by go_num, HD.out⟩, by simp [intOf]; omega⟩
                    · obtain rfl : q = k := by omega
                      have hdq : decide (q < q) = false := decide_eq_false (by omega)
                      have HE := Lib.hid (HF.out.bel.later HD.out)
                      go_wp2
                      go_ret
                      exact ⟨rfl, HE.out⟩
end Go.Proofs.Ytiglbjfieeicpaa
