/- The walk of the law ShaParts. -/
import Derived.Test.YtodahmmebikddaaDoorKitLent
import Derived.Test.YtodahmmebikddaaDoorShaTwoW
import Derived.StillTailTactics
import Derived.Deep.RegionHeld3
namespace Go.Proofs.YtodahmmebikddaaDoor
open Go.RowKit Go

theorem Smd.keep {w w' : World} {b : Nat} {T : List Int} {C : Array Value} {r : Option Nat} (h : Smd w b T C) (g : w.grownBy w' r) (hr : some b ≠ r) : Smd w' b T C :=
  ⟨(g.block b (lt_of_block h.blk) hr).trans h.blk, h.self, h.done, h.summed, h.dig⟩

/-- a hash that has taken T, and a list of the call's own that has S -/
structure Prt (w wi : World) (x : Nat) (T S : List Int) (v : Value) : Prop where
  bel : Below w.heap.size w wi
  bx : w.heap.size ≤ x
  hx : ∃ C, Hsh wi x T C
  own : wi.ownsRow (x + 1) 5 1 v S.length (k8 S)

theorem prt_step {w wi : World} {x : Nat} {T S : List Int} {v : Value} (h : Prt w wi x T S v) (B : List Int) (a : Option Addr) (n cap : Nat) (hn : n = B.length) (hB : BytesIn w (.slice a n cap) B (fun _ => True)) (hBb : ∀ z ∈ B, 0 ≤ z ∧ z < 256) (hna : a = none → cap = 0)
    (hT : ∀ z ∈ T, 0 ≤ z ∧ z < 256) (hl : T.length + B.length ≤ 1000000) (h0w : 0 < w.heap.size) (hG : ∀ j, j < 64 → w.cell? ⟨0, j, none⟩ = some (.int .u32 (Sha.kk j))) :
    Calls Tryd.prog 9 #[.slice a n cap] wi fun e w2 => ∃ v2, e = .returned v2 ∧ Hid (
      Calls Tryd.prog 14 #[.pointer (some ⟨x, 0, none⟩), v2] w2 fun e w3 => e = .returned (.int .i64 0) ∧ Hid (Below w.heap.size w w3) ∧ Hid (
        Calls Tryd.prog 12 #[v2, .slice a n cap] w3 fun e w4 => e = .returned (.bool true) ∧ Hid (
          Calls Tryd.prog 17 #[v2] w4 fun e w5 => e = .returned (.tuple #[]) ∧ Hid (Prt w w5 x (T ++ B) S v)))) := by
  obtain ⟨C, hC⟩ := h.hx
  have hxw := lt_of_block hC.blk
  have hol := h.own.lt
  refine (lent_any B a n cap wi hn (later_bytes h.bel hB) hna (by omega)).mono ?_
  rintro e w2 ⟨v2, g, he, hv, hg, hb2⟩
  refine ⟨v2, he, ?_⟩
  have c2 : Below w.heap.size w w2 := h.bel.trans (hb2.mono h.bel.size)
  have hgw : g < w2.heap.size := by obtain ⟨_, _, _, _, _, hh, _⟩ := hv.blk; exact lt_of_block hh
  refine (write_any x T B C v2 w2 (hC.keep (gb_below hb2 none) (by simp)) hT hBb (by have := h.bx; omega) (hv.bytes.mono (Nat.le_refl _) (fun s _ hs => by omega) (fun _ _ _ _ => rfl)) (by omega) (fun j hj => (c2.cell (by exact h0w)).trans (hG j hj))).mono ?_
  rintro e w3 ⟨he3, hg3, C3, hC3⟩
  have c3 : Below w.heap.size w w3 := below_of_gb c2 hg3 h.bx c2.size
  refine ⟨he3, c3, ?_⟩
  have v3 := hv.keep (hg3.block g hgw (by simp; omega))
  refine (kept_any B g v2 a n cap w3 hn (later_bytes c3 hB) (by omega) v3).mono ?_
  rintro e w4 ⟨he4, hd4⟩
  refine ⟨he4, ?_⟩
  have c4 : Below w.heap.size w w4 := c3.trans (hd4.below _)
  refine (over_core B _ g v2 w4 (by omega) (v3.keep (by rw [hd4.heap]))).mono ?_
  rintro e w5 ⟨he5, hg5⟩
  refine ⟨he5, below_of_gb c4 hg5 (by have := h.bel.size; omega) c4.size, h.bx, ⟨C3, (hC3.keep (hd4.grown none) (by simp)).keep hg5 (by simp; omega)⟩, ?_⟩
  have ne : ∀ k : Nat, (k = x ∨ wi.heap.size ≤ k) → v.ownBlock ≠ some k := fun k hk e => by have := hol k e; omega
  exact (((h.own.kept (gb_below hb2 none) (by cases hv : v.ownBlock <;> simp)).kept hg3 (.inr (ne x (.inl rfl)))).kept (hd4.grown none) (by cases hv : v.ownBlock <;> simp)).kept hg5 (.inr (ne g (.inr hg)))

/-- the end: the hash is summed, its digest is kept in a block of its own -/
structure Fin3 (w wx : World) (x gk : Nat) (T K : List Int) (v : Value) : Prop where
  bel : Below w.heap.size w wx
  bx : w.heap.size ≤ x
  xg : x < gk
  smd : ∃ C, Smd wx x K C
  own : wx.ownsRow (x + 1) 5 1 v T.length (k8 T)
  key : wx.heap[gk]? = some (.cells (k8 K).toArray 26 (0, 0))
theorem Fin3.range {w wx : World} {x gk : Nat} {T K : List Int} {v : Value} (h : Fin3 w wx x gk T K v) : wx.rangeAt gk 0 (k8 K) := fun j u hj => by
  rw [cell_of_row _ _ _ _ _ _ h.key, Nat.zero_add, List.getElem?_toArray]; exact hj
theorem Fin3.keep {w wx wy : World} {x gk : Nat} {T K : List Int} {v : Value} (h : Fin3 w wx x gk T K v) (hb : Below wx.heap.size wx wy) : Fin3 w wy x gk T K v := by
  obtain ⟨C, hC⟩ := h.smd
  exact ⟨h.bel.trans (hb.mono h.bel.size), h.bx, h.xg, ⟨C, hC.keep (gb_below hb none) (by simp)⟩, h.own.kept (gb_below hb none) (by cases hv : v.ownBlock <;> simp), (hb.block gk (lt_of_block h.key)).trans h.key⟩
theorem Fin3.drew {w wx : World} {x gk : Nat} {T K : List Int} {v : Value} (h : Fin3 w wx x gk T K v) : Fin3 w wx.drew x gk T K v := h.keep ⟨rfl, rfl, rfl, Nat.le_refl _, fun _ _ => rfl⟩

theorem fin_sum {w wx : World} {x gk : Nat} {T K : List Int} {v : Value} (hK : K = Sha.digest T) (hT : ∀ z ∈ T, 0 ≤ z ∧ z < 256) (hl : T.length ≤ 1000000) (h0w : 0 < w.heap.size) (hG : ∀ j, j < 64 → w.cell? ⟨0, j, none⟩ = some (.int .u32 (Sha.kk j)))
    (h : Fin3 w wx x gk T K v) : Calls Tryd.prog 10 #[v] wx fun e w' => e = .returned (.agg (k8 K).toArray) ∧ Fin3 w w' x gk T K v := by
  refine (sum_later (w := w) T v h.bel hT _ (own_bytes h.own) (by omega) h0w hG).mono ?_
  rintro e w3 ⟨he3, hb3⟩
  exact ⟨by rw [hK]; exact he3, h.keep hb3.out⟩
theorem fin_write {w wx : World} {x gk : Nat} {T K : List Int} {v : Value} (h : Fin3 w wx x gk T K v) : Calls Tryd.prog 14 #[.pointer (some ⟨x, 0, none⟩), v] wx fun e w' => e = .returned (.int .i64 8) ∧ Fin3 w w' x gk T K v := by
  obtain ⟨C, hC⟩ := h.smd
  refine (write_summed x _ C v wx hC).mono ?_
  rintro e w4 ⟨he4, rfl⟩
  exact ⟨he4, h⟩
theorem fin_again {w wx : World} {x gk : Nat} {T K : List Int} {v : Value} (hKL : K.length = 32) (h : Fin3 w wx x gk T K v) : Calls Tryd.prog 15 #[.pointer (some ⟨x, 0, none⟩)] wx fun e w' => e = .returned (.agg (k8 K).toArray) ∧ Fin3 w w' x gk T K v := by
  obtain ⟨C, hC⟩ := h.smd
  have hol := h.own.lt
  refine (sum_again x _ C wx hC hKL).mono ?_
  rintro e w5 ⟨he5, hg5, hs5⟩
  have := h.xg
  exact ⟨he5, below_of_gb h.bel hg5 h.bx h.bel.size, h.bx, h.xg, hs5, h.own.kept hg5 (.inr fun e => by have := hol x e; omega), (hg5.block gk (lt_of_block h.key) (by simp; omega)).trans h.key⟩
theorem prt_first {w wi : World} {x : Nat} {T K : List Int} {v : Value} (hK : K = Sha.digest T) (h : Prt w wi x T T v) (hT : ∀ z ∈ T, 0 ≤ z ∧ z < 256) (hl : T.length ≤ 1000000) (h0w : 0 < w.heap.size) (hG : ∀ j, j < 64 → w.cell? ⟨0, j, none⟩ = some (.int .u32 (Sha.kk j))) :
    Calls Tryd.prog 15 #[.pointer (some ⟨x, 0, none⟩)] wi fun e w2 => e = .returned (.agg (k8 K).toArray) ∧ Hid (∀ (o : Array Value) w3, (w2.alloc (.cells o 26)).grownBy w3 (some w2.heap.size) → w3.heap[w2.heap.size]? = some (.cells (k8 K).toArray 26 (0, 0)) → Fin3 w w3 x w2.heap.size T K v) := by
  obtain ⟨C, hC⟩ := h.hx
  have hol := h.own.lt
  refine (sum_first x T C wi hC hT (by have := h.bx; omega) (by omega) (fun j hj => (h.bel.cell (by exact h0w)).trans (hG j hj))).mono ?_
  rintro e w2 ⟨he, hg2, C2, hs2⟩
  refine ⟨by rw [hK]; exact he, fun o w3 hg3 hk => ?_⟩
  have c2 : Below w.heap.size w w2 := below_of_gb h.bel hg2 h.bx h.bel.size
  have hx2 : x < w2.heap.size := lt_of_block hs2.blk
  have o2 := h.own.kept hg2 (.inr fun e => by have := hol x e; omega)
  have hol2 := o2.lt
  refine ⟨below_of_gb (c2.alloc c2.size _) hg3 c2.size (by have := c2.size; simp; omega), h.bx, hx2, ⟨C2, ?_⟩, (o2.alloc _).kept hg3 (.inr fun e => by have := hol2 _ e; omega), hk⟩
  rw [hK]
  exact (hs2.keep (World.grownBy_alloc w2 _ none) (by simp)).keep hg3 (by simp; omega)

set_option maxRecDepth 100000 in
set_option maxHeartbeats 2000000 in
theorem parts_walk (a : Option Addr) (n cap : Nat) (R : Nat → List Int) (A : Nat → Option Addr) (C : Nat → Nat) (w : World) (h0w : 0 < w.heap.size) (hG : ∀ j, j < 64 → w.cell? ⟨0, j, none⟩ = some (.int .u32 (Sha.kk j)))
    (hrow : ∀ r, r < n → ∃ s o, a = some ⟨s, o, none⟩ ∧ s < w.heap.size ∧ w.cell? ⟨s, o + r, none⟩ = some (.slice (A r) (R r).length (C r)) ∧ BytesIn w (.slice (A r) (R r).length (C r)) (R r) (fun _ => True) ∧ (∀ z ∈ R r, 0 ≤ z ∧ z < 256) ∧ (A r = none → C r = 0)) :
    Calls Tryd.prog 6 #[.slice a n cap] w fun e w' => e = .returned (.bool true) ∧ Below w.heap.size w w' := by
  have HAW := Lib.hid (awake_any w h0w hG)
  have HG := Lib.hid hG; clear hG
  by_cases hn : n ≤ 60
  · have hn' : (n : Int) ≤ 60 := by omega
    go_enter Tryd.func6, Tryd.ntmps6
    go_wp2_with fail
    refine HAW.out.mono ?_
    rintro e w1 ⟨rfl, hb1⟩
    have HB1 := Lib.hid hb1; clear hb1 HAW
    go_wp2_with fail
    refine (new_raw _).mono ?_
    rintro e w2 ⟨rfl, hw2⟩
    go_wp2_with fail
    have HP0 : Hid (Prt w w2 w1.heap.size ((List.range 0).flatMap R) ((List.range 0).flatMap R) (.slice none 0 0) ∧ ((List.range 0).flatMap R).length ≤ 300 * 0 ∧ ∀ z ∈ (List.range 0).flatMap R, 0 ≤ z ∧ z < 256) := by
      rw [hw2]
      exact ⟨⟨HB1.out.alloc HB1.out.size _, HB1.out.size, ⟨_, hsh_new w1⟩, ⟨rfl, .inl ⟨rfl, rfl⟩⟩⟩, by simp, by simp⟩
    rw [← hw2]
    clear hw2 HB1
    generalize w1.heap.size = x at *
    have HR := Lib.hid hrow; clear hrow
    go_loopw [4, 5] (fun v4 v5 wr => ∃ i : Nat, i ≤ n ∧ v5 = .int .i64 (i : Int) ∧ Prt w wr x ((List.range i).flatMap R) ((List.range i).flatMap R) v4 ∧ ((List.range i).flatMap R).length ≤ 300 * i ∧ ∀ z ∈ (List.range i).flatMap R, 0 ≤ z ∧ z < 256)
      (fun _ v5 _ => (n - intOf v5).toNat)
    case atStart => exact ⟨0, by omega, rfl, HP0.out⟩
    case round =>
      clear HP0
      obtain ⟨i, hi, rfl, hp, hlen, hbd⟩ := hrel
      have HP := Lib.hid hp; clear hp
      have HLN := Lib.hid hlen; clear hlen
      have HBD := Lib.hid hbd; clear hbd
      by_cases hlt : i < n
      · obtain ⟨s, o, rfl, hsw, hcell, hB, hBb, hna⟩ := HR.out i hlt
        have hcw : ∀ wx, Below w.heap.size w wx → wx.cell? ⟨s, o + i, none⟩ = some (.slice (A i) (R i).length (C i)) := fun wx hb => (hb.cell (by exact hsw)).trans hcell
        have HCW := Lib.hid hcw; clear hcw hcell
        have hc0 := HCW.out _ HP.out.bel
        obtain ⟨L, hL⟩ : ∃ L, (R i).length = L := ⟨_, rfl⟩
        by_cases hL3 : L ≤ 300
        · have HSTEP := Lib.hid (prt_step HP.out (R i) (A i) _ (C i) rfl hB hBb hna HBD.out (by have := HLN.out; omega) h0w HG.out)
          rw [hL] at hc0 HCW HSTEP hB
          have HB := Lib.hid hB; clear hB
          have HL := Lib.hid hL; clear hL
          have HBB := Lib.hid hBb; clear hBb
          have HNA := Lib.hid hna; clear hna
          clear HP HR
          go_wp2_with fail
          refine HSTEP.out.mono ?_
          rintro e w2 ⟨v2, rfl, k2⟩
          clear HSTEP hc0
          go_wp2_with fail
          refine k2.out.mono ?_
          rintro e w3 ⟨rfl, b3, k3⟩
          have hc3 := HCW.out _ b3.out
          clear k2 b3
          go_wp2_with fail
          refine k3.out.mono ?_
          rintro e w4 ⟨rfl, k4⟩
          clear k3 hc3
          go_wp2_with fail
          refine k4.out.mono ?_
          rintro e w5 ⟨rfl, k5⟩
          clear k4
          have hc5 := HCW.out _ k5.out.bel
          go_wp2_with (at_builtin; refine wpList_append_bytes_b rfl (.tmp 46) (.tmp 50) rfl (x + 1) _ _ _ rfl k5.out.own _ (R i) (fun _ => True) rfl (later_bytes k5.out.bel HB.out) (fun n' c' e => by injection e with e1 e2 e3; rw [← e3]; exact HNA.out e1) (by have := HLN.out; have := HL.out; omega) (Below.refl _ _) (by obtain ⟨C, hC⟩ := k5.out.hx; have := lt_of_block hC.blk; omega) ?_; intro v6 w6 o6 b6)
          go_roundw
          case rel =>
            have e1 : (List.range (i + 1)).flatMap R = (List.range i).flatMap R ++ R i := by rw [List.range_succ, List.flatMap_append]; simp
            have hw6 : Below w.heap.size w w6 := k5.out.bel.trans (b6.out.mono (by have := k5.out.bx; omega))
            refine ⟨i + 1, by omega, by congr 1, ?_, ?_, ?_⟩
            · rw [e1]
              obtain ⟨C5, hC5⟩ := k5.out.hx
              refine ⟨hw6, k5.out.bx, ⟨C5, (b6.out.block x (by omega)).trans hC5.blk, hC5.abs, hC5.self, hC5.done, hC5.lock, hC5.summed, hC5.len⟩, ?_⟩
              have := o6.out
              rw [← k8_app, ← List.length_append] at this
              exact this
            · rw [e1, List.length_append]; have := HLN.out; have := HL.out; omega
            · rw [e1]; exact fun z hz => (List.mem_append.1 hz).elim (HBD.out z) (HBB.out z)
          case measure => simp [intOf]; omega
        · rw [hL] at hc0
          have hL4 : ¬ (L : Int) ≤ 300 := by omega
          have HBF := Lib.hid HP.out.bel
          clear HP HR hB hBb hna HCW
          go_wp2
          go_ret
          exact ⟨rfl, HBF.out⟩
      · have hin : i = n := by omega
        obtain ⟨T, hTe⟩ : ∃ T, T = (List.range i).flatMap R := ⟨_, rfl⟩
        rw [← hTe] at HP HLN HBD
        obtain ⟨K, hK⟩ : ∃ K, K = Sha.digest T := ⟨_, rfl⟩
        have HT1 : T.length ≤ 1000000 := by have := HLN.out; omega
        have HFIRST := Lib.hid (prt_first hK HP.out HBD.out HT1 h0w HG.out)
        have hKL : K.length = 32 := by rw [hK]; exact Sha.digest_length T
        have HSUM : Hid (∀ (wx : World) gk v, Fin3 w wx x gk T K v → Calls Tryd.prog 10 #[v] wx fun e w' => e = .returned (.agg (k8 K).toArray) ∧ Fin3 w w' x gk T K v) := fun wx gk v h => fin_sum hK HBD.out HT1 h0w HG.out h
        have HAGN : Hid (∀ (wx : World) gk v, Fin3 w wx x gk T K v → Calls Tryd.prog 15 #[.pointer (some ⟨x, 0, none⟩)] wx fun e w' => e = .returned (.agg (k8 K).toArray) ∧ Fin3 w w' x gk T K v) := fun wx gk v h => fin_again hKL h
        have hq1 : ∀ wx : World, (Op.equalIn 10000 26 (.agg (k8 K).toArray) (.agg (k8 K).toArray)).run Tryd.prog wx = .ok true wx := fun wx => run_same_bytes wx 9998 26 5 32 (by kernel_rfl) (by kernel_rfl) (fun w => by kernel_rfl) _ hKL
        have HKS : Hid ((Tryd.prog.info? 26).map (·.size) = some (k8 K).toArray.size) := by show _ = _; rw [List.size_toArray]; exact key_size _ hKL
        have HKL : Hid ((Tryd.prog.info? 26).map (·.size) = some (k8 K).length) := by have := HKS.out; rw [List.size_toArray] at this; exact this
        have HOLD : Hid ((Array.replicate 32 (Value.int .u8 0)).size = (k8 K).toArray.size) := by unfold Hid; simp only [Array.size_replicate, List.size_toArray, k8_length]; exact hKL.symm
        clear HP HR HLN HBD hKL hTe hK
        go_wp2_with fail
        refine HFIRST.out.mono ?_
        rintro e w2 ⟨rfl, k2⟩
        clear HFIRST
        go_wp2_with (refine wpList_store_row_any rfl 26 _ _ rfl w2.heap.size ((k8 K).toArray) rfl rfl 26 _ (heap_alloc_new _ _) HKS.out HOLD.out (all_oneCell_toArray (k8_one _)) ?_; intro w3 h3 g3)
        have hf := k2.out _ _ g3.out h3.out
        clear k2 h3 g3
        generalize w2.heap.size = gk at *
        dsimp only [Act.put]
        have hu := Tryd.underlying26
        have hi2 := HKL.out
        have hf' := hf.drew
        refine wp_region_held_drew (S := fun wx => wx.rangeAt gk 0 (k8 K) ∧ Fin3 w wx x gk T K u4) (by kernel_rfl) ⟨hf'.range, hf'⟩ (fun hHeld => ?_)
        refine wpAnyH_take (i := 0) (v := .agg (k8 K).toArray) rfl (by kernel_rfl) (by kernel_rfl) (by kernel_rfl) (fun _ _ _ h => h) (yieldsIf_load_mid (by rfl) _ _ rfl gk 0 rfl (k8 K) _ (fun w h => h.1) hu rfl hi2) (by assumption) ?_
        try simp only [Act.put, List.setIfInBounds_toArray]
        refine wpAnyH_take (i := 1) (v := ?_) rfl (by kernel_rfl) (by kernel_rfl) (by kernel_rfl) (fun _ _ _ h => h) (Or.inl ⟨by rfl, ?_⟩) (by assumption) ?_
        rotate_left
        · intro w hSw
          go_simp
          try with_reducible rfl
        try simp only [Act.put]
        refine wpAnyH_ready (rs := [2]) (by kernel_rfl) (by simp) (AllReadyH.cons rfl (fun K' hK' => ?_) AllReadyH.nil)
        go_simp
        refine (HSUM.out _ gk _ hHeld.2).mono ?_; rintro e w2 ⟨rfl, f2⟩
        go_wp2_with fail
        refine hK'.out _ _ ⟨Fin3.range f2, f2⟩ (fun hf2 => ?_)
        clear hK'
        try simp only [Act.put, List.setIfInBounds_toArray, List.set_cons_zero, List.set_cons_succ]
        clear hHeld
        refine wpAnyH_take (i := 3) (v := ?_) rfl (by kernel_rfl) (by kernel_rfl) (by kernel_rfl) (fun _ _ _ h => h) (Or.inl ⟨by rfl, ?_⟩) (by assumption) ?_
        rotate_left
        · intro w hSw
          go_simp
          try with_reducible rfl
        try simp only [Act.put, List.setIfInBounds_toArray]
        refine wpAnyH_take (i := 4) (v := ?_) rfl (by kernel_rfl) (by kernel_rfl) (by kernel_rfl) (fun _ _ _ h => h) (Or.inl ⟨by rfl, ?_⟩) (by assumption) ?_
        rotate_left
        · intro w hSw
          go_simp
          try with_reducible rfl
        try simp only [Act.put]
        refine wpAnyH_take (i := 5) (v := ?_) rfl (by kernel_rfl) (by kernel_rfl) (by kernel_rfl) (fun _ _ _ h => h) (Or.inl ⟨by rfl, ?_⟩) (by assumption) ?_
        rotate_left
        · intro w hSw
          go_simp
          try with_reducible rfl
        try simp only [Act.put]
        refine wpAnyH_take (i := 6) (v := ?_) rfl (by kernel_rfl) (by kernel_rfl) (by kernel_rfl) (fun _ _ _ h => h) (Or.inl ⟨by rfl, ?_⟩) (by assumption) ?_
        rotate_left
        · intro w hSw
          go_simp
          try with_reducible rfl
        try simp only [Act.put]
        refine wpAnyH_ready (rs := [7]) (by kernel_rfl) (by simp) (AllReadyH.cons rfl (fun K' hK' => ?_) AllReadyH.nil)
        go_simp
        refine (fin_write hf2.2).mono ?_; rintro e w7 ⟨rfl, f7⟩
        go_wp2_with fail
        refine hK'.out _ _ ⟨Fin3.range f7, f7⟩ (fun hf7 => ?_)
        clear hK'
        try simp only [Act.put, List.setIfInBounds_toArray, List.set_cons_zero, List.set_cons_succ]
        clear hf2
        refine wpAnyH_take (i := 8) (v := ?_) rfl (by kernel_rfl) (by kernel_rfl) (by kernel_rfl) (fun _ _ _ h => h) (Or.inl ⟨by rfl, ?_⟩) (by assumption) ?_
        rotate_left
        · intro w hSw
          go_simp
          try with_reducible rfl
        try simp only [Act.put, List.setIfInBounds_toArray]
        refine wpAnyH_take (i := 9) (v := ?_) rfl (by kernel_rfl) (by kernel_rfl) (by kernel_rfl) (fun _ _ _ h => h) (Or.inl ⟨by rfl, ?_⟩) (by assumption) ?_
        rotate_left
        · intro w hSw
          go_simp
          try with_reducible rfl
        try simp only [Act.put]
        refine wpAnyH_take (i := 10) (v := ?_) rfl (by kernel_rfl) (by kernel_rfl) (by kernel_rfl) (fun _ _ _ h => h) (Or.inl ⟨by rfl, ?_⟩) (by assumption) ?_
        rotate_left
        · intro w hSw
          go_simp
          try with_reducible rfl
        try simp only [Act.put]
        refine wpAnyH_take (i := 11) (v := ?_) rfl (by kernel_rfl) (by kernel_rfl) (by kernel_rfl) (fun _ _ _ h => h) (Or.inl ⟨by rfl, ?_⟩) (by assumption) ?_
        rotate_left
        · intro w hSw
          go_simp
          try with_reducible rfl
        try simp only [Act.put]
        refine wpAnyH_take (i := 13) (v := .agg (k8 K).toArray) rfl (by kernel_rfl) (by kernel_rfl) (by kernel_rfl) (fun _ _ _ h => h) (yieldsIf_load_mid (by rfl) _ _ rfl gk 0 rfl (k8 K) _ (fun w h => h.1) hu rfl hi2) (by assumption) ?_
        try simp only [Act.put]
        refine wpAnyH_ready (rs := [12]) (by kernel_rfl) (by simp) (AllReadyH.cons rfl (fun K' hK' => ?_) AllReadyH.nil)
        go_simp
        refine (HAGN.out _ gk _ hf7.2).mono ?_; rintro e w12 ⟨rfl, f12⟩
        go_wp2_with fail
        refine hK'.out _ _ ⟨Fin3.range f12, f12⟩ (fun hf12 => ?_)
        clear hK'
        try simp only [Act.put, List.setIfInBounds_toArray, List.set_cons_zero, List.set_cons_succ]
        clear hf7
        refine wpAnyH_take (i := 14) (v := ?_) rfl (by kernel_rfl) (by kernel_rfl) (by kernel_rfl) (fun _ _ _ h => h) (Or.inl ⟨by rfl, ?_⟩) (by assumption) ?_
        rotate_left
        · intro w hSw
          go_simp
          try with_reducible rfl
        show wpAnyH _ _ _ _ _ _ _ (Act.put _ (some 68) _) _
        try simp only [Act.put, List.setIfInBounds_toArray, List.set_cons_zero, List.set_cons_succ]
        refine wpAnyH_take (i := 15) (v := ?_) rfl (by kernel_rfl) (by kernel_rfl) (by kernel_rfl) (fun _ _ _ h => h) (Or.inl ⟨by rfl, ?_⟩) (by assumption) ?_
        rotate_left
        · intro w hSw
          go_simp
          try with_reducible rfl
        show wpAnyH _ _ _ _ _ _ _ (Act.put _ (some 69) _) _
        try simp only [Act.put, List.setIfInBounds_toArray, List.set_cons_zero, List.set_cons_succ]
        refine wpAnyH_take (i := 16) (v := ?_) rfl (by kernel_rfl) (by kernel_rfl) (by kernel_rfl) (fun _ _ _ h => h) (Or.inl ⟨by rfl, ?_⟩) (by assumption) ?_
        rotate_left
        · intro w hSw
          go_simp
          try with_reducible rfl
        show wpAnyH _ _ _ _ _ _ _ (Act.put _ (some 2) _) _
        try simp only [Act.put, List.setIfInBounds_toArray, List.set_cons_zero, List.set_cons_succ]
        refine wpAnyH_done (by kernel_rfl) ?_ _
        go_wp2
        go_ret
        exact ⟨rfl, f12.bel⟩
  · have hn' : 60 < n := by omega
    go_enter Tryd.func6, Tryd.ntmps6
    go_wp2_with fail
    refine HAW.out.mono ?_
    rintro e w1 ⟨rfl, hb1⟩
    have HB1 := Lib.hid hb1; clear hb1 HAW
    go_wp2
    go_ret
    exact ⟨rfl, HB1.out⟩
end Go.Proofs.YtodahmmebikddaaDoor
