/- The walk of the law ShaTwo: two hashes, written in turn. -/
import Derived.Test.YtodahmmebikddaaDoorShaApp
namespace Go.Proofs.YtodahmmebikddaaDoor
open Go.RowKit Go

theorem Hsh.keep {w w' : World} {b : Nat} {T : List Int} {C : Array Value} {r : Option Nat} (h : Hsh w b T C) (g : w.grownBy w' r) (hr : some b ≠ r) : Hsh w' b T C :=
  ⟨(g.block b (lt_of_block h.blk) hr).trans h.blk, h.abs, h.self, h.done, h.lock, h.summed, h.len⟩

/-- two hashes of the call's own, with what they have taken -/
structure Two (w wi : World) (x y : Nat) (X Y : List Int) : Prop where
  bel : Below w.heap.size w wi
  ne : x ≠ y
  bx : w.heap.size ≤ x
  b_y : w.heap.size ≤ y
  hx : ∃ C, Hsh wi x X C
  hy : ∃ C, Hsh wi y Y C
theorem Two.turn {w wi : World} {x y : Nat} {X Y : List Int} (h : Two w wi x y X Y) : Two w wi y x Y X := ⟨h.bel, h.ne.symm, h.b_y, h.bx, h.hy, h.hx⟩
theorem Two.keep {w wi w' : World} {x y : Nat} {X Y : List Int} (h : Two w wi x y X Y) (r : Option Nat) (g : wi.grownBy w' r) (hr : ∀ k, r = some k → wi.heap.size ≤ k) : Two w w' x y X Y := by
  obtain ⟨h1, h2, h3, h4, ⟨C, hC⟩, D, hD⟩ := h
  have hxs := lt_of_block hC.blk
  have hys := lt_of_block hD.blk
  refine ⟨h1.grown g h1.size (fun k hk => Nat.le_trans h1.size (hr k hk)), h2, h3, h4, ⟨C, hC.keep g (fun e => ?_)⟩, D, hD.keep g (fun e => ?_)⟩
  · have := hr x e.symm; omega
  · have := hr y e.symm; omega

theorem two_write {w wi : World} {x y : Nat} {X Y : List Int} (h : Two w wi x y X Y) (v : Value) (B : List Int) (hv : BytesIn w v B (fun _ => True)) (hB : ∀ z ∈ B, 0 ≤ z ∧ z < 256) (hX : ∀ z ∈ X, 0 ≤ z ∧ z < 256)
    (hl : X.length + B.length ≤ 1152921504606846976) (h0w : 0 < w.heap.size) (hG : ∀ j, j < 64 → w.cell? ⟨0, j, none⟩ = some (.int .u32 (Sha.kk j))) :
    Calls Tryd.prog 14 #[.pointer (some ⟨x, 0, none⟩), v] wi fun e w' => e = .returned (.int .i64 0) ∧ Hid (Two w w' x y (X ++ B) Y) := by
  obtain ⟨h1, h2, h3, h4, ⟨C, hC⟩, D, hD⟩ := h
  refine (write_any x X B C v wi hC hX hB (by omega) (hv.mono h1.size (fun s hs _ => by omega) (fun s o hs _ => h1.cell (by exact hs))) hl (fun j hj => (h1.cell (by exact h0w)).trans (hG j hj))).mono ?_
  rintro e w' ⟨he, hg, hC'⟩
  exact ⟨he, below_of_gb h1 hg h3 h1.size, h2, h3, h4, hC', D, hD.keep hg (by simpa using h2.symm)⟩

theorem two_sum {w wi : World} {x y : Nat} {X Y : List Int} (h : Two w wi x y X Y) (hX : ∀ z ∈ X, 0 ≤ z ∧ z < 256) (hl : X.length ≤ 1152921504606846976)
    (h0w : 0 < w.heap.size) (hG : ∀ j, j < 64 → w.cell? ⟨0, j, none⟩ = some (.int .u32 (Sha.kk j))) :
    Calls Tryd.prog 15 #[.pointer (some ⟨x, 0, none⟩)] wi fun e w' => e = .returned (.agg (k8 (Sha.digest X)).toArray) ∧ Hid (wi.grownBy w' (some x)) := by
  obtain ⟨h1, h2, h3, h4, ⟨C, hC⟩, D, hD⟩ := h
  refine (sum_first x X C wi hC hX (by omega) hl (fun j hj => (h1.cell (by exact h0w)).trans (hG j hj))).mono ?_
  rintro e w' ⟨he, hg, -⟩
  exact ⟨he, hg⟩

/-- a text of the call's own, at whatever world behind -/
theorem sum_later {w wi : World} (B : List Int) (v : Value) (hb : Below w.heap.size w wi) (hB : ∀ z ∈ B, 0 ≤ z ∧ z < 256) (ok : Nat → Prop) (hv : BytesIn wi v B ok) (hl : B.length ≤ 1152921504606846976)
    (h0w : 0 < w.heap.size) (hG : ∀ j, j < 64 → w.cell? ⟨0, j, none⟩ = some (.int .u32 (Sha.kk j))) :
    Calls Tryd.prog 10 #[v] wi fun e w' => e = .returned (.agg (k8 (Sha.digest B)).toArray) ∧ Hid (Below wi.heap.size wi w') :=
  sum_of B v wi hB (hv.mono (Nat.le_refl _) (fun _ _ _ => trivial) (fun _ _ _ _ => rfl)) hl (Nat.lt_of_lt_of_le h0w hb.size) (fun j hj => (hb.cell (by exact h0w)).trans (hG j hj))

theorem Two.later {w wi w' : World} {x y : Nat} {X Y : List Int} (h : Two w wi x y X Y) (g : Below wi.heap.size wi w') : Two w w' x y X Y :=
  h.keep none (gb_below g none) (fun _ e => by cases e)

/-- the four sums at the end, one behind the other -/
theorem two_end {w wi : World} {x y : Nat} {X Y : List Int} (h : Two w wi x y X Y) (base : Nat) (hbx : x < base) (hby : y < base) (u v : Value) (hu : BytesIn wi u X (fun s => base ≤ s)) (hv : BytesIn wi v Y (fun s => base ≤ s))
    (hX : ∀ z ∈ X, 0 ≤ z ∧ z < 256) (hY : ∀ z ∈ Y, 0 ≤ z ∧ z < 256) (hlX : X.length ≤ 1152921504606846976) (hlY : Y.length ≤ 1152921504606846976)
    (h0w : 0 < w.heap.size) (hG : ∀ j, j < 64 → w.cell? ⟨0, j, none⟩ = some (.int .u32 (Sha.kk j))) :
    Calls Tryd.prog 15 #[.pointer (some ⟨x, 0, none⟩)] wi fun e w1 => e = .returned (.agg (k8 (Sha.digest X)).toArray) ∧ Hid (
      Calls Tryd.prog 10 #[u] w1 fun e w2 => e = .returned (.agg (k8 (Sha.digest X)).toArray) ∧ Hid (
        Calls Tryd.prog 15 #[.pointer (some ⟨y, 0, none⟩)] w2 fun e w3 => e = .returned (.agg (k8 (Sha.digest Y)).toArray) ∧ Hid (
          Calls Tryd.prog 10 #[v] w3 fun e w4 => e = .returned (.agg (k8 (Sha.digest Y)).toArray) ∧ Hid (Below w.heap.size w w4)))) := by
  obtain ⟨C, hC⟩ := h.hx
  obtain ⟨D, hD⟩ := h.hy
  have hxs := lt_of_block hC.blk
  have hys := lt_of_block hD.blk
  refine (two_sum h hX hlX h0w hG).mono ?_
  rintro e w1 ⟨he, g1⟩
  refine ⟨he, ?_⟩
  have b1 : Below w.heap.size w w1 := below_of_gb h.bel g1.out h.bx h.bel.size
  have u1 : BytesIn w1 u X (fun s => base ≤ s) := hu.mono g1.out.size (fun _ _ q => q) (fun s o hs q => gb_cell g1.out (by exact hs) (by show s ≠ x; omega))
  have v1 : BytesIn w1 v Y (fun s => base ≤ s) := hv.mono g1.out.size (fun _ _ q => q) (fun s o hs q => gb_cell g1.out (by exact hs) (by show s ≠ x; omega))
  have d1 : Hsh w1 y Y D := hD.keep g1.out (by simpa using h.ne.symm)
  refine (sum_later X u b1 hX _ u1 hlX h0w hG).mono ?_
  rintro e w2 ⟨he2, g2⟩
  refine ⟨he2, ?_⟩
  have b2 : Below w.heap.size w w2 := b1.trans (g2.out.mono b1.size)
  have v2 := later_bytes g2.out v1
  have d2 : Hsh w2 y Y D := d1.keep (gb_below g2.out none) (by simp)
  refine (sum_first y Y D w2 d2 hY (by have := h.b_y; omega) hlY (fun j hj => (b2.cell (by exact h0w)).trans (hG j hj))).mono ?_
  rintro e w3 ⟨he3, g3, -⟩
  refine ⟨he3, ?_⟩
  have b3 : Below w.heap.size w w3 := below_of_gb b2 g3 h.b_y b2.size
  have v3 : BytesIn w3 v Y (fun s => base ≤ s) := v2.mono g3.size (fun _ _ q => q) (fun s o hs q => gb_cell g3 (by exact hs) (by show s ≠ y; omega))
  refine (sum_later Y v b3 hY _ v3 hlY h0w hG).mono ?_
  rintro e w4 ⟨he4, g4⟩
  exact ⟨he4, b3.trans (g4.out.mono b3.size)⟩

set_option maxRecDepth 100000 in
set_option maxHeartbeats 2000000 in
theorem two_walk (a b : Option Addr) (n1 n2 c1 c2 : Nat) (A B : List Int) (w : World) (h0w : 0 < w.heap.size) (hG : ∀ j, j < 64 → w.cell? ⟨0, j, none⟩ = some (.int .u32 (Sha.kk j)))
    (hn1 : n1 = A.length) (hn2 : n2 = B.length) (hA : BytesIn w (.slice a n1 c1) A (fun _ => True)) (hB : BytesIn w (.slice b n2 c2) B (fun _ => True)) (hAb : ∀ z ∈ A, 0 ≤ z ∧ z < 256) (hBb : ∀ z ∈ B, 0 ≤ z ∧ z < 256)
    (hna : a = none → c1 = 0) (hnb : b = none → c2 = 0) (hm1 : n1 ≤ 140737488351232) (hm2 : n2 ≤ 140737488351232) :
    Calls Tryd.prog 7 #[.slice a n1 c1, .slice b n2 c2] w fun e w' => e = .returned (.bool true) ∧ Below w.heap.size w w' := by
  have HAW := Lib.hid (awake_any w h0w hG)
  have HG := Lib.hid hG; clear hG
  have HN1 := Lib.hid hn1; clear hn1
  have HN2 := Lib.hid hn2; clear hn2
  have HA := Lib.hid hA; clear hA
  have HB := Lib.hid hB; clear hB
  have HAB := Lib.hid hAb; clear hAb
  have HBB := Lib.hid hBb; clear hBb
  have HNA := Lib.hid hna; clear hna
  have HNB := Lib.hid hnb; clear hnb
  by_cases hn : n1 + n2 ≤ 3000
  · go_enter Tryd.func7, Tryd.ntmps7
    go_wp2_with fail
    refine HAW.out.mono ?_
    rintro e w1 ⟨rfl, hb1⟩
    have HB1 := Lib.hid hb1; clear hb1 HAW
    go_wp2_with fail
    refine (new_raw _).mono ?_
    rintro e w2 ⟨rfl, hw2⟩
    have HW2 := Lib.hid hw2; clear hw2
    go_wp2_with fail
    refine (new_raw _).mono ?_
    rintro e w3 ⟨rfl, hw3⟩
    have HT : Hid (Two w w3 w1.heap.size w2.heap.size [] []) := by
      have h2 := hsh_new w1
      rw [← HW2.out] at h2
      have h3 := hsh_new w2
      rw [← hw3] at h3
      have hs2 : w2.heap.size = w1.heap.size + 1 := by rw [HW2.out]; simp
      have b1 := HB1.out
      have b2 : Below w.heap.size w w2 := by rw [HW2.out]; exact b1.alloc b1.size _
      have b3 : Below w.heap.size w w3 := by rw [hw3]; exact b2.alloc b2.size _
      have g3 : w2.grownBy w3 none := by rw [hw3]; exact World.grownBy_alloc _ _ _
      exact ⟨b3, by omega, b1.size, b2.size, ⟨_, h2.keep g3 (by simp)⟩, _, h3⟩
    clear hw3 HW2 HB1
    generalize w1.heap.size = x at *
    generalize w2.heap.size = y at *
    go_wp2_with fail
    refine (two_write HT.out _ A HA.out HAB.out (by simp) (by simp; have := HN1.out; omega) h0w HG.out).mono ?_
    rintro e w4 ⟨rfl, h4⟩
    clear HT
    go_wp2_with fail
    refine (two_write h4.out.turn _ B HB.out HBB.out (by simp) (by simp; have := HN2.out; omega) h0w HG.out).mono ?_
    rintro e w5 ⟨rfl, h5⟩
    clear h4
    go_wp2_with fail
    refine (two_write h5.out.turn _ B HB.out HBB.out (by simpa using HAB.out) (by simp; have := HN1.out; have := HN2.out; omega) h0w HG.out).mono ?_
    rintro e w6 ⟨rfl, h6⟩
    clear h5
    go_wp2_with fail
    refine (two_write h6.out.turn _ A HA.out HAB.out (by simpa using HBB.out) (by simp; have := HN1.out; have := HN2.out; omega) h0w HG.out).mono ?_
    rintro e w7 ⟨rfl, h7⟩
    clear h6
    have hq : ∀ (K : List Int), K.length = 32 → ∀ wx : World, (Op.equalIn 10000 26 (.agg (k8 K).toArray) (.agg (k8 K).toArray)).run Tryd.prog wx = .ok true wx := fun K hK wx => run_same_bytes wx 9998 26 5 32 (by kernel_rfl) (by kernel_rfl) (fun w => by kernel_rfl) K hK
    have hq1 := hq (Sha.digest (A ++ B)) (Sha.digest_length _)
    have hq2 := hq (Sha.digest (B ++ A)) (Sha.digest_length _)
    clear hq
    have HS7 : Hid (Below w.heap.size w w7) := h7.out.bel
    have ha := HN1.out
    have hb := HN2.out
    have HLS : Hid (A.length + B.length ≤ 3000) := by show _ ≤ _; omega
    clear ha hb
    go_wp2_with (first | (at_builtin; refine wpList_append_bytes_b rfl (.tmp 35) (.tmp 36) rfl w7.heap.size _ 0 [] rfl (World.ownsRow_made w7 #[] 0 (Nat.le_refl _) (by simp [maxLen]) rfl) _ A (fun _ => True) rfl (later_bytes (HS7.out.alloc HS7.out.size _) HA.out) (by intro n c e; cases e; exact HNA.out rfl) (by have := HLS.out; omega) ((Below.refl _ _).alloc (Nat.le_refl _) _) (by simp) ?_; intro v8 w8 o8 b8) | (at_builtin; refine wpList_append_bytes_b rfl (.tmp 37) (.tmp 38) rfl w7.heap.size v8 _ _ rfl o8.out _ B (fun _ => True) rfl (later_bytes (HS7.out.trans (b8.out.mono HS7.out.size)) HB.out) (by intro n c e; cases e; exact HNB.out rfl) (by have := HLS.out; omega) b8.out b8.out.size ?_; intro v9 w9 o9 b9) | (at_builtin; refine wpList_append_bytes_b rfl (.tmp 40) (.tmp 41) rfl w9.heap.size _ 0 [] rfl (World.ownsRow_made w9 #[] 0 (Nat.le_refl _) (by simp [maxLen]) rfl) _ B (fun _ => True) rfl (later_bytes ((HS7.out.trans (b9.out.mono HS7.out.size)).alloc (Nat.le_trans HS7.out.size b9.out.size) _) HB.out) (by intro n c e; cases e; exact HNB.out rfl) (by have := HLS.out; omega) ((Below.refl _ _).alloc (Nat.le_refl _) _) (by simp) ?_; intro v10 w10 o10 b10) | (at_builtin; refine wpList_append_bytes_b rfl (.tmp 42) (.tmp 43) rfl w9.heap.size v10 _ _ rfl o10.out _ A (fun _ => True) rfl (later_bytes ((HS7.out.trans (b9.out.mono HS7.out.size)).trans (b10.out.mono (Nat.le_trans HS7.out.size b9.out.size))) HA.out) (by intro n c e; cases e; exact HNA.out rfl) (by have := HLS.out; omega) b10.out b10.out.size ?_; intro v11 w11 o11 b11))
    have HEND : Hid (Calls Tryd.prog 15 #[.pointer (some ⟨x, 0, none⟩)] w11 fun e w1 => e = .returned (.agg (k8 (Sha.digest (A ++ B))).toArray) ∧ Hid (
        Calls Tryd.prog 10 #[v9] w1 fun e w2 => e = .returned (.agg (k8 (Sha.digest (A ++ B))).toArray) ∧ Hid (
          Calls Tryd.prog 15 #[.pointer (some ⟨y, 0, none⟩)] w2 fun e w3 => e = .returned (.agg (k8 (Sha.digest (B ++ A))).toArray) ∧ Hid (
            Calls Tryd.prog 10 #[v11] w3 fun e w4 => e = .returned (.agg (k8 (Sha.digest (B ++ A))).toArray) ∧ Hid (Below w.heap.size w w4))))) := by
      have t7 := h7.out.turn
      simp only [List.nil_append] at t7
      obtain ⟨C, hC⟩ := t7.hx
      obtain ⟨D, hD⟩ := t7.hy
      have hxs := lt_of_block hC.blk
      have hys := lt_of_block hD.blk
      have b79 := b9.out
      have b711 : Below w7.heap.size w7 w11 := b79.trans (b11.out.mono b79.size)
      have r9 := o9.out
      rw [List.nil_append, ← k8_app] at r9
      have r11 := o11.out
      rw [List.nil_append, ← k8_app] at r11
      have u9 : BytesIn w11 v9 (A ++ B) (fun s => w7.heap.size ≤ s) := later_bytes b11.out (own_bytes r9)
      have u11 : BytesIn w11 v11 (B ++ A) (fun s => w7.heap.size ≤ s) := (own_bytes r11).mono (Nat.le_refl _) (fun s _ hs => Nat.le_trans b79.size hs) (fun _ _ _ _ => rfl)
      have hAB : ∀ z ∈ A ++ B, 0 ≤ z ∧ z < 256 := fun z hz => (List.mem_append.1 hz).elim (HAB.out z) (HBB.out z)
      have hBA : ∀ z ∈ B ++ A, 0 ≤ z ∧ z < 256 := fun z hz => (List.mem_append.1 hz).elim (HBB.out z) (HAB.out z)
      have := HLS.out
      exact two_end (t7.later b711) w7.heap.size hxs hys v9 v11 u9 u11 hAB hBA (by simp; omega) (by simp; omega) h0w HG.out
    clear o8 o9 o10 o11 b8 b9 b10 b11 h7 HS7
    refine HEND.out.mono ?_
    rintro e w12 ⟨rfl, k12⟩
    clear HEND
    go_wp2_with fail
    refine k12.out.mono ?_
    rintro e w13 ⟨rfl, k13⟩
    go_wp2_with fail
    refine k13.out.mono ?_
    rintro e w14 ⟨rfl, k14⟩
    go_wp2_with fail
    refine k14.out.mono ?_
    rintro e w15 ⟨rfl, k15⟩
    go_wp2
    go_ret
    exact ⟨rfl, k15.out⟩
  · have hn' : 3000 < n1 + n2 := by omega
    go_enter Tryd.func7, Tryd.ntmps7
    go_wp2_with fail
    refine HAW.out.mono ?_
    rintro e w1 ⟨rfl, hb1⟩
    have HB1 := Lib.hid hb1; clear hb1 HAW
    go_wp2
    go_ret
    exact ⟨rfl, HB1.out⟩
end Go.Proofs.YtodahmmebikddaaDoor
