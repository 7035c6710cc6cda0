/- The walk of the law LzNumbers. -/
import Derived.Test.YtiglbjfieeicpaaLzNumS
import Derived.Deep.RegionHeld3
namespace Go.Proofs.Ytiglbjfieeicpaa
open Go.RowKit Go
open Lz (Pc)

/-- the law's numbers and first pieces, in a world that it has come to -/
structure NS (w wx : World) (gN : Nat) (vL : Value) (q : Nat) : Prop where
  bel : Below w.heap.size w wx
  num : wx.heap[gN]? = some (.cells (nums.map (Value.int .i64)).toArray 3 (0, 0))
  row : PaS w wx vL (lq q)
theorem NS.later {w wx wy : World} {gN : Nat} {vL : Value} {q : Nat} (h : NS w wx gN vL q) (hb : Below wx.heap.size wx wy) : NS w wy gN vL q :=
  ⟨h.bel.trans (hb.mono h.bel.size), (hb.block _ (lt_of_block h.num)).trans h.num, h.row.later hb⟩
theorem NS.cell {w wx : World} {gN : Nat} {vL : Value} {q : Nat} (h : NS w wx gN vL q) {i : Nat} (hi : i < 14) : wx.cell? ⟨gN, i, none⟩ = some (.int .i64 (nums.getD i 0)) := by
  rw [cell_of_row _ _ _ _ _ _ h.num, List.getElem?_toArray, List.getElem?_map, List.getD_eq_getElem?_getD, List.getElem?_eq_getElem (by exact hi)]
  rfl
/-- a world behind another one -/
structure Bz (w wx : World) : Prop where
  b : Below w.heap.size w wx
theorem Bz.refl (w : World) : Bz w w := ⟨Below.refl _ _⟩
theorem Bz.drew {w wx : World} (h : Bz w wx) : Bz w wx.drew := ⟨h.b.drew⟩
theorem Bz.alloc {w wx : World} (h : Bz w wx) (o : Obj) : Bz w (wx.alloc o) := ⟨h.b.alloc h.b.size o⟩
theorem Bz.later {w wx wy : World} (h : Bz w wx) (hb : Below wx.heap.size wx wy) : Bz w wy := ⟨h.b.trans (hb.mono h.b.size)⟩

/-- a piece's cells, in a world behind another one -/
abbrev SZ (w : World) (g : Nat) (c n d : Int) (wx : World) : Prop :=
  wx.cell? ⟨g, 0, none⟩ = some (.int .u8 c) ∧ wx.cell? ⟨g, 1, none⟩ = some (.int .i64 n) ∧ wx.cell? ⟨g, 2, none⟩ = some (.int .i64 d) ∧ Bz w wx
theorem PB.sz {w wx : World} {g : Nat} {c n d : Int} (h : PB w g c n d) (hb : Bz w wx) : SZ w g c n d wx := by
  obtain ⟨h0, h1, h2⟩ := (h.later hb.b).cells
  exact ⟨h0, h1, h2, hb⟩
theorem SZ.bz {w wx : World} {g : Nat} {c n d : Int} (h : SZ w g c n d wx) : Bz w wx := h.2.2.2
theorem wf_two {c1 n1 d1 c2 n2 d2 : Int} (h1 : 0 ≤ c1 ∧ c1 < 256) (h2 : -9223372036854775808 ≤ n1 ∧ n1 ≤ 9223372036854775807) (h3 : -9223372036854775808 ≤ d1 ∧ d1 ≤ 9223372036854775807)
    (k1 : 0 ≤ c2 ∧ c2 < 256) (k2 : -9223372036854775808 ≤ n2 ∧ n2 ≤ 9223372036854775807) (k3 : -9223372036854775808 ≤ d2 ∧ d2 ≤ 9223372036854775807) : PcWf [⟨c1, n1, d1⟩, ⟨c2, n2, d2⟩] := fun p hp => by
  simp only [List.mem_cons, List.not_mem_nil, or_false] at hp
  rcases hp with rfl | rfl
  · exact ⟨h1, h2, h3⟩
  · exact ⟨k1, k2, k3⟩
theorem expands_new (l : List Pc) (wx : World) (C : Array Value) (m : Nat) (hC : C = (pk l).toArray) (hm : m = l.length) (hl : l.length ≤ 1000) (hW : PcWf l) :
    Calls Try.prog 3 #[.slice (some ⟨wx.heap.size, 0, none⟩) m m] (wx.alloc (.cells C 35)) fun e w' => e = .returned (.bool true) ∧ Below wx.heap.size wx w' := by
  subst hm
  refine (expands_walk _ l.length l.length l _ rfl ((pcs_new wx l (by omega) C hC).mono (Nat.le_refl _) (fun _ _ _ => trivial) (fun _ _ _ _ => rfl)) hW (fun e => by cases e)).mono ?_
  rintro e w' ⟨rfl, h1⟩
  exact ⟨rfl, ((Below.refl _ _).alloc (Nat.le_refl _) _).trans (h1.mono (by simp))⟩

/-- pieces behind a row of the call's own -/
theorem PaS.app {w0 w w' : World} {v v' : Value} {F l : List Pc} {o : Obj} {z : Nat} (h : PaS w0 w v F) (hz : z = F.length) (ho : w'.ownsRow w0.heap.size 35 3 v' (z + l.length) (pk F ++ pk l)) (hg : (w.alloc o).grownBy w' v.ownBlock) : PaS w0 w' v' (F ++ l) := by
  subst hz
  have h1 : Below w0.heap.size w0 (w.alloc o) := h.bel.alloc h.bel.size _
  refine ⟨h1.grown hg (h1.size) (fun k hk => (h.own.lt k hk).1), ?_⟩
  rw [List.length_append, pk_app]; exact ho
theorem PaS.pcsF {w0 w : World} {v : Value} {L : List Pc} (h : PaS w0 w v L) : PcsIn w v L (fun _ => True) := (own_pieces h.own).1.mono (Nat.le_refl _) (fun _ _ _ => trivial) (fun _ _ _ _ => rfl)
theorem exp_pas {w0 w : World} {v : Value} {F : List Pc} (h : PaS w0 w v F) (hl : F.length ≤ 1000000) (hw : PcWf F) :
    Calls Try.prog 10 #[v] w fun e w' => ∃ ad' m' cp', e = .returned (.tuple #[.slice ad' m' cp', .bool (Lz.ex [] F).isSome]) ∧ m' = ((Lz.ex [] F).getD []).length ∧ Below w0.heap.size w0 w' := by
  obtain ⟨ad, cp, rfl⟩ := h.form
  refine (exp_of F ad F.length cp w rfl hl h.pcsF hw).mono ?_
  rintro e w' ⟨a, m, c, h1, h2, h3⟩
  exact ⟨a, m, c, h1, h2, h.bel.trans (h3.mono h.bel.size)⟩
theorem wf_app3 {a b : List Pc} (ha : PcWf a) (hb : PcWf b) : PcWf (a ++ b) := fun p hp => by
  rcases List.mem_append.1 hp with h | h
  · exact ha p h
  · exact hb p h

set_option maxRecDepth 100000 in
set_option maxHeartbeats 8000000 in
theorem numbers_walk (w : World) : Calls Try.prog 4 #[] w fun e w' => e = .returned (.bool true) ∧ Below w.heap.size w w' := by
  have HAW := Lib.hid awake_any
  go_enter Try.func4, Try.ntmps4
  go_wp2_with fail
  have HN0 : Hid ((w.alloc (.cells (nums.map (Value.int .i64)).toArray 3)).heap[w.heap.size]? = some (.cells (nums.map (Value.int .i64)).toArray 3 (0, 0)) ∧ Below w.heap.size w (w.alloc (.cells (nums.map (Value.int .i64)).toArray 3))) :=
    ⟨heap_alloc_new _ _, (Below.refl _ _).alloc (Nat.le_refl _) _⟩
  refine (one_any 1 _).mono ?_
  rintro e w1 ⟨rfl, hb1⟩
  have hn1 : w1.heap[w.heap.size]? = some (.cells (nums.map (Value.int .i64)).toArray 3 (0, 0)) := (hb1.block _ (by simp)).trans HN0.out.1
  have hw1 : Below w.heap.size w w1 := HN0.out.2.trans (hb1.mono (by simp))
  have H1 : Hid (Below w.heap.size w w1 ∧ w1.heap[w.heap.size]? = some (.cells (nums.map (Value.int .i64)).toArray 3 (0, 0))) := ⟨hw1, hn1⟩
  clear hn1 hw1 hb1 HN0
  go_wp2_with fail
  refine (one_any 2 _).mono ?_
  rintro e w2 ⟨rfl, hb2⟩
  have H2 : Hid (Below w.heap.size w w2 ∧ w2.heap[w.heap.size]? = some (.cells (nums.map (Value.int .i64)).toArray 3 (0, 0))) := ⟨H1.out.1.trans (hb2.mono H1.out.1.size), (hb2.block _ (lt_of_block H1.out.2)).trans H1.out.2⟩
  clear hb2 H1
  go_wp2_with fail
  refine (one_any 3 _).mono ?_
  rintro e w3 ⟨rfl, hb3⟩
  have H3 : Hid (Below w.heap.size w w3 ∧ w3.heap[w.heap.size]? = some (.cells (nums.map (Value.int .i64)).toArray 3 (0, 0))) := ⟨H2.out.1.trans (hb3.mono H2.out.1.size), (hb3.block _ (lt_of_block H2.out.2)).trans H2.out.2⟩
  clear hb3 H2
  go_wp2_with fail
  refine (one_any 4 _).mono ?_
  rintro e w4 ⟨rfl, hb4⟩
  have H4 : Hid (Below w.heap.size w w4 ∧ w4.heap[w.heap.size]? = some (.cells (nums.map (Value.int .i64)).toArray 3 (0, 0))) := ⟨H3.out.1.trans (hb4.mono H3.out.1.size), (hb4.block _ (lt_of_block H3.out.2)).trans H3.out.2⟩
  clear hb4 H3
  go_wp2_with fail
  have HS0 : Hid (NS w (w4.alloc (.cells (pk (lq 0)).toArray 35)) w.heap.size (.slice (some ⟨w4.heap.size, 0, none⟩) 4 4) 0) := by
    have hb := (Below.refl w4.heap.size w4).alloc (Nat.le_refl _) (.cells (pk (lq 0)).toArray 35)
    refine ⟨H4.out.1.trans (hb.mono H4.out.1.size), (hb.block _ (lt_of_block H4.out.2)).trans H4.out.2, ⟨H4.out.1.trans (hb.mono H4.out.1.size), rfl, .inr ⟨w4.heap.size, 4, _, rfl, H4.out.1.size, heap_alloc_new _ _, Nat.le_refl _, by simp [maxLen], rfl, rfl⟩⟩⟩
  clear H4
  go_loopw [2, 3] (fun v2 v3 wr => ∃ (n z : Nat) (ad : Option Addr) (cp : Nat), n ≤ 128 ∧ v3 = .int .i64 (n : Int) ∧ z = 4 + n ∧ v2 = .slice ad z cp ∧ NS w wr w.heap.size (.slice ad z cp) n) (fun _ v3 _ => (128 - intOf v3).toNat)
  case atStart => exact ⟨0, 4, _, 4, by omega, rfl, rfl, rfl, HS0.out⟩
  case round =>
    clear HS0
    obtain ⟨n, z, ad, cp, hn, rfl, hz, rfl, hS⟩ := hrel
    have HS := Lib.hid hS; clear hS
    have HZ := Lib.hid hz; clear hz
    by_cases hlt : n < 128
    · have hd : decide ((n : Int) < 128) = true := by simp; omega
      obtain ⟨z1, hz1⟩ : ∃ z1, z1 = z + 1 := ⟨_, rfl⟩
      have HZ1 := Lib.hid hz1; clear hz1
      have HM := Lib.hid (match_any 258 4 wr)
      go_wp2_with fail
      refine HM.out.mono ?_
      rintro e w5 ⟨rfl, hb5⟩
      have HS5 := Lib.hid (HS.out.later hb5)
      clear hb5 HM HS
      have HNT : Hid (∀ v' w9 o, w9.ownsRow w.heap.size 35 3 v' (z + 1) (pk (lq n) ++ pk [⟨0, 258, 4⟩]) → (w5.alloc o).grownBy w9 (Value.slice ad z cp).ownBlock → ∃ p q, v' = .slice p z1 q ∧ NS w w9 w.heap.size (.slice p z1 q) (n + 1)) := by
        intro v' w9 o h1 h2
        have hl : z = (lq n).length := by rw [lq_length]; exact HZ.out
        rw [hl] at h1
        have h3 := HS5.out.row.snoc h1 h2
        rw [← lq_succ] at h3
        obtain ⟨p, q, e⟩ := h3.form
        have hz1 : (lq (n + 1)).length = z1 := by rw [lq_length, HZ1.out, HZ.out]; omega
        rw [hz1] at e
        subst e
        refine ⟨p, q, rfl, h3.bel, ?_, h3⟩
        have hlt := lt_of_block HS5.out.num
        refine (h2.block _ (by simp; omega) (fun e => ?_)).trans ((heap_alloc_old w5 o hlt).trans HS5.out.num)
        obtain ⟨cur, hc⟩ := own_type HS5.out.row.own e.symm
        exact ne_type hc HS5.out.num (by decide) rfl
      go_wp2_with (first | (at_builtin; refine wpList_append_pieces rfl (.tmp 33) (.tmp 35) rfl w.heap.size _ z (pk (lq n)) rfl (show World.ownsRow _ _ _ _ _ _ _ from by have := HS5.out.row.own.alloc (.cells #[.int .u8 0, .int .i64 258, .int .i64 4] 35); rw [lq_length, ← HZ.out] at this; exact this) _ [⟨0, 258, 4⟩] _ rfl (one_piece _ 0 258 4) (by intro n c e; cases e) (by show z + 1 ≤ _; have := HZ.out; omega) (by have := HS5.out.bel.size; simp; omega) ?_; intro v9 w9 o9 g9; obtain ⟨ad9, c9, rfl, q9⟩ := HNT.out v9 w9 _ o9.out g9.out; have HS9 := Lib.hid q9; clear o9 g9 q9))
      go_roundw
      case rel => exact ⟨n + 1, z1, ad9, c9, by omega, by congr 1, by rw [HZ1.out, HZ.out]; omega, rfl, HS9.out⟩
      case measure => simp [intOf]; omega
    · have hn8 : n = 128 := by omega
      obtain rfl : z = 132 := by have := HZ.out; omega
      have hd : decide ((n : Int) < 128) = false := by simp; omega
      rw [hn8] at HS
      clear hlt hn HZ hn8
      go_wp2_with fail
      generalize hvL : Value.slice ad 132 cp = vL at *
      have HVL := Lib.hid hvL
      clear hvL
      go_loopw [4] (fun v4 wr => ∃ i : Nat, i ≤ 14 ∧ v4 = .int .i64 (i : Int) ∧ NS w wr w.heap.size vL 128) (fun v4 _ => (14 - intOf v4).toNat)
      case atStart => exact ⟨0, by omega, rfl, HS.out⟩
      case round =>
        clear HS
        obtain ⟨i, hi, rfl, hS⟩ := hrel
        have HS := Lib.hid hS; clear hS
        by_cases hi14 : i < 14
        · have hdi : decide ((i : Int) < 14) = true := by simp; omega
          go_wp2_with fail
          go_loopw [5] (fun v5 wr => ∃ k : Nat, k ≤ 14 ∧ v5 = .int .i64 (k : Int) ∧ NS w wr w.heap.size vL 128) (fun v5 _ => (14 - intOf v5).toNat)
          case atStart => exact ⟨0, by omega, rfl, HS.out⟩
          case round =>
            clear HS
            obtain ⟨k, hk, rfl, hS⟩ := hrel
            have HS := Lib.hid hS; clear hS
            by_cases hk14 : k < 14
            · have hdk : decide ((k : Int) < 14) = true := by simp; omega
              obtain ⟨a, ha⟩ : ∃ a, a = nums.getD i 0 := ⟨_, rfl⟩
              obtain ⟨b, hb⟩ : ∃ b, b = nums.getD k 0 := ⟨_, rfl⟩
              have hAB : Hid ((-9223372036854775808 ≤ a ∧ a ≤ 9223372036854775807) ∧ (-9223372036854775808 ≤ b ∧ b ≤ 9223372036854775807)) := by
                unfold Hid; rw [ha, hb]; exact ⟨nums_bd i, nums_bd k⟩
              have ci := HS.out.cell hi14
              have ck := HS.out.cell hk14
              rw [← ha] at ci
              rw [← hb] at ck
              have HCI : Hid (∀ wx, Bz wr wx → (wx.cell? ⟨w.heap.size, i, none⟩ = some (.int .i64 a) ∧ wx.cell? ⟨w.heap.size, k, none⟩ = some (.int .i64 b) ∧ Bz wr wx)) := fun wx hx => by
                have hlt := lt_of_block HS.out.num
                exact ⟨(hx.b.cell (by exact hlt)).trans ci, (hx.b.cell (by exact hlt)).trans ck, hx⟩
              have hs0 : wr.cell? ⟨w.heap.size, i, none⟩ = some (.int .i64 a) ∧ wr.cell? ⟨w.heap.size, k, none⟩ = some (.int .i64 b) ∧ Bz wr wr := ⟨ci, ck, Bz.refl wr⟩
              have hz0 := Bz.refl wr
              have hi0 : (0 : Int) ≤ (i : Int) := by omega
              have hiI : (i : Int) < 14 := by omega
              have hk0 : (0 : Int) ≤ (k : Int) := by omega
              have hkI : (k : Int) < 14 := by omega
              clear ha hb ci ck
              go_wp2_with fail
              go_region_held3 (fun wx => wx.cell? ⟨w.heap.size, i, none⟩ = some (.int .i64 a) ∧ wx.cell? ⟨w.heap.size, k, none⟩ = some (.int .i64 b) ∧ Bz wr wx) (first | assumption | exact HCI.out _ (by assumption) | exact HCI.out _ (Bz.drew (by assumption)) | exact HCI.out _ (Bz.alloc (by assumption) _) | exact HCI.out _ (Bz.alloc (Bz.drew (by assumption)) _) | exact HCI.out _ (Bz.drew (Bz.alloc (by assumption) _))) (fail)
              clear hs0 hz0 HCI
              have HPB : Hid (PB (wr.alloc (.cells #[.int .u8 0, .int .i64 a, .int .i64 b] 35)).drew wr.heap.size 0 a b) := heap_alloc_new _ _
              have HS6 : Hid (NS w (wr.alloc (.cells #[.int .u8 0, .int .i64 a, .int .i64 b] 35)).drew w.heap.size vL 128) := HS.out.later (((Below.refl _ _).alloc (Nat.le_refl _) _).drew)
              have HGL : Hid (w.heap.size < wr.heap.size ∧ ∀ q, vL.ownBlock = some q → q < wr.heap.size) := ⟨lt_of_block HS.out.num, fun q hq => (own_type' HS.out.row.own hq).2.1⟩
              clear HS
              generalize (wr.alloc (.cells #[.int .u8 0, .int .i64 a, .int .i64 b] 35)).drew = w6 at *
              generalize wr.heap.size = g6 at *
              have hS0 := HPB.out.sz (Bz.refl w6)
              have HSZ : Hid (∀ wx, Bz w6 wx → SZ w6 g6 0 a b wx) := fun wx hx => HPB.out.sz hx
              have HONE : Hid (∀ (c : Int) wx, SZ w6 g6 0 a b wx → Calls Try.prog 15 #[.int .u8 c] wx fun e w' => e = .returned (.agg #[.int .u8 c, .int .i64 0, .int .i64 0]) ∧ SZ w6 g6 0 a b w') := fun c wx hx => (one_any c wx).mono fun _ _ ⟨he, hb⟩ => ⟨he, HPB.out.sz (hx.2.2.2.later hb)⟩
              have HLA : Hid (∀ wx, SZ w6 g6 0 a b wx → Calls Try.prog 3 #[.slice (some ⟨wx.heap.size, 0, none⟩) 2 2] (wx.alloc (.cells #[.int .u8 7, .int .i64 0, .int .i64 0, .int .u8 0, .int .i64 a, .int .i64 b] 35)) fun e w' => e = .returned (.bool true) ∧ SZ w6 g6 0 a b w') := fun wx hx =>
                (expands_new [⟨7, 0, 0⟩, ⟨0, a, b⟩] wx _ 2 rfl rfl (by simp) (wf_two ⟨by decide, by decide⟩ (by decide) (by decide) ⟨by decide, by decide⟩ hAB.out.1 hAB.out.2)).mono fun _ _ ⟨he, hb⟩ => ⟨he, HPB.out.sz (hx.2.2.2.later hb)⟩
              have HLB : Hid (∀ wx, SZ w6 g6 0 a b wx → Calls Try.prog 3 #[.slice (some ⟨wx.heap.size, 0, none⟩) 2 2] (wx.alloc (.cells #[.int .u8 0, .int .i64 a, .int .i64 b, .int .u8 7, .int .i64 0, .int .i64 0] 35)) fun e w' => e = .returned (.bool true) ∧ SZ w6 g6 0 a b w') := fun wx hx =>
                (expands_new [⟨0, a, b⟩, ⟨7, 0, 0⟩] wx _ 2 rfl rfl (by simp) (wf_two ⟨by decide, by decide⟩ hAB.out.1 hAB.out.2 ⟨by decide, by decide⟩ (by decide) (by decide))).mono fun _ _ ⟨he, hb⟩ => ⟨he, HPB.out.sz (hx.2.2.2.later hb)⟩
              go_wp2_with fail
              go_region_held3 (fun wx => wx.cell? ⟨g6, 0, none⟩ = some (.int .u8 0) ∧ wx.cell? ⟨g6, 1, none⟩ = some (.int .i64 a) ∧ wx.cell? ⟨g6, 2, none⟩ = some (.int .i64 b) ∧ Bz w6 wx) (first | assumption | exact HSZ.out _ (Bz.drew (SZ.bz (by assumption))) | exact HSZ.out _ (Bz.alloc (SZ.bz (by assumption)) _) | exact HSZ.out _ (Bz.alloc (Bz.drew (SZ.bz (by assumption))) _) | exact HSZ.out _ (Bz.drew (Bz.alloc (SZ.bz (by assumption)) _))) ((first | (go_at_call 15; (with_reducible refine (HONE.out _ _ (by assumption)).mono ?_); rintro e w7 ⟨rfl, hs7⟩) | (go_at_call 3; (with_reducible refine (HLA.out _ (by assumption)).mono ?_); rintro e w8 ⟨rfl, hs8⟩) | (go_at_call 3; (with_reducible refine (HLB.out _ (by assumption)).mono ?_); rintro e w9 ⟨rfl, hs9⟩)))
              have HPB9 : Hid (PB w9 g6 0 a b) := HPB.out.later hs9.2.2.2.b
              have HS9 : Hid (NS w w9 w.heap.size vL 128) := HS6.out.later hs9.2.2.2.b
              have hS9 := HPB9.out.sz (Bz.refl w9)
              clear hs7 hs8 hs9 hS0 HSZ HONE HLA HLB HPB HS6
              obtain ⟨T, hT⟩ : ∃ T, T = (Lz.ex [] (lq 128 ++ [⟨0, a, b⟩, ⟨9, 0, 0⟩])).getD [] := ⟨_, rfl⟩
              obtain ⟨bo, hbo⟩ : ∃ x, x = (Lz.ex [] (lq 128 ++ [⟨0, a, b⟩, ⟨9, 0, 0⟩])).isSome := ⟨_, rfl⟩
              obtain ⟨m, hm⟩ : ∃ m, m = T.length := ⟨_, rfl⟩
              have HM : Hid (m = T.length ∧ m ≤ 65536) := ⟨hm, by rw [hm, hT]; exact ex_len _⟩
              have HWF : Hid (PcWf (lq 128 ++ [⟨0, a, b⟩, ⟨9, 0, 0⟩])) := fun p hp => by
                rcases List.mem_append.1 hp with h | h
                · exact lq_wf 128 p h
                · exact wf_two ⟨by decide, by decide⟩ hAB.out.1 hAB.out.2 ⟨by decide, by decide⟩ (by decide) (by decide) p h
              have HXP : Hid (∀ base (ad' : Option Addr) (c' : Nat) wx, wx.ownsRow base 35 3 (.slice ad' 134 c') 134 (pk (lq 128) ++ pk [⟨0, a, b⟩, ⟨9, 0, 0⟩]) → PcsIn wx (.slice ad' 134 c') (lq 128 ++ [⟨0, a, b⟩, ⟨9, 0, 0⟩]) (fun _ => True)) := fun base ad' c' wx ho => by
                rw [← pk_app] at ho
                exact (own_pieces ho).1.mono (Nat.le_refl _) (fun _ _ _ => trivial) (fun _ _ _ _ => rfl)
              have HX : Hid (∀ base (ad' : Option Addr) (c' : Nat) wx, wx.ownsRow base 35 3 (.slice ad' 134 c') 134 (pk (lq 128) ++ pk [⟨0, a, b⟩, ⟨9, 0, 0⟩]) → Calls Try.prog 10 #[.slice ad' 134 c'] wx fun e w' => ∃ ad cp, e = .returned (.tuple #[.slice ad m cp, .bool bo]) ∧ Ex wx w' (.slice ad m cp) T) := fun base a' c' wx ho => by
                refine (exp_any (lq 128 ++ [⟨0, a, b⟩, ⟨9, 0, 0⟩]) a' 134 c' wx (by rw [List.length_append, lq_length]; rfl) (by omega) (HXP.out base a' c' wx ho) HWF.out).mono ?_
                rintro e w' ⟨v, rfl, h1, -⟩
                obtain ⟨ad, cp, rfl⟩ := h1.form
                rw [← hT] at h1 ⊢
                rw [← hm] at h1 ⊢
                rw [← hbo]
                exact ⟨ad, cp, rfl, h1⟩
              have HR : Hid (∀ base (ad' : Option Addr) (c' : Nat) wx, wx.ownsRow base 35 3 (.slice ad' 134 c') 134 (pk (lq 128) ++ pk [⟨0, a, b⟩, ⟨9, 0, 0⟩]) → Calls Try.prog 11 #[.slice ad' 134 c'] wx fun e w' => ∃ ad cp, e = .returned (.tuple #[.slice ad m cp, .bool bo]) ∧ Ex wx w' (.slice ad m cp) T) := fun base a' c' wx ho => by
                refine (rexp_any (lq 128 ++ [⟨0, a, b⟩, ⟨9, 0, 0⟩]) a' 134 c' wx (by rw [List.length_append, lq_length]; rfl) (by omega) (HXP.out base a' c' wx ho) HWF.out).mono ?_
                rintro e w' ⟨v, rfl, h1, -⟩
                obtain ⟨ad, cp, rfl⟩ := h1.form
                rw [← hT] at h1 ⊢
                rw [← hm] at h1 ⊢
                rw [← hbo]
                exact ⟨ad, cp, rfl, h1⟩
              clear hT hbo hm
              have HCP : Hid (∀ wx, SZ w9 g6 0 a b wx → Calls Try.prog 17 #[vL] wx fun e w' => ∃ v, e = .returned v ∧ SZ w9 g6 0 a b w' ∧ w'.ownsRow w9.heap.size 35 3 v 132 (pk (lq 128))) := fun wx hx => by
                have hrow := HS9.out.row.later hx.2.2.2.b
                have ho := hrow.own
                rw [← HVL.out] at ho ⊢
                refine (copyp_any (lq 128) ad 132 cp wx (by rw [lq_length]) ((own_pieces ho).1.mono (Nat.le_refl _) (fun _ _ _ => trivial) (fun _ _ _ _ => rfl)) (own_nilcap ho) (by omega)).mono ?_
                rintro e w' ⟨v, rfl, h1, h2⟩
                rw [lq_length] at h1
                exact ⟨v, rfl, HPB9.out.sz (hx.2.2.2.later h2), own_base h1 hx.2.2.2.b.size⟩
              have HONE : Hid (∀ (c : Int) wx, SZ w9 g6 0 a b wx → Calls Try.prog 15 #[.int .u8 c] wx fun e w' => e = .returned (.agg #[.int .u8 c, .int .i64 0, .int .i64 0]) ∧ SZ w9 g6 0 a b w' ∧ Below wx.heap.size wx w') := fun c wx hx => (one_any c wx).mono fun _ _ ⟨he, hb⟩ => ⟨he, HPB9.out.sz (hx.2.2.2.later hb), hb⟩
              have HSZ : Hid (∀ wx, Bz w9 wx → SZ w9 g6 0 a b wx) := fun wx hx => HPB9.out.sz hx
              have HAP : Hid (∀ (v v' : Value) (w7 w8 : World) (o : Obj), SZ w9 g6 0 a b w7 → w7.ownsRow w9.heap.size 35 3 v 132 (pk (lq 128)) → w8.ownsRow w9.heap.size 35 3 v' (132 + 2) (pk (lq 128) ++ pk [⟨0, a, b⟩, ⟨9, 0, 0⟩]) → (w7.alloc o).grownBy w8 v.ownBlock → SZ w9 g6 0 a b w8 ∧ ∃ ad cp, v' = .slice ad 134 cp) := by
                intro v v' w7 w8 o hs ho ho' hg
                obtain ⟨ad, cp, e⟩ := own_shape' ho'
                refine ⟨HPB9.out.sz ⟨(hs.2.2.2.alloc o).b.grown hg (hs.2.2.2.alloc o).b.size (fun k hk => (own_type' ho hk).1)⟩, ad, cp, e⟩
              go_wp2_with fail
              go_region_held3 (fun wx => wx.cell? ⟨g6, 0, none⟩ = some (.int .u8 0) ∧ wx.cell? ⟨g6, 1, none⟩ = some (.int .i64 a) ∧ wx.cell? ⟨g6, 2, none⟩ = some (.int .i64 b) ∧ Bz w9 wx) (first | assumption | exact HSZ.out _ (Bz.drew (SZ.bz (by assumption))) | exact HSZ.out _ (Bz.alloc (SZ.bz (by assumption)) _) | exact HSZ.out _ (Bz.alloc (Bz.drew (SZ.bz (by assumption))) _) | exact HSZ.out _ (Bz.drew (Bz.alloc (SZ.bz (by assumption)) _))) ((first | (go_at_call 17; (with_reducible refine (HCP.out _ (by assumption)).mono ?_); rintro e w5 ⟨v5, rfl, hs5, ho5⟩) | (go_at_call 15; (with_reducible refine (HONE.out _ _ (by assumption)).mono ?_); rintro e w7 ⟨rfl, hs7, hb7⟩; have ho7 := own_below ho5 hb7) | (refine step_append_pieces _ (by rfl) (.tmp 72) (.tmp 75) (by rfl) w9.heap.size v5 132 (pk (lq 128)) (by rfl) (by exact ho7.alloc _) w7.heap.size 2 [⟨0, a, b⟩, ⟨9, 0, 0⟩] (by rfl) rfl (by exact heap_alloc_new _ _) (by omega) (by exact (Bz.alloc (SZ.bz hs7) _).b.size) ?_; intro v8 w8 ho8 hg8; obtain ⟨hs8, ad8, cp8, rfl⟩ := HAP.out v5 v8 w7 w8 _ hs7 ho7 ho8.out hg8.out) | (go_at_call 10; (with_reducible refine (HX.out w9.heap.size _ _ _ (by exact ho8.out)).mono ?_); rintro e w10 ⟨adb, cpb, rfl, hxw10⟩; have hsw10 := HPB9.out.sz (hs8.2.2.2.later hxw10.bel))))
              have HPBw10 : Hid (PB w10 g6 0 a b) := HPB9.out.later hsw10.2.2.2.b
              have HSw10 : Hid (NS w w10 w.heap.size vL 128) := HS9.out.later hsw10.2.2.2.b
              have HE10 : Hid (w10.ownsRow w8.heap.size 5 1 (.slice adb m cpb) T.length (k8 T)) := hxw10.own
              have hS10 := HPBw10.out.sz (Bz.refl w10)
              clear hs5 hs7 hs8 hsw10 hxw10 ho5 ho7 ho8 hg8 hb7 hS9 HCP HONE HSZ HAP HX HPB9 HS9
              have HCP : Hid (∀ wx, SZ w10 g6 0 a b wx → Calls Try.prog 17 #[vL] wx fun e w' => ∃ v, e = .returned v ∧ SZ w10 g6 0 a b w' ∧ w'.ownsRow w10.heap.size 35 3 v 132 (pk (lq 128))) := fun wx hx => by
                have hrow := HSw10.out.row.later hx.2.2.2.b
                have ho := hrow.own
                rw [← HVL.out] at ho ⊢
                refine (copyp_any (lq 128) ad 132 cp wx (by rw [lq_length]) ((own_pieces ho).1.mono (Nat.le_refl _) (fun _ _ _ => trivial) (fun _ _ _ _ => rfl)) (own_nilcap ho) (by omega)).mono ?_
                rintro e w' ⟨v, rfl, h1, h2⟩
                rw [lq_length] at h1
                exact ⟨v, rfl, HPBw10.out.sz (hx.2.2.2.later h2), own_base h1 hx.2.2.2.b.size⟩
              have HONE : Hid (∀ (c : Int) wx, SZ w10 g6 0 a b wx → Calls Try.prog 15 #[.int .u8 c] wx fun e w' => e = .returned (.agg #[.int .u8 c, .int .i64 0, .int .i64 0]) ∧ SZ w10 g6 0 a b w' ∧ Below wx.heap.size wx w') := fun c wx hx => (one_any c wx).mono fun _ _ ⟨he, hb⟩ => ⟨he, HPBw10.out.sz (hx.2.2.2.later hb), hb⟩
              have HSZ : Hid (∀ wx, Bz w10 wx → SZ w10 g6 0 a b wx) := fun wx hx => HPBw10.out.sz hx
              have HAP : Hid (∀ (v v' : Value) (w7 w8 : World) (o : Obj), SZ w10 g6 0 a b w7 → w7.ownsRow w10.heap.size 35 3 v 132 (pk (lq 128)) → w8.ownsRow w10.heap.size 35 3 v' (132 + 2) (pk (lq 128) ++ pk [⟨0, a, b⟩, ⟨9, 0, 0⟩]) → (w7.alloc o).grownBy w8 v.ownBlock → SZ w10 g6 0 a b w8 ∧ ∃ ad cp, v' = .slice ad 134 cp) := by
                intro v v' w7 w8 o hs ho ho' hg
                obtain ⟨ad, cp, e⟩ := own_shape' ho'
                refine ⟨HPBw10.out.sz ⟨(hs.2.2.2.alloc o).b.grown hg (hs.2.2.2.alloc o).b.size (fun k hk => (own_type' ho hk).1)⟩, ad, cp, e⟩
              go_wp2_with fail
              go_region_held3 (fun wx => wx.cell? ⟨g6, 0, none⟩ = some (.int .u8 0) ∧ wx.cell? ⟨g6, 1, none⟩ = some (.int .i64 a) ∧ wx.cell? ⟨g6, 2, none⟩ = some (.int .i64 b) ∧ Bz w10 wx) (first | assumption | exact HSZ.out _ (Bz.drew (SZ.bz (by assumption))) | exact HSZ.out _ (Bz.alloc (SZ.bz (by assumption)) _) | exact HSZ.out _ (Bz.alloc (Bz.drew (SZ.bz (by assumption))) _) | exact HSZ.out _ (Bz.drew (Bz.alloc (SZ.bz (by assumption)) _))) ((first | (go_at_call 17; (with_reducible refine (HCP.out _ (by assumption)).mono ?_); rintro e w5 ⟨v5, rfl, hs5, ho5⟩) | (go_at_call 15; (with_reducible refine (HONE.out _ _ (by assumption)).mono ?_); rintro e w7 ⟨rfl, hs7, hb7⟩; have ho7 := own_below ho5 hb7) | (refine step_append_pieces _ (by rfl) (.tmp 82) (.tmp 85) (by rfl) w10.heap.size v5 132 (pk (lq 128)) (by rfl) (by exact ho7.alloc _) w7.heap.size 2 [⟨0, a, b⟩, ⟨9, 0, 0⟩] (by rfl) rfl (by exact heap_alloc_new _ _) (by omega) (by exact (Bz.alloc (SZ.bz hs7) _).b.size) ?_; intro v8 w8 ho8 hg8; obtain ⟨hs8, ad8, cp8, rfl⟩ := HAP.out v5 v8 w7 w8 _ hs7 ho7 ho8.out hg8.out) | (go_at_call 11; (with_reducible refine (HR.out w10.heap.size _ _ _ (by exact ho8.out)).mono ?_); rintro e w11 ⟨adc, cpc, rfl, hxw11⟩; have hsw11 := HPBw10.out.sz (hs8.2.2.2.later hxw11.bel))))
              have HPBw11 : Hid (PB w11 g6 0 a b) := HPBw10.out.later hsw11.2.2.2.b
              have HSw11 : Hid (NS w w11 w.heap.size vL 128) := HSw10.out.later hsw11.2.2.2.b
              have HE11 : Hid (w11.ownsRow w8.heap.size 5 1 (.slice adc m cpc) T.length (k8 T)) := hxw11.own
              have HE10b : Hid (∃ base, w11.ownsRow base 5 1 (.slice adb m cpb) T.length (k8 T)) := ⟨_, own_below HE10.out hsw11.2.2.2.b⟩
              clear hs5 hs7 hs8 hsw11 hxw11 ho5 ho7 ho8 hg8 hb7 hS10 HCP HONE HSZ HAP HR HPBw10 HSw10 HE10 HXP HWF
              obtain ⟨c0, -, -⟩ := HPBw11.out.cells
              have f0 : w11.frozen? ⟨g6, 0, none⟩ = false := frozen_of_row _ _ _ _ _ HPBw11.out
              have HPB12 : Hid (PB (w11.setCell ⟨g6, 0, none⟩ (.int .u8 1)) g6 1 a b) := (heap_setCell_same _ _ _ _ _ _ HPBw11.out).trans rfl
              have hoth : ∀ q, q ≠ g6 → (w11.setCell ⟨g6, 0, none⟩ (.int .u8 1)).heap[q]? = w11.heap[q]? := fun q hq => heap_setCell_other _ _ _ _ hq
              have HS12 : Hid (NS w (w11.setCell ⟨g6, 0, none⟩ (.int .u8 1)) w.heap.size vL 128) := by
                refine ⟨HSw11.out.bel.setCell (by exact Nat.le_of_lt HGL.out.1) _, (hoth _ (by have := HGL.out.1; omega)).trans HSw11.out.num, HSw11.out.row.bel.setCell (by exact Nat.le_of_lt HGL.out.1) _, ?_⟩
                exact own_other' HSw11.out.row.own (fun q hq => hoth q (by have := HGL.out.2 q hq; omega))
              have HB12 : Hid (BytesIn (w11.setCell ⟨g6, 0, none⟩ (.int .u8 1)) (.slice adb m cpb) T (fun _ => True) ∧ BytesIn (w11.setCell ⟨g6, 0, none⟩ (.int .u8 1)) (.slice adc m cpc) T (fun _ => True)) := by
                have key : ∀ {base v}, w11.ownsRow base 5 1 v T.length (k8 T) → BytesIn (w11.setCell ⟨g6, 0, none⟩ (.int .u8 1)) v T (fun _ => True) := fun h =>
                  (own_bytes (own_other' h (fun q hq => hoth q (fun e => by
                    obtain ⟨_, _, cur, hc⟩ := own_type' h hq
                    exact ne_ty hc HPBw11.out (by decide) e)))).mono (Nat.le_refl _) (fun _ _ _ => trivial) (fun _ _ _ _ => rfl)
                obtain ⟨base, h10⟩ := HE10b.out
                exact ⟨key h10, key HE11.out⟩
              clear hoth HE10b HE11 HSw11
              go_wp2_with fail
              clear c0 f0 HPBw11
              generalize w11.setCell ⟨g6, 0, none⟩ (.int .u8 1) = w12 at *
              have hS12 := HPB12.out.sz (Bz.refl w12)
              have HSZ : Hid (∀ wx, Bz w12 wx → SZ w12 g6 1 a b wx) := fun wx hx => HPB12.out.sz hx
              have HONE : Hid (∀ (c : Int) wx, SZ w12 g6 1 a b wx → Calls Try.prog 15 #[.int .u8 c] wx fun e w' => e = .returned (.agg #[.int .u8 c, .int .i64 0, .int .i64 0]) ∧ SZ w12 g6 1 a b w') := fun c wx hx => (one_any c wx).mono fun _ _ ⟨he, hb⟩ => ⟨he, HPB12.out.sz (hx.2.2.2.later hb)⟩
              have HSB : Hid (∀ wx, SZ w12 g6 1 a b wx → Calls Try.prog 12 #[.slice adb m cpb, .slice adc m cpc] wx fun e w' => e = .returned (.bool true) ∧ SZ w12 g6 1 a b w') := fun wx hx =>
                (same_any T adb m cpb adc cpc wx HM.out.1 (by have := HM.out.2; omega) (later_bytes hx.2.2.2.b HB12.out.1) (later_bytes hx.2.2.2.b HB12.out.2)).mono fun _ _ ⟨he, hd⟩ => ⟨he, HPB12.out.sz (hx.2.2.2.later (hd.below _))⟩
              have HLA : Hid (∀ wx, SZ w12 g6 1 a b wx → Calls Try.prog 3 #[.slice (some ⟨wx.heap.size, 0, none⟩) 2 2] (wx.alloc (.cells #[.int .u8 7, .int .i64 0, .int .i64 0, .int .u8 1, .int .i64 a, .int .i64 b] 35)) fun e w' => e = .returned (.bool true) ∧ SZ w12 g6 1 a b w') := fun wx hx =>
                (expands_new [⟨7, 0, 0⟩, ⟨1, a, b⟩] wx _ 2 rfl rfl (by simp) (wf_two ⟨by decide, by decide⟩ (by decide) (by decide) ⟨by decide, by decide⟩ hAB.out.1 hAB.out.2)).mono fun _ _ ⟨he, hb⟩ => ⟨he, HPB12.out.sz (hx.2.2.2.later hb)⟩
              have hbb : (bo != bo) = false := by cases bo <;> rfl
              have hbb2 : (bo == bo) = true := by cases bo <;> rfl
              go_region_held3 (fun wx => wx.cell? ⟨g6, 0, none⟩ = some (.int .u8 1) ∧ wx.cell? ⟨g6, 1, none⟩ = some (.int .i64 a) ∧ wx.cell? ⟨g6, 2, none⟩ = some (.int .i64 b) ∧ Bz w12 wx) (first | assumption | exact HSZ.out _ (Bz.drew (SZ.bz (by assumption))) | exact HSZ.out _ (Bz.alloc (SZ.bz (by assumption)) _) | exact HSZ.out _ (Bz.alloc (Bz.drew (SZ.bz (by assumption))) _) | exact HSZ.out _ (Bz.drew (Bz.alloc (SZ.bz (by assumption)) _))) ((first | (go_at_call 12; (with_reducible refine (HSB.out _ (by assumption)).mono ?_); rintro e w13 ⟨rfl, hs13⟩) | (go_at_call 15; (with_reducible refine (HONE.out _ _ (by assumption)).mono ?_); rintro e w14 ⟨rfl, hs14⟩) | (go_at_call 3; (with_reducible refine (HLA.out _ (by assumption)).mono ?_); rintro e w15 ⟨rfl, hs15⟩)))
              have HS15 : Hid (NS w w15 w.heap.size vL 128) := HS12.out.later hs15.2.2.2.b
              clear hs13 hs14 hs15 hS12 HSZ HONE HSB HLA HB12 HPB12 HS12 hbb hbb2
              go_wp2
              go_roundw
              case rel => exact ⟨k + 1, by omega, by congr 1, HS15.out⟩
              case measure => simp [intOf]; omega
            · have hd : decide ((k : Int) < 14) = false := by simp; omega
              clear hk hk14
              go_wp2
              go_roundw
              case rel => exact ⟨i + 1, by omega, by congr 1, HS.out⟩
              case measure => simp [intOf]; omega
        · have hd : decide ((i : Int) < 14) = false := by simp; omega
          clear hi hi14
          go_wp2_with fail
          have HB0 : Hid (Below w.heap.size w wr) := HS.out.bel
          clear HS HVL
          go_loopw [11] (fun v11 wr => ∃ n : Nat, 32763 ≤ n ∧ n ≤ 32769 ∧ v11 = .int .i64 (n : Int) ∧ Below w.heap.size w wr) (fun v11 _ => (32769 - intOf v11).toNat)
          case atStart => exact ⟨32763, by omega, by omega, rfl, HB0.out⟩
          case round =>
            clear HB0
            obtain ⟨n, hn0, hn1, rfl, hB⟩ := hrel
            have HB := Lib.hid hB; clear hB
            by_cases hlt : n < 32769
            · have hd : decide ((n : Int) < 32769) = true := by simp; omega
              have HNR := Lib.hid (And.intro hn0 hlt)
              obtain ⟨i0, hi, hz0, hz1, hz2⟩ := info_parts info5
              obtain ⟨v5, w5, hr5, ho5, hb5⟩ := zeros_row wr 25 n (by omega) (by omega)
              obtain ⟨ad5, cp5, rfl⟩ := own_shape' ho5
              have HO5 := Lib.hid ho5
              have HB5 : Hid (Below w.heap.size w w5) := HB.out.trans (hb5.mono HB.out.size)
              have HSZ5 := Lib.hid hb5.size
              clear ho5 hb5 hn0 hn1 hlt
              have HNT : Hid (∀ v' w9, w9.ownsRow wr.heap.size 5 1 v' (3 + n + (⟨#[97, 98, 99]⟩ : ByteArray).size) (k8 (abc ++ List.replicate n 0) ++ Lib.strCells ⟨#[97, 98, 99]⟩) → w5.grownBy w9 (Value.slice ad5 (3 + n) cp5).ownBlock → Below w.heap.size w w9 ∧ ∃ z ad cp, v' = .slice ad z cp ∧ z = (row n).length ∧ BytesIn w9 (.slice ad z cp) (row n) (fun _ => True)) := by
                intro v' w9 h1 h2
                rw [row_cells] at h1
                have hl : 3 + n + (⟨#[97, 98, 99]⟩ : ByteArray).size = (row n).length := by rw [row_length]; show 3 + n + 3 = _; omega
                rw [hl] at h1
                obtain ⟨ad, cp, rfl⟩ := own_shape' h1
                exact ⟨HB5.out.grown h2 HB5.out.size (fun q hq => Nat.le_trans HB.out.size (own_type' HO5.out hq).1), _, ad, cp, rfl, rfl, (own_bytes h1).mono (Nat.le_refl _) (fun _ _ _ => trivial) (fun _ _ _ _ => rfl)⟩
              have hcv := fun (wx : World) (C : Array Value) (n c : Nat) => Lib.run_convert_bytes_const (P := Try.prog) wx 25 5 C n c Try.underlying25 Try.underlying5
              go_wp2_with (first | (at_builtin; refine Lib.wpList_append_run _ rfl (.tmp 112) (.tmp 113) _ _ rfl _ _ rfl rfl _ _ hr5 ?_) | (at_builtin; refine Lib.wpList_append_own_string _ rfl (.tmp 114) _ 25 9 rfl wr.heap.size 5 i0 Try.underlying25 (by kernel_rfl) hi hz0 hz1 hz2 _ (3 + n) _ rfl HO5.out ⟨#[97, 98, 99]⟩ rfl (by simp only [maxLen]; have := HNR.out; show 3 + n + 3 ≤ _; omega) (by have := HNR.out; show 3 + n + 3 ≤ _; omega) HSZ5.out ?_; intro v6 w6 ho6 hg6 _; obtain ⟨hb6, z6, ad6, cp6, rfl, hz6, hy6⟩ := HNT.out v6 w6 ho6 hg6; clear ho6 hg6))
              have HB6 := Lib.hid hb6
              have HRB := Lib.hid (row_byt n)
              have HZL : Hid ((row n).length ≤ 65536) := by unfold Hid; rw [row_length]; have := HNR.out; omega
              clear hb6 hr5 hcv HNT HO5 HB5 HSZ5
              rw [hz6] at hy6
              clear hz6
              generalize hzz : (row n).length = z at *
              have HZZ := Lib.hid hzz
              have HP := Lib.hid (par_any (row n) ad6 z cp6 w6 hzz.symm HZL.out hy6 HRB.out)
              have HY6 := Lib.hid hy6
              clear hzz hy6 hi hz0 hz1 hz2 i0
              refine HP.out.mono ?_
              rintro e w7 ⟨v7, rfl, hp7⟩
              have HB67 := Lib.hid hp7.bel
              have HX := Lib.hid (par_exp (row n) w6 w7 v7 hp7 (by rw [HZZ.out]; exact HZL.out) HRB.out)
              clear hp7 HP
              go_wp2_with fail
              refine HX.out.mono ?_
              rintro e w8 ⟨v8, rfl, hx8⟩
              obtain ⟨ad8, cp8, rfl⟩ := hx8.form
              rw [HZZ.out] at hx8 ⊢
              have HB68 : Hid (Below w6.heap.size w6 w8) := HB67.out.trans (hx8.bel.mono HB67.out.size)
              have HSB := Lib.hid (same_any (row n) ad6 z cp6 ad8 cp8 w8 HZZ.out.symm (by have := HZL.out; omega) (later_bytes HB68.out HY6.out) hx8.bytes')
              clear hx8 HX
              go_wp2_with fail
              refine HSB.out.mono ?_
              rintro e w9 ⟨rfl, hd9⟩
              have HB9 : Hid (Below w.heap.size w w9) := (HB6.out.trans (HB68.out.mono HB6.out.size)).trans (hd9.below _)
              clear hd9 HSB
              have hn9 : (n : Int) ≤ 40000 := by have := HNR.out; omega
              go_wp2
              go_roundw
              case rel => exact ⟨n + 1, by have := HNR.out; omega, by have := HNR.out; omega, by congr 1, HB9.out⟩
              case measure => have := HNR.out; simp [intOf]; omega
            · have hd : decide ((n : Int) < 32769) = false := by simp; omega
              clear hlt hn0 hn1
              have HBQ := HB
              go_wp2_with fail
              refine (one_any 5 wr).mono ?_
              rintro e wq1 ⟨rfl, hq1⟩
              have HQ1 : Hid (Below w.heap.size w wq1) := HBQ.out.trans (hq1.mono HBQ.out.size)
              clear hq1
              go_wp2_with fail
              refine (one_any 6 wq1).mono ?_
              rintro e wq2 ⟨rfl, hq2⟩
              have HQ2 : Hid (Below w.heap.size w wq2) := HQ1.out.trans (hq2.mono HQ1.out.size)
              clear hq2 HQ1 HBQ HB
              have HNT0 : Hid (∀ v' w9 o, Hid (w9.ownsRow w.heap.size 35 3 v' (0 + [(⟨5, 0, 0⟩ : Pc), ⟨6, 0, 0⟩].length) ([] ++ pk [(⟨5, 0, 0⟩ : Pc), ⟨6, 0, 0⟩])) → Hid ((wq2.alloc o).grownBy w9 (Value.slice none 0 0).ownBlock) → ∃ ad cp, v' = .slice ad 2 cp ∧ PaS w w9 (.slice ad 2 cp) (fl 0)) := by
                intro v' w9 o h1 h2
                have h1 := h1.out
                obtain ⟨ad, cp, rfl⟩ := own_shape' h1
                exact ⟨ad, cp, rfl, (HQ2.out.alloc HQ2.out.size o).grown h2.out (by have := HQ2.out.size; simp; omega) (fun q hq => by cases hq), h1⟩
              go_wp2_with (first | (at_builtin; refine wpList_append_pieces rfl (.tmp 130) (.tmp 133) rfl w.heap.size (.slice none 0 0) 0 [] rfl ⟨rfl, .inl ⟨rfl, rfl⟩⟩ _ [⟨5, 0, 0⟩, ⟨6, 0, 0⟩] _ rfl (pcs_new wq2 [⟨5, 0, 0⟩, ⟨6, 0, 0⟩] (by simp) _ rfl) (by intro n c e; cases e) (by simp) (by have := HQ2.out.size; simp; omega) ?_; intro vq3 wq3 oq gq; obtain ⟨adq, cpq, rfl, hq3⟩ := HNT0.out vq3 wq3 _ oq gq; clear oq gq))
              have HQ3 := Lib.hid hq3
              clear hq3 HNT0 HQ2
              go_loopw [15, 16] (fun v15 v16 wr => ∃ (n z : Nat) (ad : Option Addr) (cp : Nat), n ≤ 254 ∧ v16 = .int .i64 (n : Int) ∧ z = 2 + n ∧ v15 = .slice ad z cp ∧ PaS w wr (.slice ad z cp) (fl n)) (fun _ v16 _ => (254 - intOf v16).toNat)
              case atStart => exact ⟨0, 2, adq, cpq, by omega, rfl, rfl, rfl, HQ3.out⟩
              case round =>
                clear HQ3
                obtain ⟨n, z, ad, cp, hn, rfl, hz, rfl, hP⟩ := hrel
                have HP := Lib.hid hP; clear hP
                have HZ := Lib.hid hz; clear hz
                by_cases hlt : n < 254
                · have hd2 : decide ((n : Int) < 254) = true := by simp; omega
                  obtain ⟨z1, hz1⟩ : ∃ z1, z1 = z + 1 := ⟨_, rfl⟩
                  have HZ1 := Lib.hid hz1; clear hz1
                  obtain ⟨r, hr⟩ : ∃ r : Nat, r = n % 2 := ⟨_, rfl⟩
                  have hr1 : (n : Int) % 2 = (r : Int) := by omega
                  have hr2 : (n : Int).tmod 2 = (r : Int) := by rw [Int.tmod_eq_emod_of_nonneg (by omega)]; omega
                  obtain ⟨dd, hdd⟩ : ∃ dd : Nat, dd = 1 + r := ⟨_, rfl⟩
                  have hd1' : (1 : Int) + (r : Int) = (dd : Int) := by omega
                  have hr6 : (r : Int) ≤ 1 := by omega
                  have HFS : Hid (fl (n + 1) = fl n ++ [⟨0, 258, (dd : Nat)⟩]) := by unfold Hid; rw [fl_succ, hdd, hr]
                  have HM := Lib.hid (match_any 258 (dd : Nat) wr)
                  have HNL := Lib.hid hlt
                  clear hr hdd
                  go_wp2_with fail
                  refine HM.out.mono ?_
                  rintro e w5 ⟨rfl, hb5⟩
                  have HP5 := Lib.hid (HP.out.later hb5)
                  clear hb5 HM HP
                  have HNT : Hid (∀ v' w9 o, w9.ownsRow w.heap.size 35 3 v' (z + 1) (pk (fl n) ++ pk [⟨0, 258, (dd : Nat)⟩]) → (w5.alloc o).grownBy w9 (Value.slice ad z cp).ownBlock → ∃ p q, v' = .slice p z1 q ∧ PaS w w9 (.slice p z1 q) (fl (n + 1))) := by
                    intro v' w9 o h1 h2
                    have hl : z = (fl n).length := by rw [fl_length]; exact HZ.out
                    rw [hl] at h1
                    have h3 := HP5.out.snoc h1 h2
                    rw [← HFS.out] at h3
                    obtain ⟨p, q, e⟩ := h3.form
                    have hz1 : (fl (n + 1)).length = z1 := by rw [fl_length, HZ1.out, HZ.out]; omega
                    rw [hz1] at e
                    subst e
                    exact ⟨p, q, rfl, h3⟩
                  go_wp2_with (first | (at_builtin; refine wpList_append_pieces rfl (.tmp 139) (.tmp 144) rfl w.heap.size _ z (pk (fl n)) rfl (show World.ownsRow _ _ _ _ _ _ _ from by have := HP5.out.own.alloc (.cells #[.int .u8 0, .int .i64 258, .int .i64 (dd : Nat)] 35); rw [fl_length, ← HZ.out] at this; exact this) _ [⟨0, 258, (dd : Nat)⟩] _ rfl (one_piece _ 0 258 (dd : Nat)) (by intro n c e; cases e) (by show z + 1 ≤ _; have := HZ.out; omega) (by have := HP5.out.bel.size; simp; omega) ?_; intro v9 w9 o9 g9; obtain ⟨ad9, c9, rfl, q9⟩ := HNT.out v9 w9 _ o9.out g9.out; have HP9 := Lib.hid q9; clear o9 g9 q9))
                  go_roundw
                  case rel => exact ⟨n + 1, z1, ad9, c9, by omega, by congr 1, by rw [HZ1.out, HZ.out]; omega, rfl, HP9.out⟩
                  case measure => simp [intOf]; omega
                · have hn8 : n = 254 := by omega
                  have hd2 : decide ((n : Int) < 254) = false := by simp; omega
                  rw [hn8] at HP HZ
                  clear hlt hn hn8
                  obtain ⟨F, hF⟩ : ∃ F, F = fl 254 := ⟨_, rfl⟩
                  rw [← hF] at HP
                  have HZF : Hid (z = F.length) := by unfold Hid; rw [hF, fl_length]; exact HZ.out
                  have HFW : Hid (PcWf F) := by rw [hF]; exact fl_wf 254
                  obtain ⟨t, ht1, ht2⟩ := fl_says 254 (by omega)
                  rw [← hF] at ht1
                  have ht2 : t.length = 65534 := by rw [ht2]
                  have HU := Lib.hid (full_two ht1 ht2)
                  have HT3 := Lib.hid (full_three ht1 ht2)
                  have HTM := Lib.hid (full_match ht1 ht2)
                  have HFL : Hid (F.length ≤ 1000) := by have := HZ.out; have := HZF.out; unfold Hid; omega
                  clear ht1 ht2 hF HZ
                  have HNC : Hid (ad = none → cp = 0) := own_nilcap HP.out.own
                  have HAD := Lib.hid (HP.out.pcsF)
                  have HCa := Lib.hid (copyp_any F ad z cp wr HZF.out HP.out.pcsF HNC.out (by have := HFL.out; have := HZF.out; omega))
                  go_wp2_with fail
                  refine HCa.out.mono ?_
                  rintro e wa0 ⟨va, rfl, hoa, hba⟩
                  have HRa0 : Hid (PaS wr wa0 va F) := ⟨hba, hoa⟩
                  clear hoa hba HCa
                  go_wp2_with fail
                  refine (one_any 1 wa0).mono ?_
                  rintro e wa1 ⟨rfl, hba⟩
                  have HRa1 := Lib.hid (HRa0.out.later hba)
                  clear hba HRa0
                  go_wp2_with fail
                  refine (one_any 1 wa1).mono ?_
                  rintro e wa2 ⟨rfl, hba⟩
                  have HRa2 := Lib.hid (HRa1.out.later hba)
                  clear hba HRa1
                  go_wp2_with (first | (at_builtin; refine wpList_append_pieces rfl (.tmp 148) (.tmp 151) rfl wr.heap.size va z (pk F) rfl (show World.ownsRow _ _ _ _ _ _ _ from by have := HRa2.out.own.alloc (.cells #[.int .u8 1, .int .i64 0, .int .i64 0, .int .u8 1, .int .i64 0, .int .i64 0] 35); rw [← HZF.out] at this; exact this) _ [(⟨1, 0, 0⟩ : Pc), ⟨1, 0, 0⟩] _ rfl (pcs_new wa2 [(⟨1, 0, 0⟩ : Pc), ⟨1, 0, 0⟩] (by simp) _ rfl) (by intro n c e; cases e) (by have := HFL.out; have := HZF.out; simp; omega) (by have := HRa2.out.bel.size; simp; omega) ?_; intro va9 wa9 oa9 ga9; have HRa9 : Hid (PaS wr wa9 va9 (F ++ [(⟨1, 0, 0⟩ : Pc), ⟨1, 0, 0⟩])) := HRa2.out.app HZF.out oa9.out ga9.out; clear oa9 ga9))
                  have HXa := Lib.hid (exp_pas HRa9.out (by have := HFL.out; simp; omega) (wf_app3 HFW.out (wf_small _ (by decide))))
                  obtain ⟨u, hu1, hu2⟩ := HU.out
                  rw [hu1] at HXa
                  have HU2 := Lib.hid hu2
                  clear hu1 hu2 HU
                  go_wp2_with fail
                  refine HXa.out.mono ?_
                  rintro e wa8 ⟨ada, ma, cpa, rfl, hma, hba⟩
                  have HPa := Lib.hid (HP.out.later hba)
                  clear hba HXa HRa2 HRa9 HP
                  have HMa : Hid (((ma : Nat) : Int) == 65536) := by
                    have h1 : ma = 65536 := by rw [hma]; exact HU2.out
                    unfold Hid; rw [h1]; rfl
                  clear hma HU2
                  have HCb := Lib.hid (copyp_any F ad z cp wa8 HZF.out HPa.out.pcsF HNC.out (by have := HFL.out; have := HZF.out; omega))
                  go_wp2_with fail
                  refine HCb.out.mono ?_
                  rintro e wb0 ⟨vb, rfl, hob, hbb⟩
                  have HRb0 : Hid (PaS wa8 wb0 vb F) := ⟨hbb, hob⟩
                  clear hob hbb HCb
                  go_wp2_with fail
                  refine (one_any 1 wb0).mono ?_
                  rintro e wb1 ⟨rfl, hbb⟩
                  have HRb1 := Lib.hid (HRb0.out.later hbb)
                  clear hbb HRb0
                  go_wp2_with fail
                  refine (one_any 1 wb1).mono ?_
                  rintro e wb2 ⟨rfl, hbb⟩
                  have HRb2 := Lib.hid (HRb1.out.later hbb)
                  clear hbb HRb1
                  go_wp2_with fail
                  refine (one_any 1 wb2).mono ?_
                  rintro e wb3 ⟨rfl, hbb⟩
                  have HRb3 := Lib.hid (HRb2.out.later hbb)
                  clear hbb HRb2
                  go_wp2_with (first | (at_builtin; refine wpList_append_pieces rfl (.tmp 158) (.tmp 162) rfl wa8.heap.size vb z (pk F) rfl (show World.ownsRow _ _ _ _ _ _ _ from by have := HRb3.out.own.alloc (.cells #[.int .u8 1, .int .i64 0, .int .i64 0, .int .u8 1, .int .i64 0, .int .i64 0, .int .u8 1, .int .i64 0, .int .i64 0] 35); rw [← HZF.out] at this; exact this) _ [(⟨1, 0, 0⟩ : Pc), ⟨1, 0, 0⟩, ⟨1, 0, 0⟩] _ rfl (pcs_new wb3 [(⟨1, 0, 0⟩ : Pc), ⟨1, 0, 0⟩, ⟨1, 0, 0⟩] (by simp) _ rfl) (by intro n c e; cases e) (by have := HFL.out; have := HZF.out; simp; omega) (by have := HRb3.out.bel.size; simp; omega) ?_; intro vb9 wb9 ob9 gb9; have HRb9 : Hid (PaS wa8 wb9 vb9 (F ++ [(⟨1, 0, 0⟩ : Pc), ⟨1, 0, 0⟩, ⟨1, 0, 0⟩])) := HRb3.out.app HZF.out ob9.out gb9.out; clear ob9 gb9))
                  have HXb := Lib.hid (exp_pas HRb9.out (by have := HFL.out; simp; omega) (wf_app3 HFW.out (wf_small _ (by decide))))
                  rw [HT3.out] at HXb
                  clear HT3
                  go_wp2_with fail
                  refine HXb.out.mono ?_
                  rintro e wb8 ⟨adb, mb, cpb, rfl, hmb, hbb⟩
                  have HPb := Lib.hid (HPa.out.later hbb)
                  clear hbb HXb HRb3 HRb9 HPa
                  clear hmb
                  have HCc := Lib.hid (copyp_any F ad z cp wb8 HZF.out HPb.out.pcsF HNC.out (by have := HFL.out; have := HZF.out; omega))
                  go_wp2_with fail
                  refine HCc.out.mono ?_
                  rintro e wc0 ⟨vc, rfl, hoc, hbc⟩
                  have HRc0 : Hid (PaS wb8 wc0 vc F) := ⟨hbc, hoc⟩
                  clear hoc hbc HCc
                  go_wp2_with fail
                  refine (match_any 3 1 wc0).mono ?_
                  rintro e wc1 ⟨rfl, hbc⟩
                  have HRc1 := Lib.hid (HRc0.out.later hbc)
                  clear hbc HRc0
                  go_wp2_with (first | (at_builtin; refine wpList_append_pieces rfl (.tmp 169) (.tmp 171) rfl wb8.heap.size vc z (pk F) rfl (show World.ownsRow _ _ _ _ _ _ _ from by have := HRc1.out.own.alloc (.cells #[.int .u8 0, .int .i64 3, .int .i64 1] 35); rw [← HZF.out] at this; exact this) _ [(⟨0, 3, 1⟩ : Pc)] _ rfl (pcs_new wc1 [(⟨0, 3, 1⟩ : Pc)] (by simp) _ rfl) (by intro n c e; cases e) (by have := HFL.out; have := HZF.out; simp; omega) (by have := HRc1.out.bel.size; simp; omega) ?_; intro vc9 wc9 oc9 gc9; have HRc9 : Hid (PaS wb8 wc9 vc9 (F ++ [(⟨0, 3, 1⟩ : Pc)])) := HRc1.out.app HZF.out oc9.out gc9.out; clear oc9 gc9))
                  have HXc := Lib.hid (exp_pas HRc9.out (by have := HFL.out; simp; omega) (wf_app3 HFW.out (wf_small _ (by decide))))
                  rw [HTM.out] at HXc
                  clear HTM
                  go_wp2_with fail
                  refine HXc.out.mono ?_
                  rintro e wc8 ⟨adc, mc, cpc, rfl, hmc, hbc⟩
                  have HPc := Lib.hid (HPb.out.later hbc)
                  clear hbc HXc HRc1 HRc9 HPb
                  clear hmc
                  have hme : (((ma : Nat) : Int) == 65536) = true := HMa.out
                  have HAw := Lib.hid (HAW.out wc8)
                  go_wp2_with fail
                  refine HAw.out.mono ?_
                  rintro e we ⟨rfl, hbe⟩
                  have HBE := Lib.hid (HPc.out.later hbe)
                  go_wp2
                  go_returns
                  exact ⟨rfl, HBE.out.bel⟩
end Go.Proofs.Ytiglbjfieeicpaa
