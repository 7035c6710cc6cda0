/- The walk of Parse: the pieces that the program tells of bytes. -/
import Derived.Test.YtiglbjfieeicpaaLzLongest
import Derived.Deep.RegionHeld3
import Derived.Recover
namespace Go.Proofs.Ytiglbjfieeicpaa
open Go.RowKit Go
open Lz (Pc)

/-- the pieces so far: a row of the call's own -/
structure PaS (w0 w : World) (v : Value) (L : List Pc) : Prop where
  bel : Below w0.heap.size w0 w
  own : w.ownsRow w0.heap.size 35 3 v L.length (pk L)
theorem PaS.nil (w0 : World) : PaS w0 w0 (.slice none 0 0) [] := ⟨Below.refl _ _, rfl, .inl ⟨rfl, rfl⟩⟩
theorem PaS.later {w0 w w' : World} {v : Value} {L : List Pc} (h : PaS w0 w v L) (hb : Below w.heap.size w w') : PaS w0 w' v L :=
  ⟨h.bel.trans ⟨hb.os, hb.tape, hb.output, hb.size, fun k hk => hb.block k (Nat.lt_of_lt_of_le hk h.bel.size)⟩, own_other h.own (fun k hk => by
    obtain ⟨cur, hc⟩ := own_type h.own hk
    exact hb.block k (lt_of_block hc))⟩
theorem PaS.form {w0 w : World} {v : Value} {L : List Pc} (h : PaS w0 w v L) : ∃ ad cp, v = .slice ad L.length cp := by
  rcases h.own.2 with ⟨rfl, h0⟩ | ⟨g, cap, cur, rfl, _⟩
  · exact ⟨none, 0, by rw [h0]⟩
  · exact ⟨_, _, rfl⟩
theorem PaS.snoc {w0 w w' : World} {v v' : Value} {L : List Pc} {p : Pc} {o : Obj} (h : PaS w0 w v L) (ho : w'.ownsRow w0.heap.size 35 3 v' (L.length + 1) (pk L ++ pk [p])) (hg : (w.alloc o).grownBy w' v.ownBlock) : PaS w0 w' v' (L ++ [p]) := by
  have h1 : Below w0.heap.size w0 (w.alloc o) := h.bel.alloc h.bel.size _
  refine ⟨h1.grown hg (h1.size) (fun k hk => (h.own.lt k hk).1), ?_⟩
  rw [List.length_append, List.length_singleton, pk_app]; exact ho
theorem PaS.widen {w w0 w' : World} {v : Value} {L : List Pc} (h : PaS w0 w' v L) (hb : Below w.heap.size w w0) : PaS w w' v L := by
  refine ⟨hb.trans (h.bel.mono hb.size), h.own.1, ?_⟩
  rcases h.own.2 with h0 | ⟨g, cap, cur, e, h1, h2⟩
  · exact .inl h0
  · exact .inr ⟨g, cap, cur, e, Nat.le_trans hb.size h1, h2⟩
theorem one_piece (w : World) (c n d : Int) : PcsIn (w.alloc (.cells #[.int .u8 c, .int .i64 n, .int .i64 d] 35)) (.slice (some ⟨w.heap.size, 0, none⟩) 1 1) [⟨c, n, d⟩] (fun s => s = w.heap.size) :=
  pcs_new w [⟨c, n, d⟩] (by simp) _ rfl
/-- the world behind the place where a match was looked up -/
structure Wz (w wx : World) (g m : Nat) : Prop where
  bel : Below w.heap.size w wx
  lt : g < w.heap.size
theorem Wz.drew {w wx : World} {g m : Nat} (h : Wz w wx g m) : Wz w wx.drew g m := ⟨h.bel.drew, h.lt⟩
theorem field_len (x y z : Value) (w : World) : (Instr.field 35 (.agg #[x, y, z]) 1).run Try.prog w = .ok y w := by
  have hp : (isAgg 3).run Try.prog w = .ok false w := by kernel_rfl
  simp [Instr.field, run_underlying Try.underlying35, asAgg, part, go_sem, hp]
theorem Lk.bytes {w : World} {b : List Int} {n g ga : Nat} (h : Lk w b n g ga) {j : Nat} (hj : j < n) :
    ∃ s o cap, w.cell? ⟨g, 0, none⟩ = some (.slice (some ⟨s, o, none⟩) n cap) ∧ w.cell? ⟨s, o + j, none⟩ = some (.int .u8 (b.getD j 0)) := by
  obtain ⟨a, cap, h1, a', cap', e, -, -, h2⟩ := h.byt
  have := h.len
  obtain ⟨s, o, rfl, -, -, hc⟩ := h2 (by omega)
  cases e
  exact ⟨s, o, cap, by rw [cell_of_row _ _ _ _ _ _ h1]; rfl, hc j (by omega)⟩
theorem Lk.var {w : World} {b : List Int} {n g ga : Nat} (h : Lk w b n g ga) : ∃ a cap, w.cell? ⟨g, 0, none⟩ = some (.slice a n cap) := by
  obtain ⟨a, cap, h1, -⟩ := h.byt
  exact ⟨a, cap, by rw [cell_of_row _ _ _ _ _ _ h1]; rfl⟩

set_option maxRecDepth 100000 in
set_option maxHeartbeats 8000000 in
theorem par_any (b : List Int) (a : Option Addr) (n cap : Nat) (w : World) (hn : n = b.length) (hl : n ≤ 65536) (hB : BytesIn w (.slice a n cap) b (fun _ => True)) (hb : Lz.Byt b) :
    Calls Try.prog 18 #[.slice a n cap] w fun e w' => ∃ v, e = .returned v ∧ PaS w w' v (Lz.par b) := by
  have hl6 : decide ((65536 : Int) < (n : Int)) = false := by simp; omega
  have HG1 : Hid ((w.alloc (.cells #[.slice a n cap] 25)).heap[w.heap.size]? = some (.cells #[.slice a n cap] 25 (0, 0)) ∧ BytesIn (w.alloc (.cells #[.slice a n cap] 25)) (.slice a n cap) b (fun _ => True)) :=
    ⟨heap_alloc_new _ _, later_bytes ((Below.refl _ _).alloc (Nat.le_refl _) _) hB⟩
  have HC := Lib.hid (ahead_any b a n cap (w.alloc (.cells #[.slice a n cap] 25)) hn hl HG1.out.2 hb)
  have HN := Lib.hid hn
  have HL := Lib.hid hl
  have hmf : ∀ (fn : Fn) (first cap : Array Value) (w : World), (Instr.makeFunc fn first cap).run Try.prog w = .ok (.func fn first cap) w := fun _ _ _ _ => rfl
  clear hn hl hB hb
  go_enter Try.func18, Try.ntmps18
  go_wp2_with fail
  refine HC.out.mono ?_
  rintro e w2 ⟨C, rfl, hrow, hsz, hah, hb2⟩
  have HK : Hid (Lk w2 b n w.heap.size (w.alloc (.cells #[.slice a n cap] 25)).heap.size) :=
    ⟨HN.out, HL.out, ⟨a, cap, (hb2.block _ (by simp)).trans HG1.out.1, later_bytes hb2 HG1.out.2⟩, ⟨C, hrow, hsz, hah⟩⟩
  have HB0 : Hid (Below w.heap.size w w2) := ((Below.refl _ _).alloc (Nat.le_refl _) (.cells #[.slice a n cap] 25)).trans (hb2.mono (by simp))
  clear hrow hsz hah hb2 HC HG1
  generalize hgag : (w.alloc (.cells #[.slice a n cap] 25)).heap.size = ga at *
  clear hgag
  generalize hgg : w.heap.size = g at *
  obtain ⟨av, cv, hv1⟩ := HK.out.var
  go_wp2_with fail
  clear hv1 hmf hl6
  go_loopw [5, 6] (fun v5 v6 wr => ∃ (k z t : Nat) (L : List Pc) (ad : Option Addr) (cp : Nat), t ≤ n ∧ n - t ≤ k ∧ z ≤ t ∧ v6 = .int .i64 (t : Int) ∧ v5 = .slice ad z cp ∧ z = L.length ∧ L ++ Lz.prs b k t = Lz.par b ∧ PaS w2 wr (.slice ad z cp) L)
    (fun _ v6 _ => (n - intOf v6).toNat)
  case atStart => exact ⟨n, 0, 0, [], none, 0, by omega, by omega, by omega, rfl, rfl, rfl, by rw [List.nil_append, HN.out]; rfl, PaS.nil w2⟩
  case round =>
    obtain ⟨k, z, t, L, ad, cp, ht, hk, hzt, rfl, rfl, hz, hpar, hP⟩ := hrel
    have HZ := Lib.hid hz
    have HP := Lib.hid hP
    have HPA := Lib.hid hpar
    have HNK := Lib.hid hk
    have HZT := Lib.hid hzt
    clear hz hP hpar hk hzt
    have HKR : Hid (Lk wr b n g ga) := HK.out.later HP.out.bel
    obtain ⟨av, cv, hv1⟩ := HKR.out.var
    by_cases hlt : t < n
    · have hdt : decide (t < n) = true := decide_eq_true hlt
      have HC1 : Hid (Calls Try.prog 35 #[.int .i64 (t : Nat), .slice (some ⟨ga, 0, none⟩) n n, .func (.func 34) #[] #[.pointer (some ⟨g, 0, none⟩)]] wr fun e w' => e = .returned (.agg #[.int .u8 0, .int .i64 ((Lz.lng b t).1 : Nat), .int .i64 ((Lz.lng b t).2 : Nat)]) ∧ Below wr.heap.size wr w') := lng_any b n g ga t wr HKR.out hlt
      obtain ⟨k', rfl⟩ : ∃ k', k = k' + 1 := ⟨k - 1, by have := HNK.out; omega⟩
      have HSTEP : Hid (Lz.prs b (k' + 1) t = if Lz.alone b t then ⟨b.getD t 0, 0, 0⟩ :: Lz.prs b k' (t + 1) else ⟨0, (Lz.lng b t).1, (Lz.lng b t).2⟩ :: Lz.prs b k' (t + (Lz.lng b t).1)) := by
        unfold Hid
        rw [Lz.prs, if_pos (by have := HN.out; omega)]
      have HGD := Lib.hid (Lz.lng_good b t)
      have HAL : Hid (Lz.alone b t ↔ (Lz.lng b t).1 = 0 ∨ (Lz.lng b (t + 1)).1 > (Lz.lng b t).1) := Iff.rfl
      obtain ⟨m1, hm1⟩ : ∃ m, m = (Lz.lng b t).1 := ⟨_, rfl⟩
      obtain ⟨m2, hm2⟩ : ∃ m, m = (Lz.lng b t).2 := ⟨_, rfl⟩
      rw [← hm1] at HC1 HSTEP HAL
      rw [← hm2] at HC1 HSTEP
      have HGM : Hid (m1 = 0 ∨ Lz.Good b t (m1, m2)) := by
        rcases HGD.out with h | h
        · left; rw [hm1, h]
        · right; rw [hm1, hm2]; exact h
      clear hm1 hm2 HGD
      have hm6 : m1 ≤ 258 := by
        rcases HGM.out with h | h
        · omega
        · exact h.hi
      go_wp2_with fail
      refine HC1.out.mono ?_
      rintro e w3 ⟨rfl, hb3⟩
      have HP3 := Lib.hid (HP.out.later hb3)
      have HLT : Hid (∀ q, (Value.slice ad z cp).ownBlock = some q → q < w3.heap.size) := fun q hq => Nat.lt_of_lt_of_le (HP.out.own.lt q hq).2 hb3.size
      clear HC1 HP HKR hv1 hb3
      go_wp2_with fail
      have HPB : Hid (PB (w3.alloc (.cells #[.int .u8 0, .int .i64 (m1 : Nat), .int .i64 (m2 : Nat)] 35)) w3.heap.size 0 (m1 : Nat) (m2 : Nat)) := heap_alloc_new _ _
      have HP4 := Lib.hid (HP3.out.later ((Below.refl _ _).alloc (Nat.le_refl _) (.cells #[.int .u8 0, .int .i64 (m1 : Nat), .int .i64 (m2 : Nat)] 35)))
      clear HP3
      generalize (w3.alloc (.cells #[.int .u8 0, .int .i64 (m1 : Nat), .int .i64 (m2 : Nat)] 35)) = w4 at *
      generalize w3.heap.size = g7 at *
      have d1 := HPB.out.cells.2.1
      by_cases hm0 : m1 = 0
      · have hmt : ((m1 : Int) == 0) = true := by simp; omega
        have HPR : Hid (Lz.prs b (k' + 1) t = ⟨b.getD t 0, 0, 0⟩ :: Lz.prs b k' (t + 1)) := by unfold Hid; rw [HSTEP.out, if_pos (HAL.out.2 (Or.inl hm0))]
        clear HSTEP HAL hm0
        go_quiet (fail)
        have HPZ : Hid (PaS w2 (w4.drewN nq) (.slice ad z cp) L) := HP4.out.later ((Drawn.refl w4).drewN nq |>.below _)
        generalize w4.drewN nq = wz at *
        have HKZ : Hid (Lk wz b n g ga) := HK.out.later HPZ.out.bel
        clear HP4 HPB d1 HGM hmt HLT
        obtain ⟨s, o, cp0, cv0, cb⟩ := HKZ.out.bytes hlt
        obtain ⟨x, hx⟩ : ∃ x, x = b.getD t 0 := ⟨_, rfl⟩
        rw [← hx] at cb HPR
        clear hx
        obtain ⟨z1, hz1⟩ : ∃ z1, z1 = z + 1 := ⟨_, rfl⟩
        have HZ1 := Lib.hid hz1
        clear hz1
        have HNT : Hid (∀ v' w9 o, w9.ownsRow w2.heap.size 35 3 v' (z + 1) (pk L ++ pk [⟨x, 0, 0⟩]) → (wz.alloc o).grownBy w9 (Value.slice ad z cp).ownBlock → PaS w2 w9 v' (L ++ [⟨x, 0, 0⟩]) ∧ ∃ p q, v' = .slice p z1 q) := by
          intro v' w9 o h1 h2
          rw [HZ.out] at h1
          have h3 := HPZ.out.snoc h1 h2
          obtain ⟨p, q, e⟩ := h3.form
          exact ⟨h3, p, q, by rw [e, List.length_append, List.length_singleton, HZ1.out, HZ.out]⟩
        have hl := HL.out
        go_wp2_with (first | (at_builtin; refine wpList_append_pieces rfl (.tmp 36) (.tmp 42) rfl w2.heap.size _ z (pk L) rfl (show World.ownsRow _ _ _ _ _ _ _ from by have := HPZ.out.own.alloc (.cells #[.int .u8 x, .int .i64 0, .int .i64 0] 35); rw [← HZ.out] at this; exact this) _ [⟨x, 0, 0⟩] _ rfl (one_piece _ x 0 0) (by intro n c e; cases e) (by show z + 1 ≤ _; have := HZT.out; omega) (by have := HPZ.out.bel.size; simp; omega) ?_; intro v9 w9 o9 g9; obtain ⟨q9, ad9, c9, rfl⟩ := HNT.out v9 w9 _ o9.out g9.out; have HP9 := Lib.hid q9; clear o9 g9 q9 cv0 cb))
        go_roundw
        case rel => exact ⟨k', z1, t + 1, L ++ [⟨x, 0, 0⟩], ad9, c9, by omega, by have := HNK.out; omega, by have := HZ1.out; have := HZT.out; omega, by congr 1, rfl, by rw [HZ1.out, HZ.out, List.length_append, List.length_singleton], by rw [List.append_assoc, ← HPA.out, HPR.out]; rfl, HP9.out⟩
        case measure => simp [intOf]; omega
      · have hmt : ((m1 : Int) == 0) = false := by simp; omega
        have HGD : Hid (Lz.Good b t (m1, m2)) := by
          rcases HGM.out with h | h
          · exact absurd h hm0
          · exact h
        clear HGM
        obtain ⟨q, hq⟩ : ∃ q, q = t + 1 := ⟨_, rfl⟩
        have HKQ : Hid (Lk w4 b n g ga) := HK.out.later HP4.out.bel
        have hg7 : Hid (g7 < w4.heap.size) := lt_of_block HPB.out
        obtain ⟨m', hm'⟩ : ∃ m', m' = (Lz.lng b q).1 := ⟨_, rfl⟩
        obtain ⟨m'', hm''⟩ : ∃ m', m' = (Lz.lng b q).2 := ⟨_, rfl⟩
        have hqn : q < n := by have := HGD.out.le; have := HGD.out.lo; have := HN.out; simp only at *; omega
        have HC2 : Hid (∀ wx, (wx.cell? ⟨g7, 1, none⟩ = some (.int .i64 (m1 : Nat)) ∧ Wz w4 wx g7 m1) → Calls Try.prog 35 #[.int .i64 (q : Nat), .slice (some ⟨ga, 0, none⟩) n n, .func (.func 34) #[] #[.pointer (some ⟨g, 0, none⟩)]] wx fun e w' =>
            e = .returned (.agg #[.int .u8 0, .int .i64 (m' : Nat), .int .i64 (m'' : Nat)]) ∧ (w'.cell? ⟨g7, 1, none⟩ = some (.int .i64 (m1 : Nat)) ∧ Wz w4 w' g7 m1)) := by
          intro wx ⟨h1, h2⟩
          refine (lng_any b n g ga q wx (HKQ.out.later h2.bel) hqn).mono ?_
          rintro e w' ⟨rfl, hb⟩
          exact ⟨by rw [hm', hm''], (hb.cell (by exact Nat.lt_of_lt_of_le hg7.out h2.bel.size)).trans h1, h2.bel.trans (hb.mono h2.bel.size), h2.lt⟩
        have HALT : Hid (Lz.alone b t ↔ m' > m1) := by
          unfold Hid
          rw [HAL.out, hm', hq]
          exact ⟨fun h => h.resolve_left hm0, Or.inr⟩
        have hqI : (t : Int) + 1 = (q : Int) := by omega
        have hfld : ∀ wx, (Instr.field 35 (.agg #[.int .u8 0, .int .i64 (m' : Nat), .int .i64 (m'' : Nat)]) 1).run Try.prog wx = .ok (.int .i64 (m' : Nat)) wx := fun wx => field_len _ _ _ wx
        have hl := HL.out
        have hwq : IntKind.i64.wrap (q : Int) = (q : Int) := IntWalk.i64_in _ (by omega)
        have hW0 : Wz w4 w4 g7 m1 := ⟨Below.refl _ _, hg7.out⟩
        have hS0 : w4.cell? ⟨g7, 1, none⟩ = some (.int .i64 (m1 : Nat)) ∧ Wz w4 w4 g7 m1 := ⟨d1, hW0⟩
        clear hq hm' hm'' hqn HAL hm0
        by_cases hlong : m' > m1
        · have hdl : decide (m1 < m') = true := decide_eq_true hlong
          have HPR : Hid (Lz.prs b (k' + 1) t = ⟨b.getD t 0, 0, 0⟩ :: Lz.prs b k' (t + 1)) := by unfold Hid; rw [HSTEP.out, if_pos (HALT.out.2 hlong)]
          clear HSTEP HALT hlong
          go_region_held3 (fun wx => wx.cell? ⟨g7, 1, none⟩ = some (.int .i64 (m1 : Nat)) ∧ Wz w4 wx g7 m1) (first | assumption | exact ⟨(by assumption), (by assumption)⟩ | exact ⟨(by assumption), Wz.drew (by assumption)⟩) ((go_at_call 35; (with_reducible refine (HC2.out _ (by assumption)).mono ?_); rintro e w5 ⟨rfl, hs5⟩))
          have HPZ : Hid (PaS w2 w5 (.slice ad z cp) L) := HP4.out.later hs5.2.bel
          have HPB5 : Hid (PB w5 g7 0 (m1 : Nat) (m2 : Nat)) := HPB.out.later hs5.2.bel
          have HKZ : Hid (Lk w5 b n g ga) := HK.out.later HPZ.out.bel
          clear HP4 HPB d1 hmt hs5 HKQ HC2 hfld hW0 hS0 hdl hwq hqI
          rename_i hheld0
          clear hheld0
          generalize w5 = wz at *
          clear HPB5 HLT HGD
          obtain ⟨s, o, cp0, cv0, cb⟩ := HKZ.out.bytes hlt
          obtain ⟨x, hx⟩ : ∃ x, x = b.getD t 0 := ⟨_, rfl⟩
          rw [← hx] at cb HPR
          clear hx
          obtain ⟨z1, hz1⟩ : ∃ z1, z1 = z + 1 := ⟨_, rfl⟩
          have HZ1 := Lib.hid hz1
          clear hz1
          have HNT : Hid (∀ v' w9 o, w9.ownsRow w2.heap.size 35 3 v' (z + 1) (pk L ++ pk [⟨x, 0, 0⟩]) → (wz.alloc o).grownBy w9 (Value.slice ad z cp).ownBlock → PaS w2 w9 v' (L ++ [⟨x, 0, 0⟩]) ∧ ∃ p q, v' = .slice p z1 q) := by
            intro v' w9 o h1 h2
            rw [HZ.out] at h1
            have h3 := HPZ.out.snoc h1 h2
            obtain ⟨p, q, e⟩ := h3.form
            exact ⟨h3, p, q, by rw [e, List.length_append, List.length_singleton, HZ1.out, HZ.out]⟩
          have hl := HL.out
          go_wp2_with (first | (at_builtin; refine wpList_append_pieces rfl (.tmp 36) (.tmp 42) rfl w2.heap.size _ z (pk L) rfl (show World.ownsRow _ _ _ _ _ _ _ from by have := HPZ.out.own.alloc (.cells #[.int .u8 x, .int .i64 0, .int .i64 0] 35); rw [← HZ.out] at this; exact this) _ [⟨x, 0, 0⟩] _ rfl (one_piece _ x 0 0) (by intro n c e; cases e) (by show z + 1 ≤ _; have := HZT.out; omega) (by have := HPZ.out.bel.size; simp; omega) ?_; intro v9 w9 o9 g9; obtain ⟨q9, ad9, c9, rfl⟩ := HNT.out v9 w9 _ o9.out g9.out; have HP9 := Lib.hid q9; clear o9 g9 q9 cv0 cb))
          go_roundw
          case rel => exact ⟨k', z1, t + 1, L ++ [⟨x, 0, 0⟩], ad9, c9, by omega, by have := HNK.out; omega, by have := HZ1.out; have := HZT.out; omega, by congr 1, rfl, by rw [HZ1.out, HZ.out, List.length_append, List.length_singleton], by rw [List.append_assoc, ← HPA.out, HPR.out]; rfl, HP9.out⟩
          case measure => simp [intOf]; omega
        · have hdl : decide (m1 < m') = false := decide_eq_false hlong
          have HPR : Hid (Lz.prs b (k' + 1) t = ⟨0, (m1 : Nat), (m2 : Nat)⟩ :: Lz.prs b k' (t + m1)) := by
            unfold Hid
            rw [HSTEP.out, if_neg (fun h => hlong (HALT.out.1 h))]
          clear HSTEP HALT hlong
          go_region_held3 (fun wx => wx.cell? ⟨g7, 1, none⟩ = some (.int .i64 (m1 : Nat)) ∧ Wz w4 wx g7 m1) (first | assumption | exact ⟨(by assumption), (by assumption)⟩ | exact ⟨(by assumption), Wz.drew (by assumption)⟩) ((go_at_call 35; (with_reducible refine (HC2.out _ (by assumption)).mono ?_); rintro e w5 ⟨rfl, hs5⟩))
          have HPZ : Hid (PaS w2 w5 (.slice ad z cp) L) := HP4.out.later hs5.2.bel
          have HPB5 : Hid (PB w5 g7 0 (m1 : Nat) (m2 : Nat)) := HPB.out.later hs5.2.bel
          have HKZ : Hid (Lk w5 b n g ga) := HK.out.later HPZ.out.bel
          clear HP4 HPB d1 hmt hs5 HKQ HC2 hfld hW0 hS0 hdl hwq hqI
          rename_i hheld0
          clear hheld0
          generalize w5 = wz at *
          obtain ⟨d0, d1, d2⟩ := HPB5.out.cells
          obtain ⟨z1, hz1⟩ : ∃ z1, z1 = z + 1 := ⟨_, rfl⟩
          have HZ1 := Lib.hid hz1
          clear hz1
          obtain ⟨t1, ht1⟩ : ∃ t1, t1 = t + m1 := ⟨_, rfl⟩
          have htI : (t : Int) + (m1 : Int) = (t1 : Int) := by omega
          have ht1n : t1 ≤ n := by have := HGD.out.le; have := HN.out; simp only at *; omega
          have HT1 := Lib.hid ht1
          clear ht1
          have HNT : Hid (∀ v' w9 o, w9.ownsRow w2.heap.size 35 3 v' (z + 1) (pk L ++ pk [⟨0, (m1 : Nat), (m2 : Nat)⟩]) → (wz.alloc o).grownBy w9 (Value.slice ad z cp).ownBlock → PaS w2 w9 v' (L ++ [⟨0, (m1 : Nat), (m2 : Nat)⟩]) ∧ PB w9 g7 0 (m1 : Nat) (m2 : Nat) ∧ ∃ p q, v' = .slice p z1 q) := by
            intro v' w9 o h1 h2
            rw [HZ.out] at h1
            have h3 := HPZ.out.snoc h1 h2
            obtain ⟨p, q, e⟩ := h3.form
            refine ⟨h3, ?_, p, q, by rw [e, List.length_append, List.length_singleton, HZ1.out, HZ.out]⟩
            have hlt := lt_of_block HPB5.out
            refine (h2.block g7 (by simp; omega) ?_).trans ((heap_alloc_old wz o hlt).trans HPB5.out)
            intro e
            have := HLT.out g7 e.symm
            omega
          have hl := HL.out
          go_wp2_with (first | (at_builtin; refine wpList_append_pieces rfl (.tmp 46) (.tmp 48) rfl w2.heap.size _ z (pk L) rfl (show World.ownsRow _ _ _ _ _ _ _ from by have := HPZ.out.own.alloc (.cells #[.int .u8 0, .int .i64 (m1 : Nat), .int .i64 (m2 : Nat)] 35); rw [← HZ.out] at this; exact this) _ [⟨0, (m1 : Nat), (m2 : Nat)⟩] _ rfl (one_piece _ 0 (m1 : Nat) (m2 : Nat)) (by intro n c e; cases e) (by show z + 1 ≤ _; have := HZT.out; omega) (by have := HPZ.out.bel.size; simp; omega) ?_; intro v9 w9 o9 g9; obtain ⟨q9, r9, ad9, c9, rfl⟩ := HNT.out v9 w9 _ o9.out g9.out; have HP9 := Lib.hid q9; obtain ⟨k0, k1, k2⟩ := r9.cells; clear o9 g9 q9 r9 d0 d1 d2))
          go_roundw
          case rel => exact ⟨k', z1, t1, L ++ [⟨0, (m1 : Nat), (m2 : Nat)⟩], ad9, c9, ht1n, by have := HNK.out; have := HT1.out; have := HGD.out.lo; simp only at *; omega, by have := HZ1.out; have := HZT.out; have := HT1.out; have := HGD.out.lo; simp only at *; omega, by congr 1, rfl, by rw [HZ1.out, HZ.out, List.length_append, List.length_singleton], by rw [List.append_assoc, ← HPA.out, HPR.out, HT1.out]; rfl, HP9.out⟩
          case measure => have := HT1.out; have := HGD.out.lo; simp [intOf]; simp only at *; omega
    · obtain rfl : t = n := by omega
      have HE : Hid (L = Lz.par b) := by have := HPA.out; rw [Lz.prs_end b k t (by have := HN.out; omega), List.append_nil] at this; exact this
      have hdt : decide (t < t) = false := by simp
      go_wp2
      go_returns
      refine ⟨_, rfl, ?_⟩
      rw [← HE.out]
      subst hgg
      exact HP.out.widen HB0.out
end Go.Proofs.Ytiglbjfieeicpaa
