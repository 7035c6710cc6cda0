/- The kit's lists of numbers that are lent, and whether they are kept; whether two are the same. Made by wip/tools/genints.py out of the texts on bytes. -/
import Derived.Test.YtfbcmjgiejjpmaaHmCode
import Derived.StillTailTactics
namespace Go.Proofs.Ytfbcmjgiejjpmaa
open Go.RowKit Go

/-- the mark of a place in a list of numbers -/
def Kit.mk (k i : Nat) : Int := 1000003 * ((k : Int) + 7) + i
theorem mark_any (k i : Nat) (w : World) (hk : k ≤ 1048576) (hi : i ≤ 1099511627776) :
    Calls Try.prog 30 #[.int .i64 k, .int .i64 i] w fun e w' => e = .returned (.int .i64 (1000003 * ((k : Int) + 7) + i)) ∧ w' = w := by
  go_enter Try.func30, Try.ntmps30
  go_wp2
  go_ret
  exact ⟨rfl, rfl⟩


/-- a slice of bytes: what it reads as, and where it may lie -/
def IntsL (w : World) (v : Value) (B : List Int) (ok : Nat → Prop) : Prop :=
  ∃ a cap, v = .slice a B.length cap ∧ B.length ≤ cap ∧ cap ≤ 9223372036854775807 ∧
    (0 < B.length → ∃ s o, a = some ⟨s, o, none⟩ ∧ ok s ∧ s < w.heap.size ∧ ∀ j, j < B.length → w.cell? ⟨s, o + j, none⟩ = some (.int .i64 (B.getD j 0)))
theorem IntsL.mono {w w' : World} {v : Value} {B : List Int} {ok ok' : Nat → Prop} (h : IntsL w v B ok) (hs : w.heap.size ≤ w'.heap.size) (hok : ∀ s, s < w.heap.size → ok s → ok' s)
    (hc : ∀ s o, s < w.heap.size → ok s → w'.cell? ⟨s, o, none⟩ = w.cell? ⟨s, o, none⟩) : IntsL w' v B ok' := by
  obtain ⟨a, cap, e1, e2, e3, e4⟩ := h
  refine ⟨a, cap, e1, e2, e3, fun hp => ?_⟩
  obtain ⟨s, o, e5, e6, e7, e8⟩ := e4 hp
  exact ⟨s, o, e5, hok s e7 e6, Nat.lt_of_lt_of_le e7 hs, fun j hj => (hc s (o + j) e7 e6).trans (e8 j hj)⟩
/-- bytes as cells -/
def k64 (K : List Int) : List Value := K.map (Value.int .i64)
theorem k64_length (K : List Int) : (k64 K).length = K.length := by simp [k64]
theorem k64_get (K : List Int) (j : Nat) (h : j < K.length) : (k64 K)[j]? = some (.int .i64 (K.getD j 0)) := by
  rw [k64, List.getElem?_map, List.getD_eq_getElem?_getD, List.getElem?_eq_getElem h]; rfl
theorem k64_one (K : List Int) : ∀ v ∈ k64 K, v.oneCell' = true := by
  intro v hv
  obtain ⟨x, _, rfl⟩ := List.mem_map.1 hv
  rfl
theorem intsL_nil (w : World) (ok : Nat → Prop) : IntsL w (.slice none 0 0) [] ok := ⟨none, 0, rfl, by simp, by omega, fun h => by simp at h⟩
theorem own_sliceI {w : World} {base n : Nat} {v : Value} {xs : List Value} (h : w.ownsRow base 3 1 v n xs) : ∃ a cap, v = .slice a n cap := by
  rcases h.2 with ⟨rfl, rfl⟩ | ⟨g, cap, cur, rfl, _⟩
  · exact ⟨_, _, rfl⟩
  · exact ⟨_, _, rfl⟩
theorem wpList_append_intsL {w : World} {ops : Array Oper} {rest : List Oper} {o : Oper} {a : Act} {Q : Exit → Act → World → Prop} (hgd : o.guard = none) (s x : Operand)
    (ho : o.op = .call { callee := .builtin .append, args := #[s, x], argTypes := #[22, 22] })
    (base : Nat) (v : Value) (n : Nat) (xs : List Value) (hs : a.eval s = v) (hown : w.ownsRow base 3 1 v n xs)
    (u : Value) (B : List Int) (ok : Nat → Prop) (hx : a.eval x = u) (hB : IntsL w u B ok) (hnil : ∀ n c, u = .slice none n c → c = 0) (hsz : n + B.length ≤ 1099511627776) (hbase : base ≤ w.heap.size)
    (h : ∀ v' w', Hid (w'.ownsRow base 3 1 v' (n + B.length) (xs ++ k64 B)) → Hid (w.grownBy w' v.ownBlock) → wpList Try.prog ops Q rest (a.put o.dst v') w') : wpList Try.prog ops Q (o :: rest) a w := by
  obtain ⟨i0, hi, hz0, hz1, hz2⟩ := info_parts infoInt
  obtain ⟨ad, cap, rfl, h1, h2, h3⟩ := hB
  cases ad with
  | none =>
    have hB0 : B = [] := by
      by_cases hp : 0 < B.length
      · obtain ⟨s, o, e, _⟩ := h3 hp
        cases e
      · exact List.eq_nil_of_length_eq_zero (by omega)
    subst hB0
    obtain rfl := hnil _ _ rfl
    refine wpList_append_own_none hgd s x 22 ho base 3 i0 1 (by kernel_rfl) hi v n xs hs hown hx ?_
    exact h v w (show w.ownsRow base 3 1 v (n + 0) (xs ++ []) by simpa using hown) (gb_refl _ _)
  | some ad =>
    refine wpList_append_own _ hgd s x 22 ho base 3 i0 (.int .i64 0) 1 8 (by kernel_rfl) hi hz0 hz1 hz2 rfl (by decide) v n xs hs hown ad B.length cap (k64 B) hx (by rw [k64_length]; omega) ?_ (k64_one B) (by simp only [maxLen]; omega) (by omega) hbase ?_
    · intro j y hj
      have hjl : j < B.length := by have := (List.getElem?_eq_some_iff.1 hj).1; rwa [k64_length] at this
      obtain ⟨s, o, e, -, -, hc⟩ := h3 (by omega)
      cases e
      rw [Addr.add_mid, hc j hjl, ← hj, k64_get _ _ hjl]
    · intro v' w' ho' hg' _
      exact h v' w' ho' hg'
/-- the same, and what was there below the row's own blocks stays -/
theorem wpList_append_intsL_b {w w0 : World} {ops : Array Oper} {rest : List Oper} {o : Oper} {a : Act} {Q : Exit → Act → World → Prop} (hgd : o.guard = none) (s x : Operand)
    (ho : o.op = .call { callee := .builtin .append, args := #[s, x], argTypes := #[22, 22] })
    (base : Nat) (v : Value) (n : Nat) (xs : List Value) (hs : a.eval s = v) (hown : w.ownsRow base 3 1 v n xs)
    (u : Value) (B : List Int) (ok : Nat → Prop) (hx : a.eval x = u) (hB : IntsL w u B ok) (hnil : ∀ n c, u = .slice none n c → c = 0) (hsz : n + B.length ≤ 1099511627776) (hb : Below base w0 w) (hbase : base ≤ w.heap.size)
    (h : ∀ v' w', Hid (w'.ownsRow base 3 1 v' (n + B.length) (xs ++ k64 B)) → Hid (Below base w0 w') → wpList Try.prog ops Q rest (a.put o.dst v') w') : wpList Try.prog ops Q (o :: rest) a w :=
  wpList_append_intsL hgd s x ho base v n xs hs hown u B ok hx hB hnil hsz hbase fun v' w' h1 h2 => h v' w' h1 (hb.grown h2.out hbase (fun k hk => (hown.lt k hk).1))
theorem later_intsL {w wi : World} {v : Value} {B : List Int} {ok : Nat → Prop} (hb : Below w.heap.size w wi) (h : IntsL w v B ok) : IntsL wi v B ok :=
  h.mono hb.size (fun _ _ h => h) (fun s o hs _ => hb.cell (by exact hs))
theorem k64_app (A B : List Int) : k64 (A ++ B) = k64 A ++ k64 B := by simp [k64]
theorem one_intsL (w : World) (x : Int) : IntsL (w.alloc (.cells #[.int .i64 x] 3)) (.slice (some ⟨w.heap.size, 0, none⟩) 1 1) [x] (fun _ => True) :=
  ⟨some ⟨w.heap.size, 0, none⟩, 1, rfl, by simp, by omega, fun _ => ⟨w.heap.size, 0, rfl, trivial, by simp, fun j hj => by
    obtain rfl : j = 0 := by simpa using hj
    rw [cell_of_row _ _ _ _ _ _ (heap_alloc_new _ _)]; rfl⟩⟩
/-- a lent list: bytes, and marks behind its end, in block g -/
structure LentI (w : World) (v : Value) (B : List Int) (M : Nat → Int) (g : Nat) : Prop where
  blk : ∃ cap C, v = .slice (some ⟨g, 0, none⟩) B.length cap ∧ B.length + 12 ≤ cap ∧ cap ≤ 9223372036854775807 ∧ w.heap[g]? = some (.cells C 3 (0, 0)) ∧ (∀ j, j < B.length → C[j]? = some (.int .i64 (B.getD j 0))) ∧ ∀ j, j < 12 → C[B.length + j]? = some (.int .i64 (M j))
theorem LentI.ints {w : World} {v : Value} {B : List Int} {M : Nat → Int} {g : Nat} (h : LentI w v B M g) : IntsL w v B (fun s => s = g) := by
  obtain ⟨cap, C, rfl, h1, h2, h3, h4, -⟩ := h.blk
  exact ⟨_, cap, rfl, by omega, h2, fun _ => ⟨g, 0, rfl, rfl, lt_of_block h3, fun j hj => by rw [cell_of_row _ _ _ _ _ _ h3, Nat.zero_add]; exact h4 j hj⟩⟩
theorem LentI.keep {w w' : World} {v : Value} {B : List Int} {M : Nat → Int} {g : Nat} (h : LentI w v B M g) (he : w'.heap[g]? = w.heap[g]?) : LentI w' v B M g := by
  obtain ⟨cap, C, e, h1, h2, h3, h4, h5⟩ := h.blk
  exact ⟨cap, C, e, h1, h2, he.trans h3, h4, h5⟩

set_option maxRecDepth 100000 in
set_option maxHeartbeats 2000000 in
theorem lentI_core (B : List Int) (M : Nat → Int) (a : Option Addr) (n cap : Nat) (w : World) (hn : n = B.length) (hB : IntsL w (.slice a n cap) B (fun _ => True)) (hna : a = none → cap = 0) (hl : n ≤ 1000000)
    (hM : ∀ i, i < 12 → ∀ wx, Calls Try.prog 30 #[.int .i64 1, .int .i64 (i : Nat)] wx fun e w' => e = .returned (.int .i64 (M i)) ∧ w' = wx) :
    Calls Try.prog 11 #[.slice a n cap] w fun e w' => ∃ v g, e = .returned v ∧ LentI w' v B M g ∧ w.heap.size ≤ g ∧ Below w.heap.size w w' := by
  have HN := Lib.hid hn; clear hn
  have HB := Lib.hid hB; clear hB
  have HNA := Lib.hid hna; clear hna
  have HM := Lib.hid hM; clear hM
  obtain ⟨i0, hi, hz0, hz1, hz2⟩ := info_parts infoInt
  obtain ⟨Z, hZ⟩ : ∃ Z, Z = madeCells #[Value.int .i64 0] (n + 12) := ⟨_, rfl⟩
  have hmk : ∀ wx : World, (Instr.makeSlice 22 (.int .i64 0) (.int .i64 ((n : Int) + 12))).run Try.prog wx = .ok (.slice (some ⟨wx.heap.size, 0, none⟩) 0 (n + 12)) (wx.alloc (.cells Z 3)) := by
    intro wx
    have := run_make (P := Try.prog) wx 22 3 i0 _ (by kernel_rfl) hi hz0 .i64 .i64 0 ((n : Int) + 12) (by omega) (by omega) (by rw [hz2]; omega) (by omega)
    rw [this, hz1, hZ, show (0 : Int).toNat = 0 by rfl, show ((n : Int) + 12).toNat = n + 12 by omega, Nat.mul_one]
    rfl
  have HZ : Hid (Z.size = n + 12) := by show Z.size = _; rw [hZ, size_madeCells]
  clear hZ hi hz0 hz1 hz2 i0
  go_enter Try.func11, Try.ntmps11
  go_wp2_with (first | (at_builtin; refine wpList_append_intsL_b rfl (.tmp 9) (.tmp 10) rfl w.heap.size _ 0 [] rfl (show World.ownsRow _ _ _ _ _ _ _ from ⟨rfl, .inr ⟨w.heap.size, n + 12, Z, rfl, Nat.le_refl _, heap_alloc_new _ _, by omega, by simp only [maxLen]; omega, by rw [HZ.out, Nat.mul_one], by simp⟩⟩) _ B (fun _ => True) rfl (later_intsL ((Below.refl _ _).alloc (Nat.le_refl _) _) HB.out) (by intro n c e; cases e; exact HNA.out rfl) (by have := HN.out; omega) ((Below.refl _ _).alloc (Nat.le_refl _) _) (by simp) ?_; intro v1 w1 o1 b1; obtain ⟨a1, c1, rfl⟩ := own_sliceI o1.out))
  have HO1 : Hid (w1.ownsRow w.heap.size 3 1 (.slice a1 B.length c1) B.length (k64 (B ++ (List.range 0).map M))) := by
    have := o1.out
    rw [Nat.zero_add, List.nil_append] at this
    unfold Hid
    simpa using this
  clear o1 HB
  obtain ⟨L, hL⟩ : ∃ L, B.length = L := ⟨_, rfl⟩
  rw [hL] at HO1
  simp only [hL]
  have HL := Lib.hid hL; clear hL
  have hL1 : L ≤ 1000000 := by have := HN.out; have := HL.out; omega
  go_loopw [3, 4] (fun v3 v4 wr => ∃ (k : Nat) (a : Option Addr) (c : Nat), k ≤ 12 ∧ v4 = .int .i64 (k : Int) ∧ v3 = .slice a (L + k) c ∧ wr.ownsRow w.heap.size 3 1 (.slice a (L + k) c) (L + k) (k64 (B ++ (List.range k).map M)) ∧ Below w.heap.size w wr)
    (fun _ v4 _ => (12 - intOf v4).toNat)
  case atStart => exact ⟨0, a1, c1, by omega, rfl, rfl, HO1.out, b1.out⟩
  case round =>
    clear HO1 b1
    obtain ⟨k, a3, c3, hk, rfl, rfl, ho, hb⟩ := hrel
    have HO := Lib.hid ho; clear ho
    have HBL := Lib.hid hb; clear hb
    by_cases hlt : k < 12
    · go_wp2_with (first | (go_at_call 30; refine (HM.out k hlt _).mono ?_; rintro e w4 ⟨rfl, rfl⟩) | (at_builtin; refine wpList_append_intsL_b rfl (.tmp 16) (.tmp 19) rfl w.heap.size _ _ _ rfl (HO.out.alloc _) _ [M k] (fun _ => True) rfl (one_intsL _ (M k)) (by intro n c e; cases e) (by simp; omega) (HBL.out.alloc HBL.out.size _) (by have := HBL.out.size; simp; omega) ?_; intro v4 w4 o4 b4; obtain ⟨a4, c4, rfl⟩ := own_sliceI o4.out))
      go_roundw
      case rel =>
        refine ⟨k + 1, a4, c4, by omega, by congr 1, rfl, ?_, b4.out⟩
        have := o4.out
        rw [← k64_app, List.append_assoc, show (List.range k).map M ++ [M k] = (List.range (k + 1)).map M by rw [List.range_succ, List.map_append]; rfl] at this
        exact this
      case measure => simp [intOf]; omega
    · obtain ⟨g, hg, hgb, C, hC, hLc, hcm, hCs, hCt⟩ : ∃ g, a3 = some ⟨g, 0, none⟩ ∧ w.heap.size ≤ g ∧ ∃ C, wr.heap[g]? = some (.cells C 3 (0, 0)) ∧ L + k ≤ c3 ∧ c3 ≤ maxLen ∧ C.size = c3 * 1 ∧ C.toList.take ((L + k) * 1) = k64 (B ++ (List.range k).map M) := by
        rcases HO.out.2 with ⟨e, h0⟩ | ⟨g, cap', cur, e, hg, hh, hnc, hcm, hcs, ht⟩
        · omega
        · cases e
          exact ⟨g, rfl, hg, cur, hh, hnc, hcm, hcs, ht⟩
      subst hg
      have hk12 : k = 12 := by omega
      have hgw : g < wr.heap.size := lt_of_block hC
      have hcell : ∀ j, j < L + 12 → C[j]? = (k64 (B ++ (List.range 12).map M))[j]? := fun j hj => by
        rw [hk12] at hCt
        rw [← hCt, List.getElem?_take, if_pos (by omega), Array.getElem?_toList]
      have hlen : (B ++ (List.range 12).map M).length = L + 12 := by rw [List.length_append, List.length_map, List.length_range, HL.out]
      have HEND : Hid (LentI wr (.slice (some ⟨g, 0, none⟩) n c3) B M g ∧ w.heap.size ≤ g ∧ Below w.heap.size w wr) := by
        refine ⟨⟨c3, C, by rw [HN.out], by have := HL.out; omega, by simp only [maxLen] at hcm; omega, hC, fun j hj => ?_, fun j hj => ?_⟩, hgb, HBL.out⟩
        · have := HL.out
          rw [hcell j (by omega), k64_get _ j (by omega), List.getD_eq_getElem?_getD, List.getD_eq_getElem?_getD, List.getElem?_append_left (by omega)]
        · have h2 := HL.out
          rw [hcell _ (by omega), k64_get _ _ (by omega), List.getD_eq_getElem?_getD, List.getElem?_append_right (by omega), Nat.add_sub_cancel_left, List.getElem?_map, List.getElem?_range hj]
          rfl
      have hc1 : n ≤ c3 := by have := HN.out; have := HL.out; omega
      have hc2 : (n : Int) ≤ (c3 : Int) := by omega
      clear hC hLc hcm hCs hCt hcell hlen hgb HO HBL hL1
      go_wp2
      go_ret
      exact ⟨_, g, rfl, HEND.out⟩

set_option maxRecDepth 100000 in
set_option maxHeartbeats 2000000 in
theorem keptI_core (B : List Int) (M : Nat → Int) (g : Nat) (v : Value) (a : Option Addr) (n cap : Nat) (w : World) (hn : n = B.length) (hB : IntsL w (.slice a n cap) B (fun _ => True)) (hl : n ≤ 1000000) (hV : LentI w v B M g)
    (hM : ∀ i, i < 12 → ∀ wx, Calls Try.prog 30 #[.int .i64 1, .int .i64 (i : Nat)] wx fun e w' => e = .returned (.int .i64 (M i)) ∧ w' = wx) :
    Calls Try.prog 15 #[v, .slice a n cap] w fun e w' => e = .returned (.bool true) ∧ Drawn w w' := by
  obtain ⟨c3, C, rfl, h1, h2, h3, h4, h5⟩ := hV.blk
  clear hV
  have HM := Lib.hid hM; clear hM
  have HC : Hid (∀ j, j < B.length + 12 → ∃ x, C[j]? = some (.int .i64 x) ∧ (∀ h : j < B.length, x = B.getD j 0) ∧ (B.length ≤ j → x = M (j - B.length))) := by
    intro j hj
    by_cases hjB : j < B.length
    · exact ⟨_, h4 j hjB, fun _ => rfl, fun h => by omega⟩
    · have := h5 (j - B.length) (by omega)
      rw [show B.length + (j - B.length) = j by omega] at this
      exact ⟨_, this, fun h => by omega, fun _ => rfl⟩
  have HB : Hid (∀ j, j < B.length → ∃ s o, a = some ⟨s, o, none⟩ ∧ w.cell? ⟨s, o + j, none⟩ = some (.int .i64 (B.getD j 0))) := by
    intro j hj
    obtain ⟨a', cap', e, -, -, h⟩ := hB
    cases e
    obtain ⟨s, o, e, -, -, hc⟩ := h (by omega)
    exact ⟨s, o, e, hc j hj⟩
  clear hB h4 h5
  have HBK := Lib.hid h3; clear h3
  have hc1 : (n : Int) + 12 ≤ c3 := by omega
  obtain ⟨L, hL⟩ : ∃ L, B.length = L := ⟨_, rfl⟩
  have HL := Lib.hid hL
  rw [hL] at hn h1
  simp only [hL] at HC HB ⊢
  clear hL
  subst hn
  go_enter Try.func15, Try.ntmps15
  go_wp2
  go_loopw [6] (fun v6 wr => ∃ j : Nat, j ≤ n + 12 ∧ v6 = .int .i64 (j : Int) ∧ Drawn w wr)
    (fun v6 _ => (n + 12 - intOf v6).toNat)
  case atStart => exact ⟨0, by omega, rfl, Drawn.refl _⟩
  case round =>
    obtain ⟨j, hj, rfl, hd⟩ := hrel
    by_cases hlt : j < n + 12
    · obtain ⟨x, hx, hx1, hx2⟩ := HC.out j hlt
      have hcg : wr.cell? ⟨g, j, none⟩ = some (.int .i64 x) := by rw [hd.cell, cell_of_row _ _ _ _ _ _ HBK.out]; exact hx
      have HD := Lib.hid hd; clear hd
      by_cases hjn : j < n
      · obtain ⟨s, o, rfl, hcs⟩ := HB.out j hjn
        rw [← hx1 hjn, ← HD.out.cell] at hcs
        have hle : decide (n ≤ j) = false := by simp; omega
        clear hx1 hx2
        go_wp2_with fail
        go_quiet (fail)
        go_wp2
        go_roundw
        case rel => exact ⟨j + 1, by omega, by congr 1, HD.out.drewN _⟩
        case measure => simp [intOf]; omega
      · obtain ⟨q, hjq, hq⟩ : ∃ q, j = n + q ∧ q < 12 := ⟨j - n, by omega, by omega⟩
        have hxq : x = M q := by rw [hx2 (by omega), hjq, Nat.add_sub_cancel_left]
        rw [hxq] at hcg
        have hle : decide (j < n) = false := by simp; omega
        have hle2 : decide (n ≤ j) = true := by simp; omega
        have hsub : IntKind.i64.wrap ((j : Int) - n) = (q : Int) := by rw [IntKind.wrap_i64]; omega
        clear hx1 hx2 hx hxq x hjq
        go_wp2_with fail
        go_quiet ((go_at_call 30; exact Calls.quiet_of_same (HM.out q hq _)))
        go_wp2
        go_roundw
        case rel => exact ⟨j + 1, by omega, by congr 1, HD.out.drewN _⟩
        case measure => simp [intOf]; omega
    · go_wp2
      go_ret
      exact ⟨rfl, hd⟩

theorem markI1_any (i : Nat) (hi : i < 12) (wx : World) : Calls Try.prog 30 #[.int .i64 1, .int .i64 (i : Nat)] wx fun e w' => e = .returned (.int .i64 (Kit.mk 1 i)) ∧ w' = wx :=
  mark_any 1 i wx (by omega) (by omega)
theorem lentI_any (B : List Int) (a : Option Addr) (n cap : Nat) (w : World) (hn : n = B.length) (hB : IntsL w (.slice a n cap) B (fun _ => True)) (hna : a = none → cap = 0) (hl : n ≤ 1000000) :
    Calls Try.prog 11 #[.slice a n cap] w fun e w' => ∃ v g, e = .returned v ∧ LentI w' v B (Kit.mk 1) g ∧ w.heap.size ≤ g ∧ Below w.heap.size w w' :=
  lentI_core B _ a n cap w hn hB hna hl markI1_any
theorem keptI_any (B : List Int) (g : Nat) (v : Value) (a : Option Addr) (n cap : Nat) (w : World) (hn : n = B.length) (hB : IntsL w (.slice a n cap) B (fun _ => True)) (hl : n ≤ 1000000) (hV : LentI w v B (Kit.mk 1) g) :
    Calls Try.prog 15 #[v, .slice a n cap] w fun e w' => e = .returned (.bool true) ∧ Drawn w w' :=
  keptI_core B _ g v a n cap w hn hB hl hV markI1_any
end Go.Proofs.Ytfbcmjgiejjpmaa
