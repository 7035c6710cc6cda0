/- The end of the law BitioWrites. -/
import Derived.Test.YtkfbcekhegdmjaaBitWritesS
namespace Go.Proofs.Ytkfbcekhegdmjaa
open Go.RowKit Go

theorem BX.finish {w0 w : World} {gw n V gd : Nat} {vb : Value} (h : BX w0 w gw n V gd n V vb) (hn : n ≤ 100000) :
    Calls Try.prog 15 #[.pointer (some ⟨gw, 0, none⟩)] w fun e w1 => ∃ Ga M, e = .returned (.slice (some ⟨Ga, 0, none⟩) M M) ∧
      Hid (Calls Try.prog 15 #[.pointer (some ⟨gw, 0, none⟩)] w1 fun e w2 => ∃ Gb, e = .returned (.slice (some ⟨Gb, 0, none⟩) M M) ∧
        Hid (Calls Try.prog 17 #[.pointer (some ⟨gd, 0, none⟩)] w2 fun e w3 => ∃ v3, e = .returned v3 ∧
          Hid (Calls Try.prog 16 #[.slice (some ⟨Ga, 0, none⟩) M M, v3] w3 fun e w4 => e = .returned (.bool true) ∧
            Hid (∀ w5, w5 = w4.alloc (.cells #[.slice (some ⟨Ga, 0, none⟩) M M, .slice (some ⟨Gb, 0, none⟩) M M, vb] 29) → Calls Try.prog 19 #[.slice (some ⟨w4.heap.size, 0, none⟩) 3 3] w5 fun e w6 => e = .returned (.bool true) ∧
              Hid (Calls Try.prog 15 #[.pointer (some ⟨gw, 0, none⟩)] w6 fun e w7 => ∃ v7, e = .returned v7 ∧
                Hid (Calls Try.prog 17 #[.pointer (some ⟨gd, 0, none⟩)] w7 fun e w8 => ∃ v8, e = .returned v8 ∧
                  Hid (Calls Try.prog 16 #[v7, v8] w8 fun e w9 => e = .returned (.bool true) ∧
                    Hid (Calls Try.prog 20 #[] w9 fun e w10 => e = .returned (.bool true) ∧ Hid (Below w0.heap.size w0 w10))))))))) := by
  have hM : (n + 7) / 8 ≤ 1000000 := by omega
  refine (h.bytes (by omega)).mono ?_
  rintro e w1 ⟨he, h1, b1, l1⟩
  refine ⟨_, _, he, ?_⟩
  refine (h1.bytes (by omega)).mono ?_
  rintro e w2 ⟨he2, h2, b2, l2⟩
  refine ⟨_, he2, ?_⟩
  refine (h2.dbytes hn).mono ?_
  rintro e w3 ⟨he3, h3, b3, l3⟩
  refine ⟨_, he3, ?_⟩
  have g1 := lt_of_block b1
  have g2 := lt_of_block b2
  have a3 : Byt w3 w.heap.size V ((n + 7) / 8) := (l3.block _ (Nat.lt_of_lt_of_le g1 l2.size)).trans ((l2.block _ g1).trans b1)
  have c3 : Byt w3 w1.heap.size V ((n + 7) / 8) := (l3.block _ g2).trans b2
  refine (same_any (Bit.by V ((n + 7) / 8)) _ _ _ _ _ w3 (by rw [Bit.by_length]) hM (a3.any hM) (b3.any hM)).mono ?_
  rintro e w4 ⟨he4, hd4⟩
  refine ⟨he4, ?_⟩
  rintro w5 rfl
  have l4 : Below w.heap.size w w4 := ((l1.trans (l2.mono l1.size)).trans (l3.mono (Nat.le_trans l1.size l2.size))).trans (hd4.below _)
  have s4 : w4.heap.size = w3.heap.size := by rw [hd4.heap]
  obtain ⟨m, Y, hm, hF⟩ := h.btw
  generalize hO : Obj.cells #[.slice (some ⟨w.heap.size, 0, none⟩) ((n + 7) / 8) ((n + 7) / 8), .slice (some ⟨w1.heap.size, 0, none⟩) ((n + 7) / 8) ((n + 7) / 8), vb] 29 = O
  have l5 : Below w.heap.size w (w4.alloc O) := l4.alloc l4.size _
  have a5 : (w4.alloc O).heap[w.heap.size]? = some (.cells (k8 (Bit.by V ((n + 7) / 8))).toArray 5 (0, 0)) := by
    rw [Below.heap_alloc _ _ _ (by rw [s4]; exact lt_of_block a3), hd4.heap]; exact a3
  have c5 : (w4.alloc O).heap[w1.heap.size]? = some (.cells (k8 (Bit.by V ((n + 7) / 8))).toArray 5 (0, 0)) := by
    rw [Below.heap_alloc _ _ _ (by rw [s4]; exact lt_of_block c3), hd4.heap]; exact c3
  have f5 : Full (w4.alloc O) w0.heap.size vb m Y := hF.keep (fun b hb => l5.block b (lt_of_block (hF.block hb).2))
  have vlt : ∀ b, vb.ownBlock = some b → b < w.heap.size := fun b hb => lt_of_block (hF.block hb).2
  have hv0 := h.bel.size
  have FL : Fl (w4.alloc O) (w4.alloc O) w0.heap.size w4.heap.size 3 (fun k => if k = 0 then .slice (some ⟨w.heap.size, 0, none⟩) ((n + 7) / 8) ((n + 7) / 8) else if k = 1 then .slice (some ⟨w1.heap.size, 0, none⟩) ((n + 7) / 8) ((n + 7) / 8) else vb) (fun k => if k < 2 then (n + 7) / 8 else m) (fun k => if k < 2 then Bit.by V ((n + 7) / 8) else Y) := by
    refine ⟨Onl.refl _ _, Nat.le_trans hv0 l5.size, ⟨#[.slice (some ⟨w.heap.size, 0, none⟩) ((n + 7) / 8) ((n + 7) / 8), .slice (some ⟨w1.heap.size, 0, none⟩) ((n + 7) / 8) ((n + 7) / 8), vb], by rw [← hO]; exact heap_alloc_new _ _, fun k hk => ?_⟩, fun k hk => ?_, fun j k hj hk hjk b hb => ?_, fun k hk => ?_⟩
    · obtain rfl | rfl | rfl : k = 0 ∨ k = 1 ∨ k = 2 := by omega
      all_goals rfl
    · obtain rfl | rfl | rfl : k = 0 ∨ k = 1 ∨ k = 2 := by omega
      · exact ⟨Bit.by_length _ _, .inr ⟨_, rfl, hv0, a5⟩⟩
      · exact ⟨Bit.by_length _ _, .inr ⟨_, rfl, by have := l1.size; omega, c5⟩⟩
      · exact f5
    · obtain rfl | rfl | rfl : j = 0 ∨ j = 1 ∨ j = 2 := by omega
      all_goals obtain rfl | rfl | rfl : k = 0 ∨ k = 1 ∨ k = 2 := by omega
      all_goals first
        | exact absurd rfl hjk
        | skip
      all_goals intro e
      · have e1 : w.heap.size = b := by injection hb
        have e2 : w1.heap.size = b := by injection e
        omega
      · have e1 : w.heap.size = b := by injection hb
        have := vlt b e; omega
      · have e1 : w1.heap.size = b := by injection hb
        have e2 : w.heap.size = b := by injection e
        omega
      · have e1 : w1.heap.size = b := by injection hb
        have := vlt b e; omega
      · have e1 : w.heap.size = b := by injection e
        have := vlt b hb; omega
      · have e1 : w1.heap.size = b := by injection e
        have := vlt b hb; omega
    · obtain rfl | rfl | rfl : k = 0 ∨ k = 1 ∨ k = 2 := by omega
      · exact hM
      · exact hM
      · exact hm
  refine (apart_any (w4.alloc O) w0.heap.size w4.heap.size 3 3 _ _ _ (by omega) FL).mono ?_
  rintro e w6 ⟨he6, ho⟩
  refine ⟨he6, ?_⟩
  have h6 : BX w0 w6 gw n V gd n V (.slice none 0 0) := by
    refine h.gone ?_ (fun k hk hkv => ?_) (.slice none 0 0) ⟨0, [], by omega, rfl, .inl ⟨rfl, rfl⟩⟩ (fun b hb => by cases hb)
    · have q : Below w0.heap.size w0 (w4.alloc O) := h.bel.trans (l5.mono hv0)
      refine q.trans (ho.below (Nat.le_trans hv0 l5.size) ?_)
      rintro b ⟨k, hk, hb⟩
      exact ((FL.row k hk).block hb).1
    · refine (ho.block k (Nat.lt_of_lt_of_le hk l5.size) ?_).trans (l5.block k hk)
      rintro ⟨j, hj, hb⟩
      obtain rfl | rfl | rfl : j = 0 ∨ j = 1 ∨ j = 2 := by omega
      · have e1 : w.heap.size = k := by injection hb
        omega
      · have e1 : w1.heap.size = k := by injection hb
        have := l1.size; omega
      · exact hkv k hb rfl
  refine (h6.bytes (by omega)).mono ?_
  rintro e w7 ⟨he7, h7, b7, l7⟩
  refine ⟨_, he7, ?_⟩
  refine (h7.dbytes hn).mono ?_
  rintro e w8 ⟨he8, h8, b8, l8⟩
  refine ⟨_, he8, ?_⟩
  have a8 : Byt w8 w6.heap.size V ((n + 7) / 8) := (l8.block _ (lt_of_block b7)).trans b7
  refine (same_any (Bit.by V ((n + 7) / 8)) _ _ _ _ _ w8 (by rw [Bit.by_length]) hM (a8.any hM) (b8.any hM)).mono ?_
  rintro e w9 ⟨he9, hd9⟩
  refine ⟨he9, ?_⟩
  have h9 := h8.drawn hd9
  refine (awake_any w9).mono ?_
  rintro e w10 ⟨he10, l10⟩
  exact ⟨he10, h9.bel.trans (l10.mono h9.bel.size)⟩
end Go.Proofs.Ytkfbcekhegdmjaa
