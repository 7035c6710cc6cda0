/- Laid together: RefCodes. -/
import Derived.Test.YtenkkononchgmaaGreatDoorDkB16

namespace Go.Proofs.YtenkkononchgmaaGreatDoor
open Go.RowKit Go

theorem Ref.tot_next (L : Nat → Int) (i : Nat) (h : 0 ≤ L i ∧ L i ≤ 15) : Huf.tot (Huf.cnt L (i + 1)) 16 = Huf.tot (Huf.cnt L i) 16 + if 0 < L i then 1 else 0 := by
 by_cases c : 0 < L i
 · rw [if_pos c, Huf.tot_step (Huf.cnt L i) (Huf.cnt L (i + 1)) (L i).toNat (fun k hk => by rw [Huf.cnt, if_neg (by omega)]; omega) (by rw [Huf.cnt, if_pos (by omega)]), if_pos (by omega)]
 · rw [if_neg c, Huf.tot_same (Huf.cnt L i) (Huf.cnt L (i + 1)) (fun k => by rw [Huf.cnt, if_neg (by omega)]; omega)]; omega
theorem Ref.take_next (L : Nat → Int) (i : Nat) (h : 0 ≤ L i ∧ L i ≤ 15) : Huf.take (Huf.cnt L (i + 1)) 16 = Huf.take (Huf.cnt L i) 16 + if 0 < L i then 2 ^ (15 - (L i).toNat) else 0 := by
 by_cases c : 0 < L i
 · rw [if_pos c, Huf.take_step (Huf.cnt L i) (Huf.cnt L (i + 1)) (L i).toNat (fun k hk => by rw [Huf.cnt, if_neg (by omega)]; omega) (by rw [Huf.cnt, if_pos (by omega)]), if_pos (by omega)]
 · rw [if_neg c, Huf.take_same (Huf.cnt L i) (Huf.cnt L (i + 1)) (fun k => by rw [Huf.cnt, if_neg (by omega)]; omega)]; omega
theorem Ref.cnt1_le (C : Nat → Nat) : C 1 ≤ Huf.tot C 16 := by simp [Huf.tot]; omega
theorem Ref.zero (L : Nat → Int) : Huf.tot (Huf.cnt L 0) 16 = 0 ∧ Huf.take (Huf.cnt L 0) 16 = 0 := by
 have h1 : ∀ K, Huf.tot (Huf.cnt L 0) K = 0 := fun K => by
   induction K with
   | zero => rfl
   | succ K ih => rw [Huf.tot, ih]; rfl
 have h2 : ∀ K, Huf.take (Huf.cnt L 0) K = 0 := fun K => by
   induction K with
   | zero => rfl
   | succ K ih => rw [Huf.take, ih]; simp [Huf.cnt]
 exact ⟨h1 16, h2 16⟩
structure Ref.MkS (L : Nat → Int) (i t k : Nat) (o : Bool) : Prop where
 et : t = Huf.tot (Huf.cnt L i) 16
 ek : k = Huf.take (Huf.cnt L i) 16
 eo : t = 1 → (o = true ↔ Huf.cnt L i 1 = 1)
 eok : ∀ j, j < i → 0 ≤ L j ∧ L j ≤ 15
theorem Ref.MkS.zero' {L : Nat → Int} {i t k : Nat} {o : Bool} (h : Ref.MkS L i t k o) (hl : L i = 0) : Ref.MkS L (i + 1) t k o := by
 have e : ∀ j, Huf.cnt L (i + 1) j = Huf.cnt L i j := fun j => by rw [Huf.cnt, if_neg (by omega)]; omega
 refine ⟨?_, ?_, fun h1 => by rw [e]; exact h.eo h1, fun j hj => ?_⟩
 · rw [Ref.tot_next L i (by omega), if_neg (by omega), ← h.et]; omega
 · rw [Ref.take_next L i (by omega), if_neg (by omega), ← h.ek]; omega
 · rcases Nat.lt_or_ge j i with c | c
   · exact h.eok j c
   · obtain rfl : j = i := by omega
     omega
theorem Ref.MkS.some {L : Nat → Int} {i t k l : Nat} {o : Bool} (h : Ref.MkS L i t k o) (hl : L i = (l : Int)) (h0 : 0 < l) (h15 : l ≤ 15) : Ref.MkS L (i + 1) (t + 1) (k + 2 ^ (15 - l)) (decide (l = 1)) := by
 refine ⟨?_, ?_, fun h1 => ?_, fun j hj => ?_⟩
 · rw [Ref.tot_next L i (by omega), if_pos (by omega), ← h.et]
 · rw [Ref.take_next L i (by omega), if_pos (by omega), ← h.ek, hl]; rfl
 · have h2 := Ref.cnt1_le (Huf.cnt L i)
   have h3 := h.et
   rw [Huf.cnt]
   by_cases c : l = 1
   · rw [if_pos (by omega)]; simp [c]; omega
   · rw [if_neg (by omega)]; simp [c]; omega
 · rcases Nat.lt_or_ge j i with c | c
   · exact h.eok j c
   · obtain rfl : j = i := by omega
     omega

set_option maxRecDepth 100000 in
set_option maxHeartbeats 4000000 in
theorem refMakes_any (a : Option Addr) (n cap : Nat) (L : Nat → Int) (w : World) (hI : Ints w a n cap L) (hn : n ≤ 1000000) :
   Calls Tryz.prog 168 #[.slice a n cap] w fun e w' => w' = w ∧ ((Huf.Makes L n ∧ e = .returned (.bool true)) ∨ (¬ Huf.Makes L n ∧ e = .returned (.bool false))) := by
 have HI : Hid (Ints w a n cap L) := hI
 have n6 : (n : Int) ≤ 1000000 := by omega
 clear hI hn
 go_enter Tryz.func168, Tryz.ntmps168
 by_cases h1 : 288 < n
 · have d1 : decide (288 < n) = true := decide_eq_true h1
   have HNO : Hid (¬ Huf.Makes L n) := fun h => by have := h.1.1; omega
   go_wp2
   go_returns
   exact ⟨rfl, .inr ⟨HNO.out, rfl⟩⟩
 · have d1 : decide (288 < n) = false := decide_eq_false h1
   have H1 : Hid (n ≤ 288) := by show _ ≤ _; omega
   go_wp2_with fail
   go_loopw [3, 4, 5, 6] (fun v3 v4 v5 v6 wr => ∃ (i t k : Nat) (o : Bool), i ≤ n ∧ v3 = .int .i64 (t : Int) ∧ v4 = .int .i64 (k : Int) ∧ v5 = .bool o ∧ v6 = .int .i64 (i : Int) ∧ wr = w ∧ Ref.MkS L i t k o) (fun _ _ _ v6 _ => (n - intOf v6).toNat)
   case atStart => exact ⟨0, 0, 0, false, by omega, rfl, rfl, rfl, rfl, rfl, ⟨(Ref.zero L).1.symm, (Ref.zero L).2.symm, fun h => by omega, fun j hj => by omega⟩⟩
   case round =>
     obtain ⟨i, t, k, o, hi, rfl, rfl, rfl, rfl, rfl, hs⟩ := hrel
     have HS : Hid (Ref.MkS L i t k o) := hs
     have t6 : (t : Int) ≤ 1000000 := by
       have := Huf.tot_cnt L i hs.eok
       have := hs.et
       omega
     have k6 : (k : Int) ≤ 151000000 := by
       have h1 := hs.ek
       have h2 := Huf.take_le (Huf.cnt L i) 288 (fun j => by have := Huf.cnt_le L j i; have := H1.out; omega) 16
       omega
     clear hs
     by_cases hlt : i < n
     · have hdi : decide (i < n) = true := decide_eq_true hlt
       obtain ⟨s, ofs, rfl, hsz, hc⟩ := HI.out.at_ hlt
       obtain ⟨x, hx⟩ : ∃ x, x = L i := ⟨_, rfl⟩
       rw [← hx] at hc
       have HX := Lib.hid hx; clear hx
       have hiI : (i : Int) < (n : Int) := by omega
       by_cases hx0 : x < 0
       · have e1 : decide (x < 0) = true := decide_eq_true hx0
         have HNO : Hid (¬ Huf.Makes L n) := fun h => by have := (h.1.2 i hlt).1; rw [← HX.out] at this; omega
         go_wp2
         go_returns
         exact ⟨rfl, .inr ⟨HNO.out, rfl⟩⟩
       · have e1 : decide (x < 0) = false := decide_eq_false hx0
         by_cases hx1 : 15 < x
         · have e2 : decide (15 < x) = true := decide_eq_true hx1
           have HNO : Hid (¬ Huf.Makes L n) := fun h => by have := (h.1.2 i hlt).2; rw [← HX.out] at this; omega
           go_wp2
           go_returns
           exact ⟨rfl, .inr ⟨HNO.out, rfl⟩⟩
         · have e2 : decide (15 < x) = false := decide_eq_false hx1
           obtain ⟨l, rfl⟩ : ∃ l : Nat, x = (l : Int) := ⟨x.toNat, by omega⟩
           by_cases hl0 : 0 < l
           · have e3 : decide (0 < l) = true := decide_eq_true hl0
             have hl15 : l ≤ 15 := by omega
             have HNX : Hid (Ref.MkS L (i + 1) (t + 1) (k + 2 ^ (15 - l)) (decide (l = 1))) := HS.out.some HX.out.symm hl0 hl15
             obtain ⟨sh, hsh⟩ : ∃ sh, sh = 15 - l := ⟨_, rfl⟩
             obtain ⟨v, hv⟩ : ∃ v, v = 2 ^ (15 - l) := ⟨_, rfl⟩
             rw [← hv] at HNX
             have hshI : 15 - (l : Int) = (sh : Int) := by omega
             have hvI : (2 : Int) ^ sh = (v : Int) := by rw [hv, hsh]; simp
             have v6 : (v : Int) ≤ 32768 := by
               have : 2 ^ (15 - l) ≤ 2 ^ 15 := Nat.pow_le_pow_right (by omega) (by omega)
               omega
             have sh6 : (sh : Int) ≤ 15 := by omega
             have hl0I : (0 : Int) < (l : Int) := by omega
             have HB : Hid (((l : Int) == 1) = decide (l = 1)) := by show _ = _; rw [Bool.eq_iff_iff]; simp; omega
             clear hsh hv
             go_wp2
             exact ⟨⟨i + 1, t + 1, k + v, decide (l = 1), by omega, by go_num, by go_num, by rw [← HB.out], by go_num, trivial, HNX.out⟩, by simp [intOf]; omega⟩
           · have e3 : decide (0 < l) = false := decide_eq_false hl0
             obtain rfl : l = 0 := by omega
             have HNX : Hid (Ref.MkS L (i + 1) t k o) := HS.out.zero' HX.out.symm
             go_wp2
             exact ⟨⟨i + 1, t, k, o, by omega, rfl, rfl, rfl, by go_num, trivial, HNX.out⟩, by simp [intOf]; omega⟩
     · obtain rfl : i = n := by omega
       have hdi : decide (i < i) = false := decide_eq_false (by omega)
       have HMK : Hid (Huf.Makes L i ↔ (t = 0 ∨ k = 32768 ∨ (t = 1 ∧ o = true))) := by
         have hs := HS.out
         show _ ↔ _
         unfold Huf.Makes Huf.mk Huf.ok
         rw [← hs.et, ← hs.ek]
         simp only [Bool.or_eq_true, Bool.and_eq_true, decide_eq_true_eq]
         constructor
         · rintro ⟨_, (h | h) | ⟨h, h2⟩⟩
           · exact .inl h
           · exact .inr (.inl h)
           · exact .inr (.inr ⟨h, (hs.eo h).2 h2⟩)
         · intro h
           refine ⟨⟨H1.out, hs.eok⟩, ?_⟩
           rcases h with h | h | ⟨h, h2⟩
           · exact .inl (.inl h)
           · exact .inl (.inr h)
           · exact .inr ⟨h, (hs.eo h).1 h2⟩
       clear HS
       by_cases q1 : t = 0
       · have HY : Hid (Huf.Makes L i) := HMK.out.2 (.inl q1)
         clear HMK
         subst q1
         have e1 : ((0 : Int) == 0) = true := rfl
         go_wp2
         go_returns
         exact ⟨rfl, .inl ⟨HY.out, rfl⟩⟩
       · have e1 : ((t : Int) == 0) = false := by simp; omega
         have q1I : ¬ (t : Int) = 0 := by omega
         by_cases q2 : k = 32768
         · have e2 : ((k : Int) == 32768) = true := by simp; omega
           have HY : Hid (Huf.Makes L i) := HMK.out.2 (.inr (.inl q2))
           clear HMK
           subst q2
           go_wp2
           go_returns
           exact ⟨rfl, .inl ⟨HY.out, rfl⟩⟩
         · have e2 : ((k : Int) == 32768) = false := by simp; omega
           have q2I : ¬ (k : Int) = 32768 := by omega
           by_cases q3 : t = 1
           · cases o with
             | true =>
               have HY : Hid (Huf.Makes L i) := HMK.out.2 (.inr (.inr ⟨q3, rfl⟩))
               clear HMK
               subst q3
               go_wp2
               go_returns
               exact ⟨rfl, .inl ⟨HY.out, rfl⟩⟩
             | false =>
               have HY : Hid (¬ Huf.Makes L i) := fun h => by
                 rcases HMK.out.1 h with h | h | ⟨_, h⟩
                 · exact q1 h
                 · exact q2 h
                 · cases h
               clear HMK
               subst q3
               go_wp2
               go_returns
               exact ⟨rfl, .inr ⟨HY.out, rfl⟩⟩
           · have e3 : ((t : Int) == 1) = false := by simp; omega
             have q3I : ¬ (t : Int) = 1 := by omega
             have HY : Hid (¬ Huf.Makes L i) := fun h => by
               rcases HMK.out.1 h with h | h | ⟨h, _⟩
               · exact q1 h
               · exact q2 h
               · exact q3 h
             clear HMK
             go_wp2
             go_returns
             exact ⟨rfl, .inr ⟨HY.out, rfl⟩⟩
end Go.Proofs.YtenkkononchgmaaGreatDoor

/- The walk of the document's own Codes. -/
namespace Go.Proofs.YtenkkononchgmaaGreatDoor
open Go.RowKit Go

def Ref.done (L : Nat → Int) (k i t : Nat) : Bool := decide (0 < L t ∧ (L t < (k : Int) ∨ (L t = (k : Int) ∧ t < i)))
structure Ref.CdS (w0 w : World) (G n : Nat) (L : Nat → Int) (k i c l : Nat) : Prop where
 bel : Below w0.heap.size w0 w
 lo : w0.heap.size ≤ G
 row : w.heap[G]? = some (.cells (ki n fun t => if Ref.done L k i t = true then (Huf.code L n t : Nat) else 0) 3 (0, 0))
 le : l ≤ k
 c0 : l = 0 → c = 0
 val : c * 2 ^ (k - l) = Huf.fst (Huf.cnt L n) k + Huf.cnt L i k
theorem Ref.CdS.skip {w0 w : World} {G n : Nat} {L : Nat → Int} {k i c l : Nat} (h : Ref.CdS w0 w G n L k i c l) (_hk : 1 ≤ k) (hl : ¬ L i = (k : Int)) : Ref.CdS w0 w G n L k (i + 1) c l := by
 refine ⟨h.bel, h.lo, ?_, h.le, h.c0, ?_⟩
 · rw [h.row]
   congr 2
   refine ki_congr fun t _ => ?_
   have e : Ref.done L k (i + 1) t = Ref.done L k i t := by
     unfold Ref.done
     rw [decide_eq_decide]
     constructor
     · rintro ⟨h1, h2 | ⟨h2, h3⟩⟩
       · exact ⟨h1, .inl h2⟩
       · refine ⟨h1, .inr ⟨h2, ?_⟩⟩
         have : t ≠ i := fun e => hl (e ▸ h2)
         omega
     · rintro ⟨h1, h2 | ⟨h2, h3⟩⟩
       · exact ⟨h1, .inl h2⟩
       · exact ⟨h1, .inr ⟨h2, by omega⟩⟩
   rw [e]
 · rw [h.val, Huf.cnt, if_neg (by omega)]; omega
theorem Ref.CdS.put {w0 w : World} {G n : Nat} {L : Nat → Int} {k i c l : Nat} (h : Ref.CdS w0 w G n L k i c l) (hk : 1 ≤ k) (hi : i < n) (hl : L i = (k : Int)) :
   Ref.CdS w0 (w.setCell ⟨G, i, none⟩ (.int .i64 ((c * 2 ^ (k - l) : Nat) : Int))) G n L k (i + 1) (c * 2 ^ (k - l) + 1) k := by
 refine ⟨below_of_gb h.bel (gb_setCell (gb_refl _ _) _) h.lo h.bel.size, h.lo, ?_, Nat.le_refl _, fun e => by omega, ?_⟩
 · rw [heap_setCell_same _ _ _ _ _ _ h.row, ki_set _ _ _ _ hi]
   congr 2
   refine ki_congr fun t _ => ?_
   by_cases e : t = i
   · subst e
     have hd : Ref.done L k (t + 1) t = true := by unfold Ref.done; rw [decide_eq_true_eq]; exact ⟨by omega, .inr ⟨hl, by omega⟩⟩
     rw [if_pos rfl, if_pos hd, Huf.code, if_pos (by omega), hl, h.val]; rfl
   · have e2 : Ref.done L k (i + 1) t = Ref.done L k i t := by
       unfold Ref.done
       rw [decide_eq_decide]
       constructor
       · rintro ⟨h1, h2 | ⟨h2, h3⟩⟩
         · exact ⟨h1, .inl h2⟩
         · exact ⟨h1, .inr ⟨h2, by omega⟩⟩
       · rintro ⟨h1, h2 | ⟨h2, h3⟩⟩
         · exact ⟨h1, .inl h2⟩
         · exact ⟨h1, .inr ⟨h2, by omega⟩⟩
     rw [if_neg e, e2]
 · rw [Nat.sub_self, Nat.pow_zero, Nat.mul_one, h.val, Huf.cnt, if_pos ⟨by omega, hl⟩]; omega
theorem Ref.CdS.next {w0 w : World} {G n : Nat} {L : Nat → Int} {k c l : Nat} (h : Ref.CdS w0 w G n L k n c l) : Ref.CdS w0 w G n L (k + 1) 0 c l := by
 refine ⟨h.bel, h.lo, ?_, by have := h.le; omega, h.c0, ?_⟩
 · rw [h.row]
   congr 2
   refine ki_congr fun t ht => ?_
   have e : Ref.done L (k + 1) 0 t = Ref.done L k n t := by
     unfold Ref.done
     rw [decide_eq_decide]
     constructor
     · rintro ⟨h1, h2 | ⟨h2, h3⟩⟩
       · by_cases c : L t = (k : Int)
         · exact ⟨h1, .inr ⟨c, ht⟩⟩
         · exact ⟨h1, .inl (by omega)⟩
       · omega
     · rintro ⟨h1, h2 | ⟨h2, h3⟩⟩
       · exact ⟨h1, .inl (by omega)⟩
       · exact ⟨h1, .inl (by omega)⟩
   rw [e]
 · have h1 := h.val
   have h2 := h.le
   rw [show k + 1 - l = (k - l) + 1 by omega, Nat.pow_succ, ← Nat.mul_assoc, h1, Huf.fst]
   have : Huf.cnt L 0 (k + 1) = 0 := rfl
   omega

set_option maxRecDepth 100000 in
set_option maxHeartbeats 4000000 in
theorem refCodes_any (a : Option Addr) (n cap : Nat) (L : Nat → Int) (w : World) (hI : Ints w a n cap L) (hn : n ≤ 1000000) :
   Calls Tryz.prog 144 #[.slice a n cap] w fun e w' => Below w.heap.size w w' ∧ ((Huf.Makes L n ∧ ∃ G, w.heap.size ≤ G ∧ w'.heap[G]? = some (.cells (ki n fun t => (Huf.code L n t : Nat)) 3 (0, 0)) ∧ e = .returned (.tuple #[.slice (some ⟨G, 0, none⟩) n n, .int .i64 0])) ∨ (¬ Huf.Makes L n ∧ e = .returned (.tuple #[.slice none 0 0, .int .i64 2]))) := by
 have HI : Hid (Ints w a n cap L) := hI
 have HMK := refMakes_any a n cap L w hI hn
 have n6 : (n : Int) ≤ 1000000 := by omega
 have hmk := run_ints n hn
 clear hI hn
 go_enter Tryz.func144, Tryz.ntmps144
 go_wp2_with fail
 refine HMK.mono ?_
 rintro e w' ⟨rfl, hr⟩
 clear HMK
 rcases hr with ⟨hm, rfl⟩ | ⟨hno, rfl⟩
 · have HM := Lib.hid hm; clear hm
   have HS0 : Hid (Ref.CdS w' (w'.alloc (.cells (ki n fun _ => 0) 3)) w'.heap.size n L 1 0 0 0) := by
     refine ⟨(Below.refl _ _).alloc (Nat.le_refl _) _, Nat.le_refl _, ?_, by omega, fun _ => rfl, ?_⟩
     · rw [heap_alloc_new]
       congr 2
       refine ki_congr fun t _ => ?_
       have : Ref.done L 1 0 t = false := by
         unfold Ref.done
         rw [decide_eq_false_iff_not]
         rintro ⟨h1, h2 | ⟨h2, h3⟩⟩ <;> omega
       rw [this]; rfl
     · rw [Huf.fst, Huf.fst, Huf.cnt_zero]; rfl
   go_wp2_with fail
   generalize hw1 : w'.alloc (.cells (ki n fun _ => 0) 3) = w1 at *
   clear hw1 hmk
   obtain ⟨G, hG⟩ : ∃ G, G = w'.heap.size := ⟨_, rfl⟩
   rw [← hG] at HS0 ⊢
   clear hG
   go_loopw [5, 6, 7] (fun v5 v6 v7 wr => ∃ k c l : Nat, 1 ≤ k ∧ k ≤ 16 ∧ v5 = .int .i64 ((c : Int) - 1) ∧ v6 = .int .i64 (l : Int) ∧ v7 = .int .i64 (k : Int) ∧ Ref.CdS w' wr G n L k 0 c l) (fun _ _ v7 _ => (16 - intOf v7).toNat)
   case atStart => exact ⟨1, 0, 0, by omega, by omega, rfl, rfl, rfl, HS0.out⟩
   case round =>
     clear HS0
     obtain ⟨k, c, l, hk1, hk, rfl, rfl, rfl, hs⟩ := hrel
     have HS := Lib.hid hs; clear hs
     by_cases hlt : k ≤ 15
     · have hd : decide (k ≤ 15) = true := decide_eq_true hlt
       go_wp2_with fail
       generalize wr = wo at *
       have HK : Hid (1 ≤ k ∧ k ≤ 15) := ⟨hk1, hlt⟩
       go_loopw [5, 6, 8] (fun v5 v6 v8 wr => ∃ i c l : Nat, i ≤ n ∧ v5 = .int .i64 ((c : Int) - 1) ∧ v6 = .int .i64 (l : Int) ∧ v8 = .int .i64 (i : Int) ∧ Ref.CdS w' wr G n L k i c l) (fun _ _ v8 _ => (n - intOf v8).toNat)
       case atStart => exact ⟨0, c, l, by omega, rfl, rfl, rfl, HS.out⟩
       case round =>
         clear HS
         obtain ⟨i, c, l, hi, rfl, rfl, rfl, hs⟩ := hrel
         have HS := Lib.hid hs; clear hs
         have hv6 : c * 2 ^ (k - l) ≤ 40000000 := by
           have h0 := HS.out.val
           have h1 := Huf.fst_le (Huf.cnt L n) 288 (fun j => Nat.le_trans (Huf.cnt_le L j n) HM.out.1.1) k
           have h2 : 2 ^ (k + 1) ≤ 2 ^ 16 := Nat.pow_le_pow_right (by omega) (by omega)
           have h3 : 288 * 2 ^ (k + 1) ≤ 288 * 2 ^ 16 := Nat.mul_le_mul_left _ h2
           have h4 := Huf.cnt_le L k i
           have := HM.out.1.1
           omega
         have hc6 : c ≤ 40000000 := Nat.le_trans (Nat.le_mul_of_pos_right _ (Nat.two_pow_pos _)) hv6
         have c6 : (c : Int) ≤ 40000000 := by omega
         have l6 : (l : Int) ≤ 15 := by have := HS.out.le; omega
         by_cases hin : i < n
         · have hdi : decide (i < n) = true := decide_eq_true hin
           obtain ⟨s, o, rfl, hsz, hc⟩ := (HI.out.later HS.out.bel).at_ hin
           obtain ⟨x, hx⟩ : ∃ x, x = L i := ⟨_, rfl⟩
           rw [← hx] at hc
           have HX := Lib.hid hx; clear hx
           have hiI : (i : Int) < (n : Int) := by omega
           by_cases hxk : x = (k : Int)
           · subst hxk
             have hek : ((k : Int) == (k : Int)) = true := by simp
             have HNX := Lib.hid (HS.out.put hk1 hin HX.out.symm)
             have c1 := ki_cell HS.out.row i hin
             have f1 : wr.frozen? ⟨G, i, none⟩ = false := frozen_of_row _ _ _ _ _ HS.out.row
             obtain ⟨v, hv⟩ : ∃ v, v = c * 2 ^ (k - l) := ⟨_, rfl⟩
             rw [← hv] at HNX hv6
             have v6 : (v : Int) ≤ 40000000 := by omega
             generalize (if Ref.done L k i i = true then ((Huf.code L n i : Nat) : Int) else 0) = cold at *
             by_cases hl0 : 0 < l
             · have hdl : decide (0 < l) = true := decide_eq_true hl0
               obtain ⟨sh, hsh⟩ : ∃ sh, sh = k - l := ⟨_, rfl⟩
               have hshI : (k : Int) - (l : Int) = (sh : Int) := by have := HS.out.le; omega
               have hvI : (c : Int) * 2 ^ sh = (v : Int) := by rw [hv, hsh]; simp
               have hl0I : (0 : Int) < (l : Int) := by omega
               have sh6 : (sh : Int) ≤ 15 := by omega
               clear hv hsh
               go_wp2
               exact ⟨⟨i + 1, v + 1, k, by omega, by congr 1; omega, rfl, by go_num, HNX.out⟩, by simp [intOf]; omega⟩
             · have hdl : decide (0 < l) = false := decide_eq_false hl0
               obtain rfl : l = 0 := by omega
               have hc0 := HS.out.c0 rfl
               subst hc0
               have hv0 : v = 0 := by rw [hv, Nat.zero_mul]
               subst hv0
               clear hv
               go_wp2
               exact ⟨⟨i + 1, 1, k, by omega, by congr 1, rfl, by go_num, HNX.out⟩, by simp [intOf]; omega⟩
           · have hek : (x == (k : Int)) = false := by simp [hxk]
             have HNX := Lib.hid (HS.out.skip hk1 (by rw [← HX.out]; exact hxk))
             go_wp2
             exact ⟨⟨i + 1, c, l, by omega, rfl, rfl, by go_num, HNX.out⟩, by simp [intOf]; omega⟩
         · obtain rfl : i = n := by omega
           have hdi : decide (i < i) = false := decide_eq_false (by omega)
           have HNX := Lib.hid HS.out.next
           clear HS
           go_wp2
           have := HK.out
           exact ⟨⟨k + 1, c, l, by omega, by omega, rfl, rfl, by go_num, HNX.out⟩, by simp [intOf]; omega⟩
     · obtain rfl : k = 16 := by omega
       have hd : decide ((16 : Nat) ≤ 15) = false := rfl
       have hrow := HS.out.row
       have e : ki n (fun t => if Ref.done L 16 0 t = true then ((Huf.code L n t : Nat) : Int) else 0) = ki n (fun t => (Huf.code L n t : Nat)) := ki_congr fun t ht => by
         by_cases c : 0 < L t
         · have : Ref.done L 16 0 t = true := by
             unfold Ref.done
             rw [decide_eq_true_eq]
             have := HM.out.1.2 t ht
             exact ⟨c, .inl (by omega)⟩
           rw [if_pos this]
         · have : Ref.done L 16 0 t = false := by
             unfold Ref.done
             rw [decide_eq_false_iff_not]
             exact fun h => c h.1
           rw [this, Huf.code, if_neg c]; rfl
       rw [e] at hrow
       have HE : Hid (Below w'.heap.size w' wr ∧ w'.heap.size ≤ G ∧ wr.heap[G]? = some (.cells (ki n fun t => (Huf.code L n t : Nat)) 3 (0, 0))) := ⟨HS.out.bel, HS.out.lo, hrow⟩
       clear hrow e HS
       go_wp2
       go_returns
       exact ⟨HE.out.1, .inl ⟨HM.out, G, HE.out.2.1, HE.out.2.2, rfl⟩⟩
 · go_wp2
   go_returns
   exact ⟨Below.refl _ _, .inr ⟨hno, rfl⟩⟩
end Go.Proofs.YtenkkononchgmaaGreatDoor
