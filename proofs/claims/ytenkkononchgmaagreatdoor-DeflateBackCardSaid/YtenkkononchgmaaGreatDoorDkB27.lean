/- Laid together: DfShrt. -/
import Derived.Test.YtenkkononchgmaaGreatDoorDkB25

namespace Go.Proofs.YtenkkononchgmaaGreatDoor
open Lz (Pc)

def Inf.nal (c : Nat) : List Nat → Nat
 | [] => 0
 | d :: r => if d = c then Inf.nal c r + 1 else 0
theorem Inf.nal_le (c : Nat) : ∀ l, Inf.nal c l ≤ l.length
 | [] => Nat.le_refl _
 | d :: r => by have := Inf.nal_le c r; rw [Inf.nal, List.length_cons]; split <;> omega
theorem Inf.nal_take (c : Nat) : ∀ (l : List Nat) (k : Nat), k ≤ Inf.nal c l → l.take k = List.replicate k c
 | [], k, h => by
   have : k = 0 := by simp only [Inf.nal] at h; omega
   subst this; rfl
 | d :: r, k, h => by
   rw [Inf.nal] at h
   split at h
   · rename_i e
     rcases k with _ | k
     · rfl
     · rw [List.take_succ_cons, Inf.nal_take c r k (by omega), List.replicate_succ, e]
   · have : k = 0 := by omega
     subst this; rfl
theorem Inf.nal_eq (c : Nat) : ∀ (l : List Nat) (k : Nat), (∀ j, j < k → l.getD j 0 = c) → k ≤ l.length → (k = l.length ∨ l.getD k 0 ≠ c) → Inf.nal c l = k
 | [], k, _, h, _ => by simp only [List.length_nil] at h; rw [Inf.nal]; omega
 | d :: r, 0, _, _, h => by
   rcases h with h | h
   · simp at h
   · rw [Inf.nal, if_neg]
     intro e; exact h (by simpa using e)
 | d :: r, k + 1, h1, h2, h3 => by
   have h0 := h1 0 (by omega)
   rw [Inf.nal, if_pos (by simpa using h0), Inf.nal_eq c r k (fun j hj => by have := h1 (j + 1) (by omega); simpa using this) (by simpa using h2) (by
     rcases h3 with h3 | h3
     · left; simpa using h3
     · right; simpa using h3)]
def Inf.shn (R : List Nat) (i : Nat) : Inf.Sm × Nat :=
 if R.getD i 0 = 0 ∧ 11 ≤ Inf.nal (R.getD i 0) (R.drop i) then (⟨18, min (Inf.nal (R.getD i 0) (R.drop i)) 138 - 11, 7⟩, min (Inf.nal (R.getD i 0) (R.drop i)) 138)
 else if R.getD i 0 = 0 ∧ 3 ≤ Inf.nal (R.getD i 0) (R.drop i) then (⟨17, Inf.nal (R.getD i 0) (R.drop i) - 3, 3⟩, Inf.nal (R.getD i 0) (R.drop i))
 else if 0 < i ∧ R.getD i 0 = R.getD (i - 1) 0 ∧ 3 ≤ Inf.nal (R.getD i 0) (R.drop i) then (⟨16, min (Inf.nal (R.getD i 0) (R.drop i)) 6 - 3, 2⟩, min (Inf.nal (R.getD i 0) (R.drop i)) 6)
 else (⟨R.getD i 0, 0, 0⟩, 1)
theorem Inf.nal_drop {R : List Nat} {i : Nat} (h : i < R.length) : 1 ≤ Inf.nal (R.getD i 0) (R.drop i) ∧ Inf.nal (R.getD i 0) (R.drop i) ≤ R.length - i := by
 refine ⟨?_, by have := Inf.nal_le (R.getD i 0) (R.drop i); rwa [List.length_drop] at this⟩
 rw [List.drop_eq_getElem_cons h, Inf.nal, if_pos (by rw [List.getD_eq_getElem?_getD, List.getElem?_eq_getElem h]; rfl)]
 omega
theorem Inf.shn_ok {R : List Nat} (hR : ∀ x ∈ R, x ≤ 15) {i : Nat} (h : i < R.length) : (Inf.shn R i).1.p < 19 ∧ (Inf.shn R i).1.x < 2 ^ (Inf.shn R i).1.k ∧ (Inf.shn R i).1.k ≤ 7 ∧ 1 ≤ (Inf.shn R i).2 ∧ (Inf.shn R i).2 ≤ R.length - i ∧ (Inf.shn R i).1.k = Inf.lw (Inf.shn R i).1.p
   ∧ (Inf.shn R i).2 = Inf.lk (Inf.shn R i).1.p + (Inf.shn R i).1.x ∧ ((Inf.shn R i).1.p = 16 → 0 < i) ∧ (Inf.shn R i).2 ≤ Inf.nal (R.getD i 0) (R.drop i) ∧ Inf.lv (Inf.shn R i).1.p (R.take i) = R.getD i 0 := by
 obtain ⟨n1, n2⟩ := Inf.nal_drop h
 have hc : R.getD i 0 ≤ 15 := by
   rw [List.getD_eq_getElem?_getD, List.getElem?_eq_getElem h]; exact hR _ (List.getElem_mem h)
 unfold Inf.shn
 have ht : (R.take i).getD ((R.take i).length - 1) 0 = R.getD (i - 1) 0 ∨ i = 0 := by
   rcases Nat.eq_zero_or_pos i with e | e
   · exact .inr e
   · left
     rw [List.length_take, Nat.min_eq_left (by omega), List.getD_eq_getElem?_getD, List.getElem?_take, if_pos (by omega), ← List.getD_eq_getElem?_getD]
 generalize Inf.nal (R.getD i 0) (R.drop i) = n at *
 generalize R.getD i 0 = c at *
 have p7 : (2 : Nat) ^ 7 = 128 := rfl
 have p3 : (2 : Nat) ^ 3 = 8 := rfl
 have p2 : (2 : Nat) ^ 2 = 4 := rfl
 by_cases c1 : c = 0 ∧ 11 ≤ n
 · rw [if_pos c1]
   dsimp only
   refine ⟨by omega, by omega, by omega, by omega, by omega, rfl, ?_, by omega, by omega, ?_⟩
   · show _ = 11 + _; omega
   · rw [c1.1]; rfl
 · rw [if_neg c1]
   by_cases c2 : c = 0 ∧ 3 ≤ n
   · rw [if_pos c2]
     dsimp only
     refine ⟨by omega, by omega, by omega, by omega, by omega, rfl, ?_, by omega, by omega, ?_⟩
     · show _ = 3 + _; omega
     · rw [c2.1]; rfl
   · rw [if_neg c2]
     by_cases c3 : 0 < i ∧ c = R.getD (i - 1) 0 ∧ 3 ≤ n
     · rw [if_pos c3]
       dsimp only
       refine ⟨by omega, by omega, by omega, by omega, by omega, rfl, ?_, fun _ => c3.1, by omega, ?_⟩
       · show _ = 3 + _; omega
       · rcases ht with ht | ht
         · show (R.take i).getD ((R.take i).length - 1) 0 = c
           rw [ht]; exact c3.2.1.symm
         · omega
     · rw [if_neg c3]
       dsimp only
       have e1 : Inf.lw c = 0 := by unfold Inf.lw; rw [if_neg (by omega), if_neg (by omega), if_neg (by omega)]
       have e2 : Inf.lk c = 1 := by unfold Inf.lk; rw [if_neg (by omega), if_neg (by omega), if_neg (by omega)]
       have e3 : Inf.lv c (R.take i) = c := by unfold Inf.lv; rw [if_neg (by omega), if_neg (by omega), if_neg (by omega)]
       exact ⟨by omega, by decide, by omega, by omega, by omega, e1.symm, by rw [e2], by omega, by omega, e3⟩
def Inf.sho (R : List Nat) : Nat → Nat → List Inf.Sm
 | 0, _ => []
 | f + 1, i => if i < R.length then (Inf.shn R i).1 :: Inf.sho R f (i + (Inf.shn R i).2) else []
theorem Inf.sho_len (R : List Nat) (hR : ∀ x ∈ R, x ≤ 15) : ∀ f i, (Inf.sho R f i).length ≤ R.length - i
 | 0, _ => Nat.zero_le _
 | f + 1, i => by
   rw [Inf.sho]
   by_cases h : i < R.length
   · rw [if_pos h, List.length_cons]
     have := Inf.sho_len R hR f (i + (Inf.shn R i).2)
     have := (Inf.shn_ok hR h).2.2.2.1
     omega
   · rw [if_neg h]; exact Nat.zero_le _
theorem Inf.sho_ok (R : List Nat) (hR : ∀ x ∈ R, x ≤ 15) : ∀ f i, ∀ s ∈ Inf.sho R f i, s.p < 19 ∧ s.x < 2 ^ s.k ∧ s.k ≤ 7
 | 0, _, _, h => by cases h
 | f + 1, i, s, hs => by
   rw [Inf.sho] at hs
   by_cases h : i < R.length
   · rw [if_pos h] at hs
     rcases List.mem_cons.1 hs with rfl | hs
     · have := Inf.shn_ok hR h
       exact ⟨this.1, this.2.1, this.2.2.1⟩
     · exact Inf.sho_ok R hR f _ s hs
   · rw [if_neg h] at hs; cases hs
theorem Inf.sho_end (R : List Nat) (f i : Nat) (h : R.length ≤ i) : Inf.sho R f i = [] := by
 cases f with
 | zero => rfl
 | succ f => rw [Inf.sho, if_neg (by omega)]
theorem Inf.lgo_row {C R : List Nat} (hC : Inf.Mk C) (hR : ∀ x ∈ R, x ≤ 15) (m : Nat) : ∀ (f i n V : Nat), i ≤ R.length → R.length - i ≤ f → Inf.Has (fun t => C.getD t 0) (Inf.sho R f i) → V < 2 ^ n →
   Inf.LGo C m n V (Inf.putn (Inf.tel (Inf.wd C) (fun t => C.getD t 0) (Inf.sho R f i)) n) (Inf.putv (Inf.tel (Inf.wd C) (fun t => C.getD t 0) (Inf.sho R f i)) n V) (R.take i) R
 | 0, i, n, V, h1, h2, _, hV => by
   rw [List.take_of_length_le (by omega)]
   exact Inf.LGo.refl hV R
 | f + 1, i, n, V, h1, h2, hh, hV => by
   by_cases h : i < R.length
   · obtain ⟨a1, a2, a3, a4, a5, a6, a7, a8, a9, a10⟩ := Inf.shn_ok hR h
     have e : Inf.sho R (f + 1) i = (Inf.shn R i).1 :: Inf.sho R f (i + (Inf.shn R i).2) := by rw [Inf.sho, if_pos h]
     rw [e] at hh ⊢
     have h0 := hh _ (List.mem_cons_self ..)
     have hs := (Inf.Cut.all C).sy hC h0 hV
     have hl := Inf.LGo.sym (m := m) (A := R.take i) hs (by rw [← a6]; exact a2) ⟨rfl, rfl⟩ (fun e16 => by rw [List.length_take]; have := a8 e16; omega)
     have ht : R.take i ++ List.replicate (Inf.lk (Inf.shn R i).1.p + (Inf.shn R i).1.x) (Inf.lv (Inf.shn R i).1.p (R.take i)) = R.take (i + (Inf.shn R i).2) := by
       rw [a10, ← a7, ← Inf.nal_take _ _ _ a9, List.take_add]
     rw [ht] at hl
     rw [← a6] at hl
     rw [Inf.tel, Inf.putn, Inf.putn, Inf.putv, Inf.putv]
     exact hl.trans (Inf.lgo_row hC hR m f _ _ _ (by omega) (by omega) (fun s hs => hh s (List.mem_cons_of_mem _ hs)) hl.lt)
   · rw [Inf.sho_end R _ i (by omega), List.take_of_length_le (by omega)]
     exact Inf.LGo.refl hV R
def Inf.ino (C : List Nat) : List Nat := Inf.order.map fun j => C.getD j 0
theorem Inf.ino_get (C : List Nat) {i : Nat} (h : i < 19) : (Inf.ino C).getD i 0 = C.getD (Inf.order.getD i 0) 0 := by
 rw [List.getD_eq_getElem?_getD, Inf.ino, List.getElem?_map, List.getD_eq_getElem?_getD (l := Inf.order), List.getElem?_eq_getElem (show i < Inf.order.length from h)]
 rfl
theorem Inf.ino_len (C : List Nat) : (Inf.ino C).length = 19 := by rw [Inf.ino, List.length_map]; rfl
def Inf.alike (k : Nat) (l : List Nat) : List (Nat × Nat) := l.map fun x => (x, k)
theorem Inf.sho_puts (C : List Nat) (hC : ∀ x ∈ C, x < 8) : ∀ (l : List Nat) (i p V q Vq : Nat), (∀ j, j < l.length → l.getD j 0 = C.getD (Inf.order.getD (i + j) 0) 0) → Inf.Sho C i p V q Vq →
   Inf.Sho C (i + l.length) p V (Inf.putn (Inf.alike 3 l) q) (Inf.putv (Inf.alike 3 l) q Vq)
 | [], i, p, V, q, Vq, _, h => h
 | x :: l, i, p, V, q, Vq, hl, h => by
   have h0 := hl 0 (by simp)
   have h1 := h.snoc (x := x) (by
     have e : x = C.getD (Inf.order.getD i 0) 0 := by simpa using h0
     rw [e, List.getD_eq_getElem?_getD]
     by_cases c : Inf.order.getD i 0 < C.length
     · rw [List.getElem?_eq_getElem c]; exact hC _ (List.getElem_mem c)
     · rw [List.getElem?_eq_none (by omega)]; decide) (by simpa using h0)
   have h2 := Inf.sho_puts C hC l (i + 1) p V (q + 3) (Vq + x * 2 ^ q) (fun j hj => by
     have := hl (j + 1) (by simp; omega)
     rw [show i + 1 + j = i + (j + 1) by omega, ← this]; simp) h1
   rw [show i + (x :: l).length = i + 1 + l.length by simp; omega]
   exact h2
def Inf.lenp (lx ly : List Nat) (S : List Inf.Sm) (C : List Nat) (c : Nat) : List (Nat × Nat) :=
 (lx.length - 257, 5) :: (ly.length - 1, 5) :: (c - 4, 4) :: (Inf.alike 3 ((Inf.ino C).take c) ++ Inf.tel (Inf.wd C) (fun t => C.getD t 0) S)
def Inf.beg (last kind : Nat) : List (Nat × Nat) := [(last, 1), (kind, 2)]
def Inf.ownp (l : List Pc) (x y lx ly C : List Nat) (c : Nat) : List (Nat × Nat) :=
 Inf.beg 1 2 ++ (Inf.lenp lx ly (Inf.sho (lx ++ ly) (lx ++ ly).length 0) C c ++ Inf.tel (Inf.jw x y) (Inf.jd x y) (Inf.txs l))
theorem Inf.own_blk {l : List Pc} {x y lx ly C : List Nat} {mx my c n V : Nat} {T T' : List Int} (hx : Inf.Mk x) (hy : Inf.Mk y) (cx : Inf.Cut x lx mx) (cy : Inf.Cut y ly my) (hC : Inf.Mk C)
   (hC19 : C.length = 19) (hC7 : ∀ t ∈ C, t < 8) (hc4 : 4 ≤ c) (hc19 : c ≤ 19) (hcz : ∀ i, c ≤ i → i < 19 → (Inf.ino C).getD i 0 = 0) (hmx1 : 257 ≤ mx) (hmx2 : mx ≤ 286) (hmy1 : 1 ≤ my) (hmy2 : my ≤ 30)
   (hcov : Inf.Has (fun t => C.getD t 0) (Inf.sho (lx ++ ly) (lx ++ ly).length 0)) (hh : Inf.Has (Inf.jd x y) (Inf.txs l)) (hok : PcOk l) (he : Lz.ex T l = some T') (hV : V < 2 ^ n) (hT : T.length ≤ T'.length) :
   Inf.Blk 1 n V (Inf.putn (Inf.ownp l x y lx ly C c) n) (Inf.putv (Inf.ownp l x y lx ly C c) n V) T T' := by
 have hlx := cx.len
 have hly := cy.len
 have hb1 : V + 1 * 2 ^ n < 2 ^ (n + 1) := Inf.put_lt hV (by decide)
 have hb2 : V + 1 * 2 ^ n + 2 * 2 ^ (n + 1) < 2 ^ (n + 1 + 2) := Inf.put_lt hb1 (by decide)
 have l1 := Inf.put_low (x := 1) hV
 have l2 := Inf.put_low (x := 2) hb1
 have hxle : ∀ t ∈ lx ++ ly, t ≤ 15 := by
   have one : ∀ {z : List Nat}, Inf.Mk z → ∀ t ∈ z, t ≤ 15 := fun {z} hz t ht => by
     obtain ⟨j, hj, rfl⟩ := List.getElem_of_mem ht
     have := Inf.mk_le hz hj
     rwa [List.getD_eq_getElem?_getD, List.getElem?_eq_getElem hj] at this
   intro t ht
   rcases List.mem_append.1 ht with ht | ht
   · exact one (cx.makes hx) t ht
   · exact one (cy.makes hy) t ht
 have p5 : (2 : Nat) ^ 5 = 32 := rfl
 have p4 : (2 : Nat) ^ 4 = 16 := rfl
 have hq1 : V + 1 * 2 ^ n + 2 * 2 ^ (n + 1) + (lx.length - 257) * 2 ^ (n + 1 + 2) < 2 ^ (n + 1 + 2 + 5) := Inf.put_lt hb2 (by omega)
 have hq2 : V + 1 * 2 ^ n + 2 * 2 ^ (n + 1) + (lx.length - 257) * 2 ^ (n + 1 + 2) + (ly.length - 1) * 2 ^ (n + 1 + 2 + 5) < 2 ^ (n + 1 + 2 + 5 + 5) := Inf.put_lt hq1 (by omega)
 have hq3 : V + 1 * 2 ^ n + 2 * 2 ^ (n + 1) + (lx.length - 257) * 2 ^ (n + 1 + 2) + (ly.length - 1) * 2 ^ (n + 1 + 2 + 5) + (c - 4) * 2 ^ (n + 1 + 2 + 5 + 5) < 2 ^ (n + 1 + 2 + 5 + 5 + 4) := Inf.put_lt hq2 (by omega)
 have hsho := Inf.sho_puts C hC7 ((Inf.ino C).take c) 0 (n + 1 + 2 + 5 + 5 + 4) _ _ _ (fun j hj => by
   rw [List.length_take, Inf.ino_len] at hj
   rw [Nat.zero_add, ← Inf.ino_get C (by omega), List.getD_eq_getElem?_getD, List.getElem?_take, if_pos (by omega), ← List.getD_eq_getElem?_getD]) (Inf.Sho.nil hq3)
 rw [List.length_take, Inf.ino_len, Nat.min_eq_left hc19, Nat.zero_add] at hsho
 have hlgo := Inf.lgo_row hC hxle ((lx ++ ly).length) (lx ++ ly).length 0 _ _ (Nat.zero_le _) (by omega) hcov hsho.lt
 rw [List.take_zero] at hlgo
 obtain ⟨n1, V1, hgo, hsy⟩ := Inf.go_end hx hy cx cy hok he hh hlgo.lt
 have e : Inf.putn (Inf.ownp l x y lx ly C c) n = Inf.putn (Inf.tel (Inf.jw x y) (Inf.jd x y) (Inf.txs l)) (Inf.putn (Inf.tel (Inf.wd C) (fun t => C.getD t 0) (Inf.sho (lx ++ ly) (lx ++ ly).length 0)) (Inf.putn (Inf.alike 3 ((Inf.ino C).take c)) (n + 1 + 2 + 5 + 5 + 4))) := by
   simp only [Inf.ownp, Inf.beg, Inf.lenp, List.cons_append, List.nil_append, Inf.putn, Inf.putn_app]
 have e' : Inf.putv (Inf.ownp l x y lx ly C c) n V = Inf.putv (Inf.tel (Inf.jw x y) (Inf.jd x y) (Inf.txs l)) (Inf.putn (Inf.tel (Inf.wd C) (fun t => C.getD t 0) (Inf.sho (lx ++ ly) (lx ++ ly).length 0)) (Inf.putn (Inf.alike 3 ((Inf.ino C).take c)) (n + 1 + 2 + 5 + 5 + 4)))
     (Inf.putv (Inf.tel (Inf.wd C) (fun t => C.getD t 0) (Inf.sho (lx ++ ly) (lx ++ ly).length 0)) (Inf.putn (Inf.alike 3 ((Inf.ino C).take c)) (n + 1 + 2 + 5 + 5 + 4)) (Inf.putv (Inf.alike 3 ((Inf.ino C).take c)) (n + 1 + 2 + 5 + 5 + 4) (V + 1 * 2 ^ n + 2 * 2 ^ (n + 1) + (lx.length - 257) * 2 ^ (n + 1 + 2) + (ly.length - 1) * 2 ^ (n + 1 + 2 + 5) + (c - 4) * 2 ^ (n + 1 + 2 + 5 + 5)))) := by
   simp only [Inf.ownp, Inf.beg, Inf.lenp, List.cons_append, List.nil_append, Inf.putv, Inf.putn_app, Inf.putv_app]
 rw [e, e']
 generalize Inf.putn (Inf.tel (Inf.jw x y) (Inf.jd x y) (Inf.txs l)) _ = n2 at *
 generalize Inf.putv (Inf.tel (Inf.jw x y) (Inf.jd x y) (Inf.txs l)) _ _ = V2 at *
 generalize Inf.putn (Inf.tel (Inf.wd C) _ _) _ = q5 at *
 generalize Inf.putv (Inf.tel (Inf.wd C) _ _) _ _ = V5 at *
 generalize Inf.putn (Inf.alike 3 _) _ = q4 at *
 generalize Inf.putv (Inf.alike 3 _) _ _ = V4 at *
 have h256 : (lx ++ ly).getD 256 0 ≠ 0 := by
   have h0 : 0 < Inf.jd x y 256 := hh ⟨256, 0, 0⟩ (List.mem_append_right _ (List.mem_singleton.2 rfl))
   have e1 : (lx ++ ly).getD 256 0 = x.getD 256 0 := by
     rw [List.getD_eq_getElem?_getD, List.getElem?_append_left (by omega), cx.eq, List.getElem?_take, if_pos (by omega), ← List.getD_eq_getElem?_getD]
   have e2 : Inf.jd x y 256 = x.getD 256 0 := by unfold Inf.jd; rw [if_pos (by omega)]
   omega
 have et : (lx ++ ly).take (257 + (lx.length - 257)) = lx := by rw [show 257 + (lx.length - 257) = lx.length by omega, List.take_left]
 have ed : (lx ++ ly).drop (257 + (lx.length - 257)) = ly := by rw [show 257 + (lx.length - 257) = lx.length by omega, List.drop_left]
 have el : (lx ++ ly).length = 257 + (lx.length - 257) + (1 + (ly.length - 1)) := by rw [List.length_append]; omega
 rw [el] at hlgo
 have hz : ∀ i, 4 + (c - 4) ≤ i → i < 19 → C.getD (Inf.order.getD i 0) 0 = 0 := fun i h1 h2 => by rw [← Inf.ino_get C h2]; exact hcz i (by omega) h2
 rw [show c = 4 + (c - 4) by omega] at hsho
 have hsho' : Inf.Sho C (4 + (c - 4)) (n + 3 + 14) (V + 1 * 2 ^ n + 2 * 2 ^ (n + 1) + (lx.length - 257) * 2 ^ (n + 3) + (ly.length - 1) * 2 ^ (n + 3 + 5) + (c - 4) * 2 ^ (n + 3 + 10)) q4 V4 := by
   rw [show 4 + (c - 4) - 4 = c - 4 by omega] at hsho
   exact hsho
 obtain ⟨r1, r2, r3⟩ := Inf.dyn_put (T := T) (T1 := T') hb2 (show lx.length - 257 ≤ 29 by omega) (show ly.length - 1 ≤ 29 by omega) (show c - 4 ≤ 15 by omega) hC19 hC hsho' hz hlgo el h256 (by rw [et]; exact cx.makes hx) (by rw [ed]; exact cy.makes hy) (by rw [et, ed]; exact hgo) (by rw [et]; exact hsy)
 exact Inf.Blk.of hV (by decide) (kind := 2) (by decide) r2 r1 hsy.lt hT r3
def Inf.fixp (l : List Pc) : List (Nat × Nat) := Inf.beg 1 1 ++ Inf.tel (Inf.jw Inf.fixl Inf.fixd) (Inf.jd Inf.fixl Inf.fixd) (Inf.txs l)
theorem Inf.fix_has (l : List Pc) (hok : PcOk l) : Inf.Has (Inf.jd Inf.fixl Inf.fixd) (Inf.txs l) := by
 intro s hs
 have h := (Inf.txs_ok hok s hs).1.1
 unfold Inf.jd
 split
 · have := Inf.fix_min s.p (by omega); omega
 · have := Inf.fixd_min (s.p - 288) (by omega); omega
theorem Inf.fix_blk {l : List Pc} {n V : Nat} {T T' : List Int} (hok : PcOk l) (he : Lz.ex T l = some T') (hV : V < 2 ^ n) (hT : T.length ≤ T'.length) : Inf.Blk 1 n V (Inf.putn (Inf.fixp l) n) (Inf.putv (Inf.fixp l) n V) T T' := by
 have hb1 : V + 1 * 2 ^ n < 2 ^ (n + 1) := Inf.put_lt hV (by decide)
 have hb2 : V + 1 * 2 ^ n + 1 * 2 ^ (n + 1) < 2 ^ (n + 1 + 2) := Inf.put_lt hb1 (by decide)
 obtain ⟨n1, V1, hgo, hsy⟩ := Inf.go_end Inf.mk_fixl Inf.mk_fixd (Inf.Cut.all _) (Inf.Cut.all _) hok he (Inf.fix_has l hok) hb2
 have e : Inf.putn (Inf.fixp l) n = Inf.putn (Inf.tel (Inf.jw Inf.fixl Inf.fixd) (Inf.jd Inf.fixl Inf.fixd) (Inf.txs l)) (n + 1 + 2) := by simp only [Inf.fixp, Inf.beg, List.cons_append, List.nil_append, Inf.putn]
 have e' : Inf.putv (Inf.fixp l) n V = Inf.putv (Inf.tel (Inf.jw Inf.fixl Inf.fixd) (Inf.jd Inf.fixl Inf.fixd) (Inf.txs l)) (n + 1 + 2) (V + 1 * 2 ^ n + 1 * 2 ^ (n + 1)) := by simp only [Inf.fixp, Inf.beg, List.cons_append, List.nil_append, Inf.putv]
 rw [e, e']
 have u1 := hgo.le
 have u2 := hsy.up
 refine Inf.Blk.of hV (by decide) (kind := 1) (by decide) (by omega) (Inf.low_of hsy.low u1 hgo.low) hsy.lt hT fun Vf N M f1 f2 f3 => ?_
 rw [Inf.kind1]
 exact hgo.fin hsy Vf N M f1 f2 f3
def Inf.barp (last : Nat) (B : List Int) : List (Nat × Nat) := Inf.beg last 0 ++ ((0, 5) :: (B.length, 16) :: (65535 - B.length, 16) :: B.map fun x => (x.toNat, 8))
theorem Inf.bys_puts : ∀ (B D : List Int) (q V q' V' : Nat), Lz.Byt B → Inf.Bys q V q' V' D → Inf.Bys q V (Inf.putn (B.map fun x => (x.toNat, 8)) q') (Inf.putv (B.map fun x => (x.toNat, 8)) q' V') (D ++ B)
 | [], D, q, V, q', V', _, h => by rw [List.append_nil]; exact h
 | x :: B, D, q, V, q', V', hb, h => by
   have hx := hb x (List.mem_cons_self ..)
   have h1 := h.snoc x.toNat (by omega)
   rw [show ((x.toNat : Nat) : Int) = x by omega] at h1
   have := Inf.bys_puts B (D ++ [x]) q V _ _ (fun y hy => hb y (List.mem_cons_of_mem _ hy)) h1
   rw [List.append_assoc] at this
   exact this
theorem Inf.bar_blk {B T : List Int} {n V last : Nat} (hb : Lz.Byt B) (hB : B.length < 65536) (h8 : n % 8 = 0) (hl : last < 2) (hV : V < 2 ^ n) : Inf.Blk last n V (Inf.putn (Inf.barp last B) n) (Inf.putv (Inf.barp last B) n V) T (T ++ B) := by
 have hb1 : V + last * 2 ^ n < 2 ^ (n + 1) := Inf.put_lt hV (by omega)
 have hb2 : V + last * 2 ^ n + 0 * 2 ^ (n + 1) < 2 ^ (n + 1 + 2) := Inf.put_lt hb1 (by decide)
 have hup : Inf.up (n + 3) = n + 8 := by unfold Inf.up; omega
 have hu0 : V + last * 2 ^ n + 0 * 2 ^ (n + 1) < 2 ^ (n + 8) := Nat.lt_of_lt_of_le hb2 (Nat.pow_le_pow_right (by omega) (by omega))
 have hu1 := Inf.put_lt (x := B.length) (k := 16) hu0 (by have : (2 : Nat) ^ 16 = 65536 := rfl; omega)
 have hu2 := Inf.put_lt (x := 65535 - B.length) (k := 16) hu1 (by have : (2 : Nat) ^ 16 = 65536 := rfl; omega)
 have hby := Inf.bys_puts B [] _ _ _ _ hb (Inf.Bys.nil hu2)
 rw [List.nil_append] at hby
 have e : Inf.putn (Inf.barp last B) n = Inf.putn (B.map fun x => (x.toNat, 8)) (n + 8 + 16 + 16) := by simp only [Inf.barp, Inf.beg, List.cons_append, List.nil_append, Inf.putn]
 have e' : Inf.putv (Inf.barp last B) n V = Inf.putv (B.map fun x => (x.toNat, 8)) (n + 8 + 16 + 16) (V + last * 2 ^ n + 0 * 2 ^ (n + 1) + B.length * 2 ^ (n + 8) + (65535 - B.length) * 2 ^ (n + 8 + 16)) := by
   simp only [Inf.barp, Inf.beg, List.cons_append, List.nil_append, Inf.putv, Nat.zero_mul, Nat.add_zero]
 rw [e, e']
 have h3 : V + last * 2 ^ n + 0 * 2 ^ (n + 1) < 2 ^ (n + 3) := hb2
 obtain ⟨r1, r2⟩ := Inf.stored_put (T := T) (p := n + 3) h3 hB (by rw [hup]; exact hby)
 have u := hby.le
 exact Inf.Blk.of hV hl (kind := 0) (by decide) (by omega) r1 hby.lt (by simp) r2
end Go.Proofs.YtenkkononchgmaaGreatDoor
