/- Laid together: DfPure DfSy. -/
import Derived.Test.YtenkkononchgmaaGreatDoorDkB24

namespace Go.Proofs.YtenkkononchgmaaGreatDoor
open Lz (Pc)

structure Inf.Sm where
 p : Nat
 x : Nat
 k : Nat
instance : Inhabited Inf.Sm := ⟨⟨0, 0, 0⟩⟩
def Inf.putn : List (Nat × Nat) → Nat → Nat
 | [], n => n
 | q :: r, n => Inf.putn r (n + q.2)
def Inf.putv : List (Nat × Nat) → Nat → Nat → Nat
 | [], _, V => V
 | q :: r, n, V => Inf.putv r (n + q.2) (V + q.1 * 2 ^ n)
theorem Inf.putn_app : ∀ (a b : List (Nat × Nat)) (n : Nat), Inf.putn (a ++ b) n = Inf.putn b (Inf.putn a n)
 | [], _, _ => rfl
 | q :: a, b, n => by rw [List.cons_append, Inf.putn, Inf.putn_app a b]; rfl
theorem Inf.putv_app : ∀ (a b : List (Nat × Nat)) (n V : Nat), Inf.putv (a ++ b) n V = Inf.putv b (Inf.putn a n) (Inf.putv a n V)
 | [], _, _, _ => rfl
 | q :: a, b, n, V => by rw [List.cons_append, Inf.putv, Inf.putv_app a b]; rfl
def Inf.tel (W D : Nat → Nat) : List Inf.Sm → List (Nat × Nat)
 | [] => []
 | s :: r => (W s.p, D s.p) :: (s.x, s.k) :: Inf.tel W D r
theorem Inf.tel_app (W D : Nat → Nat) : ∀ a b, Inf.tel W D (a ++ b) = Inf.tel W D a ++ Inf.tel W D b
 | [], _ => rfl
 | s :: a, b => by rw [List.cons_append, Inf.tel, Inf.tel_app W D a b]; rfl
def Inf.psy (p : Pc) : List Inf.Sm :=
 if p.n = 0 then [⟨p.c.toNat, 0, 0⟩]
 else [⟨257 + Inf.lst Inf.lbs p.n.toNat 29, p.n.toNat - Inf.lbs.getD (Inf.lst Inf.lbs p.n.toNat 29) 0, Inf.lxs.getD (Inf.lst Inf.lbs p.n.toNat 29) 0⟩,
   ⟨288 + Inf.lst Inf.dbs p.d.toNat 30, p.d.toNat - Inf.dbs.getD (Inf.lst Inf.dbs p.d.toNat 30) 0, Inf.dxs.getD (Inf.lst Inf.dbs p.d.toNat 30) 0⟩]
def Inf.psys : List Pc → List Inf.Sm
 | [] => []
 | p :: r => Inf.psy p ++ Inf.psys r
theorem Inf.psys_app : ∀ a b, Inf.psys (a ++ b) = Inf.psys a ++ Inf.psys b
 | [], _ => rfl
 | p :: a, b => by rw [List.cons_append, Inf.psys, Inf.psys_app a b, Inf.psys, List.append_assoc]
theorem Inf.psy_len (p : Pc) : 1 ≤ (Inf.psy p).length ∧ (Inf.psy p).length ≤ 2 := by
 unfold Inf.psy; split <;> simp
theorem Inf.psys_len : ∀ l, (Inf.psys l).length ≤ 2 * l.length
 | [] => Nat.le_refl _
 | p :: r => by have := Inf.psys_len r; have := (Inf.psy_len p).2; rw [Inf.psys, List.length_append, List.length_cons]; omega
def Inf.txs (l : List Pc) : List Inf.Sm := Inf.psys l ++ [⟨256, 0, 0⟩]
def Inf.SmOk (m : Nat) (s : Inf.Sm) : Prop := s.p < m ∧ s.x < 2 ^ s.k ∧ s.k ≤ 13
theorem Inf.psy_ok {p : Pc} (h : (p.isB ∧ 0 ≤ p.c ∧ p.c < 256) ∨ p.isM) : ∀ s ∈ Inf.psy p, Inf.SmOk 318 s ∧ s.p ≠ 286 ∧ s.p ≠ 287 := by
 intro s hs
 unfold Inf.psy at hs
 by_cases e : p.n = 0
 · rw [if_pos e] at hs
   rw [List.mem_singleton] at hs
   subst hs
   have : 0 ≤ p.c ∧ p.c < 256 := by
     rcases h with h | h
     · exact h.2
     · have := h.2.1; omega
   exact ⟨⟨by show p.c.toNat < 318; omega, by show 0 < 2 ^ 0; decide, by show 0 ≤ 13; decide⟩, by show p.c.toNat ≠ 286; omega, by show p.c.toNat ≠ 287; omega⟩
 · rw [if_neg e] at hs
   have hM : p.isM := by
     rcases h with h | h
     · exact absurd h.1.1 e
     · exact h
   obtain ⟨_, h3, h4, h5, h6⟩ := hM
   obtain ⟨a1, a2, a3⟩ := Inf.lb_ok (n := p.n.toNat) (by omega) (by omega)
   obtain ⟨b1, b2, b3⟩ := Inf.db_ok (n := p.d.toNat) (by omega) (by omega)
   rcases List.mem_cons.1 hs with rfl | hs
   · refine ⟨⟨?_, a3, ?_⟩, ?_, ?_⟩
     · show 257 + _ < 318; omega
     · show Inf.lxs.getD _ 0 ≤ 13
       have := (Inf.lx_small _ a1).1; omega
     · show 257 + _ ≠ 286; omega
     · show 257 + _ ≠ 287; omega
   · rw [List.mem_singleton] at hs
     subst hs
     refine ⟨⟨?_, b3, ?_⟩, ?_, ?_⟩
     · show 288 + _ < 318; omega
     · show Inf.dxs.getD _ 0 ≤ 13
       exact (Inf.dx_small _ b1).1
     · show 288 + _ ≠ 286; omega
     · show 288 + _ ≠ 287; omega
theorem Inf.psys_mem : ∀ {l : List Pc} {s : Inf.Sm}, s ∈ Inf.psys l → ∃ p ∈ l, s ∈ Inf.psy p
 | [], s, h => by cases h
 | p :: r, s, h => by
   rw [Inf.psys] at h
   rcases List.mem_append.1 h with h | h
   · exact ⟨p, List.mem_cons_self .., h⟩
   · obtain ⟨q, h1, h2⟩ := Inf.psys_mem h
     exact ⟨q, List.mem_cons_of_mem _ h1, h2⟩
theorem Inf.txs_ok {l : List Pc} (h : PcOk l) : ∀ s ∈ Inf.txs l, Inf.SmOk 318 s ∧ s.p ≠ 286 ∧ s.p ≠ 287 := by
 intro s hs
 rcases List.mem_append.1 hs with hs | hs
 · obtain ⟨p, h1, h2⟩ := Inf.psys_mem hs
   exact Inf.psy_ok (h p h1) s h2
 · rw [List.mem_singleton] at hs
   subst hs
   exact ⟨⟨by decide, by decide, by decide⟩, by decide, by decide⟩
def Inf.jw (x y : List Nat) (t : Nat) : Nat := if t < 288 then Inf.wd x t else Inf.wd y (t - 288)
def Inf.jd (x y : List Nat) (t : Nat) : Nat := if t < 288 then x.getD t 0 else y.getD (t - 288) 0
theorem Inf.cnt_take (x : List Nat) (m : Nat) : ∀ i, i ≤ m → ∀ k, Huf.cnt (Inf.lf (x.take m)) i k = Huf.cnt (Inf.lf x) i k
 | 0, _, _ => rfl
 | i + 1, h, k => by
   rw [Huf.cnt, Huf.cnt, Inf.cnt_take x m i (by omega) k]
   have e : Inf.lf (x.take m) i = Inf.lf x i := by
     simp only [Inf.lf, List.getD_eq_getElem?_getD, List.getElem?_take, if_pos (show i < m by omega)]
   rw [e]
theorem Inf.cnt_tail (x : List Nat) (m : Nat) (h : ∀ i, m ≤ i → x.getD i 0 = 0) (k : Nat) : ∀ d, Huf.cnt (Inf.lf x) (m + d) k = Huf.cnt (Inf.lf x) m k
 | 0 => rfl
 | d + 1 => by
   rw [← Nat.add_assoc, Huf.cnt, Inf.cnt_tail x m h k d, if_neg, Nat.add_zero]
   rintro ⟨h1, h2⟩
   simp only [Inf.lf, h (m + d) (by omega)] at h2
   omega
theorem Inf.cnt_cut (x : List Nat) {m : Nat} (hm : m ≤ x.length) (h : ∀ i, m ≤ i → x.getD i 0 = 0) (k : Nat) : Huf.cnt (Inf.lf (x.take m)) (x.take m).length k = Huf.cnt (Inf.lf x) x.length k := by
 obtain ⟨d, hd⟩ : ∃ d, x.length = m + d := ⟨x.length - m, by omega⟩
 rw [List.length_take, Nat.min_eq_left hm, Inf.cnt_take x m m (Nat.le_refl _), hd, Inf.cnt_tail x m h]
theorem Inf.fst_congr {C D : Nat → Nat} (h : ∀ k, C k = D k) : ∀ k, Huf.fst C k = Huf.fst D k
 | 0 => rfl
 | k + 1 => by rw [Huf.fst, Huf.fst, Inf.fst_congr h k, h k]
theorem Inf.wd_cut (x : List Nat) {m s : Nat} (hm : m ≤ x.length) (h : ∀ i, m ≤ i → x.getD i 0 = 0) (hs : s < m) : Inf.wd (x.take m) s = Inf.wd x s := by
 have e : (x.take m).getD s 0 = x.getD s 0 := by simp only [List.getD_eq_getElem?_getD, List.getElem?_take, if_pos hs]
 have e2 : Inf.lf (x.take m) s = Inf.lf x s := by simp only [Inf.lf, e]
 unfold Inf.wd
 rw [e]
 congr 1
 unfold Huf.code
 rw [e2, Inf.cnt_take x m s (by omega), Inf.fst_congr (Inf.cnt_cut x hm h)]
theorem Inf.mk_cut {x : List Nat} (hx : Inf.Mk x) {m : Nat} (hm : m ≤ x.length) (h : ∀ i, m ≤ i → x.getD i 0 = 0) : Inf.Mk (x.take m) := by
 refine ⟨⟨?_, fun i hi => ?_⟩, ?_⟩
 · rw [List.length_take, Nat.min_eq_left hm]; exact Nat.le_trans hm hx.1.1
 · rw [List.length_take, Nat.min_eq_left hm] at hi
   have e : Inf.lf (x.take m) i = Inf.lf x i := by simp only [Inf.lf, List.getD_eq_getElem?_getD, List.getElem?_take, if_pos hi]
   rw [e]; exact hx.1.2 i (by omega)
 · have : Huf.cnt (Inf.lf (x.take m)) (x.take m).length = Huf.cnt (Inf.lf x) x.length := funext fun k => Inf.cnt_cut x hm h k
   rw [this]; exact hx.2
structure Inf.Cut (x x' : List Nat) (m : Nat) : Prop where
 le : m ≤ x.length
 eq : x' = x.take m
 tail : ∀ i, m ≤ i → x.getD i 0 = 0
theorem Inf.Cut.all (x : List Nat) : Inf.Cut x x x.length := ⟨Nat.le_refl _, by rw [List.take_length], fun i hi => by rw [List.getD_eq_getElem?_getD, List.getElem?_eq_none hi]; rfl⟩
theorem Inf.Cut.sy {x x' : List Nat} {m : Nat} (h : Inf.Cut x x' m) (hx : Inf.Mk x) {s n V : Nat} (h0 : 0 < x.getD s 0) (hV : V < 2 ^ n) : Inf.Sy x' s n V (n + x.getD s 0) (V + Inf.wd x s * 2 ^ n) := by
 have hs : s < m := by
   rcases Nat.lt_or_ge s m with c | c
   · exact c
   · have := h.tail s c; omega
 have hl : (x.take m).length = m := by rw [List.length_take, Nat.min_eq_left h.le]
 have e : (x.take m).getD s 0 = x.getD s 0 := by simp only [List.getD_eq_getElem?_getD, List.getElem?_take, if_pos hs]
 have := Inf.Sy.word (Inf.mk_cut hx h.le h.tail) (s := s) (by omega) e h0 hV
 rw [h.eq, ← Inf.wd_cut x h.le h.tail hs]
 unfold Inf.wd
 rw [e]
 exact this
theorem Inf.Cut.len {x x' : List Nat} {m : Nat} (h : Inf.Cut x x' m) : x'.length = m := by rw [h.eq, List.length_take, Nat.min_eq_left h.le]
theorem Inf.Cut.makes {x x' : List Nat} {m : Nat} (h : Inf.Cut x x' m) (hx : Inf.Mk x) : Inf.Mk x' := by rw [h.eq]; exact Inf.mk_cut hx h.le h.tail
def Inf.Has (D : Nat → Nat) (l : List Inf.Sm) : Prop := ∀ s ∈ l, 0 < D s.p
theorem Inf.go_pieces {x y x' y' : List Nat} {mx my : Nat} (hx : Inf.Mk x) (hy : Inf.Mk y) (cx : Inf.Cut x x' mx) (cy : Inf.Cut y y' my) :
   ∀ (l : List Pc) (T T' : List Int) (n V : Nat), PcOk l → Lz.ex T l = some T' → Inf.Has (Inf.jd x y) (Inf.psys l) → V < 2 ^ n →
     Inf.Go x' y' n V (Inf.putn (Inf.tel (Inf.jw x y) (Inf.jd x y) (Inf.psys l)) n) (Inf.putv (Inf.tel (Inf.jw x y) (Inf.jd x y) (Inf.psys l)) n V) T T'
 | [], T, T', n, V, _, he, _, hV => by cases he; exact Inf.Go.refl hV T
 | p :: r, T, T', n, V, hok, he, hh, hV => by
   rw [Lz.ex] at he
   by_cases hf : Lz.fit T.length p
   · rw [if_pos hf] at he
     rw [Inf.psys, Inf.tel_app, Inf.putn_app, Inf.putv_app]
     have hhp : Inf.Has (Inf.jd x y) (Inf.psy p) := fun s hs => hh s (by rw [Inf.psys]; exact List.mem_append_left _ hs)
     have hhr : Inf.Has (Inf.jd x y) (Inf.psys r) := fun s hs => hh s (by rw [Inf.psys]; exact List.mem_append_right _ hs)
     have key : Inf.Go x' y' n V (Inf.putn (Inf.tel (Inf.jw x y) (Inf.jd x y) (Inf.psy p)) n) (Inf.putv (Inf.tel (Inf.jw x y) (Inf.jd x y) (Inf.psy p)) n V) T (Lz.one T p) := by
       by_cases e : p.n = 0
       · have hc : 0 ≤ p.c ∧ p.c < 256 := by
           rcases hok p (List.mem_cons_self ..) with h | h
           · exact h.2
           · have := h.2.1; omega
         have ep : Inf.psy p = [⟨p.c.toNat, 0, 0⟩] := by unfold Inf.psy; rw [if_pos e]
         have h0 := hhp _ (by rw [ep]; exact List.mem_singleton.2 rfl)
         have ed : Inf.jd x y p.c.toNat = x.getD p.c.toNat 0 := by unfold Inf.jd; rw [if_pos (by omega)]
         have ew : Inf.jw x y p.c.toNat = Inf.wd x p.c.toNat := by unfold Inf.jw; rw [if_pos (by omega)]
         have hs := cx.sy hx (s := p.c.toNat) (n := n) (V := V) (by rw [← ed]; exact h0) hV
         have hg := Inf.Go.lit (y := y') hs (by omega) T
         rw [ep]
         simp only [Inf.tel, Inf.putn, Inf.putv, ed, ew, Nat.zero_mul, Nat.add_zero]
         have e1 : Lz.one T p = T ++ [((p.c.toNat : Nat) : Int)] := by
           unfold Lz.one; rw [if_pos e, show ((p.c.toNat : Nat) : Int) = p.c by omega]
         rw [e1]
         exact hg
       · have hM : p.isM := by
           rcases hok p (List.mem_cons_self ..) with h | h
           · exact absurd h.1.1 e
           · exact h
         obtain ⟨_, h3, h4, h5, h6⟩ := hM
         obtain ⟨a1, a2, a3⟩ := Inf.lb_ok (n := p.n.toNat) (by omega) (by omega)
         obtain ⟨b1, b2, b3⟩ := Inf.db_ok (n := p.d.toNat) (by omega) (by omega)
         have ep : Inf.psy p = _ := if_neg e
         have g1 := hhp _ (by rw [ep]; exact List.mem_cons_self ..)
         have g2 := hhp _ (by rw [ep]; exact List.mem_cons_of_mem _ (List.mem_singleton.2 rfl))
         have e1 : Lz.one T p = Lz.rep T (Inf.dbs.getD (Inf.lst Inf.dbs p.d.toNat 30) 0 + (p.d.toNat - Inf.dbs.getD (Inf.lst Inf.dbs p.d.toNat 30) 0)) (Inf.lbs.getD (Inf.lst Inf.lbs p.n.toNat 29) 0 + (p.n.toNat - Inf.lbs.getD (Inf.lst Inf.lbs p.n.toNat 29) 0)) := by
           unfold Lz.one; rw [if_neg e, Nat.add_sub_cancel' a2, Nat.add_sub_cancel' b2]
         have hd : Inf.dbs.getD (Inf.lst Inf.dbs p.d.toNat 30) 0 + (p.d.toNat - Inf.dbs.getD (Inf.lst Inf.dbs p.d.toNat 30) 0) ≤ T.length := by
           rw [Nat.add_sub_cancel' b2]; have := hf.2.1; omega
         rw [ep, e1]
         simp only [] at g1 g2
         generalize Inf.lst Inf.lbs p.n.toNat 29 = k1 at *
         generalize Inf.lst Inf.dbs p.d.toNat 30 = k2 at *
         generalize p.n.toNat - Inf.lbs.getD k1 0 = a at *
         generalize p.d.toNat - Inf.dbs.getD k2 0 = b at *
         have ed1 : Inf.jd x y (257 + k1) = x.getD (257 + k1) 0 := by unfold Inf.jd; rw [if_pos (by omega)]
         have ew1 : Inf.jw x y (257 + k1) = Inf.wd x (257 + k1) := by unfold Inf.jw; rw [if_pos (by omega)]
         have ed2 : Inf.jd x y (288 + k2) = y.getD k2 0 := by unfold Inf.jd; rw [if_neg (by omega), show 288 + k2 - 288 = k2 by omega]
         have ew2 : Inf.jw x y (288 + k2) = Inf.wd y k2 := by unfold Inf.jw; rw [if_neg (by omega), show 288 + k2 - 288 = k2 by omega]
         rw [ed1] at g1
         rw [ed2] at g2
         have s1 := cx.sy hx g1 hV
         have l2 := Inf.put_lt s1.lt a3
         have s2 := cy.sy hy g2 l2
         have hg := Inf.Go.mat s1 a1 a3 ⟨rfl, rfl⟩ s2 b1 b3 ⟨rfl, rfl⟩ T hd
         simp only [Inf.tel, Inf.putn, Inf.putv, ed1, ew1, ed2, ew2]
         exact hg
     exact key.trans (Inf.go_pieces hx hy cx cy r (Lz.one T p) T' _ _ (fun q hq => hok q (List.mem_cons_of_mem _ hq)) he hhr key.lt)
   · rw [if_neg hf] at he; cases he
theorem Inf.go_end {x y x' y' : List Nat} {mx my : Nat} (hx : Inf.Mk x) (hy : Inf.Mk y) (cx : Inf.Cut x x' mx) (cy : Inf.Cut y y' my) {l : List Pc} {T T' : List Int} {n V : Nat}
   (hok : PcOk l) (he : Lz.ex T l = some T') (hh : Inf.Has (Inf.jd x y) (Inf.txs l)) (hV : V < 2 ^ n) :
   ∃ n1 V1, Inf.Go x' y' n V n1 V1 T T' ∧ Inf.Sy x' 256 n1 V1 (Inf.putn (Inf.tel (Inf.jw x y) (Inf.jd x y) (Inf.txs l)) n) (Inf.putv (Inf.tel (Inf.jw x y) (Inf.jd x y) (Inf.txs l)) n V) := by
 have hg := Inf.go_pieces hx hy cx cy l T T' n V hok he (fun s hs => hh s (List.mem_append_left _ hs)) hV
 refine ⟨_, _, hg, ?_⟩
 have h0 : 0 < Inf.jd x y 256 := hh ⟨256, 0, 0⟩ (List.mem_append_right _ (List.mem_singleton.2 rfl))
 have ed : Inf.jd x y 256 = x.getD 256 0 := by unfold Inf.jd; rw [if_pos (by omega)]
 have ew : Inf.jw x y 256 = Inf.wd x 256 := by unfold Inf.jw; rw [if_pos (by omega)]
 have hs := cx.sy hx (s := 256) (by rw [← ed]; exact h0) hg.lt
 unfold Inf.txs
 rw [Inf.tel_app, Inf.putn_app, Inf.putv_app]
 simp only [Inf.tel, Inf.putn, Inf.putv, ed, ew, Nat.zero_mul, Nat.add_zero]
 exact hs
end Go.Proofs.YtenkkononchgmaaGreatDoor

namespace Go.Proofs.YtenkkononchgmaaGreatDoor
open Go.RowKit Go

def spk : List Inf.Sm → List Value
 | [] => []
 | p :: r => .int .i64 (p.p : Nat) :: .int .i64 (p.x : Nat) :: .int .i64 (p.k : Nat) :: spk r
theorem spk_length : ∀ l : List Inf.Sm, (spk l).length = l.length * 3
 | [] => rfl
 | p :: r => by rw [spk, List.length_cons, List.length_cons, List.length_cons, spk_length r, List.length_cons]; omega
theorem spk_app : ∀ a b : List Inf.Sm, spk (a ++ b) = spk a ++ spk b
 | [], _ => rfl
 | p :: a, b => by rw [List.cons_append, spk, spk, spk_app a b]; rfl
theorem spk_one : ∀ (l : List Inf.Sm), ∀ v ∈ spk l, v.oneCell' = true
 | [], v, h => by cases h
 | p :: r, v, h => by
   rw [spk] at h
   simp only [List.mem_cons] at h
   rcases h with rfl | rfl | rfl | h
   · rfl
   · rfl
   · rfl
   · exact spk_one r v h
theorem spk_get : ∀ (l : List Inf.Sm) (j : Nat) (p : Inf.Sm), l[j]? = some p → (spk l)[j * 3]? = some (.int .i64 (p.p : Nat)) ∧ (spk l)[j * 3 + 1]? = some (.int .i64 (p.x : Nat)) ∧ (spk l)[j * 3 + 2]? = some (.int .i64 (p.k : Nat))
 | [], j, p, h => by simp at h
 | q :: r, 0, p, h => by
   simp only [List.getElem?_cons_zero, Option.some.injEq] at h
   subst h
   exact ⟨rfl, rfl, rfl⟩
 | q :: r, j + 1, p, h => by
   rw [List.getElem?_cons_succ] at h
   obtain ⟨h1, h2, h3⟩ := spk_get r j p h
   rw [spk, show (j + 1) * 3 = j * 3 + 1 + 1 + 1 from by omega, List.getElem?_cons_succ, List.getElem?_cons_succ, List.getElem?_cons_succ, List.getElem?_cons_succ, List.getElem?_cons_succ, List.getElem?_cons_succ,
     List.getElem?_cons_succ, List.getElem?_cons_succ, List.getElem?_cons_succ]
   exact ⟨h1, h2, h3⟩
theorem spk_at (l : List Inf.Sm) (j : Nat) (u : Value) (h : (spk l)[j]? = some u) : ∃ i p, l[i]? = some p ∧ (j = i * 3 ∧ u = .int .i64 (p.p : Nat) ∨ j = i * 3 + 1 ∧ u = .int .i64 (p.x : Nat) ∨ j = i * 3 + 2 ∧ u = .int .i64 (p.k : Nat)) := by
 have hj : j < l.length * 3 := by have := (List.getElem?_eq_some_iff.1 h).1; rwa [spk_length] at this
 have hi : j / 3 < l.length := by omega
 obtain ⟨h1, h2, h3⟩ := spk_get l (j / 3) l[j / 3] (List.getElem?_eq_getElem hi)
 refine ⟨j / 3, l[j / 3], List.getElem?_eq_getElem hi, ?_⟩
 have : j = j / 3 * 3 ∨ j = j / 3 * 3 + 1 ∨ j = j / 3 * 3 + 2 := by omega
 rcases this with e | e | e
 · rw [← e, h] at h1; cases h1; exact Or.inl ⟨e, rfl⟩
 · rw [← e, h] at h2; cases h2; exact Or.inr (Or.inl ⟨e, rfl⟩)
 · rw [← e, h] at h3; cases h3; exact Or.inr (Or.inr ⟨e, rfl⟩)

def SmsIn (w : World) (v : Value) (l : List Inf.Sm) (ok : Nat → Prop) : Prop :=
 ∃ a cap, v = .slice a l.length cap ∧ l.length ≤ cap ∧ cap ≤ 9223372036854775807 ∧
   (0 < l.length → ∃ s o, a = some ⟨s, o, none⟩ ∧ ok s ∧ s < w.heap.size ∧ ∀ j p, l[j]? = some p →
     w.cell? ⟨s, o + j * 3, none⟩ = some (.int .i64 (p.p : Nat)) ∧ w.cell? ⟨s, o + j * 3 + 1, none⟩ = some (.int .i64 (p.x : Nat)) ∧ w.cell? ⟨s, o + j * 3 + 2, none⟩ = some (.int .i64 (p.k : Nat)))
theorem SmsIn.mono {w w' : World} {v : Value} {l : List Inf.Sm} {ok ok' : Nat → Prop} (h : SmsIn w v l ok) (hs : w.heap.size ≤ w'.heap.size) (hok : ∀ s, s < w.heap.size → ok s → ok' s)
   (hc : ∀ s o, s < w.heap.size → ok s → w'.cell? ⟨s, o, none⟩ = w.cell? ⟨s, o, none⟩) : SmsIn w' v l ok' := by
 obtain ⟨a, cap, e1, e2, e3, e4⟩ := h
 refine ⟨a, cap, e1, e2, e3, fun hp => ?_⟩
 obtain ⟨s, o, e5, e6, e7, e8⟩ := e4 hp
 refine ⟨s, o, e5, hok s e7 e6, Nat.lt_of_lt_of_le e7 hs, fun j p hj => ?_⟩
 obtain ⟨c1, c2, c3⟩ := e8 j p hj
 exact ⟨(hc s _ e7 e6).trans c1, (hc s _ e7 e6).trans c2, (hc s _ e7 e6).trans c3⟩
theorem infoSm : (Tryz.prog.info? 95).map (fun i => (i.zero, i.size, i.bytes)) = some (some (.agg #[.int .i64 0, .int .i64 0, .int .i64 0]), 3, 24) := by kernel_rfl
theorem own_syms {w : World} {base : Nat} {v : Value} {l : List Inf.Sm} {n : Nat} (h : w.ownsRow base 95 3 v n (spk l)) : SmsIn w v l (fun s => base ≤ s) ∧ n = l.length := by
 have hl : l.length = n := by have := h.1; rw [spk_length] at this; omega
 refine ⟨?_, hl.symm⟩
 rcases h.2 with ⟨rfl, h0⟩ | ⟨g, cap, cur, rfl, hb, hg, hn, hm, hs, ht⟩
 · refine ⟨none, 0, by rw [hl, h0], by omega, by omega, fun hp => by omega⟩
 · refine ⟨_, cap, by rw [hl], by omega, hm, fun hp => ⟨g, 0, rfl, hb, lt_of_block hg, fun j p hj => ?_⟩⟩
   have hjl : j < l.length := (List.getElem?_eq_some_iff.1 hj).1
   obtain ⟨h1, h2, h3⟩ := spk_get l j p hj
   have e : ∀ i u, i < n * 3 → (spk l)[i]? = some u → cur[i]? = some u := fun i u hi hu => by
     rw [← ht, List.getElem?_take, if_pos hi, Array.getElem?_toList] at hu
     exact hu
   refine ⟨?_, ?_, ?_⟩
   · rw [cell_of_row _ _ _ _ _ _ hg, Nat.zero_add]; exact e _ _ (by omega) h1
   · rw [cell_of_row _ _ _ _ _ _ hg, Nat.zero_add]; exact e _ _ (by omega) h2
   · rw [cell_of_row _ _ _ _ _ _ hg, Nat.zero_add]; exact e _ _ (by omega) h3
theorem sms_new (w : World) (l : List Inf.Sm) (hl : l.length ≤ 1000000) (C : Array Value) (hC : C = (spk l).toArray) :
   SmsIn (w.alloc (.cells C 95)) (.slice (some ⟨w.heap.size, 0, none⟩) l.length l.length) l (fun s => s = w.heap.size) := by
 subst hC
 refine ⟨_, l.length, rfl, Nat.le_refl _, by omega, fun _ => ⟨w.heap.size, 0, rfl, rfl, by simp, fun j p hj => ?_⟩⟩
 obtain ⟨h1, h2, h3⟩ := spk_get l j p hj
 have hg := heap_alloc_new w (.cells (spk l).toArray 95)
 refine ⟨?_, ?_, ?_⟩
 · rw [cell_of_row _ _ _ _ _ _ hg, Nat.zero_add, List.getElem?_toArray]; exact h1
 · rw [cell_of_row _ _ _ _ _ _ hg, Nat.zero_add, List.getElem?_toArray]; exact h2
 · rw [cell_of_row _ _ _ _ _ _ hg, Nat.zero_add, List.getElem?_toArray]; exact h3

theorem wpList_append_syms {w : World} {ops : Array Oper} {rest : List Oper} {o : Oper} {a : Act} {Q : Exit → Act → World → Prop} (hgd : o.guard = none) (s x : Operand)
   (ho : o.op = .call { callee := .builtin .append, args := #[s, x], argTypes := #[40, 40] })
   (base : Nat) (v : Value) (n : Nat) (xs : List Value) (hs : a.eval s = v) (hown : w.ownsRow base 95 3 v n xs)
   (u : Value) (l : List Inf.Sm) (ok : Nat → Prop) (hx : a.eval x = u) (hB : SmsIn w u l ok) (hnil : ∀ n c, u = .slice none n c → c = 0) (hsz : n + l.length ≤ 1099511627776) (hbase : base ≤ w.heap.size)
   (h : ∀ v' w', Hid (w'.ownsRow base 95 3 v' (n + l.length) (xs ++ spk l)) → Hid (w.grownBy w' v.ownBlock) → wpList Tryz.prog ops Q rest (a.put o.dst v') w') : wpList Tryz.prog ops Q (o :: rest) a w := by
 obtain ⟨i0, hi, hz0, hz1, hz2⟩ := info_parts infoSm
 obtain ⟨ad, cap, rfl, h1, h2, h3⟩ := hB
 cases ad with
 | none =>
   have hB0 : l = [] := by
     by_cases hp : 0 < l.length
     · obtain ⟨s, o, e, _⟩ := h3 hp
       cases e
     · exact List.eq_nil_of_length_eq_zero (by omega)
   subst hB0
   obtain rfl := hnil _ _ rfl
   refine wpList_append_own_none hgd s x 40 ho base 95 i0 3 (by kernel_rfl) hi v n xs hs hown hx ?_
   exact h v w (show w.ownsRow base 95 3 v (n + 0) (xs ++ []) by simpa using hown) (gb_refl _ _)
 | some ad =>
   refine wpList_append_own _ hgd s x 40 ho base 95 i0 _ 3 24 (by kernel_rfl) hi hz0 hz1 hz2 rfl (by decide) v n xs hs hown ad l.length cap (spk l) hx (by rw [spk_length]) ?_ (spk_one l) (by simp only [maxLen]; omega) (by omega) hbase ?_
   · intro j y hj
     obtain ⟨i, p, hp, hor⟩ := spk_at l j y hj
     obtain ⟨s, o, e, -, -, hc⟩ := h3 (by have := (List.getElem?_eq_some_iff.1 hp).1; omega)
     cases e
     obtain ⟨c1, c2, c3⟩ := hc i p hp
     rw [Addr.add_mid]
     rcases hor with ⟨rfl, rfl⟩ | ⟨rfl, rfl⟩ | ⟨rfl, rfl⟩
     · exact c1
     · rw [← Nat.add_assoc]; exact c2
     · rw [← Nat.add_assoc]; exact c3
   · intro v' w' ho' hg' _
     exact h v' w' ho' hg'

theorem own_later {w w' : World} {base n : Nat} {e : TypeId} {size : Nat} {v : Value} {xs : List Value} (h : w.ownsRow base e size v n xs) (hb : Below w.heap.size w w') : w'.ownsRow base e size v n xs :=
 Inf.own_other h fun k hk => by obtain ⟨_, _, hc⟩ := Inf.own_type h hk; exact hb.block k (Inf.lt_some hc)
theorem own_lower {w : World} {b0 b1 n : Nat} {e : TypeId} {size : Nat} {v : Value} {xs : List Value} (h : w.ownsRow b1 e size v n xs) (hb : b0 ≤ b1) : w.ownsRow b0 e size v n xs := by
 refine ⟨h.1, ?_⟩
 rcases h.2 with h0 | ⟨g, cap, cur, e, q1, q⟩
 · exact .inl h0
 · exact .inr ⟨g, cap, cur, e, Nat.le_trans hb q1, q⟩
structure SyS (w0 w : World) (v : Value) (L : List Inf.Sm) : Prop where
 bel : Below w0.heap.size w0 w
 own : w.ownsRow w0.heap.size 95 3 v L.length (spk L)
theorem SyS.nil (w0 : World) : SyS w0 w0 (.slice none 0 0) [] := ⟨Below.refl _ _, rfl, .inl ⟨rfl, rfl⟩⟩
theorem SyS.later {w0 w w' : World} {v : Value} {L : List Inf.Sm} (h : SyS w0 w v L) (hb : Below w.heap.size w w') : SyS w0 w' v L := ⟨h.bel.trans (hb.mono h.bel.size), own_later h.own hb⟩
theorem SyS.form {w0 w : World} {v : Value} {L : List Inf.Sm} (h : SyS w0 w v L) : ∃ ad cp, v = .slice ad L.length cp := by
 rcases h.own.2 with ⟨e, h0⟩ | ⟨g, cap, cur, e, _⟩
 · exact ⟨none, 0, by rw [e, h0]⟩
 · exact ⟨_, cap, e⟩
theorem SyS.snoc {w0 w w1 w' : World} {v v' : Value} {L : List Inf.Sm} {R : List Inf.Sm} (h : SyS w0 w v L) (hb : Below w.heap.size w w1) (ho : w'.ownsRow w0.heap.size 95 3 v' (L.length + R.length) (spk L ++ spk R)) (hg : w1.grownBy w' v.ownBlock) : SyS w0 w' v' (L ++ R) :=
 ⟨(h.bel.trans (hb.mono h.bel.size)).grown hg (Nat.le_trans h.bel.size hb.size) (fun k hk => (Inf.own_type h.own hk).1), by rw [List.length_append, spk_app]; exact ho⟩
theorem one_sym (w : World) (p : Inf.Sm) : SmsIn (w.alloc (.cells #[.int .i64 (p.p : Nat), .int .i64 (p.x : Nat), .int .i64 (p.k : Nat)] 95)) (.slice (some ⟨w.heap.size, 0, none⟩) 1 1) [p] (fun s => s = w.heap.size) :=
 sms_new w [p] (by simp) _ rfl
theorem SmsIn.at_ {w : World} {a : Option Addr} {n cap : Nat} {l : List Inf.Sm} {ok : Nat → Prop} (h : SmsIn w (.slice a n cap) l ok) {i : Nat} {p : Inf.Sm} (hp : l[i]? = some p) : ∃ s o, a = some ⟨s, o, none⟩ ∧ ok s ∧ s < w.heap.size ∧ w.cell? ⟨s, o + i * 3, none⟩ = some (.int .i64 (p.p : Nat)) ∧ w.cell? ⟨s, o + i * 3 + 1, none⟩ = some (.int .i64 (p.x : Nat)) ∧ w.cell? ⟨s, o + i * 3 + 2, none⟩ = some (.int .i64 (p.k : Nat)) := by
 obtain ⟨a', cap', e, h1, h2, h3⟩ := h
 cases e
 have hl := (List.getElem?_eq_some_iff.1 hp).1
 obtain ⟨s, o, e1, e2, e3, e4⟩ := h3 (by omega)
 exact ⟨s, o, e1, e2, e3, e4 i p hp⟩
def Smr (w : World) (a : Option Addr) (n cap : Nat) (S : List Inf.Sm) : Prop := SmsIn w (.slice a n cap) S (fun _ => True) ∧ n = S.length ∧ (0 < n → ∃ s o cur, a = some ⟨s, o, none⟩ ∧ w.heap[s]? = some (.cells cur 95 (0, 0)))
theorem Smr.keep {w w' : World} {a : Option Addr} {n cap : Nat} {S : List Inf.Sm} (h : Smr w a n cap S) (hs : w.heap.size ≤ w'.heap.size) (hk : ∀ (s : Nat) (cur : Array Value), w.heap[s]? = some (.cells cur 95 (0, 0)) → w'.heap[s]? = w.heap[s]?) : Smr w' a n cap S := by
 obtain ⟨⟨a', cap', e, h1, h2, h3⟩, hn, h4⟩ := h
 cases e
 refine ⟨⟨a, cap, rfl, h1, h2, fun hp => ?_⟩, rfl, fun hp => ?_⟩
 · obtain ⟨s, o, e1, e2, e3, e4⟩ := h3 hp
   obtain ⟨s', o', cur, e5, e6⟩ := h4 hp
   rw [e1] at e5
   cases e5
   have hh := hk s cur e6
   refine ⟨s, o, e1, trivial, Nat.lt_of_lt_of_le e3 hs, fun j p hj => ?_⟩
   obtain ⟨c1, c2, c3⟩ := e4 j p hj
   exact ⟨(World.cell?_of_block hh).trans c1, (World.cell?_of_block hh).trans c2, (World.cell?_of_block hh).trans c3⟩
 · obtain ⟨s', o', cur, e5, e6⟩ := h4 hp
   exact ⟨s', o', cur, e5, (hk s' cur e6).trans e6⟩
theorem Smr.kp {w w' : World} {g : Nat} {c : Array Value} {a : Option Addr} {n cap : Nat} {S : List Inf.Sm} (h : Smr w a n cap S) (hk : Kp g w w') (hg : w.heap[g]? = some (.cells c 113 (0, 0))) : Smr w' a n cap S :=
 h.keep hk.size fun s cur hs => (hk.cells hs (Inf.ne_ty hs hg (by decide)) (by decide)).trans hs.symm
theorem Smr.later {w w' : World} {a : Option Addr} {n cap : Nat} {S : List Inf.Sm} (h : Smr w a n cap S) (hb : Below w.heap.size w w') : Smr w' a n cap S :=
 h.keep hb.size fun s _ hs => hb.block s (Inf.lt_some hs)
theorem Smr.own {w : World} {base : Nat} {v : Value} {S : List Inf.Sm} (h : w.ownsRow base 95 3 v S.length (spk S)) : ∃ a cap, v = .slice a S.length cap ∧ Smr w a S.length cap S := by
 obtain ⟨hp, -⟩ := own_syms h
 have hp' := hp
 obtain ⟨a, cap, e, h1, h2, h3⟩ := hp
 refine ⟨a, cap, e, ?_, rfl, fun hn => ?_⟩
 · rw [← e]; exact hp'.mono (Nat.le_refl _) (fun _ _ _ => trivial) (fun _ _ _ _ => rfl)
 · subst e
   rcases h.2 with ⟨e, h0⟩ | ⟨s, cap', cur, e, q1, q2, _⟩
   · omega
   · cases e
     exact ⟨s, 0, cur, rfl, q2⟩
theorem Smr.at_ {w : World} {a : Option Addr} {n cap : Nat} {S : List Inf.Sm} (h : Smr w a n cap S) {i : Nat} {p : Inf.Sm} (hp : S[i]? = some p) : ∃ s o, a = some ⟨s, o, none⟩ ∧ w.cell? ⟨s, o + i * 3, none⟩ = some (.int .i64 (p.p : Nat)) ∧ w.cell? ⟨s, o + i * 3 + 1, none⟩ = some (.int .i64 (p.x : Nat)) ∧ w.cell? ⟨s, o + i * 3 + 2, none⟩ = some (.int .i64 (p.k : Nat)) := by
 obtain ⟨s, o, e, -, -, q⟩ := h.1.at_ hp
 exact ⟨s, o, e, q⟩
theorem Inf.putn_tel (W D : Nat → Nat) : ∀ (S : List Inf.Sm) (n : Nat), (∀ s ∈ S, D s.p ≤ 15 ∧ s.k ≤ 13) → Inf.putn (Inf.tel W D S) n ≤ n + 28 * S.length
 | [], _, _ => Nat.le_refl _
 | s :: r, n, h => by
   have h1 := h s (List.mem_cons_self ..)
   have := Inf.putn_tel W D r (n + D s.p + s.k) (fun q hq => h q (List.mem_cons_of_mem _ hq))
   rw [Inf.tel, Inf.putn, Inf.putn, List.length_cons]
   show Inf.putn (Inf.tel W D r) (n + D s.p + s.k) ≤ _
   omega
end Go.Proofs.YtenkkononchgmaaGreatDoor
