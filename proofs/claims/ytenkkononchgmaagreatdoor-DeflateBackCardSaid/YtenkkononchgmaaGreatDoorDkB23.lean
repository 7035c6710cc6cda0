/- Laid together: HmLenC. -/
import Derived.Test.YtenkkononchgmaaGreatDoorDkB16
import Derived.Test.YtenkkononchgmaaGreatDoorDkB21
import Derived.Test.YtenkkononchgmaaGreatDoorDkB22

namespace Go.Proofs.YtenkkononchgmaaGreatDoor
open Go.RowKit Go Go.Sort

set_option maxRecDepth 100000 in
set_option maxHeartbeats 2000000 in
theorem cmpSym (a : Option Addr) (n cap B : Nat) (F : Nat → Int) (x y : Int) (w : World) (hb : w.cell? ⟨B, 0, none⟩ = some (.slice a n cap)) (hI : Ints w a n cap F) (hn : n ≤ 1000000) (hx : 0 ≤ x ∧ x < n) (hy : 0 ≤ y ∧ y < n) :
   Calls Tryz.prog 162 #[.int .i64 x, .int .i64 y, .pointer (some ⟨B, 0, none⟩)] w fun e w' => e = .returned (.int .i64 (cmpv (F x.toNat) (F y.toNat))) ∧ ∃ m os, w' = grow (w.drewN m) os := by
 obtain ⟨i, rfl⟩ : ∃ i : Nat, x = (i : Int) := ⟨x.toNat, by omega⟩
 obtain ⟨j, rfl⟩ : ∃ j : Nat, y = (j : Int) := ⟨y.toNat, by omega⟩
 obtain ⟨s, o, rfl, hs, hc⟩ := hI.ad (by omega)
 have c1 := hc i (by omega)
 have c2 := hc j (by omega)
 simp only [Int.toNat_natCast]
 obtain ⟨u, hu⟩ : ∃ u, u = F i := ⟨_, rfl⟩
 obtain ⟨v, hv⟩ : ∃ v, v = F j := ⟨_, rfl⟩
 rw [← hu, ← hv]
 rw [← hu] at c1
 rw [← hv] at c2
 have hiI : (i : Int) < (n : Int) := hx.2
 have hjI : (j : Int) < (n : Int) := hy.2
 have hcm : Hid (∀ wx, Calls Tryz.prog 163 #[.int .i64 u, .int .i64 v] wx fun e w' => e = .returned (.int .i64 (cmpv u v)) ∧ w' = wx) := fun wx => compare_any u v wx
 clear hu hv hc hI hx hy
 go_enter Tryz.func162, Tryz.ntmps162
 go_wp2_with fail
 go_quiet (first | (go_at_call 163; exact (hcm.out _).mono fun e w' h => ⟨h.1, ⟨_, h.2⟩⟩))
 go_wp2
 go_returns
 exact ⟨rfl, _, #[], by rw [grow_empty]⟩
structure LfS (w0 w : World) (a : Option Addr) (n cap : Nat) (l : List Nat) (v : Value) : Prop where
 bel : Below (w0.heap.size + 1) (w0.alloc (.cells #[.slice a n cap] 97)) w
 own : w.ownsRow (w0.heap.size + 1) 3 1 v l.length (nv l)
theorem LfS.box {w0 w : World} {a : Option Addr} {n cap : Nat} {l : List Nat} {v : Value} (h : LfS w0 w a n cap l v) : w.cell? ⟨w0.heap.size, 0, none⟩ = some (.slice a n cap) := by
 rw [World.cell?_of_block (h.bel.block _ (by show w0.heap.size < _; omega)), cell_of_row _ _ _ _ _ _ (heap_alloc_new _ _)]; rfl
theorem LfS.below {w0 w : World} {a : Option Addr} {n cap : Nat} {l : List Nat} {v : Value} (h : LfS w0 w a n cap l v) : Below w0.heap.size w0 w :=
 ((Below.refl _ _).alloc (Nat.le_refl _) _).trans (h.bel.mono (by omega))
theorem LfS.app {w0 w w' : World} {a : Option Addr} {n cap i : Nat} {l : List Nat} {v v' : Value} {o : Obj} (h : LfS w0 w a n cap l v) (ho : w'.ownsRow (w0.heap.size + 1) 3 1 v' (l.length + 1) (nv l ++ [.int .i64 (i : Nat)])) (hg : (w.alloc o).grownBy w' v.ownBlock) : LfS w0 w' a n cap (l ++ [i]) v' := by
 have hs := h.bel.size
 simp at hs
 refine ⟨(h.bel.alloc hs o).grown hg (by simp; omega) (fun k hk => (h.own.lt k hk).1), ?_⟩
 rw [List.length_append, List.length_singleton]
 have e : nv (l ++ [i]) = nv l ++ [.int .i64 (i : Nat)] := by simp [nv]
 rw [e]; exact ho

set_option maxRecDepth 100000 in
set_option maxHeartbeats 4000000 in
theorem first_any (a : Option Addr) (n cap : Nat) (F : Nat → Int) (w : World) (hI : Ints w a n cap F) (hn : n ≤ 1000000) :
   Calls Tryz.prog 139 #[.slice a n cap] w fun e w' => Below w.heap.size w w' ∧ ∃ (a' : Option Addr) (m cap' : Nat) (y : Nat → Nat), e = .returned (.slice a' m cap') ∧ Hul.Sym F n m y ∧ Ints w' a' m cap' (fun t => (y t : Nat)) := by
 have HI : Hid (Ints w a n cap F) := hI
 have HN := Lib.hid hn
 have n6 : (n : Int) ≤ 1000000 := by omega
 have H0 : Hid (LfS w (w.alloc (.cells #[.slice a n cap] 97)) a n cap [] (.slice none 0 0)) := ⟨Below.refl _ _, World.ownsRow_nil _ _ _ _⟩
 clear hI hn
 go_enter Tryz.func139, Tryz.ntmps139
 go_wp2_with fail
 go_loopw [3, 8] (fun v3 v8 wr => ∃ i : Nat, i ≤ n ∧ v8 = .int .i64 (i : Int) ∧ LfS w wr a n cap (Hul.pos F i) v3) (fun _ v8 _ => (n - intOf v8).toNat)
 case atStart => exact ⟨0, by omega, rfl, H0.out⟩
 case round =>
   clear H0
   obtain ⟨i, hi, rfl, hls⟩ := hrel
   have HLS := Lib.hid hls; clear hls
   have HNA : Hid (a = none → n = 0) := fun e => by
     apply Classical.byContradiction; intro hc
     obtain ⟨s, o, e2, _⟩ := HI.out.ad (by omega)
     rw [e] at e2; cases e2
   by_cases hlt : i < n
   · have hdi : decide (i < n) = true := decide_eq_true hlt
     obtain ⟨s, o, hao, hs, hc⟩ := (HI.out.later HLS.out.below).at_ hlt
     subst hao
     obtain ⟨x, hx⟩ : ∃ x, x = F i := ⟨_, rfl⟩
     rw [← hx] at hc
     have HX := Lib.hid hx; clear hx
     have hiI : (i : Int) < (n : Int) := by omega
     by_cases hx0 : 0 < x
     · have hdx : decide (0 < x) = true := decide_eq_true hx0
       have HP : Hid (Hul.pos F (i + 1) = Hul.pos F i ++ [i]) := by show _ = _; rw [Hul.pos, if_pos (by rw [← HX.out]; exact hx0)]
       have HLEN : Hid ((Hul.pos F i).length ≤ 1000000) := by have := Hul.pos_length F i; have := HN.out; show _ ≤ _; omega
       have HSZ : Hid (w.heap.size + 1 ≤ wr.heap.size) := by have := HLS.out.bel.size; simp at this; exact this
       obtain ⟨l, hl⟩ : ∃ l, l = Hul.pos F i := ⟨_, rfl⟩
       rw [← hl] at HLS HP HLEN
       obtain ⟨a3, c3, rfl⟩ := own_form HLS.out.own
       clear hl hx0
       go_wp2_with (first | (at_builtin; refine wpList_append_int rfl (.tmp 15) (.tmp 17) rfl (w.heap.size + 1) (.slice a3 l.length c3) l.length (nv l) rfl (HLS.out.own.alloc _) wr.heap.size i rfl (heap_alloc_new _ _) HLEN.out (by have := HSZ.out; simp; omega) ?_; intro v' w7 ho7 hg7; obtain ⟨a7, c7, rfl⟩ := own_form ho7.out; have k3 := HLS.out.app ho7.out hg7.out; have HNX := Lib.hid k3; clear k3 ho7 hg7))
       exact ⟨⟨i + 1, by omega, by go_num, by rw [HP.out]; exact HNX.out⟩, by simp [intOf]; omega⟩
     · have hdx : decide (0 < x) = false := decide_eq_false hx0
       have HP : Hid (Hul.pos F (i + 1) = Hul.pos F i) := by show _ = _; rw [Hul.pos, if_neg (by rw [← HX.out]; exact hx0), List.append_nil]
       clear hx0
       go_wp2
       exact ⟨⟨i + 1, by omega, by go_num, by rw [HP.out]; exact HLS.out⟩, by simp [intOf]; omega⟩
   · obtain rfl : i = n := by omega
     have hdi : decide (i < i) = false := decide_eq_false (by omega)
     obtain ⟨m, hm⟩ : ∃ m, m = (Hul.pos F i).length := ⟨_, rfl⟩
     have HM := Lib.hid hm
     obtain ⟨a3, c3, rfl⟩ := own_form HLS.out.own
     by_cases hm0 : m = 0
     · have HL0 : Hid (Below w.heap.size w wr) := HLS.out.below
       have HXN : Hid (∀ wx, Calls Tryz.prog 161 #[.slice a3 0 c3, .func (.func 162) #[] #[.pointer (some ⟨w.heap.size, 0, none⟩)]] wx fun e w' => e = .returned (.tuple #[]) ∧ w' = wx) := fun wx => sortNilI a3 c3 _ wx
       rw [← hm, hm0]
       have HCAP : Hid (Hul.Sym F i 0 (fun _ => 0) ∧ Ints wr a3 0 c3 (fun _ => ((0 : Nat) : Int))) :=
         ⟨⟨by rw [← hm, hm0], fun t ht => by omega, fun s t hs ht => by omega, fun j hj h0 => by
           have h1 := (Hul.pos_mem F i j).2 ⟨hj, h0⟩
           have h2 : Hul.pos F i = [] := List.eq_nil_of_length_eq_zero (by omega)
           rw [h2] at h1
           exact absurd h1 (by simp), fun s t hst ht => by omega⟩, ⟨Nat.zero_le _, fun h => by omega⟩⟩
       clear hm hm0
       go_wp2_with fail
       refine (HXN.out _).mono ?_
       rintro e w2 ⟨rfl, rfl⟩
       go_wp2
       go_returns
       exact ⟨HL0.out, a3, 0, c3, fun _ => 0, rfl, HCAP.out⟩
     · rw [← hm]
       obtain ⟨g, cc, hve, hlo, hlg⟩ := HLS.out.own.form (by omega)
       simp only [Value.slice.injEq] at hve
       obtain ⟨rfl, -, rfl⟩ := hve
       have hcap : m ≤ c3 := by
         rcases HLS.out.own.2 with ⟨h0, _⟩ | ⟨g', c', cur, h0, _, _, h3, _⟩
         · cases h0
         · simp only [Value.slice.injEq] at h0
           obtain ⟨_, _, rfl⟩ := h0
           rw [hm]; exact h3
       have hbox := HLS.out.box
       have hfr := HI.out.later HLS.out.below
       have hRI : RI (fun x => 0 ≤ x ∧ x < (i : Int)) wr wr g m (fun t => (((Hul.pos F i).getD t 0 : Nat) : Int)) := by
         refine ⟨gb_refl _ _, hlg, fun t ht => ⟨?_, HLS.out.own.frozenAt t⟩, fun t ht => ?_⟩
         · rw [HLS.out.own.cellAt t (by omega)]
           refine nv_get _ _ _ ?_
           rw [List.getD_eq_getElem?_getD, List.getElem?_eq_getElem (by omega)]; rfl
         · have hmem : (Hul.pos F i).getD t 0 ∈ Hul.pos F i := by
             rw [List.getD_eq_getElem?_getD, List.getElem?_eq_getElem (by omega)]; exact List.getElem_mem _
           have := ((Hul.pos_mem F i _).1 hmem).1
           omega
       have hCM : CmpI (fun x => 0 ≤ x ∧ x < (i : Int)) (fun x => F x.toNat) wr g w.heap.size := fun wx x y hgw hx hy => by
         refine cmpSym a i cap w.heap.size F x y wx ?_ ?_ HN.out hx hy
         · rw [gb_cell hgw (by show w.heap.size < _; omega) (by show w.heap.size ≠ g; omega)]; exact hbox
         · refine hfr.keep (fun s o e => gb_heap hgw ?_ ?_) hgw.size
           · obtain ⟨s', o', e', h1, _⟩ := hfr.ad (by omega)
             rw [e] at e'; simp only [Option.some.injEq, Addr.mk.injEq] at e'; omega
           · obtain ⟨s', o', e', h1, _⟩ := HI.out.ad (by omega)
             rw [e] at e'; simp only [Option.some.injEq, Addr.mk.injEq] at e'; omega
       have hX := sortI _ _ w.heap.size wr g m c3 _ wr hCM hRI (by have := Hul.pos_length F i; have := HN.out; omega) hcap
       have HLG : Hid (w.heap.size ≤ g ∧ g < wr.heap.size) := ⟨by omega, hlg⟩
       have HLB := Lib.hid HLS.out.below
       have HCP := Lib.hid hcap
       clear hRI hCM hbox hfr hlo hlg hcap hm hm0 HLS
       go_wp2_with fail
       with_reducible refine hX.mono ?_
       rintro e w2 ⟨rfl, d', hr, hp, hu⟩
       have HB2 : Hid (Below w.heap.size w w2) := below_of_gb HLB.out hr.gr HLG.out.1 HLB.out.size
       have hsy : Hul.Sym F i m (fun t => (d' t).toNat) ∧ ∀ t, t < m → d' t = (((d' t).toNat : Nat) : Int) := by
         have hm := HM.out
         subst hm
         exact Hul.Sym.of (fun t _ => rfl) hp hu
       have HSY := Lib.hid hsy
       have HRR : Hid (Ints w2 (some ⟨g, 0, none⟩) m c3 (fun t => (((d' t).toNat : Nat) : Int))) :=
         ⟨HCP.out, fun _ => ⟨g, 0, rfl, hr.lt, fun j hj => by rw [Nat.zero_add, (hr.cl j hj).1, ← hsy.2 j hj]⟩⟩
       clear hsy hr hp hu hX
       go_wp2
       go_returns
       exact ⟨HB2.out, _, m, c3, _, rfl, HSY.out.1, HRR.out⟩
end Go.Proofs.YtenkkononchgmaaGreatDoor

/- Rows of packs. -/
namespace Go.Proofs.YtenkkononchgmaaGreatDoor
open Go.RowKit Go Go.Sort

def pv (R : Nat → Int × Bool) : Nat → List Value
 | 0 => []
 | i + 1 => pv R i ++ [.int .i64 (R i).1, .bool (R i).2]
theorem pv_length (R : Nat → Int × Bool) : ∀ n, (pv R n).length = n * 2
 | 0 => rfl
 | n + 1 => by rw [pv, List.length_append, pv_length R n]; simp; omega
theorem pv_get1 (R : Nat → Int × Bool) {i n : Nat} (h : i < n) : (pv R n)[i * 2]? = some (.int .i64 (R i).1) := by
 induction n with
 | zero => omega
 | succ n ih =>
   rw [pv]
   by_cases e : i = n
   · subst e; rw [List.getElem?_append_right (by rw [pv_length]; exact Nat.le_refl _), pv_length, Nat.sub_self]; rfl
   · rw [List.getElem?_append_left (by rw [pv_length]; omega)]; exact ih (by omega)
theorem pv_get2 (R : Nat → Int × Bool) {i n : Nat} (h : i < n) : (pv R n)[i * 2 + 1]? = some (.bool (R i).2) := by
 induction n with
 | zero => omega
 | succ n ih =>
   rw [pv]
   by_cases e : i = n
   · subst e; rw [List.getElem?_append_right (by rw [pv_length]; omega), pv_length, show i * 2 + 1 - i * 2 = 1 by omega]; rfl
   · rw [List.getElem?_append_left (by rw [pv_length]; omega)]; exact ih (by omega)
theorem pv_one (R : Nat → Int × Bool) (n : Nat) : ∀ v ∈ pv R n, v.oneCell' = true := by
 induction n with
 | zero => intro v hv; cases hv
 | succ n ih =>
   intro v hv
   rw [pv, List.mem_append] at hv
   rcases hv with hv | hv
   · exact ih v hv
   · simp only [List.mem_cons, List.not_mem_nil, or_false] at hv
     rcases hv with rfl | rfl <;> rfl
theorem pv_eq {R : Nat → Int × Bool} {n : Nat} {l : List Value} (hl : l.length = n * 2) (h1 : ∀ i, i < n → l[i * 2]? = some (.int .i64 (R i).1)) (h2 : ∀ i, i < n → l[i * 2 + 1]? = some (.bool (R i).2)) : l = pv R n := by
 apply List.ext_getElem?
 intro j
 by_cases hj : j < n * 2
 · obtain ⟨i, hi⟩ : ∃ i, j = i * 2 ∨ j = i * 2 + 1 := ⟨j / 2, by omega⟩
   rcases hi with rfl | rfl
   · rw [h1 i (by omega), pv_get1 R (by omega)]
   · rw [h2 i (by omega), pv_get2 R (by omega)]
 · rw [List.getElem?_eq_none (by omega), List.getElem?_eq_none (by rw [pv_length]; omega)]
theorem pv_app (R S : Nat → Int × Bool) (n : Nat) : ∀ m, pv R n ++ pv S m = pv (fun t => if t < n then R t else S (t - n)) (n + m)
 | 0 => by
   rw [pv, List.append_nil, Nat.add_zero]
   exact pv_eq (pv_length R n) (fun i hi => by rw [pv_get1 R hi, if_pos hi]) (fun i hi => by rw [pv_get2 R hi, if_pos hi])
 | m + 1 => by
   rw [pv, ← List.append_assoc, pv_app R S n m, ← Nat.add_assoc, pv]
   simp only [show ¬ n + m < n by omega, if_false, show n + m - n = m by omega]
theorem own_RP {w : World} {base n g cap : Nat} {R : Nat → Int × Bool} (h : w.ownsRow base 295 2 (.slice (some ⟨g, 0, none⟩) n cap) n (pv R n)) : RP w w g n R ∧ n ≤ cap ∧ base ≤ g := by
 rcases h.2 with ⟨h0, _⟩ | ⟨g', c', cur, h0, hb, hg, h3, _⟩
 · cases h0
 · simp only [Value.slice.injEq, Option.some.injEq, Addr.mk.injEq, and_true, true_and] at h0
   obtain ⟨rfl, rfl⟩ := h0
   refine ⟨⟨gb_refl _ _, lt_of_block hg, fun i hi => ⟨?_, h.frozenAt _⟩, fun i hi => ⟨?_, h.frozenAt _⟩⟩, h3, hb⟩
   · rw [h.cellAt _ (by omega)]; exact pv_get1 R hi
   · rw [h.cellAt _ (by omega)]; exact pv_get2 R hi
theorem infoPk : (Tryz.prog.info? 295).map (fun i => (i.zero, i.size, i.bytes)) = some (some (.agg #[.int .i64 0, .bool false]), 2, 16) := by kernel_rfl
theorem RP.later {w0 w w' : World} {g n : Nat} {R : Nat → Int × Bool} (h : RP w0 w g n R) (hb : Below w.heap.size w w') : RP w' w' g n R :=
 ⟨gb_refl _ _, Nat.lt_of_lt_of_le h.lt hb.size, fun i hi => by rw [World.cell?_of_block (hb.block g h.lt), World.frozen?_of_block (hb.block g h.lt)]; exact h.c1 i hi, fun i hi => by rw [World.cell?_of_block (hb.block g h.lt), World.frozen?_of_block (hb.block g h.lt)]; exact h.c2 i hi⟩
theorem RP.at {w0 w : World} {g n : Nat} {R : Nat → Int × Bool} (h : RP w0 w g n R) : RP w w g n R := ⟨gb_refl _ _, h.lt, h.c1, h.c2⟩
theorem wpList_append_packs {w : World} {ops : Array Oper} {rest : List Oper} {o : Oper} {a : Act} {Q : Exit → Act → World → Prop} (hgd : o.guard = none) (s x : Operand)
   (ho : o.op = .call { callee := .builtin .append, args := #[s, x], argTypes := #[273, 273] })
   (base : Nat) (v : Value) (n : Nat) (R : Nat → Int × Bool) (hs : a.eval s = v) (hown : w.ownsRow base 295 2 v n (pv R n))
   (g m cap : Nat) (S : Nat → Int × Bool) (hx : a.eval x = .slice (some ⟨g, 0, none⟩) m cap) (hS : RP w w g m S) (hn : n + m ≤ 1000000) (hbase : base ≤ w.heap.size)
   (h : ∀ v' w', Hid (w'.ownsRow base 295 2 v' (n + m) (pv (fun t => if t < n then R t else S (t - n)) (n + m))) → Hid (w.grownBy w' v.ownBlock) → Hid (v ≠ .slice none 0 0 → v' ≠ .slice none 0 0) → wpList Tryz.prog ops Q rest (a.put o.dst v') w') : wpList Tryz.prog ops Q (o :: rest) a w := by
 obtain ⟨i0, hi, hz0, hz1, hz2⟩ := info_parts infoPk
 refine wpList_append_own _ hgd s x 273 ho base 295 i0 _ 2 16 (by kernel_rfl) hi hz0 hz1 hz2 rfl (by decide) v n (pv R n) hs hown ⟨g, 0, none⟩ m cap (pv S m) hx (pv_length S m) (fun j u hj => ?_) (pv_one S m) (by simp only [maxLen]; omega) (by omega) hbase ?_
 · rw [Addr.add_mid, Nat.zero_add]
   have hjl : j < m * 2 := by have := (List.getElem?_eq_some_iff.1 hj).1; rwa [pv_length] at this
   obtain ⟨i, hi⟩ : ∃ i, j = i * 2 ∨ j = i * 2 + 1 := ⟨j / 2, by omega⟩
   rcases hi with rfl | rfl
   · rw [(hS.c1 i (by omega)).1, ← hj, pv_get1 S (by omega)]
   · rw [(hS.c2 i (by omega)).1, ← hj, pv_get2 S (by omega)]
 · intro v' w' ho' hg' hn'
   exact h v' w' (by rw [pv_app] at ho'; exact ho') hg' (fun h1 h2 => h1 (hn'.1 h2).1)
theorem own_some {w : World} {base n size : Nat} {e : TypeId} {v : Value} {xs : List Value} (h : w.ownsRow base e size v n xs) (hv : v ≠ .slice none 0 0) : ∃ g c, v = .slice (some ⟨g, 0, none⟩) n c ∧ base ≤ g ∧ g < w.heap.size := by
 rcases h.2 with ⟨h0, _⟩ | ⟨g, c, cur, h0, hb, hg, _⟩
 · exact absurd h0 hv
 · exact ⟨g, c, h0, hb, lt_of_block hg⟩
theorem run_packs (n : Nat) (hn : n ≤ 1000000) (w : World) : ∃ Z : Array Value, (Instr.makeSlice 273 (.int .i64 (n : Int)) (.int .i64 (n : Int))).run Tryz.prog w = .ok (.slice (some ⟨w.heap.size, 0, none⟩) n n) (w.alloc (.cells Z 295)) ∧ Z.size = n * 2 ∧ Z.toList = pv (fun _ => (0, false)) n := by
 obtain ⟨i0, hi, hz0, hz1, hz2⟩ := info_parts infoPk
 have := run_make (P := Tryz.prog) w 273 295 i0 _ (by kernel_rfl) hi hz0 .i64 .i64 (n : Int) (n : Int) (by omega) (by omega) (by rw [hz2]; omega) (by omega)
 rw [show (n : Int).toNat = n by omega, hz1, show (Value.agg #[Value.int IntKind.i64 0, Value.bool false]).cells = #[Value.int IntKind.i64 0, Value.bool false] from rfl] at this
 refine ⟨_, this, size_madeCells _ _, ?_⟩
 refine pv_eq (by rw [Array.length_toList, size_madeCells]) (fun i hi => ?_) (fun i hi => ?_)
 · rw [Array.getElem?_toList]
   simp [madeCells, show i * 2 < n * 2 by omega]
 · rw [Array.getElem?_toList]
   have : (i * 2 + 1) % 2 = 1 := by omega
   simp [madeCells, show i * 2 + 1 < n * 2 by omega, this]
theorem own_made {w : World} {n : Nat} {Z : Array Value} {R : Nat → Int × Bool} (hn : n ≤ 1000000) (hz : Z.size = n * 2) (hl : Z.toList = pv R n) : (w.alloc (.cells Z 295)).ownsRow w.heap.size 295 2 (.slice (some ⟨w.heap.size, 0, none⟩) n n) n (pv R n) := by
 have := World.ownsRow_lit (base := w.heap.size) (e := 295) (size := 2) w Z n (Nat.le_refl _) (by simp only [maxLen]; omega) hz
 rw [hl] at this; exact this
end Go.Proofs.YtenkkononchgmaaGreatDoor

/- The walks of ownWeights, pairs, countAlone, and of a copy of packs. -/
namespace Go.Proofs.YtenkkononchgmaaGreatDoor
open Go.RowKit Go Go.Sort

set_option maxRecDepth 100000 in
set_option maxHeartbeats 4000000 in
theorem ownW_any (a : Option Addr) (n cap : Nat) (F : Nat → Int) (a' : Option Addr) (m cap' : Nat) (y : Nat → Nat) (w : World) (hI : Ints w a n cap F) (hY : Ints w a' m cap' (fun t => (y t : Nat))) (hm : m ≤ 1000000) (hn : n ≤ 1000000) (hy : ∀ t, t < m → y t < n) :
   Calls Tryz.prog 141 #[.slice a n cap, .slice a' m cap'] w fun e w' => Below w.heap.size w w' ∧ ∃ G, e = .returned (.slice (some ⟨G, 0, none⟩) m m) ∧ w.heap.size ≤ G ∧ RP w' w' G m (fun t => (F (y t), true)) := by
 have HI : Hid (Ints w a n cap F) := hI
 have HY : Hid (Ints w a' m cap' (fun t => (y t : Nat))) := hY
 have HM := Lib.hid hm
 have HMY := Lib.hid hy
 have HN := Lib.hid hn
 have m6 : (m : Int) ≤ 1000000 := by omega
 obtain ⟨Z, hz, hz1, hz2⟩ := run_packs m hm w
 have H0 : Hid (Below w.heap.size w (w.alloc (.cells Z 295)) ∧ RP (w.alloc (.cells Z 295)) (w.alloc (.cells Z 295)) w.heap.size m (fun _ => (0, false))) :=
   ⟨(Below.refl _ _).alloc (Nat.le_refl _) _, (own_RP (own_made hm hz1 hz2)).1⟩
 clear hI hY hm hy hz1 hz2 hn
 go_enter Tryz.func141, Tryz.ntmps141
 go_wp2_with fail
 generalize hw1 : w.alloc (.cells Z 295) = w1 at *
 clear hz hw1
 obtain ⟨G, hG⟩ : ∃ G, G = w.heap.size := ⟨_, rfl⟩
 rw [← hG]
 have HG := Lib.hid hG; clear hG
 go_loopw [13] (fun v13 wr => ∃ i : Nat, i ≤ m ∧ v13 = .int .i64 (i : Int) ∧ RP w1 wr G m (fun t => if t < i then (F (y t), true) else (0, false))) (fun v13 _ => (m - intOf v13).toNat)
 case atStart => exact ⟨0, by omega, rfl, by rw [HG.out]; exact H0.out.2⟩
 case round =>
   obtain ⟨i, hi, rfl, hr⟩ := hrel
   have HR := Lib.hid hr; clear hr
   have HB : Hid (Below w.heap.size w wr) := below_of_gb H0.out.1 HR.out.gr (by rw [HG.out]; exact Nat.le_refl _) H0.out.1.size
   by_cases hlt : i < m
   · have hdi : decide (i < m) = true := decide_eq_true hlt
     obtain ⟨s, o, rfl, hs, hc⟩ := (HY.out.later HB.out).at_ hlt
     have hyi := HMY.out i hlt
     obtain ⟨s2, o2, rfl, hs2, hc2⟩ := (HI.out.later HB.out).at_ hyi
     obtain ⟨x, hx⟩ : ∃ x, x = F (y i) := ⟨_, rfl⟩
     obtain ⟨q, hq⟩ : ∃ q, q = y i := ⟨_, rfl⟩
     rw [← hx, ← hq] at hc2
     rw [← hq] at hc hyi
     have c1 := (HR.out.c1 i hlt)
     have c2 := (HR.out.c2 i hlt)
     obtain ⟨c1, f1⟩ := c1
     obtain ⟨c2, f2⟩ := c2
     have hiI : (i : Int) < (m : Int) := by omega
     have hqI : (q : Int) < (n : Int) := by omega
     have q6 : (q : Int) ≤ 1000000 := by have := HN.out; omega
     have hset := HR.out.set hlt (x, true)
     have HNX : Hid (RP w1 ((wr.setCell ⟨G, i * 2, none⟩ (.int .i64 x)).setCell ⟨G, i * 2 + 1, none⟩ (.bool true)) G m (fun t => if t < i + 1 then (F (y t), true) else (0, false))) := by
       refine ⟨hset.gr, hset.lt, fun t ht => ?_, fun t ht => ?_⟩
       · have h1 := hset.c1 t ht
         have e : (if t = i then (x, true) else if t < i then (F (y t), true) else (0, false)) = (if t < i + 1 then (F (y t), true) else (0, false)) := by
           by_cases e1 : t = i
           · rw [if_pos e1, if_pos (by omega), e1, hx]
           · rw [if_neg e1]
             by_cases e2 : t < i
             · rw [if_pos e2, if_pos (by omega)]
             · rw [if_neg e2, if_neg (by omega)]
         rw [← e]; exact h1
       · have h1 := hset.c2 t ht
         have e : (if t = i then (x, true) else if t < i then (F (y t), true) else (0, false)) = (if t < i + 1 then (F (y t), true) else (0, false)) := by
           by_cases e1 : t = i
           · rw [if_pos e1, if_pos (by omega), e1, hx]
           · rw [if_neg e1]
             by_cases e2 : t < i
             · rw [if_pos e2, if_pos (by omega)]
             · rw [if_neg e2, if_neg (by omega)]
         rw [← e]; exact h1
     simp only [Nat.lt_irrefl, if_false] at c1 c2
     clear hx hq hset
     go_wp2
     exact ⟨⟨i + 1, by omega, by go_num, HNX.out⟩, by simp [intOf]; omega⟩
   · obtain rfl : i = m := by omega
     have hdi : decide (i < i) = false := decide_eq_false (by omega)
     have HE : Hid (RP wr wr G i (fun t => (F (y t), true))) := by
       refine ⟨gb_refl _ _, HR.out.lt, fun t ht => ?_, fun t ht => ?_⟩
       · have := HR.out.c1 t ht; simp only [ht, if_true] at this; exact this
       · have := HR.out.c2 t ht; simp only [ht, if_true] at this; exact this
     go_wp2
     go_returns
     exact ⟨HB.out, G, rfl, by rw [HG.out]; exact Nat.le_refl _, HE.out⟩
end Go.Proofs.YtenkkononchgmaaGreatDoor

/- The walks of pairs and countAlone. -/
namespace Go.Proofs.YtenkkononchgmaaGreatDoor
open Go.RowKit Go Go.Sort

def Hul.two (R : Nat → Int × Bool) (i : Nat) : Int × Bool := ((R (2 * i)).1 + (R (2 * i + 1)).1, false)
theorem RP.set1 {w0 w : World} {g n : Nat} {d : Nat → Int × Bool} (h : RP w0 w g n d) {i : Nat} (hi : i < n) (x : Int) :
   RP w0 (w.setCell ⟨g, i * 2, none⟩ (.int .i64 x)) g n (fun t => if t = i then (x, (d t).2) else d t) := by
 refine ⟨gb_setCell h.gr _, by simpa using h.lt, fun t ht => ⟨?_, ?_⟩, fun t ht => ⟨?_, ?_⟩⟩
 · by_cases e : t = i
   · subst e; rw [World.cell?_setCell_same _ _ _ (h.c1 t ht).1, if_pos rfl]
   · rw [World.cell?_setCell_other _ _ _ _ (by intro e'; simp only [Addr.mk.injEq] at e'; omega), (h.c1 t ht).1, if_neg e]
 · rw [World.frozen?_setCell]; exact (h.c1 t ht).2
 · rw [World.cell?_setCell_other _ _ _ _ (by intro e'; simp only [Addr.mk.injEq] at e'; omega), (h.c2 t ht).1]
   split <;> rfl
 · rw [World.frozen?_setCell]; exact (h.c2 t ht).2
theorem RP.congr {w0 w : World} {g n : Nat} {d d' : Nat → Int × Bool} (h : RP w0 w g n d) (he : ∀ t, t < n → d t = d' t) : RP w0 w g n d' :=
 ⟨h.gr, h.lt, fun t ht => by rw [← he t ht]; exact h.c1 t ht, fun t ht => by rw [← he t ht]; exact h.c2 t ht⟩

set_option maxRecDepth 100000 in
set_option maxHeartbeats 4000000 in
theorem pairs_any (g n cap : Nat) (R : Nat → Int × Bool) (w : World) (hR : RP w w g n R) (hn : n ≤ 1000000) (hb : ∀ i, i < n → 0 ≤ (R i).1 ∧ (R i).1 ≤ 1000000000000) :
   Calls Tryz.prog 165 #[.slice (some ⟨g, 0, none⟩) n cap] w fun e w' => Below w.heap.size w w' ∧ ∃ G, e = .returned (.slice (some ⟨G, 0, none⟩) (n / 2) (n / 2)) ∧ w.heap.size ≤ G ∧ RP w' w' G (n / 2) (Hul.two R) := by
 have HN := Lib.hid hn
 have HBD := Lib.hid hb
 have HRW : Hid (RP w w g n R) := hR
 obtain ⟨m, hm⟩ : ∃ m, m = n / 2 := ⟨_, rfl⟩
 have hmI : (n : Int) / 2 = (m : Int) := by omega
 have hmQ : Int.tdiv (n : Int) 2 = (m : Int) := by rw [Int.tdiv_eq_ediv_of_nonneg (by omega)]; omega
 have m6 : (m : Int) ≤ 1000000 := by omega
 have n6 : (n : Int) ≤ 1000000 := by omega
 obtain ⟨Z, hz, hz1, hz2⟩ := run_packs m (by omega) w
 have H0 : Hid (Below w.heap.size w (w.alloc (.cells Z 295)) ∧ RP (w.alloc (.cells Z 295)) (w.alloc (.cells Z 295)) w.heap.size m (fun _ => (0, false))) :=
   ⟨(Below.refl _ _).alloc (Nat.le_refl _) _, (own_RP (own_made (by omega) hz1 hz2)).1⟩
 rw [← hm]
 have HM := Lib.hid hm
 clear hR hn hz1 hz2 hb hm
 go_enter Tryz.func165, Tryz.ntmps165
 go_wp2_with fail
 generalize hw1 : w.alloc (.cells Z 295) = w1 at *
 clear hz hw1
 obtain ⟨G, hG⟩ : ∃ G, G = w.heap.size := ⟨_, rfl⟩
 rw [← hG]
 have HG := Lib.hid hG; clear hG
 go_loopw [11] (fun v11 wr => ∃ i : Nat, i ≤ m ∧ v11 = .int .i64 (i : Int) ∧ RP w1 wr G m (fun t => if t < i then Hul.two R t else (0, false))) (fun v11 _ => (m - intOf v11).toNat)
 case atStart => exact ⟨0, by omega, rfl, by rw [HG.out]; exact H0.out.2⟩
 case round =>
   obtain ⟨i, hi, rfl, hr⟩ := hrel
   have HR := Lib.hid hr; clear hr
   have HB : Hid (Below w.heap.size w wr) := below_of_gb H0.out.1 HR.out.gr (by rw [HG.out]; exact Nat.le_refl _) H0.out.1.size
   by_cases hlt : i < m
   · have hdi : decide (i < m) = true := decide_eq_true hlt
     have hro := HRW.out.later HB.out
     obtain ⟨p, hp⟩ : ∃ p, p = 2 * i := ⟨_, rfl⟩
     obtain ⟨q, hq⟩ : ∃ q, q = 2 * i + 1 := ⟨_, rfl⟩
     have hpn : p < n := by have := HM.out; omega
     have hqn : q < n := by have := HM.out; omega
     have c1 := (hro.c1 p hpn).1
     have c2 := (hro.c1 q hqn).1
     obtain ⟨x, hx⟩ : ∃ x, x = (R p).1 := ⟨_, rfl⟩
     obtain ⟨z, hz⟩ : ∃ z, z = (R q).1 := ⟨_, rfl⟩
     have hxb : 0 ≤ x ∧ x ≤ 1000000000000 := by rw [hx]; exact HBD.out p hpn
     have hzb : 0 ≤ z ∧ z ≤ 1000000000000 := by rw [hz]; exact HBD.out q hqn
     obtain ⟨x0, x6⟩ := hxb
     obtain ⟨z0, z6⟩ := hzb
     rw [← hx] at c1
     rw [← hz] at c2
     obtain ⟨c3, f3⟩ := HR.out.c1 i hlt
     simp only [Nat.lt_irrefl, if_false] at c3
     have hset := HR.out.drew.set1 hlt (x + z)
     have HNX : Hid (RP w1 (wr.drew.setCell ⟨G, i * 2, none⟩ (.int .i64 (x + z))) G m (fun t => if t < i + 1 then Hul.two R t else (0, false))) := by
       refine hset.congr fun t ht => ?_
       by_cases e1 : t = i
       · rw [if_pos e1, if_neg (show ¬ t < i by omega), if_pos (show t < i + 1 by omega), e1]
         show (x + z, false) = ((R (2 * i)).1 + (R (2 * i + 1)).1, false)
         rw [hx, hz, hp, hq]
       · rw [if_neg e1]
         by_cases e2 : t < i
         · rw [if_pos e2, if_pos (by omega)]
         · rw [if_neg e2, if_neg (by omega)]
     have w1' : IntKind.i64.wrap (2 * (i : Int)) = (p : Int) := wm (by omega) (by have := HN.out; omega)
     have e1 : 2 * (i : Int) = (p : Int) := by omega
     have e2 : (p : Int) + 1 = (q : Int) := by omega
     have w2' : IntKind.i64.wrap (p : Int) = (p : Int) := wm rfl (by have := HN.out; omega)
     have w3' : IntKind.i64.wrap (q : Int) = (q : Int) := wm rfl (by have := HN.out; omega)
     have hiI : (i : Int) < (m : Int) := by omega
     have hpI : (p : Int) < (n : Int) := by omega
     have hqI : (q : Int) < (n : Int) := by omega
     have p0 : (0 : Int) ≤ (p : Int) := by omega
     have q0 : (0 : Int) ≤ (q : Int) := by omega
     have i0 : (0 : Int) ≤ (i : Int) := by omega
     clear hx hz hset hro hp hq
     go_wp2_with fail
     go_big_region
     go_wp2
     exact ⟨⟨i + 1, by omega, by go_num, HNX.out⟩, by simp [intOf]; omega⟩
   · obtain rfl : i = m := by omega
     have hdi : decide (i < i) = false := decide_eq_false (by omega)
     have HE : Hid (RP wr wr G i (Hul.two R)) := HR.out.at.congr fun t ht => by rw [if_pos ht]
     go_wp2
     go_returns
     exact ⟨HB.out, G, rfl, by rw [HG.out]; exact Nat.le_refl _, HE.out⟩

set_option maxRecDepth 100000 in
set_option maxHeartbeats 4000000 in
theorem alone_any (g n cap : Nat) (R : Nat → Int × Bool) (w : World) (hR : RP w w g n R) (hn : n ≤ 1000000) :
   Calls Tryz.prog 142 #[.slice (some ⟨g, 0, none⟩) n cap] w fun e w' => Below w.heap.size w w' ∧ e = .returned (.int .i64 (Hul.al R n : Nat)) := by
 have HN := Lib.hid hn
 have HRW : Hid (RP w w g n R) := hR
 have n6 : (n : Int) ≤ 1000000 := by omega
 clear hR hn
 go_enter Tryz.func142, Tryz.ntmps142
 go_wp2_with fail
 go_loopw [3, 8] (fun v3 v8 wr => ∃ i c : Nat, i ≤ n ∧ c = Hul.al R i ∧ v3 = .int .i64 (c : Int) ∧ v8 = .int .i64 (i : Int) ∧ Below w.heap.size w wr) (fun _ v8 _ => (n - intOf v8).toNat)
 case atStart => exact ⟨0, 0, by omega, rfl, rfl, rfl, Below.refl _ _⟩
 case round =>
   obtain ⟨i, c, hi, hc, rfl, rfl, hb⟩ := hrel
   have HB := Lib.hid hb; clear hb
   have c6 : (c : Int) ≤ 1000000 := by have := Hul.al_le R i; omega
   have HC := Lib.hid hc; clear hc
   by_cases hlt : i < n
   · have hdi : decide (i < n) = true := decide_eq_true hlt
     have hro := HRW.out.later HB.out
     have c1 := (hro.c1 i hlt).1
     have c2 := (hro.c2 i hlt).1
     obtain ⟨x, hx⟩ : ∃ x, x = (R i).1 := ⟨_, rfl⟩
     obtain ⟨b, hb⟩ : ∃ b, b = (R i).2 := ⟨_, rfl⟩
     rw [← hx] at c1
     rw [← hb] at c2
     have HX : Hid (Hul.al R (i + 1) = c + if b = true then 1 else 0) := by show _ = _; rw [Hul.al, HC.out, hb]
     have HB2 : Hid (∀ o, Below w.heap.size w (wr.alloc o)) := fun o => HB.out.alloc HB.out.size o
     have hiI : (i : Int) < (n : Int) := by omega
     clear hx hb hro
     cases b with
     | true =>
       go_wp2
       exact ⟨⟨i + 1, c + 1, by omega, by rw [HX.out]; rfl, by go_num, by go_num, HB2.out _⟩, by simp [intOf]; omega⟩
     | false =>
       go_wp2
       exact ⟨⟨i + 1, c, by omega, by rw [HX.out]; rfl, by go_num, by go_num, HB2.out _⟩, by simp [intOf]; omega⟩
   · obtain rfl : i = n := by omega
     have hdi : decide (i < i) = false := decide_eq_false (by omega)
     go_wp2
     go_returns
     exact ⟨HB.out, by rw [HC.out]; rfl⟩
end Go.Proofs.YtenkkononchgmaaGreatDoor

/- The levels of packages: what they are; the walk of a copy. -/
namespace Go.Proofs.YtenkkononchgmaaGreatDoor
open Go.RowKit Go Go.Sort

set_option maxRecDepth 100000 in
set_option maxHeartbeats 2000000 in
theorem pairs_nil (w : World) :
   Calls Tryz.prog 165 #[.slice none 0 0] w fun e w' => Below w.heap.size w w' ∧ ∃ G, e = .returned (.slice (some ⟨G, 0, none⟩) 0 0) ∧ w.heap.size ≤ G ∧ RP w' w' G 0 (fun _ => (0, false)) := by
 obtain ⟨Z, hz, hz1, hz2⟩ := run_packs 0 (by omega) w
 have H0 : Hid (Below w.heap.size w (w.alloc (.cells Z 295)) ∧ RP (w.alloc (.cells Z 295)) (w.alloc (.cells Z 295)) w.heap.size 0 (fun _ => (0, false))) :=
   ⟨(Below.refl _ _).alloc (Nat.le_refl _) _, (own_RP (own_made (by omega) hz1 hz2)).1⟩
 have hz' : (Instr.makeSlice 273 (.int .i64 0) (.int .i64 0)).run Tryz.prog w = .ok (.slice (some ⟨w.heap.size, 0, none⟩) 0 0) (w.alloc (.cells Z 295)) := hz
 clear hz1 hz2 hz
 go_enter Tryz.func165, Tryz.ntmps165
 go_wp2_with fail
 generalize hw1 : w.alloc (.cells Z 295) = w1 at *
 clear hz' hw1
 obtain ⟨G, hG⟩ : ∃ G, G = w.heap.size := ⟨_, rfl⟩
 rw [← hG]
 have HG := Lib.hid hG; clear hG
 go_loopw [11] (fun v11 wr => v11 = .int .i64 0 ∧ wr = w1) (fun _ _ => 0)
 case atStart => exact ⟨rfl, rfl⟩
 case round =>
   obtain ⟨rfl, rfl⟩ := hrel
   go_wp2
   go_returns
   exact ⟨H0.out.1, G, rfl, by rw [HG.out]; exact Nat.le_refl _, by rw [HG.out]; exact H0.out.2⟩

theorem lit0 (w : World) : (w.alloc (.cells #[] 295)).ownsRow w.heap.size 295 2 (.slice (some ⟨w.heap.size, 0, none⟩) 0 0) 0 (pv (fun _ => (0, false)) 0) :=
 World.ownsRow_lit (base := w.heap.size) (e := 295) (size := 2) w #[] 0 (Nat.le_refl _) (by simp only [maxLen]; omega) rfl
set_option maxRecDepth 100000 in
set_option maxHeartbeats 2000000 in
theorem clone_any (g n cap : Nat) (R : Nat → Int × Bool) (w : World) (hR : RP w w g n R) (hn : n ≤ 100000) :
   Calls Tryz.prog 164 #[.slice (some ⟨g, 0, none⟩) n cap] w fun e w' => Below w.heap.size w w' ∧ ∃ v, e = .returned v ∧ v ≠ .slice none 0 0 ∧ w'.ownsRow w.heap.size 295 2 v n (pv R n) := by
 have HRW : Hid (RP (w.alloc (.cells #[] 295)) (w.alloc (.cells #[] 295)) g n R) := hR.later ((Below.refl _ _).alloc (Nat.le_refl _) _)
 have HO := Lib.hid (lit0 w)
 have he : ∀ wx, (binOp BinOp.eql 273 (.slice (some ⟨g, 0, none⟩) n cap) (.slice none 0 0)).run Tryz.prog wx = .ok (.bool false) wx := fun wx => by
   have hu : Tryz.prog.underlying 273 = some (.slice 295) := by kernel_rfl
   have h : ∀ d : Nat, (Op.equalIn (d + 1) 273 (.slice (some ⟨g, 0, none⟩) n cap) (.slice none 0 0)).run Tryz.prog wx = .ok false wx := fun d => by simp [Op.equalIn, run_underlying hu]
   simp only [binOp]
   simp [Op.equal, Op.maxDepth, h 9999]
 have HN := Lib.hid hn
 clear hR hn
 go_enter Tryz.func164, Tryz.ntmps164
 go_wp2_with (first | (at_builtin; refine wpList_append_packs rfl (.tmp 5) (.tmp 6) rfl w.heap.size _ 0 (fun _ => (0, false)) rfl HO.out g n cap R rfl HRW.out (by have := HN.out; omega) (by simp) ?_; intro v' w2 ho hg hnn))
 go_returns
 refine ⟨below_of_gb ((Below.refl _ _).alloc (Nat.le_refl _) _) hg.out (Nat.le_refl _) (by simp), v', rfl, hnn.out (fun e => by cases e), ?_⟩
 have := ho.out
 rw [Nat.zero_add] at this
 exact this
end Go.Proofs.YtenkkononchgmaaGreatDoor

/- The walk of merged. -/
namespace Go.Proofs.YtenkkononchgmaaGreatDoor
open Go.RowKit Go Go.Sort

theorem infoPks : (Tryz.prog.info? 273).map (fun i => (i.zero, i.size, i.bytes)) = some (some (.slice none 0 0), 1, 24) := by kernel_rfl
theorem run_levels (n : Nat) (hn : n ≤ 1000000) (w : World) : ∃ Z : Array Value, Z.size = n ∧ (Instr.makeSlice 271 (.int .i64 (n : Int)) (.int .i64 (n : Int))).run Tryz.prog w = .ok (.slice (some ⟨w.heap.size, 0, none⟩) n n) (w.alloc (.cells Z 273)) := by
 obtain ⟨i0, hi, hz0, hz1, hz2⟩ := info_parts infoPks
 have := run_make (P := Tryz.prog) w 271 273 i0 _ (by kernel_rfl) hi hz0 .i64 .i64 (n : Int) (n : Int) (by omega) (by omega) (by rw [hz2]; omega) (by omega)
 rw [hz1, show (n : Int).toNat = n by omega, Nat.mul_one] at this
 exact ⟨_, by rw [size_madeCells], this⟩

structure LvM (w : World) (G most m : Nat) (R : Nat → Nat → Int × Bool) (k : Nat) : Prop where
 row : ∃ Z, w.heap[G]? = some (.cells Z 273 (0, 0)) ∧ Z.size = most
 lv : ∀ j, j < k → ∃ g c, w.cell? ⟨G, j, none⟩ = some (.slice (some ⟨g, 0, none⟩) (Hul.ln m j) c) ∧ Hul.ln m j ≤ c ∧ g ≠ G ∧ RP w w g (Hul.ln m j) (R j)
theorem LvM.later {w w' : World} {G most m : Nat} {R : Nat → Nat → Int × Bool} {k : Nat} (h : LvM w G most m R k) (hb : Below w.heap.size w w') : LvM w' G most m R k := by
 obtain ⟨Z, h1, h2⟩ := h.row
 refine ⟨⟨Z, (hb.block _ (lt_of_block h1)).trans h1, h2⟩, fun j hj => ?_⟩
 obtain ⟨g, c, q1, q2, q3, q4⟩ := h.lv j hj
 exact ⟨g, c, by rw [World.cell?_of_block (hb.block _ (lt_of_block h1))]; exact q1, q2, q3, q4.later hb⟩
theorem LvM.put {w : World} {G most m : Nat} {R : Nat → Nat → Int × Bool} {k g c : Nat} {d : Nat → Int × Bool} (h : LvM w G most m R k) (hk : k < most) (hc : Hul.ln m k ≤ c) (hg : g ≠ G) (hr : RP w w g (Hul.ln m k) d) :
   LvM (w.setCell ⟨G, k, none⟩ (.slice (some ⟨g, 0, none⟩) (Hul.ln m k) c)) G most m (fun j => if j = k then d else R j) (k + 1) := by
 obtain ⟨Z, h1, h2⟩ := h.row
 have hrow : ∀ b n D, b ≠ G → RP w w b n D → RP (w.setCell ⟨G, k, none⟩ (.slice (some ⟨g, 0, none⟩) (Hul.ln m k) c)) (w.setCell ⟨G, k, none⟩ (.slice (some ⟨g, 0, none⟩) (Hul.ln m k) c)) b n D := fun b n D hb hr => by
   have hh : (w.setCell ⟨G, k, none⟩ (.slice (some ⟨g, 0, none⟩) (Hul.ln m k) c)).heap[b]? = w.heap[b]? := heap_setCell_other _ _ _ _ hb
   exact ⟨gb_refl _ _, by simpa using hr.lt, fun i hi => by rw [World.cell?_of_block hh, World.frozen?_of_block hh]; exact hr.c1 i hi, fun i hi => by rw [World.cell?_of_block hh, World.frozen?_of_block hh]; exact hr.c2 i hi⟩
 have hcell : (w.setCell ⟨G, k, none⟩ (.slice (some ⟨g, 0, none⟩) (Hul.ln m k) c)).heap[G]? = some (.cells (Z.setIfInBounds k (.slice (some ⟨g, 0, none⟩) (Hul.ln m k) c)) 273 (0, 0)) := heap_setCell_same _ _ _ _ _ _ h1
 refine ⟨⟨_, hcell, by simpa using h2⟩, fun j hj => ?_⟩
 by_cases e : j = k
 · subst e
   refine ⟨g, c, ?_, hc, hg, by simp only [if_true]; exact hrow g _ _ hg hr⟩
   rw [cell_of_row _ _ _ _ _ _ hcell, Array.getElem?_setIfInBounds_self, if_pos (by omega)]
 · obtain ⟨g', c', q1, q2, q3, q4⟩ := h.lv j (by omega)
   refine ⟨g', c', ?_, q2, q3, by simp only [if_neg e]; exact hrow g' _ _ q3 q4⟩
   rw [World.cell?_setCell_other _ _ _ _ (by intro e'; simp only [Addr.mk.injEq] at e'; omega)]; exact q1

set_option maxRecDepth 100000 in
set_option maxHeartbeats 4000000 in
theorem merged_any (g m cap most : Nat) (O : Nat → Int) (w : World) (hR : RP w w g m (fun t => (O t, true))) (hm : m ≤ 300) (hk1 : 1 ≤ most) (hk : most ≤ 15) (hO : ∀ t, t < m → 0 ≤ O t ∧ O t ≤ 1048576) :
   Calls Tryz.prog 140 #[.slice (some ⟨g, 0, none⟩) m cap, .int .i64 (most : Int)] w fun e w' => Below w.heap.size w w' ∧ ∃ G R, e = .returned (.slice (some ⟨G, 0, none⟩) most most) ∧ Hul.Lev O m R most ∧ LvM w' G most m R most := by
 have HRW : Hid (RP w w g m (fun t => (O t, true))) := hR
 have HM := Lib.hid hm
 have HO := Lib.hid hO
 have HK := Lib.hid hk
 have k15 : (most : Int) ≤ 15 := by omega
 obtain ⟨Z, hz1, hz⟩ := run_levels most (by omega) w
 have H0 : Hid (Below w.heap.size w (w.alloc (.cells Z 273)) ∧ LvM (w.alloc (.cells Z 273)) w.heap.size most m (fun _ _ => (0, false)) 0) :=
   ⟨(Below.refl _ _).alloc (Nat.le_refl _) _, ⟨⟨Z, heap_alloc_new _ _, hz1⟩, fun j hj => by omega⟩⟩
 have mixed : Tryz.prog.follows .mixedOrders = true := by kernel_rfl
 clear hR hm hO hk hz1 hk1
 go_enter Tryz.func140, Tryz.ntmps140
 go_wp2_with fail
 generalize hw1 : w.alloc (.cells Z 273) = w1 at *
 clear hz hw1
 obtain ⟨G, hG⟩ : ∃ G, G = w.heap.size := ⟨_, rfl⟩
 rw [← hG]
 have HG := Lib.hid hG; clear hG
 go_loopw [6, 12] (fun v6 v12 wr => ∃ (k : Nat) (R : Nat → Nat → Int × Bool), k ≤ most ∧ v12 = .int .i64 (k : Int) ∧ Below w.heap.size w wr ∧ Hul.Lev O m R k ∧ LvM wr G most m R k ∧
   ((k = 0 ∧ v6 = .slice none 0 0) ∨ ∃ j b c, k = j + 1 ∧ v6 = .slice (some ⟨b, 0, none⟩) (Hul.ln m j) c ∧ RP wr wr b (Hul.ln m j) (R j))) (fun _ v12 _ => (most - intOf v12).toNat)
 case atStart => exact ⟨0, fun _ _ => (0, false), by omega, rfl, H0.out.1, fun j hj => by omega, by rw [HG.out]; exact H0.out.2, .inl ⟨rfl, rfl⟩⟩
 case round =>
   clear H0
   obtain ⟨k, R, hk, rfl, hb, hlev, hlm, hbelow⟩ := hrel
   have HB := Lib.hid hb; clear hb
   have HLEV : Hid (Hul.Lev O m R k) := hlev
   have HLM := Lib.hid hlm; clear hlm
   by_cases hlt : k < most
   · have hdi : decide (k < most) = true := decide_eq_true hlt
     -- the pairs of the level below
     have hpairs : ∃ S : Nat → Int × Bool, (∀ t, (if t < m then (O t, true) else S (t - m)) = Hul.base O m R k t) ∧ ∀ wx, Below wr.heap.size wr wx → Calls Tryz.prog 165 #[u6] wx fun e w' => Below wx.heap.size wx w' ∧ ∃ Gp, e = .returned (.slice (some ⟨Gp, 0, none⟩) (Hul.ln m k - m) (Hul.ln m k - m)) ∧ wx.heap.size ≤ Gp ∧ RP w' w' Gp (Hul.ln m k - m) S := by
       rcases hbelow with ⟨h0, h1⟩ | ⟨j, b, c, h0, h1, h2⟩
       · refine ⟨fun _ => (0, false), fun t => ?_, fun wx hx => ?_⟩
         · rw [h0, Hul.base]
         · rw [h1, h0, show Hul.ln m 0 - m = 0 by rw [Hul.ln]; omega]
           exact pairs_nil wx
       · refine ⟨Hul.two (R j), fun t => ?_, fun wx hx => ?_⟩
         · rw [h0, Hul.base]; rfl
         · rw [h1, h0, show Hul.ln m (j + 1) - m = Hul.ln m j / 2 by rw [Hul.ln]; omega]
           refine pairs_any b _ c (R j) wx (h2.later hx) (by have := Hul.ln_le m j; have := HM.out; omega) (fun t ht => ?_)
           have := hlev.bd HO.out j (by omega) t ht
           have hp : (2 : Int) ^ j ≤ 2 ^ 15 := by
             have := Nat.pow_le_pow_right (n := 2) (by omega) (show j ≤ 15 by have := HK.out; omega)
             exact_mod_cast this
           omega
     obtain ⟨S, hS1, hS2⟩ := hpairs
     have HS1 := Lib.hid hS1
     have HS2 := Lib.hid hS2
     have HCL : Hid (Calls Tryz.prog 164 #[.slice (some ⟨g, 0, none⟩) m cap] wr fun e w' => Below wr.heap.size wr w' ∧ ∃ v, e = .returned v ∧ v ≠ .slice none 0 0 ∧ w'.ownsRow wr.heap.size 295 2 v m (pv (fun t => (O t, true)) m)) :=
       clone_any g m cap _ wr (HRW.out.later HB.out) (by have := HM.out; omega)
     clear hS1 hS2 hlev hbelow
     obtain ⟨p, hp⟩ : ∃ p, p = Hul.ln m k - m := ⟨_, rfl⟩
     have hpm : m + p = Hul.ln m k := by
       have : m ≤ Hul.ln m k := by cases k <;> rw [Hul.ln] <;> omega
       omega
     have HPM := Lib.hid hpm
     have HLE : Hid (Hul.ln m k ≤ 600) := by have := Hul.ln_le m k; have := HM.out; show _ ≤ _; omega
     rw [← hp] at HS2
     clear hp hpm
     go_wp2_with fail
     refine HCL.out.mono ?_
     rintro e w2 ⟨hb2, v, rfl, hvn, hv⟩
     have HB2 := Lib.hid hb2
     have HV := Lib.hid hv
     have HVN := Lib.hid hvn
     clear hb2 hv hvn HCL
     go_wp2_with fail
     refine (HS2.out w2 HB2.out).mono ?_
     rintro e w3 ⟨hb3, Gp, rfl, hgp, hrp⟩
     have HB3 : Hid (Below wr.heap.size wr w3) := HB2.out.trans (hb3.mono HB2.out.size)
     have HV3 : Hid (w3.ownsRow wr.heap.size 295 2 v m (pv (fun t => (O t, true)) m)) := by
       refine ⟨HV.out.1, ?_⟩
       rcases HV.out.2 with h0 | ⟨b, cap, cur, e, q1, q2, q3⟩
       · exact .inl h0
       · exact .inr ⟨b, cap, cur, e, q1, (hb3.block _ (lt_of_block q2)).trans q2, q3⟩
     have HRP := Lib.hid hrp
     clear hb3 hgp hrp HV HB2 HS2
     go_wp2_with (first | (at_builtin; refine wpList_append_packs rfl (.tmp 16) (.tmp 18) rfl wr.heap.size v m (fun t => (O t, true)) rfl HV3.out Gp p p S rfl HRP.out (by have := HLE.out; have := HPM.out; omega) HB3.out.size ?_; intro v4 w4 ho4 hg4 hn4; have HB4 : Hid (Below wr.heap.size wr w4) := HB3.out.grown hg4.out HB3.out.size (fun k hk => (HV3.out.lt k hk).1); obtain ⟨g4, c4, rfl, hlo4, hlt4⟩ := own_some ho4.out (hn4.out HVN.out)))
     have ho5 := own_RP ho4.out
     rw [HPM.out] at ho5 ⊢
     have HR4 := Lib.hid ho5
     have HLO4 : Hid (wr.heap.size ≤ g4 ∧ g4 < w4.heap.size) := ⟨hlo4, hlt4⟩
     clear ho4 hg4 hn4 ho5 hlo4 hlt4 HV3 HRP HB3 HVN
     have hsort := sortP w4 g4 (Hul.ln m k) c4 _ w4 HR4.out.1 (by have := HLE.out; omega) HR4.out.2.1
     have hD : (fun t => if t < m then (O t, true) else S (t - m)) = Hul.base O m R k := funext HS1.out
     rw [hD] at hsort
     have HCAP : Hid (Hul.ln m k ≤ c4) := HR4.out.2.1
     clear HR4 HS1 hD
     with_reducible refine hsort.mono ?_
     rintro e w5 ⟨rfl, d, hr5, hp5, hu5⟩
     have HB5 : Hid (Below wr.heap.size wr w5) := below_of_gb HB4.out hr5.gr HLO4.out.1 HB4.out.size
     have HR5 : Hid (RP w5 w5 g4 (Hul.ln m k) d) := hr5.at
     have HLEV2 : Hid (Hul.Lev O m (fun j => if j = k then d else R j) (k + 1)) := HLEV.out.add hp5 hu5
     have hlm5 := HLM.out.later HB5.out
     have hgG : g4 ≠ G := by
       obtain ⟨Z', q1, _⟩ := HLM.out.row
       have := lt_of_block q1
       have := HLO4.out.1
       omega
     have HLM5 : Hid (LvM (w5.setCell ⟨G, k, none⟩ (.slice (some ⟨g4, 0, none⟩) (Hul.ln m k) c4)) G most m (fun j => if j = k then d else R j) (k + 1)) := hlm5.put hlt HCAP.out hgG HR5.out
     have HB6 : Hid (Below w.heap.size w (w5.setCell ⟨G, k, none⟩ (.slice (some ⟨g4, 0, none⟩) (Hul.ln m k) c4))) := by
       refine below_of_gb (HB.out.trans (HB5.out.mono HB.out.size)) (gb_setCell (gb_refl _ _) _) (by rw [HG.out]; exact Nat.le_refl _) ?_
       have h1 := HB.out.size
       have h2 := HB5.out.size
       omega
     have HR6 : Hid (RP (w5.setCell ⟨G, k, none⟩ (.slice (some ⟨g4, 0, none⟩) (Hul.ln m k) c4)) (w5.setCell ⟨G, k, none⟩ (.slice (some ⟨g4, 0, none⟩) (Hul.ln m k) c4)) g4 (Hul.ln m k) d) := by
       have hh : (w5.setCell ⟨G, k, none⟩ (.slice (some ⟨g4, 0, none⟩) (Hul.ln m k) c4)).heap[g4]? = w5.heap[g4]? := heap_setCell_other _ _ _ _ hgG
       exact ⟨gb_refl _ _, by simpa using HR5.out.lt, fun i hi => by rw [World.cell?_of_block hh, World.frozen?_of_block hh]; exact HR5.out.c1 i hi, fun i hi => by rw [World.cell?_of_block hh, World.frozen?_of_block hh]; exact HR5.out.c2 i hi⟩
     obtain ⟨⟨u, c1⟩, f1⟩ : (∃ u, w5.cell? ⟨G, k, none⟩ = some u) ∧ w5.frozen? ⟨G, k, none⟩ = false := by
       obtain ⟨Z', q1, q2⟩ := hlm5.row
       exact ⟨⟨_, (cell_of_row _ _ _ _ _ _ q1).trans (Array.getElem?_eq_getElem (by omega))⟩, frozen_of_row _ _ _ _ _ q1⟩
     have hkI : (k : Int) < (most : Int) := by omega
     clear hr5 hp5 hu5 hlm5 hgG hsort
     go_wp2
     exact ⟨⟨k + 1, _, by omega, by go_num, HB6.out, HLEV2.out, HLM5.out, .inr ⟨k, g4, c4, rfl, rfl, by rw [if_pos rfl]; exact HR6.out⟩⟩, by simp [intOf]; omega⟩
   · obtain rfl : k = most := by omega
     have hdi : decide (k < k) = false := decide_eq_false (by omega)
     clear hbelow
     go_wp2
     go_returns
     exact ⟨HB.out, G, R, rfl, HLEV.out, HLM.out⟩
end Go.Proofs.YtenkkononchgmaaGreatDoor

/- The walk of reckonable. -/
namespace Go.Proofs.YtenkkononchgmaaGreatDoor
open Go.RowKit Go Go.Sort

def Hul.Reck (F : Nat → Int) (n : Nat) (most : Int) : Prop := n ≤ 288 ∧ 1 ≤ most ∧ most ≤ 15 ∧ ∀ i, i < n → 0 ≤ F i ∧ F i ≤ 1048576

set_option maxRecDepth 100000 in
set_option maxHeartbeats 2000000 in
theorem reck_any (a : Option Addr) (n cap : Nat) (F : Nat → Int) (most : Int) (w : World) (hI : Ints w a n cap F) (hn : n ≤ 1000000) :
   Calls Tryz.prog 138 #[.slice a n cap, .int .i64 most] w fun e w' => w' = w ∧ ((Hul.Reck F n most ∧ e = .returned (.bool true)) ∨ (¬ Hul.Reck F n most ∧ e = .returned (.bool false))) := by
 have HI : Hid (Ints w a n cap F) := hI
 have n6 : (n : Int) ≤ 1000000 := by omega
 clear hI hn
 go_enter Tryz.func138, Tryz.ntmps138
 by_cases h1 : 288 < n
 · have d1 : decide (288 < n) = true := decide_eq_true h1
   have HNO : Hid (¬ Hul.Reck F n most) := fun h => by have := h.1; omega
   go_wp2
   go_returns
   exact ⟨rfl, .inr ⟨HNO.out, rfl⟩⟩
 · have d1 : decide (288 < n) = false := decide_eq_false h1
   have H1 : Hid (n ≤ 288) := by show _ ≤ _; omega
   by_cases h2 : most < 1
   · have d2 : decide (most < 1) = true := decide_eq_true h2
     have HNO : Hid (¬ Hul.Reck F n most) := fun h => by have := h.2.1; omega
     go_wp2
     go_returns
     exact ⟨rfl, .inr ⟨HNO.out, rfl⟩⟩
   · have d2 : decide (most < 1) = false := decide_eq_false h2
     by_cases h3 : 15 < most
     · have d3 : decide (15 < most) = true := decide_eq_true h3
       have HNO : Hid (¬ Hul.Reck F n most) := fun h => by have := h.2.2.1; omega
       go_wp2
       go_returns
       exact ⟨rfl, .inr ⟨HNO.out, rfl⟩⟩
     · have d3 : decide (15 < most) = false := decide_eq_false h3
       have H2 : Hid (1 ≤ most ∧ most ≤ 15) := ⟨by omega, by omega⟩
       go_wp2_with fail
       go_loopw [20] (fun v20 wr => ∃ i : Nat, i ≤ n ∧ v20 = .int .i64 (i : Int) ∧ wr = w ∧ ∀ j, j < i → 0 ≤ F j ∧ F j ≤ 1048576) (fun v20 _ => (n - intOf v20).toNat)
       case atStart => exact ⟨0, by omega, rfl, rfl, fun j hj => by omega⟩
       case round =>
         obtain ⟨i, hi, rfl, rfl, hok⟩ := hrel
         have HOK := Lib.hid hok; clear hok
         by_cases hlt : i < n
         · have hdi : decide (i < n) = true := decide_eq_true hlt
           obtain ⟨s, o, rfl, hs, hc⟩ := HI.out.at_ hlt
           obtain ⟨x, hx⟩ : ∃ x, x = F i := ⟨_, rfl⟩
           rw [← hx] at hc
           have HX := Lib.hid hx; clear hx
           have hiI : (i : Int) < (n : Int) := by omega
           by_cases hx0 : x < 0
           · have e1 : decide (x < 0) = true := decide_eq_true hx0
             have HNO : Hid (¬ Hul.Reck F n most) := fun h => by have := (h.2.2.2 i hlt).1; rw [← HX.out] at this; omega
             clear hx0
             go_wp2
             go_returns
             exact ⟨rfl, .inr ⟨HNO.out, rfl⟩⟩
           · have e1 : decide (x < 0) = false := decide_eq_false hx0
             by_cases hx1 : 1048576 < x
             · have e2 : decide (1048576 < x) = true := decide_eq_true hx1
               have HNO : Hid (¬ Hul.Reck F n most) := fun h => by have := (h.2.2.2 i hlt).2; rw [← HX.out] at this; omega
               clear hx0 hx1
               go_wp2
               go_returns
               exact ⟨rfl, .inr ⟨HNO.out, rfl⟩⟩
             · have e2 : decide (1048576 < x) = false := decide_eq_false hx1
               have HOK2 : Hid (∀ j, j < i + 1 → 0 ≤ F j ∧ F j ≤ 1048576) := fun j hj => by
                 rcases Nat.lt_or_ge j i with h | h
                 · exact HOK.out j h
                 · obtain rfl : j = i := by omega
                   rw [← HX.out]; omega
               clear hx0 hx1
               go_wp2
               exact ⟨⟨i + 1, by omega, by go_num, trivial, HOK2.out⟩, by simp [intOf]; omega⟩
         · obtain rfl : i = n := by omega
           have hdi : decide (i < i) = false := decide_eq_false (by omega)
           go_wp2
           go_returns
           exact ⟨rfl, .inl ⟨⟨H1.out, H2.out.1, H2.out.2, HOK.out⟩, rfl⟩⟩
end Go.Proofs.YtenkkononchgmaaGreatDoor

/- The walk of Lengths. -/
namespace Go.Proofs.YtenkkononchgmaaGreatDoor
open Go.RowKit Go Go.Sort

theorem elemInts : Tryz.prog.underlying 97 = some (.slice (Tryz.prog.elem 97)) := by kernel_rfl
theorem sizeInts (w : World) : (sizeOf (Tryz.prog.elem 97)).run Tryz.prog w = .ok 1 w := by kernel_rfl
theorem elemPks : Tryz.prog.underlying 273 = some (.slice (Tryz.prog.elem 273)) := by kernel_rfl
theorem sizePks (w : World) : (sizeOf (Tryz.prog.elem 273)).run Tryz.prog w = .ok 2 w := by kernel_rfl
theorem slice_ints (a : Option Addr) (n cap c : Nat) (hc : c ≤ cap) (w : World) : (Instr.sliceAt 97 (.slice a n cap) none (some (.int .i64 (c : Int))) none).run Tryz.prog w = .ok (.slice a c cap) w := by
 rw [run_sliceAt_slice w _ _ _ _ _ elemInts, run_slice_h w _ a n cap elemInts .i64 c (by omega) (by omega), sizeInts]
 cases a <;> simp [Result.andThen, sliced, Addr.add]
theorem slice_packs (a : Option Addr) (n cap c : Nat) (hc : c ≤ cap) (w : World) : (Instr.sliceAt 273 (.slice a n cap) none (some (.int .i64 (c : Int))) none).run Tryz.prog w = .ok (.slice a c cap) w := by
 rw [run_sliceAt_slice w _ _ _ _ _ elemPks, run_slice_h w _ a n cap elemPks .i64 c (by omega) (by omega), sizePks]
 cases a <;> simp [Result.andThen, sliced, Addr.add]
theorem Ints.take {w : World} {a : Option Addr} {n cap : Nat} {L : Nat → Int} (h : Ints w a n cap L) {m : Nat} (hm : m ≤ n) : Ints w a m cap L :=
 ⟨Nat.le_trans hm h.le, fun h0 => by
   obtain ⟨s, o, e, h1, h2⟩ := h.ad (by omega)
   exact ⟨s, o, e, h1, fun j hj => h2 j (by omega)⟩⟩
theorem RP.take {w0 w : World} {g n : Nat} {d : Nat → Int × Bool} (h : RP w0 w g n d) {m : Nat} (hm : m ≤ n) : RP w0 w g m d := ⟨h.gr, h.lt, fun i hi => h.c1 i (by omega), fun i hi => h.c2 i (by omega)⟩

def Hul.Asked (F : Nat → Int) (n : Nat) (most : Int) : Prop := Hul.Reck F n most ∧ (Hul.pos F n).length ≤ 2 ^ most.toNat
def Hul.Made (F : Nat → Int) (n : Nat) (most : Int) (len : Nat → Nat) : Prop :=
 ∃ m y R, Hul.Sym F n m y ∧ Hul.Lev (fun t => F (y t)) m R most.toNat ∧ ∀ i, i < n → len i = Hul.len y (Hul.A R most.toNat m) most.toNat i

structure LnS (w0 w : World) (g n : Nat) (d : Nat → Nat) : Prop where
 bel : Below w0.heap.size w0 w
 lo : w0.heap.size ≤ g
 row : w.heap[g]? = some (.cells (ki n fun i => (d i : Nat)) 3 (0, 0))
theorem LnS.later {w0 w w' : World} {g n : Nat} {d : Nat → Nat} (h : LnS w0 w g n d) (hb : Below w.heap.size w w') : LnS w0 w' g n d := ⟨h.bel.trans (hb.mono h.bel.size), h.lo, (hb.block _ (lt_of_block h.row)).trans h.row⟩
theorem LnS.inc {w0 w : World} {g n : Nat} {d : Nat → Nat} (h : LnS w0 w g n d) {i : Nat} (hi : i < n) : LnS w0 (w.setCell ⟨g, i, none⟩ (.int .i64 (((d i : Nat) : Int) + 1))) g n (fun t => d t + if i = t then 1 else 0) := by
 refine ⟨below_of_gb h.bel (gb_setCell (gb_refl _ _) _) h.lo h.bel.size, h.lo, ?_⟩
 rw [heap_setCell_same _ _ _ _ _ _ h.row, ki_set _ _ _ _ hi]
 congr 2
 refine ki_congr fun t _ => ?_
 by_cases e : t = i
 · subst e; rw [if_pos rfl, if_pos rfl]; omega
 · rw [if_neg e, if_neg (fun h => e h.symm)]; omega

set_option maxRecDepth 100000 in
set_option maxHeartbeats 8000000 in
theorem lengths_any (a : Option Addr) (n cap : Nat) (F : Nat → Int) (most : Int) (w : World) (hI : Ints w a n cap F) (hn : n ≤ 1000000) :
   Calls Tryz.prog 94 #[.slice a n cap, .int .i64 most] w fun e w' => Below w.heap.size w w' ∧ ((Hul.Asked F n most ∧ ∃ G len, w.heap.size ≤ G ∧ e = .returned (.tuple #[.slice (some ⟨G, 0, none⟩) n n, .int .i64 0]) ∧ w'.heap[G]? = some (.cells (ki n fun i => (len i : Nat)) 3 (0, 0)) ∧ Hul.Made F n most len) ∨ (¬ Hul.Asked F n most ∧ e = .returned (.tuple #[.slice none 0 0, .int .i64 2]))) := by
 have HI : Hid (Ints w a n cap F) := hI
 have HN := Lib.hid hn
 have HRK := reck_any a n cap F most w hI hn
 have n6 : (n : Int) ≤ 1000000 := by omega
 have hmk := run_ints n hn
 clear hI hn
 go_enter Tryz.func94, Tryz.ntmps94
 go_wp2_with fail
 refine HRK.mono ?_
 rintro e w' ⟨rfl, hr⟩
 clear HRK
 rcases hr with ⟨hrk, rfl⟩ | ⟨hno, rfl⟩
 · obtain ⟨K, rfl⟩ : ∃ K : Nat, most = (K : Int) := ⟨most.toNat, by have := hrk.2.1; omega⟩
   have HK : Hid (1 ≤ K ∧ K ≤ 15) := ⟨by have := hrk.2.1; omega, by have := hrk.2.2.1; omega⟩
   have HRK : Hid (Hul.Reck F n (K : Int)) := hrk
   clear hrk
   have K15 : (K : Int) ≤ 15 := by have := HK.out; omega
   have K1 : (1 : Int) ≤ (K : Int) := by have := HK.out; omega
   obtain ⟨P, hP⟩ : ∃ P, P = 2 ^ K := ⟨_, rfl⟩
   have hPI : (2 : Int) ^ K = (P : Int) := by rw [hP]; simp
   have P6 : (P : Int) ≤ 32768 := by
     have := Nat.pow_le_pow_right (n := 2) (by omega) (show K ≤ 15 by omega)
     omega
   have HP := Lib.hid hP; clear hP
   go_wp2_with fail
   refine (first_any a n cap F w' HI.out HN.out).mono ?_
   rintro e w1 ⟨hb1, a', m, cap', y, rfl, hsym, hy⟩
   have HB1 := Lib.hid hb1
   have HSYM : Hid (Hul.Sym F n m y) := hsym
   have HY : Hid (Ints w1 a' m cap' (fun t => (y t : Nat))) := hy
   have hm : m ≤ 288 := by rw [hsym.len]; exact Nat.le_trans (Hul.pos_length F n) HRK.out.1
   have m6 : (m : Int) ≤ 288 := by omega
   have HM := Lib.hid hm
   clear hb1 hsym hy hm
   by_cases hmP : P < m
   · have hd : decide (P < m) = true := decide_eq_true hmP
     have HNO : Hid (¬ Hul.Asked F n (K : Int)) := fun h => by
       have := h.2
       rw [← HSYM.out.len, show ((K : Int)).toNat = K by omega, ← HP.out] at this
       omega
     go_wp2
     go_returns
     exact ⟨HB1.out, .inr ⟨HNO.out, rfl⟩⟩
   · have hd : decide (P < m) = false := decide_eq_false hmP
     have HASK : Hid (Hul.Asked F n (K : Int)) := ⟨HRK.out, by
       rw [← HSYM.out.len, show ((K : Int)).toNat = K by omega, ← HP.out]; omega⟩
     have HMP : Hid (m ≤ 2 ^ K) := by rw [← HP.out]; show _ ≤ _; omega
     have HOW := ownW_any a n cap F a' m cap' y w1 (HI.out.later HB1.out) HY.out (by have := HM.out; omega) HN.out (fun t ht => (HSYM.out.mem t ht).1)
     go_wp2_with fail
     refine HOW.mono ?_
     rintro e w2 ⟨hb2, g2, rfl, hlo2, hr2⟩
     have HMG := merged_any g2 m m K (fun t => F (y t)) w2 hr2 (by have := HM.out; omega) HK.out.1 HK.out.2 (fun t ht => HRK.out.2.2.2 _ (HSYM.out.mem t ht).1)
     have HB2 : Hid (Below w'.heap.size w' w2 ∧ Below w1.heap.size w1 w2) := ⟨HB1.out.trans (hb2.mono HB1.out.size), hb2⟩
     clear HOW hb2 hlo2 hr2
     go_wp2_with fail
     refine HMG.mono ?_
     rintro e w3 ⟨hb3, G, R, rfl, hlev, hlm⟩
     have HB3 : Hid (Below w'.heap.size w' w3) := HB2.out.1.trans (hb3.mono HB2.out.1.size)
     have HY3 : Hid (Ints w3 a' m cap' (fun t => (y t : Nat))) := (HY.out.later HB2.out.2).later hb3
     have HLEV : Hid (Hul.Lev (fun t => F (y t)) m R K) := hlev
     have HLM := Lib.hid hlm
     clear HMG hb3 hlev hlm HY HB2 HB1
     obtain ⟨W0, hW0⟩ : ∃ W0, W0 = max (2 * m - 2) m := ⟨_, rfl⟩
     have HW0 := Lib.hid hW0
     have hmax : ∀ (ts : Array TypeId) (t : TypeId) (wx : World), (Builtin.max_ ts t #[.int .i64 (2 * (m : Int) - 2), .int .i64 (m : Int)]).run Tryz.prog wx = .ok (.int .i64 (W0 : Int)) wx := fun ts t wx => by
       rw [run_max_int2]
       congr 2
       split <;> omega
     clear hW0
     go_wp2_with fail
     have HS0 : Hid (LnS w3 (w3.alloc (.cells (ki n fun _ => 0) 3)) w3.heap.size n (fun _ => 0)) := ⟨(Below.refl _ _).alloc (Nat.le_refl _) _, Nat.le_refl _, heap_alloc_new _ _⟩
     clear hmax
     generalize hw4 : w3.alloc (.cells (ki n fun _ => 0) 3) = w4 at *
     clear hw4
     obtain ⟨g8, hg8⟩ : ∃ g, g = w3.heap.size := ⟨_, rfl⟩
     rw [← hg8] at HS0 ⊢
     have HLO8 : Hid (w'.heap.size ≤ g8) := by rw [hg8]; exact HB3.out.size
     clear hg8 hmk
     obtain ⟨A, hA⟩ : ∃ A, A = Hul.A R K m := ⟨_, rfl⟩
     have HA := Lib.hid hA; clear hA
     go_loopw [9, 42] (fun v9 v42 wr => ∃ j W : Nat, j ≤ K ∧ W = Hul.W R K m j ∧ v9 = .int .i64 (W : Int) ∧ v42 = .int .i64 (j : Int) ∧ LnS w3 wr g8 n (Hul.len y A j)) (fun _ v42 _ => (K - intOf v42).toNat)
     case atStart => exact ⟨0, W0, by omega, HW0.out, rfl, rfl, HS0.out⟩
     case round =>
       clear HS0
       obtain ⟨j, W, hj, hW, rfl, rfl, hls⟩ := hrel
       have HLS := Lib.hid hls; clear hls
       by_cases hlt : j < K
       · have hdi : decide (j < K) = true := decide_eq_true hlt
         obtain ⟨ix, hix⟩ : ∃ ix, ix = K - 1 - j := ⟨_, rfl⟩
         have hWl := HLEV.out.W_le HMP.out HK.out.1 j hlt
         rw [← hW, ← hix] at hWl
         have hAl := HLEV.out.A_le HMP.out HK.out.1 hlt
         obtain ⟨al, hal⟩ : ∃ x, x = Hul.al (R ix) W := ⟨_, rfl⟩
         have halA : A j = al := by rw [HA.out, hal, Hul.A, ← hW, ← hix]
         rw [← HA.out, halA] at hAl
         have hlm := HLM.out.later HLS.out.bel
         obtain ⟨gj, cj, q1, q2, q3, q4⟩ := hlm.lv ix (by omega)
         obtain ⟨lnj, hln⟩ : ∃ x, x = Hul.ln m ix := ⟨_, rfl⟩
         rw [← hln] at q1 q2 q4 hWl
         have hW6 : (W : Int) ≤ 1000 := by have := Hul.ln_le m ix; have := HM.out; omega
         have hsl := slice_packs (some ⟨gj, 0, none⟩) lnj cj W (by omega)
         have HAC : Hid (∀ wx, Below wr.heap.size wr wx → Calls Tryz.prog 142 #[.slice (some ⟨gj, 0, none⟩) W cj] wx fun e w' => Below wx.heap.size wx w' ∧ e = .returned (.int .i64 (al : Nat))) := fun wx hx => by
           rw [hal]
           exact alone_any gj W cj (R ix) wx ((q4.later hx).take hWl) (by omega)
         have hal6 : (al : Int) ≤ 288 := by have := HM.out; omega
         have halW : al ≤ W := by rw [hal]; exact Hul.al_le _ _
         have HALM : Hid (al ≤ m ∧ al ≤ W ∧ A j = al) := ⟨hAl, halW, halA⟩
         have hsy := slice_ints a' m cap' al (by have := HY3.out.le; omega)
         have hixI : (K : Int) - 1 - (j : Int) = (ix : Int) := by omega
         have ixK : (ix : Int) < (K : Int) := by omega
         have HIX := Lib.hid hix
         have HWH := Lib.hid hW
         have HALD := Lib.hid hal
         have jK : (j : Int) < 15 := by omega
         clear hix hW hal halA hAl hWl hln q2 q3 q4 hlm halW
         go_wp2_with fail
         refine (HAC.out wr (Below.refl _ _)).mono ?_
         rintro e w5 ⟨hb5, rfl⟩
         have HLS5 : Hid (LnS w3 w5 g8 n (Hul.len y A j)) := HLS.out.later hb5
         clear hb5 HAC HLS q1 hsl
         go_wp2_with fail
         clear hsy
         go_loopw [60] (fun v60 wr => ∃ t : Nat, t ≤ al ∧ v60 = .int .i64 (t : Int) ∧ LnS w3 wr g8 n (fun i => Hul.len y A j i + Hul.hit y t i)) (fun v60 _ => (al - intOf v60).toNat)
         case atStart => exact ⟨0, by omega, rfl, HLS5.out⟩
         case round =>
           clear HLS5
           obtain ⟨t, ht, rfl, hls⟩ := hrel
           have HLS := Lib.hid hls; clear hls
           by_cases htl : t < al
           · have hdt : decide (t < al) = true := decide_eq_true htl
             have htm : t < m := by have := HALM.out.1; omega
             obtain ⟨s, o, rfl, hs, hc⟩ := (HY3.out.later HLS.out.bel).at_ htm
             have hyn := (HSYM.out.mem t htm).1
             obtain ⟨q, hq⟩ : ∃ q, q = y t := ⟨_, rfl⟩
             rw [← hq] at hc hyn
             have c1 := ki_cell HLS.out.row q hyn
             have f1 : wr.frozen? ⟨g8, q, none⟩ = false := frozen_of_row _ _ _ _ _ HLS.out.row
             have hinc := HLS.out.inc hyn
             have hv6 : ((Hul.len y A j q + Hul.hit y t q : Nat) : Int) ≤ 10000 := by
               have h1 := Hul.hit_le y q t
               have h2 := Hul.len_le y (fun j => if j < K then A j else 0) q 288 (fun j => by
                 by_cases c : j < K
                 · simp only [if_pos c]; rw [HA.out]; have := HLEV.out.A_le HMP.out HK.out.1 c; have := HM.out; omega
                 · simp only [if_neg c]; omega) j
               have h3 : Hul.len y (fun j => if j < K then A j else 0) j q = Hul.len y A j q := Hul.len_congr _ _ (fun i hi => by simp only [if_pos (show i < K by omega)])
               rw [h3] at h2
               have : j * 288 ≤ 14 * 288 := Nat.mul_le_mul_right _ (by omega)
               omega
             have hv0 : (0 : Int) ≤ ((Hul.len y A j q + Hul.hit y t q : Nat) : Int) := by omega
             have HNX : Hid (LnS w3 (wr.setCell ⟨g8, q, none⟩ (.int .i64 (((Hul.len y A j q + Hul.hit y t q : Nat) : Int) + 1))) g8 n (fun i => Hul.len y A j i + Hul.hit y (t + 1) i)) := by
               have e : (fun i => Hul.len y A j i + Hul.hit y (t + 1) i) = (fun i => (Hul.len y A j i + Hul.hit y t i) + if q = i then 1 else 0) := by
                 funext i; rw [Hul.hit, hq]; omega
               rw [e]; exact hinc
             have htI : (t : Int) < (al : Int) := by omega
             have hqI : (q : Int) < (n : Int) := by omega
             clear hinc hq
             generalize ((Hul.len y A j q + Hul.hit y t q : Nat) : Int) = lv at *
             go_wp2
             exact ⟨⟨t + 1, by omega, by go_num, HNX.out⟩, by simp [intOf]; omega⟩
           · obtain rfl : t = al := by omega
             have hdt : decide (t < t) = false := decide_eq_false (by omega)
             have HNX : Hid (LnS w3 wr g8 n (Hul.len y A (j + 1))) := by
               have := HLS.out
               have e : (fun i => Hul.len y A j i + Hul.hit y t i) = Hul.len y A (j + 1) := by funext i; rw [Hul.len, HALM.out.2.2]
               rw [e] at this; exact this
             have hWI : 2 * ((W : Int) - (t : Int)) = ((2 * (W - t) : Nat) : Int) := by have := HALM.out.2.1; omega
             have hWB : (t : Int) ≤ (W : Int) := by have := HALM.out.2.1; omega
             go_wp2
             refine ⟨⟨j + 1, 2 * (W - t), by omega, ?_, ?_, by go_num, HNX.out⟩, by simp [intOf]; omega⟩
             · rw [Hul.W, ← HWH.out, ← HIX.out, ← HALD.out]
             · congr 1
       · obtain rfl : j = K := by omega
         have hdi : decide (j < j) = false := decide_eq_false (by omega)
         have HFIN : Hid (Hul.Made F n (j : Int) (Hul.len y A j)) := ⟨m, y, R, HSYM.out, HLEV.out, fun i _ => by rw [HA.out]; rfl⟩
         have HBF : Hid (Below w'.heap.size w' wr) := HB3.out.trans (HLS.out.bel.mono HB3.out.size)
         go_wp2
         go_returns
         exact ⟨HBF.out, .inl ⟨HASK.out, g8, _, HLO8.out, rfl, HLS.out.row, HFIN.out⟩⟩
 · have HNO : Hid (¬ Hul.Asked F n most) := fun h => hno h.1
   go_wp2
   go_returns
   exact ⟨Below.refl _ _, .inr ⟨HNO.out, rfl⟩⟩
end Go.Proofs.YtenkkononchgmaaGreatDoor

/- What the lengths that Lengths tells are: they make a code, within the limit; the heavier is not longer. -/
namespace Go.Proofs.YtenkkononchgmaaGreatDoor

structure Hul.Good (F : Nat → Int) (n : Nat) (most : Int) (len : Nat → Nat) : Prop where
 makes : Huf.Makes (fun i => (len i : Nat)) n
 le : ∀ i, i < n → ((len i : Nat) : Int) ≤ most
 zero : ∀ i, i < n → (len i = 0 ↔ F i = 0)
 down : ∀ i j, i < n → j < n → 0 < F j → F j < F i → len i ≤ len j
theorem Hul.Made.good {F : Nat → Int} {n : Nat} {most : Int} {len : Nat → Nat} (ha : Hul.Asked F n most) (h : Hul.Made F n most len) : Hul.Good F n most len := by
 obtain ⟨m, y, R, hs, hl, he⟩ := h
 obtain ⟨hrk, hpm⟩ := ha
 obtain ⟨K, rfl⟩ : ∃ K : Nat, most = (K : Int) := ⟨most.toNat, by have := hrk.2.1; omega⟩
 rw [show ((K : Int)).toNat = K by omega] at hl he hpm
 rw [← hs.len] at hpm
 have hK1 : 1 ≤ K := by have := hrk.2.1; omega
 have hK15 : K ≤ 15 := by have := hrk.2.2.1; omega
 have hO : ∀ t, t < m → 0 < F (y t) := fun t ht => (hs.mem t ht).2
 have hA : ∀ j, j < K → Hul.A R K m j ≤ m := fun j hj => hl.A_le hpm hK1 hj
 have hanti := fun i d hd => hl.A_anti hO hs.up hpm hK1 i d hd
 have hly : ∀ t, t < m → len (y t) = sm (fun j => if t < Hul.A R K m j then 1 else 0) K := fun t ht => by
   rw [he _ (hs.mem t ht).1]; exact Hul.len_y hs.inj ht K hA
 have hlk : ∀ t, t < m → len (y t) ≤ K := fun t ht => by
   rw [hly t ht]; exact (Hul.lone _ K t hanti K (Nat.le_refl _)).1
 have hl0 : ∀ i, i < n → ¬ 0 < F i → len i = 0 := fun i hi hf => by
   rw [he i hi]; exact Hul.len_no K hA (fun t ht e => hf (e ▸ (hs.mem t ht).2))
 -- the topmost level has them all
 have hA0 : Hul.A R K m 0 = m := by
   rcases Nat.lt_or_ge m 2 with h2 | h2
   · have hw := hl.W_le hpm hK1 0 (by omega)
     have hw0 : Hul.W R K m 0 = m := by rw [Hul.W]; omega
     have ho : Hul.ln m (K - 1 - 0) = m := by
       have : ∀ j, Hul.ln m j = m := fun j => by
         induction j with
         | zero => rfl
         | succ j ih => rw [Hul.ln, ih]; omega
       exact this _
     rw [Hul.A, hw0]
     have := hl.al (j := K - 1 - 0) (by omega)
     rw [ho] at this; exact this
   · exact hl.A_top hO hs.up hpm hK1 h2
 have hlp : ∀ t, t < m → 1 ≤ len (y t) := fun t ht => by
   rw [hly t ht]
   obtain ⟨k, rfl⟩ : ∃ k, K = k + 1 := ⟨K - 1, by omega⟩
   have h1 : sm (fun j => if j < 1 then 1 else 0) (k + 1) ≤ sm (fun j => if t < Hul.A R (k + 1) m j then 1 else 0) (k + 1) := sm_le fun j hj => by
     by_cases c : j < 1
     · obtain rfl : j = 0 := by omega
       rw [if_pos c, if_pos (by rw [hA0]; exact ht)]; exact Nat.le_refl _
     · rw [if_neg c]; exact Nat.zero_le _
   rw [sm_ind, Nat.min_eq_left (by omega)] at h1
   omega
 have hle : ∀ i, i < n → len i ≤ K := fun i hi => by
   by_cases c : 0 < F i
   · obtain ⟨t, ht, rfl⟩ := hs.all i hi c; exact hlk t ht
   · rw [hl0 i hi c]; exact Nat.zero_le _
 have hz : ∀ i, i < n → (len i = 0 ↔ F i = 0) := fun i hi => by
   have hf := hrk.2.2.2 i hi
   by_cases c : 0 < F i
   · obtain ⟨t, ht, rfl⟩ := hs.all i hi c
     have := hlp t ht
     omega
   · rw [hl0 i hi c]; omega
 have hbd : ∀ i, i < n → 0 ≤ ((len i : Nat) : Int) ∧ ((len i : Nat) : Int) ≤ 15 := fun i hi => by have := hle i hi; omega
 have hcond : ∀ g : Nat → Nat, sm (fun i => if 0 < ((len i : Nat) : Int) then g i else 0) n = sm (fun t => g (y t)) m := fun g => by
   rw [← hs.sum g]
   refine sm_congr fun i hi => ?_
   have h1 := hz i hi
   have h2 := hrk.2.2.2 i hi
   by_cases c : 0 < F i
   · rw [if_pos c, if_pos (by omega)]
   · rw [if_neg c, if_neg (by omega)]
 refine ⟨⟨⟨hrk.1, hbd⟩, ?_⟩, fun i hi => by have := hle i hi; omega, hz, fun i j hi hj h1 h2 => ?_⟩
 · have ht := Huf.take_sum (fun i => ((len i : Nat) : Int)) n hbd
   have hq := Huf.tot_sum (fun i => ((len i : Nat) : Int)) n hbd
   rw [hcond (fun i => 2 ^ (15 - (((len i : Nat) : Int)).toNat))] at ht
   rw [hcond (fun _ => 1), sm_const, Nat.mul_one] at hq
   unfold Huf.mk
   rcases Nat.lt_or_ge m 2 with h2 | h2
   · by_cases h0 : m = 0
     · rw [hq, h0]; rfl
     · obtain rfl : m = 1 := by omega
       have hlen1 : len (y 0) = 1 := by
         rw [hly 0 (by omega)]
         have hW1 : ∀ j, j + 1 ≤ K → Hul.W R K 1 (j + 1) = 0 := fun j => by
           induction j with
           | zero => intro hj; rw [Hul.W]; have : Hul.W R K 1 0 = 1 := rfl
                     have h3 : Hul.al (R (K - 1 - 0)) (Hul.W R K 1 0) = 1 := hA0
                     rw [h3, this]
           | succ j ih => intro hj; rw [Hul.W, ih (by omega)]; omega
         have hAz : ∀ j, 1 ≤ j → j < K → Hul.A R K 1 j = 0 := fun j h1 h3 => by
           obtain ⟨i, rfl⟩ : ∃ i, j = i + 1 := ⟨j - 1, by omega⟩
           have := Hul.al_le (R (K - 1 - (i + 1))) (Hul.W R K 1 (i + 1))
           rw [hW1 i (by omega)] at this
           rw [Hul.A, hW1 i (by omega)]; omega
         have e : sm (fun j => if 0 < Hul.A R K 1 j then 1 else 0) K = sm (fun j => if j < 1 then 1 else 0) K := sm_congr fun j hj => by
           by_cases c : j < 1
           · obtain rfl : j = 0 := by omega
             rw [if_pos c, if_pos (by rw [hA0]; omega)]
           · rw [if_neg c, if_neg (by rw [hAz j (by omega) hj]; omega)]
         rw [e, sm_ind, Nat.min_eq_left hK1]
       have hc1 : 1 ≤ Huf.cnt (fun i => ((len i : Nat) : Int)) n 1 := Nat.lt_of_le_of_lt (Nat.zero_le _) (Huf.cnt_lt (fun i => ((len i : Nat) : Int)) (i := y 0) (k := 1) (hs.mem 0 (by omega)).1 (by omega) (by simp [hlen1]))
       have hc2 : Huf.cnt (fun i => ((len i : Nat) : Int)) n 1 ≤ 1 := by
         have : ∀ C : Nat → Nat, C 1 ≤ Huf.tot C 16 := fun C => by simp [Huf.tot]; omega
         have := this (Huf.cnt (fun i => ((len i : Nat) : Int)) n)
         omega
       rw [hq, show Huf.cnt (fun i => ((len i : Nat) : Int)) n 1 = 1 by omega]; simp
   · have hk := hl.kraft hO hs.up hpm hK1 h2
     have e : sm (fun t => 2 ^ (15 - (((len (y t) : Nat) : Int)).toNat)) m = 32768 := by
       have e1 : sm (fun t => 2 ^ (15 - (((len (y t) : Nat) : Int)).toNat)) m = sm (fun t => 2 ^ (K - sm (fun j => if t < Hul.A R K m j then 1 else 0) K) * 2 ^ (15 - K)) m := sm_congr fun t ht => by
         have h4 := hly t ht
         have h5 := hlk t ht
         rw [← h4, ← Nat.pow_add]
         congr 1; omega
       rw [e1, sm_mul, hk, ← Nat.pow_add, show K + (15 - K) = 15 by omega]
     rw [ht, e]; simp
 · -- the heavier is not longer
   obtain ⟨s, hs1, rfl⟩ := hs.all i hi (by omega)
   obtain ⟨t, ht1, rfl⟩ := hs.all j hj h1
   have hlt : t < s := by
     apply Classical.byContradiction; intro hc
     have := hs.up s t (by omega) ht1
     omega
   rw [hly s hs1, hly t ht1]
   refine sm_le fun j _ => ?_
   by_cases c : s < Hul.A R K m j
   · rw [if_pos c, if_pos (by omega)]; exact Nat.le_refl _
   · rw [if_neg c]; exact Nat.zero_le _
end Go.Proofs.YtenkkononchgmaaGreatDoor

/- The walk of the laws' awake. -/
namespace Go.Proofs.YtenkkononchgmaaGreatDoor
open Go.RowKit Go Go.Sort

end Go.Proofs.YtenkkononchgmaaGreatDoor
