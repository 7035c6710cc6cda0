/- Laid together: InfRow. -/
import Derived.Test.YtenkkononchgmaaGreatDoorDkB09

namespace Go.Proofs.YtenkkononchgmaaGreatDoor
open Go.RowKit Go

theorem run_ints_cap (n : Nat) (hn : n ≤ 1000000) (w : World) : (Instr.makeSlice 97 (.int .i64 0) (.int .i64 (n : Int))).run Tryz.prog w = .ok (.slice (some ⟨w.heap.size, 0, none⟩) 0 n) (w.alloc (.cells (ki n (fun _ => 0)) 3)) := by
 obtain ⟨i0, hi, hz0, hz1, hz2⟩ := info_parts infoInt
 have := run_make (P := Tryz.prog) w 97 3 i0 _ (by kernel_rfl) hi hz0 .i64 .i64 0 (n : Int) (by omega) (by omega) (by rw [hz2]; omega) (by omega)
 rw [this, hz1, show (n : Int).toNat = n by omega, Nat.mul_one, show madeCells (Value.int IntKind.i64 0).cells n = madeCells #[Value.int IntKind.i64 0] n from rfl, made_ints]
 rfl
theorem own_cap (n : Nat) (hn : n ≤ 1000000) (w : World) : (w.alloc (.cells (ki n (fun _ => 0)) 3)).ownsRow w.heap.size 3 1 (.slice (some ⟨w.heap.size, 0, none⟩) 0 n) 0 [] :=
 ⟨rfl, .inr ⟨w.heap.size, n, _, rfl, Nat.le_refl _, heap_alloc_new _ _, Nat.zero_le _, by simp only [maxLen]; omega, by rw [ki_size, Nat.mul_one], by simp⟩⟩
theorem nv_rep (A : List Nat) (m v : Nat) : nv (A ++ List.replicate m v) = nv A ++ List.replicate m (.int .i64 (v : Int)) := by simp [nv]
theorem wpList_append_rep {w : World} {ops : Array Oper} {rest : List Oper} {o : Oper} {a : Act} {Q : Exit → Act → World → Prop} (hgd : o.guard = none) (s x : Operand)
   (ho : o.op = .call { callee := .builtin .append, args := #[s, x], argTypes := #[97, 97] })
   (base : Nat) (v : Value) (n : Nat) (xs : List Value) (hs : a.eval s = v) (hown : w.ownsRow base 3 1 v n xs)
   (H m : Nat) (y : Int) (hx : a.eval x = .slice (some ⟨H, 0, none⟩) m m) (hH : w.heap[H]? = some (.cells (ki m fun _ => y) 3 (0, 0))) (hn : n + m ≤ 1000000) (hbase : base ≤ w.heap.size)
   (h : ∀ v' w', Hid (w'.ownsRow base 3 1 v' (n + m) (xs ++ List.replicate m (.int .i64 y))) → Hid (w.grownBy w' v.ownBlock) → wpList Tryz.prog ops Q rest (a.put o.dst v') w') : wpList Tryz.prog ops Q (o :: rest) a w := by
 obtain ⟨i0, hi, hz0, hz1, hz2⟩ := info_parts infoInt
 refine wpList_append_own _ hgd s x 97 ho base 3 i0 _ 1 8 (by kernel_rfl) hi hz0 hz1 hz2 rfl (by decide) v n xs hs hown ⟨H, 0, none⟩ m m (List.replicate m (.int .i64 y)) hx (by simp) (fun j u hj => ?_) (fun u hu => by rw [List.eq_of_mem_replicate hu]; rfl) (by simp only [maxLen]; omega) (by omega) hbase ?_
 · have hjm : j < m := by
     have := (List.getElem?_eq_some_iff.1 hj).1
     rwa [List.length_replicate] at this
   rw [Addr.add_mid, Nat.zero_add, ki_cell hH j hjm]
   rw [List.getElem?_replicate, if_pos hjm] at hj
   exact hj
 · intro v' w' ho' hg' _
   exact h v' w' ho' hg'
theorem Sx.other {w0 w w' : World} {g r L V p : Nat} {T : List Int} {vt : Value} {M : Nat} {fl fd : Value} {base : Nat} {v : Value} {n : Nat} {xs : List Value} (h : Sx w0 w g r L V p T vt M fl fd) (ho : w.ownsRow base 3 1 v n xs) (hb : w0.heap.size ≤ base) (hg : w.grownBy w' v.ownBlock) : Sx w0 w' g r L V p T vt M fl fd := by
 have ne : ∀ (k : Nat) (c : Array Value) (t : TypeId) (f : Nat × Nat), w.heap[k]? = some (.cells c t f) → t ≠ 3 → w'.heap[k]? = w.heap[k]? := fun k c t f h1 h2 => hg.block k (Inf.lt_some h1) (fun e => by
   obtain ⟨_, cur, hc⟩ := Inf.own_type ho e.symm
   exact Inf.ne_ty h1 hc h2 rfl)
 refine ⟨h.bel.grown hg h.bel.size (fun k hk => by have := (Inf.own_type ho hk).1; omega), h.tab, h.lo, h.rlo, (ne _ _ _ _ h.row (by decide)).trans h.row, h.rd.keep (ne _ _ _ _ h.rd.row (by decide)) (ne _ _ _ _ h.rd.byt (by decide)), ?_⟩
 refine Inf.own_other h.txt fun k hk => ?_
 obtain ⟨_, _, hc⟩ := Inf.own_type h.txt hk
 exact ne _ _ _ _ hc (by decide)
theorem Ks.other {wa w w' : World} {base : Nat} {v : Value} {n : Nat} {xs : List Value} (h : Ks wa w) (ho : w.ownsRow base 3 1 v n xs) (hb : wa.heap.size ≤ base) (hg : w.grownBy w' v.ownBlock) : Ks wa w' :=
 ⟨hg.os.trans h.os, hg.tape.trans h.tape, hg.output.trans h.output, Nat.le_trans h.size hg.size, fun k o h1 h2 => (hg.block k (Nat.lt_of_lt_of_le (Inf.lt_some h1) h.size) (fun e => by
   have := (Inf.own_type ho e.symm).1
   have := Inf.lt_some h1
   omega)).trans (h.blk k o h1 h2)⟩
structure Rw (w0 wa wr : World) (g r L V q : Nat) (T : List Int) (vt : Value) (M : Nat) (fl fd : Value) (A : List Nat) (v : Value) (z : Nat) : Prop where
 sx : Sx w0 wr g r L V q T vt M fl fd
 ks : Ks wa wr
 own : wr.ownsRow wa.heap.size 3 1 v z (nv A)
 len : z = A.length
theorem Rw.go {w0 wa wr w' : World} {g r L V q q' : Nat} {T : List Int} {vt : Value} {M : Nat} {fl fd : Value} {A : List Nat} {v : Value} {z : Nat} (h : Rw w0 wa wr g r L V q T vt M fl fd A v z) (hs : Sx w0 w' g r L V q' T vt M fl fd) (hk : Ks wr w') : Rw w0 wa w' g r L V q' T vt M fl fd A v z :=
 ⟨hs, h.ks.trans hk, hk.own h.own, h.len⟩
theorem Rw.app {w0 wa wr w' : World} {g r L V q : Nat} {T : List Int} {vt : Value} {M : Nat} {fl fd : Value} {A : List Nat} {v v' : Value} {z m y : Nat} (h : Rw w0 wa wr g r L V q T vt M fl fd A v z) (hlo : w0.heap.size ≤ wa.heap.size)
   (ho : w'.ownsRow wa.heap.size 3 1 v' (z + m) (nv A ++ List.replicate m (.int .i64 (y : Int)))) (hg : wr.grownBy w' v.ownBlock) : Rw w0 wa w' g r L V q T vt M fl fd (A ++ List.replicate m y) v' (z + m) :=
 ⟨h.sx.other h.own hlo hg, h.ks.other h.own (Nat.le_refl _) hg, by rw [nv_rep]; exact ho, by rw [List.length_append, List.length_replicate, h.len]⟩
theorem Rw.cell {w0 wa wr : World} {g r L V q : Nat} {T : List Int} {vt : Value} {M : Nat} {fl fd : Value} {A : List Nat} {ad : Option Addr} {cp z : Nat} (h : Rw w0 wa wr g r L V q T vt M fl fd A (.slice ad z cp) z) {j : Nat} (hj : j < z) :
   ∃ s, ad = some ⟨s, 0, none⟩ ∧ wr.cell? ⟨s, j, none⟩ = some (.int .i64 ((A.getD j 0 : Nat) : Int)) := by
 rcases h.own.2 with ⟨e, h0⟩ | ⟨g, cap, cur, e, q1, q2, q3, q4, q5, q6⟩
 · omega
 · cases e
   refine ⟨g, rfl, ?_⟩
   have hjl : j < A.length := by have := h.len; omega
   rw [cell_of_row _ _ _ _ _ _ q2]
   have := nv_get A j (A.getD j 0) (by rw [List.getD_eq_getElem?_getD, List.getElem?_eq_getElem hjl]; rfl)
   rw [← q6, List.getElem?_take, if_pos (by omega), Array.getElem?_toList] at this
   exact this
def RwO (w0 w : World) (g r L V : Nat) (T : List Int) (vt : Value) (M : Nat) (fl fd : Value) (n : Nat) (st : Inf.R (List Nat)) (e : Ending) (w' : World) : Prop :=
 (∃ k : Int, st = .err k ∧ e = .returned (.tuple #[.slice none 0 0, .bool false]) ∧ Below w0.heap.size w0 w' ∧ Ks w w') ∨
 (∃ q A v, st = .ok q A ∧ e = .returned (.tuple #[v, .bool true]) ∧ Rw w0 w w' g r L V q T vt M fl fd A v n)
theorem Inf.lstep_done {t : List Nat} {n V N p : Nat} {A : List Nat} (h : n ≤ A.length) : Inf.lstep t n V N p A = .fin (.ok p A) := by unfold Inf.lstep; rw [if_pos h]
theorem Inf.lstep_none {t : List Nat} {n V N p : Nat} {A : List Nat} (h : A.length < n) (h1 : Inf.sy t V N p = none) : Inf.lstep t n V N p A = .fin (.err 4) := by unfold Inf.lstep; rw [if_neg (by omega), h1]
theorem Inf.lstep_bad {t : List Nat} {n V N p s q : Nat} {A : List Nat} (h : A.length < n) (h1 : Inf.sy t V N p = some (s, q)) (h2 : (s = 16 ∧ A.length = 0) ∨ N < q + Inf.lw s ∨ n < A.length + (Inf.lk s + Inf.num V q (Inf.lw s))) : Inf.lstep t n V N p A = .fin (.err 4) := by
 unfold Inf.lstep; rw [if_neg (by omega), h1]; dsimp only; rw [if_pos h2]
theorem Inf.lstep_go {t : List Nat} {n V N p s q : Nat} {A : List Nat} (h : A.length < n) (h1 : Inf.sy t V N p = some (s, q)) (h2 : ¬ ((s = 16 ∧ A.length = 0) ∨ N < q + Inf.lw s ∨ n < A.length + (Inf.lk s + Inf.num V q (Inf.lw s)))) :
   Inf.lstep t n V N p A = .go (q + Inf.lw s) (A ++ List.replicate (Inf.lk s + Inf.num V q (Inf.lw s)) (Inf.lv s A)) := by
 unfold Inf.lstep; rw [if_neg (by omega), h1]; dsimp only; rw [if_neg h2]
theorem Inf.lw_small (s : Nat) : Inf.lw s ≤ 7 := by unfold Inf.lw; split <;> (try split) <;> (try split) <;> omega
theorem Inf.lk_small (s : Nat) : 1 ≤ Inf.lk s ∧ Inf.lk s ≤ 11 := by unfold Inf.lk; split <;> (try split) <;> (try split) <;> omega

set_option maxRecDepth 100000 in
set_option maxHeartbeats 4000000 in
theorem row_any (t : List Nat) (D n : Nat) (w0 w : World) (g r L V p : Nat) (T : List Int) (vt : Value) (M : Nat) (fl fd : Value) (h : Sx w0 w g r L V p T vt M fl fd) (hL : L ≤ 1000000) (hm : Inf.Mk t) (ht : t.length = 19) (hd : Dcl w t D) (hn : n ≤ 1000) :
   Calls Tryz.prog 133 #[.pointer (some ⟨g, 0, none⟩), .pointer (some ⟨D, 0, none⟩), .int .i64 (n : Int)] w fun e w' => RwO w0 w g r L V T vt M fl fd n (Inf.runs (Inf.lstep t n V (8 * L)) p []) e w' := by
 have HL := Lib.hid hL
 have HMK := Lib.hid hm
 have HTL := Lib.hid ht
 have HD := Lib.hid hd
 have hmk := run_ints_cap n (by omega)
 obtain ⟨RS, hrs⟩ : ∃ RS, RS = Inf.runs (Inf.lstep t n V (8 * L)) p [] := ⟨_, rfl⟩
 rw [← hrs]
 have hb : Below w.heap.size w (w.alloc (.cells (ki n fun _ => 0) 3)) := (Below.refl _ _).alloc (Nat.le_refl _) _
 have HS0 : Hid (Rw w0 w (w.alloc (.cells (ki n fun _ => 0) 3)) g r L V p T vt M fl fd [] (.slice (some ⟨w.heap.size, 0, none⟩) 0 n) 0) := ⟨h.later hb, Ks.below hb, own_cap n (by omega) w, rfl⟩
 have HLO : Hid (w0.heap.size ≤ w.heap.size) := h.bel.size
 have HRS0 := Lib.hid hrs
 have hnI : (n : Int) ≤ 1000 := by omega
 have HN := Lib.hid hn
 clear h hL hm ht hd hn hrs hb
 go_enter Tryz.func133, Tryz.ntmps133
 go_wp2_with fail
 generalize w.alloc (.cells (ki n fun _ => 0) 3) = wa at *
 clear hmk
 go_loopw [8] (fun v8 wr => ∃ (q z : Nat) (A : List Nat) (ad : Option Addr) (cp : Nat), v8 = .slice ad z cp ∧ z ≤ n ∧ Rw w0 w wr g r L V q T vt M fl fd A (.slice ad z cp) z ∧ RS = Inf.runs (Inf.lstep t n V (8 * L)) q A) (fun _ wr => 8 * L - Inf.pos wr r)
 case atStart => exact ⟨p, 0, [], _, n, rfl, by omega, HS0.out, HRS0.out⟩
 case round =>
   clear HS0 HRS0
   obtain ⟨q, z, A, ad, cp, rfl, hzn, hrw, hrs⟩ := hrel
   have HR := Lib.hid hrw
   have HRS := Lib.hid hrs
   have HZ : Hid (z = A.length) := hrw.len
   have HPOS : Hid (Inf.pos wr r = q) := hrw.sx.pos
   have c0 := HR.out.sx.c0
   have hznI : (z : Int) ≤ (n : Int) := by omega
   clear hrw hrs
   by_cases hlt : z < n
   · have hd1 : decide (z < n) = true := decide_eq_true hlt
     have hd2 : decide ((z : Int) < (n : Int)) = true := decide_eq_true (by omega)
     have HLT : Hid (A.length < n) := by have := HZ.out; unfold Hid; omega
     have HNX := Lib.hid (snext_any t D w0 wr g r L V q T vt M fl fd HR.out.sx HL.out HMK.out (HD.out.ks HR.out.ks))
     clear hlt hzn
     go_wp2_with fail
     refine HNX.out.mono ?_
     rintro e w5 (⟨h1, rfl, ⟨qe, h2⟩, h3⟩ | ⟨s, qs, h1, rfl, h2, h3⟩)
     · have K1 : Hid (RS = .err 4) := HRS.out.trans (Inf.runs_fin (Inf.lstep_none HLT.out h1))
       have K2 := Lib.hid h2.bel
       have K3 := Lib.hid (HR.out.ks.trans h3)
       clear h1 h2 h3 HNX c0
       go_wp2
       go_ret2
       exact .inl ⟨4, K1.out, rfl, K2.out, K3.out⟩
     · have K1 := Lib.hid h1
       have K2 := Lib.hid (HR.out.go h2 h3)
       have HQ : Hid (q < qs ∧ qs ≤ 8 * L) := ⟨(Inf.sy_lt h1).2.1, (Inf.sy_lt h1).2.2⟩
       have hs19 : s < 19 := by have := (Inf.sy_lt h1).1; have := HTL.out; omega
       clear h1 h2 h3 HNX c0
       by_cases h16 : s = 16 ∧ z = 0
       · obtain ⟨rfl, rfl⟩ := h16
         have E1 : Hid (RS = .err 4) := HRS.out.trans (Inf.runs_fin (Inf.lstep_bad HLT.out K1.out (.inl ⟨rfl, HZ.out.symm⟩)))
         have E2 := Lib.hid K2.out.sx.bel
         have E3 := Lib.hid K2.out.ks
         go_wp2
         go_ret2
         exact .inl ⟨4, E1.out, rfl, E2.out, E3.out⟩
       · have HNB : Hid (¬ (s = 16 ∧ A.length = 0)) := by unfold Hid; rw [← HZ.out]; exact h16
         have hg1 : ((s : Int) == 16 && (z : Int) == 0) = false := by
           by_cases e : s = 16
           · have : z ≠ 0 := fun e2 => h16 ⟨e, e2⟩
             simp; omega
           · simp; omega
         have HTM := Lib.hid (times_any s w0 w5 g r L V qs T vt M fl fd K2.out.sx HL.out)
         obtain ⟨x, hx⟩ : ∃ x, x = Inf.lk s + Inf.num V qs (Inf.lw s) := ⟨_, rfl⟩
         have hx6 : x ≤ 1000 := by
           rw [hx]
           have h1 := Inf.num_lt V qs (Inf.lw s)
           have h2 : 2 ^ Inf.lw s ≤ 2 ^ 7 := Nat.pow_le_pow_right (by omega) (Inf.lw_small s)
           have := (Inf.lk_small s).2
           omega
         have hx1 : 1 ≤ x := by rw [hx]; have := (Inf.lk_small s).1; omega
         obtain ⟨qt, hqt⟩ : ∃ qt, qt = qs + Inf.lw s := ⟨_, rfl⟩
         have HX := Lib.hid hx
         have HQTE := Lib.hid hqt
         have HQT : Hid (qs ≤ qt) := by unfold Hid; omega
         have HTMO : Hid (∀ e w', AbO w0 w5 g r L V qs T vt M fl fd (Inf.lk s) (Inf.lw s) e w' → (8 * L < qt ∧ (∃ b : Nat, e = .returned (.tuple #[.int .i64 (b : Nat), .bool false])) ∧ Below w0.heap.size w0 w' ∧ Ks w w') ∨ (qt ≤ 8 * L ∧ e = .returned (.tuple #[.int .i64 (x : Int), .bool true]) ∧ Rw w0 w w' g r L V qt T vt M fl fd A (.slice ad z cp) z)) := by
           rintro e w' (⟨a1, a2, a3, a4⟩ | ⟨a1, a2, a3, a4⟩)
           · exact .inl ⟨by omega, ⟨_, a2⟩, a3.bel, K2.out.ks.trans a4⟩
           · refine .inr ⟨by omega, by rw [a2, hx], ?_⟩
             rw [hqt]
             exact K2.out.go a3 a4
         have hsI : (s : Int) < 19 := by omega
         have hzI : (z : Int) ≤ 1000 := by have := HN.out; omega
         have hxI : (x : Int) ≤ 1000 := by omega
         clear hx hqt
         rcases (by omega : s < 16 ∨ s = 16 ∨ (16 < s ∧ s < 19)) with c | c | c
         · have e16 : ((s : Int) == 16) = false := by simp; omega
           have e17 : decide ((s : Int) < 16) = true := decide_eq_true (by omega)
           clear h16 hg1
           go_wp2_with fail
           refine HTM.out.mono ?_
           intro e w6 hx0
           rcases HTMO.out e w6 hx0 with ⟨h1, ⟨b, rfl⟩, h2, h3⟩ | ⟨h1, rfl, h2⟩
           · have E1 : Hid (RS = .err 4) := HRS.out.trans (Inf.runs_fin (Inf.lstep_bad HLT.out K1.out (.inr (.inl (by rw [← HQTE.out]; exact h1)))))
             have E2 := Lib.hid h2
             have E3 := Lib.hid h3
             clear h1 h2 h3 hx0 HTM
             go_wp2
             go_ret2
             exact .inl ⟨4, E1.out, rfl, E2.out, E3.out⟩
           · have G1 := Lib.hid h2
             have G2 := Lib.hid h1
             clear h1 h2 hx0 HTM
             by_cases hfit : (n : Int) - (z : Int) < (x : Int)
             · have f1 : decide ((n : Int) - (z : Int) < (x : Int)) = true := decide_eq_true hfit
               have E1 : Hid (RS = .err 4) := HRS.out.trans (Inf.runs_fin (Inf.lstep_bad HLT.out K1.out (.inr (.inr (by rw [← HX.out, ← HZ.out]; omega)))))
               have E2 := Lib.hid G1.out.sx.bel
               have E3 := Lib.hid G1.out.ks
               clear hfit
               go_wp2
               go_ret2
               exact .inl ⟨4, E1.out, rfl, E2.out, E3.out⟩
             · have f1 : decide ((n : Int) - (z : Int) < (x : Int)) = false := decide_eq_false hfit
               have HFIT : Hid (z + x ≤ n) := by unfold Hid; omega
               have HGO : Hid (RS = Inf.runs (Inf.lstep t n V (8 * L)) qt (A ++ List.replicate x (Inf.lv s A))) := by
                 unfold Hid
                 rw [HRS.out, Inf.runs_go (Inf.lstep_go HLT.out K1.out (by
                   rintro (a | a | a)
                   · first | exact HNB.out a | exact HNB.out ⟨trivial, a.2⟩
                   · have := G2.out; have := HQTE.out; omega
                   · have := HFIT.out; have := HX.out; have := HZ.out; omega)), ← HQTE.out, ← HX.out]
               clear hfit
               have HLV : Hid (Inf.lv s A = s) := by unfold Hid Inf.lv; rw [if_neg (by omega), if_neg (by omega), if_neg (by omega)]
               have HEQ := Lib.hid (equal_any ((s : Nat) : Int) x w6 (by omega) (by omega))
               clear hx1 hx6
               go_wp2_with fail
               refine HEQ.out.mono ?_
               rintro e w7 ⟨h1, G, h2, h3, rfl⟩
               have M1 : Hid (Rw w0 w w7 g r L V qt T vt M fl fd A (.slice _ z cp) z) := G1.out.go (G1.out.sx.later h1) (Ks.below h1)
               have M2 := Lib.hid h3
               clear h1 h2 h3 HEQ
               have hown := M1.out.own
               have HSZ : Hid (w.heap.size ≤ w7.heap.size) := M1.out.ks.size
               go_wp2_with (first | (at_builtin; refine wpList_append_rep rfl (.tmp 68) (.tmp 71) rfl w.heap.size _ z (nv A) rfl hown G x ((s : Nat) : Int) rfl M2.out (by have := HFIT.out; have := HN.out; omega) HSZ.out ?_; intro v' w8 ho8 hg8; obtain ⟨a8, c8, rfl⟩ := own_form ho8.out; have M3 := Lib.hid (M1.out.app HLO.out ho8.out hg8.out); clear ho8 hg8))
               exact ⟨⟨qt, z + x, _, a8, c8, rfl, HFIT.out, M3.out, by rw [HGO.out, HLV.out]⟩, by have h1 : Inf.pos w8 r = qt := M3.out.sx.pos; have := HPOS.out; have := HQT.out; have := HQ.out; omega⟩
         · subst c
           have hz0 : z ≠ 0 := fun e => h16 ⟨rfl, e⟩
           have e0 : ((z : Int) == 0) = false := by simp; omega
           clear h16 hg1
           go_wp2_with fail
           refine HTM.out.mono ?_
           intro e w6 hx0
           rcases HTMO.out e w6 hx0 with ⟨h1, ⟨b, rfl⟩, h2, h3⟩ | ⟨h1, rfl, h2⟩
           · have E1 : Hid (RS = .err 4) := HRS.out.trans (Inf.runs_fin (Inf.lstep_bad HLT.out K1.out (.inr (.inl (by rw [← HQTE.out]; exact h1)))))
             have E2 := Lib.hid h2
             have E3 := Lib.hid h3
             clear h1 h2 h3 hx0 HTM
             go_wp2
             go_ret2
             exact .inl ⟨4, E1.out, rfl, E2.out, E3.out⟩
           · have G1 := Lib.hid h2
             have G2 := Lib.hid h1
             clear h1 h2 hx0 HTM
             by_cases hfit : (n : Int) - (z : Int) < (x : Int)
             · have f1 : decide ((n : Int) - (z : Int) < (x : Int)) = true := decide_eq_true hfit
               have E1 : Hid (RS = .err 4) := HRS.out.trans (Inf.runs_fin (Inf.lstep_bad HLT.out K1.out (.inr (.inr (by rw [← HX.out, ← HZ.out]; omega)))))
               have E2 := Lib.hid G1.out.sx.bel
               have E3 := Lib.hid G1.out.ks
               clear hfit
               go_wp2
               go_ret2
               exact .inl ⟨4, E1.out, rfl, E2.out, E3.out⟩
             · have f1 : decide ((n : Int) - (z : Int) < (x : Int)) = false := decide_eq_false hfit
               have HFIT : Hid (z + x ≤ n) := by unfold Hid; omega
               have HGO : Hid (RS = Inf.runs (Inf.lstep t n V (8 * L)) qt (A ++ List.replicate x (Inf.lv 16 A))) := by
                 unfold Hid
                 rw [HRS.out, Inf.runs_go (Inf.lstep_go HLT.out K1.out (by
                   rintro (a | a | a)
                   · first | exact HNB.out a | exact HNB.out ⟨trivial, a.2⟩
                   · have := G2.out; have := HQTE.out; omega
                   · have := HFIT.out; have := HX.out; have := HZ.out; omega)), ← HQTE.out, ← HX.out]
               clear hfit
               obtain ⟨yv, hyv⟩ : ∃ yv, yv = Inf.lv 16 A := ⟨_, rfl⟩
               have HLV : Hid (Inf.lv 16 A = yv) := hyv.symm
               obtain ⟨zl, hzl⟩ : ∃ zl, zl = z - 1 := ⟨_, rfl⟩
               have hzlI : (z : Int) - 1 = (zl : Int) := by omega
               obtain ⟨gg, rfl, cl⟩ := G1.out.cell (j := zl) (by omega)
               rw [show A.getD zl 0 = yv by rw [hyv, Inf.lv, if_pos rfl, hzl, HZ.out]] at cl
               have hzz : (zl : Int) < (z : Int) := by omega
               clear hzl hyv
               have HEQ := Lib.hid (equal_any ((yv : Nat) : Int) x w6 (by omega) (by omega))
               clear hx1 hx6
               go_wp2_with fail
               refine HEQ.out.mono ?_
               rintro e w7 ⟨h1, G, h2, h3, rfl⟩
               have M1 : Hid (Rw w0 w w7 g r L V qt T vt M fl fd A (.slice _ z cp) z) := G1.out.go (G1.out.sx.later h1) (Ks.below h1)
               have M2 := Lib.hid h3
               clear h1 h2 h3 HEQ
               have hown := M1.out.own
               have HSZ : Hid (w.heap.size ≤ w7.heap.size) := M1.out.ks.size
               go_wp2_with (first | (at_builtin; refine wpList_append_rep rfl (.tmp 68) (.tmp 71) rfl w.heap.size _ z (nv A) rfl hown G x ((yv : Nat) : Int) rfl M2.out (by have := HFIT.out; have := HN.out; omega) HSZ.out ?_; intro v' w8 ho8 hg8; obtain ⟨a8, c8, rfl⟩ := own_form ho8.out; have M3 := Lib.hid (M1.out.app HLO.out ho8.out hg8.out); clear ho8 hg8))
               exact ⟨⟨qt, z + x, _, a8, c8, rfl, HFIT.out, M3.out, by rw [HGO.out, HLV.out]⟩, by have h1 : Inf.pos w8 r = qt := M3.out.sx.pos; have := HPOS.out; have := HQT.out; have := HQ.out; omega⟩
         · have e16 : ((s : Int) == 16) = false := by simp; omega
           have e17 : decide ((s : Int) < 16) = false := decide_eq_false (by omega)
           clear h16 hg1
           go_wp2_with fail
           refine HTM.out.mono ?_
           intro e w6 hx0
           rcases HTMO.out e w6 hx0 with ⟨h1, ⟨b, rfl⟩, h2, h3⟩ | ⟨h1, rfl, h2⟩
           · have E1 : Hid (RS = .err 4) := HRS.out.trans (Inf.runs_fin (Inf.lstep_bad HLT.out K1.out (.inr (.inl (by rw [← HQTE.out]; exact h1)))))
             have E2 := Lib.hid h2
             have E3 := Lib.hid h3
             clear h1 h2 h3 hx0 HTM
             go_wp2
             go_ret2
             exact .inl ⟨4, E1.out, rfl, E2.out, E3.out⟩
           · have G1 := Lib.hid h2
             have G2 := Lib.hid h1
             clear h1 h2 hx0 HTM
             by_cases hfit : (n : Int) - (z : Int) < (x : Int)
             · have f1 : decide ((n : Int) - (z : Int) < (x : Int)) = true := decide_eq_true hfit
               have E1 : Hid (RS = .err 4) := HRS.out.trans (Inf.runs_fin (Inf.lstep_bad HLT.out K1.out (.inr (.inr (by rw [← HX.out, ← HZ.out]; omega)))))
               have E2 := Lib.hid G1.out.sx.bel
               have E3 := Lib.hid G1.out.ks
               clear hfit
               go_wp2
               go_ret2
               exact .inl ⟨4, E1.out, rfl, E2.out, E3.out⟩
             · have f1 : decide ((n : Int) - (z : Int) < (x : Int)) = false := decide_eq_false hfit
               have HFIT : Hid (z + x ≤ n) := by unfold Hid; omega
               have HGO : Hid (RS = Inf.runs (Inf.lstep t n V (8 * L)) qt (A ++ List.replicate x (Inf.lv s A))) := by
                 unfold Hid
                 rw [HRS.out, Inf.runs_go (Inf.lstep_go HLT.out K1.out (by
                   rintro (a | a | a)
                   · first | exact HNB.out a | exact HNB.out ⟨trivial, a.2⟩
                   · have := G2.out; have := HQTE.out; omega
                   · have := HFIT.out; have := HX.out; have := HZ.out; omega)), ← HQTE.out, ← HX.out]
               clear hfit
               have HLV : Hid (Inf.lv s A = 0) := by unfold Hid Inf.lv; rw [if_neg (by omega)]; split <;> (try split) <;> omega
               have HEQ := Lib.hid (equal_any ((0 : Nat) : Int) x w6 (by omega) (by omega))
               clear hx1 hx6
               go_wp2_with fail
               refine HEQ.out.mono ?_
               rintro e w7 ⟨h1, G, h2, h3, rfl⟩
               have M1 : Hid (Rw w0 w w7 g r L V qt T vt M fl fd A (.slice _ z cp) z) := G1.out.go (G1.out.sx.later h1) (Ks.below h1)
               have M2 := Lib.hid h3
               clear h1 h2 h3 HEQ
               have hown := M1.out.own
               have HSZ : Hid (w.heap.size ≤ w7.heap.size) := M1.out.ks.size
               go_wp2_with (first | (at_builtin; refine wpList_append_rep rfl (.tmp 68) (.tmp 71) rfl w.heap.size _ z (nv A) rfl hown G x ((0 : Nat) : Int) rfl M2.out (by have := HFIT.out; have := HN.out; omega) HSZ.out ?_; intro v' w8 ho8 hg8; obtain ⟨a8, c8, rfl⟩ := own_form ho8.out; have M3 := Lib.hid (M1.out.app HLO.out ho8.out hg8.out); clear ho8 hg8))
               exact ⟨⟨qt, z + x, _, a8, c8, rfl, HFIT.out, M3.out, by rw [HGO.out, HLV.out]⟩, by have h1 : Inf.pos w8 r = qt := M3.out.sx.pos; have := HPOS.out; have := HQT.out; have := HQ.out; omega⟩
   · have hd1 : decide (z < n) = false := decide_eq_false hlt
     have hd2 : decide ((z : Int) < (n : Int)) = false := decide_eq_false (by omega)
     obtain rfl : z = n := by omega
     have K1 : Hid (RS = .ok q A) := HRS.out.trans (Inf.runs_fin (Inf.lstep_done (by have := HZ.out; omega)))
     go_wp2
     go_ret2
     exact .inr ⟨q, A, _, K1.out, rfl, HR.out⟩
end Go.Proofs.YtenkkononchgmaaGreatDoor
