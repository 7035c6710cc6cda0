/- Laid together: InfRefJ. -/
import Derived.Test.YtenkkononchgmaaGreatDoorDkB44

namespace Go.Proofs.YtenkkononchgmaaGreatDoor
open Go.RowKit Go

theorem Inf.and64_1 (a : Nat) (ha : a < 256) : bits BinOp.and IntKind.i64 (a : Int) 1 = ((a % 2 : Nat) : Int) := by
 have e : bits BinOp.and IntKind.i64 (a : Int) 1 = IntKind.i64.wrap (((BitVec.ofInt 64 (a : Int)) &&& (BitVec.ofInt 64 1)).toNat : Int) := rfl
 rw [e, BitVec.toNat_and, BitVec.toNat_ofInt]
 have e1 : ((a : Int) % ((2 ^ 64 : Nat) : Int)).toNat = a := by omega
 rw [e1, show (BitVec.ofInt 64 1).toNat = 2 ^ 1 - 1 from by decide, Nat.and_two_pow_sub_one_eq_mod, IntKind.wrap_i64]
 omega
theorem Inf.bit8 (V i k : Nat) (hk : k < 8) : Bit.b V i / 2 ^ k % 2 = V / 2 ^ (8 * i + k) % 2 := by
 unfold Bit.b
 have h := Bit.mid (V / 2 ^ (8 * i)) k 1 8 (by omega)
 rw [show (2 : Nat) ^ 8 = 256 from rfl, show (2 : Nat) ^ 1 = 2 from rfl] at h
 rw [h, Nat.div_div_eq_div_mul, ← Nat.pow_add]
theorem Inf.run_on {α : Type} {f : Nat → α → Inf.St α} (h1 : ∀ p a q b, f p a = .go q b → p ≤ q) (h2 : ∀ p a q b, f p a = .fin (.ok q b) → p ≤ q) {p q : Nat} {a b : α} (h : Inf.runs f p a = .ok q b) : p ≤ q := by
 have key : ∀ p a r, Inf.Run f p a r → ∀ q b, r = .ok q b → p ≤ q := by
   intro p a r h
   induction h with
   | fin h => exact fun q b e => h2 _ _ q b (by rw [h, e])
   | go h _ ih => exact fun q b e => Nat.le_trans (h1 _ _ _ _ h) (ih q b e)
 by_cases hx : ∃ r, Inf.Run f p a r
 · obtain ⟨r, hr⟩ := hx
   rw [hr.eq] at h
   exact key p a r hr q b h
 · unfold Inf.runs at h
   rw [dif_neg hx] at h
   cases h
theorem Inf.cd_le {x y : List Nat} {V N M p q : Nat} {T U : List Int} (h : Inf.coded x y V N M p T = .ok q U) : p ≤ q := by
 unfold Inf.coded at h
 split at h
 · refine Inf.run_on (fun p a q b h => Nat.le_of_lt (Inf.cstep_on h).1) (fun p a q b h => ?_) h
   rcases Inf.sy_cases x V N p with e | ⟨k, i, h1, e⟩
   · rw [Inf.cstep_none e] at h; cases h
   · rcases Nat.lt_trichotomy i 256 with c | c | c
     · rcases Nat.lt_or_ge a.length M with d | d
       · rw [Inf.cstep_go e c d] at h; cases h
       · rw [Inf.cstep_long e c d] at h; cases h
     · subst c
       rw [Inf.cstep_end e] at h
       cases h; omega
     · rw [Inf.cstep_match e c] at h
       unfold Inf.mstep Inf.mfar at h
       split at h
       · cases h
       · split at h
         · cases h
         · split at h
           · cases h
           · split at h
             · cases h
             · split at h <;> cases h
 · cases h
theorem Inf.lstep_le {t : List Nat} {n V N p q : Nat} {A B : List Nat} (h : Inf.runs (Inf.lstep t n V N) p A = .ok q B) : p ≤ q := by
 refine Inf.run_on (fun p a q b h => ?_) (fun p a q b h => ?_) h
 · unfold Inf.lstep at h
   split at h
   · cases h
   · split at h
     · cases h
     · rename_i s r e
       split at h
       · cases h
       · cases h
         have := (Inf.sy_lt e).2.1
         omega
 · unfold Inf.lstep at h
   split at h
   · cases h; exact Nat.le_refl _
   · split at h
     · cases h
     · split at h <;> cases h
theorem Inf.block_le {V N M k p q : Nat} {T U : List Int} (h : Inf.block V N M k p T = .ok q U) : p ≤ q := by
 unfold Inf.block at h
 split at h
 · unfold Inf.stored at h
   split at h
   · split at h
     · cases h
     · cases h
       unfold Inf.up
       omega
   · cases h
 · split at h
   · exact Inf.cd_le h
   · split at h
     · unfold Inf.dynamic at h
       split at h
       · cases h
       · split at h
         · cases h
         · split at h
           · cases h
           · rename_i e
             split at h
             · cases h
             · have h1 := Inf.lstep_le e
               have h2 := Inf.cd_le h
               omega
     · cases h
theorem step_append_int (w : World) {ops : Array Oper} {o : Oper} {a : Act} {K : Act → World → Prop} {Q : Exit → Act → World → Prop} {E : Prop} (hgd : o.guard = none) (s x : Operand)
   (ho : o.op = .call { callee := .builtin .append, args := #[s, x], argTypes := #[97, 97] })
   (base : Nat) (v : Value) (n : Nat) (xs : List Value) (hs : a.eval s = v) (hown : w.ownsRow base 3 1 v n xs)
   (H : Nat) (y : Int) (hx : a.eval x = .slice (some ⟨H, 0, none⟩) 1 1) (hH : w.heap[H]? = some (.cells #[.int .i64 y] 3 (0, 0))) (h63 : n ≤ 100000000) (hbase : base ≤ w.heap.size)
   (h : ∀ v' w', Hid (w'.ownsRow base 3 1 v' (n + 1) (xs ++ [.int .i64 y])) → Hid (w.grownBy w' v.ownBlock) → K (a.put o.dst v') w') :
   if Region.wanted o (yielded ops a.tmps) = true then Oper.wp Tryz.prog o a w K Q else E := by
 have hw : Region.wanted o (yielded ops a.tmps) = true := by simp [Region.wanted, hgd]
 rw [if_pos hw]
 obtain ⟨i0, hi, hz0, hz1, hz2⟩ := info_parts infoInt
 obtain ⟨v', w', hr, h2, h3, _, _⟩ := run_append_own_at (P := Tryz.prog) w base 97 o.type 3 i0 (.int .i64 0) 1 8 (by kernel_rfl) hi hz0 hz1 hz2 rfl (by decide) v n xs hown ⟨H, 0, none⟩ 1 1 [.int .i64 y] rfl (World.news_of_block (cs := #[.int .i64 y]) hH) (fun u hu => by simp at hu; subst hu; rfl) (by simp only [maxLen]; omega) (by omega) hbase
 unfold Oper.wp execOp
 simp only [ho, resolve, invoke, builtin, Sem.run_bind, Sem.run_pure, Result.andThen_ok, List.map_toArray, List.map_cons, List.map_nil, hs, hx, hr]
 exact h v' w' h2 h3
structure Bi (w0 w : World) (g m V : Nat) (vb : Value) (M : Nat) : Prop where
 bel : Below w0.heap.size w0 w
 lo : w0.heap.size ≤ g
 row : w.heap[g]? = some (.cells #[vb, .int .i64 0, .slice none 0 0, .int .i64 (M : Nat), .int .i64 0] 116 (0, 0))
 bits : w.ownsRow w0.heap.size 3 1 vb m (nv (Inf.bl V m))
theorem Bi.c0 {w0 w : World} {g m V : Nat} {vb : Value} {M : Nat} (h : Bi w0 w g m V vb M) : w.cell? ⟨g, 0, none⟩ = some vb := (cell_of_row _ _ _ _ _ _ h.row).trans rfl
theorem Bi.app {w0 w w' : World} {g m V : Nat} {vb v' : Value} {M : Nat} {o : Obj} (h : Bi w0 w g m V vb M) (ho : w'.ownsRow w0.heap.size 3 1 v' (m + 1) (nv (Inf.bl V m) ++ [.int .i64 ((V / 2 ^ m % 2 : Nat) : Int)])) (hg : (w.alloc o).grownBy w' vb.ownBlock) :
   (∃ u, w'.cell? ⟨g, 0, none⟩ = some u) ∧ w'.frozen? ⟨g, 0, none⟩ = false ∧ Bi w0 (w'.setCell ⟨g, 0, none⟩ v') g (m + 1) V v' M := by
 have lg := Inf.lt_some h.row
 have hrow : w'.heap[g]? = _ := ((hg.block g (by simp; omega) (fun e => by
   obtain ⟨_, cur, hc⟩ := Inf.own_type h.bits e.symm
   exact Inf.ne_ty h.row hc (by decide) rfl)).trans (Below.heap_alloc _ _ _ lg)).trans h.row
 refine ⟨⟨_, (cell_of_row _ _ _ _ _ _ hrow).trans rfl⟩, frozen_of_row _ _ _ _ _ hrow, ?_, h.lo, (heap_setCell_same _ _ _ _ _ _ hrow).trans rfl, ?_⟩
 · exact ((h.bel.alloc h.bel.size o).grown hg (by have := h.bel.size; simp; omega) (fun k hk => (h.bits.lt k hk).1)).setCell h.lo _
 · rw [Inf.bl_succ, nv_one]
   refine Inf.own_other ho fun k hk => heap_setCell_other _ _ _ _ ?_
   obtain ⟨_, cur, hc⟩ := Inf.own_type ho hk
   exact Inf.ne_ty hc hrow (by decide)
theorem Bi.ri {w0 w : World} {g m V : Nat} {vb : Value} {M : Nat} (h : Bi w0 w g m V vb M) : Ri w0 w g m V vb 0 [] (.slice none 0 0) M 0 :=
 ⟨h.bel, h.lo, h.row, h.bits, World.ownsRow_nil _ _ _ _, Nat.zero_le _⟩
def RfO (w : World) (V N M : Nat) (e : Ending) (w' : World) : Prop :=
 Below w.heap.size w w' ∧ ((∃ k : Int, Inf.inflate V N M = .err k ∧ ¬ k = 0 ∧ e = .returned (.tuple #[.slice none 0 0, .int .i64 0, .int .i64 k])) ∨
   (∃ q T vt, Inf.inflate V N M = .ok q T ∧ T.length ≤ M ∧ e = .returned (.tuple #[vt, .int .i64 (((q + 7) / 8 : Nat) : Int), .int .i64 0]) ∧ w'.ownsRow w.heap.size 5 1 vt T.length (k8 T)))
end Go.Proofs.YtenkkononchgmaaGreatDoor

/- The walk of the document's Inflate. -/
namespace Go.Proofs.YtenkkononchgmaaGreatDoor
open Go.RowKit Go

set_option maxRecDepth 100000 in
set_option maxHeartbeats 8000000 in
theorem rinflate_any (B : List Int) (a : Option Addr) (n cap M : Nat) (w : World) (hn : n = B.length) (hB : BytesIn w (.slice a n cap) B (fun _ => True)) (hb : ∀ x ∈ B, 0 ≤ x ∧ x < 256) (hl : n ≤ 100000) (hM : M ≤ 65536) :
   Calls Tryz.prog 27 #[.slice a n cap, .int .i64 (M : Int)] w fun e w' => RfO w (Bit.val B) (8 * n) M e w' := by
 have HL := Lib.hid hl
 have HM := Lib.hid hM
 have d0 : decide ((M : Int) < 0) = false := decide_eq_false (by omega)
 have d1 : decide (65536 < (M : Int)) = false := decide_eq_false (by omega)
 have d1' : decide (65536 < M) = false := decide_eq_false (by omega)
 obtain ⟨V, hV⟩ : ∃ V, V = Bit.val B := ⟨_, rfl⟩
 have HBY : Hid (BytesIn w (.slice a n cap) (Bit.by V n) (fun _ => True)) := by
   unfold Hid
   rw [hV, hn, Bit.by_val B hb, ← hn]
   exact hB
 rw [← hV]
 obtain ⟨RS, hrs⟩ : ∃ RS, RS = Inf.inflate V (8 * n) M := ⟨_, rfl⟩
 unfold RfO
 rw [← hrs]
 have HRS0 : Hid (RS = Inf.runs (Inf.bstep V (8 * n) M) 0 []) := hrs
 have hnI : (n : Int) ≤ 100000 := by omega
 clear hn hB hb hl hM hrs hV
 have HS0 : Hid (Bi w (w.alloc (.cells #[.slice none 0 0, .int .i64 0, .slice none 0 0, .int .i64 (M : Nat), .int .i64 0] 116)) w.heap.size 0 V (.slice none 0 0) M) :=
   ⟨(Below.refl _ _).alloc (Nat.le_refl _) _, Nat.le_refl _, heap_alloc_new _ _, World.ownsRow_nil _ _ _ _⟩
 go_enter Tryz.func27, Tryz.ntmps27
 go_wp2_with fail
 generalize w.alloc (.cells #[.slice none 0 0, .int .i64 0, .slice none 0 0, .int .i64 (M : Nat), .int .i64 0] 116) = wa at *
 obtain ⟨g, hg⟩ : ∃ g, g = w.heap.size := ⟨_, rfl⟩
 rw [← hg] at HS0
 rw [← hg]
 clear hg
 go_loopw [8, 9] (fun v8 _ wr => ∃ (i : Nat) (vb : Value), i ≤ n ∧ v8 = .int .i64 (i : Int) ∧ Bi w wr g (8 * i) V vb M) (fun v8 _ _ => (n - intOf v8).toNat)
 case atStart => exact ⟨0, _, by omega, rfl, HS0.out⟩
 case round =>
   clear HS0
   obtain ⟨i, vb, hi, rfl, hs⟩ := hrel
   have HS := Lib.hid hs
   by_cases hlt : i < n
   · have d8 : decide (i < n) = true := decide_eq_true hlt
     have d8' : decide ((i : Int) < (n : Int)) = true := decide_eq_true (by omega)
     have HI : Hid (i < n) := hlt
     have hiI : (i : Int) < (n : Int) := by omega
     clear hs hi
     go_wp2_with fail
     go_loopw [9] (fun v9 wr => ∃ (k : Nat) (vb : Value), k ≤ 8 ∧ v9 = .int .i64 (k : Int) ∧ Bi w wr g (8 * i + k) V vb M) (fun v9 _ => (8 - intOf v9).toNat)
     case atStart => exact ⟨0, vb, by omega, rfl, HS.out⟩
     case round =>
       clear HS
       obtain ⟨k, vb, hk, rfl, hs⟩ := hrel
       have HS := Lib.hid hs
       obtain ⟨av, cv, rfl⟩ : ∃ av cv, vb = .slice av (8 * i + k) cv := by
         obtain ⟨av, cv, e, _⟩ := Inf.own_nv hs.bits (Inf.bl_length _ _)
         exact ⟨av, cv, e⟩
       by_cases hk8 : k < 8
       · have d9 : decide (k < 8) = true := decide_eq_true hk8
         have d9' : decide ((k : Int) < 8) = true := decide_eq_true (by omega)
         have HK : Hid (k < 8) := hk8
         have hkI : (k : Int) < 8 := by omega
         have hby := later_bytes HS.out.bel HBY.out
         obtain ⟨s, o, rfl, c2⟩ : ∃ s o, a = some ⟨s, o, none⟩ ∧ wr.cell? ⟨s, o + i, none⟩ = some (.int .u8 ((Bit.b V i : Nat) : Int)) := by
           obtain ⟨a', cap', e, _, _, hc⟩ := hby
           obtain ⟨s, o, e1, _, _, hc⟩ := hc (by rw [Bit.by_length]; omega)
           injection e with e2 _ _
           rw [← e2] at e1
           refine ⟨s, o, e1, ?_⟩
           rw [hc _ (by rw [Bit.by_length]; exact hlt), Bit.by_get _ _ _ hlt]
         have hbb : Bit.b V i < 256 := Nat.mod_lt _ (by omega)
         have hbit := Inf.bit8 V i k hk8
         obtain ⟨m, hm⟩ : ∃ m, m = 8 * i + k := ⟨_, rfl⟩
         have HMM := Lib.hid hm
         rw [← hm] at hbit
         rw [← hm] at HS
         generalize Bit.b V i = y at *
         have ey : (y : Int) / 2 ^ k = ((y / 2 ^ k : Nat) : Int) := by push_cast; rfl
         have hy8 : y / 2 ^ k < 256 := Nat.lt_of_le_of_lt (Nat.div_le_self _ _) hbb
         have hand := Inf.and64_1 _ hy8
         rw [hbit] at hand
         have HOWN : Hid (wr.ownsRow w.heap.size 3 1 (.slice av m cv) m (nv (Inf.bl V m))) := HS.out.bits
         have HSD : Hid (Bi w wr.drew g m V (.slice av m cv) M) := ⟨HS.out.bel.drew, HS.out.lo, HS.out.row, HS.out.bits⟩
         have HAP : Hid (∀ v' w7 o, World.ownsRow w7 w.heap.size 3 1 v' (m + 1) (nv (Inf.bl V m) ++ [.int .i64 (V / 2 ^ m % 2 : Nat)]) → (wr.drew.alloc o).grownBy w7 (Value.slice av m cv).ownBlock → (∃ u, w7.cell? ⟨g, 0, none⟩ = some u) ∧ w7.frozen? ⟨g, 0, none⟩ = false ∧ Hid (Bi w (w7.setCell ⟨g, 0, none⟩ v') g (m + 1) V v' M)) := fun v' w7 o h1 h2 => HSD.out.app h1 h2
         generalize y / 2 ^ k = z at *
         generalize V / 2 ^ m % 2 = t at *
         have HSZ : Hid (w.heap.size ≤ wr.heap.size) := HS.out.bel.size
         have HLEN : Hid (m ≤ 100000000) := by have := HL.out; unfold Hid; omega
         have c0 := HS.out.c0
         have c0a : ∀ o, (wr.alloc o).cell? ⟨g, 0, none⟩ = some (.slice av m cv) := fun o => (World.cell?_alloc_lt _ _ _ (World.block_lt_of_cell? _ _ c0)).trans c0
         have hku : IntKind.u64.wrap (k : Int) = (k : Int) := by rw [IntKind.wrap_u64]; omega
         have hkm : min k 8 = k := by omega
         have hzw : IntKind.i64.wrap (z : Int) = (z : Int) := by rw [IntKind.wrap_i64]; omega
         clear hbit hbb hm hby hs hk hk8 hlt hy8
         go_wp2_with fail
         go_region_law ((refine step_append_int _ (by rfl) _ _ (by rfl) w.heap.size _ m (nv (Inf.bl V m)) (by rfl) (HOWN.out.alloc _) wr.heap.size (t : Int) (by rfl) (heap_alloc_new _ _) HLEN.out (by have := HSZ.out; simp; omega) ?_; intro v' w7 ho7 hg7; obtain ⟨a7, c7, rfl⟩ := own_form ho7.out; obtain ⟨⟨u7, k1⟩, k2, k3⟩ := HAP.out _ _ _ ho7.out hg7.out; clear ho7 hg7))
         all_goals go_wp2
         all_goals exact ⟨⟨k + 1, _, by have := HK.out; omega, by go_num, by
           have e : 8 * i + (k + 1) = m + 1 := by have := HMM.out; omega
           rw [e]
           exact k3.out⟩, by have := HK.out; simp [intOf]; omega⟩
       · have d9 : decide (k < 8) = false := decide_eq_false hk8
         have d9' : decide ((k : Int) < 8) = false := decide_eq_false (by omega)
         have HKE : Hid (8 * i + k = 8 * (i + 1)) := by unfold Hid; omega
         clear hs hk hk8
         go_wp2
         exact ⟨⟨i + 1, _, by have := HI.out; omega, by go_num, by rw [← HKE.out]; exact HS.out⟩, by have := HI.out; simp [intOf]; omega⟩
   · have d8 : decide (i < n) = false := decide_eq_false hlt
     have d8' : decide ((i : Int) < (n : Int)) = false := decide_eq_false (by omega)
     obtain rfl : i = n := by omega
     obtain ⟨N, hN⟩ : ∃ N, N = 8 * i := ⟨_, rfl⟩
     have HNE := Lib.hid hN
     have HR0 := Lib.hid hs.ri
     rw [← hN] at HR0
     rw [← hN] at HRS0
     have HN6 : Hid (N ≤ 1000000) := by have := HL.out; unfold Hid; omega
     have HVB : Hid (∀ k, vb.ownBlock = some k → k < wr.heap.size) := fun k hk => by obtain ⟨_, _, hc⟩ := Inf.own_type hs.bits hk; exact Inf.lt_some hc
     clear hs hi hlt hN HS
     go_wp2_with fail
     generalize wr = wb at *
     go_loopw [10, 11, 12, 13] (fun v10 _ _ _ wr => ∃ (lst q : Nat) (U : List Int) (vt : Value) (e : Int), v10 = .int .i64 (lst : Int) ∧ lst ≤ 1 ∧ Ri w wr g N V vb q U vt M e ∧ ((e = 0 ∧ U.length ≤ M ∧ lst = 0 ∧ RS = Inf.runs (Inf.bstep V N M) q U) ∨ (e = 0 ∧ U.length ≤ M ∧ lst = 1 ∧ RS = .ok q U) ∨ (¬ e = 0 ∧ RS = .err e))) (fun v10 _ _ _ wr => (1 - intOf v10).toNat * Inf.meas wr g N)
     case atStart => exact ⟨0, 0, [], _, 0, rfl, by omega, HR0.out, .inl ⟨rfl, Nat.zero_le _, rfl, HRS0.out⟩⟩
     case round =>
       clear HR0 HRS0
       obtain ⟨lst, q, U, vt, e, rfl, hl1, hr, hst⟩ := hrel
       have HR := Lib.hid hr
       have c4 := hr.c4
       rcases hst with ⟨rfl, hU, rfl, hRS⟩ | ⟨rfl, hU, rfl, hRS⟩ | ⟨he, hRS⟩
       · have HU := Lib.hid hU
         have HRS := Lib.hid hRS
         have HME : Hid (Inf.meas wr g N = N + 1 - q) := by unfold Hid; rw [hr.meas, if_pos rfl]
         have HQN := Lib.hid hr.ple
         have q0 : ((0 : Int) == 0) = true := rfl
         have HA := Lib.hid (rnum_c 1 w wr g N V vb q U vt M 0 (.inl rfl) hr HN6.out (by omega))
         clear hl1 hr hU hRS
         go_wp2_with fail
         refine HA.out.mono ?_
         rintro en w1 ⟨x1, rfl, b1, k1, q1, e1, r1, s1⟩
         have E1 : Hid (e1 = 0 ∨ e1 = 4) := by
           rcases s1 with ⟨a, _⟩ | ⟨a, _⟩
           · exact .inl a
           · exact .inr a
         have S1 : Hid ((e1 = 0 ∧ q + 1 ≤ N ∧ q1 = q + 1 ∧ x1 = Inf.num V q 1) ∨ (e1 = 4 ∧ N < q + 1)) := by
           rcases s1 with ⟨a, _, b, c, d⟩ | ⟨a, _, b | b⟩
           · exact .inl ⟨a, b, c, d⟩
           · exact absurd b (by decide)
           · exact .inr ⟨a, b⟩
         have HA2 := Lib.hid (rnum_c 2 w w1 g N V vb q1 U vt M e1 E1.out r1 HN6.out (by omega))
         have hx1 : x1 ≤ 1 := by have : (2 : Nat) ^ 1 = 2 := rfl; omega
         have HX1 := Lib.hid hx1
         have K1 := Lib.hid k1
         clear k1 r1 s1 HA b1 hx1 c4
         go_wp2_with fail
         refine HA2.out.mono ?_
         rintro en w2 ⟨x2, rfl, b2, k2, q2, e2, r2, s2⟩
         have S2 : Hid ((e2 = 0 ∧ q + 3 ≤ N ∧ q2 = q + 3 ∧ x1 = Inf.num V q 1 ∧ x2 = Inf.num V (q + 1) 2) ∨ (e2 = 4 ∧ N < q + 3)) := by
           rcases s2 with ⟨a, a0, b, c, d⟩ | ⟨a, _, b | b⟩
           · rcases S1.out with ⟨f1, f2, f3, f4⟩ | ⟨f1, f2⟩
             · exact .inl ⟨a, by omega, by omega, f4, by rw [d, f3]⟩
             · omega
           · rcases S1.out with ⟨f1, f2, f3, f4⟩ | ⟨f1, f2⟩
             · omega
             · exact .inr ⟨a, by omega⟩
           · rcases S1.out with ⟨f1, f2, f3, f4⟩ | ⟨f1, f2⟩
             · exact .inr ⟨a, by omega⟩
             · exact .inr ⟨a, by omega⟩
         have R2 := Lib.hid r2
         have c4 := r2.c4
         have hx2 : x2 ≤ 3 := by have : (2 : Nat) ^ 2 = 4 := rfl; omega
         clear k2 r2 s2 HA2 b2 S1 E1
         rcases S2.out with ⟨rfl, t1, t2, t3, t4⟩ | ⟨rfl, t1⟩
         · have HT : Hid (q + 3 ≤ N ∧ q2 = q + 3 ∧ x1 = Inf.num V q 1 ∧ x2 = Inf.num V (q + 1) 2) := ⟨t1, t2, t3, t4⟩
           have HFIN : Hid (∀ wy w', Out w wy g N V vb M (Inf.block V N M x2 q2 U) w' → ∃ (q' : Nat) (U' : List Int) (vt' : Value) (e' : Int), Ri w w' g N V vb q' U' vt' M e' ∧ ((e' = 0 ∧ U'.length ≤ M ∧ x1 = 0 ∧ RS = Inf.runs (Inf.bstep V N M) q' U') ∨ (e' = 0 ∧ U'.length ≤ M ∧ x1 = 1 ∧ RS = .ok q' U') ∨ (¬ e' = 0 ∧ RS = .err e')) ∧ (1 - (x1 : Int)).toNat * Inf.meas w' g N < Inf.meas wr g N) := by
             rintro wy w' ⟨-, ⟨k, p', T', vt', h1, h2, h3⟩ | ⟨q', U', vt', h1, h2, h3⟩⟩
             · refine ⟨p', T', vt', k, h3, .inr (.inr ⟨h2, HRS.out.trans (Inf.runs_fin (Inf.bstep_err t1 (by rw [← t4, ← t2]; exact h1)))⟩), ?_⟩
               have h4 := h3.meas
               rw [if_neg h2] at h4
               have h5 := HME.out
               have h6 := HQN.out
               rw [h4, h5, Nat.mul_zero]
               omega
             · have hle := Inf.block_le h1
               have h4 := h3.meas
               rw [if_pos rfl] at h4
               have h5 := HME.out
               have h6 := HQN.out
               have h7 := h3.ple
               have hbl : Inf.block V N M (Inf.num V (q + 1) 2) (q + 3) U = .ok q' U' := by rw [← t4, ← t2]; exact h1
               rcases (by have := HX1.out; omega : x1 = 0 ∨ x1 = 1) with c | c
               · refine ⟨q', U', vt', 0, h3, .inl ⟨rfl, h2, c, HRS.out.trans (Inf.runs_go (Inf.bstep_go t1 hbl (by omega)))⟩, ?_⟩
                 rw [h4, h5, c, show (1 - ((0 : Nat) : Int)).toNat = 1 from rfl, Nat.one_mul]
                 omega
               · refine ⟨q', U', vt', 0, h3, .inr (.inl ⟨rfl, h2, c, HRS.out.trans (Inf.runs_fin (Inf.bstep_end t1 hbl (by omega)))⟩), ?_⟩
                 rw [h4, h5, c, show (1 - ((1 : Nat) : Int)).toNat = 0 from rfl, Nat.zero_mul]
                 omega
           have HN8 : Hid (N % 8 = 0) := by have := HNE.out; unfold Hid; omega
           have q1n : ((0 : Int) != 0) = false := rfl
           clear t1 t2 t3 t4 S2
           rcases (by omega : x2 = 0 ∨ x2 = 1 ∨ x2 = 2 ∨ x2 = 3) with rfl | rfl | rfl | rfl
           · have HSTO := Lib.hid (rstored_any w w2 g N V vb q2 U vt M R2.out HN6.out HN8.out HU.out HM.out)
             clear hx2
             go_wp2_with fail
             refine HSTO.out.mono ?_
             rintro en w3 ⟨rfl, hO⟩
             obtain ⟨q', U', vt', e', g1, g2, g3⟩ := HFIN.out _ _ hO
             have G1 := Lib.hid g1
             have G2 := Lib.hid g2
             have G3 := Lib.hid g3
             clear hO g1 g2 g3 HSTO
             go_wp2
             exact ⟨⟨x1, q', U', vt', e', rfl, HX1.out, G1.out, G2.out⟩, by have := G3.out; simpa [intOf] using this⟩
           · have HFX := Lib.hid (rfixed_any w2)
             clear hx2
             go_wp2_with fail
             refine HFX.out.mono ?_
             rintro en w3 ⟨v1, v2, rfl, h1, h2, h3⟩
             obtain ⟨a1, c1, rfl, -, hI1⟩ := Inf.own_nv h2 Inf.fix_len2
             obtain ⟨a2, c2, rfl, -, hI2⟩ := Inf.own_nv h3 (show Inf.fixd.length = 32 from by kernel_rfl)
             have HCO := Lib.hid (rcoded_any Inf.fixl Inf.fixd a1 288 c1 a2 32 c2 w w3 g N V vb q2 U vt M (R2.out.later h1) Inf.fix_len2.symm (by kernel_rfl) hI1 hI2 (by omega) (by omega) HN6.out HU.out HM.out)
             clear h1 h2 h3 hI1 hI2 HFX
             go_wp2_with fail
             refine HCO.out.mono ?_
             rintro en w4 ⟨rfl, hO⟩
             obtain ⟨q', U', vt', e', g1, g2, g3⟩ := HFIN.out _ _ hO
             have G1 := Lib.hid g1
             have G2 := Lib.hid g2
             have G3 := Lib.hid g3
             clear hO g1 g2 g3 HCO
             go_wp2
             exact ⟨⟨x1, q', U', vt', e', rfl, HX1.out, G1.out, G2.out⟩, by have := G3.out; simpa [intOf] using this⟩
           · have HDY := Lib.hid (rdynamic_any w w2 g N V vb q2 U vt M R2.out HN6.out HU.out HM.out)
             clear hx2
             go_wp2_with fail
             refine HDY.out.mono ?_
             rintro en w3 ⟨rfl, hO⟩
             obtain ⟨q', U', vt', e', g1, g2, g3⟩ := HFIN.out _ _ hO
             have G1 := Lib.hid g1
             have G2 := Lib.hid g2
             have G3 := Lib.hid g3
             clear hO g1 g2 g3 HDY
             go_wp2
             exact ⟨⟨x1, q', U', vt', e', rfl, HX1.out, G1.out, G2.out⟩, by have := G3.out; simpa [intOf] using this⟩
           · have HFL := Lib.hid (rfail_any 4 w w2 g N V vb q2 U vt M 0 R2.out)
             clear hx2
             go_wp2_with fail
             refine HFL.out.mono ?_
             rintro en w3 ⟨rfl, h1, h2⟩
             rw [Inf.er_zero] at h1
             obtain ⟨q', U', vt', e', g1, g2, g3⟩ := HFIN.out w2 w3 ⟨h2, .inl ⟨4, _, _, _, rfl, by decide, h1⟩⟩
             have G1 := Lib.hid g1
             have G2 := Lib.hid g2
             have G3 := Lib.hid g3
             clear h1 h2 g1 g2 g3 HFL
             go_wp2
             exact ⟨⟨x1, q', U', vt', e', rfl, HX1.out, G1.out, G2.out⟩, by have := G3.out; simpa [intOf] using this⟩
         · have HB : Hid (RS = .err 4) := HRS.out.trans (Inf.runs_fin (Inf.bstep_few t1))
           have q4 : ((4 : Int) != 0) = true := rfl
           clear t1 S2
           go_wp2_with fail
           go_quiet (fail)
           have KD := Lib.hid (R2.out.drawn ⟨nq, rfl⟩)
           go_wp2
           go_returns
           exact ⟨KD.out.bel, .inl ⟨4, HB.out, by decide, rfl⟩⟩
       · have HB := Lib.hid hRS
         have HU := Lib.hid hU
         obtain ⟨av, cv, rfl⟩ := hr.form
         have c1 := hr.c1
         have c2 := hr.c2
         have q1n : ((0 : Int) != 0) = false := rfl
         have q1e : (((1 : Nat) : Int) == 0) = false := rfl
         have hq6 : (q : Int) ≤ 1000000 := by have := hr.ple; have := HN6.out; omega
         obtain ⟨u7, hu7⟩ : ∃ u7, u7 = q + 7 := ⟨_, rfl⟩
         have hu7I : (q : Int) + 7 = (u7 : Int) := by omega
         obtain ⟨d8, hd8⟩ : ∃ d8, d8 = u7 / 8 := ⟨_, rfl⟩
         have hdiv : (u7 : Int) / 8 = (d8 : Int) := by omega
         have hdiv2 : Int.tdiv (u7 : Int) 8 = (d8 : Int) := by rw [Int.tdiv_eq_ediv_of_nonneg (by omega)]; exact hdiv
         have HD8 : Hid ((q + 7) / 8 = d8) := by unfold Hid; rw [hd8, hu7]
         clear hl1 hr hU hRS hu7 hd8
         go_wp2_with fail
         go_quiet (fail)
         have KD := Lib.hid (HR.out.drawn ⟨nq, rfl⟩)
         go_wp2
         go_returns
         exact ⟨KD.out.bel, .inr ⟨q, U, _, HB.out, HU.out, by rw [HD8.out]; rfl, KD.out.txt⟩⟩
       · have HB := Lib.hid hRS
         have HE := Lib.hid he
         have q0 : (e == 0) = false := by simp [he]
         have q1n : (e != 0) = true := by simp [he]
         clear hr he hRS
         rcases (by omega : lst = 0 ∨ lst = 1) with rfl | rfl
         · go_wp2_with fail
           go_quiet (fail)
           have KD := Lib.hid (HR.out.drawn ⟨nq, rfl⟩)
           go_wp2
           go_returns
           exact ⟨KD.out.bel, .inl ⟨e, HB.out, HE.out, rfl⟩⟩
         · have q1e : (((1 : Nat) : Int) == 0) = false := rfl
           go_wp2_with fail
           go_quiet (fail)
           have KD := Lib.hid (HR.out.drawn ⟨nq, rfl⟩)
           go_wp2
           go_returns
           exact ⟨KD.out.bel, .inl ⟨e, HB.out, HE.out, rfl⟩⟩
end Go.Proofs.YtenkkononchgmaaGreatDoor
