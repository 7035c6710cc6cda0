/- Laid together: InfTwo InfOwnS. -/
import Derived.Test.YtenkkononchgmaaGreatDoorDkB10

namespace Go.Proofs.YtenkkononchgmaaGreatDoor
open Go.RowKit Go

theorem Inf.order_small : ∀ k, k < 19 → Inf.order.getD k 0 < 19 := by decide
theorem Inf.lf_set (l : List Nat) (k x : Nat) (hk : k < l.length) : Inf.lf (l.set k x) = fun t => if t = k then (x : Int) else Inf.lf l t := by
 funext t
 simp only [Inf.lf, List.getD_eq_getElem?_getD, List.getElem?_set]
 by_cases e : k = t
 · subst e; rw [if_pos rfl, if_pos hk, if_pos rfl]; rfl
 · rw [if_neg e, if_neg (fun h => e h.symm)]
theorem Sx.setI {w0 w : World} {g r L V p : Nat} {T : List Int} {vt : Value} {M : Nat} {fl fd : Value} {G : Nat} {c : Array Value} {f : Nat × Nat} (h : Sx w0 w g r L V p T vt M fl fd) (hG : w.heap[G]? = some (.cells c 3 f)) (hb : w0.heap.size ≤ G) (j : Nat) (v : Value) : Sx w0 (w.setCell ⟨G, j, none⟩ v) g r L V p T vt M fl fd := by
 have ne : ∀ (k : Nat) (c : Array Value) (t : TypeId) (f : Nat × Nat), w.heap[k]? = some (.cells c t f) → t ≠ 3 → (w.setCell ⟨G, j, none⟩ v).heap[k]? = w.heap[k]? := fun k c t f h1 h2 => heap_setCell_other _ _ _ _ (Inf.ne_ty h1 hG h2)
 refine ⟨h.bel.setCell hb _, h.tab, h.lo, h.rlo, (ne _ _ _ _ h.row (by decide)).trans h.row, h.rd.keep (ne _ _ _ _ h.rd.row (by decide)) (ne _ _ _ _ h.rd.byt (by decide)), ?_⟩
 refine Inf.own_other h.txt fun k hk => ?_
 obtain ⟨_, _, hc⟩ := Inf.own_type h.txt hk
 exact ne _ _ _ _ hc (by decide)
theorem Ks.setI {wa w : World} {G : Nat} (h : Ks wa w) (hb : wa.heap.size ≤ G) (j : Nat) (v : Value) : Ks wa (w.setCell ⟨G, j, none⟩ v) :=
 ⟨h.os, h.tape, h.output, by simpa using h.size, fun k o h1 h2 => (heap_setCell_other _ _ _ _ (fun e => by have e : k = G := e; have := Inf.lt_some h1; omega)).trans (h.blk k o h1 h2)⟩
def LcO (w0 w : World) (g r L V p : Nat) (T : List Int) (vt : Value) (M : Nat) (fl fd : Value) (c : Nat) (e : Ending) (w' : World) : Prop :=
 ((8 * L < p + 3 * c ∨ ¬ Inf.Mk (Inf.short V p c)) ∧ e = .returned (.pointer none) ∧ Below w0.heap.size w0 w' ∧ Ks w w') ∨
 (p + 3 * c ≤ 8 * L ∧ Inf.Mk (Inf.short V p c) ∧ ∃ D, e = .returned (.pointer (some ⟨D, 0, none⟩)) ∧ Dcl w' (Inf.short V p c) D ∧ Sx w0 w' g r L V (p + 3 * c) T vt M fl fd ∧ Ks w w')

set_option maxRecDepth 100000 in
set_option maxHeartbeats 4000000 in
theorem lengthCode_any (c : Nat) (w0 w : World) (g r L V p : Nat) (T : List Int) (vt : Value) (M : Nat) (fl fd : Value) (h : Sx w0 w g r L V p T vt M fl fd) (hL : L ≤ 1000000) (hc : c ≤ 19) :
   Calls Tryz.prog 132 #[.pointer (some ⟨g, 0, none⟩), .int .i64 (c : Int)] w fun e w' => LcO w0 w g r L V p T vt M fl fd c e w' := by
 have HL := Lib.hid hL
 have HC := Lib.hid hc
 have hmk : ∀ w : World, (Instr.makeSlice 97 (.int .i64 19) (.int .i64 19)).run Tryz.prog w = .ok (.slice (some ⟨w.heap.size, 0, none⟩) 19 19) (w.alloc (.cells (ki 19 (fun _ => 0)) 3)) := fun w => run_ints 19 (by omega) w
 have hb : Below w.heap.size w (w.alloc (.cells (ki 19 fun _ => 0) 3)) := (Below.refl _ _).alloc (Nat.le_refl _) _
 have HS0 : Hid (Sx w0 (w.alloc (.cells (ki 19 fun _ => 0) 3)) g r L V p T vt M fl fd) := h.later hb
 have HK0 : Hid (Ks w (w.alloc (.cells (ki 19 fun _ => 0) 3))) := Ks.below hb
 have HR0 : Hid ((w.alloc (.cells (ki 19 fun _ => 0) 3)).heap[w.heap.size]? = some (.cells (ki 19 (Inf.lf (Inf.short V p 0))) 3 (0, 0))) := by
   have e : (fun _ => 0 : Nat → Int) = Inf.lf (Inf.short V p 0) := by
     funext t
     simp only [Inf.short, Inf.lf, List.getD_eq_getElem?_getD, List.getElem?_replicate]
     split <;> rfl
   unfold Hid
   rw [← e]
   exact heap_alloc_new _ _
 have HLO : Hid (w0.heap.size ≤ w.heap.size) := h.bel.size
 have HP0 : Hid (p ≤ 8 * L) := h.rd.le
 have hcI : (c : Int) ≤ 19 := by omega
 clear h hL hc hb
 go_enter Tryz.func132, Tryz.ntmps132
 go_wp2_with fail
 generalize w.alloc (.cells (ki 19 fun _ => 0) 3) = wa at *
 have HG : Hid (∃ G, G = w.heap.size ∧ w.heap.size ≤ G) := ⟨_, rfl, Nat.le_refl _⟩
 obtain ⟨G, hG, hG2⟩ := HG.out
 rw [← hG] at HR0 HLO ⊢
 have HG := Lib.hid hG2
 clear hmk hG hG2
 go_loopw [11] (fun v11 wr => ∃ i : Nat, i ≤ c ∧ v11 = .int .i64 (i : Int) ∧ p + 3 * i ≤ 8 * L ∧ Sx w0 wr g r L V (p + 3 * i) T vt M fl fd ∧ Ks w wr ∧ wr.heap[G]? = some (.cells (ki 19 (Inf.lf (Inf.short V p i))) 3 (0, 0))) (fun v11 _ => (c - intOf v11).toNat)
 case atStart => exact ⟨0, by omega, rfl, HP0.out, HS0.out, HK0.out, HR0.out⟩
 case round =>
   clear HS0 HK0 HR0
   obtain ⟨i, hi, rfl, hpi, hs, hk, hr⟩ := hrel
   have HS := Lib.hid hs
   have HK := Lib.hid hk
   have HR := Lib.hid hr
   have c0 := hs.c0
   have HPI := Lib.hid hpi
   clear hs hk hr
   have hil : (Inf.short V p i).length = 19 := Inf.short_length V p i
   by_cases hlt : i < c
   · have hd1 : decide (i < c) = true := decide_eq_true hlt
     have hd2 : decide ((i : Int) < (c : Int)) = true := decide_eq_true (by omega)
     have HLT := Lib.hid hlt
     by_cases hbit : p + 3 * i + 3 ≤ 8 * L
     · have HGT := Lib.hid (sget_any 3 w0 wr g r L V (p + 3 * i) T vt M fl fd HS.out HL.out (by omega) hbit)
       obtain ⟨x, hx⟩ : ∃ x, x = Inf.num V (p + 3 * i) 3 := ⟨_, rfl⟩
       have hx8 : x < 8 := by rw [hx]; exact Inf.num_lt V _ 3
       rw [← hx] at HGT
       obtain ⟨o, ho⟩ : ∃ o, o = Inf.order.getD i 0 := ⟨_, rfl⟩
       have ho19 : o < 19 := by rw [ho]; exact Inf.order_small i (by omega)
       have HNX : Hid (Inf.lf (Inf.short V p (i + 1)) = fun t => if t = o then (x : Int) else Inf.lf (Inf.short V p i) t) := by
         unfold Hid
         rw [Inf.short, ← ho, ← hx]
         exact Inf.lf_set _ _ _ (by rw [hil]; exact ho19)
       have hxI : (x : Int) < 8 := by omega
       have hoI : (o : Int) < 19 := by omega
       have hxw : IntKind.i64.wrap (x : Int) = (x : Int) := by rw [IntKind.wrap_i64]; omega
       have HO := Lib.hid ho
       have HO19 := Lib.hid ho19
       have hiI : (i : Int) < 19 := by omega
       have HPB : Hid (p + 3 * (i + 1) ≤ 8 * L) := by unfold Hid; omega
       clear hx ho hbit hlt hpi
       go_wp2_with fail
       refine HGT.out.mono ?_
       rintro e w5 ⟨rfl, h1, h2⟩
       have K1 := Lib.hid h1
       have K2 := Lib.hid (HK.out.trans h2)
       have HG5 : Hid (w5.heap[G]? = some (.cells (ki 19 (Inf.lf (Inf.short V p i))) 3 (0, 0))) := by
         exact h2.cells HR.out rfl
       have co : w5.cell? ⟨7, i, none⟩ = some (.int .i64 (o : Int)) := by rw [HO.out]; exact K1.out.tabs.od i (by have := HLT.out; have := HC.out; omega)
       have cg : w5.cell? ⟨G, o, none⟩ = some (.int .i64 (Inf.lf (Inf.short V p i) o)) := ki_cell HG5.out o HO19.out
       have fg : w5.frozen? ⟨G, o, none⟩ = false := frozen_of_row _ _ _ _ _ HG5.out
       have HNS : Hid (Sx w0 (w5.setCell ⟨G, o, none⟩ (.int .i64 (x : Int))) g r L V (p + 3 * (i + 1)) T vt M fl fd ∧ Ks w (w5.setCell ⟨G, o, none⟩ (.int .i64 (x : Int))) ∧ (w5.setCell ⟨G, o, none⟩ (.int .i64 (x : Int))).heap[G]? = some (.cells (ki 19 (Inf.lf (Inf.short V p (i + 1)))) 3 (0, 0))) := by
         refine ⟨K1.out.setI HG5.out HLO.out _ _, K2.out.setI HG.out _ _, (heap_setCell_same _ _ _ _ _ _ HG5.out).trans ?_⟩
         rw [ki_set _ _ _ _ HO19.out, HNX.out]
       clear h1 h2 HGT c0
       go_wp2
       exact ⟨⟨i + 1, by have := HLT.out; omega, by go_num, HPB.out, HNS.out⟩, by have := HLT.out; simp [intOf]; omega⟩
     · have HGT := Lib.hid (sget_no 3 w0 wr g r L V (p + 3 * i) T vt M fl fd HS.out HL.out (by omega))
       have HBAD : Hid (8 * L < p + 3 * c) := by unfold Hid; omega
       clear hbit hlt hpi
       go_wp2_with fail
       refine HGT.out.mono ?_
       rintro e w5 ⟨rfl, h1⟩
       have K1 := Lib.hid (HS.out.drawn h1).bel
       have K2 := Lib.hid (HK.out.trans (Ks.drawn h1))
       clear h1 HGT c0
       go_wp2
       go_ret
       exact .inl ⟨.inl HBAD.out, rfl, K1.out, K2.out⟩
   · obtain rfl : i = c := by omega
     have hd1 : decide (i < i) = false := decide_eq_false (by omega)
     have hd2 : decide ((i : Int) < (i : Int)) = false := decide_eq_false (by omega)
     have HNEW := Lib.hid (new_any (some ⟨G, 0, none⟩) 19 19 (Inf.lf (Inf.short V p i)) wr (ki_ints HR.out) (by omega))
     have HIL := Lib.hid hil
     clear hlt hpi c0
     go_wp2_with fail
     refine HNEW.out.mono ?_
     rintro e w5 ⟨h1, ⟨h2, D, h3, rfl⟩ | ⟨h2, rfl⟩⟩
     · have K1 : Hid (Sx w0 w5 g r L V (p + 3 * i) T vt M fl fd) := HS.out.later h1
       have K2 : Hid (Ks w w5) := HK.out.trans (Ks.below h1)
       have K3 : Hid (Dcl w5 (Inf.short V p i) D) := by unfold Hid Dcl; rw [HIL.out]; exact h3.dcr
       have K4 : Hid (Inf.Mk (Inf.short V p i)) := by unfold Hid Inf.Mk; rw [HIL.out]; exact h2
       clear h1 h2 h3 HNEW
       go_wp2
       go_ret
       exact .inr ⟨HPI.out, K4.out, D, rfl, K3.out, K1.out, K2.out⟩
     · have K1 : Hid (Below w0.heap.size w0 w5) := (HS.out.later h1).bel
       have K4 : Hid (¬ Inf.Mk (Inf.short V p i)) := by unfold Hid Inf.Mk; rw [HIL.out]; exact h2
       have K2 : Hid (Ks w w5) := HK.out.trans (Ks.below h1)
       clear h1 h2 HNEW
       go_wp2
       go_ret
       exact .inl ⟨.inr K4.out, rfl, K1.out, K2.out⟩
end Go.Proofs.YtenkkononchgmaaGreatDoor

/- A block of two codes of the program. -/
namespace Go.Proofs.YtenkkononchgmaaGreatDoor
open Go.RowKit Go

theorem Inf.num_part (V p n a k : Nat) (h : a + k ≤ n) : Inf.num V p n / 2 ^ a % 2 ^ k = Inf.num V (p + a) k := by
 unfold Inf.num
 rw [Bit.mid _ _ _ _ h, Nat.div_div_eq_div_mul, ← Nat.pow_add]
theorem Inf.num_first (V p n k : Nat) (h : k ≤ n) : Inf.num V p n % 2 ^ k = Inf.num V p k := by
 have := Inf.num_part V p n 0 k (by omega)
 rwa [Nat.pow_zero, Nat.div_one] at this
theorem Inf.num_last (V p n a : Nat) (h : a ≤ n) : Inf.num V p n / 2 ^ a = Inf.num V (p + a) (n - a) := by
 rw [← Inf.num_part V p n a (n - a) (by omega), Nat.mod_eq_of_lt]
 have h1 := Inf.num_lt V p n
 rw [show n = a + (n - a) by omega, Nat.pow_add] at h1
 exact (Nat.div_lt_iff_lt_mul (Nat.two_pow_pos _)).2 (by rw [Nat.mul_comm]; rw [show a + (n - a) = n by omega] at h1; exact h1)
def Two (w : World) (G : Nat) (a b : Option Addr) : Prop := w.heap[G]? = some (.cells #[.pointer a, .pointer b] 85 (0, 0))
theorem Two.ks {w w' : World} {G : Nat} {a b : Option Addr} (h : Two w G a b) (hk : Ks w w') : Two w' G a b := hk.cells h rfl
theorem Two.c0 {w : World} {G : Nat} {a b : Option Addr} (h : Two w G a b) : w.cell? ⟨G, 0, none⟩ = some (.pointer a) := (cell_of_row _ _ _ _ _ _ h).trans rfl
theorem Two.c1 {w : World} {G : Nat} {a b : Option Addr} (h : Two w G a b) : w.cell? ⟨G, 1, none⟩ = some (.pointer b) := (cell_of_row _ _ _ _ _ _ h).trans rfl
theorem Two.fr {w : World} {G : Nat} {a b : Option Addr} (h : Two w G a b) (j : Nat) : w.frozen? ⟨G, j, none⟩ = false := frozen_of_row _ _ _ _ _ h
theorem Two.set {w : World} {G : Nat} {a b : Option Addr} (h : Two w G a b) (a' b' : Option Addr) : Two ((w.setCell ⟨G, 0, none⟩ (.pointer a')).setCell ⟨G, 1, none⟩ (.pointer b')) G a' b' := by
 have h1 : (w.setCell ⟨G, 0, none⟩ (.pointer a')).heap[G]? = some (.cells #[.pointer a', .pointer b] 85 (0, 0)) := (heap_setCell_same _ _ _ _ _ _ h).trans rfl
 exact (heap_setCell_same _ _ _ _ _ _ h1).trans rfl
theorem Two.bel {w0 w : World} {G : Nat} {x y : Value} (hb : Below w0.heap.size w0 w) (hG : w0.heap.size ≤ G) : Below w0.heap.size w0 ((w.setCell ⟨G, 0, none⟩ x).setCell ⟨G, 1, none⟩ y) := (hb.setCell hG _).setCell hG _
theorem Dcl.two {w : World} {l : List Nat} {D G : Nat} {a b a' b' : Option Addr} (h : Dcl w l D) (hG : Two w G a b) : Dcl ((w.setCell ⟨G, 0, none⟩ (.pointer a')).setCell ⟨G, 1, none⟩ (.pointer b')) l D := by
 have ne : ∀ (k : Nat) (c : Array Value) (t : TypeId) (f : Nat × Nat), w.heap[k]? = some (.cells c t f) → t ≠ 85 → ((w.setCell ⟨G, 0, none⟩ (.pointer a')).setCell ⟨G, 1, none⟩ (.pointer b')).heap[k]? = w.heap[k]? := fun k c t f h1 h2 =>
   have hG' : w.heap[G]? = some (.cells #[.pointer a, .pointer b] 85 (0, 0)) := hG
   have hk : k ≠ G := Inf.ne_ty h1 hG' h2
   (heap_setCell_other _ _ _ _ hk).trans (heap_setCell_other _ _ _ _ hk)
 obtain ⟨v, base, h1, h2⟩ := h.d
 obtain ⟨cs, q1, q2⟩ := h1.row
 refine ⟨v, base, h1.keep (ne _ _ _ _ q1 (by decide)), Inf.own_other h2 fun k hk => ?_⟩
 obtain ⟨_, cur, hc⟩ := Inf.own_type h2 hk
 exact ne _ _ _ _ hc (by decide)
theorem Sx.setT {w0 w : World} {g r L V p : Nat} {T : List Int} {vt : Value} {M : Nat} {fl fd : Value} {G : Nat} {a b a' b' : Option Addr} (h : Sx w0 w g r L V p T vt M fl fd) (hG : Two w G a b) (hb : w0.heap.size ≤ G) (_ : a' = a') (_ : b' = b') : Sx w0 ((w.setCell ⟨G, 0, none⟩ (.pointer a')).setCell ⟨G, 1, none⟩ (.pointer b')) g r L V p T vt M fl fd := by
 have hG' : w.heap[G]? = some (.cells #[.pointer a, .pointer b] 85 (0, 0)) := hG
 have ne : ∀ (k : Nat) (c : Array Value) (t : TypeId) (f : Nat × Nat), w.heap[k]? = some (.cells c t f) → t ≠ 85 → ((w.setCell ⟨G, 0, none⟩ (.pointer a')).setCell ⟨G, 1, none⟩ (.pointer b')).heap[k]? = w.heap[k]? := fun k c t f h1 h2 =>
   (heap_setCell_other _ _ _ _ (Inf.ne_ty h1 hG' h2)).trans (heap_setCell_other _ _ _ _ (Inf.ne_ty h1 hG' h2))
 refine ⟨Two.bel h.bel hb, h.tab, h.lo, h.rlo, (ne _ _ _ _ h.row (by decide)).trans h.row, h.rd.keep (ne _ _ _ _ h.rd.row (by decide)) (ne _ _ _ _ h.rd.byt (by decide)), ?_⟩
 refine Inf.own_other h.txt fun k hk => ?_
 obtain ⟨_, _, hc⟩ := Inf.own_type h.txt hk
 exact ne _ _ _ _ hc (by decide)
end Go.Proofs.YtenkkononchgmaaGreatDoor

namespace Go.Proofs.YtenkkononchgmaaGreatDoor
open Go.RowKit Go

theorem Inf.Run.le {α : Type} {f : Nat → α → Inf.St α} (h1 : ∀ p a q b, f p a = .go q b → p ≤ q) (h2 : ∀ p a q b, f p a = .fin (.ok q b) → p ≤ q) {p : Nat} {a : α} {r : Inf.R α} (h : Inf.Run f p a r) : ∀ q b, r = .ok q b → p ≤ q := by
 induction h with
 | fin h => rintro q b rfl; exact h2 _ _ _ _ h
 | go h _ ih => intro q b e; exact Nat.le_trans (h1 _ _ _ _ h) (ih q b e)
theorem Inf.runs_le {α : Type} {f : Nat → α → Inf.St α} (h1 : ∀ p a q b, f p a = .go q b → p ≤ q) (h2 : ∀ p a q b, f p a = .fin (.ok q b) → p ≤ q) {p q : Nat} {a b : α} (h : Inf.runs f p a = .ok q b) : p ≤ q := by
 unfold Inf.runs at h
 split at h
 · rename_i hx
   exact Inf.Run.le h1 h2 hx.choose_spec q b h
 · cases h
theorem Inf.row_le {t : List Nat} {n V N p q : Nat} {A B : List Nat} (h : Inf.runs (Inf.lstep t n V N) p A = .ok q B) : p ≤ q := by
 have key : ∀ p A, (∀ q b, Inf.lstep t n V N p A = .go q b → p ≤ q) ∧ (∀ q b, Inf.lstep t n V N p A = .fin (.ok q b) → p ≤ q) := by
   intro p A
   rcases Nat.lt_or_ge A.length n with c | c
   · rcases Inf.sy_cases t V N p with e | ⟨k, i, h1, e⟩
     · rw [Inf.lstep_none c e]
       exact ⟨fun q b h => (by cases h), fun q b h => (by cases h)⟩
     · by_cases hb : (i = 16 ∧ A.length = 0) ∨ N < p + k + Inf.lw i ∨ n < A.length + (Inf.lk i + Inf.num V (p + k) (Inf.lw i))
       · rw [Inf.lstep_bad c e hb]
         exact ⟨fun q b h => (by cases h), fun q b h => (by cases h)⟩
       · rw [Inf.lstep_go c e hb]
         exact ⟨fun q b h => (by cases h; omega), fun q b h => (by cases h)⟩
   · rw [Inf.lstep_done c]
     exact ⟨fun q b h => (by cases h), fun q b h => (by cases h; exact Nat.le_refl _)⟩
 exact Inf.runs_le (fun p a q b h => (key p a).1 q b h) (fun p a q b h => (key p a).2 q b h) h
def OcO (w0 w : World) (g r L V p : Nat) (T : List Int) (vt : Value) (M : Nat) (fl fd : Value) (e : Ending) (w' : World) : Prop :=
 (Inf.dynamic V (8 * L) M p T = .err 4 ∧ (∃ a b : Option Addr, e = .returned (.tuple #[.agg #[.pointer a, .pointer b], .bool false])) ∧ Below w0.heap.size w0 w') ∨
 (∃ x y q a b, Inf.dynamic V (8 * L) M p T = Inf.runs (Inf.cstep x y V (8 * L) M) q T ∧ Inf.Mk x ∧ Inf.Mk y ∧ e = .returned (.tuple #[.agg #[.pointer (some ⟨a, 0, none⟩), .pointer (some ⟨b, 0, none⟩)], .bool true]) ∧ Dcl w' x a ∧ Dcl w' y b ∧ Sx w0 w' g r L V q T vt M fl fd ∧ Ks w w' ∧ p ≤ q)
def OwnC : Prop := ∀ (w0 w : World) (g r L V p : Nat) (T : List Int) (vt : Value) (M : Nat) (fl fd : Value), Sx w0 w g r L V p T vt M fl fd → L ≤ 1000000 →
   Calls Tryz.prog 84 #[.pointer (some ⟨g, 0, none⟩)] w fun e w' => OcO w0 w g r L V p T vt M fl fd e w'
end Go.Proofs.YtenkkononchgmaaGreatDoor
