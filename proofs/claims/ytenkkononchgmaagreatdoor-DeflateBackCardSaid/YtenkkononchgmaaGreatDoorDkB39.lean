/- Laid together: DfDefl. -/
import Derived.Test.YtenkkononchgmaaGreatDoorDkB36
import Derived.Test.YtenkkononchgmaaGreatDoorDkB37
import Derived.Test.YtenkkononchgmaaGreatDoorDkB38

namespace Go.Proofs.YtenkkononchgmaaGreatDoor
open Go.RowKit Go
open Lz (Pc)

theorem Inf.fixp_le (l : List Pc) (hok : PcOk l) : Inf.putn (Inf.fixp l) 0 ≤ 3 + 28 * (Inf.txs l).length := by
 have e : Inf.putn (Inf.fixp l) 0 = Inf.putn (Inf.tel (Inf.jw Inf.fixl Inf.fixd) (Inf.jd Inf.fixl Inf.fixd) (Inf.txs l)) 3 := by simp only [Inf.fixp, Inf.beg, List.cons_append, List.nil_append, Inf.putn, Nat.zero_add, Nat.reduceAdd]
 rw [e]
 exact Inf.putn_tel _ _ _ 3 fun s hs => by
   have h := (Inf.txs_ok hok s hs).1
   refine ⟨?_, h.2.2⟩
   unfold Inf.jd
   split
   · have := Inf.fix_max s.p (by omega); omega
   · have := Inf.fixd_max (s.p - 288) (by have := h.1; omega); omega
def Inf.Dq (b : List Int) (i : Nat) (P : List (Nat × Nat)) : Prop :=
 (i = 1 ∧ P = Inf.bars 2 b) ∨ (i = 2 ∧ P = Inf.sht (Inf.bars 2 b) (Inf.fixp (Lz.par b))) ∨ (i = 3 ∧ ∃ P', Inf.Own (Lz.par b) P' ∧ P = Inf.sht (Inf.sht (Inf.bars 2 b) (Inf.fixp (Lz.par b))) P')
theorem Inf.Dq.le {b : List Int} {i : Nat} {P : List (Nat × Nat)} (h : Inf.Dq b i P) (hl : b.length ≤ 65536) : Inf.putn P 0 ≤ 1000000 := by
 have h0 := Inf.bars_len b hl
 have h1 := Inf.sht_le (Inf.bars 2 b) (Inf.fixp (Lz.par b))
 rcases h with ⟨-, rfl⟩ | ⟨-, rfl⟩ | ⟨-, P', -, rfl⟩
 · omega
 · omega
 · have := Inf.sht_le (Inf.sht (Inf.bars 2 b) (Inf.fixp (Lz.par b))) P'
   omega
theorem Inf.Dq.dfl {b : List Int} {P : List (Nat × Nat)} (h : Inf.Dq b 3 P) : Inf.Dfl b (Inf.putn P 0) (Inf.putv P 0 0) := by
 rcases h with ⟨h, -⟩ | ⟨h, -⟩ | ⟨-, P', h1, rfl⟩
 · omega
 · omega
 · exact ⟨P', h1, rfl, rfl⟩
structure Ds (w wr : World) (T4 T6 : Nat) (vb : Value) (aS : Option Addr) (ns cs : Nat) (B : List Int) (i : Nat) : Prop where
 bel : Below w.heap.size w wr
 sm : Smr wr aS ns cs (Inf.txs (Lz.par B))
 r4 : wr.heap[T4]? = some (.cells #[vb, .slice aS ns cs] 45 (0, 0))
 l6 : w.heap.size ≤ T6
 r6 : ∃ p, wr.heap[T6]? = some (.cells #[.pointer p] 50 (0, 0)) ∧ (i = 0 → p = none) ∧ (0 < i → ∃ g P v, p = some ⟨g, 0, none⟩ ∧ Wr wr g (Inf.putn P 0) (Inf.putv P 0 0) v ∧ Inf.Dq B i P)
theorem Ds.call {w wr w' : World} {T4 T6 : Nat} {vb : Value} {aS : Option Addr} {ns cs : Nat} {B : List Int} {i : Nat} (h : Ds w wr T4 T6 vb aS ns cs B i) (hb : Below wr.heap.size wr w') : Ds w w' T4 T6 vb aS ns cs B i := by
 obtain ⟨p, h1, h2, h3⟩ := h.r6
 refine ⟨h.bel.trans (hb.mono h.bel.size), h.sm.later hb, (hb.block _ (Inf.lt_some h.r4)).trans h.r4, h.l6, p, (hb.block _ (Inf.lt_some h1)).trans h1, h2, fun h0 => ?_⟩
 obtain ⟨g, P, v, k1, k2, k3⟩ := h3 h0
 exact ⟨g, P, v, k1, k2.later hb (Nat.le_refl _), k3⟩

theorem Ds.next {w wr : World} {T4 T6 : Nat} {vb : Value} {aS : Option Addr} {ns cs : Nat} {B : List Int} {i g : Nat} {P : List (Nat × Nat)} {v : Value} (h : Ds w wr T4 T6 vb aS ns cs B i) (hg : Wr wr g (Inf.putn P 0) (Inf.putv P 0 0) v) (hq : Inf.Dq B (i + 1) P) :
   Ds w (wr.setCell ⟨T6, 0, none⟩ (.pointer (some ⟨g, 0, none⟩))) T4 T6 vb aS ns cs B (i + 1) := by
 obtain ⟨p, h1, -, -⟩ := h.r6
 refine ⟨h.bel.setCell h.l6 _, h.sm.keep (by simp) (fun s _ hs => heap_setCell_other _ _ _ _ (Inf.ne_ty hs h1 (by decide))), (heap_setCell_other _ _ _ _ (Inf.ne_ty h.r4 h1 (by decide))).trans h.r4, h.l6, some ⟨g, 0, none⟩, (heap_setCell_same _ _ _ _ _ _ h1).trans rfl, fun h => absurd h (by omega), fun _ => ⟨g, P, v, rfl, ?_, hq⟩⟩
 exact hg.other (heap_setCell_other _ _ _ _ (Inf.ne_ty hg.row h1 (by decide))) (fun k hk => by
   obtain ⟨_, cur, hc⟩ := Inf.own_type hg.own hk
   exact heap_setCell_other _ _ _ _ (Inf.ne_ty hc h1 (by decide)))
theorem Ds.stay {w wr : World} {T4 T6 : Nat} {vb : Value} {aS : Option Addr} {ns cs : Nat} {B : List Int} {i g : Nat} {P : List (Nat × Nat)} {v : Value} (h : Ds w wr T4 T6 vb aS ns cs B i) (h6 : wr.heap[T6]? = some (.cells #[.pointer (some ⟨g, 0, none⟩)] 50 (0, 0))) (hg : Wr wr g (Inf.putn P 0) (Inf.putv P 0 0) v) (hq : Inf.Dq B (i + 1) P) : Ds w wr T4 T6 vb aS ns cs B (i + 1) :=
 ⟨h.bel, h.sm, h.r4, h.l6, some ⟨g, 0, none⟩, h6, fun h => absurd h (by omega), fun _ => ⟨g, P, v, rfl, hg, hq⟩⟩

set_option maxRecDepth 100000 in
set_option maxHeartbeats 8000000 in
theorem deflate_any (B : List Int) (ab : Option Addr) (nb cb : Nat) (w : World) (hnb : nb = B.length) (hl : nb ≤ 65536) (hB : BytesIn w (.slice ab nb cb) B (fun _ => True)) (hbyt : Lz.Byt B) (hT : DTabs w) :
   Calls Tryz.prog 8 #[.slice ab nb cb] w fun e w' => Below w.heap.size w w' ∧ ∃ n V G m, Inf.Dfl B n V ∧ m = (n + 7) / 8 ∧ w.heap.size ≤ G ∧ w'.heap[G]? = some (.cells (k8 (Bit.by V m)).toArray 5 (0, 0)) ∧ e = .returned (.tuple #[.slice (some ⟨G, 0, none⟩) m m, .int .i64 0]) := by
 have HPA := Lib.hid (par_any B ab nb cb w hnb hl hB hbyt)
 have HB := Lib.hid hB
 have HNB := Lib.hid hnb
 have HL := Lib.hid hl
 have HBY := Lib.hid hbyt
 have HT := Lib.hid hT
 have hnI : (nb : Int) ≤ 65536 := by omega
 have hl6 : decide ((65536 : Int) < (nb : Int)) = false := decide_eq_false (by omega)
 obtain ⟨hok, -⟩ := Inf.par_ok hbyt (by omega : B.length ≤ 65536)
 have HOK := Lib.hid hok
 have HPL : Hid ((Lz.par B).length ≤ 65536) := by have := Lz.par_length B; unfold Hid; omega
 clear hnb hl hB hbyt hT hok
 go_enter Tryz.func8, Tryz.ntmps8
 go_wp2_with fail
 refine HPA.out.mono ?_
 rintro e w1 ⟨v1, rfl, h1⟩
 obtain ⟨a1, c1, rfl⟩ := h1.form
 have hpi := (own_pieces h1.own).1.mono (Nat.le_refl _) (fun _ _ _ => trivial) (fun _ _ _ _ => rfl) (ok' := fun _ => True)
 have HB1 := Lib.hid h1.bel
 have HSY := Lib.hid (dsymbols_any (Lz.par B) a1 (Lz.par B).length c1 w1 rfl (by have := HPL.out; omega) hpi HOK.out (HT.out.later h1.bel (Nat.le_refl _)))
 clear h1 hpi HPA
 go_wp2_with fail
 refine HSY.out.mono ?_
 rintro e w2 ⟨v2, rfl, h2⟩
 obtain ⟨aS, cs, rfl, hsm⟩ := Smr.own h2.own
 obtain ⟨ns, hns⟩ : ∃ ns, ns = (Inf.txs (Lz.par B)).length := ⟨_, rfl⟩
 rw [← hns] at hsm ⊢
 have HB2 : Hid (Below w.heap.size w w2) := HB1.out.trans (h2.bel.mono HB1.out.size)
 have HSM := Lib.hid hsm
 have HNS : Hid (ns ≤ 200001) := by have := Inf.txs_len (Lz.par B); have := HPL.out; unfold Hid; omega
 clear h2 hsm hns HSY HB1
 have hix : ∀ (i : Nat) (wx : World), i < 3 → (Instr.index 53 (.agg #[.int .i64 0, .func (.func 21) #[] #[], .int .i64 1, .func (.func 22) #[] #[], .int .i64 2, .func (.func 23) #[] #[]]) (.int .i64 (i : Int))).run Tryz.prog wx = .ok (.agg #[.int .i64 (i : Int), if i = 0 then .func (.func 21) #[] #[] else if i = 1 then .func (.func 22) #[] #[] else .func (.func 23) #[] #[]]) wx := fun i wx hi => by
   rcases (by omega : i = 0 ∨ i = 1 ∨ i = 2) with rfl | rfl | rfl <;> kernel_rfl
 obtain ⟨KD, hKD⟩ : ∃ KD : Array Value, KD = #[.int .i64 0, .func (.func 21) #[] #[], .int .i64 1, .func (.func 22) #[] #[], .int .i64 2, .func (.func 23) #[] #[]] := ⟨_, rfl⟩
 have G5 : Hid (((w2.alloc (.cells #[.slice ab nb cb, .slice aS ns cs] 45)).alloc (.cells #[.int .i64 0, .nilFunc, .int .i64 0, .nilFunc, .int .i64 0, .nilFunc] 53)).heap[w2.heap.size + 1]? = some (.cells #[.int .i64 0, .nilFunc, .int .i64 0, .nilFunc, .int .i64 0, .nilFunc] 53 (0, 0))) := by
   have := heap_alloc_new (w2.alloc (.cells #[.slice ab nb cb, .slice aS ns cs] 45)) (.cells #[.int .i64 0, .nilFunc, .int .i64 0, .nilFunc, .int .i64 0, .nilFunc] 53)
   unfold Hid
   simpa using this
 have G4 : Hid (((w2.alloc (.cells #[.slice ab nb cb, .slice aS ns cs] 45)).alloc (.cells #[.int .i64 0, .nilFunc, .int .i64 0, .nilFunc, .int .i64 0, .nilFunc] 53)).heap[w2.heap.size]? = some (.cells #[.slice ab nb cb, .slice aS ns cs] 45 (0, 0))) := (heap_alloc_old _ _ (by simp)).trans (heap_alloc_new _ _)
 have HB5 : Hid (Below w.heap.size w ((w2.alloc (.cells #[.slice ab nb cb, .slice aS ns cs] 45)).alloc (.cells #[.int .i64 0, .nilFunc, .int .i64 0, .nilFunc, .int .i64 0, .nilFunc] 53))) := (HB2.out.alloc HB2.out.size _).alloc (by have := HB2.out.size; simp; omega) _
 have HLO : Hid (w.heap.size ≤ w2.heap.size) := HB2.out.size
 have HSM5 : Hid (Smr ((w2.alloc (.cells #[.slice ab nb cb, .slice aS ns cs] 45)).alloc (.cells #[.int .i64 0, .nilFunc, .int .i64 0, .nilFunc, .int .i64 0, .nilFunc] 53)) aS ns cs (Inf.txs (Lz.par B))) := HSM.out.later (((Below.refl _ _).alloc (Nat.le_refl _) _).alloc (by simp) _)
 have HKS : Hid ((Tryz.prog.info? 53).map (·.size) = some KD.size) := by unfold Hid; rw [hKD]; kernel_rfl
 have HKS2 : Hid ((#[.int .i64 0, .nilFunc, .int .i64 0, .nilFunc, .int .i64 0, .nilFunc] : Array Value).size = KD.size ∧ KD.all (·.oneCell') = true) := by unfold Hid; rw [hKD]; exact ⟨rfl, by kernel_rfl⟩
 go_wp2_with (first | (refine wpList_store_row_any rfl 53 (.tmp 5) (.tmp 21) rfl (w2.heap.size + 1) KD rfl (by rw [hKD]; rfl) 53 #[.int .i64 0, .nilFunc, .int .i64 0, .nilFunc, .int .i64 0, .nilFunc] G5.out HKS.out HKS2.out.1 HKS2.out.2 ?_; intro w5 h5 g5; have H6 : (w5.alloc (.cells #[.pointer none] 50)).heap[w2.heap.size + 1]? = some (.cells KD 53 (0, 0)) := (heap_alloc_old _ _ (Inf.lt_some h5.out)).trans h5.out) | (refine wpList_load_row rfl 53 (.tmp 5) rfl (w2.heap.size + 1) rfl 53 KD (0, 0) (.array 3 52) H6 (by kernel_rfl) rfl HKS.out ?_))
 obtain ⟨T4, hT4⟩ : ∃ T, T = w2.heap.size := ⟨_, rfl⟩
 obtain ⟨T6, hT6⟩ : ∃ T, T = w5.heap.size := ⟨_, rfl⟩
 have HD0 : Hid (Ds w (w5.alloc (.cells #[.pointer none] 50)) T4 T6 (.slice ab nb cb) aS ns cs B 0) := by
   have hlt := Inf.lt_some G4.out
   have hb5 : Below w.heap.size w w5 := HB5.out.grown g5.out HB5.out.size (fun k hk => by cases hk; have := HLO.out; omega)
   have h45 : w5.heap[w2.heap.size]? = _ := (g5.out.block w2.heap.size hlt (by intro e; injection e with e; omega)).trans G4.out
   refine ⟨hb5.alloc hb5.size _, ?_, ?_, by rw [hT6]; exact hb5.size, none, ?_, fun _ => rfl, fun h => absurd h (by omega)⟩
   · refine Smr.later (HSM5.out.keep g5.out.size fun s cur hs => g5.out.block s (Inf.lt_some hs) (fun e => ?_)) ((Below.refl _ _).alloc (Nat.le_refl _) _)
     cases e
     have := G5.out.symm.trans hs
     simp at this
   · rw [hT4]; exact (heap_alloc_old _ _ (Inf.lt_some h45)).trans h45
   · rw [hT6]; exact heap_alloc_new _ _
 have HIX : Hid (∀ (i : Nat) (wx : World), i < 3 → (Instr.index 53 (.agg #[.int .i64 0, .func (.func 21) #[] #[], .int .i64 1, .func (.func 22) #[] #[], .int .i64 2, .func (.func 23) #[] #[]]) (.int .i64 (i : Int))).run Tryz.prog wx = .ok (.agg #[.int .i64 (i : Int), if i = 0 then .func (.func 21) #[] #[] else if i = 1 then .func (.func 22) #[] #[] else .func (.func 23) #[] #[]]) wx) := hix
 rw [← hT4, ← hT6]
 clear hix hKD H6 HKS HKS2 G5 G4 HB5 HLO HSM5 HSM HB2 h5 g5 hT4 hT6
 generalize w5.alloc (.cells #[.pointer none] 50) = w6 at *
 go_loopw [23] (fun v23 wr => ∃ i : Nat, i ≤ 3 ∧ v23 = .int .i64 (i : Int) ∧ Ds w wr T4 T6 (.slice ab nb cb) aS ns cs B i) (fun v23 _ => (3 - intOf v23).toNat)
 case atStart => exact ⟨0, by omega, rfl, HD0.out⟩
 case round =>
   clear HD0
   obtain ⟨i, hi, rfl, hs⟩ := hrel
   have HS := Lib.hid hs
   clear hs
   by_cases hlt : i < 3
   · have d1 : decide ((i : Int) < 3) = true := decide_eq_true (by omega)
     have HI3 : Hid (i < 3) := hlt
     have hiI : (i : Int) < 3 := by omega
     obtain ⟨wk, hwk⟩ : ∃ wk : World, True := ⟨wr, trivial⟩
     clear hwk wk
     clear hi hlt
     rcases (show i = 0 ∨ i = 1 ∨ i = 2 by have := HI3.out; omega) with hi0 | hi0 | hi0
     · have hx0 : ∀ wx, (Instr.index 53 (.agg #[.int .i64 0, .func (.func 21) #[] #[], .int .i64 1, .func (.func 22) #[] #[], .int .i64 2, .func (.func 23) #[] #[]]) (.int .i64 (i : Int))).run Tryz.prog wx = .ok (.agg #[.int .i64 (i : Int), .func (.func 21) #[] #[]]) wx := fun wx => by
         have := HIX.out i wx HI3.out
         rw [this, hi0]; rfl
       have HI0 := Lib.hid hi0
       clear hi0
       have HKN : Hid ((wr.alloc (.cells #[.int .i64 0, .nilFunc] 52)).heap[wr.heap.size]? = some (.cells #[.int .i64 0, .nilFunc] 52 (0, 0))) := heap_alloc_new _ _
       go_wp2_with (first | (refine wpList_store_row_any rfl 52 (.tmp 8) (.tmp 25) rfl wr.heap.size #[.int .i64 (i : Int), .func (.func 21) #[] #[]] rfl rfl 52 #[.int .i64 0, .nilFunc] HKN.out (by kernel_rfl) rfl (by kernel_rfl) ?_; intro wk hk gk))
       have hbk : Below wr.heap.size wr wk := ((Below.refl _ _).alloc (Nat.le_refl _) _).grown gk.out (by simp) (fun k hk => by cases hk; exact Nat.le_refl _)
       have HDK := Lib.hid (HS.out.call hbk)
       have HK1 := hk
       clear HKN gk hbk HS hk
       refine (wnew_any wk).mono ?_
       rintro e wn ⟨rfl, hwn⟩
       have hbn : Below wk.heap.size wk wn := by rw [hwn]; exact (Below.refl _ _).alloc (Nat.le_refl _) _
       have hwr0 : Wr wn wk.heap.size 0 0 (.slice none 0 0) := by rw [hwn]; exact ⟨heap_alloc_new _ _, ⟨rfl, .inl ⟨rfl, rfl⟩⟩, by decide⟩
       have hwnsz : wn.heap.size = wk.heap.size + 1 := by rw [hwn]; simp
       clear hwn
       obtain ⟨g, hg⟩ : ∃ g, g = wk.heap.size := ⟨_, rfl⟩
       rw [← hg] at hwr0 ⊢
       have hiw : Iw wk wk wn g 0 0 := ⟨hbn, by omega, ⟨_, hwr0⟩, Kp.below hbn⟩
       obtain ⟨w9, hw9⟩ : ∃ w9, w9 = wn.alloc (.cells #[.pointer (some ⟨g, 0, none⟩)] 50) := ⟨_, rfl⟩
       have hb9 : Below wn.heap.size wn w9 := by rw [hw9]; exact (Below.refl _ _).alloc (Nat.le_refl _) _
       have hbk9 : Below wk.heap.size wk w9 := hbn.trans (hb9.mono hbn.size)
       have HIW := Lib.hid (hiw.later hb9)
       have H9 : Hid (w9.heap[wn.heap.size]? = some (.cells #[.pointer (some ⟨g, 0, none⟩)] 50 (0, 0)) ∧ wn.heap.size ≠ g) := ⟨by rw [hw9]; exact heap_alloc_new _ _, by omega⟩
       have hk9 : w9.heap[wr.heap.size]? = _ := (hbk9.block _ (Inf.lt_some HK1.out)).trans HK1.out
       have hr49 : w9.heap[T4]? = _ := (hbk9.block _ (Inf.lt_some HDK.out.r4)).trans HDK.out.r4
       have c0 : w9.cell? ⟨wr.heap.size, 0, none⟩ = some (.int .i64 (i : Int)) := (cell_of_row _ _ _ _ _ _ hk9).trans rfl
       have c1 : w9.cell? ⟨wr.heap.size, 1, none⟩ = some (.func (.func 21) #[] #[]) := (cell_of_row _ _ _ _ _ _ hk9).trans rfl
       have c2 : w9.cell? ⟨T4, 0, none⟩ = some (.slice ab nb cb) := (cell_of_row _ _ _ _ _ _ hr49).trans rfl
       have c3 : w9.cell? ⟨T4, 1, none⟩ = some (.slice aS ns cs) := (cell_of_row _ _ _ _ _ _ hr49).trans rfl
       have c4 : w9.cell? ⟨wn.heap.size, 0, none⟩ = some (.pointer (some ⟨g, 0, none⟩)) := (cell_of_row _ _ _ _ _ _ H9.out.1).trans rfl
       have e9 := hw9.symm
       have hbyt := later_bytes HDK.out.bel HB.out
       have hii : (i : Int) = 0 := by have := HI0.out; omega
       have HCALL : Hid (Calls Tryz.prog 21 #[sv g, .agg #[(.slice ab nb cb), .slice aS ns cs], .int .i64 (i : Int)] w9 fun e w' => e = .returned (.tuple #[]) ∧ ∃ P, P = Inf.bars 2 B ∧ Inf.putn P 0 ≤ 10000000 ∧ Iw wk wk w' g (Inf.putn P 0) (Inf.putv P 0 0) ∧ Kp g w9 w') := by
         rw [hii]
         refine (dbare_any B ab nb cb (.slice aS ns cs) ⟨_, _, _, rfl⟩ wk wk w9 g HIW.out HNB.out HL.out hbyt HBY.out).mono ?_
         rintro e w' ⟨h1, h2, h3⟩
         exact ⟨h1, _, rfl, by have := Inf.bars_len B (by have := HNB.out; have := HL.out; omega); have := HNB.out; have := HL.out; omega, h2, h3⟩
       clear hw9 hx0 hiw hwr0 hbn hb9 hbk9 hk9 hr49 hbyt hii hg hwnsz
       go_wp2_with fail
       clear e9
       generalize wn.heap.size = X9 at *
       refine HCALL.out.mono ?_
       rintro e wc ⟨rfl, P, hP, hPl, g1, g2⟩
       have HD9 := Lib.hid (HDK.out.call (g1.bel.mono (Nat.le_refl _)))
       have h9c : wc.heap[X9]? = some (.cells #[.pointer (some ⟨g, 0, none⟩)] 50 (0, 0)) := g2.cells H9.out.1 H9.out.2 (by decide)
       have y9 : wc.cell? ⟨X9, 0, none⟩ = some (.pointer (some ⟨g, 0, none⟩)) := (cell_of_row _ _ _ _ _ _ h9c).trans rfl
       obtain ⟨v, hv⟩ := g1.wr
       have HV := Lib.hid hv
       have HP := Lib.hid hP
       have HPL2 := Lib.hid hPl
       have H9C := Lib.hid h9c
       obtain ⟨p, h6, hp0, hp1⟩ := HD9.out.r6
       have f6 : wc.frozen? ⟨T6, 0, none⟩ = false := frozen_of_row _ _ _ _ _ h6
       obtain rfl := hp0 HI0.out
       have y6 : wc.cell? ⟨T6, 0, none⟩ = some (.pointer none) := (cell_of_row _ _ _ _ _ _ h6).trans rfl
       have HNX : Hid (∀ wx, Drawn wc wx → Ds w (wx.setCell ⟨T6, 0, none⟩ (.pointer (some ⟨g, 0, none⟩))) T4 T6 (.slice ab nb cb) aS ns cs B (i + 1)) := fun wx hd => (HD9.out.call (hd.below _)).next (HV.out.later (hd.below _) (Nat.le_refl _)) (.inl ⟨by have := HI0.out; omega, HP.out⟩)
       clear h6 hp0 hp1 g1 g2 hv hP hPl h9c HCALL HDK HIW H9 HK1 c0 c1 c2 c3 c4
       go_wp2_with fail
       go_quiet (fail)
       go_wp2_with fail
       exact ⟨⟨i + 1, by have := HI3.out; omega, by go_num, HNX.out _ ⟨nq, rfl⟩⟩, by have := HI3.out; simp [intOf]; omega⟩
     · have hx0 : ∀ wx, (Instr.index 53 (.agg #[.int .i64 0, .func (.func 21) #[] #[], .int .i64 1, .func (.func 22) #[] #[], .int .i64 2, .func (.func 23) #[] #[]]) (.int .i64 (i : Int))).run Tryz.prog wx = .ok (.agg #[.int .i64 (i : Int), .func (.func 22) #[] #[]]) wx := fun wx => by
         have := HIX.out i wx HI3.out
         rw [this, hi0]; rfl
       have HI0 := Lib.hid hi0
       clear hi0
       have HKN : Hid ((wr.alloc (.cells #[.int .i64 0, .nilFunc] 52)).heap[wr.heap.size]? = some (.cells #[.int .i64 0, .nilFunc] 52 (0, 0))) := heap_alloc_new _ _
       go_wp2_with (first | (refine wpList_store_row_any rfl 52 (.tmp 8) (.tmp 25) rfl wr.heap.size #[.int .i64 (i : Int), .func (.func 22) #[] #[]] rfl rfl 52 #[.int .i64 0, .nilFunc] HKN.out (by kernel_rfl) rfl (by kernel_rfl) ?_; intro wk hk gk))
       have hbk : Below wr.heap.size wr wk := ((Below.refl _ _).alloc (Nat.le_refl _) _).grown gk.out (by simp) (fun k hk => by cases hk; exact Nat.le_refl _)
       have HDK := Lib.hid (HS.out.call hbk)
       have HK1 := hk
       clear HKN gk hbk HS hk
       refine (wnew_any wk).mono ?_
       rintro e wn ⟨rfl, hwn⟩
       have hbn : Below wk.heap.size wk wn := by rw [hwn]; exact (Below.refl _ _).alloc (Nat.le_refl _) _
       have hwr0 : Wr wn wk.heap.size 0 0 (.slice none 0 0) := by rw [hwn]; exact ⟨heap_alloc_new _ _, ⟨rfl, .inl ⟨rfl, rfl⟩⟩, by decide⟩
       have hwnsz : wn.heap.size = wk.heap.size + 1 := by rw [hwn]; simp
       clear hwn
       obtain ⟨g, hg⟩ : ∃ g, g = wk.heap.size := ⟨_, rfl⟩
       rw [← hg] at hwr0 ⊢
       have hiw : Iw wk wk wn g 0 0 := ⟨hbn, by omega, ⟨_, hwr0⟩, Kp.below hbn⟩
       obtain ⟨w9, hw9⟩ : ∃ w9, w9 = wn.alloc (.cells #[.pointer (some ⟨g, 0, none⟩)] 50) := ⟨_, rfl⟩
       have hb9 : Below wn.heap.size wn w9 := by rw [hw9]; exact (Below.refl _ _).alloc (Nat.le_refl _) _
       have hbk9 : Below wk.heap.size wk w9 := hbn.trans (hb9.mono hbn.size)
       have HIW := Lib.hid (hiw.later hb9)
       have H9 : Hid (w9.heap[wn.heap.size]? = some (.cells #[.pointer (some ⟨g, 0, none⟩)] 50 (0, 0)) ∧ wn.heap.size ≠ g) := ⟨by rw [hw9]; exact heap_alloc_new _ _, by omega⟩
       have hk9 : w9.heap[wr.heap.size]? = _ := (hbk9.block _ (Inf.lt_some HK1.out)).trans HK1.out
       have hr49 : w9.heap[T4]? = _ := (hbk9.block _ (Inf.lt_some HDK.out.r4)).trans HDK.out.r4
       have c0 : w9.cell? ⟨wr.heap.size, 0, none⟩ = some (.int .i64 (i : Int)) := (cell_of_row _ _ _ _ _ _ hk9).trans rfl
       have c1 : w9.cell? ⟨wr.heap.size, 1, none⟩ = some (.func (.func 22) #[] #[]) := (cell_of_row _ _ _ _ _ _ hk9).trans rfl
       have c2 : w9.cell? ⟨T4, 0, none⟩ = some (.slice ab nb cb) := (cell_of_row _ _ _ _ _ _ hr49).trans rfl
       have c3 : w9.cell? ⟨T4, 1, none⟩ = some (.slice aS ns cs) := (cell_of_row _ _ _ _ _ _ hr49).trans rfl
       have c4 : w9.cell? ⟨wn.heap.size, 0, none⟩ = some (.pointer (some ⟨g, 0, none⟩)) := (cell_of_row _ _ _ _ _ _ H9.out.1).trans rfl
       have e9 := hw9.symm
       have hbyt := later_bytes HDK.out.bel HB.out
       have hii : (i : Int) = 1 := by have := HI0.out; omega
       have HCALL : Hid (Calls Tryz.prog 22 #[sv g, .agg #[(.slice ab nb cb), .slice aS ns cs], .int .i64 (i : Int)] w9 fun e w' => e = .returned (.tuple #[]) ∧ ∃ P, P = Inf.fixp (Lz.par B) ∧ Inf.putn P 0 ≤ 10000000 ∧ Iw wk wk w' g (Inf.putn P 0) (Inf.putv P 0 0) ∧ Kp g w9 w') := by
         rw [hii]
         refine (dfixed_any (Lz.par B) HOK.out (.slice ab nb cb) ⟨_, _, _, rfl⟩ aS ns cs wk wk w9 g HIW.out HDK.out.sm (by have := HNS.out; omega)).mono ?_
         rintro e w' ⟨h1, h2, h3⟩
         exact ⟨h1, _, rfl, by have := Inf.fixp_le (Lz.par B) HOK.out; have := Inf.txs_len (Lz.par B); have := HPL.out; omega, h2, h3⟩
       clear hw9 hx0 hiw hwr0 hbn hb9 hbk9 hk9 hr49 hbyt hii hg hwnsz
       go_wp2_with fail
       clear e9
       generalize wn.heap.size = X9 at *
       refine HCALL.out.mono ?_
       rintro e wc ⟨rfl, P, hP, hPl, g1, g2⟩
       have HD9 := Lib.hid (HDK.out.call (g1.bel.mono (Nat.le_refl _)))
       have h9c : wc.heap[X9]? = some (.cells #[.pointer (some ⟨g, 0, none⟩)] 50 (0, 0)) := g2.cells H9.out.1 H9.out.2 (by decide)
       have y9 : wc.cell? ⟨X9, 0, none⟩ = some (.pointer (some ⟨g, 0, none⟩)) := (cell_of_row _ _ _ _ _ _ h9c).trans rfl
       obtain ⟨v, hv⟩ := g1.wr
       have HV := Lib.hid hv
       have HP := Lib.hid hP
       have HPL2 := Lib.hid hPl
       have H9C := Lib.hid h9c
       obtain ⟨p, h6, hp0, hp1⟩ := HD9.out.r6
       have f6 : wc.frozen? ⟨T6, 0, none⟩ = false := frozen_of_row _ _ _ _ _ h6
       obtain ⟨gS, PS, vS, rfl, hvS, hqS⟩ := hp1 (by have := HI0.out; omega)
       have y6 : wc.cell? ⟨T6, 0, none⟩ = some (.pointer (some ⟨gS, 0, none⟩)) := (cell_of_row _ _ _ _ _ _ h6).trans rfl
       have HVS := Lib.hid hvS
       have H6 := Lib.hid h6
       have HQS : Hid (PS = Inf.bars 2 B) := by
         rcases hqS with ⟨q, e⟩ | ⟨q, e⟩ | ⟨q, -⟩
         · exact e
         · have := HI0.out; omega
         · have := HI0.out; omega
       have HQL := Lib.hid (hqS.le (by have := HNB.out; have := HL.out; omega))
       have HLEN1 : Hid (∀ wx, (∃ m, wx = wc.drewN m) → Calls Tryz.prog 25 #[.pointer (some ⟨g, 0, none⟩)] wx fun e w' => e = .returned (.int .i64 ((Inf.putn P 0 : Nat) : Int)) ∧ ∃ m, w' = wc.drewN m) := fun wx hw => by
         refine (wlen_any g _ _ v wx (HV.out.later ((show Drawn wc wx from hw).below _) (Nat.le_refl _)) (by have := HPL2.out; omega)).mono fun e w' h => ⟨h.1, ?_⟩
         obtain ⟨m, rfl⟩ := hw; obtain ⟨m', h'⟩ := h.2; exact ⟨_, by rw [h', World.drewN_drewN]⟩
       have HLEN2 : Hid (∀ wx, (∃ m, wx = wc.drewN m) → Calls Tryz.prog 25 #[.pointer (some ⟨gS, 0, none⟩)] wx fun e w' => e = .returned (.int .i64 ((Inf.putn PS 0 : Nat) : Int)) ∧ ∃ m, w' = wc.drewN m) := fun wx hw => by
         refine (wlen_any gS _ _ vS wx (HVS.out.later ((show Drawn wc wx from hw).below _) (Nat.le_refl _)) (by have := HQL.out; omega)).mono fun e w' h => ⟨h.1, ?_⟩
         obtain ⟨m, rfl⟩ := hw; obtain ⟨m', h'⟩ := h.2; exact ⟨_, by rw [h', World.drewN_drewN]⟩
       by_cases hlt : Inf.putn P 0 < Inf.putn PS 0
       · have HNX : Hid (∀ wx, Drawn wc wx → Ds w (wx.setCell ⟨T6, 0, none⟩ (.pointer (some ⟨g, 0, none⟩))) T4 T6 (.slice ab nb cb) aS ns cs B (i + 1)) := fun wx hd => (HD9.out.call (hd.below _)).next (HV.out.later (hd.below _) (Nat.le_refl _)) (.inr (.inl ⟨by have := HI0.out; omega, by rw [← HP.out, ← HQS.out, Inf.sht, if_pos hlt]⟩))
         have dl : decide (((Inf.putn P 0 : Nat) : Int) < ((Inf.putn PS 0 : Nat) : Int)) = true := decide_eq_true (by omega)
         have dl' : decide (Inf.putn P 0 < Inf.putn PS 0) = true := decide_eq_true hlt
         clear h6 hp0 hp1 g1 g2 hv hP hPl h9c HCALL HDK HIW H9 HK1 c0 c1 c2 c3 c4 hvS hqS hlt
         generalize Inf.putn P 0 = n1 at dl dl' HLEN1
         generalize Inf.putn PS 0 = n2 at dl dl' HLEN2
         go_wp2_with fail
         go_quiet (first | (go_at_call 25; with_reducible exact HLEN1.out _ ⟨_, rfl⟩) | (go_at_call 25; with_reducible exact HLEN2.out _ ⟨_, rfl⟩))
         go_wp2_with fail
         exact ⟨⟨i + 1, by have := HI3.out; omega, by go_num, HNX.out _ ⟨nq, rfl⟩⟩, by have := HI3.out; simp [intOf]; omega⟩
       · have HNX : Hid (∀ wx, Drawn wc wx → Ds w wx T4 T6 (.slice ab nb cb) aS ns cs B (i + 1)) := fun wx hd => (HD9.out.call (hd.below _)).stay ((hd.below wc.heap.size).block _ (Inf.lt_some H6.out) |>.trans H6.out) (HVS.out.later (hd.below _) (Nat.le_refl _)) (.inr (.inl ⟨by have := HI0.out; omega, by rw [← HP.out, ← HQS.out, Inf.sht, if_neg hlt]⟩))
         have dl : decide (((Inf.putn P 0 : Nat) : Int) < ((Inf.putn PS 0 : Nat) : Int)) = false := decide_eq_false (by omega)
         have dl' : decide (Inf.putn P 0 < Inf.putn PS 0) = false := decide_eq_false hlt
         clear h6 hp0 hp1 g1 g2 hv hP hPl h9c HCALL HDK HIW H9 HK1 c0 c1 c2 c3 c4 hvS hqS hlt
         generalize Inf.putn P 0 = n1 at dl dl' HLEN1
         generalize Inf.putn PS 0 = n2 at dl dl' HLEN2
         go_wp2_with fail
         go_quiet (first | (go_at_call 25; with_reducible exact HLEN1.out _ ⟨_, rfl⟩) | (go_at_call 25; with_reducible exact HLEN2.out _ ⟨_, rfl⟩))
         go_wp2_with fail
         exact ⟨⟨i + 1, by have := HI3.out; omega, by go_num, HNX.out _ ⟨nq, rfl⟩⟩, by have := HI3.out; simp [intOf]; omega⟩
     · have hx0 : ∀ wx, (Instr.index 53 (.agg #[.int .i64 0, .func (.func 21) #[] #[], .int .i64 1, .func (.func 22) #[] #[], .int .i64 2, .func (.func 23) #[] #[]]) (.int .i64 (i : Int))).run Tryz.prog wx = .ok (.agg #[.int .i64 (i : Int), .func (.func 23) #[] #[]]) wx := fun wx => by
         have := HIX.out i wx HI3.out
         rw [this, hi0]; rfl
       have HI0 := Lib.hid hi0
       clear hi0
       have HKN : Hid ((wr.alloc (.cells #[.int .i64 0, .nilFunc] 52)).heap[wr.heap.size]? = some (.cells #[.int .i64 0, .nilFunc] 52 (0, 0))) := heap_alloc_new _ _
       go_wp2_with (first | (refine wpList_store_row_any rfl 52 (.tmp 8) (.tmp 25) rfl wr.heap.size #[.int .i64 (i : Int), .func (.func 23) #[] #[]] rfl rfl 52 #[.int .i64 0, .nilFunc] HKN.out (by kernel_rfl) rfl (by kernel_rfl) ?_; intro wk hk gk))
       have hbk : Below wr.heap.size wr wk := ((Below.refl _ _).alloc (Nat.le_refl _) _).grown gk.out (by simp) (fun k hk => by cases hk; exact Nat.le_refl _)
       have HDK := Lib.hid (HS.out.call hbk)
       have HK1 := hk
       clear HKN gk hbk HS hk
       refine (wnew_any wk).mono ?_
       rintro e wn ⟨rfl, hwn⟩
       have hbn : Below wk.heap.size wk wn := by rw [hwn]; exact (Below.refl _ _).alloc (Nat.le_refl _) _
       have hwr0 : Wr wn wk.heap.size 0 0 (.slice none 0 0) := by rw [hwn]; exact ⟨heap_alloc_new _ _, ⟨rfl, .inl ⟨rfl, rfl⟩⟩, by decide⟩
       have hwnsz : wn.heap.size = wk.heap.size + 1 := by rw [hwn]; simp
       clear hwn
       obtain ⟨g, hg⟩ : ∃ g, g = wk.heap.size := ⟨_, rfl⟩
       rw [← hg] at hwr0 ⊢
       have hiw : Iw wk wk wn g 0 0 := ⟨hbn, by omega, ⟨_, hwr0⟩, Kp.below hbn⟩
       obtain ⟨w9, hw9⟩ : ∃ w9, w9 = wn.alloc (.cells #[.pointer (some ⟨g, 0, none⟩)] 50) := ⟨_, rfl⟩
       have hb9 : Below wn.heap.size wn w9 := by rw [hw9]; exact (Below.refl _ _).alloc (Nat.le_refl _) _
       have hbk9 : Below wk.heap.size wk w9 := hbn.trans (hb9.mono hbn.size)
       have HIW := Lib.hid (hiw.later hb9)
       have H9 : Hid (w9.heap[wn.heap.size]? = some (.cells #[.pointer (some ⟨g, 0, none⟩)] 50 (0, 0)) ∧ wn.heap.size ≠ g) := ⟨by rw [hw9]; exact heap_alloc_new _ _, by omega⟩
       have hk9 : w9.heap[wr.heap.size]? = _ := (hbk9.block _ (Inf.lt_some HK1.out)).trans HK1.out
       have hr49 : w9.heap[T4]? = _ := (hbk9.block _ (Inf.lt_some HDK.out.r4)).trans HDK.out.r4
       have c0 : w9.cell? ⟨wr.heap.size, 0, none⟩ = some (.int .i64 (i : Int)) := (cell_of_row _ _ _ _ _ _ hk9).trans rfl
       have c1 : w9.cell? ⟨wr.heap.size, 1, none⟩ = some (.func (.func 23) #[] #[]) := (cell_of_row _ _ _ _ _ _ hk9).trans rfl
       have c2 : w9.cell? ⟨T4, 0, none⟩ = some (.slice ab nb cb) := (cell_of_row _ _ _ _ _ _ hr49).trans rfl
       have c3 : w9.cell? ⟨T4, 1, none⟩ = some (.slice aS ns cs) := (cell_of_row _ _ _ _ _ _ hr49).trans rfl
       have c4 : w9.cell? ⟨wn.heap.size, 0, none⟩ = some (.pointer (some ⟨g, 0, none⟩)) := (cell_of_row _ _ _ _ _ _ H9.out.1).trans rfl
       have e9 := hw9.symm
       have hbyt := later_bytes HDK.out.bel HB.out
       have hii : (i : Int) = 2 := by have := HI0.out; omega
       have HCALL : Hid (Calls Tryz.prog 23 #[sv g, .agg #[(.slice ab nb cb), .slice aS ns cs], .int .i64 (i : Int)] w9 fun e w' => e = .returned (.tuple #[]) ∧ ∃ P, Inf.Own (Lz.par B) P ∧ Inf.putn P 0 ≤ 10000000 ∧ Iw wk wk w' g (Inf.putn P 0) (Inf.putv P 0 0) ∧ Kp g w9 w') := by
         rw [hii]
         exact down_any (Lz.par B) HOK.out (by have := HPL.out; omega) (.slice ab nb cb) ⟨_, _, _, rfl⟩ aS ns cs wk wk w9 g HIW.out (Nat.le_refl _) HDK.out.sm (HT.out.later HDK.out.bel (Nat.le_refl _))
       clear hw9 hx0 hiw hwr0 hbn hb9 hbk9 hk9 hr49 hbyt hii hg hwnsz
       go_wp2_with fail
       clear e9
       generalize wn.heap.size = X9 at *
       refine HCALL.out.mono ?_
       rintro e wc ⟨rfl, P, hP, hPl, g1, g2⟩
       have HD9 := Lib.hid (HDK.out.call (g1.bel.mono (Nat.le_refl _)))
       have h9c : wc.heap[X9]? = some (.cells #[.pointer (some ⟨g, 0, none⟩)] 50 (0, 0)) := g2.cells H9.out.1 H9.out.2 (by decide)
       have y9 : wc.cell? ⟨X9, 0, none⟩ = some (.pointer (some ⟨g, 0, none⟩)) := (cell_of_row _ _ _ _ _ _ h9c).trans rfl
       obtain ⟨v, hv⟩ := g1.wr
       have HV := Lib.hid hv
       have HP := Lib.hid hP
       have HPL2 := Lib.hid hPl
       have H9C := Lib.hid h9c
       obtain ⟨p, h6, hp0, hp1⟩ := HD9.out.r6
       have f6 : wc.frozen? ⟨T6, 0, none⟩ = false := frozen_of_row _ _ _ _ _ h6
       obtain ⟨gS, PS, vS, rfl, hvS, hqS⟩ := hp1 (by have := HI0.out; omega)
       have y6 : wc.cell? ⟨T6, 0, none⟩ = some (.pointer (some ⟨gS, 0, none⟩)) := (cell_of_row _ _ _ _ _ _ h6).trans rfl
       have HVS := Lib.hid hvS
       have H6 := Lib.hid h6
       have HQS : Hid (PS = Inf.sht (Inf.bars 2 B) (Inf.fixp (Lz.par B))) := by
         rcases hqS with ⟨q, e⟩ | ⟨q, e⟩ | ⟨q, -⟩
         · have := HI0.out; omega
         · exact e
         · have := HI0.out; omega
       have HQL := Lib.hid (hqS.le (by have := HNB.out; have := HL.out; omega))
       have HLEN1 : Hid (∀ wx, (∃ m, wx = wc.drewN m) → Calls Tryz.prog 25 #[.pointer (some ⟨g, 0, none⟩)] wx fun e w' => e = .returned (.int .i64 ((Inf.putn P 0 : Nat) : Int)) ∧ ∃ m, w' = wc.drewN m) := fun wx hw => by
         refine (wlen_any g _ _ v wx (HV.out.later ((show Drawn wc wx from hw).below _) (Nat.le_refl _)) (by have := HPL2.out; omega)).mono fun e w' h => ⟨h.1, ?_⟩
         obtain ⟨m, rfl⟩ := hw; obtain ⟨m', h'⟩ := h.2; exact ⟨_, by rw [h', World.drewN_drewN]⟩
       have HLEN2 : Hid (∀ wx, (∃ m, wx = wc.drewN m) → Calls Tryz.prog 25 #[.pointer (some ⟨gS, 0, none⟩)] wx fun e w' => e = .returned (.int .i64 ((Inf.putn PS 0 : Nat) : Int)) ∧ ∃ m, w' = wc.drewN m) := fun wx hw => by
         refine (wlen_any gS _ _ vS wx (HVS.out.later ((show Drawn wc wx from hw).below _) (Nat.le_refl _)) (by have := HQL.out; omega)).mono fun e w' h => ⟨h.1, ?_⟩
         obtain ⟨m, rfl⟩ := hw; obtain ⟨m', h'⟩ := h.2; exact ⟨_, by rw [h', World.drewN_drewN]⟩
       by_cases hlt : Inf.putn P 0 < Inf.putn PS 0
       · have HNX : Hid (∀ wx, Drawn wc wx → Ds w (wx.setCell ⟨T6, 0, none⟩ (.pointer (some ⟨g, 0, none⟩))) T4 T6 (.slice ab nb cb) aS ns cs B (i + 1)) := fun wx hd => (HD9.out.call (hd.below _)).next (HV.out.later (hd.below _) (Nat.le_refl _)) (.inr (.inr ⟨by have := HI0.out; omega, P, HP.out, by rw [← HQS.out, Inf.sht, if_pos hlt]⟩))
         have dl : decide (((Inf.putn P 0 : Nat) : Int) < ((Inf.putn PS 0 : Nat) : Int)) = true := decide_eq_true (by omega)
         have dl' : decide (Inf.putn P 0 < Inf.putn PS 0) = true := decide_eq_true hlt
         clear h6 hp0 hp1 g1 g2 hv hP hPl h9c HCALL HDK HIW H9 HK1 c0 c1 c2 c3 c4 hvS hqS hlt
         generalize Inf.putn P 0 = n1 at dl dl' HLEN1
         generalize Inf.putn PS 0 = n2 at dl dl' HLEN2
         go_wp2_with fail
         go_quiet (first | (go_at_call 25; with_reducible exact HLEN1.out _ ⟨_, rfl⟩) | (go_at_call 25; with_reducible exact HLEN2.out _ ⟨_, rfl⟩))
         go_wp2_with fail
         exact ⟨⟨i + 1, by have := HI3.out; omega, by go_num, HNX.out _ ⟨nq, rfl⟩⟩, by have := HI3.out; simp [intOf]; omega⟩
       · have HNX : Hid (∀ wx, Drawn wc wx → Ds w wx T4 T6 (.slice ab nb cb) aS ns cs B (i + 1)) := fun wx hd => (HD9.out.call (hd.below _)).stay ((hd.below wc.heap.size).block _ (Inf.lt_some H6.out) |>.trans H6.out) (HVS.out.later (hd.below _) (Nat.le_refl _)) (.inr (.inr ⟨by have := HI0.out; omega, P, HP.out, by rw [← HQS.out, Inf.sht, if_neg hlt]⟩))
         have dl : decide (((Inf.putn P 0 : Nat) : Int) < ((Inf.putn PS 0 : Nat) : Int)) = false := decide_eq_false (by omega)
         have dl' : decide (Inf.putn P 0 < Inf.putn PS 0) = false := decide_eq_false hlt
         clear h6 hp0 hp1 g1 g2 hv hP hPl h9c HCALL HDK HIW H9 HK1 c0 c1 c2 c3 c4 hvS hqS hlt
         generalize Inf.putn P 0 = n1 at dl dl' HLEN1
         generalize Inf.putn PS 0 = n2 at dl dl' HLEN2
         go_wp2_with fail
         go_quiet (first | (go_at_call 25; with_reducible exact HLEN1.out _ ⟨_, rfl⟩) | (go_at_call 25; with_reducible exact HLEN2.out _ ⟨_, rfl⟩))
         go_wp2_with fail
         exact ⟨⟨i + 1, by have := HI3.out; omega, by go_num, HNX.out _ ⟨nq, rfl⟩⟩, by have := HI3.out; simp [intOf]; omega⟩
   · have e : i = 3 := by omega
     subst e
     have d1 : decide (((3 : Nat) : Int) < 3) = false := rfl
     obtain ⟨p, h6, -, hp1⟩ := HS.out.r6
     obtain ⟨g, P, v, rfl, hv, hq⟩ := hp1 (by omega)
     have y6 : wr.cell? ⟨T6, 0, none⟩ = some (.pointer (some ⟨g, 0, none⟩)) := (cell_of_row _ _ _ _ _ _ h6).trans rfl
     have HWB := Lib.hid (wbytes_any g _ _ v wr hv (by have := hq.le (by have := HNB.out; have := HL.out; omega); omega))
     have HQ := Lib.hid hq
     clear hi hlt h6 hp1 hv hq
     go_wp2_with fail
     refine HWB.out.mono ?_
     rintro e wf ⟨rfl, g1, g2⟩
     have G1 := Lib.hid g1
     have G2 : Hid (Below w.heap.size w wf) := HS.out.bel.trans (g2.mono HS.out.bel.size)
     have HLOW : Hid (w.heap.size ≤ wr.heap.size) := HS.out.bel.size
     clear g1 g2 HWB y6 HS
     go_wp2_with fail
     go_ret2
     exact ⟨G2.out, _, _, _, _, HQ.out.dfl, rfl, HLOW.out, G1.out, rfl⟩
end Go.Proofs.YtenkkononchgmaaGreatDoor
