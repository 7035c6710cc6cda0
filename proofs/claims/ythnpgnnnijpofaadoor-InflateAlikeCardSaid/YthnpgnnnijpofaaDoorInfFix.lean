/- The walk of the program's fixedCodes. -/
import Derived.Test.YthnpgnnnijpofaaDoorInfCat
import Derived.Test.YthnpgnnnijpofaaDoorInfTwo
namespace Go.Proofs.YthnpgnnnijpofaaDoor
open Go.RowKit Go

theorem Inf.mk_fixl : Inf.Mk Inf.fixl := ⟨⟨Nat.le_of_ble_eq_true (by kernel_rfl), of_decide_eq_true (by kernel_rfl)⟩, by kernel_rfl⟩
theorem Inf.mk_fixd : Inf.Mk Inf.fixd := ⟨⟨Nat.le_of_ble_eq_true (by kernel_rfl), of_decide_eq_true (by kernel_rfl)⟩, by kernel_rfl⟩
/-- kind 1's rows -/
def Inf.fN (i : Nat) : Nat := match i with | 0 => 144 | 1 => 112 | 2 => 24 | _ => 8
def Inf.fC (i : Nat) : Nat := match i with | 0 => 8 | 1 => 9 | 2 => 7 | _ => 8
theorem Inf.fix_cat : Inf.cat Inf.fN Inf.fC 4 = Inf.fixl := by kernel_rfl
def FcO (w0 w : World) (g r L V p : Nat) (T : List Int) (vt : Value) (M : Nat) (e : Ending) (w' : World) : Prop :=
  ∃ a b, e = .returned (.agg #[.pointer (some ⟨a, 0, none⟩), .pointer (some ⟨b, 0, none⟩)]) ∧ Dcl w' Inf.fixl a ∧ Dcl w' Inf.fixd b ∧ Sx w0 w' g r L V p T vt M (.pointer (some ⟨a, 0, none⟩)) (.pointer (some ⟨b, 0, none⟩)) ∧ Ks w w'
theorem Two.ret1 {w : World} {G : Nat} {a b : Option Addr} {tmps : Array Value} (h : Two w G a b) (h1 : tmps.getD 2 undef = .pointer (some ⟨G, 0, none⟩)) :
    (results Tryd.f58 tmps).run Tryd.prog w = .ok (.agg #[.pointer a, .pointer b]) w :=
  results_cell_row (p := 2) (ty := 58) rfl _ _ G 58 _ (0, 0) _ h1 h Tryd.underlying58 rfl (by kernel_rfl)
/-- the codes are kept -/
theorem Sx.keep {w0 w : World} {g r L V p : Nat} {T : List Int} {vt : Value} {M : Nat} {fl fd : Value} (h : Sx w0 w g r L V p T vt M fl fd) (x y : Value) : Sx w0 ((w.setCell ⟨g, 3, none⟩ x).setCell ⟨g, 4, none⟩ y) g r L V p T vt M x y ∧ Ks w ((w.setCell ⟨g, 3, none⟩ x).setCell ⟨g, 4, none⟩ y) := by
  have h1 : (w.setCell ⟨g, 3, none⟩ x).heap[g]? = some (.cells #[.pointer (some ⟨r, 0, none⟩), vt, .int .i64 (M : Nat), x, fd] 60 (0, 0)) := (heap_setCell_same _ _ _ _ _ _ h.row).trans rfl
  have ne : ∀ (k : Nat) (c : Array Value) (t : TypeId) (f : Nat × Nat), w.heap[k]? = some (.cells c t f) → t ≠ 60 → ((w.setCell ⟨g, 3, none⟩ x).setCell ⟨g, 4, none⟩ y).heap[k]? = w.heap[k]? := fun k c t f h1 h2 =>
    (heap_setCell_other _ _ _ _ (Inf.ne_ty h1 h.row h2)).trans (heap_setCell_other _ _ _ _ (Inf.ne_ty h1 h.row h2))
  refine ⟨⟨(h.bel.setCell h.lo _).setCell h.lo _, h.tab, h.lo, h.rlo, (heap_setCell_same _ _ _ _ _ _ h1).trans rfl, h.rd.keep (ne _ _ _ _ h.rd.row (by decide)) (ne _ _ _ _ h.rd.byt (by decide)), ?_⟩, (Ks.set h.row rfl _ _).trans (Ks.set h1 rfl _ _)⟩
  refine Inf.own_other h.txt fun k hk => ?_
  obtain ⟨_, _, hc⟩ := Inf.own_type h.txt hk
  exact ne _ _ _ _ hc (by decide)
theorem new_one (x : List Nat) (hm : Inf.Mk x) (a : Option Addr) (n cap : Nat) (hx : n = x.length) (w : World) (hI : Ints w a n cap (Inf.lf x)) (hn : n ≤ 1000) :
    Calls Tryd.prog 101 #[.slice a n cap] w fun e w' => ∃ D, e = .returned (.pointer (some ⟨D, 0, none⟩)) ∧ Below w.heap.size w w' ∧ Dcl w' x D :=
  (new_any a n cap (Inf.lf x) w hI (by omega)).mono fun e w' ⟨h1, h2⟩ => by
    subst hx
    rcases h2 with ⟨h2, D, h3, h4⟩ | ⟨h2, h3⟩
    · exact ⟨_, h4, h1, h3.dcr⟩
    · exact absurd hm h2

set_option maxRecDepth 100000 in
set_option maxHeartbeats 4000000 in
theorem fixedCodes_any (w0 w : World) (g r L V p : Nat) (T : List Int) (vt : Value) (M : Nat) (fl fd : Value) (h : Sx w0 w g r L V p T vt M fl fd) (hf : Fx w fl fd) :
    Calls Tryd.prog 58 #[.pointer (some ⟨g, 0, none⟩)] w fun e w' => FcO w0 w g r L V p T vt M e w' := by
  have hb : Below w.heap.size w (w.alloc (.cells #[.pointer none, .pointer none] 58)) := (Below.refl _ _).alloc (Nat.le_refl _) _
  have HS0 : Hid (Sx w0 (w.alloc (.cells #[.pointer none, .pointer none] 58)) g r L V p T vt M fl fd) := h.later hb
  have HK0 : Hid (Ks w (w.alloc (.cells #[.pointer none, .pointer none] 58))) := Ks.below hb
  have HT0 : Hid (Two (w.alloc (.cells #[.pointer none, .pointer none] 58)) w.heap.size none none) := heap_alloc_new _ _
  have HLO : Hid (w0.heap.size ≤ w.heap.size) := h.bel.size
  have c3 := HS0.out.c3
  rcases hf with ⟨rfl, rfl⟩ | ⟨a, b, rfl, rfl, ha, hb'⟩
  · clear h hb
    go_enter Tryd.func58, Tryd.ntmps58
    go_wp2_with fail
    generalize w.alloc (.cells #[.pointer none, .pointer none] 58) = wa at *
    obtain ⟨G, hG⟩ : ∃ G, G = w.heap.size := ⟨_, rfl⟩
    rw [← hG] at HT0 HLO ⊢
    have HGW : Hid (w.heap.size ≤ G) := by unfold Hid; omega
    clear hG
    have HE := fun (c n : Nat) (h1 : 1 ≤ n) (h2 : n ≤ 1000) => Lib.hid (fun wx : World => equal_any (c : Int) n wx h1 (by omega))
    have E1 := HE 8 144 (by omega) (by omega)
    have E2 := HE 9 112 (by omega) (by omega)
    have E3 := HE 7 24 (by omega) (by omega)
    have E4 := HE 8 8 (by omega) (by omega)
    have E5 := HE 5 32 (by omega) (by omega)
    clear HE c3
    refine (E1.out _).mono ?_
    rintro e w1 ⟨h1, G1, h2, h3, rfl⟩
    have B1 := Lib.hid h1
    have R1 := Lib.hid h3
    clear h1 h2 h3 E1
    go_wp2_with fail
    refine (E2.out _).mono ?_
    rintro e w2 ⟨h1, G2, h2, h3, rfl⟩
    have B2 : Hid (Below wa.heap.size wa w2) := B1.out.trans (h1.mono B1.out.size)
    have R2 := Lib.hid h3
    have R1' : Hid _ := (h1.block _ (Inf.lt_some R1.out)).trans R1.out
    clear h1 h2 h3 E2 B1 R1
    go_wp2_with fail
    refine (E3.out _).mono ?_
    rintro e w3 ⟨h1, G3, h2, h3, rfl⟩
    have B3 : Hid (Below wa.heap.size wa w3) := B2.out.trans (h1.mono B2.out.size)
    have R3 := Lib.hid h3
    have R1 : Hid _ := (h1.block _ (Inf.lt_some R1'.out)).trans R1'.out
    have R2' : Hid _ := (h1.block _ (Inf.lt_some R2.out)).trans R2.out
    clear h1 h2 h3 E3 B2 R1' R2
    go_wp2_with fail
    refine (E4.out _).mono ?_
    rintro e w4 ⟨h1, G4, h2, h3, rfl⟩
    have B4 : Hid (Below wa.heap.size wa w4) := B3.out.trans (h1.mono B3.out.size)
    have R4 := Lib.hid h3
    have R1' : Hid _ := (h1.block _ (Inf.lt_some R1.out)).trans R1.out
    have R2 : Hid _ := (h1.block _ (Inf.lt_some R2'.out)).trans R2'.out
    have R3' : Hid _ := (h1.block _ (Inf.lt_some R3.out)).trans R3.out
    clear h1 h2 h3 E4 B3 R1 R2' R3
    have HH := heap_alloc_new w4 (.cells #[.slice (some ⟨G1, 0, none⟩) 144 144, .slice (some ⟨G2, 0, none⟩) 112 112, .slice (some ⟨G3, 0, none⟩) 24 24, .slice (some ⟨G4, 0, none⟩) 8 8] 42)
    have HCC : Hid (Calls Tryd.prog 99 #[.slice (some ⟨w4.heap.size, 0, none⟩) 4 4] (w4.alloc (.cells #[.slice (some ⟨G1, 0, none⟩) 144 144, .slice (some ⟨G2, 0, none⟩) 112 112, .slice (some ⟨G3, 0, none⟩) 24 24, .slice (some ⟨G4, 0, none⟩) 8 8] 42)) fun e w' => ∃ v, e = .returned v ∧ w'.ownsRow (w4.heap.size + 1) 3 1 v 288 (nv Inf.fixl) ∧ Below (w4.heap.size + 1) (w4.alloc (.cells #[.slice (some ⟨G1, 0, none⟩) 144 144, .slice (some ⟨G2, 0, none⟩) 112 112, .slice (some ⟨G3, 0, none⟩) 24 24, .slice (some ⟨G4, 0, none⟩) 8 8] 42)) w') := by
      have := concat_any w4.heap.size 4 Inf.fN Inf.fC (fun i => match i with | 0 => G1 | 1 => G2 | 2 => G3 | _ => G4) (w4.alloc (.cells #[.slice (some ⟨G1, 0, none⟩) 144 144, .slice (some ⟨G2, 0, none⟩) 112 112, .slice (some ⟨G3, 0, none⟩) 24 24, .slice (some ⟨G4, 0, none⟩) 8 8] 42)) (by omega) (by decide) (by decide) (by simp)
        (fun i hi => by
          rw [cell_of_row _ _ _ _ _ _ HH]
          rcases (by omega : i = 0 ∨ i = 1 ∨ i = 2 ∨ i = 3) with rfl | rfl | rfl | rfl <;> rfl)
        (fun i hi => by
          rcases (by omega : i = 0 ∨ i = 1 ∨ i = 2 ∨ i = 3) with rfl | rfl | rfl | rfl
          · exact (heap_alloc_old _ _ (Inf.lt_some R1'.out)).trans R1'.out
          · exact (heap_alloc_old _ _ (Inf.lt_some R2.out)).trans R2.out
          · exact (heap_alloc_old _ _ (Inf.lt_some R3'.out)).trans R3'.out
          · exact (heap_alloc_old _ _ (Inf.lt_some R4.out)).trans R4.out)
      rw [show (w4.alloc (.cells #[.slice (some ⟨G1, 0, none⟩) 144 144, .slice (some ⟨G2, 0, none⟩) 112 112, .slice (some ⟨G3, 0, none⟩) 24 24, .slice (some ⟨G4, 0, none⟩) 8 8] 42)).heap.size = w4.heap.size + 1 by simp, Inf.fix_cat] at this
      exact this
    have BA : Hid (Below wa.heap.size wa (w4.alloc (.cells #[.slice (some ⟨G1, 0, none⟩) 144 144, .slice (some ⟨G2, 0, none⟩) 112 112, .slice (some ⟨G3, 0, none⟩) 24 24, .slice (some ⟨G4, 0, none⟩) 8 8] 42))) := B4.out.alloc B4.out.size _
    clear HH R1' R2 R3' R4
    go_wp2_with fail
    refine HCC.out.mono ?_
    rintro e w5 ⟨v, rfl, h1, h2⟩
    have B5 : Hid (Below wa.heap.size wa w5) := BA.out.trans (h2.mono (by have := B4.out.size; omega))
    obtain ⟨av, cv, rfl, -, hI⟩ := Inf.own_nv h1 (by kernel_rfl)
    have HN1 := Lib.hid (new_one Inf.fixl Inf.mk_fixl av 288 cv (by kernel_rfl) w5 hI (by omega))
    clear h1 h2 hI HCC BA B4
    go_wp2_with fail
    refine HN1.out.mono ?_
    rintro e w6 ⟨D1, rfl, h1, h2⟩
    have B6 : Hid (Below wa.heap.size wa w6) := B5.out.trans (h1.mono B5.out.size)
    have Q1 := Lib.hid h2
    clear h1 h2 HN1 B5
    go_wp2_with fail
    refine (E5.out _).mono ?_
    rintro e w7 ⟨h1, G5, h2, h3, rfl⟩
    have B7 : Hid (Below wa.heap.size wa w7) := B6.out.trans (h1.mono B6.out.size)
    have Q2 := Lib.hid (Q1.out.ks (Ks.below h1))
    have HN2 := Lib.hid (new_one Inf.fixd Inf.mk_fixd (some ⟨G5, 0, none⟩) 32 32 (by kernel_rfl) w7 (by
      have e : (fun _ => 5 : Nat → Int) = fun t => if t < 32 then Inf.lf Inf.fixd t else 5 := by
        funext t
        by_cases ht : t < 32
        · rw [if_pos ht]
          simp only [Inf.lf, Inf.fixd, List.getD_eq_getElem?_getD, List.getElem?_replicate, if_pos ht]
          rfl
        · rw [if_neg ht]
      have h4 := ki_ints h3
      exact ⟨h4.le, fun hn => by
        obtain ⟨s, o, q1, q2, q3⟩ := h4.ad hn
        refine ⟨s, o, q1, q2, fun j hj => ?_⟩
        rw [q3 j hj]
        have := congrFun e j
        rw [if_pos hj] at this
        rw [← this]
        rfl⟩) (by omega))
    clear h1 h2 h3 E5 B6 Q1
    go_wp2_with fail
    refine HN2.out.mono ?_
    rintro e w8 ⟨D2, rfl, h1, h2⟩
    have B8 : Hid (Below wa.heap.size wa w8) := B7.out.trans (h1.mono B7.out.size)
    have P1 := Lib.hid (Q2.out.ks (Ks.below h1))
    have P2 := Lib.hid h2
    have S8 := Lib.hid (HS0.out.later B8.out)
    have T8 := Lib.hid (HT0.out.ks (Ks.below B8.out))
    have K8 := Lib.hid (HK0.out.trans (Ks.below B8.out))
    clear h1 h2 HN2 B7 Q2 B8 HS0 HT0 HK0
    have S9 := Lib.hid (S8.out.keep (.pointer (some ⟨D1, 0, none⟩)) (.pointer (some ⟨D2, 0, none⟩)))
    have c0 := S8.out.c3
    have c1 := S8.out.c4
    have f0 := S8.out.fr
    have c3 := S9.out.1.c3
    have c4 := S9.out.1.c4
    have TS := Lib.hid (T8.out.ks S9.out.2)
    have d0 := TS.out.c0
    have d1 := TS.out.c1
    have d2 := TS.out.fr
    have P1' := Lib.hid ((P1.out.ks S9.out.2).two (a' := some ⟨D1, 0, none⟩) (b' := some ⟨D2, 0, none⟩) TS.out)
    have P2' := Lib.hid ((P2.out.ks S9.out.2).two (a' := some ⟨D1, 0, none⟩) (b' := some ⟨D2, 0, none⟩) TS.out)
    have SF := Lib.hid (S9.out.1.setT (a' := some ⟨D1, 0, none⟩) (b' := some ⟨D2, 0, none⟩) TS.out HLO.out rfl rfl)
    have KF := Lib.hid (((K8.out.trans S9.out.2).setI HGW.out 0 (.pointer (some ⟨D1, 0, none⟩))).setI HGW.out 1 (.pointer (some ⟨D2, 0, none⟩)))
    have TF := Lib.hid (TS.out.set (some ⟨D1, 0, none⟩) (some ⟨D2, 0, none⟩))
    clear T8 K8 S8 P1 P2 S9 TS
    go_wp2_with fail
    exact bodyPost_ret (TF.out.ret1 rfl) rfl ⟨D1, D2, rfl, P1'.out, P2'.out, SF.out, KF.out⟩
  · have hb2 : Below w.heap.size w (w.alloc (.cells #[.pointer (some ⟨a, 0, none⟩), .pointer (some ⟨b, 0, none⟩)] 58)) := (Below.refl _ _).alloc (Nat.le_refl _) _
    have P1' := Lib.hid (ha.ks (Ks.below hb2))
    have P2' := Lib.hid (hb'.ks (Ks.below hb2))
    have SF := Lib.hid (h.later hb2)
    have KF := Lib.hid (Ks.below hb2)
    have TF : Hid (Two (w.alloc (.cells #[.pointer (some ⟨a, 0, none⟩), .pointer (some ⟨b, 0, none⟩)] 58)) w.heap.size (some ⟨a, 0, none⟩) (some ⟨b, 0, none⟩)) := heap_alloc_new _ _
    have c4 := HS0.out.c4
    clear h hb ha hb' hb2 HT0 HK0 HS0
    go_enter Tryd.func58, Tryd.ntmps58
    go_wp2_with fail
    exact bodyPost_ret (TF.out.ret1 rfl) rfl ⟨a, b, rfl, P1'.out, P2'.out, SF.out, KF.out⟩
end Go.Proofs.YthnpgnnnijpofaaDoor
