/- Laid together: InfFix. -/
import Derived.Lib.AppendZeros
import Derived.Test.YtenkkononchgmaaGreatDoorDkB11

namespace Go.Proofs.YtenkkononchgmaaGreatDoor
open Go.RowKit Go

set_option maxRecDepth 100000 in
set_option maxHeartbeats 2000000 in
theorem grow_any (n : Nat) (w : World) (hn : 1 ≤ n) (hn6 : n ≤ 100000) :
   Calls Tryz.prog 90 #[.slice none 0 0, .int .i64 (n : Int)] w fun e w' => ∃ v, e = .returned v ∧ w'.ownsRow w.heap.size 3 1 v 0 [] ∧ Below w.heap.size w w' := by
 obtain ⟨i0, hi, hz0, hz1, hz2⟩ := info_parts infoInt
 have hr := fun ty => Lib.run_append_nil_zeros (P := Tryz.prog) w 97 3 ty 3 i0 _ .i64 .i64 (by kernel_rfl) (by kernel_rfl) hi hz0 n (by omega) (by rw [hz1]; omega) (by omega) (by rw [hz2]; omega)
 have hge := grownCap_ge w n 0 3
 have hcm := grownCap_le_maxLen w n 0 3 (by simp only [maxLen]; omega)
 have hsl := Inf.ints_to none 0 0 0 (Nat.le_refl _)
 generalize grownCap w n 0 3 = gc at *
 have HO : Hid ((w.drew.alloc (.cells (Builtin.zeroCells (Value.int .i64 0).cells n ++ Builtin.zeroCells (Value.int .i64 0).cells (gc - n)) 3)).ownsRow w.heap.size 3 1 (.slice (some ⟨w.heap.size, 0, none⟩) 0 gc) 0 []) := by
   refine ⟨rfl, .inr ⟨w.heap.size, gc, _, rfl, Nat.le_refl _, heap_alloc_new w.drew _, Nat.zero_le _, hcm, ?_, by simp⟩⟩
   simp only [Array.size_append, size_zeroCells]
   show n * 1 + (gc - n) * 1 = gc * 1
   omega
 have HB : Hid (Below w.heap.size w (w.drew.alloc (.cells (Builtin.zeroCells (Value.int .i64 0).cells n ++ Builtin.zeroCells (Value.int .i64 0).cells (gc - n)) 3))) := (Below.refl _ _).drew.alloc (Nat.le_refl _) _
 obtain ⟨wz, hwz⟩ : ∃ wz, wz = w.drew.alloc (.cells (Builtin.zeroCells (Value.int .i64 0).cells n ++ Builtin.zeroCells (Value.int .i64 0).cells (gc - n)) 3) := ⟨_, rfl⟩
 rw [← hwz] at hr HO HB
 have hs2 := Inf.ints_to (some ⟨w.heap.size, 0, none⟩) n gc 0 (Nat.zero_le _)
 have hd0 : decide ((n : Int) < 0) = false := decide_eq_false (by omega)
 have hd1 : decide (0 < (n : Int)) = true := decide_eq_true (by omega)
 have hd2 : decide (0 < n) = true := decide_eq_true (by omega)
 have hnI : (n : Int) ≤ 100000 := by omega
 clear hwz hge hcm hn hn6 hi hz0 hz1 hz2
 go_enter Tryz.func90, Tryz.ntmps90
 go_wp2_with (first | (at_builtin; refine Lib.wpList_append_run _ rfl _ _ _ _ rfl _ _ rfl rfl _ _ (hr _) ?_))
 go_ret
 exact ⟨_, rfl, HO.out, HB.out⟩

def Inf.cat (N C : Nat → Nat) : Nat → List Nat
 | 0 => []
 | i + 1 => Inf.cat N C i ++ List.replicate (N i) (C i)
def Inf.sm (N : Nat → Nat) : Nat → Nat
 | 0 => 0
 | i + 1 => Inf.sm N i + N i
theorem Inf.sm_up (N : Nat → Nat) (k : Nat) : ∀ d, Inf.sm N k ≤ Inf.sm N (k + d)
 | 0 => Nat.le_refl _
 | d + 1 => Nat.le_trans (Inf.sm_up N k d) (Nat.le_add_right _ _)
theorem Inf.sm_le (N : Nat → Nat) {i k : Nat} (h : i < k) : Inf.sm N i + N i ≤ Inf.sm N k := by
 have := Inf.sm_up N (i + 1) (k - (i + 1))
 rwa [show i + 1 + (k - (i + 1)) = k by omega] at this

set_option maxRecDepth 100000 in
set_option maxHeartbeats 4000000 in
theorem concat_any (H k : Nat) (N C G : Nat → Nat) (w : World) (hk : k ≤ 100) (hs1 : 1 ≤ Inf.sm N k) (hs : Inf.sm N k ≤ 1000) (hH : H < w.heap.size)
   (hc : ∀ i, i < k → w.cell? ⟨H, i, none⟩ = some (.slice (some ⟨G i, 0, none⟩) (N i) (N i))) (hG : ∀ i, i < k → w.heap[G i]? = some (.cells (ki (N i) fun _ => (C i : Int)) 3 (0, 0))) :
   Calls Tryz.prog 43 #[.slice (some ⟨H, 0, none⟩) k k] w fun e w' => ∃ v, e = .returned v ∧ w'.ownsRow w.heap.size 3 1 v (Inf.sm N k) (nv (Inf.cat N C k)) ∧ Below w.heap.size w w' := by
 have HC := Lib.hid hc
 have HG := Lib.hid hG
 have HGR := Lib.hid (fun wx => grow_any (Inf.sm N k) wx hs1 (by omega))
 have HK := Lib.hid hk
 have HS := Lib.hid hs
 have HH := Lib.hid hH
 have hkI : (k : Int) ≤ 100 := by omega
 clear hc hG hk hs1 hs hH
 go_enter Tryz.func43, Tryz.ntmps43
 go_wp2_with fail
 go_loopw [3, 11] (fun v3 v11 wr => ∃ i : Nat, i ≤ k ∧ v11 = .int .i64 (i : Int) ∧ v3 = .int .i64 ((Inf.sm N i : Nat) : Int) ∧ wr = w) (fun _ v11 _ => (k - intOf v11).toNat)
 case atStart => exact ⟨0, by omega, rfl, rfl, rfl⟩
 case round =>
   obtain ⟨i, hi, rfl, rfl, hw⟩ := hrel
   subst wr
   by_cases hlt : i < k
   · have hd1 : decide (i < k) = true := decide_eq_true hlt
     have hd2 : decide ((i : Int) < (k : Int)) = true := decide_eq_true (by omega)
     have hle := Inf.sm_le N hlt
     have hS := HS.out
     have c1 := HC.out i hlt
     obtain ⟨m, hm⟩ : ∃ m, m = N i := ⟨_, rfl⟩
     obtain ⟨a, ha⟩ : ∃ a, a = Inf.sm N i := ⟨_, rfl⟩
     obtain ⟨b, hb⟩ : ∃ b, b = Inf.sm N (i + 1) := ⟨_, rfl⟩
     have hab : a + m = b := by rw [ha, hm, hb, Inf.sm]
     have habI : (a : Int) + (m : Int) = (b : Int) := by omega
     have hb6 : b ≤ 1000 := by rw [hb, Inf.sm]; omega
     have hbI : (b : Int) ≤ 1000 := by omega
     have haI : (a : Int) ≤ 1000 := by omega
     have hmI : (m : Int) ≤ 1000 := by omega
     have hb0 : decide ((b : Int) < 0) = false := decide_eq_false (by omega)
     rw [← hm] at c1
     rw [← ha]
     have HLT := Lib.hid hlt
     have HB := Lib.hid hb
     have hikI : (i : Int) < (k : Int) := by omega
     clear hm ha hb hab hb6 hle hS hlt
     go_wp2
     exact ⟨⟨i + 1, by have := HLT.out; omega, by go_num, by rw [← HB.out], trivial⟩, by have := HLT.out; simp [intOf]; omega⟩
   · obtain rfl : i = k := by omega
     have hd1 : decide (i < i) = false := decide_eq_false (by omega)
     have hd2 : decide ((i : Int) < (i : Int)) = false := decide_eq_false (by omega)
     clear hlt hi
     go_wp2_with fail
     refine (HGR.out _).mono ?_
     rintro e w1 ⟨v, rfl, h1, h2⟩
     obtain ⟨av, cv, rfl⟩ := own_form h1
     have HO := Lib.hid h1
     have HB := Lib.hid h2
     clear h1 h2 HGR
     go_wp2_with fail
     go_loopw [6, 27] (fun v6 v27 wr => ∃ (j z : Nat) (ad : Option Addr) (cp : Nat), j ≤ i ∧ v27 = .int .i64 (j : Int) ∧ v6 = .slice ad z cp ∧ z = Inf.sm N j ∧ wr.ownsRow w.heap.size 3 1 (.slice ad z cp) z (nv (Inf.cat N C j)) ∧ Below w.heap.size w wr) (fun _ v27 _ => (i - intOf v27).toNat)
     case atStart => exact ⟨0, 0, av, cv, by omega, rfl, rfl, rfl, HO.out, HB.out⟩
     case round =>
       clear HO HB
       obtain ⟨j, z, ad, cp, hj, rfl, rfl, hz, ho, hb⟩ := hrel
       have HO := Lib.hid ho
       have HB := Lib.hid hb
       have HZ := Lib.hid hz
       clear ho hb
       by_cases hlt : j < i
       · have hd3 : decide (j < i) = true := decide_eq_true hlt
         have hd4 : decide ((j : Int) < (i : Int)) = true := decide_eq_true (by omega)
         have c1 : wr.cell? ⟨H, j, none⟩ = some (.slice (some ⟨G j, 0, none⟩) (N j) (N j)) := (HB.out.cell (by exact HH.out)).trans (HC.out j hlt)
         have HGJ : Hid (wr.heap[G j]? = some (.cells (ki (N j) fun _ => (C j : Int)) 3 (0, 0))) := (HB.out.block _ (Inf.lt_some (HG.out j hlt))).trans (HG.out j hlt)
         have hle := Inf.sm_le N hlt
         have hS := HS.out
         obtain ⟨m, hm⟩ : ∃ m, m = N j := ⟨_, rfl⟩
         obtain ⟨gj, hgj⟩ : ∃ gj, gj = G j := ⟨_, rfl⟩
         have HCAT : Hid (Inf.cat N C (j + 1) = Inf.cat N C j ++ List.replicate m (C j) ∧ Inf.sm N (j + 1) = z + m) := by rw [Inf.cat, Inf.sm, hm, hz]; exact ⟨rfl, rfl⟩
         have hzm : z + m ≤ 1000000 := by omega
         rw [← hm, ← hgj] at c1 HGJ
         have HLT := Lib.hid hlt
         have hjI : (j : Int) < (i : Int) := by omega
         have hown := HO.out
         have HSZ : Hid (w.heap.size ≤ wr.heap.size) := HB.out.size
         clear hm hgj hle hS hlt hz
         go_wp2_with (first | (at_builtin; refine wpList_append_rep rfl (.tmp 31) (.tmp 32) rfl w.heap.size _ z (nv (Inf.cat N C j)) rfl hown gj m (C j : Int) rfl HGJ.out hzm HSZ.out ?_; intro v' w8 ho8 hg8; obtain ⟨a8, c8, rfl⟩ := own_form ho8.out))
         refine ⟨⟨j + 1, z + m, a8, c8, by have := HLT.out; omega, by go_num, rfl, HCAT.out.2.symm, ?_, HB.out.grown hg8.out HB.out.size (fun k hk => (Inf.own_type HO.out hk).1)⟩, by have := HLT.out; simp [intOf]; omega⟩
         rw [HCAT.out.1, nv_rep]
         exact ho8.out
       · obtain rfl : j = i := by omega
         have hd3 : decide (j < j) = false := decide_eq_false (by omega)
         have hd4 : decide ((j : Int) < (j : Int)) = false := decide_eq_false (by omega)
         subst hz
         go_wp2
         go_ret
         exact ⟨_, rfl, HO.out, HB.out⟩
end Go.Proofs.YtenkkononchgmaaGreatDoor

/- The walk of the program's fixedCodes. -/
namespace Go.Proofs.YtenkkononchgmaaGreatDoor
open Go.RowKit Go

theorem Inf.mk_fixl : Inf.Mk Inf.fixl := ⟨⟨Nat.le_of_ble_eq_true (by kernel_rfl), of_decide_eq_true (by kernel_rfl)⟩, by kernel_rfl⟩
theorem Inf.mk_fixd : Inf.Mk Inf.fixd := ⟨⟨Nat.le_of_ble_eq_true (by kernel_rfl), of_decide_eq_true (by kernel_rfl)⟩, by kernel_rfl⟩
def Inf.fN (i : Nat) : Nat := match i with | 0 => 144 | 1 => 112 | 2 => 24 | _ => 8
def Inf.fC (i : Nat) : Nat := match i with | 0 => 8 | 1 => 9 | 2 => 7 | _ => 8
theorem Inf.fix_cat : Inf.cat Inf.fN Inf.fC 4 = Inf.fixl := by kernel_rfl
def FcO (w0 w : World) (g r L V p : Nat) (T : List Int) (vt : Value) (M : Nat) (e : Ending) (w' : World) : Prop :=
 ∃ a b, e = .returned (.agg #[.pointer (some ⟨a, 0, none⟩), .pointer (some ⟨b, 0, none⟩)]) ∧ Dcl w' Inf.fixl a ∧ Dcl w' Inf.fixd b ∧ Sx w0 w' g r L V p T vt M (.pointer (some ⟨a, 0, none⟩)) (.pointer (some ⟨b, 0, none⟩)) ∧ Ks w w'
theorem Two.ret1 {w : World} {G : Nat} {a b : Option Addr} {tmps : Array Value} (h : Two w G a b) (h1 : tmps.getD 2 undef = .pointer (some ⟨G, 0, none⟩)) :
   (results Tryz.f83 tmps).run Tryz.prog w = .ok (.agg #[.pointer a, .pointer b]) w :=
 results_cell_row (p := 2) (ty := 85) rfl _ _ G 85 _ (0, 0) _ h1 h Tryz.underlying85 rfl (by kernel_rfl)
theorem Sx.keep {w0 w : World} {g r L V p : Nat} {T : List Int} {vt : Value} {M : Nat} {fl fd : Value} (h : Sx w0 w g r L V p T vt M fl fd) (x y : Value) : Sx w0 ((w.setCell ⟨g, 3, none⟩ x).setCell ⟨g, 4, none⟩ y) g r L V p T vt M x y ∧ Ks w ((w.setCell ⟨g, 3, none⟩ x).setCell ⟨g, 4, none⟩ y) := by
 have h1 : (w.setCell ⟨g, 3, none⟩ x).heap[g]? = some (.cells #[.pointer (some ⟨r, 0, none⟩), vt, .int .i64 (M : Nat), x, fd] 87 (0, 0)) := (heap_setCell_same _ _ _ _ _ _ h.row).trans rfl
 have ne : ∀ (k : Nat) (c : Array Value) (t : TypeId) (f : Nat × Nat), w.heap[k]? = some (.cells c t f) → t ≠ 87 → ((w.setCell ⟨g, 3, none⟩ x).setCell ⟨g, 4, none⟩ y).heap[k]? = w.heap[k]? := fun k c t f h1 h2 =>
   (heap_setCell_other _ _ _ _ (Inf.ne_ty h1 h.row h2)).trans (heap_setCell_other _ _ _ _ (Inf.ne_ty h1 h.row h2))
 refine ⟨⟨(h.bel.setCell h.lo _).setCell h.lo _, h.tab, h.lo, h.rlo, (heap_setCell_same _ _ _ _ _ _ h1).trans rfl, h.rd.keep (ne _ _ _ _ h.rd.row (by decide)) (ne _ _ _ _ h.rd.byt (by decide)), ?_⟩, (Ks.set h.row rfl _ _).trans (Ks.set h1 rfl _ _)⟩
 refine Inf.own_other h.txt fun k hk => ?_
 obtain ⟨_, _, hc⟩ := Inf.own_type h.txt hk
 exact ne _ _ _ _ hc (by decide)
theorem new_one (x : List Nat) (hm : Inf.Mk x) (a : Option Addr) (n cap : Nat) (hx : n = x.length) (w : World) (hI : Ints w a n cap (Inf.lf x)) (hn : n ≤ 1000) :
   Calls Tryz.prog 131 #[.slice a n cap] w fun e w' => ∃ D, e = .returned (.pointer (some ⟨D, 0, none⟩)) ∧ Below w.heap.size w w' ∧ Dcl w' x D :=
 (new_any a n cap (Inf.lf x) w hI (by omega)).mono fun e w' ⟨h1, h2⟩ => by
   subst hx
   rcases h2 with ⟨h2, D, h3, h4⟩ | ⟨h2, h3⟩
   · exact ⟨_, h4, h1, h3.dcr⟩
   · exact absurd hm h2

set_option maxRecDepth 100000 in
set_option maxHeartbeats 4000000 in
theorem fixedCodes_any (w0 w : World) (g r L V p : Nat) (T : List Int) (vt : Value) (M : Nat) (fl fd : Value) (h : Sx w0 w g r L V p T vt M fl fd) (hf : Fx w fl fd) :
   Calls Tryz.prog 83 #[.pointer (some ⟨g, 0, none⟩)] w fun e w' => FcO w0 w g r L V p T vt M e w' := by
 have hb : Below w.heap.size w (w.alloc (.cells #[.pointer none, .pointer none] 85)) := (Below.refl _ _).alloc (Nat.le_refl _) _
 have HS0 : Hid (Sx w0 (w.alloc (.cells #[.pointer none, .pointer none] 85)) g r L V p T vt M fl fd) := h.later hb
 have HK0 : Hid (Ks w (w.alloc (.cells #[.pointer none, .pointer none] 85))) := Ks.below hb
 have HT0 : Hid (Two (w.alloc (.cells #[.pointer none, .pointer none] 85)) w.heap.size none none) := heap_alloc_new _ _
 have HLO : Hid (w0.heap.size ≤ w.heap.size) := h.bel.size
 have c3 := HS0.out.c3
 rcases hf with ⟨rfl, rfl⟩ | ⟨a, b, rfl, rfl, ha, hb'⟩
 · clear h hb
   go_enter Tryz.func83, Tryz.ntmps83
   go_wp2_with fail
   generalize w.alloc (.cells #[.pointer none, .pointer none] 85) = wa at *
   obtain ⟨G, hG⟩ : ∃ G, G = w.heap.size := ⟨_, rfl⟩
   rw [← hG] at HT0 HLO ⊢
   have HGW : Hid (w.heap.size ≤ G) := by unfold Hid; omega
   clear hG
   have HE := fun (c n : Nat) (h1 : 1 ≤ n) (h2 : n ≤ 1000) => Lib.hid (fun wx : World => equal_any (c : Int) n wx h1 (by omega))
   have E1 := HE 8 144 (by omega) (by omega)
   have E2 := HE 9 112 (by omega) (by omega)
   have E3 := HE 7 24 (by omega) (by omega)
   have E4 := HE 8 8 (by omega) (by omega)
   have E5 := HE 5 32 (by omega) (by omega)
   clear HE c3
   refine (E1.out _).mono ?_
   rintro e w1 ⟨h1, G1, h2, h3, rfl⟩
   have B1 := Lib.hid h1
   have R1 := Lib.hid h3
   clear h1 h2 h3 E1
   go_wp2_with fail
   refine (E2.out _).mono ?_
   rintro e w2 ⟨h1, G2, h2, h3, rfl⟩
   have B2 : Hid (Below wa.heap.size wa w2) := B1.out.trans (h1.mono B1.out.size)
   have R2 := Lib.hid h3
   have R1' : Hid _ := (h1.block _ (Inf.lt_some R1.out)).trans R1.out
   clear h1 h2 h3 E2 B1 R1
   go_wp2_with fail
   refine (E3.out _).mono ?_
   rintro e w3 ⟨h1, G3, h2, h3, rfl⟩
   have B3 : Hid (Below wa.heap.size wa w3) := B2.out.trans (h1.mono B2.out.size)
   have R3 := Lib.hid h3
   have R1 : Hid _ := (h1.block _ (Inf.lt_some R1'.out)).trans R1'.out
   have R2' : Hid _ := (h1.block _ (Inf.lt_some R2.out)).trans R2.out
   clear h1 h2 h3 E3 B2 R1' R2
   go_wp2_with fail
   refine (E4.out _).mono ?_
   rintro e w4 ⟨h1, G4, h2, h3, rfl⟩
   have B4 : Hid (Below wa.heap.size wa w4) := B3.out.trans (h1.mono B3.out.size)
   have R4 := Lib.hid h3
   have R1' : Hid _ := (h1.block _ (Inf.lt_some R1.out)).trans R1.out
   have R2 : Hid _ := (h1.block _ (Inf.lt_some R2'.out)).trans R2'.out
   have R3' : Hid _ := (h1.block _ (Inf.lt_some R3.out)).trans R3.out
   clear h1 h2 h3 E4 B3 R1 R2' R3
   have HH := heap_alloc_new w4 (.cells #[.slice (some ⟨G1, 0, none⟩) 144 144, .slice (some ⟨G2, 0, none⟩) 112 112, .slice (some ⟨G3, 0, none⟩) 24 24, .slice (some ⟨G4, 0, none⟩) 8 8] 97)
   have HCC : Hid (Calls Tryz.prog 43 #[.slice (some ⟨w4.heap.size, 0, none⟩) 4 4] (w4.alloc (.cells #[.slice (some ⟨G1, 0, none⟩) 144 144, .slice (some ⟨G2, 0, none⟩) 112 112, .slice (some ⟨G3, 0, none⟩) 24 24, .slice (some ⟨G4, 0, none⟩) 8 8] 97)) fun e w' => ∃ v, e = .returned v ∧ w'.ownsRow (w4.heap.size + 1) 3 1 v 288 (nv Inf.fixl) ∧ Below (w4.heap.size + 1) (w4.alloc (.cells #[.slice (some ⟨G1, 0, none⟩) 144 144, .slice (some ⟨G2, 0, none⟩) 112 112, .slice (some ⟨G3, 0, none⟩) 24 24, .slice (some ⟨G4, 0, none⟩) 8 8] 97)) w') := by
     have := concat_any w4.heap.size 4 Inf.fN Inf.fC (fun i => match i with | 0 => G1 | 1 => G2 | 2 => G3 | _ => G4) (w4.alloc (.cells #[.slice (some ⟨G1, 0, none⟩) 144 144, .slice (some ⟨G2, 0, none⟩) 112 112, .slice (some ⟨G3, 0, none⟩) 24 24, .slice (some ⟨G4, 0, none⟩) 8 8] 97)) (by omega) (by decide) (by decide) (by simp)
       (fun i hi => by
         rw [cell_of_row _ _ _ _ _ _ HH]
         rcases (by omega : i = 0 ∨ i = 1 ∨ i = 2 ∨ i = 3) with rfl | rfl | rfl | rfl <;> rfl)
       (fun i hi => by
         rcases (by omega : i = 0 ∨ i = 1 ∨ i = 2 ∨ i = 3) with rfl | rfl | rfl | rfl
         · exact (heap_alloc_old _ _ (Inf.lt_some R1'.out)).trans R1'.out
         · exact (heap_alloc_old _ _ (Inf.lt_some R2.out)).trans R2.out
         · exact (heap_alloc_old _ _ (Inf.lt_some R3'.out)).trans R3'.out
         · exact (heap_alloc_old _ _ (Inf.lt_some R4.out)).trans R4.out)
     rw [show (w4.alloc (.cells #[.slice (some ⟨G1, 0, none⟩) 144 144, .slice (some ⟨G2, 0, none⟩) 112 112, .slice (some ⟨G3, 0, none⟩) 24 24, .slice (some ⟨G4, 0, none⟩) 8 8] 97)).heap.size = w4.heap.size + 1 by simp, Inf.fix_cat] at this
     exact this
   have BA : Hid (Below wa.heap.size wa (w4.alloc (.cells #[.slice (some ⟨G1, 0, none⟩) 144 144, .slice (some ⟨G2, 0, none⟩) 112 112, .slice (some ⟨G3, 0, none⟩) 24 24, .slice (some ⟨G4, 0, none⟩) 8 8] 97))) := B4.out.alloc B4.out.size _
   clear HH R1' R2 R3' R4
   go_wp2_with fail
   refine HCC.out.mono ?_
   rintro e w5 ⟨v, rfl, h1, h2⟩
   have B5 : Hid (Below wa.heap.size wa w5) := BA.out.trans (h2.mono (by have := B4.out.size; omega))
   obtain ⟨av, cv, rfl, -, hI⟩ := Inf.own_nv h1 (by kernel_rfl)
   have HN1 := Lib.hid (new_one Inf.fixl Inf.mk_fixl av 288 cv (by kernel_rfl) w5 hI (by omega))
   clear h1 h2 hI HCC BA B4
   go_wp2_with fail
   refine HN1.out.mono ?_
   rintro e w6 ⟨D1, rfl, h1, h2⟩
   have B6 : Hid (Below wa.heap.size wa w6) := B5.out.trans (h1.mono B5.out.size)
   have Q1 := Lib.hid h2
   clear h1 h2 HN1 B5
   go_wp2_with fail
   refine (E5.out _).mono ?_
   rintro e w7 ⟨h1, G5, h2, h3, rfl⟩
   have B7 : Hid (Below wa.heap.size wa w7) := B6.out.trans (h1.mono B6.out.size)
   have Q2 := Lib.hid (Q1.out.ks (Ks.below h1))
   have HN2 := Lib.hid (new_one Inf.fixd Inf.mk_fixd (some ⟨G5, 0, none⟩) 32 32 (by kernel_rfl) w7 (by
     have e : (fun _ => 5 : Nat → Int) = fun t => if t < 32 then Inf.lf Inf.fixd t else 5 := by
       funext t
       by_cases ht : t < 32
       · rw [if_pos ht]
         simp only [Inf.lf, Inf.fixd, List.getD_eq_getElem?_getD, List.getElem?_replicate, if_pos ht]
         rfl
       · rw [if_neg ht]
     have h4 := ki_ints h3
     exact ⟨h4.le, fun hn => by
       obtain ⟨s, o, q1, q2, q3⟩ := h4.ad hn
       refine ⟨s, o, q1, q2, fun j hj => ?_⟩
       rw [q3 j hj]
       have := congrFun e j
       rw [if_pos hj] at this
       rw [← this]
       rfl⟩) (by omega))
   clear h1 h2 h3 E5 B6 Q1
   go_wp2_with fail
   refine HN2.out.mono ?_
   rintro e w8 ⟨D2, rfl, h1, h2⟩
   have B8 : Hid (Below wa.heap.size wa w8) := B7.out.trans (h1.mono B7.out.size)
   have P1 := Lib.hid (Q2.out.ks (Ks.below h1))
   have P2 := Lib.hid h2
   have S8 := Lib.hid (HS0.out.later B8.out)
   have T8 := Lib.hid (HT0.out.ks (Ks.below B8.out))
   have K8 := Lib.hid (HK0.out.trans (Ks.below B8.out))
   clear h1 h2 HN2 B7 Q2 B8 HS0 HT0 HK0
   have S9 := Lib.hid (S8.out.keep (.pointer (some ⟨D1, 0, none⟩)) (.pointer (some ⟨D2, 0, none⟩)))
   have c0 := S8.out.c3
   have c1 := S8.out.c4
   have f0 := S8.out.fr
   have c3 := S9.out.1.c3
   have c4 := S9.out.1.c4
   have TS := Lib.hid (T8.out.ks S9.out.2)
   have d0 := TS.out.c0
   have d1 := TS.out.c1
   have d2 := TS.out.fr
   have P1' := Lib.hid ((P1.out.ks S9.out.2).two (a' := some ⟨D1, 0, none⟩) (b' := some ⟨D2, 0, none⟩) TS.out)
   have P2' := Lib.hid ((P2.out.ks S9.out.2).two (a' := some ⟨D1, 0, none⟩) (b' := some ⟨D2, 0, none⟩) TS.out)
   have SF := Lib.hid (S9.out.1.setT (a' := some ⟨D1, 0, none⟩) (b' := some ⟨D2, 0, none⟩) TS.out HLO.out rfl rfl)
   have KF := Lib.hid (((K8.out.trans S9.out.2).setI HGW.out 0 (.pointer (some ⟨D1, 0, none⟩))).setI HGW.out 1 (.pointer (some ⟨D2, 0, none⟩)))
   have TF := Lib.hid (TS.out.set (some ⟨D1, 0, none⟩) (some ⟨D2, 0, none⟩))
   clear T8 K8 S8 P1 P2 S9 TS
   go_wp2_with fail
   exact bodyPost_ret (TF.out.ret1 rfl) rfl ⟨D1, D2, rfl, P1'.out, P2'.out, SF.out, KF.out⟩
 · have hb2 : Below w.heap.size w (w.alloc (.cells #[.pointer (some ⟨a, 0, none⟩), .pointer (some ⟨b, 0, none⟩)] 85)) := (Below.refl _ _).alloc (Nat.le_refl _) _
   have P1' := Lib.hid (ha.ks (Ks.below hb2))
   have P2' := Lib.hid (hb'.ks (Ks.below hb2))
   have SF := Lib.hid (h.later hb2)
   have KF := Lib.hid (Ks.below hb2)
   have TF : Hid (Two (w.alloc (.cells #[.pointer (some ⟨a, 0, none⟩), .pointer (some ⟨b, 0, none⟩)] 85)) w.heap.size (some ⟨a, 0, none⟩) (some ⟨b, 0, none⟩)) := heap_alloc_new _ _
   have c4 := HS0.out.c4
   clear h hb ha hb' hb2 HT0 HK0 HS0
   go_enter Tryz.func83, Tryz.ntmps83
   go_wp2_with fail
   exact bodyPost_ret (TF.out.ret1 rfl) rfl ⟨a, b, rfl, P1'.out, P2'.out, SF.out, KF.out⟩
end Go.Proofs.YtenkkononchgmaaGreatDoor
