/- Laid together: InfPgD InfRep. -/
import Derived.Test.YtenkkononchgmaaGreatDoorDkB08
import Derived.Laws.Bits64b

namespace Go.Proofs.YtenkkononchgmaaGreatDoor
open Go.RowKit Go

def ReO (w0 w : World) (g r L V : Nat) (M : Nat) (fl fd : Value) (st : Inf.R (List Int)) (e : Ending) (w' : World) : Prop :=
 (∃ k : Int, st = .err k ∧ ¬ k = 0 ∧ e = .returned (.int .i64 k) ∧ Below w0.heap.size w0 w') ∨
 (∃ q U vt', st = .ok q U ∧ U.length ≤ M ∧ e = .returned (.int .i64 0) ∧ Sx w0 w' g r L V q U vt' M fl fd ∧ Ks w w')
def NxQ (w0 w : World) (g r L V p : Nat) (T : List Int) (vt : Value) (M : Nat) (fl fd : Value) (l : List Nat) (s : Nat) (ok : Bool) (w' : World) : Prop :=
 (ok = false ∧ Inf.sy l V (8 * L) p = none ∧ Below w0.heap.size w0 w') ∨ (ok = true ∧ ∃ q, Inf.sy l V (8 * L) p = some (s, q) ∧ Sx w0 w' g r L V q T vt M fl fd ∧ Ks w w')
theorem snext_dz (l : List Nat) (D p : Nat) (w0 w : World) (g r L V : Nat) (T : List Int) (vt : Value) (M : Nat) (fl fd : Value) (hL : L ≤ 1000000) (hm : Inf.Mk l) (hd : Dcl w l D) (wx : World) (h : Any w0 w g r L V T vt M fl fd wx) :
   Calls Tryz.prog 127 #[.pointer (some ⟨D, 0, none⟩), .pointer (some ⟨r, 0, none⟩)] wx fun e w' => ∃ (s : Nat) (ok : Bool), e = .returned (.tuple #[.int .i64 (s : Int), .bool ok]) ∧ Any w0 w g r L V T vt M fl fd w' ∧ (Dz w0 w g r L V p T vt M fl fd wx → NxQ w0 w g r L V p T vt M fl fd l s ok w') := by
 by_cases hp : Dz w0 w g r L V p T vt M fl fd wx
 · refine (snext_any l D w0 wx g r L V p T vt M fl fd hp.sx hL hm (hd.ks hp.ks)).mono fun _ _ hx => ?_
   rcases hx with ⟨h1, h2, ⟨q, h3⟩, h4⟩ | ⟨s, q, h1, h2, h3, h4⟩
   · exact ⟨0, false, h2, ⟨q, h3, hp.ks.trans h4⟩, fun _ => .inl ⟨rfl, h1, h3.bel⟩⟩
   · exact ⟨s, true, h2, ⟨_, h3, hp.ks.trans h4⟩, fun _ => .inr ⟨rfl, q, h1, h3, hp.ks.trans h4⟩⟩
 · obtain ⟨q, h⟩ := h
   refine (snext_any l D w0 wx g r L V q T vt M fl fd h.sx hL hm (hd.ks h.ks)).mono fun _ _ hx => ?_
   rcases hx with ⟨h1, h2, ⟨q, h3⟩, h4⟩ | ⟨s, q, h1, h2, h3, h4⟩
   · exact ⟨0, false, h2, ⟨q, h3, h.ks.trans h4⟩, fun c => absurd c hp⟩
   · exact ⟨s, true, h2, ⟨_, h3, h.ks.trans h4⟩, fun c => absurd c hp⟩
def Inf.pos (w : World) (r : Nat) : Nat := match w.cell? ⟨r, 2, none⟩ with
 | some v => (intOf v).toNat
 | none => 0
theorem Sx.pos {w0 w : World} {g r L V p : Nat} {T : List Int} {vt : Value} {M : Nat} {fl fd : Value} (h : Sx w0 w g r L V p T vt M fl fd) : Inf.pos w r = p := by
 have c2 : w.cell? ⟨r, 2, none⟩ = some (.int .i64 (p : Int)) := (cell_of_row _ _ _ _ _ _ h.rd.row).trans rfl
 unfold Inf.pos
 rw [c2]
 simp [intOf]
theorem Inf.cstep_none {x y : List Nat} {V N M p : Nat} {T : List Int} (h : Inf.sy x V N p = none) : Inf.cstep x y V N M p T = .fin (.err 4) := by unfold Inf.cstep; rw [h]
theorem Inf.cstep_end {x y : List Nat} {V N M p q : Nat} {T : List Int} (h : Inf.sy x V N p = some (256, q)) : Inf.cstep x y V N M p T = .fin (.ok q T) := by unfold Inf.cstep; rw [h]; rfl
theorem Inf.cstep_match {x y : List Nat} {V N M p q s : Nat} {T : List Int} (h : Inf.sy x V N p = some (s, q)) (h2 : 256 < s) : Inf.cstep x y V N M p T = Inf.mstep y V N M s q T := by
 unfold Inf.cstep; rw [h]; dsimp only; rw [if_neg (by omega), if_pos h2]
theorem Inf.cstep_long {x y : List Nat} {V N M p q s : Nat} {T : List Int} (h : Inf.sy x V N p = some (s, q)) (h2 : s < 256) (h3 : M ≤ T.length) : Inf.cstep x y V N M p T = .fin (.err 3) := by
 unfold Inf.cstep; rw [h]; dsimp only; rw [if_neg (by omega), if_neg (by omega), if_pos h3]
theorem Inf.cstep_go {x y : List Nat} {V N M p q s : Nat} {T : List Int} (h : Inf.sy x V N p = some (s, q)) (h2 : s < 256) (h3 : T.length < M) : Inf.cstep x y V N M p T = .go q (T ++ [(s : Int)]) := by
 unfold Inf.cstep; rw [h]; dsimp only; rw [if_neg (by omega), if_neg (by omega), if_neg (by omega)]
theorem Inf.mstep_on {y : List Nat} {V N M s q t : Nat} {T U : List Int} (h : Inf.mstep y V N M s q T = .go t U) : q < t ∧ t ≤ N := by
 unfold Inf.mstep Inf.mfar at h
 split at h
 · cases h
 · split at h
   · cases h
   · rename_i k r hk
     have := Inf.sy_lt hk
     split at h
     · cases h
     · split at h
       · cases h
       · split at h
         · cases h
         · cases h; constructor <;> omega
theorem Inf.cstep_on {x y : List Nat} {V N M p t : Nat} {T U : List Int} (h : Inf.cstep x y V N M p T = .go t U) : p < t ∧ t ≤ N := by
 rcases Inf.sy_cases x V N p with e | ⟨k, i, h1, e⟩
 · rw [Inf.cstep_none e] at h; cases h
 · have hl := Inf.sy_lt e
   rcases Nat.lt_trichotomy i 256 with c | c | c
   · rcases Nat.lt_or_ge T.length M with d | d
     · rw [Inf.cstep_go e c d] at h; cases h; exact ⟨hl.2.1, hl.2.2⟩
     · rw [Inf.cstep_long e c d] at h; cases h
   · subst c; rw [Inf.cstep_end e] at h; cases h
   · rw [Inf.cstep_match e c] at h
     have := Inf.mstep_on h
     constructor <;> omega

set_option maxRecDepth 100000 in
set_option maxHeartbeats 4000000 in
theorem symbols_any (x y : List Nat) (A D : Nat) (w0 w : World) (g r L V p : Nat) (T : List Int) (vt : Value) (M : Nat) (fl fd : Value) (h : Sx w0 w g r L V p T vt M fl fd) (hL : L ≤ 1000000) (hmx : Inf.Mk x) (hmy : Inf.Mk y) (hx : Dcl w x A) (hy : Dcl w y D) (hT : T.length ≤ M) (hM : M ≤ 65536) :
   Calls Tryz.prog 82 #[.pointer (some ⟨g, 0, none⟩), .agg #[.pointer (some ⟨A, 0, none⟩), .pointer (some ⟨D, 0, none⟩)]] w fun e w' => ReO w0 w g r L V M fl fd (Inf.runs (Inf.cstep x y V (8 * L) M) p T) e w' := by
 have HL := Lib.hid hL
 have HM := Lib.hid hM
 have HX := Lib.hid hmx
 have HY := Lib.hid hmy
 have HXL : Hid (x.length ≤ 288) := hmx.1.1
 obtain ⟨RS, hrs⟩ : ∃ RS, RS = Inf.runs (Inf.cstep x y V (8 * L) M) p T := ⟨_, rfl⟩
 rw [← hrs]
 have hb : Below w.heap.size w (w.alloc (.cells #[.pointer (some ⟨A, 0, none⟩), .pointer (some ⟨D, 0, none⟩)] 85)) := (Below.refl _ _).alloc (Nat.le_refl _) _
 have HS0 : Hid (∃ q U vt', Sx w0 (w.alloc (.cells #[.pointer (some ⟨A, 0, none⟩), .pointer (some ⟨D, 0, none⟩)] 85)) g r L V q U vt' M fl fd ∧ U.length ≤ M ∧ RS = Inf.runs (Inf.cstep x y V (8 * L) M) q U) := ⟨p, T, vt, h.later hb, hT, hrs⟩
 have HK0 : Hid (Ks w (w.alloc (.cells #[.pointer (some ⟨A, 0, none⟩), .pointer (some ⟨D, 0, none⟩)] 85))) := Ks.below hb
 have HB0 : Hid ((w.alloc (.cells #[.pointer (some ⟨A, 0, none⟩), .pointer (some ⟨D, 0, none⟩)] 85)).heap[w.heap.size]? = some (.cells #[.pointer (some ⟨A, 0, none⟩), .pointer (some ⟨D, 0, none⟩)] 85 (0, 0))) := heap_alloc_new _ _
 have HDX := Lib.hid hx
 have HDY := Lib.hid hy
 clear h hx hy hmx hmy hL hM hT hrs hb
 go_enter Tryz.func82, Tryz.ntmps82
 go_wp2_with fail
 generalize w.alloc (.cells #[.pointer (some ⟨A, 0, none⟩), .pointer (some ⟨D, 0, none⟩)] 85) = wa at *
 generalize w.heap.size = gx at *
 go_loopw [5] (fun _ wr => (∃ q U vt', Sx w0 wr g r L V q U vt' M fl fd ∧ U.length ≤ M ∧ RS = Inf.runs (Inf.cstep x y V (8 * L) M) q U) ∧ Ks w wr ∧ wr.heap[gx]? = some (.cells #[.pointer (some ⟨A, 0, none⟩), .pointer (some ⟨D, 0, none⟩)] 85 (0, 0))) (fun _ wr => 8 * L - Inf.pos wr r)
 case atStart => exact ⟨HS0.out, HK0.out, HB0.out⟩
 case round =>
   clear HS0 HK0 HB0
   obtain ⟨⟨q, U, vt', hs, hU, hRS⟩, hk, hbx⟩ := hrel
   have HS := Lib.hid hs
   have HU := Lib.hid hU
   have HRS := Lib.hid hRS
   have HK := Lib.hid hk
   have HBX := Lib.hid hbx
   have HPOS : Hid (Inf.pos wr r = q) := hs.pos
   have HNX := Lib.hid (snext_dz x A q w0 wr g r L V U vt' M fl fd HL.out HX.out (HDX.out.ks hk))
   have HC : Hid (∀ wx, Any w0 wr g r L V U vt' M fl fd wx → wx.cell? ⟨gx, 0, none⟩ = some (.pointer (some ⟨A, 0, none⟩)) ∧ wx.cell? ⟨g, 0, none⟩ = some (.pointer (some ⟨r, 0, none⟩)) ∧ Any w0 wr g r L V U vt' M fl fd wx) :=
     fun wx h => ⟨by obtain ⟨_, h⟩ := h; exact (cell_of_row _ _ _ _ _ _ (h.ks.cells HBX.out rfl)).trans rfl, by obtain ⟨_, h⟩ := h; exact h.sx.c0, h⟩
   have hdz : Dz w0 wr g r L V q U vt' M fl fd wr := ⟨hs, Ks.refl _⟩
   have HDZ := Lib.hid hdz.drew
   have hany : Any w0 wr g r L V U vt' M fl fd wr := ⟨q, hdz⟩
   clear hs hU hRS hk hbx hdz
   go_wp2_with fail
   go_region_held3 (fun wx => wx.cell? ⟨gx, 0, none⟩ = some (.pointer (some ⟨A, 0, none⟩)) ∧ wx.cell? ⟨g, 0, none⟩ = some (.pointer (some ⟨r, 0, none⟩)) ∧ Any w0 wr g r L V U vt' M fl fd wx) (first | assumption | exact HC.out _ (by assumption) | exact HC.out _ (Any.drew (by assumption))) ((go_at_call 127; (with_reducible refine (HNX.out _ (And.right (And.right (by assumption)))).mono ?_); rintro e w5 ⟨s5, ok5, rfl, ha5, hs5⟩))
   have HS5 := Lib.hid (hs5 HDZ.out)
   clear hs5 hany HC HDZ ha5 HNX
   rcases HS5.out with ⟨rfl, G1, G2⟩ | ⟨rfl, t, G1, G2, G3⟩
   · have K1 : Hid (RS = .err 4) := HRS.out.trans (Inf.runs_fin (Inf.cstep_none G1))
     have K2 := Lib.hid G2
     clear G1 G2 HS5
     go_wp2
     go_ret
     exact .inl ⟨4, K1.out, by decide, rfl, K2.out⟩
   · have K1 := Lib.hid G1
     have K2 := Lib.hid G2
     have K3 := Lib.hid (HK.out.trans G3)
     have K4 := Lib.hid (G3.cells HBX.out rfl)
     have hs288 : s5 < 288 := by have := (Inf.sy_lt G1).1; have := HXL.out; omega
     have HPT : Hid (q < t ∧ t ≤ 8 * L) := ⟨(Inf.sy_lt G1).2.1, (Inf.sy_lt G1).2.2⟩
     clear G1 G2 G3 HS5
     rcases Nat.lt_trichotomy s5 256 with c | c | c
     · have d1 : ((s5 : Int) == 256) = false := by simp; omega
       have d2 : decide ((s5 : Int) < 256) = true := decide_eq_true (by omega)
       have hwr : IntKind.u8.wrap (s5 : Int) = (s5 : Int) := by rw [IntKind.wrap_u8]; omega
       have HLE := Lib.hid (letter_any (s5 : Int) w0 w5 g r L V t U vt' M fl fd K2.out (by have := HU.out; have := HM.out; omega) HM.out)
       have HC5 := Lib.hid c
       clear c hs288
       go_wp2_with fail
       refine HLE.out.mono ?_
       rintro e w6 (⟨h1, rfl, h2⟩ | ⟨h1, rfl, ⟨v6, h2⟩, h3⟩)
       · have E1 : Hid (RS = .err 3) := HRS.out.trans (Inf.runs_fin (Inf.cstep_long K1.out HC5.out h1))
         have E2 := Lib.hid h2
         clear h1 h2 HLE
         go_wp2
         go_ret
         exact .inl ⟨3, E1.out, by decide, rfl, E2.out⟩
       · have E1 : Hid (RS = Inf.runs (Inf.cstep x y V (8 * L) M) t (U ++ [(s5 : Int)])) := HRS.out.trans (Inf.runs_go (Inf.cstep_go K1.out HC5.out h1))
         have E2 := Lib.hid h2
         have E3 := Lib.hid (K3.out.trans h3)
         have E4 := Lib.hid (h3.cells K4.out rfl)
         have E5 : Hid ((U ++ [(s5 : Int)]).length ≤ M) := by unfold Hid; rw [List.length_append]; simp; omega
         have E6 : Hid (Inf.pos w6 r = t) := h2.pos
         clear h1 h2 h3 HLE
         go_wp2
         exact ⟨⟨⟨_, _, _, E2.out, E5.out, E1.out⟩, E3.out, E4.out⟩, by have := E6.out; have := HPOS.out; have := HPT.out; omega⟩
     · subst c
       have d1 : (((256 : Nat) : Int) == 256) = true := rfl
       have E1 : Hid (RS = .ok t U) := HRS.out.trans (Inf.runs_fin (Inf.cstep_end K1.out))
       go_wp2
       go_ret
       exact .inr ⟨t, U, vt', E1.out, HU.out, rfl, K2.out, K3.out⟩
     · have d1 : ((s5 : Int) == 256) = false := by simp; omega
       have d2 : decide ((s5 : Int) < 256) = false := decide_eq_false (by omega)
       obtain ⟨m, hm⟩ : ∃ m, m = s5 - 257 := ⟨_, rfl⟩
       have hmI : (s5 : Int) - 257 = (m : Int) := by omega
       have hs5I : (s5 : Int) < 288 := by omega
       have h257 : 257 + m = s5 := by omega
       have hmt := match_any y D m w0 w5 g r L V t U vt' M fl fd K2.out HL.out HY.out (HDY.out.ks K3.out) (by omega) HU.out HM.out
       rw [h257] at hmt
       have HMT := Lib.hid hmt
       have HC5 := Lib.hid c
       have cx1 : w5.cell? ⟨gx, 1, none⟩ = some (.pointer (some ⟨D, 0, none⟩)) := (cell_of_row _ _ _ _ _ _ K4.out).trans rfl
       clear c hs288 hm h257 hmt
       go_wp2_with fail
       refine HMT.out.mono ?_
       rintro e w6 (⟨k, h1, h2, rfl, h3⟩ | ⟨q6, U6, v6, h1, h2, rfl, h3, h4⟩)
       · have E1 : Hid (RS = .err k) := HRS.out.trans (Inf.runs_fin ((Inf.cstep_match K1.out HC5.out).trans h1))
         have E2 := Lib.hid h2
         have E3 := Lib.hid h3
         have hk0 : (k != 0) = true := by simpa using h2
         clear h1 h2 h3 HMT cx1
         go_wp2
         go_ret
         exact .inl ⟨k, E1.out, E2.out, rfl, E3.out⟩
       · have E1 : Hid (RS = Inf.runs (Inf.cstep x y V (8 * L) M) q6 U6) := HRS.out.trans (Inf.runs_go ((Inf.cstep_match K1.out HC5.out).trans h1))
         have E2 := Lib.hid h3
         have E3 := Lib.hid (K3.out.trans h4)
         have E4 := Lib.hid (h4.cells K4.out rfl)
         have E5 := Lib.hid h2
         have E6 : Hid (Inf.pos w6 r = q6) := h3.pos
         have E7 := Lib.hid (Inf.mstep_on h1)
         clear h1 h2 h3 h4 HMT cx1
         go_wp2
         exact ⟨⟨⟨_, _, _, E2.out, E5.out, E1.out⟩, E3.out, E4.out⟩, by have := E6.out; have := HPOS.out; have := HPT.out; have := E7.out; omega⟩
end Go.Proofs.YtenkkononchgmaaGreatDoor

namespace Go.Proofs.YtenkkononchgmaaGreatDoor
open Go.RowKit Go

theorem mul64_one (n : Nat) (w : World) (hn : n ≤ 1000000) :
   Calls Tryz.prog 160 #[.int .u64 1, .int .u64 (n : Int)] w fun e w' => e = .returned (.tuple #[.int .u64 0, .int .u64 (n : Int)]) ∧ w = w' := by
 have b1 : bits .and .u64 1 4294967295 = 1 := rfl
 have b0 : bits .and .u64 0 4294967295 = 0 := rfl
 have bn : bits .and .u64 (n : Int) 4294967295 = (n : Int) := by
   have h := bits_and_u64_nat n 4294967295 (by omega) (by omega)
   have e : n &&& 4294967295 = n % 4294967296 := Nat.and_two_pow_sub_one_eq_mod n 32
   rw [e, Nat.mod_eq_of_lt (by omega)] at h
   exact h
 have d0 : (n : Int) / 4294967296 = 0 := by omega
 have d1 : (1 : Int) / 4294967296 = 0 := rfl
 have hnI : (n : Int) ≤ 1000000 := by omega
 clear hn
 go_enter Tryz.func160, Tryz.ntmps160
 go_wp2
 go_ret2
 exact ⟨rfl, rfl⟩
theorem mul_one (n : Nat) (w : World) (hn : n ≤ 1000000) :
   Calls Tryz.prog 134 #[.int .u64 1, .int .u64 (n : Int)] w fun e w' => e = .returned (.tuple #[.int .u64 0, .int .u64 (n : Int)]) ∧ w = w' := by
 have HM := Lib.hid (mul64_one n w hn)
 clear hn
 go_enter Tryz.func134, Tryz.ntmps134
 go_wp2_with fail
 refine HM.out.mono ?_
 rintro e w1 ⟨rfl, rfl⟩
 go_wp2
 go_ret2
 exact ⟨rfl, rfl⟩
theorem Inf.elemInts : Tryz.prog.underlying 97 = some (.slice (Tryz.prog.elem 97)) := by kernel_rfl
theorem Inf.sizeInts (w : World) : (sizeOf (Tryz.prog.elem 97)).run Tryz.prog w = .ok 1 w := by kernel_rfl
theorem Inf.ints_to (a : Option Addr) (n cap c : Nat) (hc : c ≤ cap) (w : World) : (Instr.sliceAt 97 (.slice a n cap) none (some (.int .i64 (c : Int))) none).run Tryz.prog w = .ok (.slice a c cap) w := by
 rw [run_sliceAt_slice w _ _ _ _ _ Inf.elemInts, run_slice_h w _ a n cap Inf.elemInts .i64 c (by omega) (by omega), Inf.sizeInts]
 cases a <;> simp [Result.andThen, sliced, Addr.add]
theorem Inf.ints_from (a : Option Addr) (n cap c : Nat) (hn : c ≤ n) (w : World) :
   (Instr.sliceAt 97 (.slice a n cap) (some (.int .i64 (c : Int))) none none).run Tryz.prog w = .ok (.slice (if cap = c then a else a.map (·.add c)) (n - c) (cap - c)) w := by
 rw [run_sliceAt_slice w _ _ _ _ _ Inf.elemInts, run_slice_l w _ a n cap Inf.elemInts .i64 c (by omega) (by omega), Inf.sizeInts]
 simp [Result.andThen, sliced]
theorem run_copy_ints (ty : TypeId) (w : World) (G o d dc N s so sl sc z : Nat) (C F : Nat → Int) (hg : w.heap[G]? = some (.cells (ki N C) 3 (0, 0))) (hz : z = Nat.min sl d) (hsrc : ∀ j, j < z → w.cell? ⟨s, so + j, none⟩ = some (.int .i64 (F j))) (hfit : o + z ≤ N) :
   ∃ w', (Builtin.copy_ #[97, 97] ty #[.slice (some ⟨G, o, none⟩) d dc, .slice (some ⟨s, so, none⟩) sl sc]).run Tryz.prog w = .ok (.int .i64 (z : Int)) w' ∧
     w'.heap[G]? = some (.cells (ki N fun t => if o ≤ t ∧ t < o + z then F (t - o) else C t) 3 (0, 0)) ∧ w.grownBy w' (some G) := by
 have hl : ((List.range z).map fun i => Value.int .i64 (F i)).length = z := by simp
 have hr := run_copy_row (P := Tryz.prog) w 97 97 ty 3 G o d dc ⟨s, so, none⟩ sl sc _ _ ((List.range z).map fun i => Value.int .i64 (F i)) (by kernel_rfl) (by kernel_rfl) hg (by rw [hl, hz])
   (fun j v hj => by
     have hjl : j < z := by have := (List.getElem?_eq_some_iff.1 hj).1; rwa [hl] at this
     rw [Addr.add_mid, hsrc j hjl, ← hj, List.getElem?_map, List.getElem?_range hjl]; rfl) (by rw [hl, ki_size]; exact hfit) (fun v hv => by obtain ⟨j, _, rfl⟩ := List.mem_map.1 hv; rfl)
 refine ⟨_, hr.trans (by rw [hl]; rfl), ?_, ?_⟩
 · refine (setRow_heap w G _ _ _ _ hg).trans ?_
   have e : ((ki N C).toList.take o ++ ((List.range z).map fun i => Value.int .i64 (F i)) ++ (ki N C).toList.drop (o + z)).toArray = ki N fun t => if o ≤ t ∧ t < o + z then F (t - o) else C t := by
     have hk : (ki N C).toList.length = N := by rw [Array.length_toList, ki_size]
     have ht : ((ki N C).toList.take o).length = o := by rw [List.length_take, hk]; omega
     refine ki_eq (by simp [hk]; omega) fun j hj => ?_
     rw [List.getElem?_toArray]
     by_cases h1 : j < o
     · rw [List.getElem?_append_left (by rw [List.length_append, ht]; omega), List.getElem?_append_left (by omega), List.getElem?_take, if_pos h1, Array.getElem?_toList, ki_get _ _ _ hj, if_neg (by omega)]
     · by_cases h2 : j < o + z
       · rw [List.getElem?_append_left (by rw [List.length_append, ht, hl]; omega), List.getElem?_append_right (by omega), ht, List.getElem?_map, List.getElem?_range (by omega), if_pos (by omega)]; rfl
       · rw [List.getElem?_append_right (by rw [List.length_append, ht, hl]; omega), List.length_append, ht, hl, List.getElem?_drop, Array.getElem?_toList, show o + z + (j - (o + z)) = j by omega, ki_get _ _ _ hj, if_neg (by omega)]
   rw [e]
 · exact ⟨rfl, rfl, rfl, by simp [World.setRow], fun k hk hkg => setRow_other w G k _ (fun e => hkg (by rw [e]))⟩

theorem step_copy_eq (w w7 : World) {ops : Array Oper} {o : Oper} {a : Act} {K : Act → World → Prop} {Q : Exit → Act → World → Prop} {E : Prop} (hgd : o.guard = none) (s x : Operand) (t : TypeId)
   (ho : o.op = .call { callee := .builtin .copy, args := #[s, x], argTypes := #[t, t] }) (v u res : Value) (hs : a.eval s = v) (hx : a.eval x = u)
   (hr : (Builtin.copy_ #[t, t] o.type #[v, u]).run Tryz.prog w = .ok res w7) (h : K (a.put o.dst res) w7) :
   if Region.wanted o (yielded ops a.tmps) = true then Oper.wp Tryz.prog o a w K Q else E := by
 have hw : Region.wanted o (yielded ops a.tmps) = true := by simp [Region.wanted, hgd]
 rw [if_pos hw]
 unfold Oper.wp execOp
 simp only [ho, resolve, invoke, builtin, Sem.run_bind, Sem.run_pure, Result.andThen_ok, List.map_toArray, List.map_cons, List.map_nil, hs, hx, hr]
 exact h

def RpO (w : World) (c : Int) (n : Nat) (e : Ending) (w' : World) : Prop :=
 Below w.heap.size w w' ∧ ∃ G, w.heap.size ≤ G ∧ w'.heap[G]? = some (.cells (ki n fun _ => c) 3 (0, 0)) ∧ e = .returned (.slice (some ⟨G, 0, none⟩) n n)
set_option maxRecDepth 100000 in
set_option maxHeartbeats 4000000 in
theorem repeat_any (c : Int) (n H : Nat) (w : World) (hn : 1 ≤ n) (hn6 : n ≤ 100000) (hH : w.heap[H]? = some (.cells #[.int .i64 c] 3 (0, 0))) :
   Calls Tryz.prog 91 #[.slice (some ⟨H, 0, none⟩) 1 1, .int .i64 (n : Int)] w fun e w' => RpO w c n e w' := by
 have HM := fun wx => mul_one n wx (by omega)
 have hmk := run_ints n (by omega)
 have hnI : (n : Int) ≤ 100000 := by omega
 have hnp : (1 : Int) ≤ (n : Int) := by omega
 have hw1 : IntKind.u64.wrap (n : Int) = (n : Int) := by rw [IntKind.wrap_u64]; omega
 have hw2 : IntKind.i64.wrap (n : Int) = (n : Int) := by rw [IntKind.wrap_i64]; omega
 have hw3 : decide ((n : Int) < 0) = false := decide_eq_false (by omega)
 have hw4 : decide (9223372036854775807 < (n : Int)) = false := decide_eq_false (by omega)
 have HN := Lib.hid hn
 have hb1 : (w.alloc (.cells (ki n (fun _ => 0)) 3)).heap[w.heap.size]? = some (.cells (ki n (fun _ => 0)) 3 (0, 0)) := heap_alloc_new _ _
 obtain ⟨w3, hcp, h3, hg3⟩ := run_copy_ints 3 (w.alloc (.cells (ki n (fun _ => 0)) 3)) w.heap.size 0 n n n H 0 1 1 1 _ (fun _ => c) hb1 (by show 1 = min 1 n; omega) (fun j hj => by
   obtain rfl : j = 0 := by omega
   rw [World.cell?_alloc_lt _ _ _ (lt_of_block hH), cell_of_row _ _ _ _ _ _ hH]; rfl) (by omega)
 have HB3 : Hid (Below w.heap.size w w3) := ((Below.refl _ _).alloc (Nat.le_refl _) _).grown hg3 (by simp) (fun k hk => by cases hk; exact Nat.le_refl _)
 have H3 : Hid (w3.heap[w.heap.size]? = some (.cells (ki n fun t => if t < 1 then c else 0) 3 (0, 0))) := by
   unfold Hid
   rw [h3]
   congr 2
   refine ki_congr fun i hi => ?_
   by_cases e : i < 1
   · rw [if_pos (by omega), if_pos e]
   · rw [if_neg (by omega), if_neg e]
 clear h3 hg3 hb1 hn hn6 hH
 go_enter Tryz.func91, Tryz.ntmps91
 go_wp2_with fail
 refine (HM _).mono ?_
 rintro e w1 ⟨rfl, rfl⟩
 clear HM
 go_wp2_with fail
 generalize hG : w.heap.size = G at *
 clear hcp hmk
 go_loopw [8] (fun v8 wr => ∃ k : Nat, 1 ≤ k ∧ k ≤ n ∧ v8 = .int .i64 (k : Int) ∧ Below G w wr ∧ wr.heap[G]? = some (.cells (ki n fun t => if t < k then c else 0) 3 (0, 0))) (fun v8 _ => (n - intOf v8).toNat)
 case atStart => exact ⟨1, by omega, HN.out, rfl, HB3.out, H3.out⟩
 case round =>
   clear H3 HB3
   obtain ⟨k, hk1, hk, rfl, hb, hrow⟩ := hrel
   have HB := Lib.hid hb
   have HR := Lib.hid hrow
   clear hb
   by_cases hlt : k < n
   · have hd1 : decide (k < n) = true := decide_eq_true hlt
     have hd2 : decide ((k : Int) < (n : Int)) = true := decide_eq_true (by omega)
     obtain ⟨z, hz⟩ : ∃ z, z = min k (n - k) := ⟨_, rfl⟩
     have hfr := Inf.ints_from (some ⟨G, 0, none⟩) n n k hk
     rw [if_neg (by omega), show Option.map (fun x : Addr => x.add k) (some ⟨G, 0, none⟩) = some ⟨G, k, none⟩ by simp [Addr.add_mid]] at hfr
     have hto := Inf.ints_to (some ⟨G, 0, none⟩) n n k hk
     have hrow2 : wr.drew.heap[G]? = some (.cells (ki n fun t => if t < k then c else 0) 3 (0, 0)) := hrow
     obtain ⟨w7, hcp, h7, hg7⟩ := run_copy_ints 3 wr.drew G k (n - k) (n - k) n G 0 k n z _ (fun _ => c) hrow2 (by rw [hz]) (fun j hj => by
       rw [Nat.zero_add, ki_cell hrow2 j (by omega), if_pos (by omega)]) (by omega)
     have HX : Hid (Below G w w7) := (HB.out.drew).grown hg7 (by have := HB.out.size; simp; omega) (fun k hk => by cases hk; exact Nat.le_refl _)
     obtain ⟨k1, hk1e⟩ : ∃ k1, k1 = k + z := ⟨_, rfl⟩
     have H7 : Hid (w7.heap[G]? = some (.cells (ki n fun t => if t < k1 then c else 0) 3 (0, 0))) := by
       unfold Hid
       rw [h7]
       congr 2
       refine ki_congr fun i hi => ?_
       by_cases e1 : i < k
       · rw [if_neg (by omega), if_pos e1, if_pos (by omega)]
       · by_cases e2 : i < k1
         · rw [if_pos (by omega), if_pos e2]
         · rw [if_neg (by omega), if_neg e1, if_neg e2]
     have hkz : (k : Int) + (z : Int) = (k1 : Int) := by omega
     have hzI : (z : Int) ≤ 100000 := by omega
     have hkI : (k : Int) ≤ 100000 := by omega
     have hkw : IntKind.i64.wrap (k1 : Int) = (k1 : Int) := by rw [IntKind.wrap_i64]; omega
     have HK1 : Hid (k < k1 ∧ k1 ≤ n) := by unfold Hid; omega
     clear h7 hg7 hrow hrow2 hz hk1e
     go_wp2_with fail
     go_region_held3 (fun _ => True) (trivial) ((refine step_copy_eq _ w7 (by rfl) _ _ _ (by rfl) _ _ _ (by rfl) (by rfl) hcp ?_))
     all_goals go_wp2
     all_goals go_roundw
     all_goals first
       | (have := HK1.out; simp only [intOf]; omega; done)
       | exact ⟨k1, by have := HK1.out; omega, HK1.out.2, by go_num, HX.out, H7.out⟩
   · obtain rfl : k = n := by omega
     have hd1 : decide (k < k) = false := decide_eq_false (by omega)
     have hd2 : decide ((k : Int) < (k : Int)) = false := decide_eq_false (by omega)
     clear hrow
     go_wp2
     go_ret
     have e : ki k (fun t => if t < k then c else 0) = ki k (fun _ => c) := ki_congr fun i hi => if_pos hi
     refine ⟨by rw [hG]; exact HB.out, G, by omega, ?_, rfl⟩
     rw [← e]
     exact HR.out

set_option maxHeartbeats 1000000 in
theorem equal_any (c : Int) (n : Nat) (w : World) (hn : 1 ≤ n) (hn6 : n ≤ 100000) :
   Calls Tryz.prog 130 #[.int .i64 c, .int .i64 (n : Int)] w fun e w' => RpO w c n e w' := by
 have HR := Lib.hid (repeat_any c n w.heap.size (w.alloc (.cells #[.int .i64 c] 3)) hn hn6 (heap_alloc_new _ _))
 have HS : Hid ((w.alloc (.cells #[.int .i64 c] 3)).heap.size = w.heap.size + 1) := by simp [Hid]
 have HB : Hid (Below w.heap.size w (w.alloc (.cells #[.int .i64 c] 3))) := (Below.refl _ _).alloc (Nat.le_refl _) _
 clear hn hn6
 go_enter Tryz.func130, Tryz.ntmps130
 go_wp2_with fail
 refine HR.out.mono ?_
 rintro e w1 ⟨h1, G, h2, h3, rfl⟩
 have H1 : Hid (Below w.heap.size w w1) := HB.out.trans (h1.mono (by have := HS.out; omega))
 have H2 : Hid (w.heap.size ≤ G) := by have := HS.out; unfold Hid; omega
 have H3 := Lib.hid h3
 clear h1 h2 h3 HR HB HS
 go_wp2
 go_ret
 exact ⟨H1.out, G, H2.out, H3.out, rfl⟩
end Go.Proofs.YtenkkononchgmaaGreatDoor
