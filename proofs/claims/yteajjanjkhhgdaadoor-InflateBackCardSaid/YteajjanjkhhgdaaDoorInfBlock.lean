/- The walk of the program's block. -/
import Derived.Test.YteajjanjkhhgdaaDoorInfOwnS
import Derived.Test.YteajjanjkhhgdaaDoorInfFix
import Derived.Test.YteajjanjkhhgdaaDoorInfBare
namespace Go.Proofs.YteajjanjkhhgdaaDoor
open Go.RowKit Go

theorem Inf.and1 (a : Nat) (ha : a < 4294967296) : bits BinOp.and IntKind.u32 (a : Int) 1 = ((a % 2 : Nat) : Int) := by
  have e : bits BinOp.and IntKind.u32 (a : Int) 1 = IntKind.u32.wrap (((BitVec.ofInt 32 (a : Int)) &&& (BitVec.ofInt 32 1)).toNat : Int) := rfl
  rw [e, BitVec.toNat_and, BitVec.toNat_ofInt]
  have e1 : ((a : Int) % ((2 ^ 32 : Nat) : Int)).toNat = a := by omega
  rw [e1, show (BitVec.ofInt 32 1).toNat = 2 ^ 1 - 1 from by decide, Nat.and_two_pow_sub_one_eq_mod, IntKind.wrap_u32]
  omega
theorem Inf.coded_le {x y : List Nat} {V N M p q : Nat} {T U : List Int} (h : Inf.runs (Inf.cstep x y V N M) p T = .ok q U) : p ≤ q := by
  refine Inf.runs_le (fun p a q b h => Nat.le_of_lt (Inf.cstep_on h).1) (fun p a q b h => ?_) h
  rcases Inf.sy_cases x V N p with e | ⟨k, i, h1, e⟩
  · rw [Inf.cstep_none e] at h; cases h
  · have hl := Inf.sy_lt e
    rcases Nat.lt_trichotomy i 256 with c | c | c
    · rcases Nat.lt_or_ge a.length M with d | d
      · rw [Inf.cstep_go e c d] at h; cases h
      · rw [Inf.cstep_long e c d] at h; cases h
    · subst c; rw [Inf.cstep_end e] at h; cases h; omega
    · rw [Inf.cstep_match e c] at h
      unfold Inf.mstep Inf.mfar at h
      split at h
      · cases h
      · split at h
        · cases h
        · split at h
          · cases h
          · split at h
            · cases h
            · split at h <;> cases h
/-- a block's answer -/
def BlO (w0 : World) (g r L V M p : Nat) (b : Bool) (st : Inf.R (List Int)) (e : Ending) (w' : World) : Prop :=
  (∃ (k : Int) (b' : Bool), st = .err k ∧ ¬ k = 0 ∧ e = .returned (.tuple #[.bool b', .int .i64 k]) ∧ Below w0.heap.size w0 w') ∨
  (∃ q U vt' fl' fd', st = .ok q U ∧ U.length ≤ M ∧ p + 3 ≤ q ∧ e = .returned (.tuple #[.bool b, .int .i64 0]) ∧ Sx w0 w' g r L V q U vt' M fl' fd' ∧ Fx w' fl' fd')

set_option maxRecDepth 100000 in
set_option maxHeartbeats 8000000 in
theorem block_few (w0 w : World) (g r L V p : Nat) (T : List Int) (vt : Value) (M : Nat) (fl fd : Value) (h : Sx w0 w g r L V p T vt M fl fd) (hL : L ≤ 1000000) (hfew : 8 * L < p + 3) :
    Calls Tryd.prog 34 #[.pointer (some ⟨g, 0, none⟩)] w fun e w' => e = .returned (.tuple #[.bool false, .int .i64 4]) ∧ Below w0.heap.size w0 w' := by
  have c0 := h.c0
  have HG := Lib.hid (sget_no 3 w0 w g r L V p T vt M fl fd h hL hfew)
  have HH := Lib.hid h
  clear h hL hfew
  go_enter Tryd.func34, Tryd.ntmps34
  go_wp2_with fail
  refine HG.out.mono ?_
  rintro e w1 ⟨rfl, h1⟩
  have K := Lib.hid (HH.out.drawn h1).bel
  clear h1 HG c0 HH
  go_wp2
  go_ret2
  exact ⟨rfl, K.out⟩
set_option maxRecDepth 100000 in
set_option maxHeartbeats 8000000 in
theorem block_any (HOC : OwnC) (w0 w : World) (g r L V p : Nat) (T : List Int) (vt : Value) (M : Nat) (fl fd : Value) (h : Sx w0 w g r L V p T vt M fl fd) (hf : Fx w fl fd) (hL : L ≤ 1000000) (hT : T.length ≤ M) (hM : M ≤ 65536) (hfew : p + 3 ≤ 8 * L) :
    Calls Tryd.prog 34 #[.pointer (some ⟨g, 0, none⟩)] w fun e w' => BlO w0 g r L V M p (decide (Inf.num V p 1 = 1)) (Inf.block V (8 * L) M (Inf.num V (p + 1) 2) (p + 3) T) e w' := by
  have c0 := h.c0
  have HG := Lib.hid (sget_any 3 w0 w g r L V p T vt M fl fd h hL (by omega) hfew)
  have HL := Lib.hid hL
  have HT := Lib.hid hT
  have HM := Lib.hid hM
  have HF := Lib.hid hf
  obtain ⟨X, hX⟩ : ∃ X, X = Inf.num V p 3 := ⟨_, rfl⟩
  obtain ⟨b, hb⟩ : ∃ b, b = Inf.num V p 1 := ⟨_, rfl⟩
  obtain ⟨k, hk⟩ : ∃ k, k = Inf.num V (p + 1) 2 := ⟨_, rfl⟩
  have x0 : X < 8 := by rw [hX]; exact Inf.num_lt V p 3
  have e1 : X % 2 = b := by rw [hX, hb]; exact Inf.num_first V p 3 1 (by omega)
  have e2 : X / 2 = k := by rw [hX, hk]; exact Inf.num_last V p 3 1 (by omega)
  rw [← hX] at HG
  rw [← hb, ← hk]
  have a1 : bits BinOp.and IntKind.u32 (X : Int) 1 = (b : Int) := by rw [Inf.and1 X (by omega), e1]
  have a2 : (X : Int) / 2 = (k : Int) := by omega
  have a3 : ((b : Int) == 1) = decide (b = 1) := by
    by_cases e : b = 1
    · subst e; rfl
    · rw [decide_eq_false e]; simp; omega
  obtain ⟨bb, hbb⟩ : ∃ bb, bb = decide (b = 1) := ⟨_, rfl⟩
  rw [← hbb] at a3 ⊢
  have k4 : k < 4 := by omega
  clear h hf hL hT hM hfew hX hb hk x0 e1 e2 hbb
  rcases (by omega : k = 0 ∨ k = 1 ∨ k = 2 ∨ k = 3) with rfl | rfl | rfl | rfl
  · rw [show Inf.block V (8 * L) M 0 (p + 3) T = Inf.stored V (8 * L) M (p + 3) T from rfl]
    clear k4
    go_enter Tryd.func34, Tryd.ntmps34
    go_wp2_with fail
    refine HG.out.mono ?_
    rintro e w1 ⟨rfl, h1, h2⟩
    have HB := Lib.hid (bare_any w0 w1 g r L V (p + 3) T vt M fl fd h1 HL.out HT.out HM.out)
    have HF1 := Lib.hid (HF.out.ks h2)
    clear h1 h2 HG c0
    go_wp2_with fail
    refine HB.out.mono ?_
    rintro e w2 (⟨k, h1, h2, rfl, h3⟩ | ⟨q, U, v, h1, h2, rfl, h3, h4⟩)
    · have K1 := Lib.hid h1
      have K2 := Lib.hid h2
      have K3 := Lib.hid h3
      clear h1 h2 h3 HB
      go_wp2
      go_ret2
      exact .inl ⟨k, _, K1.out, K2.out, rfl, K3.out⟩
    · have K1 := Lib.hid h1
      have K2 := Lib.hid h2
      have K3 := Lib.hid h3
      have K4 := Lib.hid (HF1.out.ks h4)
      have K5 : Hid (p + 3 ≤ q) := by
        unfold Inf.stored at h1
        split at h1
        · split at h1
          · cases h1
          · cases h1; unfold Hid Inf.up; omega
        · cases h1
      clear h1 h2 h3 h4 HB
      go_wp2
      go_ret2
      exact .inr ⟨q, U, v, fl, fd, K1.out, K2.out, K5.out, rfl, K3.out, K4.out⟩
  · have hcd : Inf.block V (8 * L) M 1 (p + 3) T = Inf.runs (Inf.cstep Inf.fixl Inf.fixd V (8 * L) M) (p + 3) T := by
      show Inf.coded Inf.fixl Inf.fixd V (8 * L) M (p + 3) T = _
      rw [Inf.coded, if_pos ⟨Inf.mk_fixl, Inf.mk_fixd⟩]
    rw [hcd]
    clear k4 hcd
    go_enter Tryd.func34, Tryd.ntmps34
    go_wp2_with fail
    refine HG.out.mono ?_
    rintro e w1 ⟨rfl, h1, h2⟩
    have HB := Lib.hid (fixedCodes_any w0 w1 g r L V (p + 3) T vt M fl fd h1 (HF.out.ks h2))
    clear h1 h2 HG c0
    go_wp2_with fail
    refine HB.out.mono ?_
    rintro e w2 ⟨A, B, rfl, h1, h2, h3, h4⟩
    have HSY := Lib.hid (symbols_any Inf.fixl Inf.fixd A B w0 w2 g r L V (p + 3) T vt M _ _ h3 HL.out Inf.mk_fixl Inf.mk_fixd h1 h2 HT.out HM.out)
    have HF2 : Hid (Fx w2 (.pointer (some ⟨A, 0, none⟩)) (.pointer (some ⟨B, 0, none⟩))) := .inr ⟨A, B, rfl, rfl, h1, h2⟩
    clear h1 h2 h3 h4 HB
    go_wp2_with fail
    refine HSY.out.mono ?_
    rintro e w3 (⟨k, h1, h2, rfl, h3⟩ | ⟨q, U, v, h1, h2, rfl, h3, h4⟩)
    · have K1 := Lib.hid h1
      have K2 := Lib.hid h2
      have K3 := Lib.hid h3
      clear h1 h2 h3 HSY
      go_wp2
      go_ret2
      exact .inl ⟨k, _, K1.out, K2.out, rfl, K3.out⟩
    · have K1 := Lib.hid h1
      have K2 := Lib.hid h2
      have K3 := Lib.hid h3
      have K4 := Lib.hid (HF2.out.ks h4)
      have K5 := Lib.hid (Inf.coded_le h1)
      clear h1 h2 h3 h4 HSY
      go_wp2
      go_ret2
      exact .inr ⟨q, U, v, _, _, K1.out, K2.out, K5.out, rfl, K3.out, K4.out⟩
  · rw [show Inf.block V (8 * L) M 2 (p + 3) T = Inf.dynamic V (8 * L) M (p + 3) T from rfl]
    clear k4
    obtain ⟨RD, hrd⟩ : ∃ RD, RD = Inf.dynamic V (8 * L) M (p + 3) T := ⟨_, rfl⟩
    rw [← hrd]
    have HRD := Lib.hid hrd
    have HOCH := Lib.hid HOC
    clear hrd HOC
    go_enter Tryd.func34, Tryd.ntmps34
    go_wp2_with fail
    refine HG.out.mono ?_
    rintro e w1 ⟨rfl, h1, h2⟩
    have HB := Lib.hid (HOCH.out w0 w1 g r L V (p + 3) T vt M fl fd h1 HL.out)
    have HF1 := Lib.hid (HF.out.ks h2)
    clear h1 h2 HG c0 HF HOCH
    go_wp2_with fail
    refine HB.out.mono ?_
    rintro e w2 (⟨h1, ⟨A, B, rfl⟩, h2⟩ | ⟨x, y, q, A, B, h1, h2, h3, rfl, h4, h5, h6, h7, h8⟩)
    · have HE : Hid (RD = .err 4) := HRD.out.trans h1
      have K1 : Hid (Below w0.heap.size w0 (w2.alloc (.cells #[.pointer A, .pointer B] 63))) := h2.alloc h2.size _
      clear h1 h2 HB
      go_wp2
      go_ret2
      exact .inl ⟨4, false, HE.out, by decide, rfl, K1.out⟩
    · have HE : Hid (RD = Inf.runs (Inf.cstep x y V (8 * L) M) q T) := HRD.out.trans h1
      have hb2 : Below w2.heap.size w2 (w2.alloc (.cells #[.pointer (some ⟨A, 0, none⟩), .pointer (some ⟨B, 0, none⟩)] 63)) := (Below.refl _ _).alloc (Nat.le_refl _) _
      have HSY := Lib.hid (symbols_any x y A B w0 _ g r L V q T vt M fl fd (h6.later hb2) HL.out h2 h3 (h4.ks (Ks.below hb2)) (h5.ks (Ks.below hb2)) HT.out HM.out)
      have HF2 := Lib.hid ((HF1.out.ks h7).ks (Ks.below hb2))
      have HPQ := Lib.hid h8
      clear h1 h2 h3 h4 h5 h6 h7 h8 HB hb2
      go_wp2_with fail
      refine HSY.out.mono ?_
      rintro e w3 (⟨k, h1, h2, rfl, h3⟩ | ⟨q2, U, v, h1, h2, rfl, h3, h4⟩)
      · have K1 := Lib.hid (HE.out.trans h1)
        have K2 := Lib.hid h2
        have K3 := Lib.hid h3
        clear h1 h2 h3 HSY
        go_wp2
        go_ret2
        exact .inl ⟨k, _, K1.out, K2.out, rfl, K3.out⟩
      · have K1 := Lib.hid (HE.out.trans h1)
        have K2 := Lib.hid h2
        have K3 := Lib.hid h3
        have K4 := Lib.hid (HF2.out.ks h4)
        have K5 : Hid (p + 3 ≤ q2) := Nat.le_trans HPQ.out (Inf.coded_le h1)
        clear h1 h2 h3 h4 HSY
        go_wp2
        go_ret2
        exact .inr ⟨q2, U, v, fl, fd, K1.out, K2.out, K5.out, rfl, K3.out, K4.out⟩
  · rw [show Inf.block V (8 * L) M 3 (p + 3) T = .err 4 from rfl]
    clear k4
    go_enter Tryd.func34, Tryd.ntmps34
    go_wp2_with fail
    refine HG.out.mono ?_
    rintro e w1 ⟨rfl, h1, h2⟩
    have K := Lib.hid h1.bel
    clear h1 h2 HG c0
    go_wp2
    go_ret2
    exact .inl ⟨4, false, rfl, by decide, rfl, K.out⟩
end Go.Proofs.YteajjanjkhhgdaaDoor
