/- What the chapter tells of the laws' four small streams. -/
import Derived.Test.YteajjanjkhhgdaaDoorInfPgO
namespace Go.Proofs.YteajjanjkhhgdaaDoor
open Go.RowKit Go

theorem Inf.c7 : ∀ j, j < 7 → Huf.cnt (Inf.lf Inf.fixl) 288 j = 0 := of_decide_eq_true (by kernel_rfl)
theorem Inf.c7' : Huf.cnt (Inf.lf Inf.fixl) 288 7 = 24 := by kernel_rfl
theorem Inf.f7 : ∀ j, j < 8 → Huf.fst (Huf.cnt (Inf.lf Inf.fixl) 288) j = 0 := of_decide_eq_true (by kernel_rfl)
theorem Inf.fixl_len : Inf.fixl.length = 288 := by kernel_rfl
theorem Inf.fix_min : ∀ i, i < 288 → 7 ≤ Inf.fixl.getD i 0 := of_decide_eq_true (by kernel_rfl)
theorem Inf.fix_at {V N p k i : Nat} (hp : p + k ≤ N) (hi : i < 288) (hk : k = 7 ∨ (k = 8 ∧ 24 ≤ Huf.vl V p 7)) (hl : Inf.fixl.getD i 0 = k) (hc : Huf.code (Inf.lf Inf.fixl) 288 i = Huf.vl V p k) : Inf.sy Inf.fixl V N p = some (i, p + k) := by
  refine Inf.sy_some ⟨hp, by rw [Inf.fixl_len]; exact ⟨hi, by omega, by simp only [Inf.lf, hl], hc⟩, fun j hj t ht => ?_⟩
  rw [Inf.fixl_len] at ht
  obtain ⟨h1, h2, h3, h4⟩ := ht
  have h5 := Inf.fix_min t h1
  have h6 : Inf.fixl.getD t 0 = j := by simp only [Inf.lf] at h3; omega
  have hj7 : j = 7 := by omega
  subst hj7
  have h7 := Huf.code_lt (Inf.lf Inf.fixl) 288 t h1 (by omega)
  rw [h3] at h7
  simp only [Int.toNat_natCast] at h7
  rw [Inf.f7 7 (by omega), Inf.c7'] at h7
  omega
theorem Inf.fix_few {V N p : Nat} (h : N < p + 7) : Inf.sy Inf.fixl V N p = none :=
  Inf.sy_none fun k i hk hh => by
    rw [Inf.fixl_len] at hh
    obtain ⟨h1, h2, h3, h4⟩ := hh
    have h5 := Inf.fix_min i h1
    simp only [Inf.lf] at h3
    omega
/-- stored -/
def Inf.b1 : List Int := [1, 3, 0, 252, 255, 97, 98, 99]
def Inf.b2 : List Int := [75, 76, 74, 6, 0]
def Inf.b3 : List Int := [75, 76, 74]
theorem Inf.ev1 : Inf.inflate (Bit.val Inf.b1) 64 3 = .ok 64 [97, 98, 99] := by
  refine Inf.runs_fin (Inf.bstep_end (by decide) ?_ (by kernel_rfl))
  show Inf.block _ _ _ (Inf.num (Bit.val Inf.b1) 1 2) 3 [] = _
  rw [show Inf.num (Bit.val Inf.b1) 1 2 = 0 by kernel_rfl]
  show Inf.stored (Bit.val Inf.b1) 64 3 3 [] = _
  kernel_rfl
theorem Inf.s1 (N M : Nat) (h : 11 ≤ N) (y : List Nat) (T : List Int) (hT : T.length < M) : Inf.cstep Inf.fixl y (Bit.val Inf.b2) N M 3 T = .go 11 (T ++ [97]) :=
  Inf.cstep_go (s := 97) (Inf.fix_at (k := 8) (by omega) (by omega) (.inr ⟨rfl, Nat.le_of_ble_eq_true (by kernel_rfl)⟩) (by kernel_rfl) (by kernel_rfl)) (by omega) hT
theorem Inf.s2 (N M : Nat) (h : 19 ≤ N) (y : List Nat) (T : List Int) (hT : T.length < M) : Inf.cstep Inf.fixl y (Bit.val Inf.b2) N M 11 T = .go 19 (T ++ [98]) :=
  Inf.cstep_go (s := 98) (Inf.fix_at (k := 8) (by omega) (by omega) (.inr ⟨rfl, Nat.le_of_ble_eq_true (by kernel_rfl)⟩) (by kernel_rfl) (by kernel_rfl)) (by omega) hT
theorem Inf.s3 (N : Nat) (h : 27 ≤ N) : Inf.sy Inf.fixl (Bit.val Inf.b2) N 19 = some (99, 27) :=
  Inf.fix_at (k := 8) (by omega) (by omega) (.inr ⟨rfl, Nat.le_of_ble_eq_true (by kernel_rfl)⟩) (by kernel_rfl) (by kernel_rfl)
theorem Inf.s4 (N : Nat) (h : 34 ≤ N) : Inf.sy Inf.fixl (Bit.val Inf.b2) N 27 = some (256, 34) :=
  Inf.fix_at (k := 7) (by omega) (by omega) (.inl rfl) (by kernel_rfl) (by kernel_rfl)
theorem Inf.kind1 (V N M p : Nat) (T : List Int) : Inf.block V N M 1 p T = Inf.runs (Inf.cstep Inf.fixl Inf.fixd V N M) p T := by
  show Inf.coded Inf.fixl Inf.fixd V N M p T = _
  rw [Inf.coded, if_pos ⟨Inf.mk_fixl, Inf.mk_fixd⟩]
theorem Inf.ev2 : Inf.inflate (Bit.val Inf.b2) 40 9 = .ok 34 [97, 98, 99] := by
  refine Inf.runs_fin (Inf.bstep_end (by decide) ?_ (by kernel_rfl))
  rw [show Inf.num (Bit.val Inf.b2) (0 + 1) 2 = 1 by kernel_rfl, Inf.kind1]
  rw [Inf.runs_go (Inf.s1 40 9 (by omega) _ [] (by decide)), Inf.runs_go (Inf.s2 40 9 (by omega) _ _ (by decide)), Inf.runs_go (Inf.cstep_go (Inf.s3 40 (by omega)) (by omega) (by decide))]
  exact Inf.runs_fin (Inf.cstep_end (Inf.s4 40 (by omega)))
theorem Inf.ev3 : Inf.inflate (Bit.val Inf.b2) 40 2 = .err 3 := by
  refine Inf.runs_fin (Inf.bstep_err (by decide) ?_)
  rw [show Inf.num (Bit.val Inf.b2) (0 + 1) 2 = 1 by kernel_rfl, Inf.kind1]
  rw [Inf.runs_go (Inf.s1 40 2 (by omega) _ [] (by decide)), Inf.runs_go (Inf.s2 40 2 (by omega) _ _ (by decide))]
  exact Inf.runs_fin (Inf.cstep_long (Inf.s3 40 (by omega)) (by omega) (by decide))
theorem Inf.t1 (M : Nat) (y : List Nat) (T : List Int) (hT : T.length < M) : Inf.cstep Inf.fixl y (Bit.val Inf.b3) 24 M 3 T = .go 11 (T ++ [97]) :=
  Inf.cstep_go (s := 97) (Inf.fix_at (k := 8) (by omega) (by omega) (.inr ⟨rfl, Nat.le_of_ble_eq_true (by kernel_rfl)⟩) (by kernel_rfl) (by kernel_rfl)) (by omega) hT
theorem Inf.t2 (M : Nat) (y : List Nat) (T : List Int) (hT : T.length < M) : Inf.cstep Inf.fixl y (Bit.val Inf.b3) 24 M 11 T = .go 19 (T ++ [98]) :=
  Inf.cstep_go (s := 98) (Inf.fix_at (k := 8) (by omega) (by omega) (.inr ⟨rfl, Nat.le_of_ble_eq_true (by kernel_rfl)⟩) (by kernel_rfl) (by kernel_rfl)) (by omega) hT
theorem Inf.ev4 : Inf.inflate (Bit.val Inf.b3) 24 9 = .err 4 := by
  refine Inf.runs_fin (Inf.bstep_err (by decide) ?_)
  rw [show Inf.num (Bit.val Inf.b3) (0 + 1) 2 = 1 by kernel_rfl, Inf.kind1]
  rw [Inf.runs_go (Inf.t1 9 _ [] (by decide)), Inf.runs_go (Inf.t2 9 _ _ (by decide))]
  exact Inf.runs_fin (Inf.cstep_none (Inf.fix_few (by omega)))
end Go.Proofs.YteajjanjkhhgdaaDoor
