/- The walks of the laws' refused and awake: the chapter's examples. -/
import Derived.Test.YtiglbjfieeicpaaLzParse
import Derived.Test.YtiglbjfieeicpaaLzExp
import Derived.Laws.BytesArg
import Derived.Lib.SlBytesConst
namespace Go.Proofs.Ytiglbjfieeicpaa
open Go.RowKit Go
open Lz (Pc)

theorem par_wf {b : List Int} (hb : Lz.Byt b) : PcWf (Lz.par b) := fun p hp => by
  obtain ⟨h1, h2, h3⟩ := Lz.prs_mem hb _ _ p hp
  exact ⟨h1, by omega, by omega⟩
set_option maxRecDepth 100000 in
theorem Ex.str {w0 w : World} {ad : Option Addr} {m cp : Nat} {t : List Int} (h : Ex w0 w (.slice ad m cp) t) (ht : 0 < t.length) : (convert 25 9 (.slice ad m cp)).run Try.prog w = .ok (.string (strOfNums t)) w := by
  rcases h.own.2 with ⟨e, h0⟩ | ⟨g, cap, cur, e, q1, q2, q3, q4, q5, q6⟩
  · omega
  · cases e
    exact run_convert_bytes_arg (P := Try.prog) w 25 5 Try.underlying25 Try.underlying5 g 0 _ _ t rfl (fun i hi => by
      rw [cell_of_row _ _ _ _ _ _ q2, Nat.zero_add]
      have := k8_get t i hi
      rw [← q6, List.getElem?_take, if_pos (by omega), Array.getElem?_toList] at this
      exact this) 9 (by kernel_rfl)
theorem Ex.below {w0 w : World} {v : Value} {t : List Int} (h : Ex w0 w v t) : Below w0.heap.size w0 w := h.bel

set_option maxRecDepth 100000 in
theorem refused_any (l : List Pc) (a : Option Addr) (n cap : Nat) (w : World) (hn : n = l.length) (hl : n ≤ 1000000) (hB : PcsIn w (.slice a n cap) l (fun _ => True)) (hW : PcWf l) (h : Lz.ex [] l = none) :
    Calls Try.prog 25 #[.slice a n cap] w fun e w' => e = .returned (.bool true) ∧ Below w.heap.size w w' := by
  have HC : Hid (Calls Try.prog 10 #[.slice a n cap] w fun e w' => ∃ ad cp, e = .returned (.tuple #[.slice ad 0 cp, .bool false]) ∧ Below w.heap.size w w') := by
    refine (exp_any l a n cap w hn hl hB hW).mono ?_
    rintro e w' ⟨v, rfl, h1, -⟩
    rw [h] at h1 ⊢
    obtain ⟨ad, cp, rfl⟩ := h1.form
    exact ⟨ad, cp, rfl, h1.bel⟩
  clear hn hl hB hW h
  go_enter Try.func25, Try.ntmps25
  go_wp2_with fail
  refine HC.out.mono ?_
  rintro e w1 ⟨ad, cp, rfl, hb⟩
  go_wp2
  go_returns
  exact ⟨rfl, hb⟩
/-- a few pieces, in a block of their own -/
theorem refuse_new (l : List Pc) (w wx : World) (C : Array Value) (m : Nat) (hC : C = (pk l).toArray) (hm : m = l.length) (hl : l.length ≤ 1000) (hW : PcWf l) (h : Lz.ex [] l = none) (hb : Below w.heap.size w wx) :
    Calls Try.prog 25 #[.slice (some ⟨wx.heap.size, 0, none⟩) m m] (wx.alloc (.cells C 35)) fun e w' => e = .returned (.bool true) ∧ Below w.heap.size w w' := by
  subst hm
  refine (refused_any l _ l.length l.length _ rfl (by omega) ((pcs_new wx l (by omega) C hC).mono (Nat.le_refl _) (fun _ _ _ => trivial) (fun _ _ _ _ => rfl)) hW h).mono ?_
  rintro e w' ⟨rfl, h1⟩
  exact ⟨rfl, (hb.alloc hb.size _).trans (h1.mono (by have := hb.size; simp; omega))⟩
theorem expand_new (l : List Pc) (t : List Int) (w wx : World) (C : Array Value) (m : Nat) (hC : C = (pk l).toArray) (hm : m = l.length) (hl : l.length ≤ 1000) (hW : PcWf l) (h : Lz.ex [] l = some t) (ht : 0 < t.length) (hb : Below w.heap.size w wx) :
    Calls Try.prog 10 #[.slice (some ⟨wx.heap.size, 0, none⟩) m m] (wx.alloc (.cells C 35)) fun e w' => ∃ ad cp, e = .returned (.tuple #[.slice ad t.length cp, .bool true]) ∧ Below w.heap.size w w' ∧
      ∀ wy, Below w'.heap.size w' wy → (convert 25 9 (.slice ad t.length cp)).run Try.prog wy = .ok (.string (strOfNums t)) wy := by
  subst hm
  refine (exp_any l _ l.length l.length _ rfl (by omega) ((pcs_new wx l (by omega) C hC).mono (Nat.le_refl _) (fun _ _ _ => trivial) (fun _ _ _ _ => rfl)) hW).mono ?_
  rintro e w' ⟨v, rfl, h1, -⟩
  rw [h] at h1 ⊢
  have h1 : Ex (wx.alloc (.cells C 35)) w' v t := h1
  obtain ⟨ad, cp, rfl⟩ := h1.form
  exact ⟨ad, cp, rfl, (hb.alloc hb.size _).trans (h1.bel.mono (by have := hb.size; simp; omega)), fun wy hy => (h1.later hy).str ht⟩
/-- Parse, and Expand behind it -/
theorem par_exp (b : List Int) (w0 w : World) (v : Value) (h : PaS w0 w v (Lz.par b)) (hb : b.length ≤ 65536) (hby : Lz.Byt b) :
    Calls Try.prog 10 #[v] w fun e w' => ∃ v', e = .returned (.tuple #[v', .bool true]) ∧ Ex w w' v' b := by
  obtain ⟨ad, cp, rfl⟩ := h.form
  have hlen := Lz.par_length b
  have hw : PcWf (Lz.par b) := par_wf hby
  refine (exp_any (Lz.par b) ad _ cp w rfl (by omega) ((own_pieces h.own).1.mono (Nat.le_refl _) (fun _ _ _ => trivial) (fun _ _ _ _ => rfl)) hw).mono ?_
  rintro e w' ⟨v', rfl, h1, -⟩
  rw [Lz.ex_par b [] (by simpa using hb)] at h1 ⊢
  exact ⟨v', rfl, h1⟩
/-- the chapter's text -/
def peat : List Int := [112, 101, 97, 116, 32, 112, 101, 97, 116, 32, 112, 101, 97, 116]
theorem peat_in (w : World) (fr : Nat × Nat) : BytesIn (w.alloc (.cells (k8 peat).toArray 5 fr)) (.slice (some ⟨w.heap.size, 0, none⟩) 14 14) peat (fun _ => True) :=
  ⟨_, 14, rfl, by decide, by omega, fun _ => ⟨w.heap.size, 0, rfl, trivial, by simp, fun j hj => by
    rw [cell_of_row _ _ _ _ _ _ (heap_alloc_new w _), Nat.zero_add, List.getElem?_toArray]; exact k8_get _ _ hj⟩⟩
set_option maxRecDepth 100000 in
theorem parse_peat (w wx : World) (fr : Nat × Nat) (hb : Below w.heap.size w wx) :
    Calls Try.prog 18 #[.slice (some ⟨wx.heap.size, 0, none⟩) 14 14] (wx.alloc (.cells (k8 peat).toArray 5 fr)) fun e w1 => ∃ v, e = .returned v ∧ Below w.heap.size w w1 ∧
      Calls Try.prog 10 #[v] w1 fun e w2 => ∃ ad cp, e = .returned (.tuple #[.slice ad 14 cp, .bool true]) ∧ Below w.heap.size w w2 ∧ Below wx.heap.size wx w2 ∧
        ∀ wy, Below w2.heap.size w2 wy → (convert 25 9 (.slice ad 14 cp)).run Try.prog wy = .ok (.string (strOfNums peat)) wy := by
  have hby : Lz.Byt peat := by unfold Lz.Byt peat; decide
  refine (par_any peat _ 14 14 _ rfl (by omega) (peat_in wx fr) hby).mono ?_
  rintro e w1 ⟨v, rfl, h1⟩
  have h0 : Below wx.heap.size wx w1 := ((Below.refl _ _).alloc (Nat.le_refl _) _).trans (h1.bel.mono (by simp))
  have hb1 : Below w.heap.size w w1 := (hb.alloc hb.size _).trans (h1.bel.mono (by have := hb.size; simp; omega))
  refine ⟨v, rfl, hb1, (par_exp peat _ w1 v h1 (by decide) hby).mono ?_⟩
  rintro e w2 ⟨v', rfl, h2⟩
  obtain ⟨ad, cp, rfl⟩ := h2.form
  exact ⟨ad, cp, rfl, hb1.trans (h2.bel.mono hb1.size), h0.trans (h2.bel.mono h0.size), fun wy hy => (h2.later hy).str (by decide)⟩
theorem wf_small (l : List Pc) (h : (l.all fun p => decide (0 ≤ p.c) && decide (p.c < 256) && decide (0 ≤ p.n) && decide (p.n ≤ 1000) && decide (0 ≤ p.d) && decide (p.d ≤ 1000)) = true) : PcWf l := fun p hp => by
  have := List.all_eq_true.1 h p hp
  simp only [Bool.and_eq_true, decide_eq_true_eq] at this
  omega

set_option maxRecDepth 100000 in
set_option maxHeartbeats 4000000 in
theorem awake_any (w : World) : Calls Try.prog 8 #[] w fun e w' => e = .returned (.bool true) ∧ Below w.heap.size w w' := by
  have hcv := fun (wx : World) (C : Array Value) (n c : Nat) => Lib.run_convert_bytes_const (P := Try.prog) wx 25 5 C n c Try.underlying25 Try.underlying5
  have HX1 : Hid (∀ wx, Below w.heap.size w wx → Calls Try.prog 10 #[.slice (some ⟨wx.heap.size, 0, none⟩) 3 3] (wx.alloc (.cells (pk [⟨97, 0, 0⟩, ⟨98, 0, 0⟩, ⟨0, 5, 2⟩]).toArray 35)) fun e w' => ∃ ad cp, e = .returned (.tuple #[.slice ad 7 cp, .bool true]) ∧ Below w.heap.size w w' ∧
      ∀ wy, Below w'.heap.size w' wy → (convert 25 9 (.slice ad 7 cp)).run Try.prog wy = .ok (.string (strOfNums [97, 98, 97, 98, 97, 98, 97])) wy) :=
    fun wx hb => expand_new [⟨97, 0, 0⟩, ⟨98, 0, 0⟩, ⟨0, 5, 2⟩] [97, 98, 97, 98, 97, 98, 97] w wx _ 3 rfl rfl (by simp) (wf_small _ (by decide)) (by decide) (by decide) hb
  have HX2 : Hid (∀ wx fr, Below w.heap.size w wx → _) := fun wx fr hb => parse_peat w wx fr hb
  have HR1 : Hid (∀ wx, Below w.heap.size w wx → _) := fun wx hb => refuse_new [⟨0, 3, 1⟩] w wx _ 1 rfl rfl (by simp) (wf_small _ (by decide)) (by decide) hb
  have HR2 : Hid (∀ wx, Below w.heap.size w wx → _) := fun wx hb => refuse_new [⟨97, 0, 0⟩, ⟨0, 2, 1⟩] w wx _ 2 rfl rfl (by simp) (wf_small _ (by decide)) (by decide) hb
  have HR3 : Hid (∀ wx, Below w.heap.size w wx → _) := fun wx hb => refuse_new [⟨97, 0, 0⟩, ⟨1, 3, 1⟩] w wx _ 2 rfl rfl (by simp) (wf_small _ (by decide)) (by decide) hb
  go_enter Try.func8, Try.ntmps8
  go_wp2_with fail
  refine (one_any 97 w).mono ?_
  rintro e w1 ⟨rfl, hb1⟩
  have HB1 := Lib.hid hb1
  clear hb1
  go_wp2_with fail
  refine (one_any 98 w1).mono ?_
  rintro e w2 ⟨rfl, hb2⟩
  have HB2 : Hid (Below w.heap.size w w2) := HB1.out.trans (hb2.mono HB1.out.size)
  clear hb2 HB1
  go_wp2_with fail
  refine (match_any 5 2 w2).mono ?_
  rintro e w3 ⟨rfl, hb3⟩
  have HB3 : Hid (Below w.heap.size w w3) := HB2.out.trans (hb3.mono HB2.out.size)
  clear hb3 HB2
  go_wp2_with fail
  refine (HX1.out w3 HB3.out).mono ?_
  rintro e w4 ⟨ad1, cp1, rfl, hb4, hcs⟩
  have HB4 := Lib.hid hb4
  have HCS := Lib.hid hcs
  clear hb4 hcs HB3 HX1
  go_wp2_with fail
  refine (HX2.out w4 (14, 15) HB4.out).mono ?_
  rintro e w5 ⟨v5, rfl, hb5, hx5⟩
  clear HB4
  have HX5 := Lib.hid hx5
  clear hx5 hb5 hcv
  go_wp2_with fail
  refine HX5.out.mono ?_
  rintro e w6 ⟨ad6, cp6, rfl, hb6, hb46, hcs6⟩
  have hs1 := HCS.out w6 hb46
  have hs2 := hcs6 w6 (Below.refl _ _)
  rw [show strOfNums [97, 98, 97, 98, 97, 98, 97] = ⟨#[97, 98, 97, 98, 97, 98, 97]⟩ from rfl] at hs1
  rw [show strOfNums peat = ⟨#[112, 101, 97, 116, 32, 112, 101, 97, 116, 32, 112, 101, 97, 116]⟩ from rfl] at hs2
  have HB6 := Lib.hid hb6
  clear HCS hb6 hb46 hcs6 HX5 HX2
  go_wp2_with fail
  refine (match_any 3 1 w6).mono ?_
  rintro e w7 ⟨rfl, hb7⟩
  have HB7 : Hid (Below w.heap.size w w7) := HB6.out.trans (hb7.mono HB6.out.size)
  clear hb7 HB6 hs1 hs2
  go_wp2_with fail
  refine (HR1.out w7 HB7.out).mono ?_
  rintro e w8 ⟨rfl, hb8⟩
  have HB8 := Lib.hid hb8
  clear hb8 HB7 HR1
  go_wp2_with fail
  refine (one_any 97 w8).mono ?_
  rintro e w9 ⟨rfl, hb9⟩
  have HB9 : Hid (Below w.heap.size w w9) := HB8.out.trans (hb9.mono HB8.out.size)
  clear hb9 HB8
  go_wp2_with fail
  refine (match_any 2 1 w9).mono ?_
  rintro e w10 ⟨rfl, hb10⟩
  have HB10 : Hid (Below w.heap.size w w10) := HB9.out.trans (hb10.mono HB9.out.size)
  clear hb10 HB9
  go_wp2_with fail
  refine (HR2.out w10 HB10.out).mono ?_
  rintro e w11 ⟨rfl, hb11⟩
  have HB11 := Lib.hid hb11
  clear hb11 HB10 HR2
  go_wp2_with fail
  refine (one_any 97 w11).mono ?_
  rintro e w12 ⟨rfl, hb12⟩
  have HB12 : Hid (Below w.heap.size w w12) := HB11.out.trans (hb12.mono HB11.out.size)
  clear hb12 HB11
  go_wp2_with fail
  refine (HR3.out w12 HB12.out).mono ?_
  rintro e w13 ⟨rfl, hb13⟩
  go_wp2
  go_returns
  exact ⟨rfl, hb13⟩
end Go.Proofs.Ytiglbjfieeicpaa
