/- The walk of the law LzExpands: what any pieces say is what the document tells. -/
import Derived.Test.YtiglbjfieeicpaaLzAwake
import Derived.Test.YtiglbjfieeicpaaLzRef
import Derived.Test.YtiglbjfieeicpaaLzLent
import Derived.Test.YtiglbjfieeicpaaKitSame
import Derived.Test.YtiglbjfieeicpaaKitRoomApB
namespace Go.Proofs.Ytiglbjfieeicpaa
open Go.RowKit Go
open Lz (Pc)

theorem Ex.bytes' {w0 w : World} {v : Value} {t : List Int} (h : Ex w0 w v t) : BytesIn w v t (fun _ => True) := (own_bytes h.own).mono (Nat.le_refl _) (fun _ _ _ => trivial) (fun _ _ _ _ => rfl)
theorem Onl.toBelow {w w' : World} {S : Nat → Prop} (h : Onl w w' S) {B : Nat} (hB : B ≤ w.heap.size) (hS : ∀ b, S b → B ≤ b) : Below B w w' := h.below hB hS
/-- two rows of the call's own, one behind the other, lie apart -/
theorem two_apart (w1 w2 w3 wx : World) (v1 v2 : Value) (t1 t2 : List Int) (h1 : Ex w1 w2 v1 t1) (h2 : Ex w2 w3 v2 t2) (hx : Below w3.heap.size w3 wx) (hl1 : t1.length ≤ 1000000) (hl2 : t2.length ≤ 1000000) :
    Calls Try.prog 14 #[.slice (some ⟨wx.heap.size, 0, none⟩) 2 2] (wx.alloc (.cells #[v1, v2] 25)) fun e w' => e = .returned (.bool true) ∧ Below w1.heap.size wx w' := by
  have h1x : Ex w1 wx v1 t1 := (h1.later (below_gb (gb_below h2.bel none))).later hx
  have h2x : Ex w2 wx v2 t2 := h2.later hx
  have hs12 := h1.bel.size
  have hs23 := h2.bel.size
  have hs3 := hx.size
  have hlt1 : ∀ b, v1.ownBlock = some b → w1.heap.size ≤ b ∧ b < w2.heap.size := fun b hb => ⟨(h1.own.lt b hb).1, (h1.own.lt b hb).2⟩
  have hlt2 : ∀ b, v2.ownBlock = some b → w2.heap.size ≤ b ∧ b < w3.heap.size := fun b hb => ⟨(h2.own.lt b hb).1, (h2.own.lt b hb).2⟩
  have key : Rl 25 5 1 (wx.alloc (.cells #[v1, v2] 25)) (wx.alloc (.cells #[v1, v2] 25)) w1.heap.size wx.heap.size 2 (fun k => if k = 0 then v1 else v2) (fun k => if k = 0 then t1.length else t2.length) (fun k => k8 (if k = 0 then t1 else t2)) := by
    refine ⟨Onl.refl _ _, by simp; omega, ⟨_, heap_alloc_new _ _, fun k hk => ?_⟩, fun k hk => ?_, fun j k hj hk hjk b hb hb' => ?_, fun k hk => ?_, by decide, fun k hk b hb => ?_⟩
    · have : k = 0 ∨ k = 1 := by omega
      rcases this with rfl | rfl <;> rfl
    · have : k = 0 ∨ k = 1 := by omega
      rcases this with rfl | rfl
      · exact h1x.own.alloc _
      · exact own_base (h2x.own.alloc _) (by omega)
    · have h3 : j = 0 ∧ k = 1 ∨ j = 1 ∧ k = 0 := by omega
      rcases h3 with ⟨rfl, rfl⟩ | ⟨rfl, rfl⟩
      · have := hlt1 b hb
        have := hlt2 b hb'
        omega
      · have := hlt2 b hb
        have := hlt1 b hb'
        omega
    · have : k = 0 ∨ k = 1 := by omega
      rcases this with rfl | rfl
      · exact hl1
      · exact hl2
    · have : k = 0 ∨ k = 1 := by omega
      have hsz : (wx.alloc (.cells #[v1, v2] 25)).heap.size = wx.heap.size + 1 := by simp
      rw [hsz]
      rcases this with rfl | rfl
      · have := hlt1 b hb; omega
      · have := hlt2 b hb; omega
  refine (apart_any _ w1.heap.size wx.heap.size 2 2 _ _ _ (by omega) key).mono ?_
  rintro e w' ⟨rfl, ho⟩
  refine ⟨rfl, ((Below.refl _ _).alloc (by omega) _).trans (ho.below (by simp; omega) (fun b hb => ?_))⟩
  obtain ⟨k, hk, hb⟩ := hb
  have : k = 0 ∨ k = 1 := by omega
  rcases this with rfl | rfl
  · exact (hlt1 b hb).1
  · have := (hlt2 b hb).1; omega
theorem ex_len (l : List Pc) : ((Lz.ex [] l).getD []).length ≤ 65536 := by
  cases h : Lz.ex [] l with
  | none => exact Nat.zero_le _
  | some t => exact (Lz.ex_le l [] t (by simp) h).2

set_option maxRecDepth 100000 in
set_option maxHeartbeats 4000000 in
theorem expands_walk (a : Option Addr) (n cap : Nat) (l : List Pc) (w : World) (hn : n = l.length) (hB : PcsIn w (.slice a n cap) l (fun _ => True)) (hW : PcWf l) (hna : a = none → cap = 0) :
    Calls Try.prog 3 #[.slice a n cap] w fun e w' => e = .returned (.bool true) ∧ Below w.heap.size w w' := by
  have HAW := Lib.hid awake_any
  have HN := Lib.hid hn; have HB := Lib.hid hB; have HW := Lib.hid hW; have HA := Lib.hid hna
  clear hn hB hW hna
  by_cases h3 : n ≤ 3000
  · have hd1 : decide ((3000 : Int) < (n : Int)) = false := by simp; omega
    have HL : Hid (n ≤ 3000) := h3
    have HLT := Lib.hid (lentp_any l a n cap w HN.out HB.out HA.out (by omega))
    obtain ⟨T, hT⟩ : ∃ T, T = (Lz.ex [] l).getD [] := ⟨_, rfl⟩
    obtain ⟨bo, hbo⟩ : ∃ b, b = (Lz.ex [] l).isSome := ⟨_, rfl⟩
    obtain ⟨m, hm⟩ : ∃ m, m = T.length := ⟨_, rfl⟩
    have HM : Hid (m = T.length ∧ m ≤ 65536) := ⟨hm, by rw [hm, hT]; exact ex_len l⟩
    have HX : Hid (∀ (a' : Option Addr) (c' : Nat) wx, PcsIn wx (.slice a' n c') l (fun _ => True) → Calls Try.prog 10 #[.slice a' n c'] wx fun e w' => ∃ ad cp, e = .returned (.tuple #[.slice ad m cp, .bool bo]) ∧ Ex wx w' (.slice ad m cp) T) := fun a' c' wx hp => by
      refine (exp_any l a' n c' wx HN.out (by have := HL.out; omega) hp HW.out).mono ?_
      rintro e w' ⟨v, rfl, h1, -⟩
      obtain ⟨ad, cp, rfl⟩ := h1.form
      rw [← hT] at h1 ⊢
      rw [← hm] at h1 ⊢
      rw [← hbo]
      exact ⟨ad, cp, rfl, h1⟩
    have HR : Hid (∀ (a' : Option Addr) (c' : Nat) wx, PcsIn wx (.slice a' n c') l (fun _ => True) → Calls Try.prog 11 #[.slice a' n c'] wx fun e w' => ∃ ad cp, e = .returned (.tuple #[.slice ad m cp, .bool bo]) ∧ Ex wx w' (.slice ad m cp) T) := fun a' c' wx hp => by
      refine (rexp_any l a' n c' wx HN.out (by have := HL.out; omega) hp HW.out).mono ?_
      rintro e w' ⟨v, rfl, h1, -⟩
      obtain ⟨ad, cp, rfl⟩ := h1.form
      rw [← hT] at h1 ⊢
      rw [← hm] at h1 ⊢
      rw [← hbo]
      exact ⟨ad, cp, rfl, h1⟩
    clear hT hbo hm h3
    go_enter Try.func3, Try.ntmps3
    go_wp2_with fail
    refine HLT.out.mono ?_
    rintro e w1 ⟨v1, g, rfl, hlp, hg, hb1⟩
    obtain ⟨c3, hv1⟩ : ∃ c3, v1 = .slice (some ⟨g, 0, none⟩) n c3 := by
      obtain ⟨c3, C, e, -⟩ := hlp.blk
      exact ⟨c3, by rw [e, HN.out]⟩
    subst hv1
    have HP1 : Hid (PcsIn w1 (.slice (some ⟨g, 0, none⟩) n c3) l (fun _ => True)) := hlp.pcs.mono (Nat.le_refl _) (fun _ _ _ => trivial) (fun _ _ _ _ => rfl)
    have HLP := Lib.hid hlp
    have HB1 := Lib.hid hb1
    clear hlp hg hb1 HLT
    have HX1 := Lib.hid (HX.out _ _ w1 HP1.out)
    go_wp2_with fail
    refine HX1.out.mono ?_
    rintro e w2 ⟨ad2, cp2, rfl, hx2⟩
    have HE2 := Lib.hid hx2
    have HX2 := Lib.hid (HX.out _ _ w2 (HP1.out.later hx2.bel))
    clear hx2 HX1
    go_wp2_with fail
    refine HX2.out.mono ?_
    rintro e w3 ⟨ad3, cp3, rfl, hx3⟩
    have HE3 := Lib.hid hx3
    have HB2 : Hid (Below w.heap.size w w2) := HB1.out.trans (HE2.out.bel.mono HB1.out.size)
    have HB3 : Hid (Below w.heap.size w w3) := HB2.out.trans (hx3.bel.mono HB2.out.size)
    have HR3 := Lib.hid (HR.out a cap w3 (HB.out.later HB3.out))
    clear hx3 HX2
    go_wp2_with fail
    refine HR3.out.mono ?_
    rintro e w4 ⟨ad4, cp4, rfl, hx4⟩
    have HE4 := Lib.hid hx4
    have HB4 : Hid (Below w.heap.size w w4) := HB3.out.trans (hx4.bel.mono HB3.out.size)
    have HB24 : Hid (Below w2.heap.size w2 w4) := HE3.out.bel.trans (hx4.bel.mono HE3.out.bel.size)
    have HS := Lib.hid (same_any T ad2 m cp2 ad4 cp4 w4 HM.out.1 (by have := HM.out.2; omega) (later_bytes HB24.out HE2.out.bytes') hx4.bytes')
    clear hx4 HR3 HX HR
    have hbb : (bo == bo) = true := by cases bo <;> rfl
    go_wp2_with fail
    refine HS.out.mono ?_
    rintro e w5 ⟨rfl, hd5⟩
    have HB45 : Hid (Below w4.heap.size w4 w5) := hd5.below _
    have HB5 : Hid (Below w.heap.size w w5) := HB4.out.trans (hd5.below _)
    have HB15 : Hid (Below w1.heap.size w1 w5) := (HE2.out.bel.trans (HB24.out.mono HE2.out.bel.size)).trans (hd5.below _)
    have HK := Lib.hid (keptp_any l g _ a n cap w5 HN.out (HB.out.later HB5.out) (by have := HL.out; omega) (HLP.out.keep (HB15.out.block _ (by obtain ⟨c, C, -, -, -, h, -⟩ := HLP.out.blk; exact lt_of_block h))))
    clear hd5 HS
    go_wp2_with fail
    refine HK.out.mono ?_
    rintro e w6 ⟨rfl, hb6⟩
    have HB36 : Hid (Below w3.heap.size w3 w6) := (HE4.out.bel.trans (HB45.out.mono HE4.out.bel.size)).trans (hb6.mono (HE4.out.bel.trans (HB45.out.mono HE4.out.bel.size)).size)
    have HB6 : Hid (Below w.heap.size w w6) := HB5.out.trans (hb6.mono HB5.out.size)
    have HAP := Lib.hid (two_apart w1 w2 w3 w6 _ _ T T HE2.out HE3.out HB36.out (by have := HM.out; omega) (by have := HM.out; omega))
    clear hb6 HK
    go_wp2_with fail
    refine HAP.out.mono ?_
    rintro e w7 ⟨rfl, hb7⟩
    have HB7 : Hid (Below w.heap.size w w7) := HB6.out.trans (hb7.mono HB1.out.size)
    clear hb7 HAP
    go_wp2_with fail
    refine (HAW.out w7).mono ?_
    rintro e w8 ⟨rfl, hb8⟩
    go_wp2
    go_returns
    exact ⟨rfl, HB7.out.trans (hb8.mono HB7.out.size)⟩
  · have hd1 : decide ((3000 : Int) < (n : Int)) = true := by simp; omega
    clear h3
    go_enter Try.func3, Try.ntmps3
    go_wp2_with fail
    refine (HAW.out w).mono ?_
    rintro e w1 ⟨rfl, hb1⟩
    go_wp2
    go_returns
    exact ⟨rfl, hb1⟩
end Go.Proofs.Ytiglbjfieeicpaa
