/- The walk of the document's lightest. -/
import Derived.Test.YtfbcmjgiejjpmaaHufIns
import Derived.BigQuiet
import Derived.Deep.QuietTactic
namespace Go.Proofs.Ytfbcmjgiejjpmaa
open Go.RowKit Go

theorem Grw.drewN {w0 w : World} {l : List Nat} {v : Value} (h : Grw w0 w l v) (n : Nat) : Grw w0 (w.drewN n) l v :=
  have hd : Drawn w (w.drewN n) := (Drawn.refl w).drewN n
  ⟨h.bel.trans (hd.below _), own_later h.own (hd.below _)⟩
/-- what lightest returns: the weights above 0, rising -/
def LgR (F : Nat → Int) (n : Nat) (w : World) (e : Ending) (w' : World) : Prop :=
  ∃ (a : Option Addr) (m c : Nat) (l : List Nat), e = .returned (.slice a m c) ∧ l.length = m ∧ l.Perm ((Hul.pos F n).map fun i => (F i).toNat) ∧ l.Pairwise (· ≤ ·) ∧ Grw w w' l (.slice a m c)

set_option maxRecDepth 100000 in
set_option maxHeartbeats 4000000 in
theorem refLight_any (a : Option Addr) (n cap : Nat) (F : Nat → Int) (w : World) (hI : Ints w a n cap F) (hn : n ≤ 300) (hF : ∀ i, i < n → 0 ≤ F i ∧ F i ≤ 1048576) :
    Calls Try.prog 39 #[.slice a n cap] w fun e w' => LgR F n w e w' := by
  have HI := Lib.hid hI
  have HF := Lib.hid hF
  have hnI : (n : Int) ≤ 300 := by omega
  clear hI hn hF
  go_enter Try.func39, Try.ntmps39
  go_wp2_with fail
  go_loopw [3, 4] (fun v3 v4 wr => ∃ (i m : Nat) (a6 : Option Addr) (c6 : Nat) (l : List Nat), i ≤ n ∧ m ≤ i ∧ l.length = m ∧ v3 = .slice a6 m c6 ∧ v4 = .int .i64 (i : Int) ∧ Grw w wr l (.slice a6 m c6) ∧ l.Perm ((Hul.pos F i).map fun i => (F i).toNat) ∧ l.Pairwise (· ≤ ·)) (fun _ v4 _ => (n - intOf v4).toNat)
  case atStart => exact ⟨0, 0, none, 0, [], by omega, by omega, rfl, rfl, rfl, ⟨Below.refl _ _, World.ownsRow_nil _ _ _ _⟩, List.Perm.refl _, List.Pairwise.nil⟩
  case round =>
    obtain ⟨i, m, a6, c6, l, hi, hmi, hlm, rfl, rfl, hg, hp, hs⟩ := hrel
    have HG := Lib.hid hg; clear hg
    have HP := Lib.hid hp; clear hp
    have HS := Lib.hid hs; clear hs
    have HLM := Lib.hid hlm; clear hlm
    by_cases hlt : i < n
    · have hdi : decide (i < n) = true := decide_eq_true hlt
      obtain ⟨s, o, rfl, _, c1⟩ := (HI.out.later HG.out.bel).at_ hlt
      have hFi := HF.out i hlt
      obtain ⟨x, hx⟩ : ∃ x : Nat, F i = (x : Int) := ⟨(F i).toNat, by omega⟩
      rw [hx] at c1
      have HX := Lib.hid hx
      clear hx
      have hiI : (i : Int) < (n : Int) := by omega
      have hi0 : (0 : Int) ≤ (i : Int) := by omega
      have hm3 : (m : Int) ≤ 300 := by omega
      by_cases hx0 : x = 0
      · subst hx0
        have HPX : Hid (l.Perm ((Hul.pos F (i + 1)).map fun i => (F i).toNat)) := by
          show List.Perm _ _
          rw [Hul.pos, if_neg (by rw [HX.out]; omega), List.append_nil]; exact HP.out
        go_wp2
        exact ⟨⟨i + 1, m, a6, c6, l, by omega, by omega, HLM.out, rfl, by go_num, HG.out, HPX.out, HS.out⟩, by simp [intOf]; omega⟩
      · have hxz : ((x : Int) == 0) = false := by simp; omega
        have HPX : Hid (∀ l2 : List Nat, l2.Perm (x :: l) → l2.Perm ((Hul.pos F (i + 1)).map fun i => (F i).toNat)) := fun l2 h2 => by
          rw [Hul.pos, if_pos (by rw [HX.out]; omega), List.map_append]
          refine h2.trans ((HP.out.cons x).trans ?_)
          have : (([i] : List Nat).map fun i => (F i).toNat) = [x] := by simp [HX.out]
          rw [this]
          exact List.perm_append_comm (l₁ := [x])
        have HOWN : Hid (wr.ownsRow w.heap.size 3 1 (.slice a6 m c6) m (nv l)) := by
          have := HG.out.own
          rw [HLM.out] at this
          exact this
        have HSZ : Hid (w.heap.size ≤ wr.heap.size) := HG.out.bel.size
        have HM6 : Hid (m ≤ 1000000) := by show _ ≤ _; omega
        have HNT : Hid (∀ v' w9 o, World.ownsRow w9 w.heap.size 3 1 v' (m + 1) (nv l ++ [.int .i64 ((0 : Nat) : Nat)]) → (wr.alloc o).grownBy w9 (Value.slice a6 m c6).ownBlock → ∃ a7 c7, v' = .slice a7 (m + 1) c7 ∧ Grw w w9 (l ++ [0]) (.slice a7 (m + 1) c7)) := fun v' w9 o h1 h2 => by
          obtain ⟨a7, c7, rfl⟩ := own_form h1
          exact ⟨a7, c7, rfl, HG.out.app (by rw [HLM.out]; exact h1) h2⟩
        clear HG HP
        go_wp2_with (first | (at_builtin; refine wpList_append_int rfl (.tmp 19) (.tmp 20) rfl w.heap.size (.slice a6 m c6) m (nv l) rfl (HOWN.out.alloc _) wr.heap.size ((0 : Nat) : Int) rfl (heap_alloc_new _ _) HM6.out (by have := HSZ.out; simp; omega) ?_; intro v' w9 ho9 hg9; obtain ⟨a7, c7, rfl, hbk⟩ := HNT.out _ _ _ ho9.out hg9.out; have HBK := Lib.hid hbk; clear hbk ho9 hg9))
        obtain ⟨m1, hm1⟩ : ∃ m1, m1 = m + 1 := ⟨_, rfl⟩
        rw [← hm1] at HBK ⊢
        have HM1 := Lib.hid hm1
        obtain ⟨g, rfl, _, _⟩ := HBK.out.row (by simp [HLM.out, HM1.out]) (by omega)
        clear hm1 HNT HOWN HSZ c1
        have HIN : Hid (Ins l (l ++ [0]) m x) := by have := Ins.start l x; rw [HLM.out] at this; exact this
        have hltn := hlt
        clear hlt hdi
        go_loopw [5] (fun v5 wr => ∃ (k : Nat) (lc : List Nat), k ≤ m ∧ v5 = .int .i64 (k : Int) ∧ Grw w wr lc (.slice (some ⟨g, 0, none⟩) m1 c7) ∧ Ins l lc k x) (fun v5 _ => (intOf v5).toNat)
        case atStart => exact ⟨m, l ++ [0], by omega, rfl, HBK.out, HIN.out⟩
        case round =>
          clear HIN HBK
          obtain ⟨k, lc, hkm, rfl, hgw, hin⟩ := hrel
          have HGW := Lib.hid hgw; clear hgw
          have HIN := Lib.hid hin; clear hin
          obtain ⟨s', o', he, _, c1⟩ := (HI.out.later HGW.out.bel).at_ hltn
          simp only [Option.some.injEq, Addr.mk.injEq, and_true] at he
          obtain ⟨rfl, rfl⟩ := he
          rw [HX.out] at c1
          have hlc : lc.length = m1 := by rw [HIN.out.len, HLM.out, HM1.out]
          obtain ⟨g', hg', hcells, hfrz⟩ := HGW.out.row hlc (by have := HM1.out; omega)
          simp only [Option.some.injEq, Addr.mk.injEq, and_true] at hg'
          subst hg'
          have HLC := Lib.hid hlc; clear hlc
          obtain ⟨yk, hyk⟩ : ∃ y, lc[k]? = some y := ⟨_, List.getElem?_eq_getElem (by have := HLC.out; have := HM1.out; omega)⟩
          have c2 := hcells k yk hyk
          have f2 := hfrz k
          have hm13 : (m1 : Int) ≤ 301 := by have := HM1.out; omega
          have hk0 : (0 : Int) ≤ (k : Int) := by omega
          have hkI : (k : Int) < (m1 : Int) := by have := HM1.out; omega
          have HDONE : Hid ((∀ y, 0 < k → l[k - 1]? = some y → y ≤ x) → ((lc.set k x).Perm (x :: l) ∧ (lc.set k x).Pairwise (· ≤ ·))) := fun h => HIN.out.done HS.out h
          have hi3 : (i : Int) ≤ 300 := by omega
          by_cases hkz : 0 < k
          · have d1 : decide (0 < k) = true := decide_eq_true hkz
            obtain ⟨j, hk'⟩ : ∃ j, k = j + 1 := ⟨k - 1, by omega⟩
            obtain ⟨y, hy⟩ : ∃ y, l[j]? = some y := ⟨_, List.getElem?_eq_getElem (by have := HLM.out; omega)⟩
            have c3 := hcells j y (by rw [HIN.out.lo j (by omega)]; exact hy)
            have HY := Lib.hid hy
            have HK' := Lib.hid hk'
            have hkj : (k : Int) - 1 = (j : Int) := by omega
            have wj : IntKind.i64.wrap (j : Int) = (j : Int) := IntWalk.i64_in _ (by omega)
            have hj0 : (0 : Int) ≤ (j : Int) := by omega
            have hjI : (j : Int) < (m1 : Int) := by omega
            clear hy hyk hcells hfrz hk'
            by_cases hxy : x < y
            · have d2 : decide (x < y) = true := decide_eq_true hxy
              have HNX : Hid (Ins l (lc.set k y) j x) := by
                have := HIN.out
                rw [HK'.out] at this
                rw [HK'.out]
                exact this.step HY.out hxy
              have HGN : Hid (∀ n, Grw w ((wr.drewN n).setCell ⟨g, k, none⟩ (.int .i64 (y : Nat))) (lc.set k y) (.slice (some ⟨g, 0, none⟩) m1 c7)) := fun n => (HGW.out.drewN n).set HLC.out (by omega)
              go_wp2_with fail
              go_quiet (fail)
              go_wp2
              exact ⟨⟨j, lc.set k y, by have := HK'.out; omega, by go_num, HGN.out _, HNX.out⟩, by simp [intOf]; have := HK'.out; omega⟩
            · have d2 : decide (x < y) = false := decide_eq_false hxy
              have HFIN : Hid ((lc.set k x).Perm (x :: l) ∧ (lc.set k x).Pairwise (· ≤ ·)) := HDONE.out (fun z _ hz => by
                rw [HK'.out, Nat.add_sub_cancel, HY.out] at hz
                simp only [Option.some.injEq] at hz; omega)
              have HGN : Hid (∀ n, Grw w ((wr.drewN n).setCell ⟨g, k, none⟩ (.int .i64 (x : Nat))) (lc.set k x) (.slice (some ⟨g, 0, none⟩) m1 c7)) := fun n => (HGW.out.drewN n).set HLC.out (by omega)
              go_wp2_with fail
              go_quiet (fail)
              go_wp2
              exact ⟨⟨i + 1, m1, _, c7, lc.set k x, by omega, by have := HM1.out; omega, by rw [List.length_set, HLC.out], rfl, by go_num, HGN.out _, HPX.out _ HFIN.out.1, HFIN.out.2⟩, by simp [intOf]; omega⟩
          · obtain rfl : k = 0 := by omega
            have HFIN : Hid ((lc.set 0 x).Perm (x :: l) ∧ (lc.set 0 x).Pairwise (· ≤ ·)) := HDONE.out (fun z h => by omega)
            have HGN : Hid (∀ n, Grw w ((wr.drewN n).setCell ⟨g, 0, none⟩ (.int .i64 (x : Nat))) (lc.set 0 x) (.slice (some ⟨g, 0, none⟩) m1 c7)) := fun n => (HGW.out.drewN n).set HLC.out (by omega)
            clear hcells hfrz hyk
            go_wp2_with fail
            go_quiet (fail)
            go_wp2
            exact ⟨⟨i + 1, m1, _, c7, lc.set 0 x, by omega, by have := HM1.out; omega, by rw [List.length_set, HLC.out], rfl, by go_num, HGN.out _, HPX.out _ HFIN.out.1, HFIN.out.2⟩, by simp [intOf]; omega⟩
    · obtain rfl : i = n := by omega
      have hdi : decide (i < i) = false := decide_eq_false (by omega)
      have HE : Hid (∀ v, v = Value.slice a6 m c6 → LgR F i w (.returned v) wr) := fun v hv => ⟨a6, m, c6, l, by rw [hv], HLM.out, HP.out, HS.out, HG.out⟩
      clear HG HP HS
      go_wp2
      go_returns
      exact HE.out _ rfl
end Go.Proofs.Ytfbcmjgiejjpmaa
