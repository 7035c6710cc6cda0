/- The walk of InflateBack. -/
import Derived.Test.YteajjanjkhhgdaaDoorIwOpen
import Derived.Test.YteajjanjkhhgdaaDoorInfLawS
import Derived.Test.YteajjanjkhhgdaaDoorIkCopy
namespace Go.Proofs.YteajjanjkhhgdaaDoor
open Go.RowKit Go
open Lz (Pc)

/-- what is written up to a block -/
def StrF (L i n V : Nat) (T : List Int) : Prop := V < 2 ^ n ∧ ((i < L ∨ L = 0) → Inf.Str n V T) ∧ (i = L → 0 < L → ∀ Vf N M, Vf % 2 ^ n = V → n ≤ N → T.length ≤ M → Inf.inflate Vf N M = .ok n T)
theorem StrF.zero (L : Nat) : StrF L 0 0 0 [] := ⟨by decide, fun _ => Inf.Str.nil, fun h1 h2 => by omega⟩
theorem StrF.step {L i n V n' V' lst : Nat} {T T' : List Int} (h : StrF L i n V T) (hi : i < L) (hl : lst = if i + 1 = L then 1 else 0) (hb : Inf.Blk lst n V n' V' T T') : StrF L (i + 1) n' V' T' := by
  refine ⟨hb.lt, fun h1 => ?_, fun h1 h2 => ?_⟩
  · exact (h.2.1 (.inl hi)).go hb (by rw [hl, if_neg (by omega)]; decide)
  · exact (h.2.1 (.inl hi)).fin hb (by rw [hl, if_pos h1])
/-- all pieces, the writer -/
structure BkS (w wr : World) (g L i n V : Nat) (v5 : Value) (AL : List Pc) (T : List Int) : Prop where
  iw : Iw w w wr g n V
  own : wr.ownsRow w.heap.size 79 3 v5 AL.length (lpk AL)
  ex : Lz.ex [] AL = some T
  wf : PcWf AL
  len : AL.length ≤ 300 * i
  top : T.length ≤ 8000
  bits : n ≤ 70000 * i
  str : StrF L i n V T
theorem BkS.later {w wr w' : World} {g L i n V : Nat} {v5 : Value} {AL : List Pc} {T : List Int} (h : BkS w wr g L i n V v5 AL T) (hb : Below wr.heap.size wr w') : BkS w w' g L i n V v5 AL T :=
  ⟨h.iw.later hb, own_past h.own hb, h.ex, h.wf, h.len, h.top, h.bits, h.str⟩
/-- all the pieces' row grows: the writer stays -/
theorem Iw.grown3 {w wr w' : World} {g n V m : Nat} {v5 : Value} {xs : List Value} (h : Iw w w wr g n V) (ho : wr.ownsRow w.heap.size 79 3 v5 m xs) (hg : wr.grownBy w' v5.ownBlock) : Iw w w w' g n V := by
  obtain ⟨u, hu⟩ := h.wr
  have hbl : Below w.heap.size w w' := h.bel.grown hg h.bel.size (fun k hk => (Inf.own_type ho hk).1)
  refine ⟨hbl, h.lo, ⟨u, hu.other (hg.block g (Inf.lt_some hu.row) (fun e => ?_)) (fun k hk => ?_)⟩, Kp.below hbl⟩
  · obtain ⟨_, cur, hc⟩ := Inf.own_type ho e.symm
    exact Inf.ne_ty hu.row hc (by decide) rfl
  · obtain ⟨_, cur, hc⟩ := Inf.own_type hu.own hk
    refine hg.block k (Inf.lt_some hc) (fun e => ?_)
    obtain ⟨_, cur', hc'⟩ := Inf.own_type ho e.symm
    exact Inf.ne_ty hc hc' (by decide) rfl
theorem own_form3 {w : World} {base n : Nat} {v : Value} {xs : List Value} (h : w.ownsRow base 79 3 v n xs) : ∃ ad cp, v = .slice ad n cp := by
  rcases h.2 with ⟨rfl, rfl⟩ | ⟨gg, cap, cur, rfl, _⟩
  · exact ⟨_, _, rfl⟩
  · exact ⟨_, _, rfl⟩
theorem It.of {w w4 w5 : World} {g n V : Nat} {v : Value} {T : List Int} (h : Iw w w w4 g n V) (hx : Ex w4 w5 v T) : It w w w5 g n V v T := by
  obtain ⟨u, hu⟩ := h.wr
  refine ⟨h.later hx.bel, own_low hx.own h.bel.size, ⟨u, hu.later hx.bel (Nat.le_refl _), fun k hk e => ?_⟩⟩
  have h1 := (hx.own.lt k hk).1
  have h2 := (hu.own.lt k e).2
  omega
theorem It.cell {w w5 : World} {g n V m c : Nat} {a : Option Addr} {T : List Int} (h : It w w w5 g n V (.slice a m c) T) (hm : m = T.length) {j : Nat} (hj : j < T.length) : ∃ s, a = some ⟨s, 0, none⟩ ∧ w5.cell? ⟨s, j, none⟩ = some (.int .u8 (T.getD j 0)) := by
  rcases h.own.2 with ⟨e, h0⟩ | ⟨b, cap, cur, e, q1, q2, q3, q4, q5, q6⟩
  · omega
  · cases e
    refine ⟨b, rfl, ?_⟩
    rw [cell_of_row _ _ _ _ _ _ q2]
    have := k8_get T j hj
    rw [← q6, List.getElem?_take, if_pos (by omega), Array.getElem?_toList] at this
    exact this
theorem own_kp3 {w wr w' : World} {g n V m base : Nat} {v5 : Value} {xs : List Value} (h : wr.ownsRow base 79 3 v5 m xs) (hi : Iw w w wr g n V) (hk : Kp g wr w') : w'.ownsRow base 79 3 v5 m xs := by
  obtain ⟨c, hc⟩ := hi.row
  exact hk.own h hc (by decide) (by decide)

set_option maxRecDepth 100000 in
set_option maxHeartbeats 600000 in
theorem iback_walk (a : Option Addr) (n cap : Nat) (L : List Bk) (a2 : Option Addr) (n2 cap2 : Nat) (B : List Int) (w : World) (hT : Tabs w) (hL : BksIn w a n L) (hn2 : n2 = B.length) (hB : BytesIn w (.slice a2 n2 cap2) B (fun _ => True)) (hb : ∀ x ∈ B, 0 ≤ x ∧ x < 256) (hna : a2 = none → cap2 = 0) (_hl : n2 ≤ 140737488351232) :
    Calls Tryd.prog 6 #[.slice a n cap, .slice a2 n2 cap2] w fun e w' => e = .returned (.bool true) ∧ Below w.heap.size w w' := by
  have HAW := Lib.hid (awake_any w hT)
  have HT := Lib.hid hT
  have HLL := Lib.hid hL
  have HN2 := Lib.hid hn2
  have HB := Lib.hid hB
  have HBB := Lib.hid hb
  have HNA := Lib.hid hna
  by_cases c1 : 6 < n
  · have d1 : decide (6 < n) = true := decide_eq_true c1
    have d1' : decide (6 < (n : Int)) = true := decide_eq_true (by omega)
    clear hT hL hn2 hB hb hna _hl c1
    go_enter Tryd.func6, Tryd.ntmps6
    go_wp2_with fail
    refine HAW.out.mono ?_
    rintro e w1 ⟨rfl, h1⟩
    have K := Lib.hid h1
    clear h1 HAW
    go_wp2
    go_ret
    exact ⟨rfl, K.out⟩
  · have d1 : decide (6 < n) = false := decide_eq_false c1
    have d1' : decide (6 < (n : Int)) = false := decide_eq_false (by omega)
    by_cases c2 : 300 < n2
    · have d2 : decide (300 < n2) = true := decide_eq_true c2
      have d2' : decide (300 < (n2 : Int)) = true := decide_eq_true (by omega)
      clear hT hL hn2 hB hb hna _hl c1 c2
      go_enter Tryd.func6, Tryd.ntmps6
      go_wp2_with fail
      refine HAW.out.mono ?_
      rintro e w1 ⟨rfl, h1⟩
      have K := Lib.hid h1
      clear h1 HAW
      go_wp2
      go_ret
      exact ⟨rfl, K.out⟩
    · have d2 : decide (300 < n2) = false := decide_eq_false c2
      have d2' : decide (300 < (n2 : Int)) = false := decide_eq_false (by omega)
      have HNN : Hid (n ≤ 6 ∧ n2 ≤ 300) := by unfold Hid; omega
      have hnI : (n : Int) ≤ 6 := by omega
      have hn2I : (n2 : Int) ≤ 300 := by omega
      clear hT hL hn2 hB hb hna _hl c1 c2
      go_enter Tryd.func6, Tryd.ntmps6
      go_wp2_with fail
      refine HAW.out.mono ?_
      rintro e w1 ⟨rfl, h1⟩
      have HWN := Lib.hid (wnew_any w1)
      have B1 := Lib.hid h1
      clear h1 HAW
      go_wp2_with fail
      refine HWN.out.mono ?_
      rintro e w2 ⟨rfl, rfl⟩
      obtain ⟨g, hg⟩ : ∃ g, g = w1.heap.size := ⟨_, rfl⟩
      have HS0 : Hid (BkS w (w1.alloc (.cells (wrCells (.pointer (some ⟨w1.heap.size, 0, none⟩)) (.slice none 0 0) 0 0) 77)) g n 0 0 0 (.slice none 0 0) [] []) := by
        have hbl : Below w.heap.size w (w1.alloc (.cells (wrCells (.pointer (some ⟨w1.heap.size, 0, none⟩)) (.slice none 0 0) 0 0) 77)) := B1.out.alloc B1.out.size _
        refine ⟨⟨hbl, by rw [hg]; exact B1.out.size, ⟨.slice none 0 0, by rw [hg]; exact heap_alloc_new _ _, ⟨rfl, .inl ⟨rfl, rfl⟩⟩, by decide⟩, Kp.below hbl⟩, World.ownsRow_nil _ _ _ _, rfl, (fun p hp => by cases hp), by simp, by simp, by omega, StrF.zero n⟩
      rw [← hg] at HS0
      rw [← hg]
      clear hg HWN B1
      go_wp2_with fail
      generalize w1.alloc (.cells (wrCells (.pointer (some ⟨g, 0, none⟩)) (.slice none 0 0) 0 0) 77) = w2 at *
      go_loopw [5, 7, 8, 9, 10, 11, 12, 13, 14, 15, 16, 17] (fun v5 v7 _ _ _ _ _ _ _ _ _ _ wr => ∃ (i m V : Nat) (a5 : Option Addr) (c5 : Nat) (AL : List Pc) (T : List Int), i ≤ n ∧ v7 = .int .i64 (i : Int) ∧ v5 = .slice a5 AL.length c5 ∧ BkS w wr g n i m V (.slice a5 AL.length c5) AL T) (fun _ v7 _ _ _ _ _ _ _ _ _ _ _ => (n - intOf v7).toNat)
      case atStart => exact ⟨0, 0, 0, none, 0, [], [], by omega, rfl, rfl, HS0.out⟩
      case round =>
        clear HS0
        obtain ⟨i, m, V, a5, c5, AL, T, hi, rfl, rfl, hs⟩ := hrel
        have HS := Lib.hid hs
        obtain ⟨z, hz⟩ : ∃ z, z = AL.length := ⟨_, rfl⟩
        have HZ := Lib.hid hz
        rw [← hz]
        rw [← hz] at HS
        by_cases hlt : i < n
        · have d3 : decide (i < n) = true := decide_eq_true hlt
          have d3' : decide ((i : Int) < (n : Int)) = true := decide_eq_true (by omega)
          have HI : Hid (i < n) := hlt
          have hiI : (i : Int) < (n : Int) := by omega
          have hil : i < L.length := by rw [← HLL.out.1]; exact hlt
          obtain ⟨b, hbk⟩ : ∃ b, L[i]? = some b := ⟨_, List.getElem?_eq_getElem hil⟩
          obtain ⟨s, o, ap, np, cp, hbat⟩ := HLL.out.2 i b hbk
          have HBA := Lib.hid hbat
          obtain rfl := hbat.ad
          have hb1 := hbat.later hs.iw.bel
          have q1 := hb1.pc
          have q0 := hb1.kd
          clear hi hlt hil hbk hbat hb1 hs
          by_cases c3 : 300 < np
          · have d4 : decide (300 < np) = true := decide_eq_true c3
            have d4' : decide (300 < (np : Int)) = true := decide_eq_true (by omega)
            clear c3 hz
            go_wp2
            go_ret
            exact ⟨rfl, HS.out.iw.bel⟩
          · have d4 : decide (300 < np) = false := decide_eq_false c3
            have d4' : decide (300 < (np : Int)) = false := decide_eq_false (by omega)
            have HNP : Hid (np ≤ 300) := by unfold Hid; omega
            have hnpI : (np : Int) ≤ 300 := by omega
            obtain ⟨Lm, hLm⟩ : ∃ Lm : Int, (n : Int) - 1 = Lm := ⟨_, rfl⟩
            obtain ⟨lst, hlst⟩ : ∃ lst : Nat, lst = if i + 1 = n then 1 else 0 := ⟨_, rfl⟩
            have HLST := Lib.hid hlst
            have HZL : Hid (z ≤ 1800) := by have := HS.out.len; have := HZ.out; have := HNN.out; have := HI.out; unfold Hid; omega
            have hz6 : (z : Int) ≤ 1800 := by have := HZL.out; omega
            have HEX1 := Lib.hid (exp_any AL a5 z c5 wr HZ.out (by have := HZL.out; omega) (by
              have := (own_pieces HS.out.own).1
              exact this.mono (Nat.le_refl _) (fun _ _ _ => trivial) (fun _ _ _ _ => rfl)) HS.out.wf)
            rw [HS.out.ex] at HEX1
            simp only [Option.isSome_some, Option.getD_some] at HEX1
            clear c3 hz
            by_cases c4 : i + 1 = n
            case' pos =>
              have d5 : ((i : Int) == Lm) = true := by simp; omega
              have HPL : Hid (∀ (wz : World) (n V : Nat) (vt : Value) (D : List Int), It w w wz g n V vt D → n ≤ 1000000000 → Calls Tryd.prog 20 #[.pointer (some ⟨g, 0, none⟩), .int .u32 1, .int .i64 1] wz fun e w' => e = .returned (.bool true) ∧ It w w w' g (n + 1) (V + lst * 2 ^ n) vt D ∧ Kp g wz w') := fun wz n V vt D h hn => by
                rw [show lst = 1 from by rw [hlst, if_pos c4]]
                exact h.put 1 1 (by omega) (by omega) (by decide) hn
              have HL2 : Hid (lst < 2) := by unfold Hid; rw [hlst]; split <;> omega
            case' neg =>
              have d5 : ((i : Int) == Lm) = false := by simp; omega
              have HPL : Hid (∀ (wz : World) (n V : Nat) (vt : Value) (D : List Int), It w w wz g n V vt D → n ≤ 1000000000 → Calls Tryd.prog 20 #[.pointer (some ⟨g, 0, none⟩), .int .u32 0, .int .i64 1] wz fun e w' => e = .returned (.bool true) ∧ It w w w' g (n + 1) (V + lst * 2 ^ n) vt D ∧ Kp g wz w') := fun wz n V vt D h hn => by
                rw [show lst = 0 from by rw [hlst, if_neg c4]]
                exact h.put 0 1 (by omega) (by omega) (by decide) hn
              have HL2 : Hid (lst < 2) := by unfold Hid; rw [hlst]; split <;> omega
            all_goals
              clear c4 hlst
              go_wp2_with fail
              refine HEX1.out.mono ?_
              rintro en w3 ⟨v9, rfl, hx, -⟩
              obtain ⟨a9, c9, rfl⟩ := hx.form
              have S3 := Lib.hid (HS.out.later hx.bel)
              have q1 := (HBA.out.later S3.out.iw.bel).pc
              have P3 := Lib.hid (HBA.out.later S3.out.iw.bel)
              obtain ⟨tl, htl⟩ : ∃ tl, tl = T.length := ⟨_, rfl⟩
              have HTL := Lib.hid htl
              have htl8 : (tl : Int) ≤ 8000 := by have := HS.out.top; omega
              rw [← htl]
              have HBL : Hid (b.ps.length ≤ 300) := by have := P3.out.len; have := HNP.out; unfold Hid; omega
              clear hx HEX1 HS q0 htl hLm
              go_wp2_with (first | (at_builtin; refine wpList_append_pieces rfl (.tmp 58) (.tmp 63) rfl w.heap.size _ z (lpk AL) rfl (by have := S3.out.own; rw [← HZ.out] at this; exact this) _ b.ps (fun _ => True) rfl P3.out.pin (fun n c e => by cases e; exact P3.out.nil rfl) (by have := HZL.out; have := HBL.out; omega) S3.out.iw.bel.size ?_; intro v5 w4 o4 g4; obtain ⟨a6, c6, rfl⟩ := own_form3 o4.out; have IW4 := Lib.hid (S3.out.iw.grown3 S3.out.own g4.out); have OW4 := Lib.hid o4.out; clear o4 g4))
              have HAL : Hid (z + b.ps.length = (AL ++ b.ps).length ∧ PcWf (AL ++ b.ps)) := by
                refine ⟨by rw [List.length_append, HZ.out], fun p hp => ?_⟩
                rcases List.mem_append.1 hp with e | e
                · exact S3.out.wf p e
                · exact P3.out.wf p e
              have HEX2 := Lib.hid (exp_any (AL ++ b.ps) a6 (z + b.ps.length) c6 w4 HAL.out.1 (by have := HZL.out; have := HBL.out; omega) (by
                have h1 := OW4.out
                rw [← lpk_app] at h1
                exact (own_pieces h1).1.mono (Nat.le_refl _) (fun _ _ _ => trivial) (fun _ _ _ _ => rfl)) HAL.out.2)
              have HEQ : Lz.ex [] (AL ++ b.ps) = Lz.ex T b.ps := by rw [Lz.ex_append, S3.out.ex]; rfl
              rw [HEQ] at HEX2
              obtain ⟨zz, hzz⟩ : ∃ zz, zz = z + b.ps.length := ⟨_, rfl⟩
              have HZZ := Lib.hid hzz
              rw [← hzz] at HEX2 OW4 HAL
              rw [← hzz]
              cases hTP : Lz.ex T b.ps with
              | none =>
                rw [hTP] at HEX2
                simp only [Option.isSome_none, Option.getD_none] at HEX2
                clear hTP HEQ hzz
                refine HEX2.out.mono ?_
                rintro en w5 ⟨v11, rfl, hx5, -⟩
                have B5 : Hid (Below w.heap.size w w5) := IW4.out.bel.trans (hx5.bel.mono IW4.out.bel.size)
                clear hx5 HEX2
                go_wp2
                go_ret
                exact ⟨rfl, B5.out⟩
              | some T' =>
                rw [hTP] at HEX2
                simp only [Option.isSome_some, Option.getD_some] at HEX2
                have HTP := Lib.hid hTP
                clear hTP HEQ hzz
                refine HEX2.out.mono ?_
                rintro en w5 ⟨v11, rfl, hx5, hby⟩
                obtain ⟨a11, c11, rfl⟩ := hx5.form
                have IT5 := Lib.hid (It.of IW4.out hx5)
                have OW5 := Lib.hid (own_past OW4.out hx5.bel)
                have HBY := Lib.hid hby
                obtain ⟨tt, htt⟩ : ∃ tt, tt = T'.length := ⟨_, rfl⟩
                have HTT := Lib.hid htt
                rw [← htt]
                rw [← htt] at IT5
                clear hx5 hby HEX2 htt OW4 IW4
                by_cases c7 : 8000 < tt
                · have d7 : decide (8000 < tt) = true := decide_eq_true c7
                  have d7' : decide (8000 < (tt : Int)) = true := decide_eq_true (by omega)
                  clear c7
                  go_wp2
                  go_ret
                  exact ⟨rfl, IT5.out.iw.bel⟩
                · have d7 : decide (8000 < tt) = false := decide_eq_false c7
                  have d7' : decide (8000 < (tt : Int)) = false := decide_eq_false (by omega)
                  have HT8 : Hid (tt ≤ 8000) := by unfold Hid; omega
                  have htt8 : (tt : Int) ≤ 8000 := by omega
                  clear c7
                  have HMM : Hid (m ≤ 420000) := by have := S3.out.bits; have := HI.out; have := HNN.out; unfold Hid; omega
                  have PT1 := Lib.hid (HPL.out _ _ _ _ _ IT5.out (by have := HMM.out; omega))
                  go_wp2_with fail
                  refine PT1.out.mono ?_
                  rintro en w6 ⟨rfl, g1, g2⟩
                  have IT6 := Lib.hid g1
                  have OW6 := Lib.hid (own_kp3 OW5.out IT5.out.iw g2)
                  have q0 := (HBA.out.later g1.iw.bel).kd
                  obtain ⟨kk, hkk⟩ : ∃ kk : Nat, b.k % 3 = (kk : Int) := ⟨(b.k % 3).toNat, by omega⟩
                  have hk3 : kk < 3 := by omega
                  have HPK := Lib.hid (fun wx => pick_any b.k 3 wx HBA.out.k0 HBA.out.k1 (by omega) (by omega))
                  rw [hkk] at HPK
                  clear g1 g2 PT1 IT5 OW5 hkk
                  go_wp2_with fail
                  refine (HPK.out _).mono ?_
                  rintro en w7 ⟨rfl, rfl⟩
                  have PT2 := Lib.hid (IT6.out.put kk 2 (by omega) (by omega) (by have : (2 : Nat) ^ 2 = 4 := rfl; omega) (by have := HMM.out; omega))
                  have hwk : IntKind.u32.wrap (kk : Int) = (kk : Int) := by rw [IntKind.wrap_u32]; omega
                  clear HPK q0
                  go_wp2_with fail
                  refine PT2.out.mono ?_
                  rintro en w8 ⟨rfl, g1, g2⟩
                  have IT8 := Lib.hid g1
                  have OW8 := Lib.hid (own_kp3 OW6.out IT6.out.iw g2)
                  rw [show m + 1 + 2 = m + 3 by omega] at IT8
                  obtain ⟨V3, hV3⟩ : ∃ V3, V3 = V + lst * 2 ^ m + kk * 2 ^ (m + 1) := ⟨_, rfl⟩
                  rw [← hV3] at IT8
                  have HV3 := Lib.hid hV3
                  have HV0 : Hid (V < 2 ^ m) := S3.out.iw.lt
                  have HK3 : Hid (kk < 4) := by unfold Hid; omega
                  have HFIN : Hid (∀ (wX : World) (n' V' : Nat), Iw w w wX g n' V' → wX.ownsRow w.heap.size 79 3 (.slice a6 zz c6) zz (lpk AL ++ lpk b.ps) → n' ≤ m + 70000 → m + 3 ≤ n' → V' % 2 ^ (m + 3) = V3 → (∀ Vf N M, Vf % 2 ^ n' = V' → n' ≤ N → T'.length ≤ M → Inf.block Vf N M kk (m + 3) T = .ok n' T') → BkS w wX g n (i + 1) n' V' (.slice a6 (AL ++ b.ps).length c6) (AL ++ b.ps) T') := by
                    intro wX n' V' e1 e2 e3 e4 e5 e6
                    obtain ⟨D, hD⟩ := Lz.ex_pre b.ps T T' HTP.out
                    refine ⟨e1, by rw [← HAL.out.1, lpk_app]; exact e2, by rw [Lz.ex_append, S3.out.ex]; exact HTP.out, HAL.out.2, ?_, by rw [← HTT.out]; exact HT8.out, by have := S3.out.bits; omega, ?_⟩
                    · rw [List.length_append]; have := S3.out.len; have := HBL.out; omega
                    · exact S3.out.str.step HI.out HLST.out (Inf.Blk.of HV0.out HL2.out HK3.out e4 (by rw [← HV3.out]; exact e5) e1.lt (by rw [hD, List.length_append]; omega) e6)
                  clear g1 g2 PT2 IT6 OW6 hV3
                  rcases (by omega : kk = 0 ∨ kk = 1 ∨ kk = 2) with rfl | rfl | rfl
                  · obtain ⟨D, hD⟩ := Lz.ex_pre b.ps T T' HTP.out
                    obtain ⟨dl, hdl⟩ : ∃ dl, dl = D.length := ⟨_, rfl⟩
                    have HDL : Hid (dl = D.length ∧ T' = T ++ D ∧ tt = tl + dl) := ⟨hdl, hD, by rw [HTT.out, hD, List.length_append, HTL.out, hdl]⟩
                    have hsub : (tt : Int) - (tl : Int) = (dl : Int) := by have := HDL.out.2.2; omega
                    have hdl8 : (dl : Int) ≤ 8000 := by omega
                    obtain ⟨du, hdu⟩ : ∃ du, du = 65535 - dl := ⟨_, rfl⟩
                    have hduI : 65535 - (dl : Int) = (du : Int) := by omega
                    have HDU : Hid (du = 65535 - dl ∧ dl ≤ 8000) := ⟨hdu, by omega⟩
                    obtain ⟨pu, hpu⟩ : ∃ pu, pu = Inf.up (m + 3) := ⟨_, rfl⟩
                    have HPU : Hid (pu = Inf.up (m + 3) ∧ pu ≤ m + 10) := ⟨hpu, by rw [hpu]; unfold Inf.up; omega⟩
                    have PT1 := Lib.hid (IT8.out.align (by have := HMM.out; omega))
                    rw [← hpu] at PT1
                    clear hk3 hwk hD hdl hdu hpu
                    go_wp2_with fail
                    refine PT1.out.mono ?_
                    rintro en w9 ⟨rfl, g1, g2⟩
                    have IT9 := Lib.hid g1
                    have OW9 := Lib.hid (own_kp3 OW8.out IT8.out.iw g2)
                    have PT2 := Lib.hid (g1.put dl 16 (by have := HDU.out.2; omega) (by omega) (by have := HDU.out.2; have : (2 : Nat) ^ 16 = 65536 := rfl; omega) (by have := HMM.out; have := HPU.out.2; omega))
                    have hwd : IntKind.u32.wrap (dl : Int) = (dl : Int) := by rw [IntKind.wrap_u32]; omega
                    have hwu : IntKind.u32.wrap (du : Int) = (du : Int) := by rw [IntKind.wrap_u32]; omega
                    clear g1 g2 PT1
                    go_wp2_with fail
                    refine PT2.out.mono ?_
                    rintro en w10 ⟨rfl, g1, g2⟩
                    have IT10 := Lib.hid g1
                    have OW10 := Lib.hid (own_kp3 OW9.out IT9.out.iw g2)
                    have PT3 := Lib.hid (g1.put du 16 (by have := HDU.out; omega) (by omega) (by have := HDU.out; have : (2 : Nat) ^ 16 = 65536 := rfl; omega) (by have := HMM.out; have := HPU.out.2; omega))
                    clear g1 g2 PT2 IT9 OW9
                    go_wp2_with fail
                    refine PT3.out.mono ?_
                    rintro en w11 ⟨rfl, g1, g2⟩
                    have IT11 := Lib.hid g1
                    have OW11 := Lib.hid (own_kp3 OW10.out IT10.out.iw g2)
                    rw [show pu + 16 + 16 = pu + 32 by omega] at IT11
                    obtain ⟨V5, hV5⟩ : ∃ V5, V5 = V3 + dl * 2 ^ pu + du * 2 ^ (pu + 16) := ⟨_, rfl⟩
                    rw [← hV5] at IT11
                    have HV5 := Lib.hid hV5
                    have HV3L : Hid (V3 < 2 ^ (m + 3)) := IT8.out.iw.lt
                    clear g1 g2 PT3 IT10 OW10 hV5 IT8 OW8
                    go_wp2_with fail
                    go_loopw [15] (fun v15 wr => ∃ (j n' V' : Nat), j ≤ dl ∧ v15 = .int .i64 ((tl + j : Nat) : Int) ∧ It w w wr g n' V' (.slice a11 tt c11) T' ∧ wr.ownsRow w.heap.size 79 3 (.slice a6 zz c6) zz (lpk AL ++ lpk b.ps) ∧ Inf.Bys (pu + 32) V5 n' V' (D.take j)) (fun v15 _ => (tt - intOf v15).toNat)
                    case atStart => exact ⟨0, pu + 32, V5, by omega, rfl, IT11.out, OW11.out, by rw [List.take_zero]; exact Inf.Bys.nil IT11.out.iw.lt⟩
                    case round =>
                      clear IT11 OW11
                      obtain ⟨j, n', V', hj, rfl, hit, how, hbs⟩ := hrel
                      have IT := Lib.hid hit
                      have OW := Lib.hid how
                      have BS := Lib.hid hbs
                      have HNB : Hid (n' = pu + 32 + 8 * j) := by
                        have := hbs.le
                        rw [List.length_take] at this
                        have := HDL.out.1
                        unfold Hid; omega
                      obtain ⟨kj, hkj⟩ : ∃ kj, kj = tl + j := ⟨_, rfl⟩
                      rw [← hkj]
                      have HKJ := Lib.hid hkj
                      by_cases hlt : j < dl
                      · have hkt : kj < tt := by have := HDL.out.2.2; omega
                        have d8 : decide (kj < tt) = true := decide_eq_true hkt
                        have d8' : decide ((kj : Int) < (tt : Int)) = true := decide_eq_true (by omega)
                        have hktI : (kj : Int) < (tt : Int) := by omega
                        obtain ⟨s11, rfl, cT⟩ := hit.cell HTT.out (j := kj) (by rw [← HTT.out]; exact hkt)
                        obtain ⟨x, hx⟩ : ∃ x : Nat, T'.getD kj 0 = (x : Int) := ⟨(T'.getD kj 0).toNat, by have := (Lz.byt_getD HBY.out kj).1; omega⟩
                        have hx8 : x < 256 := by have := (Lz.byt_getD HBY.out kj).2; omega
                        rw [hx] at cT
                        have HDX : Hid (D.take (j + 1) = D.take j ++ [(x : Int)]) := by
                          have hjD : j < D.length := by rw [← HDL.out.1]; exact hlt
                          unfold Hid
                          rw [Lz.take_getD D j hjD]
                          congr 2
                          rw [← hx, hkj, HTL.out, HDL.out.2.1, List.getD_eq_getElem?_getD, List.getD_eq_getElem?_getD, List.getElem?_append_right (by omega), Nat.add_sub_cancel_left]
                        have hwx : IntKind.u32.wrap (x : Int) = (x : Int) := by rw [IntKind.wrap_u32]; omega
                        have PT := Lib.hid (hit.put x 8 (by omega) (by omega) (by have : (2 : Nat) ^ 8 = 256 := rfl; omega) (by have := HNB.out; have := HMM.out; have := HPU.out.2; have := HDU.out.2; omega))
                        have HLT := Lib.hid hlt
                        have HX8 := Lib.hid hx8
                        clear hj hlt hit how hbs hkj hx hkt
                        go_wp2_with fail
                        refine PT.out.mono ?_
                        rintro en w12 ⟨rfl, g1, g2⟩
                        have F1 := Lib.hid g1
                        have F2 := Lib.hid (own_kp3 OW.out IT.out.iw g2)
                        have F3 : Hid (Inf.Bys (pu + 32) V5 (n' + 8) (V' + x * 2 ^ n') (D.take (j + 1))) := by
                          unfold Hid
                          rw [HDX.out]
                          exact BS.out.snoc x HX8.out
                        clear g1 g2 PT IT OW
                        go_wp2
                        exact ⟨⟨j + 1, _, _, by have := HLT.out; omega, by rw [HKJ.out]; go_num, F1.out, F2.out, F3.out⟩, by have := HLT.out; have := HKJ.out; have := HDL.out.2.2; simp [intOf]; omega⟩
                      · have hkt : ¬ kj < tt := by have := HDL.out.2.2; omega
                        have d8 : decide (kj < tt) = false := decide_eq_false hkt
                        have d8' : decide ((kj : Int) < (tt : Int)) = false := decide_eq_false (by omega)
                        rw [List.take_of_length_le (by have := HDL.out.1; omega)] at hbs
                        have HBK : Hid (BkS w wr g n (i + 1) n' V' (.slice a6 (AL ++ b.ps).length c6) (AL ++ b.ps) T') := by
                          have e1 := HDL.out.1
                          have e2 := HDU.out
                          have e3 := HPU.out
                          rw [HV5.out, e2.1, e1, e3.1] at hbs
                          obtain ⟨r1, r2⟩ := Inf.stored_put (T := T) HV3L.out (by omega) hbs
                          refine HFIN.out wr n' V' hit.iw how (by have := HNB.out; omega) (by have := HNB.out; have h5 := Inf.le_up (m + 3); omega) r1 ?_
                          rw [HDL.out.2.1]
                          exact r2
                        clear hj hlt hit how hbs hkj hkt IT OW BS
                        go_wp2
                        exact ⟨⟨i + 1, n', V', a6, c6, _, T', by have := HI.out; omega, by go_num, by rw [HAL.out.1], HBK.out⟩, by have := HI.out; simp [intOf]; omega⟩
                  · have HFX := Lib.hid (rfixed_any w8)
                    clear hk3 hwk
                    go_wp2_with fail
                    refine HFX.out.mono ?_
                    rintro en w9 ⟨v1, v2, rfl, h1, h2, h3⟩
                    obtain ⟨af, cf, rfl, I1⟩ := Irow.own h2 Inf.fix_len2
                    obtain ⟨ad, cd, rfl, I2⟩ := Irow.own h3 (show Inf.fixd.length = 32 from by kernel_rfl)
                    have IW9 := Lib.hid (IT8.out.iw.later h1)
                    have OW9 := Lib.hid (own_past OW8.out h1)
                    have q5 := (HBA.out.later IW9.out.bel).pc
                    have HPC := Lib.hid (wpieces_any Inf.fixl Inf.fixd Inf.mk_fixl Inf.mk_fixd af 288 cf ad 32 cd ap np cp b.ps w w w9 g (m + 3) V3 T T' IW9.out (by have := HMM.out; omega) Inf.fix_len2.symm (by kernel_rfl) I1 I2 HBA.out.pin HBA.out.len (by have := HNP.out; omega) (Lz.ex_ok _ _ _ HTP.out HBA.out.wf) (fix_cov (Lz.ex_ok _ _ _ HTP.out HBA.out.wf)) (Nat.le_trans (by decide) (Inf.fix_min 256 (by omega))) HTP.out)
                    clear h1 h2 h3 I1 I2 HFX IT8 OW8 q1
                    go_wp2_with fail
                    refine HPC.out.mono ?_
                    rintro en w10 ⟨rfl, m1, W1, m2, W2, g1, g2, g3, g4, g5⟩
                    have HBK : Hid (BkS w w10 g n (i + 1) m2 W2 (.slice a6 (AL ++ b.ps).length c6) (AL ++ b.ps) T') := by
                      have u1 := g1.le
                      have u2 := g2.up
                      exact HFIN.out w10 m2 W2 g3 (own_kp3 OW9.out IW9.out g4) (by have := HBL.out; omega) (by omega) (Inf.low_of g2.low g1.le g1.low) (fun Vf N M f1 f2 f3 => by rw [Inf.kind1]; exact g1.fin g2 Vf N M f1 f2 f3)
                    clear g1 g2 g3 g4 g5 HPC
                    go_wp2
                    exact ⟨⟨i + 1, m2, W2, a6, c6, _, T', by have := HI.out; omega, by go_num, by rw [HAL.out.1], HBK.out⟩, by have := HI.out; simp [intOf]; omega⟩
                  · have q5 := (HBA.out.later IT8.out.iw.bel).pc
                    have HDY := Lib.hid (wdynamic_any ap np cp b.ps w w8 g (m + 3) V3 T T' IT8.out.iw.at_ (by have := HMM.out; omega) HBA.out.pin HBA.out.len (by have := HNP.out; omega) (Lz.ex_ok _ _ _ HTP.out HBA.out.wf) HTP.out)
                    clear hk3 hwk q1
                    go_wp2_with fail
                    refine HDY.out.mono ?_
                    rintro en w9 ⟨rfl, m2, W2, g1, g2, g3, g4, g5⟩
                    have HBK : Hid (BkS w w9 g n (i + 1) m2 W2 (.slice a6 (AL ++ b.ps).length c6) (AL ++ b.ps) T') :=
                      HFIN.out w9 m2 W2 (g1.from IT8.out.iw.kp) (own_kp3 OW8.out IT8.out.iw g1.kp) (by have := HBL.out; omega) g3 g2 g5
                    clear g1 g2 g3 g4 g5 HDY
                    go_wp2
                    exact ⟨⟨i + 1, m2, W2, a6, c6, _, T', by have := HI.out; omega, by go_num, by rw [HAL.out.1], HBK.out⟩, by have := HI.out; simp [intOf]; omega⟩
        · have d3 : decide (i < n) = false := decide_eq_false hlt
          have d3' : decide ((i : Int) < (n : Int)) = false := decide_eq_false (by omega)
          obtain rfl : i = n := by omega
          by_cases h0 : i = 0
          · subst h0
            clear hi hlt hs hz
            go_wp2
            go_ret
            exact ⟨rfl, HS.out.iw.bel⟩
          · have e0 : ((i : Int) == 0) = false := by simp; omega
            have HFI : Hid (∀ Vf N M, Vf % 2 ^ m = V → m ≤ N → T.length ≤ M → Inf.inflate Vf N M = .ok m T) := hs.str.2.2 rfl (by omega)
            have HMM : Hid (m ≤ 420000) := by have := hs.bits; have := HNN.out; unfold Hid; omega
            have HTOP : Hid (T.length ≤ 8000) := hs.top
            have HZL : Hid (z ≤ 1800) := by have := hs.len; have := HNN.out; unfold Hid; omega
            have HEX1 := Lib.hid (exp_any AL a5 z c5 wr HZ.out (by have := HZL.out; omega) (by
              have := (own_pieces HS.out.own).1
              exact this.mono (Nat.le_refl _) (fun _ _ _ => trivial) (fun _ _ _ _ => rfl)) HS.out.wf)
            rw [HS.out.ex] at HEX1
            simp only [Option.isSome_some, Option.getD_some] at HEX1
            clear hi hlt hs hz h0
            go_wp2_with fail
            refine HEX1.out.mono ?_
            rintro en w3 ⟨v18, rfl, hx, -⟩
            obtain ⟨a18, c18, rfl⟩ := hx.form
            have I3 := Lib.hid (HS.out.iw.later hx.bel)
            have O3 := Lib.hid hx.own
            obtain ⟨u, hu⟩ := I3.out.wr
            obtain ⟨mb, hmb⟩ : ∃ mb, mb = (m + 7) / 8 := ⟨_, rfl⟩
            have HMB : Hid (mb = (m + 7) / 8 ∧ mb ≤ 60000) := ⟨hmb, by have := HMM.out; omega⟩
            have PB1 := Lib.hid (wbytes_any g m V u w3 hu (by have := HMM.out; omega))
            have PB2 := Lib.hid (fun (wx : World) (hb : Below w3.heap.size w3 wx) => wbytes_any g m V u wx (hu.later hb (Nat.le_refl _)) (by have := HMM.out; omega))
            rw [← hmb] at PB1 PB2
            have hmb6 : (mb : Int) ≤ 60000 := by have := HMB.out.2; omega
            clear hx hu hmb HEX1 HS
            go_wp2_with fail
            refine PB1.out.mono ?_
            rintro en w4 ⟨rfl, -, hb4⟩
            have B4 := Lib.hid hb4
            have P5 := Lib.hid (PB2.out w4 hb4)
            clear hb4 PB1 PB2
            go_wp2_with fail
            refine P5.out.mono ?_
            rintro en w5 ⟨rfl, hr5, hb5⟩
            have B5 : Hid (Below w3.heap.size w3 w5) := B4.out.trans (hb5.mono B4.out.size)
            have BW5 : Hid (Below w.heap.size w w5) := I3.out.bel.trans (B5.out.mono I3.out.bel.size)
            have HY5 : Hid (BytesIn w5 (.slice (some ⟨w4.heap.size, 0, none⟩) mb mb) (Bit.by V mb) (fun _ => True)) := by
              have hbl : (Bit.by V mb).length = mb := Bit.by_length _ _
              refine ⟨_, mb, by rw [hbl], by rw [hbl]; exact Nat.le_refl _, by have := HMB.out.2; omega, fun _ => ⟨w4.heap.size, 0, rfl, trivial, Inf.lt_some hr5, fun j hj => ?_⟩⟩
              rw [Nat.zero_add, cell_of_row _ _ _ _ _ _ hr5]
              have := k8_get (Bit.by V mb) j hj
              simpa using this
            have HCP := Lib.hid (copy_any (Bit.by V mb) _ mb mb w5 (Bit.by_length _ _).symm HY5.out (fun e => by cases e) (by have := HMB.out.2; omega))
            clear hr5 hb5 P5 B4
            go_wp2_with fail
            refine HCP.out.mono ?_
            rintro en w6 ⟨v6, rfl, ho6, hb6⟩
            obtain ⟨a6, c6, rfl⟩ := own_slice ho6
            have BW6 : Hid (Below w.heap.size w w6) := BW5.out.trans (hb6.mono BW5.out.size)
            have B6 := Lib.hid hb6
            have O6 := Lib.hid ho6
            have Z56 : Hid (w5.heap.size ≤ w6.heap.size) := hb6.size
            have Z35 : Hid (w3.heap.size ≤ w5.heap.size) := B5.out.size
            rw [Bit.by_length] at O6
            rw [Bit.by_length]
            have HBM := Lib.hid (later_bytes BW6.out HB.out)
            clear ho6 hb6 HCP HY5
            go_wp2_with (first | (at_builtin; refine wpList_append_bytes_b (w0 := w5) rfl (.tmp 164) (.tmp 165) rfl w5.heap.size _ mb (k8 (Bit.by V mb)) rfl O6.out _ B (fun _ => True) rfl HBM.out (by intro n c e; cases e; exact HNA.out rfl) (by have := HMB.out.2; have := HN2.out; have := HNN.out.2; omega) B6.out Z56.out ?_; intro v7 w7 o7 b7; obtain ⟨a7, c7, rfl⟩ := own_slice o7.out; have O7 := Lib.hid o7.out; have B7 := Lib.hid b7.out; clear o7 b7))
            have BW7 : Hid (Below w.heap.size w w7) := BW5.out.trans (B7.out.mono BW5.out.size)
            have HLN : Hid (mb + B.length = (Bit.by V mb ++ B).length) := by unfold Hid; rw [List.length_append, Bit.by_length]
            have HYB : Hid (BytesIn w7 (.slice a7 (mb + B.length) c7) (Bit.by V mb ++ B) (fun _ => True)) := by
              have h1 := O7.out
              rw [← k8_app, HLN.out] at h1
              rw [HLN.out]
              exact own_in h1
            have HBX : Hid (∀ x ∈ Bit.by V mb ++ B, 0 ≤ x ∧ x < 256) := fun x hx => by
              rcases List.mem_append.1 hx with e | e
              · unfold Bit.by at e
                obtain ⟨j, _, rfl⟩ := List.mem_map.1 e
                have : Bit.b V j < 256 := Nat.mod_lt _ (by omega)
                exact ⟨by omega, by omega⟩
              · exact HBB.out x e
            have HPG := Lib.hid (told_pg_ok (M := 10000) HLN.out HBX.out (by have := HMB.out.2; have := HN2.out; have := HNN.out.2; omega) (by omega) (HFI.out (Bit.val (Bit.by V mb ++ B)) (8 * (mb + B.length)) 10000 (by rw [HMB.out.1]; exact Inf.val_more I3.out.lt B) (by have := HMB.out.1; omega) (by have := HTOP.out; omega)) w7 a7 c7 (HT.out.later BW7.out (Nat.le_refl _)) HYB.out)
            have O3' := Lib.hid (own_past O3.out (show Below w3.heap.size w3 w7 from B5.out.trans (B7.out.mono B5.out.size)))
            rw [← HMB.out.1] at HPG
            clear HYB HFI O7 O6 B6 HBM
            go_wp2_with fail
            refine HPG.out.mono ?_
            rintro en w8 ⟨h1, a8, c8, rfl, h2⟩
            have BW8 : Hid (Below w.heap.size w w8) := BW7.out.trans (h1.mono BW7.out.size)
            have HSM := Lib.hid (same_any T a8 T.length c8 a18 c18 w8 rfl (by have := HTOP.out; omega) (own_in h2) (own_in (own_past O3'.out h1)))
            clear h1 h2 HPG
            go_wp2_with fail
            refine HSM.out.mono ?_
            rintro en w9 ⟨rfl, h1⟩
            have BW9 : Hid (Below w.heap.size w w9) := BW8.out.trans (h1.below _)
            clear h1 HSM
            go_wp2
            go_ret
            exact ⟨rfl, BW9.out⟩
end Go.Proofs.YteajjanjkhhgdaaDoor
