/- The walk of the document's Next. -/
import Derived.Test.YtfbcmjgiejjpmaaRefBegins
namespace Go.Proofs.Ytfbcmjgiejjpmaa
open Go.RowKit Go

theorem Drawn.trans' {a b c : World} (h : Drawn a b) (h' : Drawn b c) : Drawn a c := by
  obtain ⟨m, rfl⟩ := h'
  exact h.drewN m
/-- what the document's Next returns -/
def NxT (L : Nat → Int) (n V p m : Nat) (e : Ending) : Prop := ∃ s ok k, e = .returned (.tuple #[.int .i64 s, .int .i64 (k : Nat), .bool ok]) ∧ Huf.Tells L n V p m s k ok
theorem Huf.beg15 {L : Nat → Int} {n V p k : Nat} (hM : Huf.Makes L n) (h : Huf.Beg L n V p k) : k ≤ 15 := by
  obtain ⟨i, h1, h2, h3, _⟩ := h
  have := hM.1.2 i h1
  omega

set_option maxRecDepth 100000 in
set_option maxHeartbeats 4000000 in
theorem refNext_any (V p m : Nat) (a : Option Addr) (n cap : Nat) (L : Nat → Int) (a3 : Option Addr) (cap3 : Nat) (w : World) (hM : Huf.Makes L n) (hI : Ints w a n cap L) (hB : Ints w a3 m cap3 (fun j => (V / 2 ^ (p + j) % 2 : Nat))) (hm : m ≤ 1000000) :
    Calls Try.prog 24 #[.slice a n cap, .slice a3 m cap3] w fun e w' => Below w.heap.size w w' ∧ NxT L n V p m e := by
  have HRC := refCodes_any a n cap L w hI (by have := hM.1.1; omega)
  have HI : Hid (Ints w a n cap L) := hI
  have HB : Hid (Ints w a3 m cap3 (fun j => (V / 2 ^ (p + j) % 2 : Nat))) := hB
  have HM : Hid (Huf.Makes L n) := hM
  have hnI : (n : Int) ≤ 288 := by have := hM.1.1; omega
  have hmI : (m : Int) ≤ 1000000 := by omega
  clear hI hB hM hm
  go_enter Try.func24, Try.ntmps24
  go_wp2_with fail
  refine HRC.mono ?_
  rintro e w1 ⟨hb1, hr⟩
  clear HRC
  rcases hr with ⟨_, G, hlo, hrow, rfl⟩ | ⟨hno, _⟩
  · have HB1 := Lib.hid hb1
    have HI1 : Hid (Ints w1 a n cap L) := HI.out.later hb1
    have HBB : Hid (Ints w1 a3 m cap3 (fun j => (V / 2 ^ (p + j) % 2 : Nat))) := HB.out.later hb1
    have HC1 : Hid (Ints w1 (some ⟨G, 0, none⟩) n n (fun t => (Huf.code L n t : Nat))) := ki_ints hrow
    clear hrow hlo hb1 HI HB
    go_wp2_with fail
    go_loopw [9, 10] (fun v9 v10 wr => ∃ k v : Nat, k ≤ 16 ∧ v = Huf.vl V p k ∧ v9 = .int .i64 (v : Int) ∧ v10 = .int .i64 (k : Int) ∧ Drawn w1 wr ∧ k ≤ m ∧ (∀ j, j < k → Huf.Beg L n V p j) ∧ (∀ j, j < k → ∀ t, ¬ Huf.Hit L n V p j t)) (fun _ v10 _ => (20 - intOf v10).toNat)
    case atStart => exact ⟨0, 0, by omega, rfl, rfl, rfl, Drawn.refl _, by omega, fun j hj => by omega, fun j hj => by omega⟩
    case round =>
      obtain ⟨k, v, hk, hv, rfl, rfl, hdr, hkm, hbg, hnh⟩ := hrel
      have HD := Lib.hid hdr; clear hdr
      have HBG := Lib.hid hbg; clear hbg
      have HNH := Lib.hid hnh; clear hnh
      have HV := Lib.hid hv; clear hv
      have v6 : (v : Int) ≤ 65536 := by
        have h1 := Huf.vl_lt V p k
        have h2 : 2 ^ k ≤ 2 ^ 16 := Nat.pow_le_pow_right (by omega) hk
        have := HV.out; omega
      have k6 : (k : Int) ≤ 16 := by omega
      have HBC := begins_any V p k v HV.out a n cap L (some ⟨G, 0, none⟩) n wr HM.out (HI1.out.drawn HD.out) (HC1.out.drawn HD.out) hk
      go_wp2_with fail
      refine HBC.mono ?_
      rintro e w2 ⟨hdr2, hr⟩
      have HD2 : Hid (Drawn w1 w2) := Drawn.trans' HD.out hdr2
      clear hdr2 HD HBC
      rcases hr with ⟨hb, rfl⟩ | ⟨hb, rfl⟩
      · have HBK := Lib.hid hb; clear hb
        go_wp2_with fail
        generalize w2 = wo at *
        go_loopw [11] (fun v11 wr => ∃ i : Nat, i ≤ n ∧ v11 = .int .i64 (i : Int) ∧ wr = wo ∧ ∀ t, t < i → ¬ Huf.Hit L n V p k t) (fun v11 _ => (n - intOf v11).toNat)
        case atStart => exact ⟨0, by omega, rfl, rfl, fun t ht => by omega⟩
        case round =>
          obtain ⟨i, hi, rfl, rfl, hno⟩ := hrel
          have HNO := Lib.hid hno; clear hno
          by_cases hin : i < n
          · have hdi : decide (i < n) = true := decide_eq_true hin
            obtain ⟨s, o, rfl, hsz, c1⟩ := (HI1.out.drawn HD2.out).at_ hin
            obtain ⟨s2, o2, hs2, hsz2, c2⟩ := (HC1.out.drawn HD2.out).at_ hin
            simp only [Option.some.injEq, Addr.mk.injEq] at hs2
            obtain ⟨rfl, rfl, -⟩ := hs2
            rw [Nat.zero_add] at c2
            have hLi := HM.out.1.2 i hin
            obtain ⟨li, hli⟩ : ∃ li : Nat, L i = (li : Int) := ⟨(L i).toNat, by omega⟩
            obtain ⟨ci, hci⟩ : ∃ ci, ci = Huf.code L n i := ⟨_, rfl⟩
            have HIT : Hid (Huf.Hit L n V p k i ↔ 0 < k ∧ li = k ∧ ci = v) := by
              show _ ↔ _
              constructor
              · rintro ⟨q1, q2, q3, q4⟩
                rw [hli] at q3
                exact ⟨q2, by omega, by rw [hci, q4, HV.out]⟩
              · rintro ⟨q1, q2, q3⟩
                exact ⟨hin, q1, by rw [hli, q2], by rw [← hci, q3, HV.out]⟩
            rw [hli] at c1
            rw [← hci] at c2
            have HNX : Hid (¬ (0 < k ∧ li = k ∧ ci = v) → ∀ t, t < i + 1 → ¬ Huf.Hit L n V p k t) := fun h t ht => by
              rcases Nat.lt_or_ge t i with c | c
              · exact HNO.out t c
              · obtain rfl : t = i := by omega
                exact fun hh => h (HIT.out.1 hh)
            clear hli hci
            have hiI : (i : Int) < (n : Int) := by omega
            by_cases hk0 : 0 < k
            · have q1 : decide (0 < k) = true := decide_eq_true hk0
              by_cases hlk : li = k
              · subst hlk
                have q2 : ((li : Int) == (li : Int)) = true := by simp
                by_cases hcv : ci = v
                · subst hcv
                  have q3 : ((ci : Int) == (ci : Int)) = true := by simp
                  have HE : Hid (Huf.Tells L n V p m (i : Nat) li true) := .found li i hkm (fun j hj => by
                    rcases Nat.lt_or_ge j li with c | c
                    · exact HBG.out j c
                    · obtain rfl : j = li := by omega
                      exact HBK.out) HNH.out (HIT.out.2 ⟨hk0, rfl, rfl⟩)
                  go_wp2
                  go_returns
                  exact ⟨HB1.out.trans (HD2.out.below _ |>.mono HB1.out.size), i, true, li, rfl, HE.out⟩
                · have q3 : ((ci : Int) == (v : Int)) = false := by simp; omega
                  go_wp2
                  exact ⟨⟨i + 1, by omega, by go_num, trivial, HNX.out fun h => hcv h.2.2⟩, by simp [intOf]; omega⟩
              · have q2 : ((li : Int) == (k : Int)) = false := by simp; omega
                go_wp2
                exact ⟨⟨i + 1, by omega, by go_num, trivial, HNX.out fun h => hlk h.2.1⟩, by simp [intOf]; omega⟩
            · have q1 : decide (0 < k) = false := decide_eq_false hk0
              go_wp2
              exact ⟨⟨i + 1, by omega, by go_num, trivial, HNX.out fun h => hk0 h.1⟩, by simp [intOf]; omega⟩
          · obtain rfl : i = n := by omega
            have hdi : decide (i < i) = false := decide_eq_false (by omega)
            have HNH2 : Hid (∀ j, j < k + 1 → ∀ t, ¬ Huf.Hit L i V p j t) := fun j hj t => by
              rcases Nat.lt_or_ge j k with c | c
              · exact HNH.out j c t
              · obtain rfl : j = k := by omega
                exact fun h => HNO.out t h.1 h
            have HBG2 : Hid (∀ j, j < k + 1 → Huf.Beg L i V p j) := fun j hj => by
              rcases Nat.lt_or_ge j k with c | c
              · exact HBG.out j c
              · obtain rfl : j = k := by omega
                exact HBK.out
            have HK15 : Hid (k ≤ 15) := Huf.beg15 HM.out HBK.out
            by_cases hmk : m ≤ k
            · have q1 : decide (m ≤ k) = true := decide_eq_true hmk
              obtain rfl : k = m := by omega
              have HE : Hid (Huf.Tells L i V p k 0 k false) := .short (fun j hj => HBG2.out j (by omega)) (fun j hj => HNH2.out j (by omega))
              go_wp2
              go_returns
              exact ⟨HB1.out.trans (HD2.out.below _ |>.mono HB1.out.size), 0, false, k, rfl, HE.out⟩
            · have q1 : decide (m ≤ k) = false := decide_eq_false hmk
              have hkmI : (k : Int) < (m : Int) := by omega
              obtain ⟨s3, o3, rfl, hsz3, c3⟩ := (HBB.out.drawn HD2.out).at_ (i := k) (by omega)
              obtain ⟨b, hb⟩ : ∃ b, b = V / 2 ^ (p + k) % 2 := ⟨_, rfl⟩
              rw [← hb] at c3
              have hb2 : (b : Int) ≤ 1 := by omega
              have HVN : Hid (2 * v + b = Huf.vl V p (k + 1)) := by show _ = _; rw [Huf.vl, ← HV.out, hb]
              clear hb
              go_wp2
              have := HK15.out
              exact ⟨⟨k + 1, 2 * v + b, by omega, HVN.out, by go_num, by go_num, HD2.out, by omega, HBG2.out, HNH2.out⟩, by simp [intOf]; omega⟩
      · have HE : Hid (Huf.Tells L n V p m 0 k false) := .none k hkm HBG.out HNH.out hb
        go_wp2
        go_returns
        exact ⟨HB1.out.trans (HD2.out.below _ |>.mono HB1.out.size), 0, false, k, rfl, HE.out⟩
  · exact absurd HM.out hno
end Go.Proofs.Ytfbcmjgiejjpmaa
