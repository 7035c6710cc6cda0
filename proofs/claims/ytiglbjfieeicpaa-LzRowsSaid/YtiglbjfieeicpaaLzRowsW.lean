/- The walk of the law LzRows: pieces of two rows of bytes, one behind the other. -/
import Derived.Test.YtiglbjfieeicpaaLzRunsW
import Derived.Test.YtiglbjfieeicpaaKitCopy
namespace Go.Proofs.Ytiglbjfieeicpaa
open Go.RowKit Go
open Lz (Pc)

theorem PaS.pcs {w0 w : World} {v : Value} {L : List Pc} (h : PaS w0 w v L) : PcsIn w v L (fun _ => True) := (own_pieces h.own).1.mono (Nat.le_refl _) (fun _ _ _ => trivial) (fun _ _ _ _ => rfl)
theorem PaS.nilcap {w0 w : World} {v : Value} {L : List Pc} (h : PaS w0 w v L) : ∀ n c, v = .slice none n c → c = 0 := by
  intro n c e
  rcases h.own.2 with ⟨h1, -⟩ | ⟨g, cap, cur, h1, -⟩
  · rw [h1] at e; cases e; rfl
  · rw [h1] at e; cases e
theorem wf_app {a b : List Pc} (ha : PcWf a) (hb : PcWf b) : PcWf (a ++ b) := fun p hp => by
  rcases List.mem_append.1 hp with h | h
  · exact ha p h
  · exact hb p h

/-- bytes are appended, by an operation under a guard that holds -/
theorem wpList_append_bytes_g {w : World} {ops : Array Oper} {rest : List Oper} {o : Oper} {a : Act} {Q : Exit → Act → World → Prop} (hw : Region.wanted o (yielded ops a.tmps) = true) (s x : Operand)
    (ho : o.op = .call { callee := .builtin .append, args := #[s, x], argTypes := #[25, 25] })
    (base : Nat) (v : Value) (n : Nat) (xs : List Value) (hs : a.eval s = v) (hown : w.ownsRow base 5 1 v n xs)
    (u : Value) (B : List Int) (ok : Nat → Prop) (hx : a.eval x = u) (hB : BytesIn w u B ok) (hnil : ∀ n c, u = .slice none n c → c = 0) (hsz : n + B.length ≤ 1099511627776) (hbase : base ≤ w.heap.size)
    (h : ∀ v' w', Hid (w'.ownsRow base 5 1 v' (n + B.length) (xs ++ k8 B)) → Hid (w.grownBy w' v.ownBlock) → wpList Try.prog ops Q rest (a.put o.dst v') w') : wpList Try.prog ops Q (o :: rest) a w := by
  refine wpList_step fun K hK => ?_
  simp only [hw, if_true]
  obtain ⟨i0, hi, hz0, hz1, hz2⟩ := info_parts info5
  obtain ⟨ad, cap, rfl, h1, h2, h3⟩ := hB
  cases ad with
  | none =>
    have hB0 : B = [] := by
      by_cases hp : 0 < B.length
      · obtain ⟨s, o, e, _⟩ := h3 hp
        cases e
      · exact List.eq_nil_of_length_eq_zero (by omega)
    subst hB0
    obtain rfl := hnil _ _ rfl
    have hrun := run_append_owned_none (P := Try.prog) (w := w) base 25 o.type 5 i0 1 (by kernel_rfl) hi v n xs hown
    unfold Oper.wp
    simp only [List.length_nil] at hx
    simp [execOp, ho, resolve, invoke, builtin, hs, hx, hrun, Result.andThen]
    exact hK _ _ (h v w (show w.ownsRow base 5 1 v (n + 0) (xs ++ []) by simpa using hown) (gb_refl _ _))
  | some ad =>
    refine wp_append_own w s x 25 ho base 5 i0 (.int .u8 0) 1 1 (by kernel_rfl) hi hz0 hz1 hz2 rfl (by decide) v n xs hs hown ad B.length cap (k8 B) hx (by rw [k8_length]; omega) ?_ (k8_one B) (by simp only [maxLen]; omega) (by omega) hbase ?_
    · intro j y hj
      have hjl : j < B.length := by have := (List.getElem?_eq_some_iff.1 hj).1; rwa [k8_length] at this
      obtain ⟨s, o, e, -, -, hc⟩ := h3 (by omega)
      cases e
      rw [Addr.add_mid, hc j hjl, ← hj, k8_get _ _ hjl]
    · intro v' w' ho' hg' _
      exact hK _ _ (h v' w' ho' hg')

set_option maxRecDepth 100000 in
set_option maxHeartbeats 4000000 in
theorem rows_walk (a1 : Option Addr) (n1 c1 : Nat) (B1 : List Int) (a2 : Option Addr) (n2 c2 : Nat) (B2 : List Int) (w : World)
    (hn1 : n1 = B1.length) (hB1 : BytesIn w (.slice a1 n1 c1) B1 (fun _ => True)) (hb1 : ∀ x ∈ B1, 0 ≤ x ∧ x < 256) (hna1 : a1 = none → c1 = 0) (hs1 : n1 ≤ 140737488351232)
    (hn2 : n2 = B2.length) (hB2 : BytesIn w (.slice a2 n2 c2) B2 (fun _ => True)) (hb2 : ∀ x ∈ B2, 0 ≤ x ∧ x < 256) (hna2 : a2 = none → c2 = 0) (hs2 : n2 ≤ 140737488351232) :
    Calls Try.prog 7 #[.slice a1 n1 c1, .slice a2 n2 c2] w fun e w' => e = .returned (.bool true) ∧ Below w.heap.size w w' := by
  have HAW := Lib.hid awake_any
  have HN1 := Lib.hid hn1; have HN2 := Lib.hid hn2
  have HB1 := Lib.hid hB1; have HB2 := Lib.hid hB2
  have HY1 : Hid (Lz.Byt B1) := hb1
  have HY2 : Hid (Lz.Byt B2) := hb2
  have HA1 := Lib.hid hna1; have HA2 := Lib.hid hna2
  clear hn1 hn2 hB1 hB2 hb1 hb2 hna1 hna2
  by_cases h1 : n1 ≤ 6000
  · have hd1 : decide ((6000 : Int) < (n1 : Int)) = false := by simp; omega
    by_cases h2 : n2 ≤ 6000
    · have hd2 : decide ((6000 : Int) < (n2 : Int)) = false := by simp; omega
      have HS1 := Lib.hid h1; have HS2 := Lib.hid h2
      clear h1 h2
      go_enter Try.func7, Try.ntmps7
      go_wp2_with fail
      refine (HAW.out w).mono ?_
      rintro e w1 ⟨rfl, hb1⟩
      have HW1 := Lib.hid hb1
      clear hb1
      have HP1 := Lib.hid (par_any B1 a1 n1 c1 w1 HN1.out (by have := HS1.out; omega) (later_bytes HW1.out HB1.out) HY1.out)
      go_wp2_with fail
      refine HP1.out.mono ?_
      rintro e w2 ⟨v1, rfl, hp1⟩
      have HQ1 := Lib.hid hp1
      have HW2 : Hid (Below w.heap.size w w2) := HW1.out.trans (hp1.bel.mono HW1.out.size)
      clear hp1 HP1
      have HP2 := Lib.hid (par_any B2 a2 n2 c2 w2 HN2.out (by have := HS2.out; omega) (later_bytes HW2.out HB2.out) HY2.out)
      go_wp2_with fail
      refine HP2.out.mono ?_
      rintro e w3 ⟨v2, rfl, hp2⟩
      have HQ2 := Lib.hid hp2
      have HQ3 : Hid (PaS w1 w3 v1 (Lz.par B1)) := HQ1.out.later hp2.bel
      have HW3 : Hid (Below w.heap.size w w3) := HW2.out.trans (hp2.bel.mono HW2.out.size)
      clear hp2 HP2 HQ1
      have HL1 := Lib.hid (Lz.par_length B1)
      have HL2 := Lib.hid (Lz.par_length B2)
      have HWF : Hid (PcWf (Lz.par B1 ++ Lz.par B2)) := wf_app (par_wf HY1.out) (par_wf HY2.out)
      have HEX : Hid (Lz.ex [] (Lz.par B1 ++ Lz.par B2) = some (B1 ++ B2)) := by
        unfold Hid
        rw [Lz.ex_append, Lz.ex_par B1 [] (by have := HN1.out; have := HS1.out; simp; omega)]
        exact Lz.ex_par B2 B1 (by have := HN1.out; have := HS1.out; have := HN2.out; have := HS2.out; omega)
      have HNT : Hid (∀ v' w4, w4.ownsRow w1.heap.size 35 3 v' ((Lz.par B1).length + (Lz.par B2).length) (pk (Lz.par B1) ++ pk (Lz.par B2)) → w3.grownBy w4 v1.ownBlock → ∃ ad m cp, v' = .slice ad m cp ∧ Below w.heap.size w w4 ∧
          Calls Try.prog 10 #[.slice ad m cp] w4 fun e w' => ∃ ad' cp', e = .returned (.tuple #[.slice ad' (n1 + n2) cp', .bool true]) ∧ Below w.heap.size w w' ∧ BytesIn w' (.slice ad' (n1 + n2) cp') (B1 ++ B2) (fun _ => True)) := by
        intro v' w4 ho hg
        have hb4 : Below w.heap.size w w4 := HW3.out.grown hg HW3.out.size (fun k hk => Nat.le_trans HW1.out.size (HQ3.out.own.lt k hk).1 |> fun h => by exact h)
        have h0 : PaS w1 w4 v' (Lz.par B1 ++ Lz.par B2) := by
          refine ⟨HQ3.out.bel.grown hg HQ3.out.bel.size (fun k hk => (HQ3.out.own.lt k hk).1), ?_⟩
          rw [List.length_append, pk_app]; exact ho
        obtain ⟨ad, cp, rfl⟩ := h0.form
        refine ⟨ad, _, cp, rfl, hb4, (exp_any (Lz.par B1 ++ Lz.par B2) ad _ cp w4 rfl (by have := HL1.out; have := HL2.out; have := HN1.out; have := HS1.out; have := HN2.out; have := HS2.out; rw [List.length_append]; omega) h0.pcs HWF.out).mono ?_⟩
        rintro e w' ⟨v5, rfl, h5, -⟩
        rw [HEX.out] at h5 ⊢
        have h5 : Ex w4 w' v5 (B1 ++ B2) := h5
        obtain ⟨ad', cp', rfl⟩ := h5.form
        have hlen : (B1 ++ B2).length = n1 + n2 := by rw [List.length_append, HN1.out, HN2.out]
        have h6 := h5.bytes
        rw [hlen] at h6 ⊢
        exact ⟨ad', cp', rfl, hb4.trans (h5.bel.mono hb4.size), h6⟩
      go_wp2_with (first | (at_builtin; refine wpList_append_pieces rfl (.tmp 19) (.tmp 21) rfl w1.heap.size _ _ (pk (Lz.par B1)) rfl HQ3.out.own _ (Lz.par B2) _ rfl HQ2.out.pcs HQ2.out.nilcap (by have := HL1.out; have := HL2.out; have := HN1.out; have := HS1.out; have := HN2.out; have := HS2.out; omega) HQ3.out.bel.size ?_; intro v4 w4 o4 g4; obtain ⟨ad4, m4, cp4, rfl, hb4, hx4⟩ := HNT.out v4 w4 o4.out g4.out; have HB4 := Lib.hid hb4; have HX4 := Lib.hid hx4; clear o4 g4 hb4 hx4))
      refine HX4.out.mono ?_
      rintro e w5 ⟨ad5, cp5, rfl, hb5, hy5⟩
      have HB5 := Lib.hid hb5
      have HY5 := Lib.hid hy5
      have HCP := Lib.hid (copy_any B1 a1 n1 c1 w5 HN1.out (later_bytes hb5 HB1.out) HA1.out (by have := HS1.out; omega))
      clear hb5 hy5 HX4 HB4 HNT HWF HEX HQ2 HQ3 HW3 HL1 HL2
      go_wp2_with fail
      refine HCP.out.mono ?_
      rintro e w6 ⟨v6, rfl, ho6, hb6⟩
      have HO6 := Lib.hid ho6
      have HB6 := Lib.hid hb6
      have HW6 : Hid (Below w.heap.size w w6) := HB5.out.trans (hb6.mono HB5.out.size)
      clear ho6 hb6 HCP
      have HNT : Hid (∀ v' w7, w7.ownsRow w5.heap.size 5 1 v' (B1.length + B2.length) (k8 B1 ++ k8 B2) → w6.grownBy w7 v6.ownBlock → ∃ ad cp, v' = .slice ad (n1 + n2) cp ∧ Below w.heap.size w w7 ∧
          Calls Try.prog 12 #[.slice ad5 (n1 + n2) cp5, .slice ad (n1 + n2) cp] w7 fun e w' => e = .returned (.bool true) ∧ Below w.heap.size w w') := by
        intro v' w7 ho hg
        have hb7 : Below w.heap.size w w7 := HW6.out.grown hg HW6.out.size (fun k hk => Nat.le_trans HB5.out.size (HO6.out.lt k hk).1)
        have hb57 : Below w5.heap.size w5 w7 := HB6.out.grown hg HB6.out.size (fun k hk => (HO6.out.lt k hk).1)
        have ho' : w7.ownsRow w5.heap.size 5 1 v' (B1.length + B2.length) (k8 (B1 ++ B2)) := by rw [k8_app]; exact ho
        obtain ⟨ad, cp, rfl⟩ := own_slice ho'
        have hlen : (B1 ++ B2).length = n1 + n2 := by rw [List.length_append, HN1.out, HN2.out]
        have hby := own_bytes ho'
        rw [← HN1.out, ← HN2.out] at hby
        refine ⟨ad, cp, by rw [HN1.out, HN2.out], hb7, (same_any (B1 ++ B2) ad5 (n1 + n2) cp5 ad cp w7 hlen.symm (by have := HS1.out; have := HS2.out; omega) (later_bytes hb57 HY5.out) (hby.mono (Nat.le_refl _) (fun _ _ _ => trivial) (fun _ _ _ _ => rfl))).mono ?_⟩
        rintro e w' ⟨rfl, hd⟩
        exact ⟨rfl, hb7.trans (hd.below _)⟩
      go_wp2_with (first | (at_builtin; refine wpList_append_bytes_g rfl (.tmp 30) (.tmp 31) rfl w5.heap.size _ _ (k8 B1) rfl HO6.out _ B2 (fun _ => True) rfl (later_bytes HW6.out HB2.out) (by intro n c e; cases e; exact HA2.out rfl) (by have := HN1.out; have := HS1.out; have := HN2.out; have := HS2.out; omega) HB6.out.size ?_; intro v7 w7 o7 g7; obtain ⟨ad7, cp7, rfl, hb7, hx7⟩ := HNT.out v7 w7 o7.out g7.out; have HX7 := Lib.hid hx7; clear o7 g7 hb7 hx7))
      refine HX7.out.mono ?_
      rintro e w8 ⟨rfl, hb8⟩
      go_wp2
      go_returns
      exact ⟨rfl, hb8⟩
    · have hd2 : decide ((6000 : Int) < (n2 : Int)) = true := by simp; omega
      clear h1 h2
      go_enter Try.func7, Try.ntmps7
      go_wp2_with fail
      refine (HAW.out w).mono ?_
      rintro e w1 ⟨rfl, hb1⟩
      go_wp2
      go_returns
      exact ⟨rfl, hb1⟩
  · have hd1 : decide ((6000 : Int) < (n1 : Int)) = true := by simp; omega
    clear h1
    go_enter Try.func7, Try.ntmps7
    go_wp2_with fail
    refine (HAW.out w).mono ?_
    rintro e w1 ⟨rfl, hb1⟩
    go_wp2
    go_returns
    exact ⟨rfl, hb1⟩
end Go.Proofs.Ytiglbjfieeicpaa
