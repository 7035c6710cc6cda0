/- The writers of the law BitioWrites, both, and the bytes taken in between. -/
import Derived.Test.YtkfbcekhegdmjaaBitRefW
import Derived.Test.YtkfbcekhegdmjaaKitApart
import Derived.Test.YtkfbcekhegdmjaaKitTurn
import Derived.Test.YtkfbcekhegdmjaaKitSame
namespace Go.Proofs.Ytkfbcekhegdmjaa
open Go.RowKit Go

theorem DW.other {w w' : World} {g n V : Nat} {v : Value} (h : DW w g n V v) (h1 : w'.heap[g]? = w.heap[g]?) (h2 : ∀ k, v.ownBlock = some k → w'.heap[k]? = w.heap[k]?) : DW w' g n V v :=
  ⟨h1.trans h.row, own_other h.own h2, h.lt⟩
/-- both writers, and the bytes vb -/
structure BX (w0 w : World) (gw n V gd n' V' : Nat) (vb : Value) : Prop where
  bel : Below w0.heap.size w0 w
  lw : w0.heap.size ≤ gw
  ld : w0.heap.size ≤ gd
  wr : ∃ v, Wr w gw n V v ∧ ∀ b, vb.ownBlock = some b → v.ownBlock ≠ some b
  dw : ∃ v, DW w gd n' V' v
  btw : ∃ m Y, m ≤ 1000000 ∧ Full w w0.heap.size vb m Y
theorem BX.gone {w0 w w' : World} {gw n V gd n' V' : Nat} {vb : Value} (h : BX w0 w gw n V gd n' V' vb) (hb : Below w0.heap.size w0 w') (hk : ∀ k, k < w.heap.size → (∀ b, vb.ownBlock = some b → k ≠ b) → w'.heap[k]? = w.heap[k]?) (vb' : Value) (hv : ∃ m Y, m ≤ 1000000 ∧ Full w' w0.heap.size vb' m Y) (hs : ∀ b, vb'.ownBlock = some b → vb.ownBlock = some b ∨ w.heap.size ≤ b) : BX w0 w' gw n V gd n' V' vb' := by
  obtain ⟨v, h1, h2⟩ := h.wr
  obtain ⟨u, h3⟩ := h.dw
  obtain ⟨m, Y, h4, h5⟩ := h.btw
  have tv : ∀ {j : Nat} {c : Array Value} {t : TypeId}, w.heap[j]? = some (.cells c t (0, 0)) → t ≠ 5 → ∀ b, vb.ownBlock = some b → j ≠ b := fun hj ht b hb => ne_type hj (h5.block hb).2 ht
  refine ⟨hb, h.lw, h.ld, ⟨v, h1.other (hk _ (lt_of_block h1.row) (tv h1.row (by decide))) (fun k hvk => ?_), fun b hb' => ?_⟩, ⟨u, h3.other (hk _ (lt_of_block h3.row) (tv h3.row (by decide))) (fun k huk => ?_)⟩, hv⟩
  · exact hk k (h1.own.lt k hvk).2 (fun b hb' e => h2 b hb' (by rw [← e]; exact hvk))
  · intro e
    rcases hs b hb' with h6 | h6
    · exact h2 b h6 e
    · have := (h1.own.lt b e).2; omega
  · obtain ⟨cur, hc⟩ := own_type h3.own huk
    exact hk k (lt_of_block hc) (tv hc (by decide))
theorem BX.later {w0 w w' : World} {gw n V gd n' V' : Nat} {vb : Value} (h : BX w0 w gw n V gd n' V' vb) (hb : Below w.heap.size w w') : BX w0 w' gw n V gd n' V' vb := by
  obtain ⟨m, Y, h4, h5⟩ := h.btw
  exact h.gone (h.bel.trans (hb.mono h.bel.size)) (fun k hk _ => hb.block k hk) vb ⟨m, Y, h4, h5.keep (fun b hb' => hb.block b (lt_of_block (h5.block hb').2))⟩ (fun b hb => .inl hb)
theorem BX.drawn {w0 w w' : World} {gw n V gd n' V' : Nat} {vb : Value} (h : BX w0 w gw n V gd n' V' vb) (hd : Drawn w w') : BX w0 w' gw n V gd n' V' vb := h.later (hd.below _)
theorem BX.wstep {w0 w w' : World} {gw n V n1 V1 gd n' V' : Nat} {vb v v' : Value} (h : BX w0 w gw n V gd n' V' vb) (h1 : Wr w gw n V v) (h2 : ∀ b, vb.ownBlock = some b → v.ownBlock ≠ some b) (q1 : Wr w' gw n1 V1 v') (q2 : Fro w w' gw v.ownBlock) (q3 : ∀ k, v'.ownBlock = some k → k < w.heap.size → v.ownBlock = some k) : BX w0 w' gw n1 V1 gd n' V' vb := by
  obtain ⟨u, h3⟩ := h.dw
  obtain ⟨m, Y, h4, h5⟩ := h.btw
  have nv : ∀ {j : Nat} {c : Array Value} {t : TypeId}, w.heap[j]? = some (.cells c t (0, 0)) → t ≠ 5 → v.ownBlock ≠ some j := fun hj ht e => by
    obtain ⟨cur, hc⟩ := own_type h1.own e
    exact ne_type hj hc ht rfl
  refine ⟨q2.below h.bel h.bel.size h.lw (h1.lo h.lw), h.lw, h.ld, ⟨v', q1, fun b hb e => h2 b hb (q3 b e (lt_of_block (h5.block hb).2))⟩, ⟨u, h3.other (q2.block _ (lt_of_block h3.row) (ne_type h3.row h1.row (by decide)) (nv h3.row (by decide))) (fun k huk => ?_)⟩, m, Y, h4, h5.keep (fun b hb => ?_)⟩
  · obtain ⟨cur, hc⟩ := own_type h3.own huk
    exact q2.block k (lt_of_block hc) (ne_type hc h1.row (by decide)) (nv hc (by decide))
  · have hbb := (h5.block hb).2
    exact q2.block b (lt_of_block hbb) (ne_type hbb h1.row (by decide)) (h2 b hb)
theorem BX.dstep {w0 w w' : World} {gw n V gd n' V' n1 V1 : Nat} {vb u u' : Value} (h : BX w0 w gw n V gd n' V' vb) (h3 : DW w gd n' V' u) (q : DM w w' gd n1 V1 u' u) : BX w0 w' gw n V gd n1 V1 vb := by
  obtain ⟨v, h1, h2⟩ := h.wr
  obtain ⟨m, Y, h4, h5⟩ := h.btw
  have nu : ∀ {j : Nat} {c : Array Value} {t : TypeId}, w.heap[j]? = some (.cells c t (0, 0)) → t ≠ 4 → u.ownBlock ≠ some j := fun hj ht e => by
    obtain ⟨cur, hc⟩ := own_type h3.own e
    exact ne_type hj hc ht rfl
  have hlo : ∀ k, u.ownBlock = some k → w0.heap.size ≤ k := fun k hk => by have := (h3.own.lt k hk).1; have := h.ld; omega
  refine ⟨q.fro.below h.bel h.bel.size h.ld hlo, h.lw, h.ld, ⟨v, h1.other (q.fro.block _ (lt_of_block h1.row) (ne_type h1.row h3.row (by decide)) (nu h1.row (by decide))) (fun k hvk => ?_), h2⟩, ⟨u', q.dw⟩, m, Y, h4, h5.keep (fun b hb => ?_)⟩
  · obtain ⟨cur, hc⟩ := own_type h1.own hvk
    exact q.fro.block k (lt_of_block hc) (ne_type hc h3.row (by decide)) (nu hc (by decide))
  · have hbb := (h5.block hb).2
    exact q.fro.block b (lt_of_block hbb) (ne_type hbb h3.row (by decide)) (nu hbb (by decide))
theorem BX.walign {w0 w : World} {gw n V gd n' V' : Nat} {vb : Value} (h : BX w0 w gw n V gd n' V' vb) (hn : n ≤ 1000000000) :
    Calls Try.prog 10 #[.pointer (some ⟨gw, 0, none⟩)] w fun e w' => e = .returned (.tuple #[]) ∧ BX w0 w' gw (n + (8 - n % 8) % 8) V gd n' V' vb := by
  obtain ⟨v, h1, h2⟩ := h.wr
  exact (walign_any gw n V v w h1 hn).mono fun _ _ ⟨he, v', q1, q2, q3⟩ => ⟨he, h.wstep h1 h2 q1 q2 q3⟩
theorem BX.dalign {w0 w : World} {gw n V gd n' V' : Nat} {vb : Value} (h : BX w0 w gw n V gd n' V' vb) (hn : n' ≤ 1000000000) :
    Calls Try.prog 11 #[.pointer (some ⟨gd, 0, none⟩)] w fun e w' => e = .returned (.tuple #[]) ∧ BX w0 w' gw n V gd (n' + (8 - n' % 8) % 8) V' vb := by
  obtain ⟨u, h3⟩ := h.dw
  exact (dalignw_any gd n' V' u w h3 hn).mono fun _ _ ⟨he, u', q⟩ => ⟨he, h.dstep h3 q⟩
/-- both put: whatever is asked, they answer alike -/
theorem BX.puts {w0 : World} {gw n V gd : Nat} (x pn : Int) (hx : 0 ≤ x ∧ x < 4294967296) (hn : n ≤ 100000) :
    ∃ (ok : Bool) (n1 V1 : Nat), n1 ≤ n + 32 ∧ (∀ w vb, BX w0 w gw n V gd n V vb → Calls Try.prog 12 #[.pointer (some ⟨gw, 0, none⟩), .int .u32 x, .int .i64 pn] w fun e w' => e = .returned (.bool ok) ∧ BX w0 w' gw n1 V1 gd n V vb) ∧
      (∀ w vb, BX w0 w gw n1 V1 gd n V vb → Calls Try.prog 13 #[.pointer (some ⟨gd, 0, none⟩), .int .u32 x, .int .i64 pn] w fun e w' => e = .returned (.bool ok) ∧ BX w0 w' gw n1 V1 gd n1 V1 vb ∧ ∃ a c, w'.cell? ⟨gd, 0, none⟩ = some (.slice a n1 c)) := by
  have hcell : ∀ {w : World} {m U : Nat} {vb : Value}, BX w0 w gw m U gd m U vb → ∃ a c, w.cell? ⟨gd, 0, none⟩ = some (.slice a m c) := fun h => by
    obtain ⟨u, h3⟩ := h.dw
    obtain ⟨a, c, rfl, hc, _⟩ := dwlist _ _ _ _ _ h3
    exact ⟨a, c, hc⟩
  by_cases hk : pn < 0 ∨ 32 < pn
  · refine ⟨false, n, V, by omega, fun w vb h => ?_, fun w vb h => ?_⟩
    · obtain ⟨v, h1, h2⟩ := h.wr
      exact (put_bad gw n V x pn v w h1 hk).mono fun _ _ ⟨he, hw⟩ => ⟨he, hw ▸ h⟩
    · exact (dput_bad gd x pn w hk).mono fun _ _ ⟨he, hw⟩ => ⟨he, hw ▸ h, hw ▸ hcell h⟩
  · obtain ⟨k, rfl⟩ : ∃ k : Nat, pn = k := ⟨pn.toNat, by omega⟩
    obtain ⟨y, rfl⟩ : ∃ y : Nat, x = y := ⟨x.toNat, by omega⟩
    refine ⟨true, n + k, V + y % 2 ^ k * 2 ^ n, by omega, fun w vb h => ?_, fun w vb h => ?_⟩
    · obtain ⟨v, h1, h2⟩ := h.wr
      exact (put_any gw n V y k v w h1 (by omega) (by omega) (by omega)).mono fun _ _ ⟨he, v', q1, q2, q3⟩ => ⟨he, h.wstep h1 h2 q1 q2 q3⟩
    · obtain ⟨u, h3⟩ := h.dw
      exact (dput_any gd n V y k u w h3 (by omega) (by omega) (by omega)).mono fun _ _ ⟨he, u', q⟩ => ⟨he, h.dstep h3 q, hcell (h.dstep h3 q)⟩
theorem BX.len {w0 w : World} {gw n V gd n' V' : Nat} {vb : Value} (h : BX w0 w gw n V gd n' V' vb) (hn : n ≤ 1000000000) :
    Calls Try.prog 14 #[.pointer (some ⟨gw, 0, none⟩)] w fun e w' => e = .returned (.int .i64 (n : Int)) ∧ BX w0 w' gw n V gd n' V' vb ∧ ∀ a, w'.cell? a = w.cell? a := by
  obtain ⟨v, h1, h2⟩ := h.wr
  exact (wlen_any gw n V v w h1 hn).mono fun _ _ ⟨he, hd⟩ => ⟨he, h.drawn hd, hd.cell⟩
theorem BX.bytes {w0 w : World} {gw n V gd n' V' : Nat} {vb : Value} (h : BX w0 w gw n V gd n' V' vb) (hn : n ≤ 1000000000) :
    Calls Try.prog 15 #[.pointer (some ⟨gw, 0, none⟩)] w fun e w' => e = .returned (.slice (some ⟨w.heap.size, 0, none⟩) ((n + 7) / 8) ((n + 7) / 8)) ∧ BX w0 w' gw n V gd n' V' vb ∧ Byt w' w.heap.size V ((n + 7) / 8) ∧ Below w.heap.size w w' := by
  obtain ⟨v, h1, h2⟩ := h.wr
  exact (wbytes_any gw n V v w h1 hn).mono fun _ _ ⟨he, q1, q2⟩ => ⟨he, h.later q2, q1, q2⟩
theorem BX.dbytes {w0 w : World} {gw n V gd n' V' : Nat} {vb : Value} (h : BX w0 w gw n V gd n' V' vb) (hn : n' ≤ 100000) :
    Calls Try.prog 17 #[.pointer (some ⟨gd, 0, none⟩)] w fun e w' => e = .returned (.slice (some ⟨w.heap.size, 0, none⟩) ((n' + 7) / 8) ((n' + 7) / 8)) ∧ BX w0 w' gw n V gd n' V' vb ∧ Byt w' w.heap.size V' ((n' + 7) / 8) ∧ Below w.heap.size w w' := by
  obtain ⟨u, h3⟩ := h.dw
  exact (dbytes_any gd n' V' u w h3 hn).mono fun _ _ ⟨he, q1, q2⟩ => ⟨he, h.later q2, q1, q2⟩
theorem Byt.any {w : World} {G V m : Nat} (h : Byt w G V m) (hm : m ≤ 1000000) : BytesIn w (.slice (some ⟨G, 0, none⟩) m m) (Bit.by V m) (fun _ => True) := (h.bytes (by omega)).mono (Nat.le_refl _) (fun _ _ _ => trivial) (fun _ _ _ _ => rfl)
/-- bytes in the middle: they are the document's, and are turned -/
theorem BX.middle {w0 w : World} {gw n V gd : Nat} {vb : Value} (h : BX w0 w gw n V gd n V vb) (hn : n ≤ 100000) :
    Calls Try.prog 15 #[.pointer (some ⟨gw, 0, none⟩)] w fun e w1 => ∃ G M, e = .returned (.slice (some ⟨G, 0, none⟩) M M) ∧
      Hid (Calls Try.prog 17 #[.pointer (some ⟨gd, 0, none⟩)] w1 fun e w2 => ∃ v2, e = .returned v2 ∧
        Hid (Calls Try.prog 16 #[.slice (some ⟨G, 0, none⟩) M M, v2] w2 fun e w3 => e = .returned (.bool true) ∧
          Hid (Calls Try.prog 18 #[.slice (some ⟨G, 0, none⟩) M M] w3 fun e w4 => e = .returned (.tuple #[]) ∧ Hid (BX w0 w4 gw n V gd n V (.slice (some ⟨G, 0, none⟩) M M))))) := by
  refine (h.bytes (by omega)).mono ?_
  rintro e w1 ⟨he, h1, b1, l1⟩
  refine ⟨_, _, he, ?_⟩
  refine (h1.dbytes hn).mono ?_
  rintro e w2 ⟨he2, h2, b2, l2⟩
  refine ⟨_, he2, ?_⟩
  have hM : (n + 7) / 8 ≤ 1000000 := by omega
  have b1' : Byt w2 w.heap.size V ((n + 7) / 8) := (l2.block _ (lt_of_block b1)).trans b1
  refine (same_any (Bit.by V ((n + 7) / 8)) _ _ _ _ _ w2 (by rw [Bit.by_length]) hM (b1'.any hM) (b2.any hM)).mono ?_
  rintro e w3 ⟨he3, hd⟩
  refine ⟨he3, ?_⟩
  have b3 : Byt w3 w.heap.size V ((n + 7) / 8) := by unfold Byt; rw [hd.heap]; exact b1'
  refine (turn_any (Bit.by V ((n + 7) / 8)) w.heap.size _ w3 (Bit.by_length _ _) hM b3).mono ?_
  rintro e w4 ⟨he4, hg, Y, hY, hr⟩
  refine ⟨he4, ?_⟩
  have s2 : w.heap.size < w3.heap.size := lt_of_block b3
  -- behind the turn nothing differs from w but that block, and new ones
  have hw : Below w.heap.size w w4 := by
    have q : Below w.heap.size w w3 := (l1.trans (l2.mono l1.size)).trans (hd.below _)
    exact q.grown hg q.size (fun k hk => by cases hk; exact Nat.le_refl _)
  exact h.gone (h.bel.trans (hw.mono h.bel.size)) (fun k hk _ => hw.block k hk) _ ⟨_, Y, hM, hY, .inr ⟨_, rfl, h.bel.size, hr⟩⟩ (fun b hb => .inr (by cases hb; exact Nat.le_refl _))
end Go.Proofs.Ytkfbcekhegdmjaa
