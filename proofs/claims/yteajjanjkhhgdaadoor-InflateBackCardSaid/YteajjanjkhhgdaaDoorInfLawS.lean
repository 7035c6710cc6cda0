/- What the laws of stage 6 share: of any bytes, with any limit, the program and the document tell the same. -/
import Derived.Test.YteajjanjkhhgdaaDoorInfRefJ
import Derived.Test.YteajjanjkhhgdaaDoorInfLim
import Derived.Test.YteajjanjkhhgdaaDoorInfOwnIn
import Derived.Test.YteajjanjkhhgdaaDoorIkSame
import Derived.Test.YteajjanjkhhgdaaDoorIkLent
namespace Go.Proofs.YteajjanjkhhgdaaDoor
open Go.RowKit Go

/-- what a call that reads tells -/
def Told (T : List Int) (qi ki : Int) (wx : World) (e : Ending) (w' : World) : Prop :=
  Below wx.heap.size wx w' ∧ ∃ at_ c, e = .returned (.tuple #[.slice at_ T.length c, .int .i64 qi, .int .i64 ki]) ∧ w'.ownsRow wx.heap.size 5 1 (.slice at_ T.length c) T.length (k8 T)
/-- the program, and the document, tell so of these bytes, wherever they lie -/
structure Tel (B : List Int) (n : Nat) (m : Int) (T : List Int) (qi ki : Int) : Prop where
  len : T.length ≤ 65536
  pg : ∀ (wx : World) (a : Option Addr) (cap : Nat), Tabs wx → BytesIn wx (.slice a n cap) B (fun _ => True) → Calls Tryd.prog 12 #[.slice a n cap, .int .i64 m] wx fun e w' => Told T qi ki wx e w'
  rf : ∀ (wx : World) (a : Option Addr) (cap : Nat), BytesIn wx (.slice a n cap) B (fun _ => True) → Calls Tryd.prog 13 #[.slice a n cap, .int .i64 m] wx fun e w' => Told T qi ki wx e w'
theorem own_low {w : World} {b0 b1 n : Nat} {e : TypeId} {size : Nat} {v : Value} {xs : List Value} (h : w.ownsRow b1 e size v n xs) (hb : b0 ≤ b1) : w.ownsRow b0 e size v n xs := by
  refine ⟨h.1, ?_⟩
  rcases h.2 with h0 | ⟨g, cap, cur, e, q1, q2, q3⟩
  · exact .inl h0
  · exact .inr ⟨g, cap, cur, e, by omega, q2, q3⟩
theorem told_pg_ok {B : List Int} {n M q : Nat} {T : List Int} (hn : n = B.length) (hb : ∀ x ∈ B, 0 ≤ x ∧ x < 256) (hl : n ≤ 100000) (hM : M ≤ 65536) (h : Inf.inflate (Bit.val B) (8 * n) M = .ok q T) (wx : World) (a : Option Addr) (cap : Nat) (hT : Tabs wx) (hB : BytesIn wx (.slice a n cap) B (fun _ => True)) :
    Calls Tryd.prog 12 #[.slice a n cap, .int .i64 (M : Int)] wx fun e w' => Told T (((q + 7) / 8 : Nat) : Int) 0 wx e w' :=
  (inflate_any ownC B a n cap M wx hn hB hb (by omega) hM hT).mono fun e w' hx => by
    obtain ⟨h1, at_, c, h2, h3, h4⟩ := Inf.eq_ok hx h
    exact ⟨h1, at_, c, h2, own_low h4 (by omega)⟩
theorem told_pg_err {B : List Int} {n M : Nat} {k : Int} (hn : n = B.length) (hb : ∀ x ∈ B, 0 ≤ x ∧ x < 256) (hl : n ≤ 100000) (hM : M ≤ 65536) (h : Inf.inflate (Bit.val B) (8 * n) M = .err k) (wx : World) (a : Option Addr) (cap : Nat) (hT : Tabs wx) (hB : BytesIn wx (.slice a n cap) B (fun _ => True)) :
    Calls Tryd.prog 12 #[.slice a n cap, .int .i64 (M : Int)] wx fun e w' => Told [] 0 k wx e w' :=
  (inflate_any ownC B a n cap M wx hn hB hb (by omega) hM hT).mono fun e w' hx => by
    obtain ⟨h1, h2, -⟩ := Inf.eq_err hx h
    exact ⟨h1, none, 0, h2, World.ownsRow_nil _ _ _ _⟩
theorem tel_any (B : List Int) (n : Nat) (m : Int) (hn : n = B.length) (hb : ∀ x ∈ B, 0 ≤ x ∧ x < 256) (hl : n ≤ 100000) : ∃ T qi ki, Tel B n m T qi ki := by
  by_cases hm : m < 0 ∨ 65536 < m
  · refine ⟨[], 0, 2, Nat.zero_le _, fun wx a cap _ _ => (inflate_no a n cap m wx hm).mono ?_, fun wx a cap _ => (rinflate_no a n cap m wx hm).mono ?_⟩
    · rintro e w' ⟨h1, rfl⟩
      exact ⟨Below.refl _ _, none, 0, h1, World.ownsRow_nil _ _ _ _⟩
    · rintro e w' ⟨h1, rfl⟩
      exact ⟨Below.refl _ _, none, 0, h1, World.ownsRow_nil _ _ _ _⟩
  · obtain ⟨M, rfl⟩ : ∃ M : Nat, m = (M : Int) := ⟨m.toNat, by omega⟩
    have hM : M ≤ 65536 := by omega
    cases h : Inf.inflate (Bit.val B) (8 * n) M with
    | err k =>
      refine ⟨[], 0, k, Nat.zero_le _, fun wx a cap hT hB => told_pg_err hn hb hl hM h wx a cap hT hB, fun wx a cap hB => (rinflate_any B a n cap M wx hn hB hb hl hM).mono ?_⟩
      rintro e w' ⟨h1, ⟨k', h2, -, h4⟩ | ⟨q', T', vt, h2, h3, h4, h5⟩⟩
      · rw [h] at h2
        cases h2
        exact ⟨h1, none, 0, h4, World.ownsRow_nil _ _ _ _⟩
      · rw [h] at h2; cases h2
    | ok q T =>
      by_cases hT : T.length ≤ M
      · refine ⟨T, (((q + 7) / 8 : Nat) : Int), 0, by omega, fun wx a cap hT hB => told_pg_ok hn hb hl hM h wx a cap hT hB, fun wx a cap hB => (rinflate_any B a n cap M wx hn hB hb hl hM).mono ?_⟩
        rintro e w' ⟨h1, ⟨k', h2, -, h4⟩ | ⟨q', T', vt, h2, h3, h4, h5⟩⟩
        · rw [h] at h2; cases h2
        · rw [h] at h2
          cases h2
          obtain ⟨a', c', rfl⟩ := own_slice h5
          exact ⟨h1, a', c', h4, h5⟩
      · have hh := Inf.inflate_lim h M
        rw [if_neg hT, h] at hh
        cases hh
theorem lent_n (B : List Int) (a : Option Addr) (n cap : Nat) (w : World) (hn : n = B.length) (hB : BytesIn w (.slice a n cap) B (fun _ => True)) (hna : a = none → cap = 0) (hl : n ≤ 1000000) :
    Calls Tryd.prog 11 #[.slice a n cap] w fun e w' => ∃ g cp, e = .returned (.slice (some ⟨g, 0, none⟩) n cp) ∧ Lent w' (.slice (some ⟨g, 0, none⟩) n cp) B (Kit.mb 1) g ∧ w.heap.size ≤ g ∧ Below w.heap.size w w' :=
  (lent_any B a n cap w hn hB hna hl).mono fun e w' ⟨v, g, h1, h2, h3, h4⟩ => by
    obtain ⟨cp, C, rfl, _⟩ := h2.blk
    rw [← hn] at h1 h2
    exact ⟨g, cp, h1, h2, h3, h4⟩
theorem Lent.all {w : World} {v : Value} {B : List Int} {M : Nat → Int} {g : Nat} (h : Lent w v B M g) : BytesIn w v B (fun _ => True) :=
  h.bytes.mono (Nat.le_refl _) (fun _ _ _ => trivial) (fun _ _ _ _ => rfl)
end Go.Proofs.YteajjanjkhhgdaaDoor
