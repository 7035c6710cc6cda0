/- The law's awake. -/
import Derived.Test.YteajjanjkhhgdaaDoorInfEv
import Derived.Test.YteajjanjkhhgdaaDoorInfOwn
import Derived.Laws.IdiomStrings

/- The law's awake. -/
namespace Go.Proofs.YteajjanjkhhgdaaDoor
open Go.RowKit Go

theorem ownC : OwnC := fun w0 w g r L V p T vt M fl fd h hL => ownCodes_any w0 w g r L V p T vt M fl fd h hL
theorem Inf.eq_ok {V N M q : Nat} {T : List Int} {w w' : World} {e : Ending} (h : IfO w V N M e w') (h1 : Inf.inflate V N M = .ok q T) : Below w.heap.size w w' ∧ ∃ a cap, e = .returned (.tuple #[.slice a T.length cap, .int .i64 (((q + 7) / 8 : Nat) : Int), .int .i64 0]) ∧ T.length ≤ M ∧ w'.ownsRow (w.heap.size + 1) 5 1 (.slice a T.length cap) T.length (k8 T) := by
  obtain ⟨hb, ⟨k, h2, h3, h4⟩ | ⟨q', T', vt, h2, h3, h4, h5⟩⟩ := h
  · rw [h1] at h2; cases h2
  · rw [h1] at h2
    cases h2
    obtain ⟨a, cap, rfl⟩ := own_slice h5
    exact ⟨hb, a, cap, h4, h3, h5⟩
theorem Inf.eq_err {V N M : Nat} {k : Int} {w w' : World} {e : Ending} (h : IfO w V N M e w') (h1 : Inf.inflate V N M = .err k) : Below w.heap.size w w' ∧ e = .returned (.tuple #[.slice none 0 0, .int .i64 0, .int .i64 k]) ∧ ¬ k = 0 := by
  obtain ⟨hb, ⟨k, h2, h3, h4⟩ | ⟨q', T', vt, h2, h3, h4, h5⟩⟩ := h
  · rw [h1] at h2; cases h2; exact ⟨hb, h4, h3⟩
  · rw [h1] at h2; cases h2
/-- bytes that are written out -/
theorem lit_bytes (w : World) (B : List Int) (n : Nat) (hn : n = B.length) (hl : n ≤ 1000000) : BytesIn (w.alloc (.cells (k8 B).toArray 5)) (.slice (some ⟨w.heap.size, 0, none⟩) n n) B (fun _ => True) := by
  subst hn
  refine ⟨_, _, rfl, Nat.le_refl _, by omega, fun hp => ⟨w.heap.size, 0, rfl, trivial, by simp, fun j hj => ?_⟩⟩
  rw [Nat.zero_add, cell_of_row _ _ _ _ _ _ (heap_alloc_new _ _)]
  have := k8_get B j hj
  simpa using this
theorem lit_ok (B : List Int) (n M q : Nat) (T : List Int) (w : World) (hT : Tabs w) (hn : n = B.length) (hl : n ≤ 1000000) (hb : ∀ x ∈ B, 0 ≤ x ∧ x < 256) (hM : M ≤ 65536) (h : Inf.inflate (Bit.val B) (8 * n) M = .ok q T) :
    Calls Tryd.prog 12 #[.slice (some ⟨w.heap.size, 0, none⟩) n n, .int .i64 (M : Int)] (w.alloc (.cells (k8 B).toArray 5)) fun e w' => Below w.heap.size w w' ∧ ∃ a cap, e = .returned (.tuple #[.slice a T.length cap, .int .i64 (((q + 7) / 8 : Nat) : Int), .int .i64 0]) ∧ w'.ownsRow (w.heap.size + 2) 5 1 (.slice a T.length cap) T.length (k8 T) := by
  have hba : Below w.heap.size w (w.alloc (.cells (k8 B).toArray 5)) := (Below.refl _ _).alloc (Nat.le_refl _) _
  refine (inflate_any ownC B _ n n M _ hn (lit_bytes w B n hn hl) hb hl hM (hT.later hba (Nat.le_refl _))).mono fun e w' hx => ?_
  obtain ⟨h1, a, cap, h2, -, h3⟩ := Inf.eq_ok hx h
  have hs : (w.alloc (.cells (k8 B).toArray 5)).heap.size = w.heap.size + 1 := by simp
  rw [hs] at h1 h3
  exact ⟨hba.trans (h1.mono (by omega)), a, cap, h2, h3⟩
theorem lit_err (B : List Int) (n M : Nat) (k : Int) (w : World) (hT : Tabs w) (hn : n = B.length) (hl : n ≤ 1000000) (hb : ∀ x ∈ B, 0 ≤ x ∧ x < 256) (hM : M ≤ 65536) (h : Inf.inflate (Bit.val B) (8 * n) M = .err k) :
    Calls Tryd.prog 12 #[.slice (some ⟨w.heap.size, 0, none⟩) n n, .int .i64 (M : Int)] (w.alloc (.cells (k8 B).toArray 5)) fun e w' => Below w.heap.size w w' ∧ e = .returned (.tuple #[.slice none 0 0, .int .i64 0, .int .i64 k]) := by
  have hba : Below w.heap.size w (w.alloc (.cells (k8 B).toArray 5)) := (Below.refl _ _).alloc (Nat.le_refl _) _
  refine (inflate_any ownC B _ n n M _ hn (lit_bytes w B n hn hl) hb hl hM (hT.later hba (Nat.le_refl _))).mono fun e w' hx => ?_
  obtain ⟨h1, h2, -⟩ := Inf.eq_err hx h
  have hs : (w.alloc (.cells (k8 B).toArray 5)).heap.size = w.heap.size + 1 := by simp
  rw [hs] at h1
  exact ⟨hba.trans (h1.mono (by omega)), h2⟩
theorem abc_string {w : World} {base : Nat} {a : Option Addr} {cap : Nat} (h : w.ownsRow base 5 1 (.slice a 3 cap) 3 (k8 [97, 98, 99])) : (convert 22 9 (.slice a 3 cap)).run Tryd.prog w = .ok (.string ⟨#[97, 98, 99]⟩) w := by
  rcases h.2 with ⟨e, h0⟩ | ⟨g, cap, cur, e, q1, q2, q3, q4, q5, q6⟩
  · omega
  · cases e
    refine run_convert_bytes_back (P := Tryd.prog) w _ _ 5 ⟨g, 0, none⟩ cap [97, 98, 99] (by kernel_rfl) (by kernel_rfl) (by kernel_rfl) fun j hj => ?_
    rw [Addr.add_mid, Nat.zero_add, cell_of_row _ _ _ _ _ _ q2]
    have hj3 : j < 3 := hj
    have h1 : (k8 [97, 98, 99])[j]? = cur[j]? := by rw [← q6, List.getElem?_take, if_pos (by omega), Array.getElem?_toList]
    rw [← h1]
    rcases (by omega : j = 0 ∨ j = 1 ∨ j = 2) with rfl | rfl | rfl <;> rfl

set_option maxRecDepth 100000 in
set_option maxHeartbeats 4000000 in
theorem awake_any (w : World) (hT : Tabs w) :
    Calls Tryd.prog 10 #[] w fun e w' => e = .returned (.bool true) ∧ Below w.heap.size w w' := by
  have E1 := Lib.hid (fun (wx : World) (h : Tabs wx) => lit_ok Inf.b1 8 3 64 [97, 98, 99] wx h rfl (by omega) (by decide) (by omega) Inf.ev1)
  have E2 := Lib.hid (fun (wx : World) (h : Tabs wx) => lit_ok Inf.b2 5 9 34 [97, 98, 99] wx h rfl (by omega) (by decide) (by omega) Inf.ev2)
  have E3 := Lib.hid (fun (wx : World) (h : Tabs wx) => lit_err Inf.b2 5 2 3 wx h rfl (by omega) (by decide) (by omega) Inf.ev3)
  have E4 := Lib.hid (fun (wx : World) (h : Tabs wx) => lit_err Inf.b3 3 9 4 wx h rfl (by omega) (by decide) (by omega) Inf.ev4)
  have HT := Lib.hid hT
  clear hT
  go_enter Tryd.func10, Tryd.ntmps10
  go_wp2_with fail
  refine (E1.out _ HT.out).mono ?_
  rintro e w1 ⟨h1, a1, c1, rfl, h2⟩
  have B1 := Lib.hid h1
  have T1 := Lib.hid (HT.out.later h1 (Nat.le_refl _))
  have O1 := Lib.hid h2
  clear h1 h2 E1
  go_wp2_with fail
  refine (E2.out _ T1.out).mono ?_
  rintro e w2 ⟨h1, a2, c2, rfl, h2⟩
  have B2 : Hid (Below w.heap.size w w2) := B1.out.trans (h1.mono B1.out.size)
  have T2 := Lib.hid (T1.out.later h1 (Nat.le_refl _))
  have O2 := Lib.hid h2
  have O1' : Hid _ := Inf.own_other O1.out fun k hk => by obtain ⟨_, _, hc⟩ := Inf.own_type O1.out hk; exact h1.block k (Inf.lt_some hc)
  clear h1 h2 E2 B1 T1 O1
  go_wp2_with fail
  refine (E3.out _ T2.out).mono ?_
  rintro e w3 ⟨h1, rfl⟩
  have B3 : Hid (Below w.heap.size w w3) := B2.out.trans (h1.mono B2.out.size)
  have T3 := Lib.hid (T2.out.later h1 (Nat.le_refl _))
  have O1 : Hid _ := Inf.own_other O1'.out fun k hk => by obtain ⟨_, _, hc⟩ := Inf.own_type O1'.out hk; exact h1.block k (Inf.lt_some hc)
  have O2' : Hid _ := Inf.own_other O2.out fun k hk => by obtain ⟨_, _, hc⟩ := Inf.own_type O2.out hk; exact h1.block k (Inf.lt_some hc)
  clear h1 E3 B2 T2 O1' O2
  go_wp2_with fail
  refine (E4.out _ T3.out).mono ?_
  rintro e w4 ⟨h1, rfl⟩
  have B4 : Hid (Below w.heap.size w w4) := B3.out.trans (h1.mono B3.out.size)
  have O1' : Hid _ := Inf.own_other O1.out fun k hk => by obtain ⟨_, _, hc⟩ := Inf.own_type O1.out hk; exact h1.block k (Inf.lt_some hc)
  have O2 : Hid _ := Inf.own_other O2'.out fun k hk => by obtain ⟨_, _, hc⟩ := Inf.own_type O2'.out hk; exact h1.block k (Inf.lt_some hc)
  have s1 := abc_string O1'.out
  have s2 := abc_string O2.out
  clear h1 E4 B3 T3 O1 O2' O1' O2
  have q1 : (((64 + 7) / 8 : Nat) : Int) = 8 := rfl
  have q2 : (((34 + 7) / 8 : Nat) : Int) = 5 := rfl
  go_wp2
  go_ret
  exact ⟨rfl, B4.out⟩
end Go.Proofs.YteajjanjkhhgdaaDoor

/- Rows of a call's own: they stay, and are read. -/
namespace Go.Proofs.YteajjanjkhhgdaaDoor
open Go.RowKit Go

theorem own_past {w w' : World} {base n : Nat} {e : TypeId} {size : Nat} {v : Value} {xs : List Value} (h : w.ownsRow base e size v n xs) (hb : Below w.heap.size w w') : w'.ownsRow base e size v n xs :=
  Inf.own_other h fun k hk => by obtain ⟨_, _, hc⟩ := Inf.own_type h hk; exact hb.block k (Inf.lt_some hc)
theorem own_in {w : World} {base : Nat} {v : Value} {T : List Int} (h : w.ownsRow base 5 1 v T.length (k8 T)) : BytesIn w v T (fun _ => True) :=
  (own_bytes h).mono (Nat.le_refl _) (fun _ _ _ => trivial) (fun _ _ _ _ => rfl)
end Go.Proofs.YteajjanjkhhgdaaDoor
