/- The walk of the laws' SameBytes, of equal bytes. The kit's marks of bytes. The kit's list of bytes that is lent: with marks behind its end; whether it is kept; written over. What the laws of stage 6 share: of any bytes, with any limit, the program and the document tell the same. What the laws of stage 7 share: a stream is read as what it tells, by the document and by the program; the chapter's examples. The chapter's examples. The walk of the law DeflateRuns: equal bytes become few. -/
import Derived.Test.YtenkkononchgmaaGreatDoorDkA01
import Derived.BigQuiet
import Derived.BigRegion
import Derived.RegionTactic
import Derived.Deep.QuietTactic
import Derived.Lib.Hide
import Derived.StillTailTactics
import Derived.Test.YtenkkononchgmaaGreatDoorDkA45
import Derived.Test.YtenkkononchgmaaGreatDoorDkA39
import Derived.Test.YtenkkononchgmaaGreatDoorDkA28
import Derived.Test.YtenkkononchgmaaGreatDoorDkA06

namespace Go.Proofs.YtenkkononchgmaaGreatDoor
open Go.RowKit Go

set_option maxRecDepth 100000 in
set_option maxHeartbeats 1000000 in
theorem same_any (B : List Int) (a : Option Addr) (n cap : Nat) (a2 : Option Addr) (c2 : Nat) (w : World) (hn : n = B.length) (hl : n ≤ 1000000) (h1 : BytesIn w (.slice a n cap) B (fun _ => True)) (h2 : BytesIn w (.slice a2 n c2) B (fun _ => True)) :
    Calls Tryz.prog 13 #[.slice a n cap, .slice a2 n c2] w fun e w' => e = .returned (.bool true) ∧ Drawn w w' := by
  have H1 := Lib.hid h1; clear h1
  have H2 := Lib.hid h2; clear h2
  have HN := Lib.hid hn; clear hn
  have HL := Lib.hid hl; clear hl
  go_enter Tryz.func13, Tryz.ntmps13
  go_wp2_with fail
  go_loopw [5] (fun v5 wr => ∃ i : Nat, i ≤ n ∧ v5 = .int .i64 (i : Int) ∧ Drawn w wr) (fun v5 _ => (n - intOf v5).toNat)
  case atStart => exact ⟨0, by omega, rfl, Drawn.refl _⟩
  case round =>
    obtain ⟨i, hi, rfl, hd⟩ := hrel
    have HD := Lib.hid hd; clear hd
    by_cases hlt : i < n
    · obtain ⟨s, o, rfl, k1⟩ : ∃ s o, a = some ⟨s, o, none⟩ ∧ w.cell? ⟨s, o + i, none⟩ = some (.int .u8 (B.getD i 0)) := by
        obtain ⟨a', cap', e, _, _, hc⟩ := H1.out
        injection e with e1 _ _
        obtain ⟨s, o, e2, _, _, hc⟩ := hc (by have := HN.out; omega)
        exact ⟨s, o, e1.trans e2, hc i (by have := HN.out; omega)⟩
      obtain ⟨s', o', rfl, k2⟩ : ∃ s o, a2 = some ⟨s, o, none⟩ ∧ w.cell? ⟨s, o + i, none⟩ = some (.int .u8 (B.getD i 0)) := by
        obtain ⟨a', cap', e, _, _, hc⟩ := H2.out
        injection e with e1 _ _
        obtain ⟨s, o, e2, _, _, hc⟩ := hc (by have := HN.out; omega)
        exact ⟨s, o, e1.trans e2, hc i (by have := HN.out; omega)⟩
      rw [← HD.out.cell] at k1 k2
      generalize B.getD i 0 = x at *
      have hi0 : (0 : Int) ≤ (i : Int) := by omega
      have hiI : (i : Int) < (n : Int) := by omega
      have hdn : decide (i < n) = true := decide_eq_true hlt
      have hnI : (n : Int) ≤ 1000000 := by have := HL.out; omega
      go_wp2_with fail
      go_quiet (fail)
      go_wp2
      exact ⟨⟨i + 1, by omega, by go_num, HD.out.drewN _⟩, by simp [intOf]; omega⟩
    · obtain rfl : i = n := by omega
      have hdn : decide (i < i) = false := decide_eq_false (by omega)
      go_wp2
      go_ret
      exact ⟨rfl, HD.out⟩
end Go.Proofs.YtenkkononchgmaaGreatDoor

namespace Go.Proofs.YtenkkononchgmaaGreatDoor
open Go.RowKit Go

def Kit.mb (k i : Nat) : Int := ((1000003 * ((k : Int) + 7) + i) * 11400714819323198485 % 18446744073709551616) / 72057594037927936
end Go.Proofs.YtenkkononchgmaaGreatDoor

namespace Go.Proofs.YtenkkononchgmaaGreatDoor
open Go.RowKit Go

structure Lent (w : World) (v : Value) (B : List Int) (M : Nat → Int) (g : Nat) : Prop where
  blk : ∃ cap C, v = .slice (some ⟨g, 0, none⟩) B.length cap ∧ B.length + 12 ≤ cap ∧ cap ≤ 9223372036854775807 ∧ w.heap[g]? = some (.cells C 5 (0, 0)) ∧ (∀ j, j < B.length → C[j]? = some (.int .u8 (B.getD j 0))) ∧ ∀ j, j < 12 → C[B.length + j]? = some (.int .u8 (M j))
end Go.Proofs.YtenkkononchgmaaGreatDoor

namespace Go.Proofs.YtenkkononchgmaaGreatDoor
open Go.RowKit Go

def Told (T : List Int) (qi ki : Int) (wx : World) (e : Ending) (w' : World) : Prop :=
  Below wx.heap.size wx w' ∧ ∃ at_ c, e = .returned (.tuple #[.slice at_ T.length c, .int .i64 qi, .int .i64 ki]) ∧ w'.ownsRow wx.heap.size 5 1 (.slice at_ T.length c) T.length (k8 T)
structure Tel (B : List Int) (n : Nat) (m : Int) (T : List Int) (qi ki : Int) : Prop where
  len : T.length ≤ 65536
  pg : ∀ (wx : World) (a : Option Addr) (cap : Nat), Tabs wx → BytesIn wx (.slice a n cap) B (fun _ => True) → Calls Tryz.prog 15 #[.slice a n cap, .int .i64 m] wx fun e w' => Told T qi ki wx e w'
  rf : ∀ (wx : World) (a : Option Addr) (cap : Nat), BytesIn wx (.slice a n cap) B (fun _ => True) → Calls Tryz.prog 27 #[.slice a n cap, .int .i64 m] wx fun e w' => Told T qi ki wx e w'
theorem own_low {w : World} {b0 b1 n : Nat} {e : TypeId} {size : Nat} {v : Value} {xs : List Value} (h : w.ownsRow b1 e size v n xs) (hb : b0 ≤ b1) : w.ownsRow b0 e size v n xs := by
  refine ⟨h.1, ?_⟩
  rcases h.2 with h0 | ⟨g, cap, cur, e, q1, q2, q3⟩
  · exact .inl h0
  · exact .inr ⟨g, cap, cur, e, by omega, q2, q3⟩
theorem told_pg_ok {B : List Int} {n M q : Nat} {T : List Int} (hn : n = B.length) (hb : ∀ x ∈ B, 0 ≤ x ∧ x < 256) (hl : n ≤ 100000) (hM : M ≤ 65536) (h : Inf.inflate (Bit.val B) (8 * n) M = .ok q T) (wx : World) (a : Option Addr) (cap : Nat) (hT : Tabs wx) (hB : BytesIn wx (.slice a n cap) B (fun _ => True)) :
    Calls Tryz.prog 15 #[.slice a n cap, .int .i64 (M : Int)] wx fun e w' => Told T (((q + 7) / 8 : Nat) : Int) 0 wx e w' :=
  (inflate_any ownC B a n cap M wx hn hB hb (by omega) hM hT).mono fun e w' hx => by
    obtain ⟨h1, at_, c, h2, h3, h4⟩ := Inf.eq_ok hx h
    exact ⟨h1, at_, c, h2, own_low h4 (by omega)⟩
end Go.Proofs.YtenkkononchgmaaGreatDoor

namespace Go.Proofs.YtenkkononchgmaaGreatDoor
open Go.RowKit Go

theorem deflate_long (a : Option Addr) (n cap : Nat) (w : World) (hn : 65536 < n) :
    Calls Tryz.prog 8 #[.slice a n cap] w fun e w' => e = .returned (.tuple #[.slice none 0 0, .int .i64 3]) ∧ w = w' := by
  have d0 : decide ((65536 : Int) < (n : Int)) = true := decide_eq_true (by omega)
  clear hn
  go_enter Tryz.func8, Tryz.ntmps8
  go_wp2
  go_returns
  exact ⟨rfl, rfl⟩
theorem bound_no (n : Int) (w : World) (hn : n < 0 ∨ 65536 < n) :
    Calls Tryz.prog 11 #[.int .i64 n] w fun e w' => e = .returned (.int .i64 0) ∧ w = w' := by
  by_cases h0 : n < 0
  · have d0 : decide (n < 0) = true := decide_eq_true h0
    clear hn h0
    go_enter Tryz.func11, Tryz.ntmps11
    go_wp2
    go_returns
    exact ⟨rfl, rfl⟩
  · have d0 : decide (n < 0) = false := decide_eq_false h0
    have d1 : decide (65536 < n) = true := decide_eq_true (by omega)
    clear hn h0
    go_enter Tryz.func11, Tryz.ntmps11
    go_wp2
    go_returns
    exact ⟨rfl, rfl⟩
theorem bound_any (n : Nat) (w : World) (hn : n ≤ 65536) :
    Calls Tryz.prog 11 #[.int .i64 (n : Int)] w fun e w' => e = .returned (.int .i64 ((n + 5 * (n / 65535 + 1) + 1 : Nat) : Int)) ∧ w = w' := by
  have d0 : decide ((n : Int) < 0) = false := decide_eq_false (by omega)
  have d1 : decide (65536 < (n : Int)) = false := decide_eq_false (by omega)
  have hnI : (n : Int) ≤ 65536 := by omega
  clear hn
  go_enter Tryz.func11, Tryz.ntmps11
  go_wp2
  go_returns
  exact ⟨rfl, rfl⟩

structure Str (B : List Int) (w : World) (n V m : Nat) (v : Value) : Prop where
  dfl : Inf.Dfl B n V
  len : m = (n + 7) / 8
  form : ∃ G, v = .slice (some ⟨G, 0, none⟩) m m
  byt : BytesIn w v (Bit.by V m) (fun _ => True)
theorem Str.later {B : List Int} {w w' : World} {n V m : Nat} {v : Value} (h : Str B w n V m v) (hb : Below w.heap.size w w') : Str B w' n V m v := ⟨h.dfl, h.len, h.form, later_bytes hb h.byt⟩
theorem Str.le {B : List Int} {w : World} {n V m : Nat} {v : Value} (h : Str B w n V m v) (hl : B.length ≤ 65536) : m ≤ 65547 := by
  have := h.dfl.bound hl
  rw [← h.len] at this
  omega
theorem Str.run {B : List Int} {w : World} {n V m : Nat} {v : Value} (h : Str B w n V m v) (hb : Lz.Byt B) (hl : B.length ≤ 65536) (K : List Int) (M : Nat) (hM : B.length ≤ M) : Inf.inflate (Bit.val (Bit.by V m ++ K)) (8 * (Bit.by V m ++ K).length) M = .ok n B := by
  have hr := h.dfl.rd hb hl
  refine hr.run _ _ _ ?_ ?_ hM
  · rw [h.len]; exact Inf.val_more hr.lt K
  · rw [List.length_append, Bit.by_length]; have := h.len; omega
theorem deflate_str (B : List Int) (ab : Option Addr) (nb cb : Nat) (w : World) (hnb : nb = B.length) (hl : nb ≤ 65536) (hB : BytesIn w (.slice ab nb cb) B (fun _ => True)) (hbyt : Lz.Byt B) (hT : DTabs w) :
    Calls Tryz.prog 8 #[.slice ab nb cb] w fun e w' => Below w.heap.size w w' ∧ ∃ n V m G, Str B w' n V m (.slice (some ⟨G, 0, none⟩) m m) ∧ e = .returned (.tuple #[.slice (some ⟨G, 0, none⟩) m m, .int .i64 0]) :=
  (deflate_any B ab nb cb w hnb hl hB hbyt hT).mono fun e w' ⟨h1, n, V, G, m, h2, h3, h4, h5, h6⟩ => by
    refine ⟨h1, n, V, m, G, ⟨h2, h3, ⟨G, rfl⟩, some ⟨G, 0, none⟩, m, by rw [Bit.by_length], by rw [Bit.by_length]; exact Nat.le_refl _, ?_, fun _ => ⟨G, 0, rfl, trivial, Inf.lt_some h5, fun j hj => ?_⟩⟩, h6⟩
    · have := h2.bound (by omega)
      omega
    · rw [Nat.zero_add]
      exact k8_cell h5 j hj

set_option maxRecDepth 100000 in
set_option maxHeartbeats 1000000 in
theorem says_any (B : List Int) (n V m G : Nat) (ab : Option Addr) (nb cb : Nat) (w : World) (hS : Str B w n V m (.slice (some ⟨G, 0, none⟩) m m)) (hnb : nb = B.length) (hl : nb ≤ 65536) (hB : BytesIn w (.slice ab nb cb) B (fun _ => True)) (hbyt : Lz.Byt B) :
    Calls Tryz.prog 12 #[.slice (some ⟨G, 0, none⟩) m m, .slice ab nb cb] w fun e w' => e = .returned (.bool true) ∧ Below w.heap.size w w' := by
  have hm := hS.le (by omega)
  have hrun := hS.run hbyt (by omega) [] nb (by omega)
  rw [List.append_nil, Bit.by_length] at hrun
  have HRF := Lib.hid (rinflate_any (Bit.by V m) (some ⟨G, 0, none⟩) m m nb w (Bit.by_length V m).symm hS.byt (Bit.by_bd V m) (by omega) hl)
  have HRUN := Lib.hid hrun
  have HM := Lib.hid hS.len
  have HNB := Lib.hid hnb
  have HL := Lib.hid hl
  have HB := Lib.hid hB
  clear hm hrun hS hnb hl hB hbyt
  go_enter Tryz.func12, Tryz.ntmps12
  go_wp2_with fail
  refine HRF.out.mono ?_
  rintro e w1 ⟨h1, ⟨k, h2, -, -⟩ | ⟨q, T, vt, h2, h3, rfl, h5⟩⟩
  · exact absurd (h2.symm.trans HRUN.out) (by intro h; cases h)
  · have e1 := h2.symm.trans HRUN.out
    injection e1 with e1 e2
    subst e1 e2
    obtain ⟨a', c', rfl⟩ := own_slice h5
    rw [← HM.out, ← HNB.out]
    have B1 := Lib.hid h1
    rw [← HNB.out] at h5
    have HSM := Lib.hid (same_any T ab nb cb a' c' w1 HNB.out (by have := HL.out; omega) (later_bytes h1 HB.out) (by have := HNB.out; subst this; exact own_in h5))
    clear h1 h2 h3 h5 HRF HRUN
    go_wp2_with fail
    refine HSM.out.mono ?_
    rintro e w2 ⟨rfl, h1⟩
    have B2 : Hid (Below w.heap.size w w2) := B1.out.trans (h1.below _)
    clear h1 HSM B1
    go_wp2
    go_ret
    exact ⟨rfl, B2.out⟩
end Go.Proofs.YtenkkononchgmaaGreatDoor

namespace Go.Proofs.YtenkkononchgmaaGreatDoor
open Go.RowKit Go

theorem Inf.zb (n : Nat) : Lz.Byt (List.replicate n (0 : Int)) := by
  intro x hx
  obtain ⟨-, rfl⟩ := List.mem_replicate.mp hx
  omega
theorem Inf.zs (n : Nat) : ∀ i, i < (List.replicate n (0 : Int)).length → (List.replicate n (0 : Int)).getD i 0 = (List.replicate n (0 : Int)).getD 0 0 := by
  intro i _
  simp only [List.getD_eq_getElem?_getD, List.getElem?_replicate]
  split <;> split <;> rfl
theorem zero_in (n : Nat) (hn : n ≤ 1000000) (w : World) (G : Nat) (h : w.heap[G]? = some (.cells (k8 (List.replicate n 0)).toArray 5 (0, 0))) : BytesIn w (.slice (some ⟨G, 0, none⟩) n n) (List.replicate n 0) (fun _ => True) :=
  ⟨some ⟨G, 0, none⟩, n, by rw [List.length_replicate], by rw [List.length_replicate]; exact Nat.le_refl _, by omega, fun _ => ⟨G, 0, rfl, trivial, Inf.lt_some h, fun j hj => by rw [Nat.zero_add]; exact k8_cell h j hj⟩⟩
set_option maxRecDepth 100000 in
set_option maxHeartbeats 1000000 in
theorem awake7_any (w : World) (hT : DTabs w) :
    Calls Tryz.prog 6 #[] w fun e w' => e = .returned (.bool true) ∧ Below w.heap.size w w' := by
  have HT := Lib.hid hT
  have H0 := Lib.hid (deflate_str [] none 0 0 w rfl (by omega) (bytesIn_nil w _) (by intro x hx; cases hx) hT)
  have hz3 : ∀ w : World, (Instr.makeSlice 22 (.int .i64 300) (.int .i64 300)).run Tryz.prog w = .ok (.slice (some ⟨w.heap.size, 0, none⟩) 300 300) (w.alloc (.cells (k8 (List.replicate 300 0)).toArray 5)) := fun w => run_zeros 300 (by omega) w
  have hz6 : ∀ w : World, (Instr.makeSlice 22 (.int .i64 65537) (.int .i64 65537)).run Tryz.prog w = .ok (.slice (some ⟨w.heap.size, 0, none⟩) 65537 65537) (w.alloc (.cells (k8 (List.replicate 65537 0)).toArray 5)) := fun w => run_zeros 65537 (by omega) w
  clear hT
  generalize hZ6 : List.replicate 65537 (0 : Int) = Z6 at hz6
  obtain ⟨Z3, hZ3⟩ : ∃ Z, Z = List.replicate 300 (0 : Int) := ⟨_, rfl⟩
  rw [← hZ3] at hz3
  have HZ3 := Lib.hid hZ3
  clear hZ3 hZ6
  go_enter Tryz.func6, Tryz.ntmps6
  go_wp2_with fail
  refine H0.out.mono ?_
  rintro e w1 ⟨h1, n1, V1, m1, G1, s1, rfl⟩
  have B1 := Lib.hid h1
  have S1 := Lib.hid s1
  clear H0 h1 s1
  go_wp2_with fail
  have hb2 : Below w1.heap.size w1 (w1.alloc (.cells (k8 Z3).toArray 5)) := (Below.refl _ _).alloc (Nat.le_refl _) _
  have hz : BytesIn (w1.alloc (.cells (k8 Z3).toArray 5)) (.slice (some ⟨w1.heap.size, 0, none⟩) 300 300) (List.replicate 300 0) (fun _ => True) := zero_in 300 (by omega) _ _ (by rw [← HZ3.out]; exact heap_alloc_new _ _)
  have B2 : Hid (Below w.heap.size w (w1.alloc (.cells (k8 Z3).toArray 5))) := B1.out.trans (hb2.mono B1.out.size)
  have H3 := Lib.hid (deflate_str (List.replicate 300 0) (some ⟨w1.heap.size, 0, none⟩) 300 300 _ (by rw [List.length_replicate]) (by omega) hz (Inf.zb 300) (HT.out.later B2.out (Nat.le_refl _)))
  have S1 := Lib.hid (S1.out.later hb2)
  generalize w1.alloc (.cells (k8 Z3).toArray 5) = w2 at *
  clear hb2 hz B1
  refine H3.out.mono ?_
  rintro e w3 ⟨h1, n3, V3, m3, G3, s3, rfl⟩
  have B3 : Hid (Below w.heap.size w w3) := B2.out.trans (h1.mono B2.out.size)
  have S1 := Lib.hid (S1.out.later h1)
  have S3 := Lib.hid s3
  clear H3 h1 s3 B2
  go_wp2_with fail
  refine (deflate_long _ _ _ _ (by omega)).mono ?_
  rintro e w4 ⟨rfl, e4⟩
  have hb4 : Below w3.heap.size w3 (w3.alloc (.cells (k8 Z6).toArray 5)) := (Below.refl _ _).alloc (Nat.le_refl _) _
  rw [e4] at hb4
  have B4 : Hid (Below w.heap.size w w4) := B3.out.trans (hb4.mono B3.out.size)
  have S1 := Lib.hid (S1.out.later hb4)
  have S3 := Lib.hid (S3.out.later hb4)
  clear hb4 B3 e4
  have d1 : decide ((m1 : Int) ≤ 6) = true := decide_eq_true (by have := S1.out.dfl.bound (by simp); have := S1.out.len; simp at *; omega)
  have d3 : decide ((m3 : Int) ≤ 19) = true := decide_eq_true (by have := S3.out.dfl.runs (Inf.zb 300) (by rw [List.length_replicate]; omega) (Inf.zs 300); have := S3.out.len; rw [List.length_replicate] at *; omega)
  go_wp2_with fail
  refine (says_any [] n1 V1 m1 G1 none 0 0 w4 S1.out rfl (by omega) (bytesIn_nil _ _) (by intro x hx; cases hx)).mono ?_
  rintro e w5 ⟨rfl, h5⟩
  have B5 : Hid (Below w.heap.size w w5) := B4.out.trans (h5.mono B4.out.size)
  have S3 := Lib.hid (S3.out.later h5)
  clear h5 B4 S1
  go_wp2_with fail
  have hb2 : Below w5.heap.size w5 (w5.alloc (.cells (k8 Z3).toArray 5)) := (Below.refl _ _).alloc (Nat.le_refl _) _
  have hz : BytesIn (w5.alloc (.cells (k8 Z3).toArray 5)) (.slice (some ⟨w5.heap.size, 0, none⟩) 300 300) (List.replicate 300 0) (fun _ => True) := zero_in 300 (by omega) _ _ (by rw [← HZ3.out]; exact heap_alloc_new _ _)
  have B6 : Hid (Below w.heap.size w (w5.alloc (.cells (k8 Z3).toArray 5))) := B5.out.trans (hb2.mono B5.out.size)
  have HSA := Lib.hid (says_any (List.replicate 300 0) n3 V3 m3 G3 (some ⟨w5.heap.size, 0, none⟩) 300 300 _ (S3.out.later hb2) (by rw [List.length_replicate]) (by omega) hz (Inf.zb 300))
  generalize w5.alloc (.cells (k8 Z3).toArray 5) = w6 at *
  clear hb2 hz B5
  refine HSA.out.mono ?_
  rintro e w7 ⟨rfl, h7⟩
  have B7 : Hid (Below w.heap.size w w7) := B6.out.trans (h7.mono B6.out.size)
  clear h7 B6 HSA
  go_wp2_with fail
  refine (bound_any 65536 _ (by omega)).mono ?_
  rintro e w8 ⟨rfl, rfl⟩
  go_wp2_with fail
  refine (bound_no (-1) _ (.inl (by omega))).mono ?_
  rintro e w9 ⟨rfl, rfl⟩
  go_wp2
  go_ret
  exact ⟨rfl, B7.out⟩
end Go.Proofs.YtenkkononchgmaaGreatDoor

namespace Go.Proofs.YtenkkononchgmaaGreatDoor
open Go.RowKit Go

structure RnS (w wr : World) (g n i : Nat) (c : Int) : Prop where
  bel : Below w.heap.size w wr
  lo : w.heap.size ≤ g
  row : ∃ Z : List Int, Z.length = n ∧ wr.heap[g]? = some (.cells (k8 Z).toArray 5 (0, 0)) ∧ ∀ j, j < i → Z.getD j 0 = c
theorem rnk8_set (Z : List Int) (i : Nat) (c : Int) : (k8 Z).toArray.setIfInBounds i (.int .u8 c) = (k8 (Z.set i c)).toArray := by
  apply Array.ext'
  simp [k8, List.map_set]
theorem RnS.put {w wr : World} {g n i : Nat} {c : Int} (h : RnS w wr g n i c) (hi : i < n) :
    (∃ x, wr.cell? ⟨g, i, none⟩ = some x) ∧ wr.frozen? ⟨g, i, none⟩ = false ∧ RnS w (wr.setCell ⟨g, i, none⟩ (.int .u8 c)) g n (i + 1) c := by
  obtain ⟨Z, h1, h2, h3⟩ := h.row
  refine ⟨⟨_, (cell_of_row _ _ _ _ _ _ h2).trans (by rw [List.getElem?_toArray]; exact k8_get Z i (by omega))⟩, frozen_of_row _ _ _ _ _ h2, h.bel.setCell (by exact h.lo) _, h.lo, Z.set i c, by rw [List.length_set]; exact h1, ?_, fun j hj => ?_⟩
  · rw [← rnk8_set]; exact heap_setCell_same _ _ _ _ _ _ h2
  · rw [List.getD_eq_getElem?_getD, List.getElem?_set]
    by_cases hij : i = j
    · rw [if_pos hij, if_pos (by omega)]; rfl
    · rw [if_neg hij, ← List.getD_eq_getElem?_getD]; exact h3 j (by omega)
theorem RnS.full {w wr : World} {g n : Nat} {c : Int} (h : RnS w wr g n n c) (hl : n ≤ 1000000) : ∃ Z : List Int, Z.length = n ∧ (∀ j, j < n → Z.getD j 0 = c) ∧ BytesIn wr (.slice (some ⟨g, 0, none⟩) n n) Z (fun _ => True) := by
  obtain ⟨Z, h1, h2, h3⟩ := h.row
  refine ⟨Z, h1, h3, _, n, by rw [h1], by omega, by omega, fun hp => ⟨g, 0, rfl, trivial, Inf.lt_some h2, fun j hj => ?_⟩⟩
  rw [cell_of_row _ _ _ _ _ _ h2, Nat.zero_add, List.getElem?_toArray]
  exact k8_get Z j hj
theorem byt_same {Z : List Int} {c : Int} (hc : 0 ≤ c ∧ c < 256) (h : ∀ j, j < Z.length → Z.getD j 0 = c) : Lz.Byt Z := by
  intro x hx
  obtain ⟨j, hj, rfl⟩ := List.getElem_of_mem hx
  have := h j hj
  rw [List.getD_eq_getElem?_getD, List.getElem?_eq_getElem hj] at this
  rw [show Z[j] = c from this]
  exact hc

theorem Str.pg {B : List Int} {w : World} {n V m : Nat} {v : Value} (h : Str B w n V m v) (hb : Lz.Byt B) (hl : B.length ≤ 65536) (K : List Int) (hK : Lz.Byt K) (hk : K.length ≤ 10000) (M : Nat) (hM : B.length ≤ M) (hM2 : M ≤ 65536) (l : Nat) (hL : l = (Bit.by V m ++ K).length) (wx : World) (a : Option Addr) (cap : Nat) (hT : Tabs wx) (hB : BytesIn wx (.slice a l cap) (Bit.by V m ++ K) (fun _ => True)) :
    Calls Tryz.prog 15 #[.slice a l cap, .int .i64 (M : Int)] wx fun e w' => Told B (m : Int) 0 wx e w' := by
  have hm := h.le hl
  have hlen : (Bit.by V m ++ K).length = m + K.length := by rw [List.length_append, Bit.by_length]
  have := told_pg_ok hL (fun x hx => by exact (List.mem_append.mp hx).elim (Bit.by_bd V m x) (hK x)) (by omega) hM2 (by rw [hL]; exact h.run hb hl K M hM) wx a cap hT hB
  rw [← h.len] at this
  exact this

set_option maxRecDepth 100000 in
set_option maxHeartbeats 4000000 in
theorem druns_walk (c x : Int) (w : World) (hTD : Tabs w ∧ DTabs w) (hc0 : 0 ≤ c) (hc1 : c < 256) (hx0 : -9223372036854775808 ≤ x) (hx1 : x ≤ 9223372036854775807) :
    Calls Tryz.prog 5 #[.int .u8 c, .int .i64 x] w fun e w' => e = .returned (.bool true) ∧ Below w.heap.size w w' := by
  obtain ⟨hT, hD⟩ := hTD
  have HPK : Hid (∀ wx, Calls Tryz.prog 17 #[.int .i64 x, .int .i64 65540] wx fun e w' => e = .returned (.int .i64 (x % 65540)) ∧ w' = wx) := fun wx => pick_any x 65540 wx hx0 hx1 (by omega) (by omega)
  have HAW := Lib.hid (awake7_any w hD)
  have HC : Hid (0 ≤ c ∧ c < 256) := ⟨hc0, hc1⟩
  have HT := Lib.hid hT
  have HD := Lib.hid hD
  obtain ⟨n, hn⟩ : ∃ n : Nat, x % 65540 = n := ⟨(x % 65540).toNat, by omega⟩
  have hn6 : n < 65540 := by omega
  rw [hn] at HPK
  clear hx0 hx1 hc0 hc1 hn hT hD
  have hmk := fun wx => run_zeros n (by omega) wx
  go_enter Tryz.func5, Tryz.ntmps5
  go_wp2_with fail
  refine HAW.out.mono ?_
  rintro e w1 ⟨rfl, hb1⟩
  have HB1 := Lib.hid hb1
  clear hb1 HAW
  go_wp2_with fail
  refine (HPK.out w1).mono ?_
  rintro e w2 ⟨rfl, rfl⟩
  go_wp2_with fail
  have HR0 : Hid (RnS w (w2.alloc (.cells (k8 (List.replicate n 0)).toArray 5)) w2.heap.size n 0 c) :=
    ⟨HB1.out.alloc HB1.out.size _, HB1.out.size, _, by simp, heap_alloc_new _ _, fun j hj => by omega⟩
  clear hmk
  generalize w2.heap.size = g at *
  go_loopw [6] (fun v6 wr => ∃ i : Nat, i ≤ n ∧ v6 = .int .i64 (i : Int) ∧ RnS w wr g n i c) (fun v6 _ => (n - intOf v6).toNat)
  case atStart => exact ⟨0, by omega, rfl, HR0.out⟩
  case round =>
    clear HR0
    obtain ⟨i, hi, rfl, hR⟩ := hrel
    have HR := Lib.hid hR; clear hR
    by_cases hlt : i < n
    · obtain ⟨⟨x0, e0⟩, f0, hR1⟩ := HR.out.put hlt
      have HR1 := Lib.hid hR1
      clear hR1
      have hI : (i : Int) < (n : Int) := by omega
      have hdi : decide (i < n) = true := decide_eq_true hlt
      go_wp2
      exact ⟨⟨i + 1, by omega, by go_num, HR1.out⟩, by simp [intOf]; omega⟩
    · obtain rfl : i = n := by omega
      have hdi : decide (i < i) = false := by simp
      have HBW : Hid (Below w.heap.size w wr) := HR.out.bel
      obtain ⟨Z, hZ, hZc, hZb⟩ := HR.out.full (by omega)
      have HZ := Lib.hid hZ; have HZC := Lib.hid hZc; have HZB := Lib.hid hZb
      have HBY : Hid (Lz.Byt Z) := byt_same HC.out (by rw [hZ]; exact hZc)
      clear hZ hZc hZb
      by_cases h6 : 65536 < i
      · have hd6 : decide ((65536 : Int) < (i : Int)) = true := by simp; omega
        have HI6 := Lib.hid h6
        clear h6 HR hn6
        go_wp2_with fail
        refine (deflate_long _ _ _ _ HI6.out).mono ?_
        rintro e w3 ⟨rfl, rfl⟩
        go_wp2
        go_returns
        exact ⟨rfl, HBW.out⟩
      · have hd6 : decide ((65536 : Int) < (i : Int)) = false := by simp; omega
        have HI6 : Hid (i ≤ 65536) := by show i ≤ 65536; omega
        have HDF := Lib.hid (deflate_str Z _ i i wr HZ.out.symm (by omega) HZB.out HBY.out (HD.out.later HBW.out (Nat.le_refl _)))
        clear h6 HR hn6
        go_wp2_with fail
        refine HDF.out.mono ?_
        rintro e w3 ⟨h3, n3, V3, m3, G3, s3, rfl⟩
        have B3 : Hid (Below w.heap.size w w3) := HBW.out.trans (h3.mono HBW.out.size)
        have HZB := Lib.hid (later_bytes h3 HZB.out)
        have S3 := Lib.hid s3
        have HIN := Lib.hid (s3.pg HBY.out (by have := HI6.out; have := HZ.out; omega) [] (by intro x hx; cases hx) (by simp) i (by have := HZ.out; omega) HI6.out m3 (by rw [List.append_nil, Bit.by_length]) w3 _ m3 (HT.out.later B3.out (Nat.le_refl _)) (by rw [List.append_nil]; exact s3.byt))
        have hdl : decide ((m3 : Int) ≤ (i : Int) / 100 + 16) = true := by
          have h := s3.dfl.runs HBY.out (by have := HI6.out; have := HZ.out; omega) (fun j hj => by rw [HZC.out j (by rw [← HZ.out]; exact hj), HZC.out 0 (by have := HZ.out; omega)])
          rw [← s3.len, HZ.out] at h
          exact decide_eq_true (by omega)
        have hiI : (i : Int) ≤ 65536 := by have := HI6.out; omega
        clear h3 s3 HDF HBW
        go_wp2_with fail
        refine HIN.out.mono ?_
        rintro e w4 ⟨h4, a4, c4, rfl, o4⟩
        have B4 : Hid (Below w.heap.size w w4) := B3.out.trans (h4.mono B3.out.size)
        have HSM := Lib.hid (same_any Z _ i i a4 c4 w4 HZ.out.symm (by have := HI6.out; omega) (later_bytes h4 HZB.out) (by have := own_in o4; rw [HZ.out] at this; exact this))
        rw [HZ.out]
        clear h4 o4 HIN B3
        go_wp2_with fail
        refine HSM.out.mono ?_
        rintro e w5 ⟨rfl, h5⟩
        have B5 : Hid (Below w.heap.size w w5) := B4.out.trans (h5.below _)
        clear h5 B4 HSM
        go_wp2
        go_ret
        exact ⟨rfl, B5.out⟩
end Go.Proofs.YtenkkononchgmaaGreatDoor
