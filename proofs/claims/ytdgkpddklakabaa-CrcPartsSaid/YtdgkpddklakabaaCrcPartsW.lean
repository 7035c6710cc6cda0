/- The walk of the law CrcParts: in parts as if at once; the sums of rows that are odd together. -/
import Derived.Test.YtdgkpddklakabaaCrcLinear
import Derived.Test.YtdgkpddklakabaaCrcNumW
import Derived.Test.YtdgkpddklakabaaCrcFindsW
import Derived.Deep.RegionHeld3
namespace Go.Proofs.Ytdgkpddklakabaa
open Go.RowKit Go

/-- a table of the call's own, in a world that the call has come to -/
structure PS (w wi : World) (b : Nat) (p : Int) : Prop where
  bel : Below w.heap.size w wi
  tbl : Tbl wi b p
  lb : w.heap.size ≤ b
theorem PS.drew {w wi : World} {b : Nat} {p : Int} (h : PS w wi b p) : PS w wi.drew b p := ⟨h.bel.drew, h.tbl.keep rfl, h.lb⟩
theorem PS.later {w wi w' : World} {b : Nat} {p : Int} (h : PS w wi b p) (hb : Below wi.heap.size wi w') : PS w w' b p := ⟨h.bel.trans (hb.mono h.bel.size), h.tbl.keep (hb.block _ h.tbl.lt), h.lb⟩
theorem PS.add {w wi : World} {b : Nat} {p : Int} (h : PS w wi b p) (s : Int) (B : List Int) (v : Value) (hp : 0 ≤ p) (hp' : p < 4294967296) (hs : 0 ≤ s) (hs' : s < 4294967296) (hB : ∀ x ∈ B, 0 ≤ x ∧ x < 256) (hv : BytesIn w v B (fun _ => True)) :
    Calls Try.prog 18 #[.pointer (some ⟨b, 0, none⟩), .int .u32 s, v] wi fun e w' => e = .returned (.int .u32 (Crc.sum p s B)) ∧ PS w w' b p := by
  refine (add_any b p s B v wi hp hp' hs hs' hB (hv.mono h.bel.size (fun k hk _ => by have := h.lb; omega) (fun k o hk _ => h.bel.cell (by exact hk))) h.tbl).mono ?_
  rintro e w' ⟨he, hf⟩
  exact ⟨he, below_of_gb h.bel hf.1 h.lb h.bel.size, hf.tbl, h.lb⟩
theorem PS.cadd {w wi : World} {b : Nat} {p : Int} (h : PS w wi b p) (s : Int) (B : List Int) (v : Value) (hs : 0 ≤ s) (hs' : s < 4294967296) (hB : ∀ x ∈ B, 0 ≤ x ∧ x < 256) (hv : BytesIn w v B (fun _ => True)) :
    Calls Try.prog 13 #[.int .u32 s, v] wi fun e w' => e = .returned (.int .u32 (Crc.sum Crc.cas s B)) ∧ PS w w' b p :=
  (cadd_any s B v wi hs hs' hB (later_bytes h.bel hv)).mono fun _ _ ⟨he, hb⟩ => ⟨he, h.later hb⟩
theorem PS.csum {w wi : World} {b : Nat} {p : Int} (h : PS w wi b p) (B : List Int) (v : Value) (hB : ∀ x ∈ B, 0 ≤ x ∧ x < 256) (hv : BytesIn w v B (fun _ => True)) :
    Calls Try.prog 11 #[v] wi fun e w' => e = .returned (.int .u32 (Crc.sum Crc.cas 0 B)) ∧ PS w w' b p :=
  (csum_any B v wi hB (later_bytes h.bel hv)).mono fun _ _ ⟨he, hb⟩ => ⟨he, h.later hb⟩

/-- the row of odd bits, as far as it is made -/
def Odd (w : World) (g N k : Nat) (A B C : List Int) : Prop := ∃ D : Array Value, w.heap[g]? = some (.cells D 5 (0, 0)) ∧ D.size = N ∧ ∀ j, j < k → D[j]? = some (.int .u8 (Crc.odd3 (A.getD j 0) (B.getD j 0) (C.getD j 0)))
theorem Odd.keep {w w' : World} {g N k : Nat} {A B C : List Int} (h : Odd w g N k A B C) (he : w'.heap[g]? = w.heap[g]?) : Odd w' g N k A B C := by
  obtain ⟨D, h1, h2⟩ := h
  exact ⟨D, he.trans h1, h2⟩
theorem Odd.next {w : World} {g N k : Nat} {A B C : List Int} (h : Odd w g N k A B C) (hk : k < N) : Odd (w.setCell ⟨g, k, none⟩ (.int .u8 (Crc.odd3 (A.getD k 0) (B.getD k 0) (C.getD k 0)))) g N (k + 1) A B C := by
  obtain ⟨D, h1, h2, h3⟩ := h
  refine ⟨_, heap_setCell_same _ _ _ _ _ _ h1, by simpa using h2, fun j hj => ?_⟩
  rw [Array.getElem?_setIfInBounds]
  by_cases hjk : k = j
  · subst hjk; rw [if_pos rfl, if_pos (by omega)]
  · rw [if_neg hjk]; exact h3 j (by omega)
theorem Odd.bytes {w : World} {g N : Nat} {A B C : List Int} (h : Odd w g N N A B C) (hN : N ≤ 50000) : BytesIn w (.slice (some ⟨g, 0, none⟩) N N) (Crc.odds A B C N) (fun s => s = g) := by
  obtain ⟨D, h1, h2, h3⟩ := h
  refine ⟨_, N, by rw [Crc.odds_length], by rw [Crc.odds_length]; omega, by omega, fun _ => ⟨g, 0, rfl, rfl, lt_of_block h1, fun j hj => ?_⟩⟩
  rw [Crc.odds_length] at hj
  rw [cell_of_row _ _ _ _ _ _ h1, Nat.zero_add, Crc.odds_get _ _ _ _ _ hj]
  exact h3 j hj
/-- that table, and that row beside it -/
structure PD (w wi : World) (b : Nat) (p : Int) (g N : Nat) (A B C : List Int) : Prop where
  ps : PS w wi b p
  od : Odd wi g N N A B C
  ne : g ≠ b
theorem PD.drew {w wi : World} {b : Nat} {p : Int} {g N : Nat} {A B C : List Int} (h : PD w wi b p g N A B C) : PD w wi.drew b p g N A B C := ⟨h.ps.drew, h.od.keep rfl, h.ne⟩
theorem PD.add {w wi : World} {b : Nat} {p : Int} {g N : Nat} {A B C : List Int} (h : PD w wi b p g N A B C) (s : Int) (L : List Int) (v : Value) (hp : 0 ≤ p) (hp' : p < 4294967296) (hs : 0 ≤ s) (hs' : s < 4294967296) (hL : ∀ x ∈ L, 0 ≤ x ∧ x < 256)
    (hv : BytesIn wi v L (· ≠ b)) :
    Calls Try.prog 18 #[.pointer (some ⟨b, 0, none⟩), .int .u32 s, v] wi fun e w' => e = .returned (.int .u32 (Crc.sum p s L)) ∧ PD w w' b p g N A B C := by
  refine (add_any b p s L v wi hp hp' hs hs' hL hv h.ps.tbl).mono ?_
  rintro e w' ⟨he, hf⟩
  have hg : g < wi.heap.size := by obtain ⟨D, h1, _⟩ := h.od; exact lt_of_block h1
  exact ⟨he, ⟨below_of_gb h.ps.bel hf.1 h.ps.lb h.ps.bel.size, hf.tbl, h.ps.lb⟩, h.od.keep (gb_heap hf.1 hg h.ne), h.ne⟩
theorem PD.arg {w wi : World} {b : Nat} {p : Int} {g N : Nat} {A B C : List Int} (h : PD w wi b p g N A B C) {v : Value} {L : List Int} (hv : BytesIn w v L (fun _ => True)) : BytesIn wi v L (· ≠ b) :=
  hv.mono h.ps.bel.size (fun k hk _ => by have := h.ps.lb; omega) (fun k o hk _ => h.ps.bel.cell (by exact hk))

set_option maxRecDepth 100000 in
set_option maxHeartbeats 4000000 in
theorem parts_core (p s : Int) (a1 : Option Addr) (n1 c1 : Nat) (A : List Int) (a2 : Option Addr) (n2 c2 : Nat) (B : List Int) (a3 : Option Addr) (n3 c3 : Nat) (C : List Int) (x : Int) (w : World) (hp : 0 ≤ p) (hp' : p < 4294967296) (hs : 0 ≤ s) (hs' : s < 4294967296)
    (hn1 : n1 = A.length) (hA : BytesIn w (.slice a1 n1 c1) A (fun _ => True)) (hAb : ∀ x ∈ A, 0 ≤ x ∧ x < 256)
    (hn2 : n2 = B.length) (hB : BytesIn w (.slice a2 n2 c2) B (fun _ => True)) (hBb : ∀ x ∈ B, 0 ≤ x ∧ x < 256)
    (hn3 : n3 = C.length) (hC : BytesIn w (.slice a3 n3 c3) C (fun _ => True)) (hCb : ∀ x ∈ C, 0 ≤ x ∧ x < 256)
    (hx0 : -9223372036854775808 ≤ x) (hx1 : x ≤ 9223372036854775807) (hn : n1 ≤ 50000) :
    Calls Try.prog 7 #[.int .u32 p, .int .u32 s, .slice a1 n1 c1, .slice a2 n2 c2, .slice a3 n3 c3, .int .i64 x] w fun e w' => e = .returned (.bool true) ∧ Below w.heap.size w w' := by
  obtain ⟨c, hc⟩ : ∃ c : Nat, x % ((n1 : Int) + 1) = (c : Int) := ⟨(x % ((n1 : Int) + 1)).toNat, by have := Int.emod_nonneg x (show (n1 : Int) + 1 ≠ 0 by omega); omega⟩
  have hcn : c ≤ n1 := by have := Int.emod_lt_of_pos x (show 0 < (n1 : Int) + 1 by omega); omega
  have hA' := hA
  rw [hn1] at hA'
  have hcap : n1 ≤ c1 := by obtain ⟨_, _, e, h, _⟩ := hA; cases e; omega
  obtain ⟨v2, hv2⟩ : ∃ v, v = Value.slice (if c1 = c then a1 else a1.map (·.add c)) (n1 - c) (c1 - c) := ⟨_, rfl⟩
  have HA1 : BytesIn w (.slice a1 c c1) (A.take c) (fun _ => True) := hA'.take c (by omega)
  have HA2 : BytesIn w v2 (A.drop c) (fun _ => True) := by have := hA'.drop c (by omega); rw [hv2, hn1]; exact this
  have hs1 := slice_to a1 n1 c1 c (by omega)
  have hs2 := slice_from a1 n1 c1 c hcn
  rw [← hv2] at hs2
  have m1 : ∀ z ∈ A.take c, 0 ≤ z ∧ z < 256 := fun z hz => hAb z (List.mem_of_mem_take hz)
  have m2 : ∀ z ∈ A.drop c, 0 ≤ z ∧ z < 256 := fun z hz => hAb z (List.mem_of_mem_drop hz)
  have q1 := Crc.sum_parts p s A c (by omega)
  have q2 := Crc.sum_parts Crc.cas s A c (by omega)
  have HNEW : Hid (∀ wi, Below w.heap.size w wi → Calls Try.prog 16 #[.int .u32 p] wi fun e w' => ∃ b, e = .returned (.pointer (some ⟨b, 0, none⟩)) ∧ Hid (PS w w' b p)) := fun wi hb => by
    refine (new_raw p wi).mono ?_
    rintro e w' ⟨he, rfl⟩
    exact ⟨_, he, hb.trans (((Below.refl _ _).alloc (Nat.le_refl _) _).mono hb.size), tbl_new p wi, hb.size⟩
  have HAW := Lib.hid (awake_any w)
  have HPK : Hid (∀ wx, Calls Try.prog 19 #[.int .i64 x, .int .i64 ((n1 : Int) + 1)] wx fun e w' => e = .returned (.int .i64 (c : Int)) ∧ wx = w') := fun wx => by
    rw [← hc]
    exact (pick_any x _ wx hx0 hx1 (by omega) (by omega)).mono fun e w' ⟨he, hw⟩ => ⟨he, hw.symm⟩
  have T1 : Hid (∀ b wi, PS w wi b p → Calls Try.prog 18 #[.pointer (some ⟨b, 0, none⟩), .int .u32 s, .slice a1 c c1] wi fun e w' => e = .returned (.int .u32 (Crc.sum p s (A.take c))) ∧ PS w w' b p) := fun b wi h => h.add s _ _ hp hp' hs hs' m1 HA1
  have T2 : Hid (∀ b wi, PS w wi b p → Calls Try.prog 18 #[.pointer (some ⟨b, 0, none⟩), .int .u32 (Crc.sum p s (A.take c)), v2] wi fun e w' => e = .returned (.int .u32 (Crc.sum p s A)) ∧ PS w w' b p) := fun b wi h => by
    have := h.add (Crc.sum p s (A.take c)) _ _ hp hp' (Crc.sum_bd _ _ _).1 (Crc.sum_bd _ _ _).2 m2 HA2
    rw [q1] at this
    exact this
  have T3 : Hid (∀ b wi, PS w wi b p → Calls Try.prog 18 #[.pointer (some ⟨b, 0, none⟩), .int .u32 s, .slice a1 n1 c1] wi fun e w' => e = .returned (.int .u32 (Crc.sum p s A)) ∧ PS w w' b p) := fun b wi h => h.add s _ _ hp hp' hs hs' hAb hA
  have D1 : Hid (∀ b wi, PS w wi b p → Calls Try.prog 13 #[.int .u32 s, .slice a1 c c1] wi fun e w' => e = .returned (.int .u32 (Crc.sum Crc.cas s (A.take c))) ∧ PS w w' b p) := fun b wi h => h.cadd s _ _ hs hs' m1 HA1
  have D2 : Hid (∀ b wi, PS w wi b p → Calls Try.prog 13 #[.int .u32 (Crc.sum Crc.cas s (A.take c)), v2] wi fun e w' => e = .returned (.int .u32 (Crc.sum Crc.cas s A)) ∧ PS w w' b p) := fun b wi h => by
    have := h.cadd (Crc.sum Crc.cas s (A.take c)) _ _ (Crc.sum_bd _ _ _).1 (Crc.sum_bd _ _ _).2 m2 HA2
    rw [q2] at this
    exact this
  have D3 : Hid (∀ b wi, PS w wi b p → Calls Try.prog 13 #[.int .u32 s, .slice a1 n1 c1] wi fun e w' => e = .returned (.int .u32 (Crc.sum Crc.cas s A)) ∧ PS w w' b p) := fun b wi h => h.cadd s _ _ hs hs' hAb hA
  have E1 : Hid (∀ b wi, PS w wi b p → Calls Try.prog 11 #[.slice a1 n1 c1] wi fun e w' => e = .returned (.int .u32 (Crc.sum Crc.cas 0 A)) ∧ PS w w' b p) := fun b wi h => h.csum _ _ hAb hA
  have E2 : Hid (∀ b wi, PS w wi b p → Calls Try.prog 13 #[.int .u32 0, .slice a1 n1 c1] wi fun e w' => e = .returned (.int .u32 (Crc.sum Crc.cas 0 A)) ∧ PS w w' b p) := fun b wi h => h.cadd 0 _ _ (by omega) (by omega) hAb hA
  generalize Crc.sum p s (A.take c) = y1 at *
  generalize Crc.sum Crc.cas s (A.take c) = y2 at *
  obtain ⟨y3, hy3⟩ : ∃ y, Crc.sum p s A = y := ⟨_, rfl⟩
  obtain ⟨y4, hy4⟩ : ∃ y, Crc.sum Crc.cas s A = y := ⟨_, rfl⟩
  obtain ⟨y5, hy5⟩ : ∃ y, Crc.sum Crc.cas 0 A = y := ⟨_, rfl⟩
  rw [hy3] at T2 T3
  rw [hy4] at D2 D3
  rw [hy5] at E1 E2
  clear hy3 hy4 hy5 q1 q2 hv2 HA1 HA2 m1 m2 hA' hc hx0 hx1
  obtain ⟨N, hN1, hN2, hN3, hN⟩ : ∃ N : Nat, N ≤ n1 ∧ N ≤ n2 ∧ N ≤ n3 ∧ (if (n3 : Int) < (if (n2 : Int) < n1 then (n2 : Int) else n1) then (n3 : Int) else (if (n2 : Int) < n1 then (n2 : Int) else n1)) = (N : Int) := ⟨min n1 (min n2 n3), by omega, by omega, by omega, by split <;> split <;> omega⟩
  have hmin : ∀ (ts : Array TypeId) (t : TypeId) (wx : World), (Builtin.min_ ts t #[.int .i64 (n1 : Int), .int .i64 (n2 : Int), .int .i64 (n3 : Int)]).run Try.prog wx = .ok (.int .i64 (N : Int)) wx := fun ts t wx => by rw [run_min_int3, hN]
  clear hN
  have hN5 : (N : Int) ≤ 50000 := by omega
  have hn1I : (n1 : Int) ≤ 50000 := by omega
  have hw1 : IntKind.i64.wrap ((n1 : Int) + 1) = (n1 : Int) + 1 := by rw [IntKind.wrap_i64]; omega
  have HS2 := Lib.hid hs2; clear hs2
  have HS1 := Lib.hid hs1; clear hs1
  have HA := Lib.hid hA; clear hA
  have HAB := Lib.hid hAb; clear hAb
  have HB := Lib.hid hB; clear hB
  have HBB := Lib.hid hBb; clear hBb
  have HC := Lib.hid hC; clear hC
  have HCB := Lib.hid hCb; clear hCb
  have HN1 := Lib.hid hn1; clear hn1
  have HN2 := Lib.hid hn2; clear hn2
  have HN3 := Lib.hid hn3; clear hn3
  go_enter Try.func7, Try.ntmps7
  go_wp2_with fail
  refine HAW.out.mono ?_
  rintro e w1 ⟨rfl, hb1⟩
  have HB1 := Lib.hid hb1; clear hb1 HAW
  go_wp2_with fail
  refine (HNEW.out _ HB1.out).mono ?_
  rintro e w2 ⟨b, rfl, hps⟩
  clear HNEW HB1
  go_wp2_with fail
  refine (HPK.out _).mono ?_
  rintro e w' ⟨rfl, rfl⟩
  clear HPK
  have hs1 := HS1.out
  have hs2 := HS2.out
  have hps0 := hps.out.drew
  go_wp2_with fail
  go_region_held3 (fun wx => PS w wx b p) (assumption) ((first | (go_at_call 18; (with_reducible refine (T1.out b _ (by assumption)).mono ?_); rintro e w5 ⟨rfl, hps5⟩) | (go_at_call 18; (with_reducible refine (T2.out b _ (by assumption)).mono ?_); rintro e w5 ⟨rfl, hps5⟩) | (go_at_call 18; (with_reducible refine (T3.out b _ (by assumption)).mono ?_); rintro e w5 ⟨rfl, hps5⟩) | (go_at_call 13; (with_reducible refine (D1.out b _ (by assumption)).mono ?_); rintro e w5 ⟨rfl, hps5⟩) | (go_at_call 13; (with_reducible refine (D2.out b _ (by assumption)).mono ?_); rintro e w5 ⟨rfl, hps5⟩) | (go_at_call 13; (with_reducible refine (D3.out b _ (by assumption)).mono ?_); rintro e w5 ⟨rfl, hps5⟩) | (go_at_call 11; (with_reducible refine (E1.out b _ (by assumption)).mono ?_); rintro e w5 ⟨rfl, hps5⟩) | (go_at_call 13; (with_reducible refine (E2.out b _ (by assumption)).mono ?_); rintro e w5 ⟨rfl, hps5⟩)))
  clear hs1 hs2 hps0
  have HP5 := Lib.hid (show PS w w5 b p by assumption)
  clear hps hps5
  clear T1 T2 T3 D1 D2 D3 E1 E2 HS1 HS2
  have hmk := run_zeros N (by omega)
  go_wp2
  have HP6 : Hid (PS w (w5.alloc (Obj.cells (k8 (List.replicate N 0)).toArray 5)) b p ∧ Odd (w5.alloc (Obj.cells (k8 (List.replicate N 0)).toArray 5)) w5.heap.size N 0 A B C ∧ w5.heap.size ≠ b ∧ w.heap.size ≤ w5.heap.size) :=
    ⟨HP5.out.later ((Below.refl _ _).alloc (Nat.le_refl _) _), ⟨_, heap_alloc_new _ _, by simp [k8], fun j hj => by omega⟩, by have := HP5.out.tbl.lt; omega, HP5.out.bel.size⟩
  clear hmk HP5
  generalize w5.alloc (Obj.cells (k8 (List.replicate N 0)).toArray 5) = w6 at *
  generalize w5.heap.size = g at *
  go_loopw [16] (fun v16 wr => ∃ k : Nat, k ≤ N ∧ v16 = .int .i64 (k : Int) ∧ PS w wr b p ∧ Odd wr g N k A B C ∧ g ≠ b ∧ w.heap.size ≤ g) (fun v16 _ => (N - intOf v16).toNat)
  case atStart => exact ⟨0, by omega, rfl, HP6.out⟩
  case round =>
    clear HP6
    obtain ⟨k, hk, rfl, hps, hod, hgb, hgw⟩ := hrel
    have HPS := Lib.hid hps; clear hps
    have HOD := Lib.hid hod; clear hod
    have HGB := Lib.hid hgb; clear hgb
    by_cases hlt : k < N
    · obtain ⟨x1, o1, rfl, l1⟩ : ∃ s1 o1, a1 = some ⟨s1, o1, none⟩ ∧ wr.cell? ⟨s1, o1 + k, none⟩ = some (.int .u8 (A.getD k 0)) := by
        obtain ⟨_, _, e, _, _, h⟩ := HA.out
        cases e
        obtain ⟨s1, o1, e, _, hs, hcl⟩ := h (by have := HN1.out; omega)
        exact ⟨s1, o1, e, (HPS.out.bel.cell (by exact hs)).trans (hcl k (by have := HN1.out; omega))⟩
      obtain ⟨x2, o2, rfl, l2⟩ : ∃ s1 o1, a2 = some ⟨s1, o1, none⟩ ∧ wr.cell? ⟨s1, o1 + k, none⟩ = some (.int .u8 (B.getD k 0)) := by
        obtain ⟨_, _, e, _, _, h⟩ := HB.out
        cases e
        obtain ⟨s1, o1, e, _, hs, hcl⟩ := h (by have := HN2.out; omega)
        exact ⟨s1, o1, e, (HPS.out.bel.cell (by exact hs)).trans (hcl k (by have := HN2.out; omega))⟩
      obtain ⟨x3, o3, rfl, l3⟩ : ∃ s1 o1, a3 = some ⟨s1, o1, none⟩ ∧ wr.cell? ⟨s1, o1 + k, none⟩ = some (.int .u8 (C.getD k 0)) := by
        obtain ⟨_, _, e, _, _, h⟩ := HC.out
        cases e
        obtain ⟨s1, o1, e, _, hs, hcl⟩ := h (by have := HN3.out; omega)
        exact ⟨s1, o1, e, (HPS.out.bel.cell (by exact hs)).trans (hcl k (by have := HN3.out; omega))⟩
      obtain ⟨ov, l4⟩ : ∃ v, wr.cell? ⟨g, k, none⟩ = some v := by
        obtain ⟨D, h1, h2, _⟩ := HOD.out
        exact ⟨_, (cell_of_row _ _ _ _ _ _ h1).trans (Array.getElem?_eq_getElem (by omega))⟩
      have f4 : wr.frozen? ⟨g, k, none⟩ = false := by
        obtain ⟨D, h1, h2, _⟩ := HOD.out
        exact frozen_of_row _ _ _ _ _ h1
      have HNX := Lib.hid (HOD.out.next hlt)
      unfold Crc.odd3 at HNX
      have r1 : (k : Int) < n1 := by omega
      have r2 : (k : Int) < n2 := by omega
      have r3 : (k : Int) < n3 := by omega
      generalize A.getD k 0 = z1 at *
      generalize B.getD k 0 = z2 at *
      generalize C.getD k 0 = z3 at *
      go_wp2_with fail
      go_region
      go_wp2
      go_roundw
      case rel =>
        refine ⟨k + 1, by omega, by go_num, PS.drew ⟨HPS.out.bel.setCell hgw _, HPS.out.tbl.keep (heap_setCell_other _ _ _ _ (fun e => HGB.out e.symm)), HPS.out.lb⟩, HNX.out.keep rfl, HGB.out, hgw⟩
      case measure => simp [intOf]; omega
    · obtain rfl : k = N := by omega
      have HPD : Hid (PD w wr b p g k A B C) := ⟨HPS.out, HOD.out, HGB.out⟩
      have s1 := slice_to a1 n1 c1 k (by omega)
      have s2 := slice_to a2 n2 c2 k (by have := HB.out; obtain ⟨_, _, e, h, _⟩ := this; cases e; omega)
      have s3 := slice_to a3 n3 c3 k (by have := HC.out; obtain ⟨_, _, e, h, _⟩ := this; cases e; omega)
      have b1 : BytesIn w (.slice a1 k c1) (A.take k) (fun _ => True) := by have := HA.out; rw [HN1.out] at this; exact this.take k (by have := HN1.out; omega)
      have b2 : BytesIn w (.slice a2 k c2) (B.take k) (fun _ => True) := by have := HB.out; rw [HN2.out] at this; exact this.take k (by have := HN2.out; omega)
      have b3 : BytesIn w (.slice a3 k c3) (C.take k) (fun _ => True) := by have := HC.out; rw [HN3.out] at this; exact this.take k (by have := HN3.out; omega)
      have m1 : ∀ z ∈ A.take k, 0 ≤ z ∧ z < 256 := fun z hz => HAB.out z (List.mem_of_mem_take hz)
      have m2 : ∀ z ∈ B.take k, 0 ≤ z ∧ z < 256 := fun z hz => HBB.out z (List.mem_of_mem_take hz)
      have m3 : ∀ z ∈ C.take k, 0 ≤ z ∧ z < 256 := fun z hz => HCB.out z (List.mem_of_mem_take hz)
      have F1 : Hid (∀ wi, PD w wi b p g k A B C → Calls Try.prog 18 #[.pointer (some ⟨b, 0, none⟩), .int .u32 s, .slice a1 k c1] wi fun e w' => e = .returned (.int .u32 (Crc.sum p s (A.take k))) ∧ PD w w' b p g k A B C) := fun wi h => h.add s _ _ hp hp' hs hs' m1 (h.arg b1)
      have F2 : Hid (∀ wi, PD w wi b p g k A B C → Calls Try.prog 18 #[.pointer (some ⟨b, 0, none⟩), .int .u32 s, .slice a2 k c2] wi fun e w' => e = .returned (.int .u32 (Crc.sum p s (B.take k))) ∧ PD w w' b p g k A B C) := fun wi h => h.add s _ _ hp hp' hs hs' m2 (h.arg b2)
      have F3 : Hid (∀ wi, PD w wi b p g k A B C → Calls Try.prog 18 #[.pointer (some ⟨b, 0, none⟩), .int .u32 s, .slice a3 k c3] wi fun e w' => e = .returned (.int .u32 (Crc.sum p s (C.take k))) ∧ PD w w' b p g k A B C) := fun wi h => h.add s _ _ hp hp' hs hs' m3 (h.arg b3)
      have F4 : Hid (∀ wi, PD w wi b p g k A B C → Calls Try.prog 18 #[.pointer (some ⟨b, 0, none⟩), .int .u32 s, .slice (some ⟨g, 0, none⟩) k k] wi fun e w' => e = .returned (.int .u32 (Crc.sum p s (Crc.odds A B C k))) ∧ PD w w' b p g k A B C) := fun wi h =>
        h.add s _ _ hp hp' hs hs' (Crc.odds_mem HAB.out HBB.out HCB.out k) ((h.od.bytes (by omega)).mono (Nat.le_refl _) (fun t _ e => by rw [e]; exact h.ne) (fun _ _ _ _ => rfl))
      have hz := Crc.sum_odds HAB.out HBB.out HCB.out p s k (by have := HN1.out; omega) (by have := HN2.out; omega) (by have := HN3.out; omega)
      generalize Crc.sum p s (A.take k) = u1 at *
      generalize Crc.sum p s (B.take k) = u2 at *
      generalize Crc.sum p s (C.take k) = u3 at *
      generalize Crc.sum p s (Crc.odds A B C k) = u4 at *
      clear b1 b2 b3 m1 m2 m3 HPS HOD HGB HA HB HC HN1 HN2 HN3 HAB HBB HCB
      have hpd0 := HPD.out.drew
      have S1 := Lib.hid s1; clear s1
      have S2 := Lib.hid s2; clear s2
      have S3 := Lib.hid s3; clear s3
      have s1 := S1.out
      have s2 := S2.out
      have s3 := S3.out
      go_wp2_with fail
      go_region_held3 (fun wx => PD w wx b p g k A B C) (assumption) ((first | (go_at_call 18; (with_reducible refine (F1.out _ (by assumption)).mono ?_); rintro e w7 ⟨rfl, hpd7⟩) | (go_at_call 18; (with_reducible refine (F2.out _ (by assumption)).mono ?_); rintro e w7 ⟨rfl, hpd7⟩) | (go_at_call 18; (with_reducible refine (F3.out _ (by assumption)).mono ?_); rintro e w7 ⟨rfl, hpd7⟩) | (go_at_call 18; (with_reducible refine (F4.out _ (by assumption)).mono ?_); rintro e w7 ⟨rfl, hpd7⟩)))
      have HE : Hid (Below w.heap.size w w7) := (show PD w w7 b p g k A B C by assumption).ps.bel
      clear s1 s2 s3 hpd0 hpd7 HPD
      go_wp2
      go_ret
      exact ⟨rfl, HE.out⟩

set_option maxRecDepth 100000 in
set_option maxHeartbeats 1000000 in
theorem parts_walk (p s : Int) (a1 : Option Addr) (n1 c1 : Nat) (A : List Int) (a2 : Option Addr) (n2 c2 : Nat) (B : List Int) (a3 : Option Addr) (n3 c3 : Nat) (C : List Int) (x : Int) (w : World) (hp : 0 ≤ p) (hp' : p < 4294967296) (hs : 0 ≤ s) (hs' : s < 4294967296)
    (hn1 : n1 = A.length) (hA : BytesIn w (.slice a1 n1 c1) A (fun _ => True)) (hAb : ∀ x ∈ A, 0 ≤ x ∧ x < 256) (_ : a1 = none → c1 = 0) (_ : n1 ≤ 140737488351232)
    (hn2 : n2 = B.length) (hB : BytesIn w (.slice a2 n2 c2) B (fun _ => True)) (hBb : ∀ x ∈ B, 0 ≤ x ∧ x < 256) (_ : a2 = none → c2 = 0) (_ : n2 ≤ 140737488351232)
    (hn3 : n3 = C.length) (hC : BytesIn w (.slice a3 n3 c3) C (fun _ => True)) (hCb : ∀ x ∈ C, 0 ≤ x ∧ x < 256) (_ : a3 = none → c3 = 0) (_ : n3 ≤ 140737488351232)
    (hx0 : -9223372036854775808 ≤ x) (hx1 : x ≤ 9223372036854775807) :
    Calls Try.prog 7 #[.int .u32 p, .int .u32 s, .slice a1 n1 c1, .slice a2 n2 c2, .slice a3 n3 c3, .int .i64 x] w fun e w' => e = .returned (.bool true) ∧ Below w.heap.size w w' := by
  by_cases hn : n1 ≤ 50000
  · exact parts_core p s a1 n1 c1 A a2 n2 c2 B a3 n3 c3 C x w hp hp' hs hs' hn1 hA hAb hn2 hB hBb hn3 hC hCb hx0 hx1 hn
  · have HAW := Lib.hid (awake_any w)
    obtain ⟨N, hN⟩ : ∃ N : Nat, (if (n3 : Int) < (if (n2 : Int) < n1 then (n2 : Int) else n1) then (n3 : Int) else (if (n2 : Int) < n1 then (n2 : Int) else n1)) = (N : Int) := ⟨min n1 (min n2 n3), by split <;> split <;> omega⟩
    have hmin : ∀ (ts : Array TypeId) (t : TypeId) (wx : World), (Builtin.min_ ts t #[.int .i64 (n1 : Int), .int .i64 (n2 : Int), .int .i64 (n3 : Int)]).run Try.prog wx = .ok (.int .i64 (N : Int)) wx := fun ts t wx => by rw [run_min_int3, hN]
    clear hN hn1 hA hAb hn2 hB hBb hn3 hC hCb
    go_enter Try.func7, Try.ntmps7
    go_wp2_with fail
    refine HAW.out.mono ?_
    rintro e w1 ⟨rfl, hb1⟩
    have HB1 := Lib.hid hb1; clear hb1 HAW
    go_wp2
    go_ret
    exact ⟨rfl, HB1.out⟩
end Go.Proofs.Ytdgkpddklakabaa
