/- Laid together: HmCode. -/
import Derived.Test.YtenkkononchgmaaGreatDoorDkB01
import Derived.Lib.EndianMore

namespace Go.Proofs.YtenkkononchgmaaGreatDoor

def Huf.cnt (L : Nat → Int) : Nat → Nat → Nat
 | 0, _ => 0
 | i + 1, k => Huf.cnt L i k + if 0 < k ∧ L i = (k : Int) then 1 else 0
def Huf.ok (L : Nat → Int) (n : Nat) : Prop := n ≤ 288 ∧ ∀ i, i < n → 0 ≤ L i ∧ L i ≤ 15
def Huf.tot (C : Nat → Nat) : Nat → Nat
 | 0 => 0
 | k + 1 => Huf.tot C k + C k
def Huf.take (C : Nat → Nat) : Nat → Nat
 | 0 => 0
 | k + 1 => Huf.take C k + C k * 2 ^ (15 - k)
def Huf.fst (C : Nat → Nat) : Nat → Nat
 | 0 => 0
 | k + 1 => 2 * (Huf.fst C k + C k)
def Huf.mk (C : Nat → Nat) : Bool := decide (Huf.tot C 16 = 0) || decide (Huf.take C 16 = 32768) || (decide (Huf.tot C 16 = 1) && decide (C 1 = 1))
def Huf.code (L : Nat → Int) (n i : Nat) : Nat := if 0 < L i then Huf.fst (Huf.cnt L n) (L i).toNat + Huf.cnt L i (L i).toNat else 0

theorem Huf.cnt_zero (L : Nat → Int) : ∀ m, Huf.cnt L m 0 = 0
 | 0 => rfl
 | m + 1 => by rw [Huf.cnt, Huf.cnt_zero L m, if_neg (by omega)]
theorem Huf.cnt_le (L : Nat → Int) (k : Nat) : ∀ m, Huf.cnt L m k ≤ m
 | 0 => Nat.le_refl _
 | m + 1 => by have := Huf.cnt_le L k m; rw [Huf.cnt]; split <;> omega
theorem Huf.cnt_mono (L : Nat → Int) (k m : Nat) : ∀ d, Huf.cnt L m k ≤ Huf.cnt L (m + d) k
 | 0 => Nat.le_refl _
 | d + 1 => by have := Huf.cnt_mono L k m d; rw [← Nat.add_assoc, Huf.cnt]; omega
theorem Huf.cnt_lt (L : Nat → Int) {k i n : Nat} (h : i < n) (hk : 0 < k) (hl : L i = (k : Int)) : Huf.cnt L i k < Huf.cnt L n k := by
 have := Huf.cnt_mono L k (i + 1) (n - (i + 1))
 rw [show i + 1 + (n - (i + 1)) = n by omega, Huf.cnt, if_pos ⟨hk, hl⟩] at this
 omega
theorem Huf.tot_cnt (L : Nat → Int) : ∀ m, (∀ i, i < m → 0 ≤ L i ∧ L i ≤ 15) → Huf.tot (Huf.cnt L (m)) 16 ≤ m := by
 intro m hm
 have step : ∀ (C D : Nat → Nat) (K j : Nat), (∀ k, k ≠ j → D k = C k) → D j = C j + 1 → Huf.tot D K ≤ Huf.tot C K + 1 ∧ (K ≤ j → Huf.tot D K = Huf.tot C K) := by
   intro C D K j h1 h2
   induction K with
   | zero => exact ⟨by simp [Huf.tot], fun _ => rfl⟩
   | succ K ih =>
     obtain ⟨i1, i2⟩ := ih
     rw [Huf.tot, Huf.tot]
     refine ⟨?_, fun h => ?_⟩
     · by_cases e : K = j
       · have := i2 (by omega); rw [e, h2] at *; omega
       · rw [h1 K e]; omega
     · rw [i2 (by omega), h1 K (by omega)]
 have same : ∀ (C D : Nat → Nat) (K : Nat), (∀ k, D k = C k) → Huf.tot D K = Huf.tot C K := by
   intro C D K h
   induction K with
   | zero => rfl
   | succ K ih => rw [Huf.tot, Huf.tot, ih, h]
 induction m with
 | zero =>
   have : ∀ K, Huf.tot (Huf.cnt L 0) K = 0 := fun K => by
     induction K with
     | zero => rfl
     | succ K ih => rw [Huf.tot, ih]; rfl
   rw [this]; exact Nat.le_refl _
 | succ m ih =>
   have ih' := ih (fun i hi => hm i (by omega))
   by_cases h0 : 0 < L m
   · have := (step (Huf.cnt L m) (Huf.cnt L (m + 1)) 16 (L m).toNat (fun k hk => by rw [Huf.cnt, if_neg (by omega)]; omega) (by rw [Huf.cnt, if_pos (by omega)])).1
     omega
   · have := same (Huf.cnt L m) (Huf.cnt L (m + 1)) 16 (fun k => by rw [Huf.cnt, if_neg (by omega)]; omega)
     omega
theorem Huf.fst_le (C : Nat → Nat) (M : Nat) (h : ∀ k, C k ≤ M) : ∀ k, Huf.fst C k + 2 * M ≤ M * 2 ^ (k + 1)
 | 0 => by rw [Huf.fst]; omega
 | k + 1 => by
   have h1 := Huf.fst_le C M h k
   have h2 := h k
   rw [Huf.fst, Nat.pow_succ 2 (k + 1)]
   have : M * (2 ^ (k + 1) * 2) = 2 * (M * 2 ^ (k + 1)) := by rw [Nat.mul_comm _ 2, Nat.mul_left_comm]
   omega
theorem Huf.take_le (C : Nat → Nat) (M : Nat) (h : ∀ k, C k ≤ M) : ∀ k, Huf.take C k ≤ M * 32768 * k
 | 0 => Nat.zero_le _
 | k + 1 => by
   have h1 := Huf.take_le C M h k
   have h2 := h k
   rw [Huf.take, Nat.mul_add, Nat.mul_one]
   have h3 : 2 ^ (15 - k) ≤ 2 ^ 15 := Nat.pow_le_pow_right (by omega) (by omega)
   have h4 : C k * 2 ^ (15 - k) ≤ M * 32768 := Nat.mul_le_mul h2 h3
   omega
theorem Huf.tot_le (C : Nat → Nat) (M : Nat) (h : ∀ k, C k ≤ M) : ∀ k, Huf.tot C k ≤ M * k
 | 0 => Nat.zero_le _
 | k + 1 => by
   have h1 := Huf.tot_le C M h k
   have h2 := h k
   rw [Huf.tot, Nat.mul_add, Nat.mul_one]; omega
end Go.Proofs.YtenkkononchgmaaGreatDoor

/- Slices of numbers that are read, and arrays of sixteen numbers. -/
namespace Go.Proofs.YtenkkononchgmaaGreatDoor
open Go.RowKit Go

theorem wm {x : Int} {n : Nat} (h : x = (n : Int)) (hn : n ≤ 1000000000000) : IntKind.i64.wrap x = (n : Int) := by rw [h, IntKind.wrap_i64]; omega
structure Ints (w : World) (a : Option Addr) (n cap : Nat) (L : Nat → Int) : Prop where
 le : n ≤ cap
 ad : 0 < n → ∃ s o, a = some ⟨s, o, none⟩ ∧ s < w.heap.size ∧ ∀ j, j < n → w.cell? ⟨s, o + j, none⟩ = some (.int .i64 (L j))
theorem Ints.keep {w w' : World} {a : Option Addr} {n cap : Nat} {L : Nat → Int} (h : Ints w a n cap L) (hk : ∀ s o, a = some ⟨s, o, none⟩ → w'.heap[s]? = w.heap[s]?) (hs : w.heap.size ≤ w'.heap.size) : Ints w' a n cap L := by
 refine ⟨h.le, fun hn => ?_⟩
 obtain ⟨s, o, e, h1, h2⟩ := h.ad hn
 exact ⟨s, o, e, by omega, fun j hj => by rw [World.cell?_of_block (hk s o e)]; exact h2 j hj⟩
theorem Ints.later {w w' : World} {a : Option Addr} {n cap : Nat} {L : Nat → Int} (h : Ints w a n cap L) (hb : Below w.heap.size w w') : Ints w' a n cap L := by
 refine ⟨h.le, fun hn => ?_⟩
 obtain ⟨s, o, e, h1, h2⟩ := h.ad hn
 exact ⟨s, o, e, by have := hb.size; omega, fun j hj => by rw [World.cell?_of_block (hb.block s h1)]; exact h2 j hj⟩
theorem Ints.drawn {w w' : World} {a : Option Addr} {n cap : Nat} {L : Nat → Int} (h : Ints w a n cap L) (hd : Drawn w w') : Ints w' a n cap L := h.later (hd.below _)
theorem Ints.at_ {w : World} {a : Option Addr} {n cap : Nat} {L : Nat → Int} (h : Ints w a n cap L) {i : Nat} (hi : i < n) : ∃ s o, a = some ⟨s, o, none⟩ ∧ s < w.heap.size ∧ w.cell? ⟨s, o + i, none⟩ = some (.int .i64 (L i)) := by
 obtain ⟨s, o, e, h1, h2⟩ := h.ad (by omega)
 exact ⟨s, o, e, h1, h2 i hi⟩

def c16 (C : Nat → Int) : Array Value := ((List.range 16).map fun i => Value.int .i64 (C i)).toArray
theorem c16_size (C : Nat → Int) : (c16 C).size = 16 := by simp [c16]
theorem c16_get (C : Nat → Int) (i : Nat) (h : i < 16) : (c16 C)[i]? = some (.int .i64 (C i)) := by simp [c16, h]
theorem c16_all (C : Nat → Int) : (c16 C).all (·.oneCell') = true := all_oneCell_toArray (by
 intro v hv
 obtain ⟨x, _, rfl⟩ := List.mem_map.1 hv
 rfl)
theorem c16_zero : Array.replicate 16 (Value.int .i64 0) = c16 (fun _ => 0) := by
 apply Array.ext_getElem?
 intro i
 by_cases hi : i < 16
 · rw [c16_get _ _ hi]; simp [hi]
 · rw [Array.getElem?_eq_none (by simp; omega), Array.getElem?_eq_none (by rw [c16_size]; omega)]
theorem c16_set (C : Nat → Int) (i : Nat) (y : Int) (h : i < 16) : (c16 C).setIfInBounds i (.int .i64 y) = c16 (fun t => if t = i then y else C t) := by
 apply Array.ext_getElem?
 intro j
 by_cases hj : j < 16
 · rw [c16_get _ _ hj, Array.getElem?_setIfInBounds]
   by_cases e : j = i
   · subst e; rw [if_pos rfl, if_pos (by rw [c16_size]; exact hj), if_pos rfl]
   · rw [if_neg (fun h => e h.symm), if_neg e, c16_get _ _ hj]
 · rw [Array.getElem?_eq_none (by simp [c16_size]; omega), Array.getElem?_eq_none (by rw [c16_size]; omega)]
theorem c16_congr {C D : Nat → Int} (h : ∀ i, i < 16 → C i = D i) : c16 C = c16 D := by
 apply Array.ext_getElem?
 intro j
 by_cases hj : j < 16
 · rw [c16_get _ _ hj, c16_get _ _ hj, h j hj]
 · rw [Array.getElem?_eq_none (by rw [c16_size]; omega), Array.getElem?_eq_none (by rw [c16_size]; omega)]
theorem c16_cell {w : World} {g : Nat} {C : Nat → Int} {t : TypeId} {f : Nat × Nat} (h : w.heap[g]? = some (.cells (c16 C) t f)) (j : Nat) (hj : j < 16) : w.cell? ⟨g, j, none⟩ = some (.int .i64 (C j)) := by
 rw [cell_of_row _ _ _ _ _ _ h, c16_get _ _ hj]
def ki (n : Nat) (C : Nat → Int) : Array Value := ((List.range n).map fun i => Value.int .i64 (C i)).toArray
theorem ki_size (n : Nat) (C : Nat → Int) : (ki n C).size = n := by simp [ki]
theorem ki_get (n : Nat) (C : Nat → Int) (i : Nat) (h : i < n) : (ki n C)[i]? = some (.int .i64 (C i)) := by simp [ki, h]
theorem ki_eq {n : Nat} {c : Array Value} {C : Nat → Int} (hs : c.size = n) (h : ∀ j, j < n → c[j]? = some (.int .i64 (C j))) : c = ki n C := by
 apply Array.ext_getElem?
 intro i
 by_cases hi : i < n
 · rw [h i hi, ki_get _ _ _ hi]
 · rw [Array.getElem?_eq_none (by omega), Array.getElem?_eq_none (by rw [ki_size]; omega)]
theorem ki_set (n : Nat) (C : Nat → Int) (i : Nat) (y : Int) (h : i < n) : (ki n C).setIfInBounds i (.int .i64 y) = ki n (fun t => if t = i then y else C t) := by
 refine ki_eq (by simp [ki_size]) fun j hj => ?_
 rw [Array.getElem?_setIfInBounds]
 by_cases e : j = i
 · subst e; rw [if_pos rfl, if_pos (by rw [ki_size]; exact hj), if_pos rfl]
 · rw [if_neg (fun h => e h.symm), if_neg e, ki_get _ _ _ hj]
theorem ki_congr {n : Nat} {C D : Nat → Int} (h : ∀ i, i < n → C i = D i) : ki n C = ki n D := ki_eq (ki_size _ _) fun j hj => by rw [ki_get _ _ _ hj, h j hj]
theorem ki_cell {w : World} {g n : Nat} {C : Nat → Int} {t : TypeId} {f : Nat × Nat} (h : w.heap[g]? = some (.cells (ki n C) t f)) (j : Nat) (hj : j < n) : w.cell? ⟨g, j, none⟩ = some (.int .i64 (C j)) := by
 rw [cell_of_row _ _ _ _ _ _ h, ki_get _ _ _ hj]
theorem ki_ints {w : World} {g n : Nat} {C : Nat → Int} {t : TypeId} {f : Nat × Nat} (h : w.heap[g]? = some (.cells (ki n C) t f)) : Ints w (some ⟨g, 0, none⟩) n n C :=
 ⟨Nat.le_refl _, fun _ => ⟨g, 0, rfl, lt_of_block h, fun j hj => by rw [Nat.zero_add]; exact ki_cell h j hj⟩⟩
theorem infoInt : (Tryz.prog.info? 3).map (fun i => (i.zero, i.size, i.bytes)) = some (some (.int .i64 0), 1, 8) := by kernel_rfl
theorem made_ints (n : Nat) : madeCells #[Value.int .i64 0] n = ki n (fun _ => 0) := by
 refine ki_eq (by rw [size_madeCells]) fun j hj => ?_
 rw [made_get _ _ _ hj]
theorem run_ints (n : Nat) (hn : n ≤ 1000000) (w : World) : (Instr.makeSlice 97 (.int .i64 (n : Int)) (.int .i64 (n : Int))).run Tryz.prog w = .ok (.slice (some ⟨w.heap.size, 0, none⟩) n n) (w.alloc (.cells (ki n (fun _ => 0)) 3)) := by
 obtain ⟨i0, hi, hz0, hz1, hz2⟩ := info_parts infoInt
 have := run_make (P := Tryz.prog) w 97 3 i0 _ (by kernel_rfl) hi hz0 .i64 .i64 (n : Int) (n : Int) (by omega) (by omega) (by rw [hz2]; omega) (by omega)
 rw [this, hz1, show (n : Int).toNat = n by omega, Nat.mul_one, show madeCells (Value.int IntKind.i64 0).cells n = madeCells #[Value.int IntKind.i64 0] n from rfl, made_ints]
end Go.Proofs.YtenkkononchgmaaGreatDoor

/- The walk of huff's counts of lengths. -/
namespace Go.Proofs.YtenkkononchgmaaGreatDoor
open Go.RowKit Go

theorem cntSize : (Tryz.prog.info? 265).map (·.size) = some 16 := by kernel_rfl

theorem results_cell_row2 {P : Program} {fn : Func} {p u : Tmp} {ty : TypeId} (h : fn.results = #[.cell p ty, .tmp u]) (tmps : Array Value) (w : World) (g : Nat) (t : TypeId) (cs : Array Value) (fr : Nat × Nat) (d : TypeDesc)
   (hp : tmps.getD p undef = .pointer (some ⟨g, 0, none⟩)) (hg : w.heap[g]? = some (.cells cs t fr))
   (hu : P.underlying ty = some d) (hd : (match d with | .struct _ | .array _ _ => true | _ => false) = true) (hi : (P.info? ty).map (·.size) = some cs.size) (v : Value) (hv : tmps.getD u undef = v) :
   (results fn tmps).run P w = .ok (.tuple #[.agg cs, v]) w := by
 have hp' : tmps[p]?.getD undef = .pointer (some ⟨g, 0, none⟩) := by simpa using hp
 have hv' : tmps[u]?.getD undef = v := by simpa using hv
 simp [results, h, hp', hv', asAddr, run_loadVar_row w g t ty cs fr d hg hu hd hi]

structure CtS (w0 w : World) (L : Nat → Int) (i : Nat) : Prop where
 bel : Below w0.heap.size w0 w
 r2 : w.heap[w0.heap.size]? = some (.cells (c16 fun _ => 0) 265 (0, 0))
 r4 : w.heap[w0.heap.size + 1]? = some (.cells (c16 fun k => (Huf.cnt L i k : Nat)) 265 (0, 0))
theorem CtS.step {w0 w : World} {L : Nat → Int} {i : Nat} (h : CtS w0 w L i) {k : Nat} (hk : k < 16) (hk0 : 0 < k) (hl : L i = (k : Int)) : CtS w0 (w.setCell ⟨w0.heap.size + 1, k, none⟩ (.int .i64 (((Huf.cnt L i k : Nat) : Int) + 1))) L (i + 1) := by
 refine ⟨below_of_gb h.bel (gb_setCell (gb_refl _ _) _) (by omega) h.bel.size, ?_, ?_⟩
 · rw [(gb_setCell (gb_refl w (some (w0.heap.size + 1))) _).block _ (lt_of_block h.r2) (by simp)]; exact h.r2
 · rw [heap_setCell_same _ _ _ _ _ _ h.r4, c16_set _ _ _ hk]
   congr 2
   refine c16_congr fun t _ => ?_
   rw [Huf.cnt]
   by_cases e : t = k
   · subst e; rw [if_pos rfl, if_pos ⟨hk0, hl⟩]; omega
   · rw [if_neg e, if_neg (by omega)]; omega
theorem CtS.zero {w0 w : World} {L : Nat → Int} {i : Nat} (h : CtS w0 w L i) (hl : L i = 0) : CtS w0 w L (i + 1) := by
 refine ⟨h.bel, h.r2, ?_⟩
 rw [h.r4]
 congr 2
 refine c16_congr fun t _ => ?_
 rw [Huf.cnt, if_neg (by omega)]; omega

set_option maxRecDepth 100000 in
set_option maxHeartbeats 2000000 in
theorem count_any (a : Option Addr) (n cap : Nat) (L : Nat → Int) (w : World) (hI : Ints w a n cap L) (hn : n ≤ 1000000) :
   Calls Tryz.prog 135 #[.slice a n cap] w fun e w' => Below w.heap.size w w' ∧ ((Huf.ok L n ∧ e = .returned (.tuple #[.agg (c16 fun k => (Huf.cnt L n k : Nat)), .bool true])) ∨ (¬ Huf.ok L n ∧ e = .returned (.tuple #[.agg (c16 fun _ => 0), .bool false]))) := by
 obtain ⟨hz, hsz⟩ := zero_of_info (P := Tryz.prog) (t := 265) (v := .agg (Array.replicate 16 (.int .i64 0))) (n := 16) (by kernel_rfl)
 have HKS : Hid (∀ C, (Tryz.prog.info? 265).map (·.size) = some (c16 C).size) := fun C => by rw [c16_size]; exact cntSize
 have HOLD : Hid (∀ C D, (c16 D).size = (c16 C).size) := fun C D => by rw [c16_size, c16_size]
 have HI : Hid (Ints w a n cap L) := hI
 have n6 : (n : Int) ≤ 1000000 := by omega
 clear hI hsz
 rw [c16_zero] at hz
 go_enter Tryz.func135, Tryz.ntmps135
 by_cases h288 : 288 < n
 · have hd : decide (288 < n) = true := decide_eq_true h288
   go_wp2_with (first | (refine wpList_build_to rfl 265 _ rfl (c16 fun _ => 0) (by kernel_rfl) ?_; refine wpList_store_row_any rfl 265 _ _ rfl w.heap.size (c16 fun _ => 0) rfl rfl 265 (c16 fun _ => 0) (by rw [heap_alloc_old _ _ (by simp)]; exact heap_alloc_new _ _) (HKS.out _) (HOLD.out _ _) (c16_all _) ?_; intro w2 h2 g2))
   exact bodyPost_ret (v := .tuple #[.agg (c16 fun _ => 0), .bool false]) (results_cell_row2 (p := 2) (u := 3) (ty := 265) rfl _ _ w.heap.size 265 _ (0, 0) _ rfl h2.out Tryz.underlying265 rfl (HKS.out _) _ rfl) rfl
     ⟨below_of_gb (((Below.refl _ _).alloc (Nat.le_refl _) _).alloc (by simp) _) g2.out (Nat.le_refl _) (by simp; omega), .inr ⟨fun h => by have := h.1; omega, rfl⟩⟩
 · have hd : decide (288 < n) = false := decide_eq_false h288
   have HC0 : Hid (CtS w ((w.alloc (.cells (c16 fun _ => 0) 265)).alloc (.cells (c16 fun _ => 0) 265)) L 0) :=
     ⟨((Below.refl _ _).alloc (Nat.le_refl _) _).alloc (by simp) _, by rw [heap_alloc_old _ _ (by simp)]; exact heap_alloc_new _ _, heap_alloc2_new _ _ _⟩
   go_wp2_with fail
   go_loopw [13] (fun v13 wr => ∃ i : Nat, i ≤ n ∧ v13 = .int .i64 (i : Int) ∧ CtS w wr L i ∧ ∀ j, j < i → 0 ≤ L j ∧ L j ≤ 15) (fun v13 _ => (n - intOf v13).toNat)
   case atStart => exact ⟨0, by omega, rfl, HC0.out, fun j hj => by omega⟩
   case round =>
     clear HC0
     obtain ⟨i, hi, rfl, hcs, hok⟩ := hrel
     have HCS := Lib.hid hcs; clear hcs
     have HOK := Lib.hid hok; clear hok
     by_cases hlt : i < n
     · have hdi : decide (i < n) = true := decide_eq_true hlt
       obtain ⟨s, o, rfl, hs, hc⟩ := (HI.out.later HCS.out.bel).at_ hlt
       obtain ⟨x, hx⟩ : ∃ x, x = L i := ⟨_, rfl⟩
       rw [← hx] at hc
       have HX := Lib.hid hx; clear hx
       have hiI : (i : Int) < (n : Int) := by omega
       by_cases hx0 : x < 0
       · have hd1 : decide (x < 0) = true := decide_eq_true hx0
         have HNO : Hid (¬ Huf.ok L n) := fun h => by have := (h.2 i hlt).1; rw [← HX.out] at this; omega
         clear hx0
         go_wp2_with (first | (refine wpList_build_to rfl 265 _ rfl (c16 fun _ => 0) (by kernel_rfl) ?_; refine wpList_store_row_any rfl 265 _ _ rfl w.heap.size (c16 fun _ => 0) rfl rfl 265 (c16 fun _ => 0) HCS.out.r2 (HKS.out _) (HOLD.out _ _) (c16_all _) ?_; intro w2 h2 g2))
         exact bodyPost_ret (v := .tuple #[.agg (c16 fun _ => 0), .bool false]) (results_cell_row2 (p := 2) (u := 3) (ty := 265) rfl _ _ w.heap.size 265 _ (0, 0) _ rfl h2.out Tryz.underlying265 rfl (HKS.out _) _ rfl) rfl
           ⟨below_of_gb HCS.out.bel g2.out (Nat.le_refl _) (HCS.out.bel.size), .inr ⟨HNO.out, rfl⟩⟩
       · have hd1 : decide (x < 0) = false := decide_eq_false hx0
         by_cases hx1 : 15 < x
         · have hd2 : decide (15 < x) = true := decide_eq_true hx1
           have HNO : Hid (¬ Huf.ok L n) := fun h => by have := (h.2 i hlt).2; rw [← HX.out] at this; omega
           clear hx0 hx1
           go_wp2_with (first | (refine wpList_build_to rfl 265 _ rfl (c16 fun _ => 0) (by kernel_rfl) ?_; refine wpList_store_row_any rfl 265 _ _ rfl w.heap.size (c16 fun _ => 0) rfl rfl 265 (c16 fun _ => 0) HCS.out.r2 (HKS.out _) (HOLD.out _ _) (c16_all _) ?_; intro w2 h2 g2))
           exact bodyPost_ret (v := .tuple #[.agg (c16 fun _ => 0), .bool false]) (results_cell_row2 (p := 2) (u := 3) (ty := 265) rfl _ _ w.heap.size 265 _ (0, 0) _ rfl h2.out Tryz.underlying265 rfl (HKS.out _) _ rfl) rfl
             ⟨below_of_gb HCS.out.bel g2.out (Nat.le_refl _) (HCS.out.bel.size), .inr ⟨HNO.out, rfl⟩⟩
         · have hd2 : decide (15 < x) = false := decide_eq_false hx1
           obtain ⟨k, rfl⟩ : ∃ k : Nat, x = (k : Int) := ⟨x.toNat, by omega⟩
           have hk : k < 16 := by omega
           have HOK2 : Hid (∀ j, j < i + 1 → 0 ≤ L j ∧ L j ≤ 15) := fun j hj => by
             by_cases e : j < i
             · exact HOK.out j e
             · obtain rfl : j = i := by omega
               rw [← HX.out]; omega
           by_cases hk0 : 0 < k
           · have hd3 : decide (0 < k) = true := decide_eq_true hk0
             have c1 := c16_cell HCS.out.r4 k hk
             have f1 : wr.frozen? ⟨w.heap.size + 1, k, none⟩ = false := frozen_of_row _ _ _ _ _ HCS.out.r4
             have hkI : (k : Int) < 16 := by omega
             have hkI0 : (0 : Int) < (k : Int) := by omega
             have hc6 : ((Huf.cnt L i k : Nat) : Int) ≤ 1000000 := by have := Huf.cnt_le L k i; omega
             have hc0 : (0 : Int) ≤ ((Huf.cnt L i k : Nat) : Int) := by omega
             have HNX : Hid (CtS w (wr.setCell ⟨w.heap.size + 1, k, none⟩ (.int .i64 (((Huf.cnt L i k : Nat) : Int) + 1))) L (i + 1)) :=
               HCS.out.step hk hk0 HX.out.symm
             clear hx0 hx1
             generalize ((Huf.cnt L i k : Nat) : Int) = cc at *
             go_wp2
             exact ⟨⟨i + 1, by omega, by go_num, HNX.out, HOK2.out⟩, by simp [intOf]; omega⟩
           · have hd3 : decide (0 < k) = false := decide_eq_false hk0
             obtain rfl : k = 0 := by omega
             have HNX : Hid (CtS w wr L (i + 1)) := HCS.out.zero (by rw [← HX.out]; rfl)
             clear hx0 hx1
             go_wp2
             exact ⟨⟨i + 1, by omega, by go_num, HNX.out, HOK2.out⟩, by simp [intOf]; omega⟩
     · obtain rfl : i = n := by omega
       have hdi : decide (i < i) = false := decide_eq_false (by omega)
       have HOKN : Hid (Huf.ok L i) := ⟨by omega, HOK.out⟩
       go_wp2_with (first | (refine wpList_load_row rfl 265 _ rfl (w.heap.size + 1) rfl 265 _ (0, 0) _ HCS.out.r4 Tryz.underlying265 rfl (HKS.out _) ?_; refine wpList_store_row_any rfl 265 _ _ rfl w.heap.size _ rfl rfl 265 (c16 fun _ => 0) HCS.out.r2 (HKS.out _) (HOLD.out _ _) (c16_all _) ?_; intro w2 h2 g2))
       exact bodyPost_ret (v := .tuple #[.agg (c16 fun k => (Huf.cnt L i k : Nat)), .bool true]) (results_cell_row2 (p := 2) (u := 3) (ty := 265) rfl _ _ w.heap.size 265 _ (0, 0) _ rfl h2.out Tryz.underlying265 rfl (HKS.out _) _ rfl) rfl
         ⟨below_of_gb HCS.out.bel g2.out (Nat.le_refl _) (HCS.out.bel.size), .inl ⟨HOKN.out, rfl⟩⟩
end Go.Proofs.YtenkkononchgmaaGreatDoor

/- The walks of makeCode and firstCodes. -/
namespace Go.Proofs.YtenkkononchgmaaGreatDoor
open Go.RowKit Go

theorem ix16 (C : Nat → Int) (k : Nat) (hk : k < 16) (w : World) : (Instr.index 265 (.agg (c16 C)) (.int .i64 (k : Int))).run Tryz.prog w = .ok (.int .i64 (C k)) w := by
 have h1 : Tryz.prog.underlying 265 = some (.array 16 3) := by kernel_rfl
 have hz : (Go.sizeOf 3).run Tryz.prog w = .ok 1 w := by kernel_rfl
 simp [Instr.index, run_underlying h1, asIntOf, go_sem, hz, c16_get C k hk]
 intro h; omega

set_option maxRecDepth 100000 in
set_option maxHeartbeats 2000000 in
theorem mk_any (C : Nat → Nat) (w : World) (hC : ∀ k, C k ≤ 288) :
   Calls Tryz.prog 136 #[.agg (c16 fun k => (C k : Nat))] w fun e w' => e = .returned (.bool (Huf.mk C)) ∧ Below w.heap.size w w' := by
 have HKS : Hid (∀ C, (Tryz.prog.info? 265).map (·.size) = some (c16 C).size) := fun C => by rw [c16_size]; exact cntSize
 have HC := Lib.hid hC; clear hC
 obtain ⟨r, hr⟩ : ∃ r, r = Huf.mk C := ⟨_, rfl⟩
 rw [← hr]
 have HR0 := Lib.hid hr; clear hr
 have HB : Hid (Below w.heap.size w (w.alloc (.cells (c16 fun k => (C k : Nat)) 265))) := (Below.refl _ _).alloc (Nat.le_refl _) _
 go_enter Tryz.func136, Tryz.ntmps136
 go_wp2_with (first | (refine wpList_load_row rfl 265 _ rfl w.heap.size rfl 265 _ (0, 0) _ (heap_alloc_new _ _) Tryz.underlying265 rfl (HKS.out _) ?_))
 go_loopw [3, 4, 8] (fun v3 v4 v8 wr => ∃ k : Nat, k ≤ 16 ∧ v3 = .int .i64 (Huf.tot C k : Nat) ∧ v4 = .int .i64 (Huf.take C k : Nat) ∧ v8 = .int .i64 (k : Int) ∧ wr = w.alloc (.cells (c16 fun k => (C k : Nat)) 265)) (fun v3 v4 v8 _ => (16 - intOf v8).toNat)
 case atStart => exact ⟨0, by omega, rfl, rfl, rfl, rfl⟩
 case round =>
   obtain ⟨k, hk, rfl, rfl, rfl, rfl⟩ := hrel
   by_cases hlt : k < 16
   · have hd : decide (k < 16) = true := decide_eq_true hlt
     have hg := ix16 (fun k => ((C k : Nat) : Int)) k hlt
     have t6 : ((Huf.tot C k : Nat) : Int) ≤ 10000 := by have := Huf.tot_le C 288 HC.out k; omega
     have k6 : ((Huf.take C k : Nat) : Int) ≤ 151000000 := by have := Huf.take_le C 288 HC.out k; omega
     have c6 : ((C k : Nat) : Int) ≤ 288 := by have := HC.out k; omega
     obtain ⟨v, hv⟩ : ∃ v, v = C k * 2 ^ (15 - k) := ⟨_, rfl⟩
     have hv1 : ((C k : Nat) : Int) * 2 ^ (15 - k) = (v : Int) := by rw [hv]; simp
     have hv6 : (v : Int) ≤ 10000000 := by
       have h3 : 2 ^ (15 - k) ≤ 2 ^ 15 := Nat.pow_le_pow_right (by omega) (by omega)
       have h4 : C k * 2 ^ (15 - k) ≤ 288 * 32768 := Nat.mul_le_mul (HC.out k) h3
       omega
     have HV : Hid (Huf.take C (k + 1) = Huf.take C k + v ∧ Huf.tot C (k + 1) = Huf.tot C k + C k) := ⟨by rw [Huf.take, hv], rfl⟩
     clear hv
     go_wp2
     obtain ⟨h1, h2⟩ := HV.out
     exact ⟨⟨k + 1, by omega, by rw [h2]; rfl, by rw [h1]; rfl, rfl, trivial⟩, by simp [intOf]; omega⟩
   · obtain rfl : k = 16 := by omega
     have hd : decide ((16 : Nat) < 16) = false := rfl
     have t6 : ((Huf.tot C 16 : Nat) : Int) ≤ 10000 := by have := Huf.tot_le C 288 HC.out 16; omega
     have c1 := c16_cell (heap_alloc_new w (.cells (c16 fun k => ((C k : Nat) : Int)) 265)) 1 (by omega)
     have HR : Hid (r = (decide (Huf.tot C 16 = 0) || decide (Huf.take C 16 = 32768) || (decide (Huf.tot C 16 = 1) && decide (C 1 = 1)))) := HR0.out
     clear HC HR0
     generalize Huf.tot C 16 = T at *
     generalize Huf.take C 16 = K at *
     generalize C 1 = c at *
     by_cases h1 : T = 0
     · have e1 : ((T : Int) == 0) = true := by simp; omega
       subst h1
       have HRR : Hid (r = true) := by show r = _; rw [HR.out]; rfl
       clear HR
       go_wp2
       go_returns
       exact ⟨by rw [HRR.out]; rfl, HB.out⟩
     · have e1 : ((T : Int) == 0) = false := by simp; omega
       by_cases h2 : K = 32768
       · have e2 : ((K : Int) == 32768) = true := by simp; omega
         have HRR : Hid (r = true) := by show r = _; rw [HR.out]; simp [h2]
         clear HR
         go_wp2
         go_returns
         exact ⟨by rw [HRR.out]; rfl, HB.out⟩
       · have e2 : ((K : Int) == 32768) = false := by simp; omega
         by_cases h3 : T = 1
         · subst h3
           have HRR : Hid (r = ((c : Int) == 1)) := by
             show r = _
             have hcc : ((c : Int) == 1) = decide (c = 1) := by rw [Bool.eq_iff_iff]; simp; omega
             rw [HR.out, hcc]; simp [h2]
           clear HR
           go_wp2
           go_returns
           exact ⟨by rw [HRR.out]; rfl, HB.out⟩
         · have e3 : ((T : Int) == 1) = false := by simp; omega
           have HRR : Hid (r = false) := by show r = _; rw [HR.out]; simp [h1, h2, h3]
           clear HR
           go_wp2
           go_returns
           exact ⟨by rw [HRR.out]; rfl, HB.out⟩
end Go.Proofs.YtenkkononchgmaaGreatDoor

/- The walk of firstCodes. -/
namespace Go.Proofs.YtenkkononchgmaaGreatDoor
open Go.RowKit Go

structure FcS (w0 w : World) (C : Nat → Nat) (k : Nat) : Prop where
 bel : Below w0.heap.size w0 w
 r1 : w.heap[w0.heap.size]? = some (.cells (c16 fun t => (C t : Nat)) 265 (0, 0))
 r2 : w.heap[w0.heap.size + 1]? = some (.cells (c16 fun _ => 0) 264 (0, 0))
 r3 : w.heap[w0.heap.size + 2]? = some (.cells (c16 fun t => if t < k then (Huf.fst C t : Nat) else 0) 264 (0, 0))
theorem FcS.step {w0 w : World} {C : Nat → Nat} {k : Nat} (h : FcS w0 w C k) (hk : k < 16) : FcS w0 (w.drew.setCell ⟨w0.heap.size + 2, k, none⟩ (.int .i64 (Huf.fst C k : Nat))) C (k + 1) := by
 have hd : FcS w0 w.drew C k := ⟨h.bel.trans ⟨rfl, rfl, rfl, Nat.le_refl _, fun _ _ => rfl⟩, h.r1, h.r2, h.r3⟩
 generalize w.drew = w at hd ⊢
 refine ⟨below_of_gb hd.bel (gb_setCell (gb_refl _ _) _) (by omega) hd.bel.size, ?_, ?_, ?_⟩
 · rw [(gb_setCell (gb_refl w (some (w0.heap.size + 2))) _).block _ (lt_of_block hd.r1) (by simp)]; exact hd.r1
 · rw [(gb_setCell (gb_refl w (some (w0.heap.size + 2))) _).block _ (lt_of_block hd.r2) (by simp)]; exact hd.r2
 · rw [heap_setCell_same _ _ _ _ _ _ hd.r3, c16_set _ _ _ hk]
   congr 2
   refine c16_congr fun t _ => ?_
   by_cases e : t = k
   · subst e; rw [if_pos rfl, if_pos (by omega)]
   · rw [if_neg e]
     by_cases e2 : t < k
     · rw [if_pos e2, if_pos (by omega)]
     · rw [if_neg e2, if_neg (by omega)]

set_option maxRecDepth 100000 in
set_option maxHeartbeats 2000000 in
theorem fst_any (C : Nat → Nat) (w : World) (hC : ∀ k, C k ≤ 288) :
   Calls Tryz.prog 137 #[.agg (c16 fun k => (C k : Nat))] w fun e w' => e = .returned (.agg (c16 fun k => (Huf.fst C k : Nat))) ∧ Below w.heap.size w w' := by
 obtain ⟨hz, hsz⟩ := zero_of_info (P := Tryz.prog) (t := 264) (v := .agg (Array.replicate 16 (.int .i64 0))) (n := 16) (by kernel_rfl)
 rw [c16_zero] at hz
 have HKS : Hid (∀ C, (Tryz.prog.info? 264).map (·.size) = some (c16 C).size) := fun C => by rw [c16_size]; exact hsz
 have HOLD : Hid (∀ C D, (c16 D).size = (c16 C).size) := fun C D => by rw [c16_size, c16_size]
 have HC := Lib.hid hC; clear hC hsz
 have H0 : Hid (FcS w (((w.alloc (.cells (c16 fun k => (C k : Nat)) 265)).alloc (.cells (c16 fun _ => 0) 264)).alloc (.cells (c16 fun _ => 0) 264)) C 1) := by
   have s1 : (w.alloc (.cells (c16 fun k => ((C k : Nat) : Int)) 265)).heap.size = w.heap.size + 1 := by simp
   have s2 : ((w.alloc (.cells (c16 fun k => ((C k : Nat) : Int)) 265)).alloc (.cells (c16 fun _ => 0) 264)).heap.size = w.heap.size + 2 := by simp
   refine ⟨(((Below.refl _ _).alloc (Nat.le_refl _) _).alloc (by simp) _).alloc (by simp; omega) _, ?_, ?_, ?_⟩
   · rw [heap_alloc_old _ _ (by simp; omega), heap_alloc_old _ _ (by simp)]; exact heap_alloc_new _ _
   · rw [heap_alloc_old _ _ (by rw [s2]; omega)]; exact heap_alloc2_new _ _ _
   · have e : c16 (fun _ => 0) = c16 (fun t => if t < 1 then ((Huf.fst C t : Nat) : Int) else 0) := c16_congr fun t _ => by
       by_cases e : t < 1
       · obtain rfl : t = 0 := by omega
         rw [if_pos e]; rfl
       · rw [if_neg e]
     rw [← s2, heap_alloc_new, e]
 go_enter Tryz.func137, Tryz.ntmps137
 go_wp2_with fail
 go_loopw [4] (fun v4 wr => ∃ k : Nat, 1 ≤ k ∧ k ≤ 16 ∧ v4 = .int .i64 (k : Int) ∧ FcS w wr C k) (fun v4 _ => (16 - intOf v4).toNat)
 case atStart => exact ⟨1, by omega, by omega, rfl, H0.out⟩
 case round =>
   clear H0
   obtain ⟨k, hk1, hk, rfl, hfs⟩ := hrel
   have HFS := Lib.hid hfs; clear hfs
   by_cases hlt : k < 16
   · have hd : decide (k < 16) = true := decide_eq_true hlt
     obtain ⟨p, hp⟩ : ∃ p, p + 1 = k := ⟨k - 1, by omega⟩
     have c1 := c16_cell HFS.out.r3 p (by omega)
     rw [if_pos (by omega)] at c1
     have c2 := c16_cell HFS.out.r1 p (by omega)
     have c3 := c16_cell HFS.out.r3 k (by omega)
     have f3 : wr.frozen? ⟨w.heap.size + 2, k, none⟩ = false := frozen_of_row _ _ _ _ _ HFS.out.r3
     have HNX := Lib.hid (HFS.out.step hlt)
     have f6 : ((Huf.fst C p : Nat) : Int) ≤ 40000000 := by
       have := Huf.fst_le C 288 HC.out p
       have h3 : 2 ^ (p + 1) ≤ 2 ^ 16 := Nat.pow_le_pow_right (by omega) (by omega)
       have h4 : 288 * 2 ^ (p + 1) ≤ 288 * 2 ^ 16 := Nat.mul_le_mul_left _ h3
       omega
     have c6 : ((C p : Nat) : Int) ≤ 288 := by have := HC.out p; omega
     have he : (((Huf.fst C p : Nat) : Int) + ((C p : Nat) : Int)) * 2 = ((Huf.fst C k : Nat) : Int) := by rw [← hp, Huf.fst]; omega
     have f60 : (0 : Int) ≤ ((Huf.fst C p : Nat) : Int) := by omega
     have c60 : (0 : Int) ≤ ((C p : Nat) : Int) := by omega
     have s1 : (k : Int) - 1 = (p : Int) := by omega
     have s2 : IntKind.i64.wrap (p : Int) = (p : Int) := wm rfl (by omega)
     have kI : (k : Int) < 16 := by omega
     have pI : (p : Int) < 16 := by omega
     have HP := Lib.hid hp; clear hp
     generalize ((Huf.fst C p : Nat) : Int) = F at *
     generalize ((C p : Nat) : Int) = c at *
     generalize ((Huf.fst C k : Nat) : Int) = F' at *
     go_wp2_with fail
     go_big_region
     go_wp2
     exact ⟨⟨k + 1, by omega, by omega, rfl, HNX.out⟩, by simp [intOf]; omega⟩
   · obtain rfl : k = 16 := by omega
     have hd : decide ((16 : Nat) < 16) = false := rfl
     have e16 : c16 (fun t => if t < 16 then ((Huf.fst C t : Nat) : Int) else 0) = c16 (fun t => (Huf.fst C t : Nat)) := c16_congr fun t ht => by rw [if_pos ht]
     have h3 := HFS.out.r3
     rw [e16] at h3
     have H3 := Lib.hid h3; clear h3
     go_wp2_with (first | (refine wpList_load_row rfl 264 _ rfl (w.heap.size + 2) rfl 264 _ (0, 0) _ H3.out Tryz.underlying264 rfl (HKS.out _) ?_; refine wpList_store_row_any rfl 264 _ _ rfl (w.heap.size + 1) _ rfl rfl 264 (c16 fun _ => 0) HFS.out.r2 (HKS.out _) (HOLD.out _ _) (c16_all _) ?_; intro w2 h2 g2))
     exact bodyPost_ret (v := .agg (c16 fun k => (Huf.fst C k : Nat))) (results_cell_row (p := 2) (ty := 264) rfl _ _ (w.heap.size + 1) 264 _ (0, 0) _ rfl h2.out Tryz.underlying264 rfl (HKS.out _)) rfl
       ⟨rfl, below_of_gb HFS.out.bel g2.out (by omega) HFS.out.bel.size⟩
end Go.Proofs.YtenkkononchgmaaGreatDoor

/- The walk of huff's Codes. -/
namespace Go.Proofs.YtenkkononchgmaaGreatDoor
open Go.RowKit Go

theorem wpList_load_row_g {P : Program} {ops : Array Oper} {rest : List Oper} {o : Oper} {a : Act} {w : World} {Q : Exit → Act → World → Prop} (hw : Region.wanted o (yielded ops a.tmps) = true) (ty : TypeId) (x : Operand) (ho : o.op = .load ty x)
   (g : Nat) (hx : a.eval x = .pointer (some ⟨g, 0, none⟩)) (t : TypeId) (cs : Array Value) (fr : Nat × Nat) (d : TypeDesc) (hg : w.heap[g]? = some (.cells cs t fr))
   (hu : P.underlying ty = some d) (hd : (match d with | .struct _ | .array _ _ => true | _ => false) = true) (hi : (P.info? ty).map (·.size) = some cs.size)
   (h : wpList P ops Q rest (a.put o.dst (.agg cs)) w) : wpList P ops Q (o :: rest) a w :=
 wpList_step fun K hK => by simp only [hw, if_true]; exact wp_load_row ty x ho g hx t cs fr d hg hu hd hi (hK _ _ h)
structure CoS (w0 w : World) (b G n : Nat) (L : Nat → Int) (i : Nat) : Prop where
 bel : Below w0.heap.size w0 w
 lo : w0.heap.size ≤ b
 ne : b < G
 rb : w.heap[b]? = some (.cells (c16 fun k => (Huf.fst (Huf.cnt L n) k + Huf.cnt L i k : Nat)) 264 (0, 0))
 rG : w.heap[G]? = some (.cells (ki n fun t => if t < i then (Huf.code L n t : Nat) else 0) 3 (0, 0))
theorem CoS.step {w0 w : World} {b G n : Nat} {L : Nat → Int} {i : Nat} (h : CoS w0 w b G n L i) (hi : i < n) {k : Nat} (hk : k < 16) (hk0 : 0 < k) (hl : L i = (k : Int)) :
   CoS w0 ((w.setCell ⟨G, i, none⟩ (.int .i64 (Huf.fst (Huf.cnt L n) k + Huf.cnt L i k : Nat))).setCell ⟨b, k, none⟩ (.int .i64 (((Huf.fst (Huf.cnt L n) k + Huf.cnt L i k : Nat) : Int) + 1))) b G n L (i + 1) := by
 have hne := h.ne
 have g1 : w.grownBy (w.setCell ⟨G, i, none⟩ (.int .i64 (Huf.fst (Huf.cnt L n) k + Huf.cnt L i k : Nat))) (some G) := gb_setCell (gb_refl _ _) _
 have r1 := heap_setCell_same _ _ i _ _ (.int .i64 (Huf.fst (Huf.cnt L n) k + Huf.cnt L i k : Nat)) h.rG
 have r2 : (w.setCell ⟨G, i, none⟩ (.int .i64 (Huf.fst (Huf.cnt L n) k + Huf.cnt L i k : Nat))).heap[b]? = _ := (g1.block b (lt_of_block h.rb) (by simp; omega)).trans h.rb
 have b1 := below_of_gb h.bel g1 (by have := h.lo; omega) h.bel.size
 generalize w.setCell ⟨G, i, none⟩ (.int .i64 (Huf.fst (Huf.cnt L n) k + Huf.cnt L i k : Nat)) = w2 at *
 have g2 : w2.grownBy (w2.setCell ⟨b, k, none⟩ (.int .i64 (((Huf.fst (Huf.cnt L n) k + Huf.cnt L i k : Nat) : Int) + 1))) (some b) := gb_setCell (gb_refl _ _) _
 refine ⟨below_of_gb b1 g2 h.lo b1.size, h.lo, h.ne, ?_, ?_⟩
 · rw [heap_setCell_same _ _ _ _ _ _ r2, c16_set _ _ _ hk]
   congr 2
   refine c16_congr fun t _ => ?_
   by_cases e : t = k
   · subst e; rw [if_pos rfl, Huf.cnt, if_pos ⟨hk0, hl⟩]; omega
   · rw [if_neg e, Huf.cnt, if_neg (by omega)]; omega
 · rw [g2.block G (lt_of_block r1) (by simp; omega), r1, ki_set _ _ _ _ hi]
   congr 2
   refine ki_congr fun t _ => ?_
   by_cases e : t = i
   · subst e; rw [if_pos rfl, if_pos (by omega), Huf.code, if_pos (by omega), hl]; simp
   · rw [if_neg e]
     by_cases e2 : t < i
     · rw [if_pos e2, if_pos (by omega)]
     · rw [if_neg e2, if_neg (by omega)]
theorem CoS.zero {w0 w : World} {b G n : Nat} {L : Nat → Int} {i : Nat} (h : CoS w0 w b G n L i) (hl : L i = 0) : CoS w0 w b G n L (i + 1) := by
 refine ⟨h.bel, h.lo, h.ne, ?_, ?_⟩
 · rw [h.rb]
   congr 2
   refine c16_congr fun t _ => ?_
   rw [Huf.cnt, if_neg (by omega)]; omega
 · rw [h.rG]
   congr 2
   refine ki_congr fun t _ => ?_
   by_cases e : t = i
   · subst e; rw [if_neg (by omega), if_pos (by omega), Huf.code, if_neg (by omega)]; rfl
   · by_cases e2 : t < i
     · rw [if_pos e2, if_pos (by omega)]
     · rw [if_neg e2, if_neg (by omega)]

def Huf.Makes (L : Nat → Int) (n : Nat) : Prop := Huf.ok L n ∧ Huf.mk (Huf.cnt L n) = true

set_option maxRecDepth 100000 in
set_option maxHeartbeats 4000000 in
theorem codes_any (a : Option Addr) (n cap : Nat) (L : Nat → Int) (w : World) (hI : Ints w a n cap L) (hn : n ≤ 1000000) :
   Calls Tryz.prog 92 #[.slice a n cap] w fun e w' => Below w.heap.size w w' ∧ ((Huf.Makes L n ∧ ∃ G, w.heap.size ≤ G ∧ w'.heap[G]? = some (.cells (ki n fun t => (Huf.code L n t : Nat)) 3 (0, 0)) ∧ e = .returned (.tuple #[.slice (some ⟨G, 0, none⟩) n n, .int .i64 0])) ∨ (¬ Huf.Makes L n ∧ e = .returned (.tuple #[.slice none 0 0, .int .i64 2]))) := by
 obtain ⟨hz, hsz⟩ := zero_of_info (P := Tryz.prog) (t := 264) (v := .agg (Array.replicate 16 (.int .i64 0))) (n := 16) (by kernel_rfl)
 obtain ⟨hz2, hsz2⟩ := zero_of_info (P := Tryz.prog) (t := 265) (v := .agg (Array.replicate 16 (.int .i64 0))) (n := 16) (by kernel_rfl)
 rw [c16_zero] at hz hz2
 have HKS : Hid (∀ C, (Tryz.prog.info? 264).map (·.size) = some (c16 C).size) := fun C => by rw [c16_size]; exact hsz
 have HKC : Hid (∀ C, (Tryz.prog.info? 265).map (·.size) = some (c16 C).size) := fun C => by rw [c16_size]; exact hsz2
 have HOLD : Hid (∀ C D, (c16 D).size = (c16 C).size) := fun C D => by rw [c16_size, c16_size]
 have HI : Hid (Ints w a n cap L) := hI
 have HCT := count_any a n cap L w hI hn
 have n6 : (n : Int) ≤ 1000000 := by omega
 have hmk := run_ints n hn
 clear hI hsz hsz2
 go_enter Tryz.func92, Tryz.ntmps92
 go_wp2_with fail
 refine HCT.mono ?_
 rintro e w1 ⟨hb1, hr⟩
 have HB1 := Lib.hid hb1; clear hb1 HCT
 rcases hr with ⟨hok, rfl⟩ | ⟨hno, rfl⟩
 · have HOK := Lib.hid hok; clear hok
   have HC288 : Hid (∀ k, Huf.cnt L n k ≤ 288) := fun k => Nat.le_trans (Huf.cnt_le L k n) HOK.out.1
   have HMK : Hid (∀ wx, Calls Tryz.prog 136 #[.agg (c16 fun k => (Huf.cnt L n k : Nat))] wx fun e w' => e = .returned (.bool (Huf.mk (Huf.cnt L n))) ∧ Below wx.heap.size wx w') := fun wx => mk_any _ wx HC288.out
   have HFS : Hid (∀ wx, Calls Tryz.prog 137 #[.agg (c16 fun k => (Huf.cnt L n k : Nat))] wx fun e w' => e = .returned (.agg (c16 fun k => (Huf.fst (Huf.cnt L n) k : Nat))) ∧ Below wx.heap.size wx w') := fun wx => fst_any _ wx HC288.out
   go_wp2_with (first | (refine wpList_store_row_any rfl 265 _ _ rfl w1.heap.size _ rfl rfl 265 (c16 fun _ => 0) (heap_alloc_new _ _) (HKC.out _) (HOLD.out _ _) (c16_all _) ?_; intro w2 h2 g2) | (refine wpList_load_row_g rfl 265 _ rfl w1.heap.size rfl 265 _ (0, 0) _ h2.out Tryz.underlying265 rfl (HKC.out _) ?_))
   refine (HMK.out _).mono ?_
   rintro e w3 ⟨rfl, hb3⟩
   have HB3 : Hid (Below w.heap.size w w3) := (below_of_gb (HB1.out.alloc HB1.out.size _) g2.out HB1.out.size (by simp; have := HB1.out.size; omega)).trans (hb3.mono (by have := g2.out.size; simp at this; have := HB1.out.size; omega))
   have h3 : w3.heap[w1.heap.size]? = some (.cells (c16 fun k => (Huf.cnt L n k : Nat)) 265 (0, 0)) := (hb3.block _ (lt_of_block h2.out)).trans h2.out
   have H3 := Lib.hid h3
   clear hb3 h3 h2 g2 HMK HB1
   obtain ⟨mk, hmk2⟩ : ∃ b, b = Huf.mk (Huf.cnt L n) := ⟨_, rfl⟩
   rw [← hmk2]
   have HM := Lib.hid hmk2; clear hmk2
   cases mk with
   | false =>
     go_wp2
     go_returns
     exact ⟨HB3.out, .inr ⟨fun h => by have := h.2; rw [← HM.out] at this; exact absurd this (by decide), rfl⟩⟩
   | true =>
     go_wp2_with (first | (refine wpList_load_row rfl 265 _ rfl w1.heap.size rfl 265 _ (0, 0) _ H3.out Tryz.underlying265 rfl (HKC.out _) ?_))
     refine (HFS.out _).mono ?_
     rintro e w4 ⟨rfl, hb4⟩
     have HB4 : Hid (Below w.heap.size w w4) := HB3.out.trans (hb4.mono HB3.out.size)
     clear hb4 HB3 H3 HFS
     go_wp2_with (first | (refine wpList_store_row_any rfl 264 _ _ rfl w4.heap.size _ rfl rfl 264 (c16 fun _ => 0) (heap_alloc_new _ _) (HKS.out _) (HOLD.out _ _) (c16_all _) ?_; intro w5 h5 g5))
     have HC0 : Hid (CoS w (w5.alloc (.cells (ki n fun _ => 0) 3)) w4.heap.size w5.heap.size n L 0) := by
       have s5 := g5.out.size
       simp at s5
       refine ⟨(below_of_gb (HB4.out.alloc HB4.out.size _) g5.out HB4.out.size (by simp; have := HB4.out.size; omega)).alloc (by have := HB4.out.size; omega) _, HB4.out.size, by omega, ?_, ?_⟩
       · rw [heap_alloc_old _ _ (by omega), h5.out]
         congr 2
       · rw [heap_alloc_new]
         congr 2
     have HLE : Hid (w.heap.size ≤ w5.heap.size) := by have s5 := g5.out.size; simp at s5; have := HB4.out.size; show _ ≤ _; omega
     clear HB4 h5 g5
     generalize hw6 : w5.alloc (.cells (ki n fun _ => 0) 3) = w6 at *
     generalize w5.heap.size = G at *
     generalize w4.heap.size = b at *
     clear hw6
     go_wp2_with fail
     go_loopw [29] (fun v29 wr => ∃ i : Nat, i ≤ n ∧ v29 = .int .i64 (i : Int) ∧ CoS w wr b G n L i) (fun v29 _ => (n - intOf v29).toNat)
     case atStart => exact ⟨0, by omega, rfl, HC0.out⟩
     case round =>
       clear HC0
       obtain ⟨i, hi, rfl, hcs⟩ := hrel
       have HCS := Lib.hid hcs; clear hcs
       by_cases hlt : i < n
       · have hdi : decide (i < n) = true := decide_eq_true hlt
         obtain ⟨s, o, rfl, hs, hc⟩ := (HI.out.later HCS.out.bel).at_ hlt
         obtain ⟨x, hx⟩ : ∃ x, x = L i := ⟨_, rfl⟩
         rw [← hx] at hc
         have hx0 : 0 ≤ x ∧ x ≤ 15 := by rw [hx]; exact HOK.out.2 i hlt
         obtain ⟨k, rfl⟩ : ∃ k : Nat, x = (k : Int) := ⟨x.toNat, by omega⟩
         have hk : k < 16 := by omega
         have HX := Lib.hid hx; clear hx
         have hiI : (i : Int) < (n : Int) := by omega
         have kI : (k : Int) < 16 := by omega
         clear hx0
         by_cases hk0 : 0 < k
         · have hd3 : decide (0 < k) = true := decide_eq_true hk0
           have hNX := HCS.out.step hlt hk hk0 HX.out.symm
           have HNX := Lib.hid hNX; clear hNX
           have c1 := c16_cell HCS.out.rb k hk
           have f1 : wr.frozen? ⟨b, k, none⟩ = false := frozen_of_row _ _ _ _ _ HCS.out.rb
           have c2 := ki_cell HCS.out.rG i hlt
           have f2 : wr.frozen? ⟨G, i, none⟩ = false := frozen_of_row _ _ _ _ _ HCS.out.rG
           have hbG : b ≠ G := by have := HCS.out.ne; omega
           have c6 : ((Huf.fst (Huf.cnt L n) k + Huf.cnt L i k : Nat) : Int) ≤ 100000000 := by
             have q1 := Huf.fst_le (Huf.cnt L n) 288 HC288.out k
             have q2 : 2 ^ (k + 1) ≤ 2 ^ 16 := Nat.pow_le_pow_right (by omega) (by omega)
             have q3 : 288 * 2 ^ (k + 1) ≤ 288 * 2 ^ 16 := Nat.mul_le_mul_left _ q2
             have q4 := Huf.cnt_le L k i
             omega
           have c60 : (0 : Int) ≤ ((Huf.fst (Huf.cnt L n) k + Huf.cnt L i k : Nat) : Int) := by omega
           have hkI0 : (0 : Int) < (k : Int) := by omega
           generalize ((Huf.fst (Huf.cnt L n) k + Huf.cnt L i k : Nat) : Int) = cc at *
           generalize (if i < i then ((Huf.code L n i : Nat) : Int) else 0) = cold at *
           go_wp2
           exact ⟨⟨i + 1, by omega, by go_num, HNX.out⟩, by simp [intOf]; omega⟩
         · have hd3 : decide (0 < k) = false := decide_eq_false hk0
           obtain rfl : k = 0 := by omega
           have HNX := Lib.hid (HCS.out.zero (by rw [← HX.out]; rfl))
           go_wp2
           exact ⟨⟨i + 1, by omega, by go_num, HNX.out⟩, by simp [intOf]; omega⟩
       · obtain rfl : i = n := by omega
         have hdi : decide (i < i) = false := decide_eq_false (by omega)
         have e1 : ki i (fun t => if t < i then ((Huf.code L i t : Nat) : Int) else 0) = ki i (fun t => (Huf.code L i t : Nat)) := ki_congr fun t ht => by rw [if_pos ht]
         have hG := HCS.out.rG
         rw [e1] at hG
         have HG := Lib.hid hG; clear hG
         have HBB := Lib.hid HCS.out.bel
         have HLG : Hid (w.heap.size ≤ G) := by have h1 := HCS.out.ne; have h2 := HCS.out.lo; show _ ≤ _; omega
         have HMM : Hid (Huf.Makes L i) := ⟨HOK.out, HM.out.symm⟩
         clear HCS e1
         go_wp2
         go_returns
         exact ⟨HBB.out, .inl ⟨HMM.out, G, HLG.out, HG.out, rfl⟩⟩
 · go_wp2_with (first | (refine wpList_store_row_any rfl 265 _ _ rfl w1.heap.size _ rfl rfl 265 (c16 fun _ => 0) (heap_alloc_new _ _) (HKC.out _) (HOLD.out _ _) (c16_all _) ?_; intro w2 h2 g2))
   have HB3 : Hid (Below w.heap.size w w2) := below_of_gb (HB1.out.alloc HB1.out.size _) g2.out HB1.out.size (by simp; have := HB1.out.size; omega)
   go_returns
   exact ⟨HB3.out, .inr ⟨fun h => hno h.1, rfl⟩⟩
end Go.Proofs.YtenkkononchgmaaGreatDoor

/- The symbols in the order of their codes. No program is named here. -/
namespace Go.Proofs.YtenkkononchgmaaGreatDoor

def Huf.row (L : Nat → Int) (k : Nat) : Nat → List Nat
 | 0 => []
 | i + 1 => Huf.row L k i ++ if 0 < k ∧ L i = (k : Int) then [i] else []
def Huf.syms (L : Nat → Int) (n : Nat) : Nat → List Nat
 | 0 => []
 | k + 1 => Huf.syms L n k ++ Huf.row L k n
theorem Huf.row_length (L : Nat → Int) (k : Nat) : ∀ i, (Huf.row L k i).length = Huf.cnt L i k
 | 0 => rfl
 | i + 1 => by rw [Huf.row, Huf.cnt, List.length_append, Huf.row_length L k i]; split <;> rfl
theorem Huf.row_zero (L : Nat → Int) : ∀ i, Huf.row L 0 i = []
 | 0 => rfl
 | i + 1 => by rw [Huf.row, Huf.row_zero L i, if_neg (by omega)]; rfl
theorem Huf.syms_length (L : Nat → Int) (n : Nat) : ∀ k, (Huf.syms L n k).length = Huf.tot (Huf.cnt L n) k
 | 0 => rfl
 | k + 1 => by rw [Huf.syms, Huf.tot, List.length_append, Huf.syms_length L n k, Huf.row_length]
theorem Huf.row_of (L : Nat → Int) {k p n : Nat} (hp : p < Huf.cnt L n k) : ∃ i, i < n ∧ 0 < k ∧ L i = (k : Int) ∧ Huf.cnt L i k = p ∧ (Huf.row L k n)[p]? = some i := by
 induction n with
 | zero => rw [Huf.cnt] at hp; omega
 | succ n ih =>
   rw [Huf.cnt] at hp
   by_cases e : p < Huf.cnt L n k
   · obtain ⟨i, h1, h2, h3, h4, h5⟩ := ih e
     exact ⟨i, by omega, h2, h3, h4, by rw [Huf.row, List.getElem?_append_left (by rw [Huf.row_length]; exact e)]; exact h5⟩
   · by_cases c : 0 < k ∧ L n = (k : Int)
     · rw [if_pos c] at hp
       have hpe : p = Huf.cnt L n k := by omega
       refine ⟨n, by omega, c.1, c.2, hpe.symm, ?_⟩
       rw [Huf.row, if_pos c, List.getElem?_append_right (by rw [Huf.row_length]; omega), Huf.row_length, hpe, Nat.sub_self]; rfl
     · rw [if_neg c] at hp; omega
theorem Huf.syms_get (L : Nat → Int) (n : Nat) {k K p i : Nat} (hk : k < K) (hp : p < Huf.cnt L n k) (h : (Huf.row L k n)[p]? = some i) : (Huf.syms L n K)[Huf.tot (Huf.cnt L n) k + p]? = some i := by
 induction K with
 | zero => omega
 | succ K ih =>
   rw [Huf.syms]
   by_cases e : k = K
   · subst e
     rw [List.getElem?_append_right (by rw [Huf.syms_length]; omega), Huf.syms_length, show Huf.tot (Huf.cnt L n) k + p - Huf.tot (Huf.cnt L n) k = p by omega]; exact h
   · have hlt : k < K := by omega
     rw [List.getElem?_append_left ?_]
     · exact ih hlt
     · rw [Huf.syms_length]
       have mono : ∀ d, Huf.tot (Huf.cnt L n) (k + 1) ≤ Huf.tot (Huf.cnt L n) (k + 1 + d) := fun d => by
         induction d with
         | zero => exact Nat.le_refl _
         | succ d ih2 => exact Nat.le_trans ih2 (Nat.le_add_right _ _)
       have := mono (K - (k + 1))
       rw [show k + 1 + (K - (k + 1)) = K by omega, Huf.tot] at this
       omega
end Go.Proofs.YtenkkononchgmaaGreatDoor

/- The walks of huff's New and made. -/
namespace Go.Proofs.YtenkkononchgmaaGreatDoor
open Go.RowKit Go

theorem own_form {w : World} {base n : Nat} {e : TypeId} {size : Nat} {v : Value} {xs : List Value} (h : w.ownsRow base e size v n xs) : ∃ a cap, v = .slice a n cap := by
 rcases h.2 with ⟨rfl, rfl⟩ | ⟨g, cap, cur, rfl, _⟩
 · exact ⟨none, 0, rfl⟩
 · exact ⟨_, _, rfl⟩
theorem wpList_append_int {w : World} {ops : Array Oper} {rest : List Oper} {o : Oper} {a : Act} {Q : Exit → Act → World → Prop} (hgd : o.guard = none) (s x : Operand)
   (ho : o.op = .call { callee := .builtin .append, args := #[s, x], argTypes := #[97, 97] })
   (base : Nat) (v : Value) (n : Nat) (xs : List Value) (hs : a.eval s = v) (hown : w.ownsRow base 3 1 v n xs)
   (H : Nat) (y : Int) (hx : a.eval x = .slice (some ⟨H, 0, none⟩) 1 1) (hH : w.heap[H]? = some (.cells #[.int .i64 y] 3 (0, 0))) (hn : n ≤ 1000000) (hbase : base ≤ w.heap.size)
   (h : ∀ v' w', Hid (w'.ownsRow base 3 1 v' (n + 1) (xs ++ [.int .i64 y])) → Hid (w.grownBy w' v.ownBlock) → wpList Tryz.prog ops Q rest (a.put o.dst v') w') : wpList Tryz.prog ops Q (o :: rest) a w := by
 obtain ⟨i0, hi, hz0, hz1, hz2⟩ := info_parts infoInt
 refine wpList_append_own _ hgd s x 97 ho base 3 i0 _ 1 8 (by kernel_rfl) hi hz0 hz1 hz2 rfl (by decide) v n xs hs hown ⟨H, 0, none⟩ 1 1 [.int .i64 y] hx rfl (fun j u hj => ?_) (by simp [Value.oneCell']) (by simp only [maxLen]; omega) (by omega) hbase ?_
 · rw [Addr.add_mid, Nat.zero_add, cell_of_row _ _ _ _ _ _ hH]; simpa using hj
 · intro v' w' ho' hg' _
   exact h v' w' ho' hg'

structure Dec (w : World) (D : Nat) (C : Nat → Nat) (sf v : Value) : Prop where
 row : ∃ cs, w.heap[D]? = some (.cells cs 284 (0, 0)) ∧ cs.size = 18 ∧ cs[0]? = some sf ∧ (∀ k, k < 16 → cs[1 + k]? = some (.int .i64 (C k : Nat))) ∧ cs[17]? = some v
theorem Dec.c0 {w : World} {D : Nat} {C : Nat → Nat} {sf v : Value} (h : Dec w D C sf v) : w.cell? ⟨D, 0, none⟩ = some sf := by
 obtain ⟨cs, h1, h2, h3, h4, h5⟩ := h.row
 rw [cell_of_row _ _ _ _ _ _ h1, h3]
theorem Dec.ck {w : World} {D : Nat} {C : Nat → Nat} {sf v : Value} (h : Dec w D C sf v) {k : Nat} (hk : k < 16) : w.cell? ⟨D, 1 + k, none⟩ = some (.int .i64 (C k : Nat)) := by
 obtain ⟨cs, h1, h2, h3, h4, h5⟩ := h.row
 rw [cell_of_row _ _ _ _ _ _ h1, h4 k hk]
theorem Dec.c17 {w : World} {D : Nat} {C : Nat → Nat} {sf v : Value} (h : Dec w D C sf v) : w.cell? ⟨D, 17, none⟩ = some v := by
 obtain ⟨cs, h1, h2, h3, h4, h5⟩ := h.row
 rw [cell_of_row _ _ _ _ _ _ h1, h5]
theorem Dec.fr {w : World} {D : Nat} {C : Nat → Nat} {sf v : Value} (h : Dec w D C sf v) (j : Nat) : w.frozen? ⟨D, j, none⟩ = false := by
 obtain ⟨cs, h1, h2, h3, h4, h5⟩ := h.row
 exact frozen_of_row _ _ _ _ _ h1
theorem Dec.lt {w : World} {D : Nat} {C : Nat → Nat} {sf v : Value} (h : Dec w D C sf v) : D < w.heap.size := by
 obtain ⟨cs, h1, h2, h3, h4, h5⟩ := h.row
 exact lt_of_block h1
theorem Dec.keep {w w' : World} {D : Nat} {C : Nat → Nat} {sf v : Value} (h : Dec w D C sf v) (hk : w'.heap[D]? = w.heap[D]?) : Dec w' D C sf v := by
 obtain ⟨cs, h1, h2⟩ := h.row
 exact ⟨cs, hk.trans h1, h2⟩
theorem Dec.sym {w : World} {D : Nat} {C : Nat → Nat} {sf v : Value} (h : Dec w D C sf v) (u : Value) : Dec (w.setCell ⟨D, 17, none⟩ u) D C sf u := by
 obtain ⟨cs, h1, h2, h3, h4, h5⟩ := h.row
 refine ⟨cs.setIfInBounds 17 u, heap_setCell_same _ _ _ _ _ _ h1, by simpa using h2, ?_, fun k hk => ?_, by simp [h2]⟩
 · rw [Array.getElem?_setIfInBounds_ne (by omega)]; exact h3
 · rw [Array.getElem?_setIfInBounds_ne (by omega)]; exact h4 k hk
theorem setCells_row : ∀ (vs : List Value) (w : World) (D o : Nat) (cs : Array Value) (t : TypeId), w.heap[D]? = some (.cells cs t (0, 0)) → o + vs.length ≤ cs.size →
   ∃ cs', (w.setCells D o vs).heap[D]? = some (.cells cs' t (0, 0)) ∧ cs'.size = cs.size ∧ (∀ j, j < o ∨ o + vs.length ≤ j → cs'[j]? = cs[j]?) ∧ ∀ j, j < vs.length → cs'[o + j]? = vs[j]?
 | [], w, D, o, cs, t, h, _ => ⟨cs, h, rfl, fun _ _ => rfl, fun j hj => absurd hj (by simp)⟩
 | v :: r, w, D, o, cs, t, h, hs => by
   obtain ⟨cs', h1, h2, h3, h4⟩ := setCells_row r (w.setCell ⟨D, o, none⟩ v) D (o + 1) (cs.setIfInBounds o v) t (heap_setCell_same _ _ _ _ _ _ h) (by simp at hs ⊢; omega)
   refine ⟨cs', h1, by simpa using h2, fun j hj => ?_, fun j hj => ?_⟩
   · simp only [List.length_cons] at hj
     rw [h3 j (by omega), Array.getElem?_setIfInBounds_ne (by omega)]
   · cases j with
     | zero =>
       simp only [List.length_cons] at hs
       rw [Nat.add_zero, h3 o (by omega), Array.getElem?_setIfInBounds_self, if_pos (by omega)]; rfl
     | succ j =>
       simp only [List.length_cons] at hj
       rw [show o + (j + 1) = o + 1 + j by omega, h4 j (by omega)]; rfl
theorem Dec.of {w : World} {D : Nat} {C C' : Nat → Nat} {sf v : Value} (h : Dec w D C sf v) : Dec (w.setCells D 1 (c16 fun k => (C' k : Nat)).toList) D C' sf v := by
 obtain ⟨cs, h1, h2, h3, h4, h5⟩ := h.row
 have hl : (c16 fun k => ((C' k : Nat) : Int)).toList.length = 16 := by rw [Array.length_toList, c16_size]
 obtain ⟨cs', k1, k2, k3, k4⟩ := setCells_row (c16 fun k => (C' k : Nat)).toList w D 1 cs _ h1 (by rw [hl, h2]; omega)
 rw [hl] at k3 k4
 refine ⟨cs', k1, by omega, by rw [k3 0 (by omega)]; exact h3, fun k hk => ?_, by rw [k3 17 (by omega)]; exact h5⟩
 rw [k4 k hk, Array.getElem?_toList, c16_get _ _ hk]
def dec0 : Array Value := #[.pointer none, .int .i64 0, .int .i64 0, .int .i64 0, .int .i64 0, .int .i64 0, .int .i64 0, .int .i64 0, .int .i64 0, .int .i64 0, .int .i64 0, .int .i64 0, .int .i64 0, .int .i64 0, .int .i64 0, .int .i64 0, .int .i64 0, .slice none 0 0]
theorem Dec.new (w : World) : Dec (w.alloc (.cells dec0 284)) w.heap.size (fun _ => 0) (.pointer none) (.slice none 0 0) := by
 refine ⟨dec0, heap_alloc_new _ _, rfl, rfl, fun k hk => ?_, rfl⟩
 obtain rfl | rfl | rfl | rfl | rfl | rfl | rfl | rfl | rfl | rfl | rfl | rfl | rfl | rfl | rfl | rfl : k = 0 ∨ k = 1 ∨ k = 2 ∨ k = 3 ∨ k = 4 ∨ k = 5 ∨ k = 6 ∨ k = 7 ∨ k = 8 ∨ k = 9 ∨ k = 10 ∨ k = 11 ∨ k = 12 ∨ k = 13 ∨ k = 14 ∨ k = 15 := by omega
 all_goals rfl
theorem Dec.new1 (w : World) (s : Value) : Dec (w.alloc (.cells (dec0.setIfInBounds 0 s) 284)) w.heap.size (fun _ => 0) s (.slice none 0 0) := by
 refine ⟨dec0.setIfInBounds 0 s, heap_alloc_new _ _, rfl, rfl, fun k hk => ?_, rfl⟩
 obtain rfl | rfl | rfl | rfl | rfl | rfl | rfl | rfl | rfl | rfl | rfl | rfl | rfl | rfl | rfl | rfl : k = 0 ∨ k = 1 ∨ k = 2 ∨ k = 3 ∨ k = 4 ∨ k = 5 ∨ k = 6 ∨ k = 7 ∨ k = 8 ∨ k = 9 ∨ k = 10 ∨ k = 11 ∨ k = 12 ∨ k = 13 ∨ k = 14 ∨ k = 15 := by omega
 all_goals rfl
def nv (l : List Nat) : List Value := l.map fun i => Value.int .i64 (i : Nat)
theorem nv_length (l : List Nat) : (nv l).length = l.length := by simp [nv]
theorem nv_get (l : List Nat) (j i : Nat) (h : l[j]? = some i) : (nv l)[j]? = some (.int .i64 (i : Nat)) := by simp [nv, h]
structure NwS (w0 w : World) (D n : Nat) (L : Nat → Int) (l : List Nat) : Prop where
 bel : Below w0.heap.size w0 w
 lo : w0.heap.size ≤ D
 dec : ∃ v, Dec w D (Huf.cnt L n) (.pointer (some ⟨D, 0, none⟩)) v ∧ w.ownsRow w0.heap.size 3 1 v l.length (nv l)
theorem NwS.app {w0 w w' : World} {D n : Nat} {L : Nat → Int} {l : List Nat} {v v' : Value} {i : Nat} {o : Obj} (h : NwS w0 w D n L l) (hd : Dec w D (Huf.cnt L n) (.pointer (some ⟨D, 0, none⟩)) v) (hv : w.ownsRow w0.heap.size 3 1 v l.length (nv l))
   (ho : w'.ownsRow w0.heap.size 3 1 v' (l.length + 1) (nv l ++ [.int .i64 (i : Nat)])) (hg : (w.alloc o).grownBy w' v.ownBlock) :
   (∃ u, w'.cell? ⟨D, 17, none⟩ = some u) ∧ w'.frozen? ⟨D, 17, none⟩ = false ∧ NwS w0 (w'.setCell ⟨D, 17, none⟩ v') D n L (l ++ [i]) := by
 have lD := hd.lt
 have hDne : ∀ k, v.ownBlock = some k → D ≠ k := fun k hk e => by
   obtain ⟨cs, h1, _⟩ := hd.row
   rcases hv.2 with ⟨h0, _⟩ | ⟨g, cap, cur, e2, q1, q2, q3⟩
   · rw [h0] at hk; cases hk
   · rw [e2] at hk
     simp only [Value.ownBlock, Option.some.injEq] at hk
     subst hk
     rw [← e, h1] at q2
     simp only [Option.some.injEq, Obj.cells.injEq] at q2
     exact absurd q2.2.1 (by decide)
 have hd' : Dec w' D (Huf.cnt L n) (.pointer (some ⟨D, 0, none⟩)) v := hd.keep ((hg.block D (by simp; omega) (fun e => hDne D e.symm rfl)).trans (Below.heap_alloc _ _ _ lD))
 have hDne' : ∀ k, v'.ownBlock = some k → D ≠ k := fun k hk e => by
   obtain ⟨cs, h1, _⟩ := hd'.row
   rcases ho.2 with ⟨h0, _⟩ | ⟨g, cap, cur, e2, q1, q2, q3⟩
   · rw [h0] at hk; cases hk
   · rw [e2] at hk
     simp only [Value.ownBlock, Option.some.injEq] at hk
     subst hk
     rw [← e, h1] at q2
     simp only [Option.some.injEq, Obj.cells.injEq] at q2
     exact absurd q2.2.1 (by decide)
 have hb' : Below w0.heap.size w0 w' := (h.bel.alloc h.bel.size o).grown hg (by have := h.bel.size; simp; omega) (fun k hk => (hv.lt k hk).1)
 refine ⟨⟨_, hd'.c17⟩, hd'.fr 17, below_of_gb hb' (gb_setCell (gb_refl _ _) _) h.lo hb'.size, h.lo, v', hd'.sym v', ?_, ?_⟩
 · simp [nv]
 · rcases ho.2 with ⟨h0, h00⟩ | ⟨g, cap, cur, e2, q1, q2, q3, q4, q5, q6⟩
   · omega
   · refine .inr ⟨g, cap, cur, by simpa using e2, q1, ?_, by simpa using q3, q4, q5, by simpa [nv] using q6⟩
     rw [(gb_setCell (gb_refl w' (some D)) v').block g (lt_of_block q2) (by simp; exact fun e => hDne' g (by rw [e2]; rfl) e.symm)]
     exact q2

set_option maxRecDepth 100000 in
set_option maxHeartbeats 4000000 in
theorem new_any (a : Option Addr) (n cap : Nat) (L : Nat → Int) (w : World) (hI : Ints w a n cap L) (hn : n ≤ 1000000) :
   Calls Tryz.prog 131 #[.slice a n cap] w fun e w' => Below w.heap.size w w' ∧ ((Huf.Makes L n ∧ ∃ D, NwS w w' D n L (Huf.syms L n 16) ∧ e = .returned (.pointer (some ⟨D, 0, none⟩))) ∨ (¬ Huf.Makes L n ∧ e = .returned (.pointer none))) := by
 have HI : Hid (Ints w a n cap L) := hI
 have HCO := codes_any a n cap L w hI hn
 have n6 : (n : Int) ≤ 1000000 := by omega
 have HN := Lib.hid hn
 clear hI hn
 go_enter Tryz.func131, Tryz.ntmps131
 go_wp2_with fail
 refine HCO.mono ?_
 rintro e w1 ⟨hb1, hr⟩
 have HB1 := Lib.hid hb1; clear hb1 HCO
 rcases hr with ⟨hmk, G, -, -, rfl⟩ | ⟨hno, rfl⟩
 · have HM := Lib.hid hmk; clear hmk
   have HD0 := Dec.new w1
   have c0 := HD0.c0
   have f0 := HD0.fr 0
   have HD1 : Hid (Dec (w1.alloc (.cells (dec0.setIfInBounds 0 (.pointer (some ⟨w1.heap.size, 0, none⟩))) 284)) w1.heap.size (fun _ => 0) (.pointer (some ⟨w1.heap.size, 0, none⟩)) (.slice none 0 0)) := Dec.new1 _ _
   have HB2 : Hid (Below w.heap.size w (w1.alloc (.cells (dec0.setIfInBounds 0 (.pointer (some ⟨w1.heap.size, 0, none⟩))) 284))) := HB1.out.alloc HB1.out.size _
   have HLO : Hid (w.heap.size ≤ w1.heap.size) := HB1.out.size
   clear HD0
   go_wp2_with (refine wpList_build_to rfl 284 _ rfl dec0 (by kernel_rfl) ?_)
   generalize hw2 : w1.alloc (.cells (dec0.setIfInBounds 0 (.pointer (some ⟨w1.heap.size, 0, none⟩))) 284) = w2 at *
   clear hw2 c0 f0 HB1
   generalize w1.heap.size = D at *
   refine (count_any a n cap L w2 (HI.out.later HB2.out) HN.out).mono ?_
   rintro e w3 ⟨hb3, hr⟩
   have hr' : e = .returned (.tuple #[.agg (c16 fun k => (Huf.cnt L n k : Nat)), .bool true]) := by
     rcases hr with ⟨_, h⟩ | ⟨h, _⟩
     · exact h
     · exact absurd HM.out.1 h
   subst hr'
   have HD3 : Hid (Dec w3 D (fun _ => 0) (.pointer (some ⟨D, 0, none⟩)) (.slice none 0 0)) := HD1.out.keep (hb3.block _ HD1.out.lt)
   have HB3 : Hid (Below w.heap.size w w3) := HB2.out.trans (hb3.mono HB2.out.size)
   clear hr hb3 HD1 HB2
   have HTH : Hid (w3.there D 1 (c16 fun k => (Huf.cnt L n k : Nat)).size) := fun j hj => by
     rw [c16_size] at hj
     exact ⟨by rw [HD3.out.ck hj]; rfl, HD3.out.fr _⟩
   have HS4 : Hid (NwS w (w3.setCells D 1 (c16 fun k => (Huf.cnt L n k : Nat)).toList) D n L []) :=
     ⟨HB3.out.trans (Lib.below_setCells_w HLO.out _ _ _), HLO.out, _, HD3.out.of, World.ownsRow_nil _ _ _ _⟩
   go_wp2_with (first | (refine wpList_store_mid rfl 265 _ _ rfl D 1 (c16 fun k => (Huf.cnt L n k : Nat)) rfl rfl HTH.out (by rw [c16_size]; exact cntSize) (c16_all _) ?_))
   generalize w3.setCells D 1 (c16 fun k => (Huf.cnt L n k : Nat)).toList = w4 at *
   clear HD3 HTH HB3
   go_loopw [6] (fun v6 wr => ∃ k : Nat, 1 ≤ k ∧ k ≤ 16 ∧ v6 = .int .i64 (k : Int) ∧ NwS w wr D n L (Huf.syms L n k)) (fun v6 _ => (16 - intOf v6).toNat)
   case atStart => exact ⟨1, by omega, by omega, rfl, by rw [show Huf.syms L n 1 = [] by simp [Huf.syms, Huf.row_zero]]; exact HS4.out⟩
   case round =>
     clear HS4
     obtain ⟨k, hk1, hk, rfl, hns⟩ := hrel
     have HNS := Lib.hid hns; clear hns
     by_cases hlt : k < 16
     · have hd : decide (k < 16) = true := decide_eq_true hlt
       go_wp2_with fail
       generalize wr = wo at *
       have HLT := Lib.hid hlt
       clear hd hlt
       (try (rename _ < (16 : Int) => hq; clear hq))
       go_loopw [36] (fun v36 wr => ∃ i : Nat, i ≤ n ∧ v36 = .int .i64 (i : Int) ∧ NwS w wr D n L (Huf.syms L n k ++ Huf.row L k i)) (fun v36 _ => (n - intOf v36).toNat)
       case atStart => exact ⟨0, by omega, rfl, by rw [Huf.row, List.append_nil]; exact HNS.out⟩
       case round =>
         clear HNS
         obtain ⟨i, hi, rfl, hns⟩ := hrel
         have HNS := Lib.hid hns; clear hns
         by_cases hin : i < n
         · have hdi : decide (i < n) = true := decide_eq_true hin
           obtain ⟨s, o, rfl, hs, hc⟩ := (HI.out.later HNS.out.bel).at_ hin
           obtain ⟨x, hx⟩ : ∃ x, x = L i := ⟨_, rfl⟩
           rw [← hx] at hc
           have HX := Lib.hid hx; clear hx
           have hiI : (i : Int) < (n : Int) := by omega
           by_cases hxk : x = (k : Int)
           · subst hxk
             have hek : ((k : Int) == (k : Int)) = true := by simp
             obtain ⟨v, hd1, hv1⟩ := HNS.out.dec
             have HD := Lib.hid hd1; clear hd1
             have HV := Lib.hid hv1; clear hv1
             have c17 := HD.out.c17
             have hlen : (Huf.syms L n k ++ Huf.row L k i).length ≤ 1000000 := by
               rw [List.length_append, Huf.syms_length, Huf.row_length]
               have h1 := Huf.tot_le (Huf.cnt L n) 288 (fun k => Nat.le_trans (Huf.cnt_le L k n) HM.out.1.1) k
               have h2 := Huf.cnt_le L k i
               have h3 := HM.out.1.1
               omega
             have HLEN := Lib.hid hlen; clear hlen
             have hrw : Huf.syms L n k ++ Huf.row L k (i + 1) = (Huf.syms L n k ++ Huf.row L k i) ++ [i] := by rw [Huf.row, if_pos ⟨by omega, HX.out.symm⟩, List.append_assoc]
             have HRW := Lib.hid hrw; clear hrw
             generalize Huf.syms L n k ++ Huf.row L k i = l at *
             have HBS : Hid (w.heap.size ≤ wr.heap.size) := HNS.out.bel.size
             go_wp2_with (first | (at_builtin; refine wpList_append_int rfl (.tmp 48) (.tmp 50) rfl w.heap.size v l.length (nv l) rfl (HV.out.alloc _) wr.heap.size i rfl (heap_alloc_new _ _) HLEN.out (by have := HBS.out; simp; omega) ?_; intro v' w7 ho7 hg7; obtain ⟨a7, c7, rfl⟩ := own_form ho7.out; obtain ⟨⟨u, k1⟩, k2, k3⟩ := HNS.out.app HD.out HV.out ho7.out hg7.out; have HNX := Lib.hid k3; clear k3 ho7 hg7))
             exact ⟨⟨i + 1, by omega, by go_num, by rw [HRW.out]; exact HNX.out⟩, by simp [intOf]; omega⟩
           · have hek : (x == (k : Int)) = false := by simp [hxk]
             have HRW : Hid (Huf.row L k (i + 1) = Huf.row L k i) := by show _ = _; rw [Huf.row, if_neg (by rw [← HX.out]; omega), List.append_nil]
             have HXK : Hid (¬ x = (k : Int)) := hxk
             clear hxk
             go_wp2
             exact ⟨⟨i + 1, by omega, by go_num, by rw [HRW.out]; exact HNS.out⟩, by simp [intOf]; omega⟩
         · obtain rfl : i = n := by omega
           have hdi : decide (i < i) = false := decide_eq_false (by omega)
           have HNX : Hid (NwS w wr D i L (Huf.syms L i (k + 1))) := HNS.out
           clear HNS
           go_wp2
           have := HLT.out
           exact ⟨⟨k + 1, by omega, by omega, by go_num, HNX.out⟩, by simp [intOf]; omega⟩
     · obtain rfl : k = 16 := by omega
       have hd : decide ((16 : Nat) < 16) = false := rfl
       go_wp2
       go_returns
       exact ⟨HNS.out.bel, .inl ⟨HM.out, D, HNS.out, rfl⟩⟩
 · go_wp2
   go_returns
   exact ⟨HB1.out, .inr ⟨hno, rfl⟩⟩
end Go.Proofs.YtenkkononchgmaaGreatDoor

/- The walks of huff's made; numbers that are read bit by bit. -/
namespace Go.Proofs.YtenkkononchgmaaGreatDoor
open Go.RowKit Go

theorem dmade_yes (b : Nat) (w : World) (h : w.cell? ⟨b, 0, none⟩ = some (.pointer (some ⟨b, 0, none⟩))) :
   Calls Tryz.prog 155 #[.pointer (some ⟨b, 0, none⟩)] w fun e w' => e = .returned (.bool true) ∧ w = w' := by
 obtain ⟨i, hi⟩ : ∃ i, Tryz.prog.info? 284 = some i := Option.isSome_iff_exists.1 (by kernel_rfl)
 have he := fun wx => run_eql_ptr_same (P := Tryz.prog) (w := wx) (tp := 83) (te := 284) (j := i) ⟨b, 0, none⟩ (by kernel_rfl) hi
 clear hi
 go_enter Tryz.func155, Tryz.ntmps155
 go_wp2
 go_ret
 exact ⟨rfl, rfl⟩
def Huf.vl (V p : Nat) : Nat → Nat
 | 0 => 0
 | k + 1 => 2 * Huf.vl V p k + V / 2 ^ (p + k) % 2
theorem Huf.vl_lt (V p : Nat) : ∀ k, Huf.vl V p k < 2 ^ k
 | 0 => by simp [Huf.vl]
 | k + 1 => by have := Huf.vl_lt V p k; rw [Huf.vl, Nat.pow_succ]; omega
theorem Huf.or1 (c b : Nat) (hc : c < 1000000) (hb : b < 2) : bits BinOp.or IntKind.i64 ((c : Int) * 2) (b : Int) = ((2 * c + b : Nat) : Int) := by
 have e : bits BinOp.or IntKind.i64 ((c : Int) * 2) (b : Int) = IntKind.i64.wrap (((BitVec.ofInt 64 ((c : Int) * 2)) ||| (BitVec.ofInt 64 (b : Int))).toNat : Int) := rfl
 rw [e, BitVec.toNat_or, BitVec.toNat_ofInt, BitVec.toNat_ofInt]
 have e1 : (((c : Int) * 2) % ((2 ^ 64 : Nat) : Int)).toNat = 2 * c := by omega
 have e2 : ((b : Int) % ((2 ^ 64 : Nat) : Int)).toNat = b := by omega
 have e3 : 2 * c ||| b = 2 * c + b := by
   have := Bit.or_add b c 1 (by omega)
   rw [Nat.or_comm, show 2 * c = c * 2 ^ 1 by omega, this]; omega
 rw [e1, e2, e3]
 exact wm rfl (by omega)
end Go.Proofs.YtenkkononchgmaaGreatDoor

/- The walk of huff's Next. -/
namespace Go.Proofs.YtenkkononchgmaaGreatDoor
open Go.RowKit Go

structure DcR (w : World) (D : Nat) (C : Nat → Nat) (l : List Nat) : Prop where
 d : ∃ v base, Dec w D C (.pointer (some ⟨D, 0, none⟩)) v ∧ w.ownsRow base 3 1 v l.length (nv l)
theorem NwS.dcr {w0 w : World} {D n : Nat} {L : Nat → Int} {l : List Nat} (h : NwS w0 w D n L l) : DcR w D (Huf.cnt L n) l := by
 obtain ⟨v, h1, h2⟩ := h.dec
 exact ⟨v, _, h1, h2⟩
theorem Dec.stepR {w w' : World} {D : Nat} {C : Nat → Nat} {sf v : Value} {g p L V G : Nat} (h1 : Dec w D C sf v) (hr : Rd w g p L V G) (hg : w.grownBy w' (some g)) : Dec w' D C sf v := by
 refine h1.keep (hg.block D h1.lt ?_)
 intro e
 simp only [Option.some.injEq] at e
 subst e
 obtain ⟨cs, k1, _⟩ := h1.row
 rw [hr.row] at k1
 simp only [Option.some.injEq, Obj.cells.injEq] at k1
 exact absurd k1.2.1 (by decide)
theorem own_stepR {w w' : World} {base n : Nat} {v : Value} {xs : List Value} {g p L V G : Nat} (h2 : w.ownsRow base 3 1 v n xs) (hr : Rd w g p L V G) (hg : w.grownBy w' (some g)) : w'.ownsRow base 3 1 v n xs := by
 refine ⟨h2.1, ?_⟩
 rcases h2.2 with h0 | ⟨b, cap, cur, e, q1, q2, q3⟩
 · exact .inl h0
 · refine .inr ⟨b, cap, cur, e, q1, (hg.block b (lt_of_block q2) ?_).trans q2, q3⟩
   intro e2
   simp only [Option.some.injEq] at e2
   subst e2
   rw [hr.row] at q2
   simp only [Option.some.injEq, Obj.cells.injEq] at q2
   exact absurd q2.2.1 (by decide)
theorem DcR.step {w w' : World} {D : Nat} {C : Nat → Nat} {l : List Nat} {g p L V G : Nat} (h : DcR w D C l) (hr : Rd w g p L V G) (hg : w.grownBy w' (some g)) : DcR w' D C l := by
 obtain ⟨v, base, h1, h2⟩ := h.d
 exact ⟨v, base, h1.stepR hr hg, own_stepR h2 hr hg⟩
theorem Huf.tot_mono (C : Nat → Nat) (k : Nat) : ∀ d, Huf.tot C k ≤ Huf.tot C (k + d)
 | 0 => Nat.le_refl _
 | d + 1 => Nat.le_trans (Huf.tot_mono C k d) (Nat.le_add_right _ _)

def Huf.No (C : Nat → Nat) (V p k : Nat) : Prop := ∀ j, 1 ≤ j → j < k → Huf.fst C j + C j ≤ Huf.vl V p j
end Go.Proofs.YtenkkononchgmaaGreatDoor
