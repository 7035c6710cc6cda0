/- The walk of sha's take: bytes go into the hash, block by block. -/
import Derived.Test.YtodahmmebikddaaDoorShaMix
import Derived.StillTailTactics
import Derived.Laws.CopyOwn
namespace Go.Proofs.YtodahmmebikddaaDoor
open Go.RowKit Go

/-- a slice of bytes: what it reads as, and where it may lie -/
def BytesIn (w : World) (v : Value) (B : List Int) (ok : Nat → Prop) : Prop :=
  ∃ a cap, v = .slice a B.length cap ∧ B.length ≤ cap ∧ cap ≤ 9223372036854775807 ∧
    (0 < B.length → ∃ s o, a = some ⟨s, o, none⟩ ∧ ok s ∧ s < w.heap.size ∧ ∀ j, j < B.length → w.cell? ⟨s, o + j, none⟩ = some (.int .u8 (B.getD j 0)))

/-- the cells of a hash that has taken T: its words, the text's end, how many bytes that is -/
structure Abs (C : Array Value) (T : List Int) : Prop where
  size : C.size = 111
  words : ∀ j, j < 8 → C[5 + j]? = some (.int .u32 ((Sha.hb T (T.length / 64)).getD j 0))
  part : ∀ j, j < T.length % 64 → C[13 + j]? = some (.int .u8 (T.getD (64 * (T.length / 64) + j) 0))
  held : C[77]? = some (.int .i64 ((T.length % 64 : Nat) : Int))

theorem getD_app_left (T D : List Int) (j : Nat) (h : j < T.length) : (T ++ D).getD j 0 = T.getD j 0 := by
  rw [List.getD_eq_getElem?_getD, List.getD_eq_getElem?_getD, List.getElem?_append_left h]
theorem getD_app_right (T D : List Int) (j : Nat) (h : T.length ≤ j) : (T ++ D).getD j 0 = D.getD (j - T.length) 0 := by
  rw [List.getD_eq_getElem?_getD, List.getD_eq_getElem?_getD, List.getElem?_append_right h]

theorem getD_bd {L : List Int} (h : ∀ x ∈ L, 0 ≤ x ∧ x < 256) (j : Nat) : 0 ≤ L.getD j 0 ∧ L.getD j 0 < 256 := by
  by_cases hj : j < L.length
  · rw [List.getD_eq_getElem?_getD, List.getElem?_eq_getElem hj]
    exact h _ (List.getElem_mem hj)
  · rw [List.getD_eq_getElem?_getD, List.getElem?_eq_none (by omega)]
    decide

theorem abs_part {C C2 : Array Value} {T D : List Int} (h : Abs C T) (hr : T.length % 64 + D.length < 64) (hs : C2.size = 111)
    (hw : ∀ j, j < 8 → C2[5 + j]? = C[5 + j]?) (hp : ∀ j, j < T.length % 64 → C2[13 + j]? = C[13 + j]?)
    (hd : ∀ j, j < D.length → C2[13 + (T.length % 64 + j)]? = some (.int .u8 (D.getD j 0)))
    (hh : C2[77]? = some (.int .i64 ((T.length % 64 + D.length : Nat) : Int))) : Abs C2 (T ++ D) := by
  have e1 : (T ++ D).length / 64 = T.length / 64 := by simp; omega
  have e2 : (T ++ D).length % 64 = T.length % 64 + D.length := by simp; omega
  refine ⟨hs, fun j hj => ?_, fun j hj => ?_, by rw [e2]; exact hh⟩
  · rw [e1, Sha.hb_app _ _ _ (by omega), hw j hj, h.words j hj]
  · rw [e2] at hj
    rw [e1]
    by_cases hj' : j < T.length % 64
    · rw [hp j hj', h.part j hj', getD_app_left _ _ _ (by omega)]
    · have := hd (j - T.length % 64) (by omega)
      rw [show 13 + (T.length % 64 + (j - T.length % 64)) = 13 + j by omega] at this
      rw [this, getD_app_right _ _ _ (by omega)]
      congr 3; omega

theorem abs_full {C C2 : Array Value} {T D : List Int} (_h : Abs C T) (hr : T.length % 64 + D.length = 64) (hs : C2.size = 111)
    (hw : ∀ j, j < 8 → C2[5 + j]? = some (.int .u32 ((Sha.comp (Sha.hb T (T.length / 64)) fun j => (T ++ D).getD (64 * (T.length / 64) + j) 0).getD j 0)))
    (hh : C2[77]? = some (.int .i64 0)) : Abs C2 (T ++ D) := by
  have e1 : (T ++ D).length / 64 = T.length / 64 + 1 := by simp; omega
  have e2 : (T ++ D).length % 64 = 0 := by simp; omega
  refine ⟨hs, fun j hj => ?_, fun j hj => by omega, by rw [e2]; exact hh⟩
  rw [e1, hw j hj, Sha.hb, Sha.hb_app _ _ _ (by omega)]

theorem BytesIn.drop {w : World} {a : Option Addr} {cap : Nat} {B : List Int} {ok : Nat → Prop} (h : BytesIn w (.slice a B.length cap) B ok) (m : Nat) (hm : m ≤ B.length) :
    BytesIn w (.slice (if cap = m then a else a.map (·.add m)) (B.length - m) (cap - m)) (B.drop m) ok := by
  obtain ⟨a', cap', hv, h1, h2, h3⟩ := h
  obtain ⟨rfl, -, rfl⟩ := hv
  refine ⟨_, cap - m, by rw [List.length_drop], by rw [List.length_drop]; omega, by omega, fun hp => ?_⟩
  rw [List.length_drop] at hp
  obtain ⟨s, o, rfl, hs, hsw, hc⟩ := h3 (by omega)
  rw [if_neg (by omega)]
  refine ⟨s, o + m, ?_, hs, hsw, fun j hj => ?_⟩
  · simp only [Option.map_some, Addr.add_mid]
  · rw [List.length_drop] at hj
    rw [Nat.add_assoc, hc (m + j) (by omega)]
    rw [List.getD_eq_getElem?_getD, List.getD_eq_getElem?_getD, List.getElem?_drop]

def lenOf : Value → Nat
  | .slice _ n _ => n
  | _ => 0
theorem mid_get {C1 C2 : Array Value} {TD E1 : List Int} {r m : Nat} {cs : List Value} (hA : Abs C1 TD) (hr : r = TD.length % 64) (hE : E1.length = m) (hcs : cs = E1.map (Value.int .u8))
    (g2 : ∀ j : Nat, C2[j]? = if j < 13 + r then C1[j]? else if j < 13 + r + m then cs[j - (13 + r)]? else C1[j]?) (j : Nat) (hj : j < r + m) :
    C2[13 + j]? = some (.int .u8 ((TD ++ E1).getD (64 * (TD.length / 64) + j) 0)) := by
  rw [g2]
  by_cases h : j < r
  · rw [if_pos (by omega), hA.part j (by omega), getD_app_left _ _ _ (by omega)]
  · rw [if_neg (by omega), if_pos (by omega), hcs, List.getElem?_map, getD_app_right _ _ _ (by omega), show 13 + j - (13 + r) = j - r by omega,
      show 64 * (TD.length / 64) + j - TD.length = j - r by omega, List.getD_eq_getElem?_getD, List.getElem?_eq_getElem (by omega)]
    rfl
theorem step_part {C1 C2 : Array Value} {TD E1 : List Int} {r m : Nat} {cs : List Value} (hA : Abs C1 TD) (hr : r = TD.length % 64) (hE : E1.length = m) (hcs : cs = E1.map (Value.int .u8))
    (g2 : ∀ j : Nat, C2[j]? = if j < 13 + r then C1[j]? else if j < 13 + r + m then cs[j - (13 + r)]? else C1[j]?) (hs : C2.size = 111) (hlt : r + m < 64) :
    Abs (C2.setIfInBounds 77 (.int .i64 ((r : Int) + m))) (TD ++ E1) := by
  refine abs_part hA (by omega) (by simpa using hs) (fun j hj => ?_) (fun j hj => ?_) (fun j hj => ?_) ?_
  · rw [Array.getElem?_setIfInBounds, if_neg (by omega), g2, if_pos (by omega)]
  · rw [Array.getElem?_setIfInBounds, if_neg (by omega), g2, if_pos (by omega)]
  · have := mid_get hA hr hE hcs g2 (r + j) (by omega)
    rw [Array.getElem?_setIfInBounds, if_neg (by omega), ← hr, this, getD_app_right _ _ _ (by omega)]
    congr 3; omega
  · rw [Array.getElem?_setIfInBounds, if_pos rfl, if_pos (by omega), hE, hr]; norm_cast
theorem step_full {C1 C2 C4 : Array Value} {TD E1 : List Int} {r m : Nat} (hA : Abs C1 TD) (hr : r = TD.length % 64) (hE : E1.length = m)
    (hs : C2.size = 111) (hf : r + m = 64) (h4s : C4.size = (C2.setIfInBounds 77 (.int .i64 ((r : Int) + m))).size)
    (h4 : ∀ j, j < 8 → C4[5 + j]? = some (.int .u32 ((Sha.comp (Sha.hb TD (TD.length / 64)) fun j => (TD ++ E1).getD (64 * (TD.length / 64) + j) 0).getD j 0))) :
    Abs (C4.setIfInBounds 77 (.int .i64 0)) (TD ++ E1) := by
  rw [Array.size_setIfInBounds, hs] at h4s
  refine abs_full hA (by omega) (by simpa using h4s) (fun j hj => ?_) ?_
  · rw [Array.getElem?_setIfInBounds, if_neg (by omega), h4 j hj]
  · rw [Array.getElem?_setIfInBounds, if_pos rfl, if_pos (by omega)]

theorem splice_get (C : Array Value) (k : Nat) (cs : List Value) (hk : k + cs.length ≤ C.size) (j : Nat) :
    (C.toList.take k ++ cs ++ C.toList.drop (k + cs.length)).toArray[j]? = if j < k then C[j]? else if j < k + cs.length then cs[j - k]? else C[j]? := by
  have hl : (C.toList.take k).length = k := by rw [List.length_take, Array.length_toList]; omega
  rw [List.getElem?_toArray, List.append_assoc]
  by_cases h1 : j < k
  · rw [if_pos h1, List.getElem?_append_left (by omega), List.getElem?_take, if_pos h1, Array.getElem?_toList]
  · rw [if_neg h1, List.getElem?_append_right (by omega), hl]
    by_cases h2 : j < k + cs.length
    · rw [if_pos h2, List.getElem?_append_left (by omega)]
    · rw [if_neg h2, List.getElem?_append_right (by omega), List.getElem?_drop, Array.getElem?_toList]
      congr 1; omega

theorem slice_block (b r : Nat) (hr : r < 64) (wx : World) :
    (Instr.sliceAt 46 (.pointer (some ⟨b, 13, none⟩)) (some (.int .i64 r)) none none).run Tryd.prog wx = .ok (.slice (some ⟨b, 13 + r, none⟩) (64 - r) (64 - r)) wx := by
  have hl : Tryd.prog.arrayLen 46 = 64 := by kernel_rfl
  have he : Tryd.prog.elem 46 = 5 := by kernel_rfl
  have hsz : ∀ w : World, (sizeOf 5).run Tryd.prog w = .ok 1 w := fun w => by kernel_rfl
  rw [run_sliceAt_array_l wx 46 _ (by kernel_rfl) .i64 r (by omega) (by rw [hl]; omega), he, hsz, hl]
  simp only [Result.andThen_ok, slicedAt, Int.toNat_natCast]
  rw [if_neg (by omega), Addr.add_mid, Nat.mul_one]

set_option maxRecDepth 100000 in
set_option maxHeartbeats 4000000 in
theorem take_any (b : Nat) (C : Array Value) (T B : List Int) (v : Value) (w : World) (hT : ∀ x ∈ T, 0 ≤ x ∧ x < 256) (hBb : ∀ x ∈ B, 0 ≤ x ∧ x < 256) (hb0 : b ≠ 0) 
    (hB : w.heap[b]? = some (.cells C 49 (0, 0))) (hA : Abs C T) (hv : BytesIn w v B (· ≠ b))
    (hG : ∀ j, j < 64 → w.cell? ⟨0, j, none⟩ = some (.int .u32 (Sha.kk j))) :
    Calls Tryd.prog 23 #[.pointer (some ⟨b, 0, none⟩), v] w fun e w' => e = .returned (.tuple #[]) ∧ w.grownBy w' (some b) ∧
      ∃ C' : Array Value, w'.heap[b]? = some (.cells C' 49 (0, 0)) ∧ Abs C' (T ++ B) ∧ ∀ j, (j < 5 ∨ 78 ≤ j) → C'[j]? = C[j]? := by
  have hbw : b < w.heap.size := lt_of_block hB
  have HB := Lib.hid hB; clear hB
  have HA := Lib.hid hA; clear hA
  have HV := Lib.hid hv
  have HT := Lib.hid hT; clear hT
  have HBB := Lib.hid hBb; clear hBb
  have HG := Lib.hid hG; clear hG
  obtain ⟨a, cap, rfl, -⟩ := hv
  go_enter Tryd.func23, Tryd.ntmps23
  go_wp2_with fail
  go_loopw [1] (fun v1 wr => ∃ D E : List Int, B = D ++ E ∧ BytesIn w v1 E (· ≠ b) ∧ w.grownBy wr (some b) ∧ ∃ C' : Array Value, wr.heap[b]? = some (.cells C' 49 (0, 0)) ∧ Abs C' (T ++ D) ∧ ∀ j, (j < 5 ∨ 78 ≤ j) → C'[j]? = C[j]?)
    (fun v1 _ => lenOf v1)
  case atStart => exact ⟨[], B, rfl, HV.out, gb_refl _ _, C, HB.out, by simpa using HA.out, fun _ _ => rfl⟩
  case round =>
    clear HV
    obtain ⟨D, E, hBDE, hvE, hgr, C1, hC1, hA1, hC1o⟩ := hrel
    have HVE := Lib.hid hvE
    obtain ⟨a, cap, rfl, hle, hcm, hcells⟩ := hvE
    have HBDE := Lib.hid hBDE; clear hBDE
    have HC1 := Lib.hid hC1; clear hC1
    have HA1 := Lib.hid hA1; clear hA1
    have HC1o := Lib.hid hC1o; clear hC1o
    have HCE := Lib.hid hcells; clear hcells
    have HGR := Lib.hid hgr; clear hgr
    by_cases hE : 0 < E.length
    · obtain ⟨s, o, rfl, hsb, hsw, hcell⟩ := HCE.out hE
      have HCL := Lib.hid hcell; clear hcell
      obtain ⟨r, hr, hr64⟩ : ∃ r, r = (T ++ D).length % 64 ∧ r < 64 := ⟨_, rfl, Nat.mod_lt _ (by omega)⟩
      have eh : wr.cell? ⟨b, 77, none⟩ = some (.int .i64 r) := by rw [hr]; exact (cell_of_row _ _ _ _ _ _ HC1.out).trans HA1.out.held
      have fh : wr.frozen? ⟨b, 77, none⟩ = false := frozen_of_row _ _ _ _ _ HC1.out
      have HR := Lib.hid hr; clear hr
      generalize hn : E.length = n at *
      have HN := Lib.hid hn; clear hn
      obtain ⟨m, hm, hm1, hm2⟩ : ∃ m, m = Nat.min n (64 - r) ∧ m ≤ n ∧ m ≤ 64 - r := ⟨_, rfl, Nat.min_le_left _ _, Nat.min_le_right _ _⟩
      obtain ⟨cs, hcs⟩ : ∃ cs, cs = (E.take m).map (Value.int .u8) := ⟨_, rfl⟩
      have hcl : cs.length = m := by rw [hcs, List.length_map, List.length_take, HN.out]; omega
      have hsl := slice_block b r hr64
      have hcp : (Builtin.copy_ #[22, 22] 3 #[.slice (some ⟨b, 13 + r, none⟩) (64 - r) (64 - r), .slice (some ⟨s, o, none⟩) n cap]).run Tryd.prog wr.drew = .ok (.int .i64 m) (wr.drew.setRow b (C1.toList.take (13 + r) ++ cs ++ C1.toList.drop (13 + r + cs.length)).toArray) := by
        have := run_copy_row (P := Tryd.prog) wr.drew 22 22 3 5 b (13 + r) (64 - r) (64 - r) ⟨s, o, none⟩ n cap C1 _ cs (by kernel_rfl) (by kernel_rfl) HC1.out (by rw [hcl, hm])
          (fun j v hj => by
            rw [Addr.add_mid]
            have hjl : j < cs.length := (List.getElem?_eq_some_iff.1 hj).1
            have hg1 : wr.drew.cell? ⟨s, o + j, none⟩ = w.cell? ⟨s, o + j, none⟩ := gb_cell HGR.out (by simpa using hsw) (by simpa using hsb)
            rw [hg1, HCL.out j (by omega), ← hj, hcs, List.getElem?_map, List.getElem?_take, if_pos (by omega), List.getD_eq_getElem?_getD, List.getElem?_eq_getElem (by rw [HN.out]; omega)]; rfl)
          (by rw [HA1.out.size, hcl]; omega) (by intro v hv; rw [hcs] at hv; obtain ⟨x, _, rfl⟩ := List.mem_map.1 hv; rfl)
        rw [hcl] at this
        rw [hcl]
        exact this
      generalize hC2 : (C1.toList.take (13 + r) ++ cs ++ C1.toList.drop (13 + r + cs.length)).toArray = C2 at *
      have HC2 := Lib.hid hC2; clear hC2
      have HM := Lib.hid hm; clear hm
      have HCS := Lib.hid hcs; clear hcs
      have HCLn := Lib.hid hcl; clear hcl
      go_wp2_with fail
      go_region
      clear hsl hcp eh fh
      have HW2 : Hid ((wr.drew.setRow b C2).heap[b]? = some (.cells C2 49 (0, 0))) := setRow_heap wr.drew b _ _ _ _ HC1.out
      have HG2 : Hid (w.grownBy (wr.drew.setRow b C2) (some b)) := gb_trans (gb_drew HGR.out) ⟨rfl, rfl, rfl, by simp [World.setRow], fun k _ hk => setRow_other _ _ _ _ (fun e => hk (by rw [e]))⟩
      generalize wr.drew.setRow b C2 = w2 at *
      have g2 : ∀ j, C2[j]? = if j < 13 + r then C1[j]? else if j < 13 + r + m then cs[j - (13 + r)]? else C1[j]? := by
        intro j
        have := splice_get C1 (13 + r) cs (by rw [HCLn.out, HA1.out.size]; omega) j
        rw [HC2.out, HCLn.out] at this
        exact this
      have HS2 : Hid (C2.size = 111) := by
        show C2.size = 111
        rw [← HC2.out]
        have := HA1.out.size
        simp only [List.size_toArray, List.length_append, List.length_take, List.length_drop, Array.length_toList, HCLn.out, this]
        omega
      have HGet2 := Lib.hid g2; clear g2
      have eh2 : w2.cell? ⟨b, 77, none⟩ = some (.int .i64 r) := by
        rw [cell_of_row _ _ _ _ _ _ HW2.out, HGet2.out 77, if_neg (by omega), if_neg (by omega)]
        rw [HR.out]; exact HA1.out.held
      have fh2 : w2.frozen? ⟨b, 77, none⟩ = false := frozen_of_row _ _ _ _ _ HW2.out
      have HD := Lib.hid (BytesIn.drop (a := some ⟨s, o, none⟩) (cap := cap) (B := E) (ok := (· ≠ b)) (w := w) (by rw [HN.out]; exact HVE.out) m (by rw [HN.out]; exact hm1))
      have HE1 : Hid ((E.take m).length = m) := by show (E.take m).length = m; rw [List.length_take, HN.out]; omega
      have HSP : Hid (B = (D ++ E.take m) ++ E.drop m) := by show B = _; rw [List.append_assoc, List.take_append_drop]; exact HBDE.out
      have hm0 : 0 < m := by have := HM.out; rw [this]; exact Nat.lt_min.2 ⟨hE, by omega⟩
      by_cases hfull : r + m < 64
      · have HP : Hid (Abs (C2.setIfInBounds 77 (.int .i64 ((r : Int) + m))) (T ++ (D ++ E.take m))) := by
          show Abs _ _
          rw [← List.append_assoc]
          exact step_part HA1.out HR.out HE1.out HCS.out HGet2.out HS2.out hfull
        have HO : Hid (∀ j, (j < 5 ∨ 78 ≤ j) → (C2.setIfInBounds 77 (.int .i64 ((r : Int) + m)))[j]? = C[j]?) := fun j hj => by
          rw [Array.getElem?_setIfInBounds, if_neg (by omega), HGet2.out]
          by_cases h : j < 5
          · rw [if_pos (by omega)]; exact HC1o.out j hj
          · rw [if_neg (by omega), if_neg (by omega)]; exact HC1o.out j hj
        have hne : ((r : Int) + m == 64) = false := by rw [beq_eq_false_iff_ne]; omega
        by_cases hcap : cap = m
        · subst hcap
          have HD' : Hid (BytesIn w (.slice (some ⟨s, o, none⟩) 0 0) (E.drop cap) (· ≠ b)) := by
            have := HD.out
            rw [if_pos rfl, HN.out, Nat.sub_self, show n - cap = 0 by omega] at this
            exact this
          go_wp2
          exact ⟨⟨D ++ E.take cap, E.drop cap, HSP.out, HD'.out, gb_setCell HG2.out _, _, heap_setCell_same _ _ _ _ _ _ HW2.out, HP.out, HO.out⟩, by simp [lenOf]; omega⟩
        · have HD' : Hid (BytesIn w (.slice (some ⟨s, o + m, none⟩) (n - m) (cap - m)) (E.drop m) (· ≠ b)) := by
            have := HD.out
            rw [if_neg hcap, HN.out, Option.map_some, Addr.add_mid] at this
            exact this
          go_wp2
          exact ⟨⟨D ++ E.take m, E.drop m, HSP.out, HD'.out, gb_setCell HG2.out _, _, heap_setCell_same _ _ _ _ _ _ HW2.out, HP.out, HO.out⟩, by simp [lenOf]; omega⟩
      · have hf64 : Hid (r + m = 64) := by show r + m = 64; omega
        have hne : ((r : Int) + m == 64) = true := by rw [beq_iff_eq]; have := hf64.out; omega
        have HX3 : Hid (∀ j, j < 64 → (C2.setIfInBounds 77 (.int .i64 ((r : Int) + m)))[13 + j]? = some (.int .u8 ((T ++ D ++ E.take m).getD (64 * ((T ++ D).length / 64) + j) 0))) := fun j hj => by
          rw [Array.getElem?_setIfInBounds, if_neg (by omega)]
          exact mid_get HA1.out HR.out HE1.out HCS.out HGet2.out j (by have := hf64.out; omega)
        have HH3 : Hid (∀ j, j < 8 → (C2.setIfInBounds 77 (.int .i64 ((r : Int) + m)))[5 + j]? = some (.int .u32 ((Sha.hb (T ++ D) ((T ++ D).length / 64)).getD j 0))) := fun j hj => by
          rw [Array.getElem?_setIfInBounds, if_neg (by omega), HGet2.out, if_pos (by omega)]
          exact HA1.out.words j hj
        have HG3 : Hid (∀ j, j < 64 → (w2.setCell ⟨b, 77, none⟩ (.int .i64 ((r : Int) + m))).cell? ⟨0, j, none⟩ = some (.int .u32 (Sha.kk j))) := fun j hj => by
          rw [gb_cell (gb_setCell HG2.out _) (by show 0 < w.heap.size; omega) (fun e => hb0 e.symm)]
          exact HG.out j hj
        have HXb : Hid (∀ j, 0 ≤ (T ++ D ++ E.take m).getD (64 * ((T ++ D).length / 64) + j) 0 ∧ (T ++ D ++ E.take m).getD (64 * ((T ++ D).length / 64) + j) 0 < 256) := fun j => by
          have hall : ∀ x ∈ T ++ D ++ E.take m, 0 ≤ x ∧ x < 256 := by
            intro x hx
            rcases List.mem_append.1 hx with h | h
            · rcases List.mem_append.1 h with h | h
              · exact HT.out x h
              · exact HBB.out x (by rw [HBDE.out]; exact List.mem_append_left _ h)
            · exact HBB.out x (by rw [HBDE.out]; exact List.mem_append_right _ (List.mem_of_mem_take h))
          exact getD_bd hall _
        have hmix : ∀ wx : World, wx = w2.setCell ⟨b, 77, none⟩ (.int .i64 ((r : Int) + m)) → Calls Tryd.prog 29 #[.pointer (some ⟨b, 0, none⟩)] wx fun e w' => e = .returned (.tuple #[]) ∧ ∃ C4 : Array Value, Hid (w.grownBy w' (some b)) ∧ Hid (w'.heap[b]? = some (.cells C4 49 (0, 0))) ∧
            w'.cell? ⟨b, 77, none⟩ = some (.int .i64 64) ∧ w'.frozen? ⟨b, 77, none⟩ = false ∧
            Hid (Abs (C4.setIfInBounds 77 (.int .i64 0)) (T ++ (D ++ E.take m))) ∧ Hid (∀ j, (j < 5 ∨ 78 ≤ j) → (C4.setIfInBounds 77 (.int .i64 0))[j]? = C[j]?) := by
          rintro wx rfl
          refine (mix_any b _ _ (Sha.hb (T ++ D) ((T ++ D).length / 64)) _ HXb.out (fun j => Sha.hb_bd _ _ j) (heap_setCell_same _ _ _ _ _ _ HW2.out) HH3.out HX3.out HG3.out).mono ?_
          rintro e w' ⟨he, hg, C4, h1, h2, h3, h4⟩
          refine ⟨he, C4, gb_trans (gb_setCell HG2.out _) hg, h1, ?_, frozen_of_row _ _ _ _ _ h1, ?_, fun j hj => ?_⟩
          · rw [cell_of_row _ _ _ _ _ _ h1, h4 77 (by omega), Array.getElem?_setIfInBounds, if_pos rfl, if_pos (by rw [HS2.out]; omega)]
            have := hf64.out
            rw [show (r : Int) + m = 64 by omega]
          · show Abs _ _
            rw [← List.append_assoc]
            exact step_full HA1.out HR.out HE1.out HS2.out hf64.out h2 h3
          · rw [Array.getElem?_setIfInBounds, if_neg (by omega), h4 j (by omega), Array.getElem?_setIfInBounds, if_neg (by omega), HGet2.out]
            by_cases h : j < 5
            · rw [if_pos (by omega)]; exact HC1o.out j hj
            · rw [if_neg (by omega), if_neg (by omega)]; exact HC1o.out j hj
        have HMIX := Lib.hid hmix; clear hmix
        by_cases hcap : cap = m
        · subst hcap
          have HD' : Hid (BytesIn w (.slice (some ⟨s, o, none⟩) 0 0) (E.drop cap) (· ≠ b)) := by
            have := HD.out
            rw [if_pos rfl, HN.out, Nat.sub_self, show n - cap = 0 by omega] at this
            exact this
          go_wp2_with fail
          refine (HMIX.out _ rfl).mono ?_
          rintro e w4 ⟨rfl, C4, h1, h2, h3, h4, h5, h6⟩
          go_wp2
          exact ⟨⟨D ++ E.take cap, E.drop cap, HSP.out, HD'.out, gb_setCell h1.out _, _, heap_setCell_same _ _ _ _ _ _ h2.out, h5.out, h6.out⟩, by simp [lenOf]; omega⟩
        · have HD' : Hid (BytesIn w (.slice (some ⟨s, o + m, none⟩) (n - m) (cap - m)) (E.drop m) (· ≠ b)) := by
            have := HD.out
            rw [if_neg hcap, HN.out, Option.map_some, Addr.add_mid] at this
            exact this
          go_wp2_with fail
          refine (HMIX.out _ rfl).mono ?_
          rintro e w4 ⟨rfl, C4, h1, h2, h3, h4, h5, h6⟩
          go_wp2
          exact ⟨⟨D ++ E.take m, E.drop m, HSP.out, HD'.out, gb_setCell h1.out _, _, heap_setCell_same _ _ _ _ _ _ h2.out, h5.out, h6.out⟩, by simp [lenOf]; omega⟩
    · have hE0 : Hid (E = []) := List.eq_nil_of_length_eq_zero (by omega)
      obtain rfl := hE0.out
      go_wp2
      go_end0
      have hBD := HBDE.out
      rw [List.append_nil] at hBD
      rw [hBD]
      exact ⟨rfl, HGR.out, C1, HC1.out, HA1.out, HC1o.out⟩
end Go.Proofs.YtodahmmebikddaaDoor
