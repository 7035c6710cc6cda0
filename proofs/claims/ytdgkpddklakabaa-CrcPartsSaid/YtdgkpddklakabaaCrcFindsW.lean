/- The walk of the law CrcFinds: bits turned are found. -/
import Derived.Test.YtdgkpddklakabaaCrcAwake
import Derived.Test.YtdgkpddklakabaaCrcBurst
import Derived.Test.YtdgkpddklakabaaKitCopy
import Derived.Test.YtdgkpddklakabaaKitPick
namespace Go.Proofs.Ytdgkpddklakabaa
open Go.RowKit Go

/-- the copy's block, which holds L -/
def CopyAt (w : World) (g c : Nat) (L : List Int) : Prop := ∃ C : Array Value, w.heap[g]? = some (.cells C 5 (0, 0)) ∧ C.size = c ∧ ∀ j, j < L.length → C[j]? = some (.int .u8 (L.getD j 0))
theorem CopyAt.cell {w : World} {g c : Nat} {L : List Int} (h : CopyAt w g c L) {j : Nat} (hj : j < L.length) : w.cell? ⟨g, j, none⟩ = some (.int .u8 (L.getD j 0)) := by
  obtain ⟨C, h1, -, h2⟩ := h
  rw [cell_of_row _ _ _ _ _ _ h1]; exact h2 j hj
theorem CopyAt.free {w : World} {g c : Nat} {L : List Int} (h : CopyAt w g c L) (j : Nat) : w.frozen? ⟨g, j, none⟩ = false := by
  obtain ⟨C, h1, -, h2⟩ := h
  exact frozen_of_row _ _ _ _ _ h1
theorem CopyAt.set {w : World} {g c : Nat} {L : List Int} (h : CopyAt w g c L) {j : Nat} (hj : j < L.length) (x : Int) : CopyAt (w.setCell ⟨g, j, none⟩ (.int .u8 x)) g c (L.set j x) := by
  obtain ⟨C, h1, h3, h2⟩ := h
  refine ⟨_, heap_setCell_same _ _ _ _ _ _ h1, by simpa using h3, fun i hi => ?_⟩
  rw [List.length_set] at hi
  rw [Array.getElem?_setIfInBounds]
  by_cases hij : j = i
  · subst hij
    have := (Array.getElem?_eq_some_iff.1 (h2 j hj)).1
    rw [if_pos rfl, if_pos this, List.getD_eq_getElem?_getD, List.getElem?_set_self hj]; rfl
  · rw [if_neg hij, h2 i hi, List.getD_eq_getElem?_getD, List.getD_eq_getElem?_getD, List.getElem?_set_ne hij]
theorem CopyAt.bytes {w : World} {g c : Nat} {L : List Int} (h : CopyAt w g c L) (h1 : L.length ≤ c) (h2 : c ≤ 9223372036854775807) : BytesIn w (.slice (some ⟨g, 0, none⟩) L.length c) L (fun _ => True) := by
  obtain ⟨C, h3, h4, h5⟩ := h
  exact ⟨_, c, rfl, h1, h2, fun _ => ⟨g, 0, rfl, trivial, lt_of_block h3, fun j hj => by rw [cell_of_row _ _ _ _ _ _ h3, Nat.zero_add]; exact h5 j hj⟩⟩
theorem copy_at (B : List Int) (a : Option Addr) (n cap : Nat) (w : World) (hn : n = B.length) (hB : BytesIn w (.slice a n cap) B (fun _ => True)) (hna : a = none → cap = 0) (hl : n ≤ 1000000) (h0 : 0 < n) :
    Calls Try.prog 20 #[.slice a n cap] w fun e w' => ∃ g c, e = .returned (.slice (some ⟨g, 0, none⟩) n c) ∧ CopyAt w' g c B ∧ w.heap.size ≤ g ∧ n ≤ c ∧ c ≤ 9223372036854775807 ∧ Below w.heap.size w w' := by
  refine (copy_any B a n cap w hn hB hna hl).mono ?_
  rintro e w' ⟨v, he, ho, hb⟩
  rcases ho.2 with ⟨_, h⟩ | ⟨g, c, cur, rfl, hg, hh, hnc, hcm, hcs, ht⟩
  · omega
  · refine ⟨g, c, by rw [he, hn], ⟨cur, hh, by rw [hcs, Nat.mul_one], fun j hj => ?_⟩, hg, by omega, by simp only [maxLen] at hcm; omega, hb⟩
    rw [Nat.mul_one] at ht
    have := k8_get B j hj
    rw [← ht, List.getElem?_take, if_pos hj, Array.getElem?_toList] at this
    exact this

set_option maxRecDepth 100000 in
set_option maxHeartbeats 2000000 in
theorem finds_core (a : Option Addr) (n cap : Nat) (B : List Int) (L : Nat → List Int) (at' : Nat) (x T : Int) (w : World) (hn : n = B.length) (hB : BytesIn w (.slice a n cap) B (fun _ => True)) (hBb : ∀ x ∈ B, 0 ≤ x ∧ x < 256) (hna : a = none → cap = 0)
    (hx0 : -9223372036854775808 ≤ x) (hx1 : x ≤ 9223372036854775807) (hT0 : 0 < T) (hT1 : T < 4294967296) (hn4 : 4 ≤ n) (hn5 : n ≤ 50000) (hat : x % (8 * (n : Int) - 31) = (at' : Int))
    (hL0 : L 0 = B) (hLS : ∀ k, L (k + 1) = if T / 2 ^ k % 2 = 1 then (L k).set ((at' + k) / 8) (bits .xor .u8 ((L k).getD ((at' + k) / 8) 0) (2 ^ ((at' + k) % 8))) else L k) (hLn : ∀ k, (L k).length = n) (hLb : ∀ k, ∀ x ∈ L k, 0 ≤ x ∧ x < 256) :
    Calls Try.prog 8 #[.slice a n cap, .int .i64 x, .int .u32 T] w fun e w' => e = .returned (.bool (Crc.sum Crc.cas 0 B != Crc.sum Crc.cas 0 (L 32))) ∧ Below w.heap.size w w' := by
  have hlt : at' + 31 < 8 * n := by have := Int.emod_lt_of_pos x (show 0 < 8 * (n : Int) - 31 by omega); omega
  have HAW := Lib.hid (awake_any w)
  have HPK : Hid (∀ wx, Calls Try.prog 19 #[.int .i64 x, .int .i64 (8 * (n : Int) - 31)] wx fun e w' => e = .returned (.int .i64 (at' : Int)) ∧ wx = w') := fun wx => by
    rw [← hat]
    exact (pick_any x _ wx hx0 hx1 (by omega) (by omega)).mono fun e w' ⟨he, hw⟩ => ⟨he, hw.symm⟩
  have HCP : Hid (∀ wx, Below w.heap.size w wx → Calls Try.prog 20 #[.slice a n cap] wx fun e w' => ∃ g c, e = .returned (.slice (some ⟨g, 0, none⟩) n c) ∧ Hid (CopyAt w' g c (L 0) ∧ w.heap.size ≤ g ∧ Below w.heap.size w w') ∧ n ≤ c ∧ c ≤ 9223372036854775807) := fun wx hb => by
    refine (copy_at B a n cap wx hn (later_bytes hb hB) hna (by omega) (by omega)).mono ?_
    rintro e w' ⟨g, c, he, h1, h2, h3, h4, h5⟩
    exact ⟨g, c, he, ⟨by rw [hL0]; exact h1, Nat.le_trans hb.size h2, hb.trans (h5.mono hb.size)⟩, h3, h4⟩
  have HS1 : Hid (∀ wx, Below w.heap.size w wx → Calls Try.prog 11 #[.slice a n cap] wx fun e w' => e = .returned (.int .u32 (Crc.sum Crc.cas 0 B)) ∧ Hid (Below wx.heap.size wx w')) := fun wx hb => csum_any B _ wx hBb (later_bytes hb hB)
  have HS2 : Hid (∀ wx g c, CopyAt wx g c (L 32) → n ≤ c → c ≤ 9223372036854775807 → Calls Try.prog 11 #[.slice (some ⟨g, 0, none⟩) n c] wx fun e w' => e = .returned (.int .u32 (Crc.sum Crc.cas 0 (L 32))) ∧ Hid (Below wx.heap.size wx w')) := fun wx g c h h1 h2 => by
    have hb := h.bytes (by rw [hLn]; exact h1) h2
    rw [hLn] at hb
    exact csum_any (L 32) _ wx (hLb 32) hb
  generalize Crc.sum Crc.cas 0 B = y at *
  generalize Crc.sum Crc.cas 0 (L 32) = z at *
  have hneT : (T == 0) = false := by simp; omega
  have HLS := Lib.hid hLS; clear hLS
  have HLN := Lib.hid hLn; clear hLn
  have HLB := Lib.hid hLb; clear hLb
  clear hn hB hBb hna hL0 hat
  go_enter Try.func8, Try.ntmps8
  go_wp2_with fail
  refine HAW.out.mono ?_
  rintro e w1 ⟨rfl, hb1⟩
  have HB1 := Lib.hid hb1; clear hb1 HAW
  go_wp2_with fail
  refine (HPK.out _).mono ?_
  rintro e w' ⟨rfl, rfl⟩
  go_wp2_with fail
  refine (HCP.out _ HB1.out).mono ?_
  rintro e w2 ⟨g, c, rfl, hc2, hnc, hcm⟩
  clear HB1 HPK HCP
  have hncI : (n : Int) ≤ c := by omega
  go_wp2
  go_loopw [8] (fun v8 wr => ∃ k : Nat, k ≤ 32 ∧ v8 = .int .i64 (k : Int) ∧ CopyAt wr g c (L k) ∧ w.heap.size ≤ g ∧ Below w.heap.size w wr) (fun v8 _ => (32 - intOf v8).toNat)
  case atStart => exact ⟨0, by omega, rfl, hc2.out⟩
  case round =>
    clear hc2
    obtain ⟨k, hk, rfl, hcp, hg, hb⟩ := hrel
    have HCP := Lib.hid hcp; clear hcp
    have HB := Lib.hid hb; clear hb
    by_cases hltk : k < 32
    · obtain ⟨u, hu⟩ : ∃ u, T / 2 ^ k = u := ⟨_, rfl⟩
      have hu0 : 0 ≤ u := by rw [← hu]; exact Int.ediv_nonneg (by omega) (Int.le_of_lt (Int.pow_pos (by omega)))
      have hu1 : u < 4294967296 := by rw [← hu]; exact Int.lt_of_le_of_lt (Int.ediv_le_self _ (by omega)) hT1
      have hbt : bits BinOp.and IntKind.u32 u 1 = u % 2 := by
        have e : bits BinOp.and IntKind.u32 u 1 = IntKind.u32.wrap ((Crc.bv u &&& Crc.bv 1).toNat : Int) := rfl
        rw [e, BitVec.toNat_and, Crc.bv_toNat hu0 hu1, show (Crc.bv 1).toNat = 2 ^ 1 - 1 from by decide, Nat.and_two_pow_sub_one_eq_mod, IntKind.wrap_u32']
        omega
      by_cases ho : u % 2 = 1
      · rw [ho] at hbt
        have hLN : Hid (L (k + 1) = (L k).set ((at' + k) / 8) (bits .xor .u8 ((L k).getD ((at' + k) / 8) 0) (2 ^ ((at' + k) % 8)))) := by have := HLS.out k; rwa [hu, if_pos ho] at this
        obtain ⟨q, hq⟩ : ∃ q, (at' + k) / 8 = q := ⟨_, rfl⟩
        obtain ⟨m, hm⟩ : ∃ m, (at' + k) % 8 = m := ⟨_, rfl⟩
        rw [hq, hm] at hLN
        have hqn : q < n := by omega
        have hm8 : m < 8 := by omega
        have hqI : ((at' : Int) + k) / 8 = q := by omega
        have hmI : ((at' : Int) + k) % 8 = m := by omega
        have e1 := HCP.out.cell (j := q) (by rw [HLN.out]; exact hqn)
        have e2 := HCP.out.free q
        have HN := Lib.hid (HCP.out.set (j := q) (by rw [HLN.out]; exact hqn) (bits .xor .u8 ((L k).getD q 0) (2 ^ m)))
        rw [← hLN.out] at HN
        have hxb := getD_bd (HLB.out k) q
        have hpm : (2 : Int) ^ m % 256 = 2 ^ m := by
          have := Crc.pow8 m
          rw [Nat.mod_eq_of_lt hm8] at this
          exact Int.emod_eq_of_lt this.1 this.2
        rw [← hpm] at HN
        clear hq hm hLN hpm
        generalize (L k).getD q 0 = xq at *
        obtain ⟨xq0, xq1⟩ := hxb
        go_wp2
        go_roundw
        case rel => exact ⟨k + 1, by omega, by go_num, HN.out, hg, HB.out.setCell hg _⟩
        case measure => simp [intOf]; omega
      · have h0 : u % 2 = 0 := by omega
        rw [h0] at hbt
        have hLN : Hid (L (k + 1) = L k) := by have := HLS.out k; rwa [hu, if_neg ho] at this
        go_wp2
        go_roundw
        case rel => exact ⟨k + 1, by omega, by go_num, by rw [hLN.out]; exact HCP.out, hg, HB.out⟩
        case measure => simp [intOf]; omega
    · obtain rfl : k = 32 := by omega
      go_wp2_with fail
      refine (HS1.out _ HB.out).mono ?_
      rintro e w3 ⟨rfl, hb3⟩
      have HCP3 : Hid (CopyAt w3 g c (L 32)) := by
        obtain ⟨C, h1, h2, h3⟩ := HCP.out
        exact ⟨C, (hb3.out.block _ (lt_of_block h1)).trans h1, h2, h3⟩
      have HB3 : Hid (Below w.heap.size w w3) := HB.out.trans (hb3.out.mono HB.out.size)
      clear HB HCP hb3
      go_wp2_with fail
      refine (HS2.out _ g c HCP3.out hnc hcm).mono ?_
      rintro e w4 ⟨rfl, hb4⟩
      have HB4 : Hid (Below w.heap.size w w4) := HB3.out.trans (hb4.out.mono HB3.out.size)
      clear HB3 HCP3 hb4
      go_wp2
      go_ret
      exact ⟨rfl, HB4.out⟩

set_option maxRecDepth 100000 in
set_option maxHeartbeats 1000000 in
theorem finds_walk (a : Option Addr) (n cap : Nat) (B : List Int) (x T : Int) (w : World) (hn : n = B.length) (hB : BytesIn w (.slice a n cap) B (fun _ => True)) (hBb : ∀ x ∈ B, 0 ≤ x ∧ x < 256) (hna : a = none → cap = 0) (_ : n ≤ 140737488351232)
    (hx0 : -9223372036854775808 ≤ x) (hx1 : x ≤ 9223372036854775807) (hT0 : 0 ≤ T) (hT1 : T < 4294967296) :
    Calls Try.prog 8 #[.slice a n cap, .int .i64 x, .int .u32 T] w fun e w' => e = .returned (.bool true) ∧ Below w.heap.size w w' := by
  by_cases h : 4 ≤ n ∧ n ≤ 50000 ∧ T ≠ 0
  · obtain ⟨h4, h5, hT⟩ := h
    obtain ⟨at', hat⟩ : ∃ at' : Nat, x % (8 * (n : Int) - 31) = (at' : Int) := ⟨(x % (8 * (n : Int) - 31)).toNat, by have := Int.emod_nonneg x (show 8 * (n : Int) - 31 ≠ 0 by omega); omega⟩
    have hlt : at' + 31 < 8 * B.length := by have := Int.emod_lt_of_pos x (show 0 < 8 * (n : Int) - 31 by omega); omega
    have hne := Crc.sum_turned (p := Crc.cas) (s := 0) (by decide) hBb (show 0 < T by omega) hT1 hlt
    refine (finds_core a n cap B (Crc.turns B at' T) at' x T w hn hB hBb hna hx0 hx1 (by omega) hT1 h4 h5 hat rfl (fun k => rfl) (fun k => by rw [Crc.turns_length]; exact hn.symm) (fun k => Crc.turns_mem hBb at' T k)).mono ?_
    rintro e w' ⟨he, hb⟩
    exact ⟨by rw [he, bne_iff_ne.2 hne], hb⟩
  · have HAW := Lib.hid (awake_any w)
    clear hn hB hBb hna
    by_cases h5 : n ≤ 50000
    · by_cases h4 : 4 ≤ n
      · obtain rfl : T = 0 := by
          apply Decidable.byContradiction
          intro hT
          exact h ⟨h4, h5, hT⟩
        clear h
        go_enter Try.func8, Try.ntmps8
        go_wp2_with fail
        refine HAW.out.mono ?_
        rintro e w1 ⟨rfl, hb1⟩
        have HB1 := Lib.hid hb1; clear hb1 HAW
        go_wp2
        go_ret
        exact ⟨rfl, HB1.out⟩
      · clear h
        go_enter Try.func8, Try.ntmps8
        go_wp2_with fail
        refine HAW.out.mono ?_
        rintro e w1 ⟨rfl, hb1⟩
        have HB1 := Lib.hid hb1; clear hb1 HAW
        go_wp2
        go_ret
        exact ⟨rfl, HB1.out⟩
    · clear h
      go_enter Try.func8, Try.ntmps8
      go_wp2_with fail
      refine HAW.out.mono ?_
      rintro e w1 ⟨rfl, hb1⟩
      have HB1 := Lib.hid hb1; clear hb1 HAW
      go_wp2
      go_ret
      exact ⟨rfl, HB1.out⟩
end Go.Proofs.Ytdgkpddklakabaa
