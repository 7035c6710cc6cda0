/- The walks of the document's own answers for crc: Of, Add, Sum. -/
import Derived.Test.YtdgkpddklakabaaCrcAdd
namespace Go.Proofs.Ytdgkpddklakabaa
open Go.RowKit Go

set_option maxRecDepth 100000 in
set_option maxHeartbeats 2000000 in
theorem of_core (p s : Int) (B : List Int) (W : Nat → Int) (I : Int → Nat → Int) (v : Value) (w : World) (_hp : 0 ≤ p) (_hp' : p < 4294967296) (_hs : 0 ≤ s) (_hs' : s < 4294967296) (hB : ∀ x ∈ B, 0 ≤ x ∧ x < 256)
    (hv : BytesIn w v B (fun _ => True)) (hW : ∀ k, 0 ≤ W k ∧ W k < 4294967296) (hW0 : W 0 = bits .xor .u32 4294967295 s)
    (hI : ∀ x k, 0 ≤ I x k ∧ I x k < 4294967296) (hI0 : ∀ x, 0 ≤ x → x < 4294967296 → I x 0 = x) (hIo : ∀ x k, I x k % 2 = 1 → I x (k + 1) = bits .xor .u32 (I x k / 2) p) (hIe : ∀ x k, I x k % 2 = 0 → I x (k + 1) = I x k / 2)
    (hWS : ∀ k, W (k + 1) = I (bits .xor .u32 (W k) (B.getD k 0)) 8) :
    Calls Try.prog 17 #[.int .u32 p, .int .u32 s, v] w fun e w' => e = .returned (.int .u32 (bits .xor .u32 4294967295 (W B.length))) ∧ w = w' := by
  obtain ⟨a, cap, rfl, h1, h2, h3⟩ := hv
  have HBB := Lib.hid hB; clear hB
  have HC := Lib.hid h3; clear h3
  have HW := Lib.hid hW; clear hW
  have HW0 := Lib.hid hW0; clear hW0
  have HWS := Lib.hid hWS; clear hWS
  have HI := Lib.hid hI; clear hI
  have HI0 := Lib.hid hI0; clear hI0
  have HIO := Lib.hid hIo; clear hIo
  have HIE := Lib.hid hIe; clear hIe
  have hsg : IntKind.u32.signed = false := rfl
  have hmx : IntKind.u32.max = 4294967295 := rfl
  obtain ⟨n, hn⟩ : ∃ n, B.length = n := ⟨_, rfl⟩
  rw [hn] at h1 HC ⊢
  have HN := Lib.hid hn; clear hn
  go_enter Try.func17, Try.ntmps17
  go_wp2
  go_loop [7, 8] (fun v7 v8 => ∃ k : Nat, k ≤ n ∧ v7 = .int .u32 (W k) ∧ v8 = .int .i64 (k : Int)) (fun _ v8 => (n - intOf v8).toNat)
  case atStart => exact ⟨0, by omega, by rw [HW0.out], rfl⟩
  case round =>
    obtain ⟨k, hk, rfl, rfl⟩ := hrel
    by_cases hlt : k < n
    · obtain ⟨s', o, rfl, hne, hsw, hc⟩ := HC.out (by omega)
      have e1 : w.cell? ⟨s', o + k, none⟩ = some (.int .u8 (B.getD k 0)) := hc k hlt
      clear hc hne
      have cb := getD_bd HBB.out k
      have wb := HW.out k
      have HNX : Hid (W (k + 1) = I (bits .xor .u32 (W k) (B.getD k 0)) 8) := HWS.out k
      generalize B.getD k 0 = c at *
      generalize W k = x at *
      obtain ⟨c0, c1⟩ := cb
      obtain ⟨x0, x1⟩ := wb
      have hyb : 0 ≤ bits .xor .u32 x c ∧ bits .xor .u32 x c < 4294967296 := by rw [Crc.xor_bv x0 x1 c0 (by omega)]; exact Crc.iv_bd _
      have hzb := HI.out (bits .xor .u32 x c)
      have HZ0 : Hid (I (bits .xor .u32 x c) 0 = bits .xor .u32 x c) := HI0.out _ hyb.1 hyb.2
      have HZO := Lib.hid (HIO.out (bits .xor .u32 x c))
      have HZE := Lib.hid (HIE.out (bits .xor .u32 x c))
      have HZB := Lib.hid hzb; clear hzb
      clear hyb
      generalize hz : I (bits .xor .u32 x c) = z at *
      clear hz
      go_wp2
      go_loop [7, 9] (fun v7 v9 => ∃ j : Nat, j ≤ 8 ∧ v7 = .int .u32 (z j) ∧ v9 = .int .i64 (j : Int)) (fun _ v9 => (8 - intOf v9).toNat)
      case atStart => exact ⟨0, by omega, by rw [HZ0.out], rfl⟩
      case round =>
        obtain ⟨j, hj, rfl, rfl⟩ := hrel
        by_cases hltj : j < 8
        · have hb : bits BinOp.and IntKind.u32 (z j) 1 = z j % 2 := by
            have e : bits BinOp.and IntKind.u32 (z j) 1 = IntKind.u32.wrap ((Crc.bv (z j) &&& Crc.bv 1).toNat : Int) := rfl
            have := HZB.out j
            rw [e, BitVec.toNat_and, Crc.bv_toNat this.1 this.2, show (Crc.bv 1).toNat = 2 ^ 1 - 1 from by decide, Nat.and_two_pow_sub_one_eq_mod, IntKind.wrap_u32']
            omega
          have zb := HZB.out j
          have HO := Lib.hid (HZO.out j)
          have HE := Lib.hid (HZE.out j)
          generalize hzn : z (j + 1) = z' at *
          generalize z j = y at *
          obtain ⟨y0, y1⟩ := zb
          have HZN := Lib.hid hzn; clear hzn
          by_cases ho : y % 2 = 1
          · have HO1 : Hid (z' = bits .xor .u32 (y / 2) p) := HO.out ho
            rw [ho] at hb
            go_wp2
            go_round
            case rel => exact ⟨j + 1, by omega, by rw [HZN.out, HO1.out], by go_num⟩
            case measure => simp [intOf]; omega
          · have h0 : y % 2 = 0 := by omega
            have HE1 : Hid (z' = y / 2) := HE.out h0
            rw [h0] at hb
            go_wp2
            go_round
            case rel => exact ⟨j + 1, by omega, by rw [HZN.out, HE1.out], by go_num⟩
            case measure => simp [intOf]; omega
        · obtain rfl : j = 8 := by omega
          go_wp2
          go_round
          case rel => exact ⟨k + 1, by omega, by rw [HNX.out], by go_num⟩
          case measure => simp [intOf]; omega
    · obtain rfl : k = n := by omega
      go_wp2
      go_ret
      exact ⟨rfl, rfl⟩

theorem of_any (p s : Int) (B : List Int) (v : Value) (w : World) (hp : 0 ≤ p) (hp' : p < 4294967296) (hs : 0 ≤ s) (hs' : s < 4294967296) (hB : ∀ x ∈ B, 0 ≤ x ∧ x < 256) (hv : BytesIn w v B (fun _ => True)) :
    Calls Try.prog 17 #[.int .u32 p, .int .u32 s, v] w fun e w' => e = .returned (.int .u32 (Crc.sum p s B)) ∧ w = w' := by
  have := of_core p s B (Crc.word p s B) (Crc.inner p) v w hp hp' hs hs' hB hv (fun _ => Crc.word_bd _ _ _ _) (Crc.word_zero hs hs' B) (fun _ _ => Crc.inner_bd _ _ _) (fun _ h h' => Crc.inner_zero h h')
    (fun x k h => by rw [Crc.inner_succ, Crc.step_odd hp hp' (Crc.inner_bd _ _ _).1 (Crc.inner_bd _ _ _).2 h]) (fun x k h => by rw [Crc.inner_succ, Crc.step_even (Crc.inner_bd _ _ _).1 (Crc.inner_bd _ _ _).2 h]) (fun k => Crc.word_inner (getD_bd hB k))
  rw [Crc.sum_eq]
  exact this
theorem radd_any (s : Int) (B : List Int) (v : Value) (w : World) (hs : 0 ≤ s) (hs' : s < 4294967296) (hB : ∀ x ∈ B, 0 ≤ x ∧ x < 256) (hv : BytesIn w v B (fun _ => True)) :
    Calls Try.prog 14 #[.int .u32 s, v] w fun e w' => e = .returned (.int .u32 (Crc.sum Crc.cas s B)) ∧ w = w' := by
  have HC : Hid (Calls Try.prog 17 #[.int .u32 2197175160, .int .u32 s, v] w fun e w' => e = .returned (.int .u32 (Crc.sum Crc.cas s B)) ∧ w = w') := of_any Crc.cas s B v w (by decide) (by decide) hs hs' hB hv
  clear hB hv
  generalize Crc.sum Crc.cas s B = y at *
  go_enter Try.func14, Try.ntmps14
  go_wp2_with fail
  refine HC.out.mono ?_
  rintro e w1 ⟨rfl, rfl⟩
  go_wp2
  go_ret
  exact ⟨rfl, rfl⟩
theorem rsum_any (B : List Int) (v : Value) (w : World) (hB : ∀ x ∈ B, 0 ≤ x ∧ x < 256) (hv : BytesIn w v B (fun _ => True)) :
    Calls Try.prog 12 #[v] w fun e w' => e = .returned (.int .u32 (Crc.sum Crc.cas 0 B)) ∧ w = w' := by
  have HC := Lib.hid (radd_any 0 B v w (by omega) (by omega) hB hv)
  clear hB hv
  generalize Crc.sum Crc.cas 0 B = y at *
  go_enter Try.func12, Try.ntmps12
  go_wp2_with fail
  refine HC.out.mono ?_
  rintro e w1 ⟨rfl, rfl⟩
  go_wp2
  go_ret
  exact ⟨rfl, rfl⟩
end Go.Proofs.Ytdgkpddklakabaa
