/- The walk of the document's own padded: a text as blocks. -/
import Derived.Test.YtodahmmebikddaaDoorShaApp
import Derived.Test.YtodahmmebikddaaDoorShaRefB
namespace Go.Proofs.YtodahmmebikddaaDoor
open Go.RowKit Go

theorem one_bytes (w : World) (x : Int) : BytesIn (w.alloc (.cells #[.int .u8 x] 5)) (.slice (some ⟨w.heap.size, 0, none⟩) 1 1) [x] (fun _ => True) :=
  ⟨some ⟨w.heap.size, 0, none⟩, 1, rfl, by simp, by omega, fun _ => ⟨w.heap.size, 0, rfl, trivial, by simp, fun j hj => by
    obtain rfl : j = 0 := by simpa using hj
    rw [cell_of_row _ _ _ _ _ _ (heap_alloc_new _ _)]; rfl⟩⟩
theorem own_slice {w : World} {base n : Nat} {v : Value} {xs : List Value} (h : w.ownsRow base 5 1 v n xs) : ∃ a cap, v = .slice a n cap := by
  rcases h.2 with ⟨rfl, rfl⟩ | ⟨g, cap, cur, rfl, _⟩
  · exact ⟨_, _, rfl⟩
  · exact ⟨_, _, rfl⟩

set_option maxRecDepth 100000 in
set_option maxHeartbeats 2000000 in
theorem padded_any (B : List Int) (a : Option Addr) (n cap : Nat) (w : World) (hn : n = B.length) (hB : BytesIn w (.slice a n cap) B (fun _ => True)) (hna : a = none → cap = 0) (hl : n ≤ 1000000) :
    Calls Tryd.prog 19 #[.slice a n cap] w fun e w' => ∃ v', e = .returned v' ∧ w'.ownsRow w.heap.size 5 1 v' (Sha.padded B).length (k8 (Sha.padded B)) ∧ Below w.heap.size w w' := by
  have HN := Lib.hid hn; clear hn
  have HB := Lib.hid hB; clear hB
  have HNA := Lib.hid hna; clear hna
  obtain ⟨Z, hZ, hZ64⟩ : ∃ Z, Z = (119 - n % 64) % 64 ∧ Z < 64 := ⟨_, rfl, by omega⟩
  have HZ := Lib.hid hZ; clear hZ
  go_enter Tryd.func19, Tryd.ntmps19
  go_wp2_with (first | (at_builtin; refine wpList_append_bytes_b rfl (.tmp 6) (.tmp 7) rfl w.heap.size _ 0 [] rfl (World.ownsRow_made w #[] 0 (Nat.le_refl _) (by simp [maxLen]) rfl) _ B (fun _ => True) rfl (later_bytes ((Below.refl _ _).alloc (Nat.le_refl _) _) HB.out) (by intro n c e; cases e; exact HNA.out rfl) (by have := HN.out; omega) ((Below.refl _ _).alloc (Nat.le_refl _) _) (by simp) ?_; intro v1 w1 o1 b1) | (at_builtin; refine wpList_append_bytes_b rfl (.tmp 8) (.tmp 9) rfl w.heap.size v1 _ _ rfl (o1.out.alloc _) _ [128] (fun _ => True) rfl (one_bytes w1 128) (by intro n c e; cases e) (by have := HN.out; simp; omega) (b1.out.alloc b1.out.size _) (by have := b1.out.size; simp; omega) ?_; intro v2 w2 o2 b2; obtain ⟨a2, c2, rfl⟩ := own_slice o2.out))
  have HO2 : Hid (w2.ownsRow w.heap.size 5 1 (.slice a2 (B.length + 1 + 0) c2) (B.length + 1 + 0) (k8 (B ++ [128] ++ List.replicate 0 0))) := by
    have := o2.out
    simp only [Nat.zero_add, List.nil_append, List.length_cons, List.length_nil, ← k8_app] at this
    unfold Hid
    simpa using this
  have HB2 := b2
  clear o1 b1 o2 b2
  obtain ⟨L, hL⟩ : ∃ L, B.length = L := ⟨_, rfl⟩
  rw [hL] at HO2
  simp only [hL]
  have HL := Lib.hid hL; clear hL
  have hL1 : L ≤ 1000000 := by have := HN.out; have := HL.out; omega
  have HZL : Hid (Z = (119 - L % 64) % 64) := by have h1 := HN.out; have h2 := HL.out; have h3 := HZ.out; unfold Hid; rw [h3, h1, h2]
  go_loopw [3] (fun v3 wr => ∃ (z : Nat) (a : Option Addr) (c : Nat), z ≤ Z ∧ v3 = .slice a (L + 1 + z) c ∧ wr.ownsRow w.heap.size 5 1 (.slice a (L + 1 + z) c) (L + 1 + z) (k8 (B ++ [128] ++ List.replicate z 0)) ∧ Below w.heap.size w wr)
    (fun v3 _ => L + 1 + Z - lenOf v3)
  case atStart => exact ⟨0, a2, c2, by omega, rfl, HO2.out, HB2.out⟩
  case round =>
    clear HO2 HB2
    obtain ⟨z, a3, c3, hz, rfl, ho, hb⟩ := hrel
    have HO := Lib.hid ho; clear ho
    have HBL := Lib.hid hb; clear hb
    by_cases hlt : z < Z
    · have hne : ((L : Int) + 1 + z) % 64 ≠ 56 := by have := HZL.out; omega
      have hbne : (((L : Int) + 1 + z) % 64 != 56) = true := by rw [bne_iff_ne]; exact hne
      clear hne
      go_wp2_with (at_builtin; refine wpList_append_bytes_b rfl (.tmp 15) (.tmp 16) rfl w.heap.size _ _ _ rfl (HO.out.alloc _) _ [0] (fun _ => True) rfl (one_bytes wr 0) (by intro n c e; cases e) (by simp; omega) (HBL.out.alloc HBL.out.size _) (by have := HBL.out.size; simp; omega) ?_; intro v4 w4 o4 b4; obtain ⟨a4, c4, rfl⟩ := own_slice o4.out)
      go_roundw
      case rel =>
        refine ⟨z + 1, a4, c4, by omega, rfl, ?_, b4.out⟩
        have := o4.out
        rw [← k8_app, List.append_assoc (B ++ [128]), ← List.replicate_succ'] at this
        exact this
      case measure => simp [lenOf]; omega
    · have heq : (((L : Int) + 1 + z) % 64 != 56) = false := by
        have := HZL.out
        rw [bne_eq_false_iff_eq]; omega
      have HZZ : Hid (z = Z) := by show z = Z; omega
      obtain ⟨LL, hLL, hLL8⟩ : ∃ LL, LL = Sha.len8 n ∧ LL.length = 8 := ⟨_, rfl, rfl⟩
      have HLL := Lib.hid hLL; clear hLL
      have HL8 := Lib.hid hLL8; clear hLL8
      go_wp2
      go_loopw [3, 5] (fun v3 v5 wr => ∃ (k : Nat) (a : Option Addr) (c : Nat), k ≤ 8 ∧ v5 = .int .i64 (7 - (k : Int)) ∧ v3 = .slice a (L + 1 + z + k) c ∧ wr.ownsRow w.heap.size 5 1 (.slice a (L + 1 + z + k) c) (L + 1 + z + k) (k8 (B ++ [128] ++ List.replicate z 0 ++ LL.take k)) ∧ Below w.heap.size w wr)
        (fun _ v5 _ => (intOf v5 + 1).toNat)
      case atStart => exact ⟨0, a3, c3, by omega, rfl, rfl, by simpa using HO.out, HBL.out⟩
      case round =>
        clear HO HBL
        obtain ⟨k, a5, c5, hk, rfl, rfl, ho, hb⟩ := hrel
        have HO := Lib.hid ho; clear ho
        have HBL := Lib.hid hb; clear hb
        by_cases hk8 : k < 8
        · have hge : 0 ≤ 7 - (k : Int) := by omega
          have HLK : Hid (LL.getD k 0 = 8 * (n : Int) / 2 ^ (8 * (7 - k)) % 256) := by
            show LL.getD k 0 = _
            rw [HLL.out, Sha.len8_get n k hk8, show 56 - 8 * k = 8 * (7 - k) by omega]
          go_wp2_with (at_builtin; refine wpList_append_bytes_b rfl (.tmp 26) (.tmp 33) rfl w.heap.size _ _ _ rfl (HO.out.alloc _) _ [8 * (n : Int) / 2 ^ (8 * (7 - k)) % 256] (fun _ => True) rfl (one_bytes wr _) (by intro n c e; cases e) (by simp; omega) (HBL.out.alloc HBL.out.size _) (by have := HBL.out.size; simp; omega) ?_; intro v4 w4 o4 b4; obtain ⟨a4, c4, rfl⟩ := own_slice o4.out)
          go_roundw
          case rel =>
            refine ⟨k + 1, a4, c4, by omega, ?_, rfl, ?_, b4.out⟩
            · congr 1; omega
            · have := o4.out
              rw [← k8_app, ← HLK.out, List.append_assoc (B ++ [128] ++ List.replicate z 0), List.getD_eq_getElem?_getD, List.getElem?_eq_getElem (by rw [HL8.out]; omega)] at this
              rw [List.take_succ_eq_append_getElem (by rw [HL8.out]; omega)]
              exact this
          case measure => simp [intOf]; omega
        · have hlt8 : 7 - (k : Int) < 0 := by omega
          have HEND : Hid (wr.ownsRow w.heap.size 5 1 (.slice a5 (L + 1 + z + k) c5) (Sha.padded B).length (k8 (Sha.padded B)) ∧ Below w.heap.size w wr) := by
            have e : B ++ [128] ++ List.replicate z 0 ++ LL.take k = Sha.padded B := by
              rw [List.take_of_length_le (by rw [HL8.out]; omega), HLL.out, HZZ.out, HZL.out, HN.out, Sha.padded, Sha.ending, HL.out]
              simp
            have el : (Sha.padded B).length = L + 1 + z + k := by
              have h1 := HO.out.1
              rw [k8_length, e] at h1
              omega
            have := HO.out
            rw [e] at this
            refine ⟨?_, HBL.out⟩
            rw [el]; exact this
          go_wp2
          go_ret
          exact ⟨_, rfl, HEND.out⟩
end Go.Proofs.YtodahmmebikddaaDoor
