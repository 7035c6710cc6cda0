/- The walk of sha.Sum: the digest of a text at once. -/
import Derived.Test.YtodahmmebikddaaDoorShaSum
namespace Go.Proofs.YtodahmmebikddaaDoor
open Go.RowKit Go

theorem BytesIn.mono {w w' : World} {v : Value} {B : List Int} {ok ok' : Nat → Prop} (h : BytesIn w v B ok) (hs : w.heap.size ≤ w'.heap.size) (hok : ∀ s, s < w.heap.size → ok s → ok' s)
    (hc : ∀ s o, s < w.heap.size → ok s → w'.cell? ⟨s, o, none⟩ = w.cell? ⟨s, o, none⟩) : BytesIn w' v B ok' := by
  obtain ⟨a, cap, e1, e2, e3, e4⟩ := h
  refine ⟨a, cap, e1, e2, e3, fun hp => ?_⟩
  obtain ⟨s, o, e5, e6, e7, e8⟩ := e4 hp
  exact ⟨s, o, e5, hok s e7 e6, Nat.lt_of_lt_of_le e7 hs, fun j hj => (hc s (o + j) e7 e6).trans (e8 j hj)⟩

set_option maxRecDepth 100000 in
set_option maxHeartbeats 1000000 in
theorem sum_of (B : List Int) (v : Value) (w : World) (hBb : ∀ x ∈ B, 0 ≤ x ∧ x < 256) (hv : BytesIn w v B (fun _ => True)) (hl : B.length ≤ 1152921504606846976)
    (h0w : 0 < w.heap.size) (hG : ∀ j, j < 64 → w.cell? ⟨0, j, none⟩ = some (.int .u32 (Sha.kk j))) :
    Calls Tryd.prog 10 #[v] w fun e w' => e = .returned (.agg (k8 (Sha.digest B)).toArray) ∧ Below w.heap.size w w' := by
  have HV := Lib.hid hv; clear hv
  have HBB := Lib.hid hBb; clear hBb
  have HG := Lib.hid hG; clear hG
  have HKS : Hid ((Tryd.prog.info? 26).map (·.size) = some (k8 (Sha.digest B)).toArray.size) := by show _ = _; rw [List.size_toArray]; exact key_size _ (Sha.digest_length B)
  have HOLD : Hid ((Array.replicate 32 (Value.int .u8 0)).size = (k8 (Sha.digest B)).toArray.size) := by unfold Hid; simp only [Array.size_replicate, List.size_toArray, k8_length]; exact (Sha.digest_length B).symm
  -- the three calls, as one fact on the world in which they begin
  have HR : Hid (∀ wx : World, wx = w.alloc (.cells (Array.replicate 32 (.int .u8 0)) 26) → Calls Tryd.prog 16 #[] wx fun e w1 => e = .returned (.pointer (some ⟨w.heap.size + 1, 0, none⟩)) ∧
      Hid (Calls Tryd.prog 14 #[.pointer (some ⟨w.heap.size + 1, 0, none⟩), v] w1 fun e w2 => e = .returned (.int .i64 0) ∧
        Hid (Calls Tryd.prog 15 #[.pointer (some ⟨w.heap.size + 1, 0, none⟩)] w2 fun e w3 => e = .returned (.agg (k8 (Sha.digest B)).toArray) ∧ Hid (Below (w.heap.size + 1) wx w3)))) := by
    rintro wx hwx
    have hx : wx.heap.size = w.heap.size + 1 := by rw [hwx]; simp
    have hcx : ∀ s o, s < w.heap.size → wx.cell? ⟨s, o, none⟩ = w.cell? ⟨s, o, none⟩ := fun s o hs => by rw [hwx]; exact World.cell?_alloc_lt _ _ _ hs
    clear hwx
    refine (new_raw wx).mono ?_
    rintro e w1 ⟨he, rfl⟩
    rw [hx] at he
    refine ⟨he, ?_⟩
    have hn := hsh_new wx
    have hb1 : Below wx.heap.size wx (wx.alloc (.cells ((newCells (.pointer none)).setIfInBounds 0 (.pointer (some ⟨wx.heap.size, 0, none⟩))) 49)) := (Below.refl _ _).alloc (Nat.le_refl _) _
    generalize wx.alloc (.cells ((newCells (.pointer none)).setIfInBounds 0 (.pointer (some ⟨wx.heap.size, 0, none⟩))) 49) = w1 at *
    have hsz := hb1.size
    rw [hx] at hb1 hn hsz
    have hg1 : ∀ j, j < 64 → w1.cell? ⟨0, j, none⟩ = some (.int .u32 (Sha.kk j)) := fun j hj => (hb1.cell (by show 0 < _; omega)).trans ((hcx 0 j h0w).trans (HG.out j hj))
    refine (write_any (w.heap.size + 1) [] B _ v w1 hn (by simp) HBB.out (by omega) (HV.out.mono (by omega) (fun s hs _ => by omega) (fun s o hs _ => (hb1.cell (by show s < _; omega)).trans (hcx s o hs))) (by simpa using hl) hg1).mono ?_
    rintro e w2 ⟨he2, hg2, C2, hs2⟩
    refine ⟨he2, ?_⟩
    have hb2 : Below (w.heap.size + 1) wx w2 := below_of_gb hb1 hg2 (Nat.le_refl _) hsz
    refine (sum_first (w.heap.size + 1) _ C2 w2 hs2 (by simpa using HBB.out) (by omega) (by simpa using hl) (fun j hj => (hb2.cell (by show 0 < _; omega)).trans ((hcx 0 j h0w).trans (HG.out j hj)))).mono ?_
    rintro e w3 ⟨he3, hg3, -⟩
    exact ⟨he3, below_of_gb hb2 hg3 (Nat.le_refl _) (by have := hg2.size; omega)⟩
  clear HV
  go_enter Tryd.func10, Tryd.ntmps10
  go_wp2_with fail
  refine (HR.out _ rfl).mono ?_
  rintro e w1 ⟨rfl, h1⟩
  go_wp2_with fail
  refine h1.out.mono ?_
  rintro e w2 ⟨rfl, h2⟩
  go_wp2_with fail
  refine h2.out.mono ?_
  rintro e w3 ⟨rfl, h3⟩
  clear h1 h2 HR
  have HB3 : Hid (Below w.heap.size w w3) := ((Below.refl _ _).alloc (Nat.le_refl _) _).trans (h3.out.mono (by simp))
  have HR3 : Hid (w3.heap[w.heap.size]? = some (.cells (Array.replicate 32 (.int .u8 0)) 26 (0, 0))) := (h3.out.block _ (by simp)).trans (heap_alloc_new _ _)
  clear h3
  go_wp2_with (refine wpList_store_row rfl 26 _ _ rfl w.heap.size ((k8 (Sha.digest B)).toArray) rfl rfl 26 _ HR3.out HKS.out HOLD.out (all_oneCell_toArray (k8_one _)) ?_)
  exact bodyPost_ret (v := .agg (k8 (Sha.digest B)).toArray) (results_cell_row (p := 2) (ty := 26) rfl _ _ w.heap.size 26 _ (0, 0) _ rfl (setRow_heap _ _ _ _ _ _ HR3.out) Tryd.underlying26 rfl HKS.out) rfl
    ⟨rfl, HB3.out.trans ⟨rfl, rfl, rfl, by simp [World.setRow], fun k hk => setRow_other _ _ _ _ (by omega)⟩⟩
end Go.Proofs.YtodahmmebikddaaDoor
