/- The walk of the laws' awake: the chapter's examples are as they must be. -/
import Derived.Test.YtdgkpddklakabaaCrcRef
namespace Go.Proofs.Ytdgkpddklakabaa
open Go.RowKit Go

def Crc.nine : List Int := [49, 50, 51, 52, 53, 54, 55, 56, 57]
theorem Crc.sum_nine : Crc.sum Crc.cas 0 Crc.nine = 3808858755 := by decide +kernel
theorem Crc.sum_nil : Crc.sum Crc.cas 0 [] = 0 := by decide +kernel
theorem Crc.sum_one : Crc.sum Crc.cas 0 [0] = 1383945041 := by decide +kernel
theorem Crc.sum_other : Crc.sum 3988292384 0 Crc.nine = 3421780262 := by decide +kernel
theorem Crc.nine_bd : ∀ x ∈ Crc.nine, 0 ≤ x ∧ x < 256 := by decide

/-- a block of nine bytes lies at g -/
def Nine (w : World) (g : Nat) : Prop := ∃ fr, w.heap[g]? = some (.cells #[.int .u8 49, .int .u8 50, .int .u8 51, .int .u8 52, .int .u8 53, .int .u8 54, .int .u8 55, .int .u8 56, .int .u8 57] 5 fr)
theorem Nine.bytes {w : World} {g : Nat} (h : Nine w g) : BytesIn w (.slice (some ⟨g, 0, none⟩) 9 9) Crc.nine (fun s => s = g) := by
  obtain ⟨fr, h⟩ := h
  refine ⟨_, 9, rfl, by simp [Crc.nine], by omega, fun _ => ⟨g, 0, rfl, rfl, lt_of_block h, fun j hj => ?_⟩⟩
  rw [cell_of_row _ _ _ _ _ _ h]
  simp only [Crc.nine, List.length_cons, List.length_nil, Nat.zero_add] at hj
  obtain rfl | rfl | rfl | rfl | rfl | rfl | rfl | rfl | rfl : j = 0 ∨ j = 1 ∨ j = 2 ∨ j = 3 ∨ j = 4 ∨ j = 5 ∨ j = 6 ∨ j = 7 ∨ j = 8 := by omega
  all_goals rfl

set_option maxRecDepth 100000 in
set_option maxHeartbeats 1000000 in
theorem awake_any (w : World) :
    Calls Try.prog 9 #[] w fun e w' => e = .returned (.bool true) ∧ Below w.heap.size w w' := by
  have HS1 : Hid (∀ (fr : Nat × Nat) (wx : World), wx = w.alloc (.cells #[.int .u8 49, .int .u8 50, .int .u8 51, .int .u8 52, .int .u8 53, .int .u8 54, .int .u8 55, .int .u8 56, .int .u8 57] 5 fr) →
      Calls Try.prog 11 #[.slice (some ⟨w.heap.size, 0, none⟩) 9 9] wx fun e w' => e = .returned (.int .u32 3808858755) ∧ Hid (Below w.heap.size w w' ∧ Nine w' w.heap.size)) := by
    rintro fr wx rfl
    have hn : Nine (w.alloc (.cells #[.int .u8 49, .int .u8 50, .int .u8 51, .int .u8 52, .int .u8 53, .int .u8 54, .int .u8 55, .int .u8 56, .int .u8 57] 5 fr)) w.heap.size := ⟨fr, heap_alloc_new _ _⟩
    refine (csum_any Crc.nine _ _ Crc.nine_bd (hn.bytes.mono (Nat.le_refl _) (fun _ _ _ => trivial) (fun _ _ _ _ => rfl))).mono ?_
    rintro e w' ⟨he, hb⟩
    rw [Crc.sum_nine] at he
    refine ⟨he, ((Below.refl _ _).alloc (Nat.le_refl _) _).trans (hb.mono (by simp)), fr, (hb.block _ (by simp)).trans (heap_alloc_new _ _)⟩
  have HS2 : Hid (∀ wx : World, Calls Try.prog 11 #[.slice none 0 0] wx fun e w' => e = .returned (.int .u32 0) ∧ Hid (Below wx.heap.size wx w')) := by
    intro wx
    have := csum_any [] _ wx (by simp) (bytesIn_nil _ _)
    rw [Crc.sum_nil] at this
    exact this
  have HS3 : Hid (∀ wx wy : World, wy = wx.alloc (.cells #[.int .u8 0] 5) → Calls Try.prog 11 #[.slice (some ⟨wx.heap.size, 0, none⟩) 1 1] wy fun e w' => e = .returned (.int .u32 1383945041) ∧ Hid (Below wx.heap.size wx w')) := by
    rintro wx wy rfl
    have := csum_any [0] _ _ (by decide) (one_bytes wx 0)
    rw [Crc.sum_one] at this
    exact this.mono fun e w' ⟨he, hb⟩ => ⟨he, ((Below.refl _ _).alloc (Nat.le_refl _) _).trans (hb.mono (by simp))⟩
  have HS4 : Hid (∀ wx : World, Nine wx w.heap.size → Calls Try.prog 16 #[.int .u32 3988292384] wx fun e wy => e = .returned (.pointer (some ⟨wx.heap.size, 0, none⟩)) ∧
      Hid (Calls Try.prog 18 #[.pointer (some ⟨wx.heap.size, 0, none⟩), .int .u32 0, .slice (some ⟨w.heap.size, 0, none⟩) 9 9] wy fun e w' => e = .returned (.int .u32 3421780262) ∧ Hid (Below wx.heap.size wx w'))) := by
    intro wx hn
    refine (new_raw 3988292384 wx).mono ?_
    rintro e wy ⟨he, rfl⟩
    refine ⟨he, ?_⟩
    have hlt : w.heap.size < wx.heap.size := by obtain ⟨fr, h⟩ := hn; exact lt_of_block h
    refine (add_any wx.heap.size 3988292384 0 Crc.nine _ _ (by decide) (by decide) (by decide) (by decide) Crc.nine_bd (hn.bytes.mono (by simp) (fun s _ h => by omega) (fun s o hs _ => World.cell?_alloc_lt _ _ _ hs)) (.inl ⟨_, raw_new _ _⟩)).mono ?_
    rintro e w' ⟨he, hf⟩
    rw [Crc.sum_other] at he
    exact ⟨he, hf.below rfl⟩
  have hcv := fun (wx : World) (C : Array Value) (n c : Nat) => Lib.run_convert_bytes_const (P := Try.prog) wx 23 5 C n c Try.underlying23 Try.underlying5
  go_enter Try.func9, Try.ntmps9
  go_wp2_with fail
  refine (HS1.out _ _ rfl).mono ?_
  rintro e w1 ⟨rfl, hb1⟩
  clear HS1
  go_wp2_with fail
  refine (HS2.out _).mono ?_
  rintro e w2 ⟨rfl, hb2⟩
  have HA2 : Hid (Below w.heap.size w w2 ∧ Nine w2 w.heap.size) := by
    obtain ⟨h1, fr, h2⟩ := hb1.out
    exact ⟨h1.trans (hb2.out.mono h1.size), fr, (hb2.out.block _ (lt_of_block h2)).trans h2⟩
  clear HS2 hb1 hb2
  go_wp2_with fail
  refine (HS3.out _ _ rfl).mono ?_
  rintro e w3 ⟨rfl, hb3⟩
  have HA3 : Hid (Below w.heap.size w w3 ∧ Nine w3 w.heap.size) := by
    obtain ⟨h1, fr, h2⟩ := HA2.out
    exact ⟨h1.trans (hb3.out.mono h1.size), fr, (hb3.out.block _ (lt_of_block h2)).trans h2⟩
  clear HS3 HA2 hb3
  go_wp2_with fail
  refine (HS4.out _ HA3.out.2).mono ?_
  rintro e w4 ⟨rfl, h4⟩
  clear HS4
  go_wp2_with fail
  refine h4.out.mono ?_
  rintro e w5 ⟨rfl, hb5⟩
  have HA5 : Hid (Below w.heap.size w w5) := HA3.out.1.trans (hb5.out.mono HA3.out.1.size)
  clear h4 HA3 hb5
  go_wp2
  go_ret
  exact ⟨rfl, HA5.out⟩
end Go.Proofs.Ytdgkpddklakabaa
