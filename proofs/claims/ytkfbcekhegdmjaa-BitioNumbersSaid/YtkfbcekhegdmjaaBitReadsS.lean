/- The readers of the law BitioReads, both. -/
import Derived.Test.YtkfbcekhegdmjaaBitRefR
import Derived.Test.YtkfbcekhegdmjaaBitPieces
import Derived.Test.YtkfbcekhegdmjaaKitOver
namespace Go.Proofs.Ytkfbcekhegdmjaa
open Go.RowKit Go

/-- both readers, of the same bytes -/
structure BR (w0 w : World) (a : Option Addr) (cap L V gr G p gd q : Nat) : Prop where
  bel : Below w0.heap.size w0 w
  rd : Rd w gr p L V G
  dr : w.heap[gd]? = some (.cells #[.slice a L cap, .int .i64 (q : Nat)] 47 (0, 0))
  by_ : BytesIn w0 (.slice a L cap) (Bit.by V L) (fun _ => True)
  lr : w0.heap.size ≤ gr
  ld : w0.heap.size ≤ gd
  qle : q ≤ 8 * L
theorem BR.ne {w0 w : World} {a : Option Addr} {cap L V gr G p gd q : Nat} (h : BR w0 w a cap L V gr G p gd q) : gr ≠ gd ∧ G ≠ gd := by
  refine ⟨fun e => ?_, fun e => ?_⟩
  · have := h.rd.row.symm.trans (e ▸ h.dr)
    injection this with e1
    injection e1 with _ e2
    exact absurd e2 (by decide)
  · have := h.rd.byt.symm.trans (e ▸ h.dr)
    injection this with e1
    injection e1 with _ e2
    exact absurd e2 (by decide)
theorem BR.doc {w0 w : World} {a : Option Addr} {cap L V gr G p gd q : Nat} (h : BR w0 w a cap L V gr G p gd q) : DR w gd q L V a cap :=
  ⟨h.dr, h.by_.mono h.bel.size (fun s hs _ => by have := h.ld; omega) (fun s o hs _ => h.bel.cell (by exact hs)), h.qle⟩
theorem BR.drawn {w0 w w' : World} {a : Option Addr} {cap L V gr G p gd q : Nat} (h : BR w0 w a cap L V gr G p gd q) (hd : Drawn w w') : BR w0 w' a cap L V gr G p gd q :=
  ⟨h.bel.trans (hd.below _), h.rd.drawn hd, by rw [hd.heap]; exact h.dr, h.by_, h.lr, h.ld, h.qle⟩
theorem BR.step {w0 w w' : World} {a : Option Addr} {cap L V gr G p p' gd q : Nat} (h : BR w0 w a cap L V gr G p gd q) (h1 : Rd w' gr p' L V G) (h2 : w.grownBy w' (some gr)) : BR w0 w' a cap L V gr G p' gd q :=
  ⟨h.bel.grown h2 h.bel.size (fun k hk => by cases hk; exact h.lr), h1, (gb_heap h2 (lt_of_block h.dr) (fun e => h.ne.1 e.symm)).trans h.dr, h.by_, h.lr, h.ld, h.qle⟩
theorem BR.dstep {w0 w w' : World} {a : Option Addr} {cap L V gr G p q' gd q : Nat} (h : BR w0 w a cap L V gr G p gd q) (h1 : DR w' gd q' L V a cap) (h2 : w.grownBy w' (some gd)) : BR w0 w' a cap L V gr G p gd q' :=
  ⟨h.bel.grown h2 h.bel.size (fun k hk => by cases hk; exact h.ld), h.rd.keep (gb_heap h2 (lt_of_block h.rd.row) h.ne.1) (gb_heap h2 (lt_of_block h.rd.byt) h.ne.2), h1.row, h.by_, h.lr, h.ld, h1.le⟩
theorem BR.ralign {w0 w : World} {a : Option Addr} {cap L V gr G p gd q : Nat} (h : BR w0 w a cap L V gr G p gd q) (hL : L ≤ 1000000000) :
    Calls Try.prog 25 #[.pointer (some ⟨gr, 0, none⟩)] w fun e w' => e = .returned (.tuple #[]) ∧ BR w0 w' a cap L V gr G (p + (8 - p % 8) % 8) gd q :=
  (ralign_any gr p L V G w h.rd hL).mono fun _ _ ⟨he, h1, h2⟩ => ⟨he, h.step h1 h2⟩
theorem BR.rget {w0 w : World} {a : Option Addr} {cap L V gr G p gd q : Nat} (h : BR w0 w a cap L V gr G p gd q) (n : Nat) (hL : L ≤ 1000000000) (hn : n ≤ 32) (hl : p + n ≤ 8 * L) :
    Calls Try.prog 27 #[.pointer (some ⟨gr, 0, none⟩), .int .i64 (n : Int)] w fun e w' => e = .returned (.tuple #[.int .u32 ((V / 2 ^ p % 2 ^ n : Nat) : Int), .bool true]) ∧ BR w0 w' a cap L V gr G (p + n) gd q :=
  (get_any gr p L V G n w h.rd hL hn hl).mono fun _ _ ⟨he, h1, h2⟩ => ⟨he, h.step h1 h2⟩
theorem BR.rbad {w0 w : World} {a : Option Addr} {cap L V gr G p gd q : Nat} (h : BR w0 w a cap L V gr G p gd q) (n : Int) (hL : L ≤ 1000000000) (hn : n < 0 ∨ 32 < n ∨ (8 * L - p : Nat) < n) :
    Calls Try.prog 27 #[.pointer (some ⟨gr, 0, none⟩), .int .i64 n] w fun e w' => e = .returned (.tuple #[.int .u32 0, .bool false]) ∧ BR w0 w' a cap L V gr G p gd q :=
  (get_bad gr p L V G n w h.rd hL hn).mono fun _ _ ⟨he, hd⟩ => ⟨he, h.drawn hd⟩
theorem BR.dalign {w0 w : World} {a : Option Addr} {cap L V gr G p gd q : Nat} (h : BR w0 w a cap L V gr G p gd q) (hL : L ≤ 1000000000) :
    Calls Try.prog 26 #[.pointer (some ⟨gd, 0, none⟩)] w fun e w' => e = .returned (.tuple #[]) ∧ BR w0 w' a cap L V gr G p gd (q + (8 - q % 8) % 8) :=
  (dalign_any gd q L V a cap w h.doc hL).mono fun _ _ ⟨he, h1, h2⟩ => ⟨he, h.dstep h1 h2⟩
theorem BR.dget {w0 w : World} {a : Option Addr} {cap L V gr G p gd q : Nat} (h : BR w0 w a cap L V gr G p gd q) (n : Nat) (hL : L ≤ 1000000000) (hn : n ≤ 32) (hl : q + n ≤ 8 * L) :
    Calls Try.prog 28 #[.pointer (some ⟨gd, 0, none⟩), .int .i64 (n : Int)] w fun e w' => e = .returned (.tuple #[.int .u32 ((V / 2 ^ q % 2 ^ n : Nat) : Int), .bool true]) ∧ BR w0 w' a cap L V gr G p gd (q + n) :=
  (dget_any gd q L V n a cap w h.doc hL hn hl).mono fun _ _ ⟨he, h1, h2⟩ => ⟨he, h.dstep h1 h2⟩
theorem BR.dbad {w0 w : World} {a : Option Addr} {cap L V gr G p gd q : Nat} (h : BR w0 w a cap L V gr G p gd q) (n : Int) (hL : L ≤ 1000000000) (hn : n < 0 ∨ 32 < n ∨ (8 * L - q : Nat) < n) :
    Calls Try.prog 28 #[.pointer (some ⟨gd, 0, none⟩), .int .i64 n] w fun e w' => e = .returned (.tuple #[.int .u32 0, .bool false]) ∧ BR w0 w' a cap L V gr G p gd q :=
  (dget_bad gd q L V a cap n w h.doc hL hn).mono fun _ _ ⟨he, hd⟩ => ⟨he, h.drawn hd⟩
/-- both get: whatever is asked, they answer alike, and stand alike -/
theorem BR.both {w0 : World} {a : Option Addr} {cap L V gr G p gd : Nat} (n : Int) (hL : L ≤ 1000000000) (h : p ≤ 8 * L) :
    ∃ (x : Int) (ok : Bool) (p' : Nat), (∀ w, BR w0 w a cap L V gr G p gd p → Calls Try.prog 27 #[.pointer (some ⟨gr, 0, none⟩), .int .i64 n] w fun e w' => e = .returned (.tuple #[.int .u32 x, .bool ok]) ∧ BR w0 w' a cap L V gr G p' gd p) ∧
      (∀ w, BR w0 w a cap L V gr G p' gd p → Calls Try.prog 28 #[.pointer (some ⟨gd, 0, none⟩), .int .i64 n] w fun e w' => e = .returned (.tuple #[.int .u32 x, .bool ok]) ∧ BR w0 w' a cap L V gr G p' gd p') ∧ p' ≤ 8 * L := by
  by_cases hn : n < 0 ∨ 32 < n ∨ (8 * L - p : Nat) < n
  · exact ⟨0, false, p, fun w hw => hw.rbad n hL hn, fun w hw => hw.dbad n hL hn, h⟩
  · obtain ⟨m, rfl⟩ : ∃ m : Nat, n = m := ⟨n.toNat, by omega⟩
    exact ⟨_, true, p + m, fun w hw => hw.rget m hL (by omega) (by omega), fun w hw => hw.dget m hL (by omega) (by omega), by omega⟩
end Go.Proofs.Ytkfbcekhegdmjaa
