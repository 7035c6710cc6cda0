/- Laid together: IwDyn IwOpen DfNum DfRev DfRvW DfCode. -/
import Derived.Test.YtenkkononchgmaaGreatDoorDkB20
import Derived.Test.YtenkkononchgmaaGreatDoorDkB23
import Derived.Deep.RegionWith

namespace Go.Proofs.YtenkkononchgmaaGreatDoor
open Go.RowKit Go
open Lz (Pc)

theorem Inf.lx_small : ∀ k, k < 29 → Inf.lxs.getD k 0 ≤ 5 ∧ Inf.lbs.getD k 0 ≤ 258 := by decide
theorem Inf.dx_small : ∀ k, k < 30 → Inf.dxs.getD k 0 ≤ 13 ∧ Inf.dbs.getD k 0 ≤ 32768 := by decide

end Go.Proofs.YtenkkononchgmaaGreatDoor

/- The walk of the law's dynamic. -/
namespace Go.Proofs.YtenkkononchgmaaGreatDoor
open Go.RowKit Go
open Lz (Pc)

theorem Huf.cnt_congr {L L' : Nat → Int} : ∀ m, (∀ i, i < m → L i = L' i) → ∀ k, Huf.cnt L m k = Huf.cnt L' m k
 | 0, _, _ => rfl
 | m + 1, h, k => by rw [Huf.cnt, Huf.cnt, Huf.cnt_congr m (fun i hi => h i (by omega)) k, h m (by omega)]
theorem Huf.Makes.congr {L L' : Nat → Int} {n : Nat} (h : Huf.Makes L n) (e : ∀ i, i < n → L i = L' i) : Huf.Makes L' n := by
 refine ⟨⟨h.1.1, fun i hi => by rw [← e i hi]; exact h.1.2 i hi⟩, ?_⟩
 rw [← show Huf.cnt L n = Huf.cnt L' n from funext fun k => Huf.cnt_congr n e k]
 exact h.2
def lrow (n : Nat) (f : Nat → Nat) : List Nat := (List.range n).map f
theorem lrow_length (n : Nat) (f : Nat → Nat) : (lrow n f).length = n := by simp [lrow]
theorem lrow_get {n j : Nat} (f : Nat → Nat) (h : j < n) : (lrow n f).getD j 0 = f j := by
 rw [List.getD_eq_getElem?_getD, lrow, List.getElem?_map, List.getElem?_range h]; rfl
theorem lrow_ki (n : Nat) (f : Nat → Nat) : ki n (fun i => (f i : Nat)) = (nv (lrow n f)).toArray := by simp [ki, nv, lrow]
theorem lrow_mk {n : Nat} {f : Nat → Nat} (h : Huf.Makes (fun i => (f i : Nat)) n) : Inf.Mk (lrow n f) := by
 unfold Inf.Mk
 rw [lrow_length]
 exact h.congr fun i hi => by simp only [Inf.lf, lrow_get f hi]
theorem Inf.mk_le {l : List Nat} (h : Inf.Mk l) {j : Nat} (hj : j < l.length) : l.getD j 0 ≤ 15 := by
 have := (h.1.2 j hj).2
 simp only [Inf.lf] at this
 omega
theorem Iw.set_new {w0 w wr : World} {g n V G : Nat} {c : Array Value} (h : Iw w0 w wr g n V) (h0 : w0.heap.size ≤ w.heap.size) (hG : w.heap.size ≤ G) (hr : wr.heap[G]? = some (.cells c 3 (0, 0))) (i : Nat) (v : Value) : Iw w0 w (wr.setCell ⟨G, i, none⟩ v) g n V := by
 obtain ⟨u, hu⟩ := h.wr
 refine ⟨h.bel.setCell (show w0.heap.size ≤ G from Nat.le_trans h0 hG) _, h.lo, ⟨u, hu.other (heap_setCell_other _ _ _ _ (Inf.ne_ty hu.row hr (by decide))) (fun k hk => ?_)⟩, ?_⟩
 · obtain ⟨_, cur, hc⟩ := Inf.own_type hu.own hk
   exact heap_setCell_other _ _ _ _ (Inf.ne_ty hc hr (by decide))
 · exact ⟨h.kp.os, h.kp.tape, h.kp.output, by simpa using h.kp.size, fun k o h1 h2 h3 => (heap_setCell_other _ _ _ _ (show k ≠ G from by have := Inf.lt_some h1; omega)).trans (h.kp.blk k o h1 h2 h3)⟩
end Go.Proofs.YtenkkononchgmaaGreatDoor

namespace Go.Proofs.YtenkkononchgmaaGreatDoor
open Go.RowKit Go
open Lz (Pc)

theorem walign_any (g n V : Nat) (v : Value) (w : World) (h : Wr w g n V v) (hn : n ≤ 1000000000) :
   Calls Tryz.prog 41 #[.pointer (some ⟨g, 0, none⟩)] w fun e w' => e = .returned (.tuple #[]) ∧
     ∃ v', Wr w' g (n + (8 - n % 8) % 8) V v' ∧ Fro w w' g v.ownBlock ∧ ∀ k, v'.ownBlock = some k → k < w.heap.size → v.ownBlock = some k := by
 have HPUT : Hid (∀ wx, Drawn w wx → Calls Tryz.prog 89 #[.pointer (some ⟨g, 0, none⟩), .int .u32 0, .int .i64 (((8 - n % 8) % 8 : Nat) : Int)] wx fun e w' => e = .returned (.bool true) ∧
     Hid (∃ v', Wr w' g (n + (8 - n % 8) % 8) V v' ∧ Fro w w' g v.ownBlock ∧ ∀ k, v'.ownBlock = some k → k < w.heap.size → v.ownBlock = some k)) := by
   intro wx hd
   refine (put_any g n V 0 ((8 - n % 8) % 8) v wx (h.drawn hd) (by omega) (by omega) hn).mono ?_
   rintro e w' ⟨he, v', h1, h2, h3⟩
   rw [Nat.zero_mod, Nat.zero_mul, Nat.add_zero] at h1
   refine ⟨he, v', h1, ?_, ?_⟩
   · obtain ⟨m, rfl⟩ := hd
     exact ⟨h2.os, h2.tape, h2.output, h2.size, h2.block⟩
   · obtain ⟨m, rfl⟩ := hd
     exact h3
 have HLEN := Lib.hid (wlen_any g n V v w h hn)
 clear h
 have HTW := Lib.hid (fun wx => toWhole_any n wx (by omega))
 clear hn
 generalize (8 - n % 8) % 8 = q at *
 go_enter Tryz.func41, Tryz.ntmps41
 go_wp2_with fail
 refine HLEN.out.mono ?_
 rintro e w1 ⟨rfl, hd⟩
 have HD := Lib.hid hd; clear hd
 go_wp2_with fail
 refine (HTW.out _).mono ?_
 rintro e w' ⟨rfl, rfl⟩
 go_wp2_with fail
 refine (HPUT.out _ HD.out).mono ?_
 rintro e w2 ⟨rfl, hp⟩
 go_wp2
 go_returns
 exact ⟨rfl, hp.out⟩

theorem Lz.ex_ok : ∀ (l : List Pc) (s t : List Int), Lz.ex s l = some t → PcWf l → PcOk l
 | [], _, _, _, _ => fun p hp => by cases hp
 | q :: r, s, t, h, hw => by
   rw [Lz.ex] at h
   split at h
   · rename_i hf
     have h1 := Lz.ex_ok r _ t h (fun p hp => hw p (List.mem_cons_of_mem _ hp))
     intro p hp
     rcases List.mem_cons.1 hp with e | e
     · subst e
       rcases hf.1 with c | c
       · exact .inl ⟨c, (hw p (List.mem_cons_self ..)).1⟩
       · exact .inr c
     · exact h1 p e
   · cases h
theorem Inf.fixd_min : ∀ i, i < 32 → 1 ≤ Inf.fixd.getD i 0 := of_decide_eq_true (by kernel_rfl)
theorem Bit.val_app : ∀ (A B : List Int), Bit.val (A ++ B) = Bit.val A + 2 ^ (8 * A.length) * Bit.val B
 | [], B => by simp [Bit.val]
 | x :: A, B => by
   have e : (2 : Nat) ^ (8 * (A.length + 1)) = 256 * 2 ^ (8 * A.length) := by rw [show 8 * (A.length + 1) = 8 + 8 * A.length by omega, Nat.pow_add]
   rw [List.cons_append, Bit.val, Bit.val, Bit.val_app A B, List.length_cons, e, Nat.mul_add, Nat.mul_assoc, Nat.add_assoc]
theorem Inf.val_more {V n : Nat} (hV : V < 2 ^ n) (M : List Int) : Bit.val (Bit.by V ((n + 7) / 8) ++ M) % 2 ^ n = V := by
 have h8 : n ≤ 8 * ((n + 7) / 8) := by omega
 have hlt : V < 2 ^ (8 * ((n + 7) / 8)) := Nat.lt_of_lt_of_le hV (Nat.pow_le_pow_right (by omega) h8)
 rw [Bit.val_app, Bit.val_by _ _ hlt, Bit.by_length]
 obtain ⟨d, hd⟩ : ∃ d, 8 * ((n + 7) / 8) = n + d := ⟨8 * ((n + 7) / 8) - n, by omega⟩
 rw [hd, Nat.pow_add, Nat.mul_assoc, Nat.add_mul_mod_self_left, Nat.mod_eq_of_lt hV]
end Go.Proofs.YtenkkononchgmaaGreatDoor

namespace Go.Proofs.YtenkkononchgmaaGreatDoor
open Go.RowKit Go
open Lz (Pc)

abbrev sv (g : Nat) : Value := .agg #[.pointer (some ⟨g, 0, none⟩)]
theorem Iw.putm {w0 w wr : World} {g n V : Nat} (h : Iw w0 w wr g n V) (x k : Nat) (hx : x < 4294967296) (hk : k ≤ 32) (hn : n ≤ 1000000000) :
   Calls Tryz.prog 89 #[.pointer (some ⟨g, 0, none⟩), .int .u32 (x : Int), .int .i64 (k : Int)] wr fun e w' => e = .returned (.bool true) ∧ Iw w0 w w' g (n + k) (V + x % 2 ^ k * 2 ^ n) ∧ Kp g wr w' := by
 obtain ⟨v, hv⟩ := h.wr
 refine (put_any g n V x k v wr hv hx hk hn).mono ?_
 rintro e w' ⟨he, v', h1, h2, _⟩
 have hkp := h2.kp hv
 exact ⟨he, ⟨h2.below h.bel h.bel.size h.lo (hv.lo h.lo), h.lo, ⟨v', h1⟩, h.kp.trans hkp⟩, hkp⟩
theorem number_any (v : Int) (y k : Nat) (w0 w wr : World) (g n V : Nat) (h : Iw w0 w wr g n V) (hy : IntKind.u32.wrap v = (y : Int)) (hy6 : y < 4294967296) (hk : k ≤ 32) (hn : n ≤ 1000000000) :
   Calls Tryz.prog 42 #[sv g, .int .i64 v, .int .i64 (k : Int)] wr fun e w' => e = .returned (.tuple #[]) ∧ Iw w0 w w' g (n + k) (V + y % 2 ^ k * 2 ^ n) ∧ Kp g wr w' := by
 have hb : Below wr.heap.size wr (wr.alloc (.cells #[.pointer (some ⟨g, 0, none⟩)] 50)) := (Below.refl _ _).alloc (Nat.le_refl _) _
 have H1 := Lib.hid (h.later hb)
 have HK : Hid (Kp g wr (wr.alloc (.cells #[.pointer (some ⟨g, 0, none⟩)] 50))) := Kp.below hb
 have HP := Lib.hid (H1.out.putm y k hy6 hk hn)
 clear h hb
 go_enter Tryz.func42, Tryz.ntmps42
 go_wp2_with fail
 refine HP.out.mono ?_
 rintro e w5 ⟨rfl, g1, g2⟩
 have G1 := Lib.hid g1
 have G2 := Lib.hid (HK.out.trans g2)
 clear g1 g2 HP
 go_wp2
 go_returns
 exact ⟨rfl, G1.out, G2.out⟩
theorem number_nat (x k : Nat) (w0 w wr : World) (g n V : Nat) (h : Iw w0 w wr g n V) (hx : x < 2 ^ k) (hx6 : x < 4294967296) (hk : k ≤ 32) (hn : n ≤ 1000000000) :
   Calls Tryz.prog 42 #[sv g, .int .i64 (x : Int), .int .i64 (k : Int)] wr fun e w' => e = .returned (.tuple #[]) ∧ Iw w0 w w' g (n + k) (V + x * 2 ^ n) ∧ Kp g wr w' := by
 have := number_any (x : Int) x k w0 w wr g n V h (by rw [IntKind.wrap_u32]; omega) hx6 hk hn
 rwa [Nat.mod_eq_of_lt hx] at this
end Go.Proofs.YtenkkononchgmaaGreatDoor

namespace Go.Proofs.YtenkkononchgmaaGreatDoor
open Go.RowKit Go

def Inf.rv (c : Nat) : Nat → Nat
 | 0 => 0
 | d + 1 => c / 2 ^ d % 2 + 2 * Inf.rv c d
theorem Inf.rv_lt (c : Nat) : ∀ d, Inf.rv c d < 2 ^ d
 | 0 => by simp [Inf.rv]
 | d + 1 => by
   have := Inf.rv_lt c d
   rw [Inf.rv, Nat.pow_succ]
   omega
theorem Inf.rv_bit (c : Nat) : ∀ d k, k < d → Inf.rv c d / 2 ^ k % 2 = c / 2 ^ (d - 1 - k) % 2
 | 0, _, h => by omega
 | d + 1, 0, _ => by
   rw [Inf.rv, Nat.pow_zero, Nat.div_one, show d + 1 - 1 - 0 = d by omega]
   omega
 | d + 1, k + 1, h => by
   have := Inf.rv_bit c d k (by omega)
   rw [Inf.rv, Nat.pow_succ', ← Nat.div_div_eq_div_mul, show (c / 2 ^ d % 2 + 2 * Inf.rv c d) / 2 = Inf.rv c d by omega, this, show d + 1 - 1 - (k + 1) = d - 1 - k by omega]
theorem Inf.rv_cat (c d : Nat) : ∀ e, Inf.rv c (d + e) = Inf.rv (c / 2 ^ d) e + 2 ^ e * Inf.rv c d
 | 0 => by simp [Inf.rv]
 | e + 1 => by
   rw [← Nat.add_assoc, Inf.rv, Inf.rv, Inf.rv_cat c d e, Nat.pow_add 2 d e, ← Nat.div_div_eq_div_mul, Nat.pow_succ', Nat.mul_add, ← Nat.mul_assoc]
   omega
theorem Inf.rv_mod (c m : Nat) : ∀ d, d ≤ m → Inf.rv (c % 2 ^ m) d = Inf.rv c d
 | 0, _ => rfl
 | d + 1, h => by
   have e := Bit.mid c d 1 m (by omega)
   rw [Nat.pow_one] at e
   rw [Inf.rv, Inf.rv, Inf.rv_mod c m d (by omega), e]
theorem Inf.rv_up {c d : Nat} (h : c < 2 ^ d) (e : Nat) : Inf.rv c (d + e) = Inf.rv c d * 2 ^ e := by
 have z : ∀ k, Inf.rv 0 k = 0 := fun k => by
   induction k with
   | zero => rfl
   | succ k ih => rw [Inf.rv, ih, Nat.zero_div]
 rw [Inf.rv_cat, Nat.div_eq_of_lt h, z, Nat.zero_add, Nat.mul_comm]
theorem Inf.rv_16 (x : Nat) : Inf.rv x 16 = Inf.rv (x / 256) 8 + 256 * Inf.rv (x % 256) 8 := by
 have h := Inf.rv_cat x 8 8
 rw [show (2 : Nat) ^ 8 = 256 from rfl] at h
 have e := Inf.rv_mod x 8 8 (Nat.le_refl _)
 rw [show (2 : Nat) ^ 8 = 256 from rfl] at e
 rw [show 16 = 8 + 8 from rfl, h, e]
theorem Inf.vl_shift {V n x : Nat} (hV : V < 2 ^ n) : ∀ k, Huf.vl (V + x * 2 ^ n) n k = Huf.vl x 0 k
 | 0 => rfl
 | k + 1 => by
   rw [Huf.vl, Huf.vl, Inf.vl_shift hV k, Nat.zero_add, Nat.pow_add, ← Nat.div_div_eq_div_mul, Nat.add_mul_div_right _ _ (Nat.two_pow_pos _), Nat.div_eq_of_lt hV, Nat.zero_add]
theorem Inf.vl_rv (c d : Nat) : ∀ k, k ≤ d → Huf.vl (Inf.rv c d) 0 k = c / 2 ^ (d - k) % 2 ^ k
 | 0, _ => by rw [Huf.vl, Nat.pow_zero, Nat.mod_one]
 | k + 1, h => by
   rw [Huf.vl, Inf.vl_rv c d k (by omega), Nat.zero_add, Inf.rv_bit c d k (by omega)]
   obtain ⟨j, hj⟩ : ∃ j, d - (k + 1) = j := ⟨_, rfl⟩
   rw [show d - k = j + 1 by omega, show d - 1 - k = j by omega, hj, Nat.pow_succ 2 j, ← Nat.div_div_eq_div_mul, show (2 : Nat) ^ (k + 1) = 2 * 2 ^ k from Nat.pow_succ', Nat.mod_mul]
   omega
theorem Inf.vl_word {V n c d : Nat} (hV : V < 2 ^ n) (hc : c < 2 ^ d) : Huf.vl (V + Inf.rv c d * 2 ^ n) n d = c := by
 rw [Inf.vl_shift hV, Inf.vl_rv c d d (Nat.le_refl _), Nat.sub_self, Nat.pow_zero, Nat.div_one, Nat.mod_eq_of_lt hc]
theorem Inf.Sy.word {l : List Nat} (hm : Inf.Mk l) {s d n V : Nat} (hs : s < l.length) (hd : l.getD s 0 = d) (h0 : 0 < d) (hV : V < 2 ^ n) : Inf.Sy l s n V (n + d) (V + Inf.rv (Huf.code (Inf.lf l) l.length s) d * 2 ^ n) := by
 have hc := Inf.small hm hs (by omega)
 rw [hd] at hc
 exact Inf.Sy.of hm hs hd h0 (Inf.vl_word hV hc) (Inf.put_low hV) (Inf.put_lt hV (Inf.rv_lt _ _))
end Go.Proofs.YtenkkononchgmaaGreatDoor

namespace Go.Proofs.YtenkkononchgmaaGreatDoor
open Go.RowKit Go

theorem Inf.and16 (a : Nat) (ha : a < 65536) : bits BinOp.and IntKind.u16 (a : Int) 255 = ((a % 256 : Nat) : Int) := by
 have e : bits BinOp.and IntKind.u16 (a : Int) 255 = IntKind.u16.wrap (((BitVec.ofInt 16 (a : Int)) &&& (BitVec.ofInt 16 255)).toNat : Int) := rfl
 rw [e, BitVec.toNat_and, BitVec.toNat_ofInt]
 have e1 : ((a : Int) % ((2 ^ 16 : Nat) : Int)).toNat = a := by omega
 rw [e1, show (BitVec.ofInt 16 255).toNat = 2 ^ 8 - 1 from by decide, Nat.and_two_pow_sub_one_eq_mod, show (2 : Nat) ^ 8 = 256 from rfl]
 exact IntWalk.u16_in _ (by omega)
theorem Inf.or16 (a b : Nat) (ha : a < 256) (hb : b < 256) : bits BinOp.or IntKind.u16 (a : Int) ((b * 256 : Nat) : Int) = ((a + 256 * b : Nat) : Int) := by
 have e : bits BinOp.or IntKind.u16 (a : Int) ((b * 256 : Nat) : Int) = IntKind.u16.wrap (((BitVec.ofInt 16 (a : Int)) ||| (BitVec.ofInt 16 ((b * 256 : Nat) : Int))).toNat : Int) := rfl
 rw [e, BitVec.toNat_or, BitVec.toNat_ofInt, BitVec.toNat_ofInt]
 have e1 : ((a : Int) % ((2 ^ 16 : Nat) : Int)).toNat = a := by omega
 have e2 : (((b * 256 : Nat) : Int) % ((2 ^ 16 : Nat) : Int)).toNat = b * 256 := by omega
 have h := Bit.or_add a b 8 ha
 rw [show (2 : Nat) ^ 8 = 256 from rfl] at h
 rw [e1, e2, h, Nat.mul_comm b]
 exact IntWalk.u16_in _ (by omega)
theorem Inf.rv8_lt (i : Nat) : Inf.rv i 8 < 256 := Inf.rv_lt i 8

set_option maxHeartbeats 1000000 in
set_option maxRecDepth 100000 in
theorem reverse16_any (x : Nat) (hx : x < 65536) (w : World) :
   Calls Tryz.prog 93 #[.int .u16 (x : Int)] w fun e w' => e = .returned (.int .u16 ((Inf.rv x 16 : Nat) : Int)) ∧ Drawn w w' := by
 obtain ⟨p, hp⟩ : ∃ p, p = x / 256 := ⟨_, rfl⟩
 obtain ⟨q, hq⟩ : ∃ q, q = x % 256 := ⟨_, rfl⟩
 have hpI : (x : Int) / 256 = (p : Int) := by omega
 have hp8 : p < 256 := by omega
 have hq8 : q < 256 := by omega
 have hand := Inf.and16 x hx
 rw [← hq] at hand
 obtain ⟨a, ha⟩ : ∃ a, a = Inf.rv p 8 := ⟨_, rfl⟩
 obtain ⟨b, hb⟩ : ∃ b, b = Inf.rv q 8 := ⟨_, rfl⟩
 have ha8 : a < 256 := by rw [ha]; exact Inf.rv8_lt p
 have hb8 : b < 256 := by rw [hb]; exact Inf.rv8_lt q
 have hor := Inf.or16 a b ha8 hb8
 have HR : Hid (a + 256 * b = Inf.rv x 16) := by unfold Hid; rw [Inf.rv_16, ← hp, ← hq, ← ha, ← hb]
 have HOR : Hid (bits BinOp.or IntKind.u16 (a : Int) ((b : Int) * 256) = ((Inf.rv x 16 : Nat) : Int)) := by
   unfold Hid
   rw [show ((b : Int) * 256) = ((b * 256 : Nat) : Int) by omega, hor, HR.out]
 clear hor HR
 have hwa : IntKind.u16.wrap (a : Int) = (a : Int) := IntWalk.u16_in _ (by omega)
 have hwb : IntKind.u16.wrap (b : Int) = (b : Int) := IntWalk.u16_in _ (by omega)
 have hsh : IntKind.u16.wrap ((b : Int) * 256) = ((b * 256 : Nat) : Int) := by
   rw [show ((b : Int) * 256) = ((b * 256 : Nat) : Int) by omega]
   exact IntWalk.u16_in _ (by omega)
 go_enter Tryz.func93, Tryz.ntmps93
 generalize hTAB : (Value.string (ByteArray.mk (List.toArray (List.append (List.append _ _) (List.append _ _))))) = TAB
 have key : ∃ S : ByteArray, TAB = .string S ∧ S.size = 256 ∧ ∀ j, j < 256 → (S.data.getD j 0).toNat = Inf.rv j 8 := ⟨_, hTAB.symm, by kernel_rfl, of_decide_eq_true (by kernel_rfl)⟩
 clear hTAB
 have hix : ∀ (i : Nat) (k : IntKind) (w : World), i < 256 → (Instr.index 9 TAB (.int k (i : Int))).run Tryz.prog w = .ok (.int .u8 ((Inf.rv i 8 : Nat) : Int)) w := by
   obtain ⟨S, rfl, hs, hj⟩ := key
   intro i k w hi
   rw [run_index_string _ _ _ _ _ (by kernel_rfl), dif_pos ⟨by omega, by rw [hs]; omega⟩]
   have h1 := hj i hi
   rw [← h1]
   congr 2
   simp only [Int.toNat_natCast]
   have hsz : i < S.data.size := by have : S.data.size = 256 := hs; omega
   rw [Array.getD_eq_getD_getElem?, Array.getElem?_eq_getElem hsz]
   rfl
 have hip := fun (w : World) => hix p .u16 w hp8
 have hiq := fun (w : World) => hix q .u16 w hq8
 rw [← ha] at hip
 rw [← hb] at hiq
 clear hix key ha hb hp hq
 go_wp2_with fail
 go_quiet (fail)
 go_wp2
 go_ret
 exact ⟨congrArg (fun z => Ending.returned (Value.int .u16 z)) HOR.out, (Drawn.refl _).drewN _⟩
end Go.Proofs.YtenkkononchgmaaGreatDoor

namespace Go.Proofs.YtenkkononchgmaaGreatDoor
open Go.RowKit Go

def Inf.wd (l : List Nat) (t : Nat) : Nat := Inf.rv (Huf.code (Inf.lf l) l.length t) (l.getD t 0)
def Inf.wf (l : List Nat) (i t : Nat) : Nat := if t < i then Inf.wd l t else Huf.code (Inf.lf l) l.length t
structure Cw (w wr : World) (G BR n : Nat) (F : Nat → Nat) : Prop where
 bel : Below w.heap.size w wr
 row : wr.heap[G]? = some (.cells (ki n (fun t => (F t : Nat))) 3 (0, 0))
 box : wr.heap[BR]? = some (.cells #[.slice none 0 0, .slice none 0 0] 106 (0, 0))
 lo : w.heap.size ≤ G
theorem Cw.drawn {w wr w' : World} {G BR n : Nat} {F : Nat → Nat} (h : Cw w wr G BR n F) (hd : Drawn wr w') : Cw w w' G BR n F :=
 ⟨h.bel.trans (hd.below _), by rw [hd.heap]; exact h.row, by rw [hd.heap]; exact h.box, h.lo⟩
theorem Cw.put {w wr : World} {G BR n i : Nat} {l : List Nat} (h : Cw w wr G BR n (Inf.wf l i)) (hi : i < n) : Cw w (wr.setCell ⟨G, i, none⟩ (.int .i64 ((Inf.wd l i : Nat) : Int))) G BR n (Inf.wf l (i + 1)) := by
 refine ⟨h.bel.setCell h.lo _, ?_, (heap_setCell_other _ _ _ _ (Inf.ne_ty h.box h.row (by decide))).trans h.box, h.lo⟩
 rw [heap_setCell_same _ _ _ _ _ _ h.row, ki_set _ _ _ _ hi]
 congr 2
 refine ki_congr fun t _ => ?_
 by_cases e : t = i
 · subst e; rw [if_pos rfl, Inf.wf, if_pos (by omega)]
 · rw [if_neg e, Inf.wf, Inf.wf]
   by_cases c : t < i
   · rw [if_pos c, if_pos (by omega)]
   · rw [if_neg c, if_neg (by omega)]
theorem code_ret {w : World} {BR : Nat} {a b : Value} {tmps : Array Value} (h : w.heap[BR]? = some (.cells #[a, b] 106 (0, 0))) (h1 : tmps.getD 2 undef = .pointer (some ⟨BR, 0, none⟩)) :
   (results Tryz.f47 tmps).run Tryz.prog w = .ok (.agg #[a, b]) w :=
 results_cell_row (p := 2) (ty := 106) rfl _ _ BR 106 _ (0, 0) _ h1 h Tryz.underlying106 rfl (by kernel_rfl)

set_option maxRecDepth 100000 in
set_option maxHeartbeats 2000000 in
theorem codeOf_any (l : List Nat) (hm : Inf.Mk l) (a : Option Addr) (n cap : Nat) (w : World) (hn : n = l.length) (hI : Irow w a n cap (Inf.lf l)) :
   Calls Tryz.prog 47 #[.slice a n cap] w fun e w' => Below w.heap.size w w' ∧ ∃ G, w.heap.size ≤ G ∧ w'.heap[G]? = some (.cells (ki n (fun t => (Inf.wd l t : Nat))) 3 (0, 0)) ∧ e = .returned (.agg #[.slice (some ⟨G, 0, none⟩) n n, .slice a n cap]) := by
 have HM := Lib.hid hm
 have HN := Lib.hid hn
 have hn8 : n ≤ 288 := by rw [hn]; exact hm.1.1
 have hba : Below w.heap.size w (w.alloc (.cells #[.slice none 0 0, .slice none 0 0] 106)) := (Below.refl _ _).alloc (Nat.le_refl _) _
 have HBA := Lib.hid hba
 have HBX : Hid ((w.alloc (.cells #[.slice none 0 0, .slice none 0 0] 106)).heap[w.heap.size]? = some (.cells #[.slice none 0 0, .slice none 0 0] 106 (0, 0))) := heap_alloc_new _ _
 have HI := Lib.hid hI
 have HC := Lib.hid (codes_any a n cap (Inf.lf l) _ (hI.1.later hba) (by omega))
 have hnI : (n : Int) ≤ 288 := by omega
 clear hm hn hn8 hI hba
 go_enter Tryz.func47, Tryz.ntmps47
 go_wp2_with fail
 generalize w.alloc (.cells #[.slice none 0 0, .slice none 0 0] 106) = wa at *
 obtain ⟨BR, hBR⟩ : ∃ BR, BR = w.heap.size := ⟨_, rfl⟩
 rw [← hBR]
 rw [← hBR] at HBX
 have HBR := Lib.hid hBR
 clear hBR
 refine HC.out.mono ?_
 rintro en w1 ⟨g1, ⟨-, G, g3, g2, rfl⟩ | ⟨g2, -⟩⟩
 case inr => exact absurd (by rw [HN.out]; exact HM.out) g2
 have HS0 : Hid (Cw w w1 G BR n (Inf.wf l 0)) := by
   refine ⟨HBA.out.trans (g1.mono HBA.out.size), ?_, (g1.block _ (Inf.lt_some HBX.out)).trans HBX.out, Nat.le_trans HBA.out.size g3⟩
   rw [g2]
   congr 2
   exact ki_congr fun t _ => by rw [Inf.wf, if_neg (by omega), HN.out]
 clear g1 g2 g3 HC HBA HBX
 go_wp2_with fail
 go_loopw [5, 6, 14] (fun _ _ v14 wr => ∃ i : Nat, i ≤ n ∧ v14 = .int .i64 (i : Int) ∧ Cw w wr G BR n (Inf.wf l i)) (fun _ _ v14 _ => (n - intOf v14).toNat)
 case atStart => exact ⟨0, by omega, rfl, HS0.out⟩
 case round =>
   clear HS0
   obtain ⟨i, hi, rfl, hs⟩ := hrel
   have HS := Lib.hid hs
   by_cases hlt : i < n
   · have d1 : decide (i < n) = true := decide_eq_true hlt
     have d1' : decide ((i : Int) < (n : Int)) = true := decide_eq_true (by omega)
     have HIL : Hid (i < n) := hlt
     have hiI : (i : Int) < (n : Int) := by omega
     have hil : i < l.length := by rw [← HN.out]; exact hlt
     obtain ⟨c, hc⟩ : ∃ c, c = Huf.code (Inf.lf l) l.length i := ⟨_, rfl⟩
     obtain ⟨d, hd⟩ : ∃ d, d = l.getD i 0 := ⟨_, rfl⟩
     have hd15 : d ≤ 15 := by rw [hd]; exact Inf.mk_le HM.out hil
     have hcd : c < 2 ^ d := by
       rcases Nat.eq_zero_or_pos d with e | e
       · have : c = 0 := by rw [hc, Huf.code, if_neg (by simp only [Inf.lf]; omega)]
         rw [this]; exact Nat.two_pow_pos _
       · have := Inf.small HM.out hil (by omega)
         rw [← hc, ← hd] at this
         exact this
     have hc6 : c < 65536 := Nat.lt_of_lt_of_le hcd (Nat.le_trans (Nat.pow_le_pow_right (by omega) hd15) (by decide))
     have hx : Inf.rv c 16 / 2 ^ (16 - d) = Inf.wd l i := by
       have := Inf.rv_up hcd (16 - d)
       rw [show d + (16 - d) = 16 by omega] at this
       rw [this, Nat.mul_div_cancel _ (Nat.two_pow_pos _), Inf.wd, ← hc, ← hd]
     have q1 : wr.cell? ⟨G, i, none⟩ = some (.int .i64 (c : Int)) := by
       rw [cell_of_row _ _ _ _ _ _ hs.row]
       have := ki_get n (fun t => ((Inf.wf l i t : Nat) : Int)) i hlt
       simp only [Inf.wf, if_neg (Nat.lt_irrefl i)] at this
       rw [hc]; exact this
     obtain ⟨s, o, rfl, -, q2⟩ := (HI.out.later hs.bel).1.at_ hlt
     have q2' : wr.cell? ⟨s, o + i, none⟩ = some (.int .i64 (d : Int)) := by rw [q2, hd]; rfl
     have hf : wr.frozen? ⟨G, i, none⟩ = false := frozen_of_row _ _ _ _ _ hs.row
     have HRV := Lib.hid (fun wx => reverse16_any c hc6 wx)
     obtain ⟨k, hk⟩ : ∃ k, k = 16 - d := ⟨_, rfl⟩
     have hkI : 16 - (d : Int) = (k : Int) := by omega
     have hk16 : (k : Int) ≤ 16 := by omega
     have hkm : min k 16 = k := by omega
     rw [← hk] at hx
     obtain ⟨R, hR⟩ : ∃ R, R = Inf.rv c 16 := ⟨_, rfl⟩
     rw [← hR] at hx HRV
     obtain ⟨x, hxx⟩ : ∃ x, x = Inf.wd l i := ⟨_, rfl⟩
     rw [← hxx] at hx
     have hdiv : (R : Int) / 2 ^ k = (x : Int) := by rw [← hx]; push_cast; rfl
     have hR6 : R < 65536 := by rw [hR]; exact Inf.rv_lt c 16
     have hx6 : x < 65536 := by rw [← hx]; exact Nat.lt_of_le_of_lt (Nat.div_le_self _ _) hR6
     have hwc : IntKind.u16.wrap (c : Int) = (c : Int) := IntWalk.u16_in _ (by omega)
     have hwx : IntKind.i64.wrap (x : Int) = (x : Int) := IntWalk.i64_in _ (by omega)
     have hwk : IntKind.i64.wrap (k : Int) = (k : Int) := IntWalk.i64_in _ (by omega)
     have HX := Lib.hid hxx
     clear hi hlt hil hc hd hs hcd hx q2 hxx hR hk
     go_upto_block 1 with fail
     go_cut [14] from 14 to 32 (fun v14 wx => v14 = .int .i64 (i : Int) ∧ Cw w wx G BR n (Inf.wf l (i + 1)))
     case first =>
       go_wp2_with fail
       go_region_with (go_at_call 93; go_loud (refine (HRV.out _).mono ?_; rintro e w6 ⟨rfl, hd6⟩; have q3 : w6.cell? ⟨s, o + i, none⟩ = some (.int .i64 (d : Int)) := (hd6.cell _).trans q2'; have q4 : w6.cell? ⟨G, i, none⟩ = some (.int .i64 (c : Int)) := (hd6.cell _).trans q1; have q5 : w6.frozen? ⟨G, i, none⟩ = false := frozen_of_row _ _ _ _ _ ((HS.out.drawn ((Drawn.refl wr).drew)).drawn hd6).row; have HD6 := Lib.hid ((HS.out.drawn ((Drawn.refl wr).drew)).drawn hd6); clear hd6))
       all_goals go_wp2_with fail
       all_goals go_meet
       all_goals
         refine ⟨rfl, ?_⟩
         have := HD6.out.put HIL.out
         rw [← HX.out] at this
         exact this
     case rest =>
       obtain ⟨rfl, hs'⟩ := hcut
       go_wp2_with fail
       have hiN := HIL.out
       refine ⟨⟨i + 1, by omega, by rw [show ((i + 1 : Nat) : Int) = (i : Int) + 1 by omega], hs'⟩, ?_⟩
       simp only [intOf]
       omega
   · have e : i = n := by omega
     subst e
     have d1 : decide (i < i) = false := decide_eq_false hlt
     have d1' : decide ((i : Int) < (i : Int)) = false := decide_eq_false (by omega)
     have hs1 : ((wr.setCell ⟨BR, 0, none⟩ (.slice (some ⟨G, 0, none⟩) i i)).setCell ⟨BR, 1, none⟩ (.slice a i cap)).heap[BR]? = some (.cells #[.slice (some ⟨G, 0, none⟩) i i, .slice a i cap] 106 (0, 0)) :=
       (heap_setCell_same _ _ _ _ _ _ ((heap_setCell_same _ _ _ _ _ _ hs.box).trans rfl)).trans rfl
     have hlo : w.heap.size ≤ BR := by rw [HBR.out]; exact Nat.le_refl _
     have HEND : Hid (Below w.heap.size w ((wr.setCell ⟨BR, 0, none⟩ (.slice (some ⟨G, 0, none⟩) i i)).setCell ⟨BR, 1, none⟩ (.slice a i cap)) ∧ ((wr.setCell ⟨BR, 0, none⟩ (.slice (some ⟨G, 0, none⟩) i i)).setCell ⟨BR, 1, none⟩ (.slice a i cap)).heap[G]? = some (.cells (ki i (fun t => (Inf.wd l t : Nat))) 3 (0, 0))) := by
       refine ⟨(hs.bel.setCell hlo _).setCell hlo _, ?_⟩
       refine (heap_setCell_other _ _ _ _ (Inf.ne_ty hs.row hs.box (by decide))).trans ((heap_setCell_other _ _ _ _ (Inf.ne_ty hs.row hs.box (by decide))).trans (hs.row.trans ?_))
       congr 2
       refine ki_congr fun t ht => ?_
       rw [Inf.wf, if_pos ht]
     have e0 : wr.cell? ⟨BR, 0, none⟩ = some (.slice none 0 0) := by rw [cell_of_row _ _ _ _ _ _ hs.box]; rfl
     have e1 : wr.frozen? ⟨BR, 0, none⟩ = false := frozen_of_row _ _ _ _ _ hs.box
     have e2 : (wr.setCell ⟨BR, 0, none⟩ (.slice (some ⟨G, 0, none⟩) i i)).cell? ⟨BR, 1, none⟩ = some (.slice none 0 0) := by rw [cell_of_row _ _ _ _ _ _ (heap_setCell_same _ _ _ _ _ _ hs.box)]; rfl
     have e3 : (wr.setCell ⟨BR, 0, none⟩ (.slice (some ⟨G, 0, none⟩) i i)).frozen? ⟨BR, 1, none⟩ = false := frozen_of_row _ _ _ _ _ (heap_setCell_same _ _ _ _ _ _ hs.box)
     have HS1 := Lib.hid hs1
     have HLG := Lib.hid hs.lo
     clear hs hs1 hlo
     go_wp2_with fail
     refine bodyPost_ret (code_ret HS1.out rfl) rfl ?_
     exact ⟨HEND.out.1, G, HLG.out, HEND.out.2, rfl⟩
end Go.Proofs.YtenkkononchgmaaGreatDoor
