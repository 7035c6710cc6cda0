/- Laid together: InfOwn. -/
import Derived.Test.YtenkkononchgmaaGreatDoorDkB11
import Derived.Deep.RegionWith
import Derived.Deep.CutRange

namespace Go.Proofs.YtenkkononchgmaaGreatDoor
open Go.RowKit Go

theorem Inf.and31 (a : Nat) (ha : a < 4294967296) : bits BinOp.and IntKind.u32 (a : Int) 31 = ((a % 32 : Nat) : Int) := by
 have e : bits BinOp.and IntKind.u32 (a : Int) 31 = IntKind.u32.wrap (((BitVec.ofInt 32 (a : Int)) &&& (BitVec.ofInt 32 31)).toNat : Int) := rfl
 rw [e, BitVec.toNat_and, BitVec.toNat_ofInt]
 have e1 : ((a : Int) % ((2 ^ 32 : Nat) : Int)).toNat = a := by omega
 rw [e1, show (BitVec.ofInt 32 31).toNat = 2 ^ 5 - 1 from by decide, Nat.and_two_pow_sub_one_eq_mod, IntKind.wrap_u32]
 omega
theorem Inf.dyn_few {V N M p : Nat} {T : List Int} (h : N < p + 14) : Inf.dynamic V N M p T = .err 4 := by unfold Inf.dynamic; rw [if_pos (.inl h)]
theorem Inf.dyn_many {V N M p : Nat} {T : List Int} (h : 286 < 257 + Inf.num V p 5 ∨ 30 < 1 + Inf.num V (p + 5) 5) : Inf.dynamic V N M p T = .err 4 := by
 have h' : N < p + 14 ∨ 286 < 257 + Inf.num V p 5 ∨ 30 < 1 + Inf.num V (p + 5) 5 ∨ N < p + 14 + 3 * (4 + Inf.num V (p + 10) 4) := by omega
 unfold Inf.dynamic; rw [if_pos h']
theorem Inf.dyn_short {V N M p : Nat} {T : List Int} (h : N < p + 14 + 3 * (4 + Inf.num V (p + 10) 4) ∨ ¬ Inf.Mk (Inf.short V (p + 14) (4 + Inf.num V (p + 10) 4))) : Inf.dynamic V N M p T = .err 4 := by
 unfold Inf.dynamic
 by_cases h1 : N < p + 14 ∨ 286 < 257 + Inf.num V p 5 ∨ 30 < 1 + Inf.num V (p + 5) 5 ∨ N < p + 14 + 3 * (4 + Inf.num V (p + 10) 4)
 · rw [if_pos h1]
 · rw [if_neg h1]
   rcases h with h | h
   · exact absurd (.inr (.inr (.inr h))) h1
   · rw [if_pos h]
structure Inf.DynOk (V N p nl nd c : Nat) : Prop where
 few : p + 14 ≤ N
 hl : nl = 257 + Inf.num V p 5
 hd : nd = 1 + Inf.num V (p + 5) 5
 hc : c = 4 + Inf.num V (p + 10) 4
 nl6 : nl ≤ 286
 nd6 : nd ≤ 30
 all : p + 14 + 3 * c ≤ N
 code : Inf.Mk (Inf.short V (p + 14) c)
theorem Inf.DynOk.row {V N M p nl nd c : Nat} {T : List Int} (h : Inf.DynOk V N p nl nd c) : Inf.dynamic V N M p T = match Inf.runs (Inf.lstep (Inf.short V (p + 14) c) (nl + nd) V N) (p + 14 + 3 * c) [] with
 | .err _ => .err 4
 | .ok q A => if A.getD 256 0 = 0 then .err 4 else Inf.coded (A.take nl) (A.drop nl) V N M q T := by
 obtain ⟨h1, rfl, rfl, rfl, h5, h6, h7, h8⟩ := h
 unfold Inf.dynamic
 rw [if_neg (by omega), if_neg (fun c => c h8)]
 generalize Inf.runs (Inf.lstep _ _ _ _) _ _ = R
 cases R <;> rfl
theorem Inf.DynOk.bad {V N M p nl nd c : Nat} {T : List Int} {k : Int} (h : Inf.DynOk V N p nl nd c) (h1 : Inf.runs (Inf.lstep (Inf.short V (p + 14) c) (nl + nd) V N) (p + 14 + 3 * c) [] = .err k) : Inf.dynamic V N M p T = .err 4 := by
 rw [h.row, h1]
theorem Inf.DynOk.none {V N M p nl nd c q : Nat} {T : List Int} {A : List Nat} (h : Inf.DynOk V N p nl nd c) (h1 : Inf.runs (Inf.lstep (Inf.short V (p + 14) c) (nl + nd) V N) (p + 14 + 3 * c) [] = .ok q A) (h2 : A.getD 256 0 = 0) : Inf.dynamic V N M p T = .err 4 := by
 rw [h.row, h1]; dsimp only; rw [if_pos h2]
theorem Inf.DynOk.go {V N M p nl nd c q : Nat} {T : List Int} {A : List Nat} (h : Inf.DynOk V N p nl nd c) (h1 : Inf.runs (Inf.lstep (Inf.short V (p + 14) c) (nl + nd) V N) (p + 14 + 3 * c) [] = .ok q A) (h2 : ¬ A.getD 256 0 = 0) : Inf.dynamic V N M p T = Inf.coded (A.take nl) (A.drop nl) V N M q T := by
 rw [h.row, h1]; dsimp only; rw [if_neg h2]
theorem Two.ret {w : World} {G : Nat} {a b : Option Addr} {tmps : Array Value} {ok : Bool} (h : Two w G a b) (h1 : tmps.getD 2 undef = .pointer (some ⟨G, 0, none⟩)) (h2 : tmps.getD 3 undef = .bool ok) :
   (results Tryz.f84 tmps).run Tryz.prog w = .ok (.tuple #[.agg #[.pointer a, .pointer b], .bool ok]) w :=
 results_cell_row2 (p := 2) (u := 3) (ty := 85) rfl _ _ G 85 _ (0, 0) _ h1 h Tryz.underlying85 rfl (by kernel_rfl) _ h2
def NwQ (x : List Nat) (po : Option Addr) (w' : World) : Prop := (¬ Inf.Mk x ∧ po = none) ∨ (Inf.Mk x ∧ ∃ D, po = some ⟨D, 0, none⟩ ∧ Dcl w' x D)
theorem NwQ.ks {x : List Nat} {po : Option Addr} {w w' : World} (h : NwQ x po w) (hk : Ks w w') : NwQ x po w' := by
 rcases h with h | ⟨h1, D, h2, h3⟩
 · exact .inl h
 · exact .inr ⟨h1, D, h2, h3.ks hk⟩
def Wb (w wx : World) : Prop := Below w.heap.size w wx
theorem Wb.drew {w wx : World} (h : Wb w wx) : Wb w wx.drew := Below.drew h
theorem Wb.alloc {w wx : World} (h : Wb w wx) (o : Obj) : Wb w (wx.alloc o) := Below.alloc h h.size o
theorem new_wb (x : List Nat) (a : Option Addr) (n cap : Nat) (hx : n = x.length) (w : World) (hI : Ints w a n cap (Inf.lf x)) (hn : n ≤ 1000) (wx : World) (h : Wb w wx) :
   Calls Tryz.prog 131 #[.slice a n cap] wx fun e w' => ∃ po, e = .returned (.pointer po) ∧ Wb w w' ∧ Wb wx w' ∧ NwQ x po w' :=
 (new_any a n cap (Inf.lf x) wx (hI.later h) (by omega)).mono fun e w' ⟨h1, h2⟩ => by
   have hb : Wb w w' := Below.trans h (h1.mono h.size)
   subst hx
   rcases h2 with ⟨h2, D, h3, h4⟩ | ⟨h2, h3⟩
   · exact ⟨_, h4, hb, h1, .inr ⟨h2, D, rfl, h3.dcr⟩⟩
   · exact ⟨none, h3, hb, h1, .inl ⟨h2, rfl⟩⟩
theorem Wb.at0 {wx w' : World} (h : Wb (wx.alloc (.cells #[.pointer none, .pointer none] 85)) w') : Two w' wx.heap.size none none ∧ wx.heap.size < w'.heap.size :=
 ⟨(Below.block h _ (by simp)).trans (heap_alloc_new _ _), Nat.lt_of_lt_of_le (by simp) h.size⟩
theorem Wb.at1 {wx w' : World} (h : Wb (wx.alloc (.cells #[.pointer none, .pointer none] 85)).drew w') : Two w' wx.heap.size none none ∧ wx.heap.size < w'.heap.size := Wb.at0 (wx := wx) ((Below.drew (Below.refl _ _)).trans h)
theorem Wb.mv {wx w' : World} {G : Nat} (h : Wb wx w') (h2 : Two wx G none none ∧ G < wx.heap.size) : Two w' G none none ∧ G < w'.heap.size := ⟨(Below.block h _ h2.2).trans h2.1, Nat.lt_of_lt_of_le h2.2 h.size⟩
theorem NwQ.two {w : World} {x : List Nat} {po a b a' b' : Option Addr} {G : Nat} (h : NwQ x po w) (hG : Two w G a b) : NwQ x po ((w.setCell ⟨G, 0, none⟩ (.pointer a')).setCell ⟨G, 1, none⟩ (.pointer b')) := by
 rcases h with h | ⟨h1, D, h2, h3⟩
 · exact .inl h
 · exact .inr ⟨h1, D, h2, h3.two hG⟩
theorem Two.past {w : World} {G b : Nat} {p1 p2 : Option Addr} {x y : Value} (h : Two w b p1 p2) (hne : G ≠ b) : ((w.setCell ⟨G, 0, none⟩ x).setCell ⟨G, 1, none⟩ y).cell? ⟨b, 0, none⟩ = some (.pointer p1) ∧ ((w.setCell ⟨G, 0, none⟩ x).setCell ⟨G, 1, none⟩ y).cell? ⟨b, 1, none⟩ = some (.pointer p2) := by
 have hb : ((w.setCell ⟨G, 0, none⟩ x).setCell ⟨G, 1, none⟩ y).heap[b]? = w.heap[b]? := (heap_setCell_other _ _ _ _ (fun e => hne e.symm)).trans (heap_setCell_other _ _ _ _ (fun e => hne e.symm))
 have h' : Two ((w.setCell ⟨G, 0, none⟩ x).setCell ⟨G, 1, none⟩ y) b p1 p2 := hb.trans h
 exact ⟨h'.c0, h'.c1⟩
structure EndS (w wE : World) (b : Nat) (p1 p2 : Option Addr) (x y : List Nat) : Prop where
 two : Two wE b p1 p2
 wb : Wb w wE
 q1 : NwQ x p1 wE
 q2 : NwQ y p2 wE
 ge : w.heap.size ≤ b
theorem EndS.mk' {w wy : World} {b : Nat} {p1 p2 : Option Addr} {x y : List Nat} (h : Wb w wy) (hT : Two wy b none none) (hb : w.heap.size ≤ b) (h1 : NwQ x p1 wy) (h2 : NwQ y p2 wy) : EndS w ((wy.setCell ⟨b, 0, none⟩ (.pointer p1)).setCell ⟨b, 1, none⟩ (.pointer p2)) b p1 p2 x y :=
 ⟨hT.set _ _, (Below.setCell h hb _).setCell hb _, h1.two hT, h2.two hT, hb⟩
theorem Ks.one (w : World) (o : Obj) : Ks w (w.alloc o) := Ks.below ((Below.refl _ _).alloc (Nat.le_refl _) _)
theorem EndS.mkA {w wy : World} {p1 p2 : Option Addr} {x y : List Nat} (h : Wb w wy) (h1 : NwQ x p1 wy) (h2 : NwQ y p2 wy) : EndS w (wy.alloc (.cells #[.pointer p1, .pointer p2] 85)) wy.heap.size p1 p2 x y :=
 ⟨heap_alloc_new _ _, Wb.alloc h _, h1.ks (Ks.one _ _), h2.ks (Ks.one _ _), h.size⟩
theorem Inf.lf_take (A : List Nat) (m j : Nat) (h : j < m) : Inf.lf (A.take m) j = Inf.lf A j := by
 simp only [Inf.lf, List.getD_eq_getElem?_getD, List.getElem?_take, if_pos h]
theorem Inf.lf_drop (A : List Nat) (m j : Nat) : Inf.lf (A.drop m) j = Inf.lf A (m + j) := by
 simp only [Inf.lf, List.getD_eq_getElem?_getD, List.getElem?_drop]
theorem Ints.takeL {w : World} {s n cap : Nat} {A : List Nat} (h : Ints w (some ⟨s, 0, none⟩) n cap (Inf.lf A)) (m : Nat) (hm : m ≤ n) : Ints w (some ⟨s, 0, none⟩) m cap (Inf.lf (A.take m)) :=
 ⟨Nat.le_trans hm h.le, fun hm0 => by
   obtain ⟨s', o, e, h1, h2⟩ := h.ad (by omega)
   exact ⟨s', o, e, h1, fun j hj => by rw [Inf.lf_take _ _ _ hj]; exact h2 j (by omega)⟩⟩
theorem Ints.dropL {w : World} {s n cap : Nat} {A : List Nat} (h : Ints w (some ⟨s, 0, none⟩) n cap (Inf.lf A)) (m : Nat) (hm : m ≤ n) : Ints w (some ⟨s, m, none⟩) (n - m) (cap - m) (Inf.lf (A.drop m)) :=
 ⟨by have := h.le; omega, fun hm0 => by
   obtain ⟨s', o, e, h1, h2⟩ := h.ad (by omega)
   simp only [Option.some.injEq, Addr.mk.injEq, and_true] at e
   obtain ⟨rfl, rfl⟩ := e
   exact ⟨s, m, rfl, h1, fun j hj => by rw [Inf.lf_drop, ← h2 (m + j) (by omega), Nat.zero_add]⟩⟩

set_option maxRecDepth 100000 in
set_option maxHeartbeats 40000000 in
theorem ownCodes_any (w0 w : World) (g r L V p : Nat) (T : List Int) (vt : Value) (M : Nat) (fl fd : Value) (h : Sx w0 w g r L V p T vt M fl fd) (hL : L ≤ 1000000) :
   Calls Tryz.prog 84 #[.pointer (some ⟨g, 0, none⟩)] w fun e w' => OcO w0 w g r L V p T vt M fl fd e w' := by
 have HL := Lib.hid hL
 obtain ⟨RD, hrd⟩ : ∃ RD, RD = Inf.dynamic V (8 * L) M p T := ⟨_, rfl⟩
 unfold OcO
 rw [← hrd]
 have HRD := Lib.hid hrd
 have hb : Below w.heap.size w (w.alloc (.cells #[.pointer none, .pointer none] 85)) := (Below.refl _ _).alloc (Nat.le_refl _) _
 have HS0 : Hid (Sx w0 (w.alloc (.cells #[.pointer none, .pointer none] 85)) g r L V p T vt M fl fd) := h.later hb
 have HK0 : Hid (Ks w (w.alloc (.cells #[.pointer none, .pointer none] 85))) := Ks.below hb
 have HT0 : Hid (Two (w.alloc (.cells #[.pointer none, .pointer none] 85)) w.heap.size none none) := heap_alloc_new _ _
 have HLO : Hid (w0.heap.size ≤ w.heap.size) := h.bel.size
 have c0 := HS0.out.c0
 obtain ⟨X, hX⟩ : ∃ X, X = Inf.num V p 14 := ⟨_, rfl⟩
 obtain ⟨nl, hnl⟩ : ∃ nl, nl = 257 + Inf.num V p 5 := ⟨_, rfl⟩
 obtain ⟨nd, hnd⟩ : ∃ nd, nd = 1 + Inf.num V (p + 5) 5 := ⟨_, rfl⟩
 obtain ⟨nc, hnc⟩ : ∃ nc, nc = 4 + Inf.num V (p + 10) 4 := ⟨_, rfl⟩
 by_cases hfew : p + 14 ≤ 8 * L
 · have HG := Lib.hid (sget_any 14 w0 _ g r L V p T vt M fl fd HS0.out hL (by omega) hfew)
   rw [← hX] at HG
   have b0 := Inf.num_lt V p 14
   have b1 := Inf.num_lt V p 5
   have b2 := Inf.num_lt V (p + 5) 5
   have b3 := Inf.num_lt V (p + 10) 4
   have e1 := Inf.num_first V p 14 5 (by omega)
   have e2 := Inf.num_part V p 14 5 5 (by omega)
   have e3 := Inf.num_last V p 14 10 (by omega)
   rw [← hX] at b0 e1 e2 e3
   obtain ⟨x1, hx1⟩ : ∃ x1, x1 = Inf.num V p 5 := ⟨_, rfl⟩
   obtain ⟨x2, hx2⟩ : ∃ x2, x2 = Inf.num V (p + 5) 5 := ⟨_, rfl⟩
   obtain ⟨x3, hx3⟩ : ∃ x3, x3 = Inf.num V (p + 10) 4 := ⟨_, rfl⟩
   rw [← hx1] at b1 e1
   rw [← hx2] at b2 e2
   rw [← hx3] at b3
   rw [show 14 - 10 = 4 from rfl, ← hx3] at e3
   obtain ⟨y1, hy1⟩ : ∃ y1, y1 = X / 32 := ⟨_, rfl⟩
   have a1 : bits BinOp.and IntKind.u32 (X : Int) 31 = (x1 : Int) := by rw [Inf.and31 X (by omega)]; congr 1
   have a2 : (X : Int) / 32 = (y1 : Int) := by rw [hy1]; rfl
   have a3 : bits BinOp.and IntKind.u32 (y1 : Int) 31 = (x2 : Int) := by rw [Inf.and31 y1 (by omega), hy1]; congr 1
   have a4 : (X : Int) / 1024 = (x3 : Int) := by rw [← e3]; rfl
   have w1 : IntKind.i64.wrap (x1 : Int) = (x1 : Int) := by rw [IntKind.wrap_i64]; omega
   have w2 : IntKind.i64.wrap (x2 : Int) = (x2 : Int) := by rw [IntKind.wrap_i64]; omega
   have w3 : IntKind.i64.wrap (x3 : Int) = (x3 : Int) := by rw [IntKind.wrap_i64]; omega
   have s1 : (257 : Int) + (x1 : Int) = (nl : Int) := by rw [hnl, ← hx1]; rfl
   have s2 : (1 : Int) + (x2 : Int) = (nd : Int) := by rw [hnd, ← hx2]; rfl
   have s3 : (4 : Int) + (x3 : Int) = (nc : Int) := by rw [hnc, ← hx3]; rfl
   have x1I : (x1 : Int) < 32 := by omega
   have x2I : (x2 : Int) < 32 := by omega
   have x3I : (x3 : Int) < 16 := by omega
   have XI : (X : Int) < 16384 := by omega
   have nc6 : nc ≤ 19 := by omega
   have nl7 : nl ≤ 288 := by omega
   have nd7 : nd ≤ 32 := by omega
   have HNL := Lib.hid hnl
   have HND := Lib.hid hnd
   have HNC := Lib.hid hnc
   have HFEW := Lib.hid hfew
   clear h hrd hb hL b0 b1 b2 b3 e1 e2 e3 hX hnl hnd hnc hx1 hx2 hx3 hy1 hfew
   go_enter Tryz.func84, Tryz.ntmps84
   go_wp2_with fail
   refine HG.out.mono ?_
   rintro e w1' ⟨rfl, h1, h2⟩
   have K1 := Lib.hid h1
   have K2 := Lib.hid (HK0.out.trans h2)
   have K3 := Lib.hid (HT0.out.ks h2)
   clear h1 h2 HG HK0 HS0 HT0 c0
   obtain ⟨G, hG⟩ : ∃ G, G = w.heap.size := ⟨_, rfl⟩
   rw [← hG] at K3 HLO ⊢
   have HGW : Hid (w.heap.size ≤ G) := by unfold Hid; omega
   clear hG
   have d0 := K3.out.c0
   have d1 := K3.out.c1
   have d2 := K3.out.fr
   have HF : Hid (Two ((w1'.setCell ⟨G, 0, none⟩ (.pointer none)).setCell ⟨G, 1, none⟩ (.pointer none)) G none none ∧ Below w0.heap.size w0 ((w1'.setCell ⟨G, 0, none⟩ (.pointer none)).setCell ⟨G, 1, none⟩ (.pointer none))) := ⟨K3.out.set _ _, Two.bel K1.out.bel HLO.out⟩
   by_cases hnl6 : 286 < nl
   · have t1 : decide (286 < (nl : Int)) = true := decide_eq_true (by omega)
     have HE : Hid (RD = .err 4) := by unfold Hid; rw [HRD.out]; exact Inf.dyn_many (.inl (by have := HNL.out; omega))
     clear hnl6
     go_wp2_with fail
     exact bodyPost_ret (HF.out.1.ret rfl rfl) rfl (.inl ⟨HE.out, ⟨none, none, rfl⟩, HF.out.2⟩)
   have t1 : decide (286 < (nl : Int)) = false := decide_eq_false (by omega)
   by_cases hnd6 : 30 < nd
   · have t2 : decide (30 < (nd : Int)) = true := decide_eq_true (by omega)
     have HE : Hid (RD = .err 4) := by unfold Hid; rw [HRD.out]; exact Inf.dyn_many (.inr (by have := HND.out; omega))
     clear hnd6 hnl6
     go_wp2_with fail
     exact bodyPost_ret (HF.out.1.ret rfl rfl) rfl (.inl ⟨HE.out, ⟨none, none, rfl⟩, HF.out.2⟩)
   have t2 : decide (30 < (nd : Int)) = false := decide_eq_false (by omega)
   have HLC := Lib.hid (lengthCode_any nc w0 w1' g r L V (p + 14) T vt M fl fd K1.out HL.out nc6)
   have HN6 := Lib.hid (show nl ≤ 286 ∧ nd ≤ 30 by omega)
   clear hnl6 hnd6 HF
   go_wp2_with fail
   refine HLC.out.mono ?_
   rintro e w2' (⟨h1, rfl, h2, h3⟩ | ⟨h1, h2, D, rfl, h3, h4, h5⟩)
   · have HE : Hid (RD = .err 4) := by unfold Hid; rw [HRD.out]; exact Inf.dyn_short (by rw [← HNC.out]; exact h1)
     have L1 := Lib.hid h2
     have L3 := Lib.hid (K3.out.ks h3)
     clear h1 h2 h3 HLC d0 d1 d2
     have d0 := L3.out.c0
     have d1 := L3.out.c1
     have d2 := L3.out.fr
     have HF : Hid (Two ((w2'.setCell ⟨G, 0, none⟩ (.pointer none)).setCell ⟨G, 1, none⟩ (.pointer none)) G none none ∧ Below w0.heap.size w0 ((w2'.setCell ⟨G, 0, none⟩ (.pointer none)).setCell ⟨G, 1, none⟩ (.pointer none))) := ⟨L3.out.set _ _, Two.bel L1.out HLO.out⟩
     go_wp2_with fail
     exact bodyPost_ret (HF.out.1.ret rfl rfl) rfl (.inl ⟨HE.out, ⟨none, none, rfl⟩, HF.out.2⟩)
   · have HOK : Hid (Inf.DynOk V (8 * L) p nl nd nc) := ⟨HFEW.out, HNL.out, HND.out, HNC.out, HN6.out.1, HN6.out.2, h1, h2⟩
     have L1 := Lib.hid h4
     have L2 := Lib.hid (K2.out.trans h5)
     have L3 := Lib.hid (K3.out.ks h5)
     obtain ⟨n, hn⟩ : ∃ n, n = nl + nd := ⟨_, rfl⟩
     have hnI : (nl : Int) + (nd : Int) = (n : Int) := by omega
     have hn6 : n ≤ 320 := by omega
     have hn7 : 257 ≤ nl := by have := HNL.out; omega
     have HRW := Lib.hid (row_any (Inf.short V (p + 14) nc) D n w0 w2' g r L V (p + 14 + 3 * nc) T vt M fl fd h4 HL.out h2 (Inf.short_length _ _ _) h3 (by omega))
     have HNN := Lib.hid hn
     have hnlI : (nl : Int) ≤ 288 := by omega
     have hndI : (nd : Int) ≤ 32 := by omega
     clear h1 h2 h3 h4 h5 HLC d0 d1 d2 K1 K2 K3 a1 a2 a3 a4 w1 w2 w3 s1 s2 s3 x1I x2I x3I XI t1 t2 hn hn6 nc6 nl7 nd7
     go_wp2_with fail
     refine HRW.out.mono ?_
     rintro e w3' (⟨k, h1, rfl, h2, h3⟩ | ⟨q, A, v, h1, rfl, h2⟩)
     · have HE : Hid (RD = .err 4) := by unfold Hid; rw [HRD.out]; exact HOK.out.bad (by rw [← HNN.out]; exact h1)
       have M1 := Lib.hid h2
       have M3 := Lib.hid (L3.out.ks h3)
       clear h1 h2 h3 HRW
       have d0 := M3.out.c0
       have d1 := M3.out.c1
       have d2 := M3.out.fr
       have HF : Hid (Two ((w3'.setCell ⟨G, 0, none⟩ (.pointer none)).setCell ⟨G, 1, none⟩ (.pointer none)) G none none ∧ Below w0.heap.size w0 ((w3'.setCell ⟨G, 0, none⟩ (.pointer none)).setCell ⟨G, 1, none⟩ (.pointer none))) := ⟨M3.out.set _ _, Two.bel M1.out HLO.out⟩
       go_wp2_with fail
       exact bodyPost_ret (HF.out.1.ret rfl rfl) rfl (.inl ⟨HE.out, ⟨none, none, rfl⟩, HF.out.2⟩)
     · obtain ⟨av, cv, rfl⟩ := own_form h2.own
       have M1 := Lib.hid h2
       have M3 := Lib.hid (L3.out.ks h2.ks)
       obtain ⟨s, rfl, cs⟩ := h2.cell (j := 256) (by omega)
       have HA := Lib.hid h1
       have h256 : (256 : Int) < (n : Int) := by omega
       clear h1 h2 HRW
       obtain ⟨z, hz⟩ : ∃ z, z = A.getD 256 0 := ⟨_, rfl⟩
       rw [← hz] at cs
       have HZ := Lib.hid hz
       clear hz
       by_cases hz0 : z = 0
       · subst hz0
         have HE : Hid (RD = .err 4) := by unfold Hid; rw [HRD.out]; exact HOK.out.none (by rw [← HNN.out]; exact HA.out) HZ.out.symm
         have d0 := M3.out.c0
         have d1 := M3.out.c1
         have d2 := M3.out.fr
         have HF : Hid (Two ((w3'.setCell ⟨G, 0, none⟩ (.pointer none)).setCell ⟨G, 1, none⟩ (.pointer none)) G none none ∧ Below w0.heap.size w0 ((w3'.setCell ⟨G, 0, none⟩ (.pointer none)).setCell ⟨G, 1, none⟩ (.pointer none))) := ⟨M3.out.set _ _, Two.bel M1.out.sx.bel HLO.out⟩
         go_wp2_with fail
         exact bodyPost_ret (HF.out.1.ret rfl rfl) rfl (.inl ⟨HE.out, ⟨none, none, rfl⟩, HF.out.2⟩)
       · have hzb : ((z : Int) == 0) = false := by simp; omega
         have HGO : Hid (RD = Inf.coded (A.take nl) (A.drop nl) V (8 * L) M q T) := by
           unfold Hid; rw [HRD.out]; exact HOK.out.go (by rw [← HNN.out]; exact HA.out) (by rw [← HZ.out]; exact hz0)
         obtain ⟨a0, c0, e0, -, hI⟩ := Inf.own_nv M1.out.own M1.out.len.symm
         cases e0
         have hcv := hI.le
         have hto := Inf.ints_to (some ⟨s, 0, none⟩) n cv nl (by omega)
         have hfr := Inf.ints_from (some ⟨s, 0, none⟩) n cv nl (by omega)
         rw [if_neg (by have := HNN.out; have := HND.out; omega), show Option.map (fun x : Addr => x.add nl) (some ⟨s, 0, none⟩) = some ⟨s, nl, none⟩ by simp [Addr.add_mid]] at hfr
         have hwb : Wb w3' w3' := Below.refl _ _
         have HI1 := Lib.hid (hI.takeL nl (by omega))
         have HI2 := Lib.hid (hI.dropL nl (by omega))
         have HL1 : Hid (nl = (A.take nl).length) := by unfold Hid; rw [List.length_take, ← M1.out.len]; omega
         have HL2 : Hid (n - nl = (A.drop nl).length) := by unfold Hid; rw [List.length_drop, ← M1.out.len]
         have HNB : Hid (nl ≤ 1000 ∧ n - nl ≤ 1000) := by unfold Hid; omega
         clear hz0 hI hcv
         have HN1 := Lib.hid (new_wb _ _ nl cv HL1.out w3' HI1.out HNB.out.1)
         have HN2 := Lib.hid (new_wb _ _ (n - nl) (cv - nl) HL2.out w3' HI2.out HNB.out.2)
         go_upto_region 11 with fail
         go_cut [11] from 68 (fun v11 wx => ∃ (b : Nat) (p1 p2 : Option Addr), v11 = .pointer (some ⟨b, 0, none⟩) ∧ EndS w3' wx b p1 p2 (A.take nl) (A.drop nl))
         case first =>
           go_region_with ((first | (go_at_call 131; (with_reducible refine (HN1.out _ (by first | assumption | exact Wb.drew (by assumption) | exact Wb.alloc (by assumption) _ | exact Wb.alloc (Wb.drew (by assumption)) _ | exact Wb.drew (Wb.alloc (by assumption) _))).mono ?_); rintro e w4' ⟨D1, rfl, hb4, hw4, hq4⟩; (try (have hT4 := Wb.at0 hw4)); (try (have hT4 := Wb.at1 hw4))) | (go_at_call 131; (with_reducible refine (HN2.out _ (by first | assumption | exact Wb.drew (by assumption) | exact Wb.alloc (by assumption) _ | exact Wb.alloc (Wb.drew (by assumption)) _ | exact Wb.drew (Wb.alloc (by assumption) _))).mono ?_); rintro e w5' ⟨D2, rfl, hb5, hw5, hq5⟩; (try (have hT5 := Wb.at0 hw5; have k0 := hT5.1.c0; have k1 := hT5.1.c1; have k2 := hT5.1.fr)); (try (have hT5 := Wb.mv hw5 hT4; have k0 := hT5.1.c0; have k1 := hT5.1.c1; have k2 := hT5.1.fr)))))
           all_goals
             have hK : Ks w4' w5' := by first | exact Ks.below hw5 | exact (Ks.one _ _).trans (Ks.below hw5)
             first
               | have HE := Lib.hid (EndS.mk' hb5 hT5.1 (by first | exact Nat.le_refl _ | exact Below.size hb4) (hq4.ks hK) hq5)
               | have HE := Lib.hid (EndS.mkA hb5 (hq4.ks hK) hq5)
             clear hb4 hw4 hb5 hw5 hq4 hq5 hK
             go_wp2_with fail
             go_meet
             exact ⟨_, _, _, rfl, HE.out⟩
         case rest =>
           obtain ⟨gb, p1, p2, rfl, hE⟩ := hcut
           have HE := Lib.hid hE
           clear hE
           have HS9 := Lib.hid (M1.out.sx.later HE.out.wb)
           have HT9 := Lib.hid (M3.out.ks (Ks.below HE.out.wb))
           have HK9 := Lib.hid ((L2.out.trans M1.out.ks).trans (Ks.below HE.out.wb))
           have HCE := Lib.hid (fun x y => Two.past (x := x) (y := y) HE.out.two (show G ≠ _ from Nat.ne_of_lt (Nat.lt_of_lt_of_le (Inf.lt_some M3.out) HE.out.ge)))
           have c0 := HE.out.two.c0
           have c1 := HE.out.two.c1
           have d0 := HT9.out.c0
           have d1 := HT9.out.c1
           have d2 := HT9.out.fr
           have HQ1 := Lib.hid HE.out.q1
           have HQ2 := Lib.hid HE.out.q2
           generalize wc = wE at *
           clear HN1 HN2 hto hfr hwb HI1 HI2 HL1 HL2 HNB HE
           go_wp2_with fail
           rcases HQ1.out with ⟨n1, rfl⟩ | ⟨m1, E1, rfl, g1⟩
           · have HCO : Hid (RD = .err 4) := by unfold Hid; rw [HGO.out, Inf.coded, if_neg (fun h => n1 h.1)]
             have HB9 := Lib.hid HS9.out.bel
             have HF : Hid (Two ((wE.drew.setCell ⟨G, 0, none⟩ (.pointer none)).setCell ⟨G, 1, none⟩ (.pointer p2)) G none p2 ∧ Below w0.heap.size w0 ((wE.drew.setCell ⟨G, 0, none⟩ (.pointer none)).setCell ⟨G, 1, none⟩ (.pointer p2))) := ⟨(HT9.out.ks (Ks.drawn (Drawn.refl _).drew)).set _ _, Two.bel HB9.out.drew HLO.out⟩
             clear HQ1 HQ2 n1 HS9
             obtain ⟨y0, y1⟩ := HCE.out (.pointer none) (.pointer p2)
             go_region
             all_goals go_wp2_with fail
             all_goals exact bodyPost_ret (HF.out.1.ret rfl rfl) rfl (.inl ⟨HCO.out, ⟨_, _, rfl⟩, HF.out.2⟩)
           · rcases HQ2.out with ⟨n2, rfl⟩ | ⟨m2, E2, rfl, g2⟩
             · have HCO : Hid (RD = .err 4) := by unfold Hid; rw [HGO.out, Inf.coded, if_neg (fun h => n2 h.2)]
               have HB9 := Lib.hid HS9.out.bel
               have HF : Hid (Two ((wE.drew.setCell ⟨G, 0, none⟩ (.pointer (some ⟨E1, 0, none⟩))).setCell ⟨G, 1, none⟩ (.pointer none)) G (some ⟨E1, 0, none⟩) none ∧ Below w0.heap.size w0 ((wE.drew.setCell ⟨G, 0, none⟩ (.pointer (some ⟨E1, 0, none⟩))).setCell ⟨G, 1, none⟩ (.pointer none))) := ⟨(HT9.out.ks (Ks.drawn (Drawn.refl _).drew)).set _ _, Two.bel HB9.out.drew HLO.out⟩
               clear HQ1 HQ2 n2 m1 g1 HS9
               obtain ⟨y0, y1⟩ := HCE.out (.pointer (some ⟨E1, 0, none⟩)) (.pointer none)
               go_region
               all_goals go_wp2_with fail
               all_goals exact bodyPost_ret (HF.out.1.ret rfl rfl) rfl (.inl ⟨HCO.out, ⟨_, _, rfl⟩, HF.out.2⟩)
             · have HCO : Hid (RD = Inf.runs (Inf.cstep (A.take nl) (A.drop nl) V (8 * L) M) q T) := by unfold Hid; rw [HGO.out, Inf.coded, if_pos ⟨m1, m2⟩]
               have HM1 := Lib.hid m1
               have HM2 := Lib.hid m2
               have HTD := Lib.hid (HT9.out.ks (Ks.drawn (Drawn.refl wE).drew))
               have HSD := Lib.hid (HS9.out.drawn (Drawn.refl wE).drew)
               have HG1 : Hid (Dcl ((wE.drew.setCell ⟨G, 0, none⟩ (.pointer (some ⟨E1, 0, none⟩))).setCell ⟨G, 1, none⟩ (.pointer (some ⟨E2, 0, none⟩))) (A.take nl) E1) := (g1.ks (Ks.drawn (Drawn.refl wE).drew)).two HTD.out
               have HG2 : Hid (Dcl ((wE.drew.setCell ⟨G, 0, none⟩ (.pointer (some ⟨E1, 0, none⟩))).setCell ⟨G, 1, none⟩ (.pointer (some ⟨E2, 0, none⟩))) (A.drop nl) E2) := (g2.ks (Ks.drawn (Drawn.refl wE).drew)).two HTD.out
               have HF : Hid (Two ((wE.drew.setCell ⟨G, 0, none⟩ (.pointer (some ⟨E1, 0, none⟩))).setCell ⟨G, 1, none⟩ (.pointer (some ⟨E2, 0, none⟩))) G (some ⟨E1, 0, none⟩) (some ⟨E2, 0, none⟩)) := HTD.out.set _ _
               have HSF : Hid (Sx w0 ((wE.drew.setCell ⟨G, 0, none⟩ (.pointer (some ⟨E1, 0, none⟩))).setCell ⟨G, 1, none⟩ (.pointer (some ⟨E2, 0, none⟩))) g r L V q T vt M fl fd) := HSD.out.setT HTD.out HLO.out rfl rfl
               have HKF : Hid (Ks w ((wE.drew.setCell ⟨G, 0, none⟩ (.pointer (some ⟨E1, 0, none⟩))).setCell ⟨G, 1, none⟩ (.pointer (some ⟨E2, 0, none⟩)))) := ((HK9.out.trans (Ks.drawn (Drawn.refl wE).drew)).setI HGW.out _ _).setI HGW.out _ _
               have HPQ : Hid (p ≤ q) := by
                 have := Inf.row_le HA.out
                 unfold Hid; omega
               clear HQ1 HQ2 m1 m2 g1 g2 HTD HSD HT9 HS9 HK9
               obtain ⟨y0, y1⟩ := HCE.out (.pointer (some ⟨E1, 0, none⟩)) (.pointer (some ⟨E2, 0, none⟩))
               go_region
               all_goals go_wp2_with fail
               all_goals exact bodyPost_ret (HF.out.ret rfl rfl) rfl (.inr ⟨_, _, q, E1, E2, HCO.out, HM1.out, HM2.out, rfl, HG1.out, HG2.out, HSF.out, HKF.out, HPQ.out⟩)
 · have HG := Lib.hid (sget_no 14 w0 _ g r L V p T vt M fl fd HS0.out hL (by omega))
   have HE : Hid (RD = .err 4) := by unfold Hid; rw [hrd]; exact Inf.dyn_few (by omega)
   clear h hrd hb hL hX hnl hnd hnc hfew
   go_enter Tryz.func84, Tryz.ntmps84
   go_wp2_with fail
   refine HG.out.mono ?_
   rintro e w1' ⟨rfl, h1⟩
   have K1 := Lib.hid (HS0.out.drawn h1)
   have K3 := Lib.hid (HT0.out.ks (Ks.drawn h1))
   clear h1 HG HK0 HS0 HT0 c0
   generalize w.heap.size = G at *
   have d0 := K3.out.c0
   have d1 := K3.out.c1
   have d2 := K3.out.fr
   go_wp2_with fail
   have HF : Hid (Two ((w1'.setCell ⟨G, 0, none⟩ (.pointer none)).setCell ⟨G, 1, none⟩ (.pointer none)) G none none ∧ Below w0.heap.size w0 ((w1'.setCell ⟨G, 0, none⟩ (.pointer none)).setCell ⟨G, 1, none⟩ (.pointer none))) := ⟨K3.out.set _ _, Two.bel K1.out.bel HLO.out⟩
   exact bodyPost_ret (HF.out.1.ret rfl rfl) rfl (.inl ⟨HE.out, ⟨none, none, rfl⟩, HF.out.2⟩)
end Go.Proofs.YtenkkononchgmaaGreatDoor
