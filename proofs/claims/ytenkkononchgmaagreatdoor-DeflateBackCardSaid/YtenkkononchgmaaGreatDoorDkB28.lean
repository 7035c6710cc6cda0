/- Laid together: DfTold. -/
import Derived.Test.YtenkkononchgmaaGreatDoorDkB27

namespace Go.Proofs.YtenkkononchgmaaGreatDoor
open Lz (Pc)

structure Inf.Rdb (b : List Int) (n V : Nat) : Prop where
 lt : V < 2 ^ n
 run : ∀ Vf N M, Vf % 2 ^ n = V → n ≤ N → b.length ≤ M → Inf.inflate Vf N M = .ok n b
def Inf.bars : Nat → List Int → List (Nat × Nat)
 | 0, _ => []
 | f + 1, B => if B.length < 65536 then Inf.barp 1 B else Inf.barp 0 (B.take 65535) ++ Inf.bars f (B.drop 65535)
theorem Inf.eights (B : List Int) : ∀ n, Inf.putn (B.map fun x => (x.toNat, 8)) n = n + 8 * B.length := by
 induction B with
 | nil => intro n; rfl
 | cons x B ih => intro n; rw [List.map_cons, Inf.putn, ih, List.length_cons]; omega
theorem Inf.barp_len (last : Nat) (B : List Int) (n : Nat) : Inf.putn (Inf.barp last B) n = n + 40 + 8 * B.length := by
 simp only [Inf.barp, Inf.beg, List.cons_append, List.nil_append, Inf.putn]
 rw [Inf.eights]
theorem Inf.bars_one {B : List Int} (h : B.length < 65536) (f : Nat) : Inf.bars (f + 1) B = Inf.barp 1 B := by rw [Inf.bars, if_pos h]
theorem Inf.bars_two {B : List Int} (h : 65536 ≤ B.length) (f : Nat) : Inf.bars (f + 1) B = Inf.barp 0 (B.take 65535) ++ Inf.bars f (B.drop 65535) := by rw [Inf.bars, if_neg (by omega)]
theorem Inf.bars_len (B : List Int) (h : B.length ≤ 65536) : Inf.putn (Inf.bars 2 B) 0 ≤ 8 * (B.length + 5 * (B.length / 65535 + 1) + 1) := by
 by_cases c : B.length < 65536
 · rw [Inf.bars_one c, Inf.barp_len]; omega
 · have h1 : (B.drop 65535).length = B.length - 65535 := List.length_drop ..
   have h2 : (B.take 65535).length = 65535 := by rw [List.length_take]; omega
   rw [Inf.bars_two (by omega), Inf.putn_app, Inf.bars_one (by omega), Inf.barp_len, Inf.barp_len]
   omega
theorem Inf.byt_take {B : List Int} (h : Lz.Byt B) (k : Nat) : Lz.Byt (B.take k) := fun x hx => h x (List.mem_of_mem_take hx)
theorem Inf.byt_drop {B : List Int} (h : Lz.Byt B) (k : Nat) : Lz.Byt (B.drop k) := fun x hx => h x (List.mem_of_mem_drop hx)
theorem Inf.bars_rd {B : List Int} (hb : Lz.Byt B) (h : B.length ≤ 65536) : Inf.Rdb B (Inf.putn (Inf.bars 2 B) 0) (Inf.putv (Inf.bars 2 B) 0 0) := by
 by_cases c : B.length < 65536
 · rw [Inf.bars_one c]
   have hk := Inf.bar_blk (T := []) hb c (n := 0) (V := 0) (by decide) (last := 1) (by decide) (by decide)
   rw [List.nil_append] at hk
   exact ⟨hk.lt, Inf.Str.nil.fin hk rfl⟩
 · have h1 : (B.drop 65535).length = B.length - 65535 := List.length_drop ..
   have h2 : (B.take 65535).length = 65535 := by rw [List.length_take]; omega
   rw [Inf.bars_two (by omega), Inf.bars_one (by omega), Inf.putn_app, Inf.putv_app]
   have hk := Inf.bar_blk (T := []) (Inf.byt_take hb 65535) (by omega) (n := 0) (V := 0) (by decide) (last := 0) (by decide) (by decide)
   rw [List.nil_append] at hk
   have hk2 := Inf.bar_blk (T := B.take 65535) (Inf.byt_drop hb 65535) (by omega) (by rw [Inf.barp_len]; omega) (last := 1) (by decide) hk.lt
   rw [List.take_append_drop] at hk2
   exact ⟨hk2.lt, (Inf.Str.nil.go hk (by decide)).fin hk2 rfl⟩
theorem Inf.par_ok {b : List Int} (hb : Lz.Byt b) (h : b.length ≤ 65536) : PcOk (Lz.par b) ∧ Lz.ex [] (Lz.par b) = some b := by
 have he := Lz.ex_par b [] (by simpa using h)
 rw [List.nil_append] at he
 refine ⟨Lz.ex_ok _ _ _ he (fun p hp => ?_), he⟩
 obtain ⟨h1, h2, h3⟩ := Lz.prs_mem hb _ _ p hp
 exact ⟨by omega, by omega, by omega⟩
theorem Inf.fix_rd {b : List Int} (hb : Lz.Byt b) (h : b.length ≤ 65536) : Inf.Rdb b (Inf.putn (Inf.fixp (Lz.par b)) 0) (Inf.putv (Inf.fixp (Lz.par b)) 0 0) := by
 obtain ⟨h1, h2⟩ := Inf.par_ok hb h
 have hk := Inf.fix_blk h1 h2 (n := 0) (V := 0) (by decide) (by simp)
 exact ⟨hk.lt, Inf.Str.nil.fin hk rfl⟩
def Inf.upl (x : List Nat) (least : Nat) : Nat → Nat
 | 0 => 0
 | n + 1 => if least < n + 1 ∧ x.getD n 0 = 0 then Inf.upl x least n else n + 1
theorem Inf.upl_ok (x : List Nat) (least : Nat) : ∀ n, least ≤ n → least ≤ Inf.upl x least n ∧ Inf.upl x least n ≤ n ∧ ∀ i, Inf.upl x least n ≤ i → i < n → x.getD i 0 = 0
 | 0, h => ⟨h, Nat.le_refl _, fun i _ hi => by omega⟩
 | n + 1, h => by
   rw [Inf.upl]
   by_cases c : least < n + 1 ∧ x.getD n 0 = 0
   · rw [if_pos c]
     obtain ⟨h1, h2, h3⟩ := Inf.upl_ok x least n (by omega)
     refine ⟨h1, by omega, fun i hi hn => ?_⟩
     rcases Nat.lt_or_ge i n with d | d
     · exact h3 i hi d
     · have : i = n := by omega
       rw [this]; exact c.2
   · rw [if_neg c]
     exact ⟨h, Nat.le_refl _, fun i h1 h2 => by omega⟩
theorem Inf.upl_cut (x : List Nat) (least : Nat) (h : least ≤ x.length) : Inf.Cut x (x.take (Inf.upl x least x.length)) (Inf.upl x least x.length) := by
 obtain ⟨h1, h2, h3⟩ := Inf.upl_ok x least x.length h
 refine ⟨h2, rfl, fun i hi => ?_⟩
 rcases Nat.lt_or_ge i x.length with d | d
 · exact h3 i hi d
 · rw [List.getD_eq_getElem?_getD, List.getElem?_eq_none d]; rfl
def Inf.cou (S : List Inf.Sm) (t : Nat) : Nat := S.countP fun s => decide (s.p = t)
theorem Inf.cou_pos {S : List Inf.Sm} {s : Inf.Sm} (h : s ∈ S) : 0 < Inf.cou S s.p := List.countP_pos_iff.2 ⟨s, h, by simp⟩
theorem Inf.cou_none {S : List Inf.Sm} {t : Nat} (h : ∀ s ∈ S, s.p ≠ t) : Inf.cou S t = 0 := List.countP_eq_zero.2 fun s hs => by simpa using h s hs
theorem Inf.cou_le (S : List Inf.Sm) (t : Nat) : Inf.cou S t ≤ S.length := List.countP_le_length
def Inf.wts (S : List Inf.Sm) (o : Nat) (t : Nat) : Int := (Inf.cou S (o + t) : Nat)
theorem Inf.wts_asked (S : List Inf.Sm) (o n K : Nat) (hS : S.length ≤ 1048576) (hn : n ≤ 288) (hK1 : 1 ≤ K) (hK : K ≤ 15) (hp : n ≤ 2 ^ K) : Hul.Asked (Inf.wts S o) n (K : Int) := by
 refine ⟨⟨by omega, by omega, by omega, fun i _ => ?_⟩, ?_⟩
 · have := Inf.cou_le S (o + i)
   unfold Inf.wts
   omega
 · have := Hul.pos_length (Inf.wts S o) n
   rw [Int.toNat_natCast]
   omega
def Inf.Lns (S : List Inf.Sm) (o n K : Nat) (x : List Nat) : Prop := ∃ len, Hul.Made (Inf.wts S o) n (K : Int) len ∧ x = lrow n len
structure Inf.LnOk (S : List Inf.Sm) (o n K : Nat) (x : List Nat) : Prop where
 len : x.length = n
 makes : Inf.Mk x
 le : ∀ t ∈ x, t ≤ K
 pos : ∀ s ∈ S, o ≤ s.p → s.p < o + n → 0 < x.getD (s.p - o) 0
 zero : ∀ t, t < n → Inf.cou S (o + t) = 0 → x.getD t 0 = 0
theorem Inf.Lns.ok {S : List Inf.Sm} {o n K : Nat} {x : List Nat} (h : Inf.Lns S o n K x) (hS : S.length ≤ 1048576) (hn : n ≤ 288) (hK1 : 1 ≤ K) (hK : K ≤ 15) (hp : n ≤ 2 ^ K) : Inf.LnOk S o n K x := by
 obtain ⟨len, hm, rfl⟩ := h
 have hg := hm.good (Inf.wts_asked S o n K hS hn hK1 hK hp)
 refine ⟨lrow_length _ _, lrow_mk hg.makes, fun t ht => ?_, fun s hs h1 h2 => ?_, fun t ht h0 => ?_⟩
 · obtain ⟨i, hi, rfl⟩ := List.mem_map.1 ht
   have := hg.le i (List.mem_range.1 hi)
   omega
 · rw [lrow_get _ (by omega)]
   have hc := Inf.cou_pos hs
   rcases Nat.eq_zero_or_pos (len (s.p - o)) with c | c
   · have := (hg.zero (s.p - o) (by omega)).1 c
     unfold Inf.wts at this
     rw [show o + (s.p - o) = s.p by omega] at this
     omega
   · exact c
 · rw [lrow_get _ ht]
   exact (hg.zero t ht).2 (by unfold Inf.wts; rw [h0]; rfl)
def Inf.Own (l : List Pc) (P : List (Nat × Nat)) : Prop :=
 ∃ x y C, Inf.Lns (Inf.txs l) 0 288 15 x ∧ Inf.Lns (Inf.txs l) 288 30 15 y ∧ Inf.Lns (Inf.sho (x.take (Inf.upl x 257 288) ++ y.take (Inf.upl y 1 30)) (x.take (Inf.upl x 257 288) ++ y.take (Inf.upl y 1 30)).length 0) 0 19 7 C
   ∧ P = Inf.ownp l x y (x.take (Inf.upl x 257 288)) (y.take (Inf.upl y 1 30)) C (Inf.upl (Inf.ino C) 4 19)
theorem Inf.txs_len (l : List Pc) : (Inf.txs l).length ≤ 2 * l.length + 1 := by
 have := Inf.psys_len l
 rw [Inf.txs, List.length_append]
 simp only [List.length_singleton]
 omega
theorem Inf.own_rd {b : List Int} {P : List (Nat × Nat)} (hb : Lz.Byt b) (h : b.length ≤ 65536) (ho : Inf.Own (Lz.par b) P) : Inf.Rdb b (Inf.putn P 0) (Inf.putv P 0 0) := by
 obtain ⟨hok, he⟩ := Inf.par_ok hb h
 have hl := Lz.par_length b
 have hS := Inf.txs_len (Lz.par b)
 obtain ⟨x, y, C, hx, hy, hC, rfl⟩ := ho
 have kx := hx.ok (by omega) (by omega) (by omega) (by omega) (by decide)
 have ky := hy.ok (by omega) (by omega) (by omega) (by omega) (by decide)
 have cx := Inf.upl_cut x 257 (by rw [kx.len]; omega)
 have cy := Inf.upl_cut y 1 (by rw [ky.len]; omega)
 rw [kx.len] at cx
 rw [ky.len] at cy
 obtain ⟨u1, u2, u3⟩ := Inf.upl_ok x 257 288 (by omega)
 obtain ⟨v1, v2, v3⟩ := Inf.upl_ok y 1 30 (by omega)
 have htx := Inf.txs_ok hok
 have z7 : x.getD 287 0 = 0 := kx.zero 287 (by omega) (Inf.cou_none fun s hs => (htx s hs).2.2)
 have z6 : x.getD 286 0 = 0 := kx.zero 286 (by omega) (Inf.cou_none fun s hs => (htx s hs).2.1)
 have u4 : Inf.upl x 257 288 ≤ 286 := by
   have e1 : Inf.upl x 257 288 = Inf.upl x 257 287 := by rw [Inf.upl, if_pos ⟨by omega, z7⟩]
   have e2 : Inf.upl x 257 287 = Inf.upl x 257 286 := by rw [Inf.upl, if_pos ⟨by omega, z6⟩]
   rw [e1, e2]
   exact (Inf.upl_ok x 257 286 (by omega)).2.1
 have hxy : ∀ t ∈ x.take (Inf.upl x 257 288) ++ y.take (Inf.upl y 1 30), t ≤ 15 := fun t ht => by
   rcases List.mem_append.1 ht with ht | ht
   · exact kx.le t (List.mem_of_mem_take ht)
   · exact ky.le t (List.mem_of_mem_take ht)
 have hR : (x.take (Inf.upl x 257 288) ++ y.take (Inf.upl y 1 30)).length ≤ 316 := by
   rw [List.length_append, List.length_take, List.length_take]; omega
 generalize hlx : x.take (Inf.upl x 257 288) = lx at *
 generalize hly : y.take (Inf.upl y 1 30) = ly at *
 have hsl := Inf.sho_len (lx ++ ly) hxy (lx ++ ly).length 0
 have kC := hC.ok (by omega) (by omega) (by omega) (by omega) (by decide)
 obtain ⟨w1, w2, w3⟩ := Inf.upl_ok (Inf.ino C) 4 19 (by omega)
 have hcov : Inf.Has (fun t => C.getD t 0) (Inf.sho (lx ++ ly) (lx ++ ly).length 0) := fun s hs => by
   have h19 := (Inf.sho_ok (lx ++ ly) hxy _ _ s hs).1
   have := kC.pos s hs (by omega) (by omega)
   simpa using this
 have hh : Inf.Has (Inf.jd x y) (Inf.txs (Lz.par b)) := fun s hs => by
   have h318 := (htx s hs).1.1
   unfold Inf.jd
   split
   · have := kx.pos s hs (by omega) (by omega); simpa using this
   · exact ky.pos s hs (by omega) (by omega)
 have hk := Inf.own_blk (T := []) kx.makes ky.makes cx cy kC.makes kC.len (fun t ht => by have := kC.le t ht; omega) w1 w2 w3 u1 u4 v1 v2 hcov hh hok he (n := 0) (V := 0) (by decide) (by simp)
 exact ⟨hk.lt, Inf.Str.nil.fin hk rfl⟩
def Inf.sht (a b : List (Nat × Nat)) : List (Nat × Nat) := if Inf.putn b 0 < Inf.putn a 0 then b else a
def Inf.Dfl (b : List Int) (n V : Nat) : Prop := ∃ P, Inf.Own (Lz.par b) P ∧ n = Inf.putn (Inf.sht (Inf.sht (Inf.bars 2 b) (Inf.fixp (Lz.par b))) P) 0 ∧ V = Inf.putv (Inf.sht (Inf.sht (Inf.bars 2 b) (Inf.fixp (Lz.par b))) P) 0 0
theorem Inf.sht_or {p : List (Nat × Nat) → Prop} {a b : List (Nat × Nat)} (ha : p a) (hb : p b) : p (Inf.sht a b) := by
 unfold Inf.sht; split <;> assumption
theorem Inf.sht_le (a b : List (Nat × Nat)) : Inf.putn (Inf.sht a b) 0 ≤ Inf.putn a 0 ∧ Inf.putn (Inf.sht a b) 0 ≤ Inf.putn b 0 := by
 unfold Inf.sht; split <;> omega
theorem Inf.Dfl.rd {b : List Int} {n V : Nat} (h : Inf.Dfl b n V) (hb : Lz.Byt b) (hl : b.length ≤ 65536) : Inf.Rdb b n V := by
 obtain ⟨P, h1, rfl, rfl⟩ := h
 exact Inf.sht_or (p := fun L => Inf.Rdb b (Inf.putn L 0) (Inf.putv L 0 0)) (Inf.sht_or (p := fun L => Inf.Rdb b (Inf.putn L 0) (Inf.putv L 0 0)) (Inf.bars_rd hb hl) (Inf.fix_rd hb hl)) (Inf.own_rd hb hl h1)
theorem Inf.Dfl.bound {b : List Int} {n V : Nat} (h : Inf.Dfl b n V) (hl : b.length ≤ 65536) : (n + 7) / 8 ≤ b.length + 5 * (b.length / 65535 + 1) + 1 := by
 obtain ⟨P, h1, rfl, rfl⟩ := h
 have := (Inf.sht_le (Inf.sht (Inf.bars 2 b) (Inf.fixp (Lz.par b))) P).1
 have := (Inf.sht_le (Inf.bars 2 b) (Inf.fixp (Lz.par b))).1
 have := Inf.bars_len b hl
 omega
/-! Equal bytes. -/
theorem Lz.lgo_keep {b : List Int} {at_ : Nat} (hb : ∀ i, i < b.length → b.getD i 0 = b.getD 0 0) (hat : at_ + 3 ≤ b.length) : ∀ (k f : Nat) (best : Nat × Nat), f ≤ at_ → best.1 = min 258 (b.length - at_) → Lz.lgo b at_ k f best = best
 | 0, _, _, _, _ => rfl
 | k + 1, f, best, hf, h => by
   rw [Lz.lgo]
   rcases Lz.ahd_cases b f with h1 | ⟨i, hi, h1, -, -⟩
   · rw [if_pos (Or.inl h1)]
   · rw [h1]
     by_cases hw : (i : Int) = -1 ∨ (at_ : Int) - (i : Int) > 32768
     · rw [if_pos hw]
     · rw [if_neg hw]
       simp only [Int.toNat_natCast]
       rw [Lz.alk_all hb (by omega) (by omega), if_neg (by omega)]
       exact Lz.lgo_keep hb hat k i best (by omega) h
theorem Lz.lng_one {b : List Int} (hb : ∀ i, i < b.length → b.getD i 0 = b.getD 0 0) {at_ : Nat} (h1 : 1 ≤ at_) (hat : at_ + 3 ≤ b.length) : (Lz.lng b at_).2 = 1 := by
 have ha : Lz.ahd b at_ = ((at_ - 1 : Nat) : Int) := by
   unfold Lz.ahd
   rw [if_pos hat]
   obtain ⟨j, rfl⟩ : ∃ j, at_ = j + 1 := ⟨at_ - 1, by omega⟩
   rw [Lz.lastb, if_pos (show (b.getD j 0, b.getD (j + 1) 0, b.getD (j + 2) 0) = Lz.thr b (j + 1) from Lz.thr_same hb (i := j) (by omega) hat)]
   rfl
 unfold Lz.lng
 rw [Lz.lgo, ha, if_neg (by omega)]
 simp only [Int.toNat_natCast]
 rw [Lz.alk_all hb (by omega) (by omega), if_pos (by show _ > 0; omega), Lz.lgo_keep hb hat 15 _ _ (by omega) rfl]
 show at_ - (at_ - 1) = 1
 omega
theorem Lz.prs_one {b : List Int} (hb : ∀ i, i < b.length → b.getD i 0 = b.getD 0 0) : ∀ k at_, ∀ p ∈ Lz.prs b k at_, p.n = 0 ∨ p.d = 1
 | 0, _, p, h => by cases h
 | k + 1, at_, p, h => by
   rw [Lz.prs] at h
   by_cases h0 : at_ < b.length
   · rw [if_pos h0] at h
     by_cases ha : Lz.alone b at_
     · rw [if_pos ha] at h
       rcases List.mem_cons.1 h with rfl | h
       · exact .inl rfl
       · exact Lz.prs_one hb k _ p h
     · rw [if_neg ha] at h
       have g := Lz.lng_pos (fun e => ha (Or.inl e))
       rcases List.mem_cons.1 h with rfl | h
       · right
         show (((Lz.lng b at_).2 : Nat) : Int) = 1
         rw [Lz.lng_one hb (by have := g.d1; have := g.d2; omega) (by have := g.lo; have := g.le; omega)]
         rfl
       · exact Lz.prs_one hb k _ p h
   · rw [if_neg h0] at h; cases h
theorem Inf.fix_max : ∀ i, i < 288 → Inf.fixl.getD i 0 ≤ 9 := of_decide_eq_true (by kernel_rfl)
theorem Inf.fixd_max : ∀ i, i < 32 → Inf.fixd.getD i 0 ≤ 5 := of_decide_eq_true (by kernel_rfl)
theorem Inf.fix_few9 {p : Pc} (h : (p.isB ∧ 0 ≤ p.c ∧ p.c < 256) ∨ p.isM) (h1 : p.n = 0 ∨ p.d = 1) (n : Nat) : Inf.putn (Inf.tel (Inf.jw Inf.fixl Inf.fixd) (Inf.jd Inf.fixl Inf.fixd) (Inf.psy p)) n ≤ n + 19 := by
 by_cases e : p.n = 0
 · have ep : Inf.psy p = [⟨p.c.toNat, 0, 0⟩] := by unfold Inf.psy; rw [if_pos e]
   have hc : 0 ≤ p.c ∧ p.c < 256 := by
     rcases h with h | h
     · exact h.2
     · have := h.2.1; omega
   have ed : Inf.jd Inf.fixl Inf.fixd p.c.toNat = Inf.fixl.getD p.c.toNat 0 := by unfold Inf.jd; rw [if_pos (by omega)]
   have := Inf.fix_max p.c.toNat (by omega)
   rw [ep]
   simp only [Inf.tel, Inf.putn, ed]
   omega
 · have hM : p.isM := by
     rcases h with h | h
     · exact absurd h.1.1 e
     · exact h
   obtain ⟨_, h3, h4, h5, h6⟩ := hM
   have hd : p.d = 1 := by rcases h1 with h1 | h1; · exact absurd h1 e
                           · exact h1
   obtain ⟨a1, a2, a3⟩ := Inf.lb_ok (n := p.n.toNat) (by omega) (by omega)
   have ep : Inf.psy p = _ := if_neg e
   rw [ep, hd]
   have hk2 : Inf.lst Inf.dbs (1 : Int).toNat 30 = 0 := by decide
   rw [hk2]
   generalize Inf.lst Inf.lbs p.n.toNat 29 = k1 at *
   have ed1 : Inf.jd Inf.fixl Inf.fixd (257 + k1) = Inf.fixl.getD (257 + k1) 0 := by unfold Inf.jd; rw [if_pos (by omega)]
   have ed2 : Inf.jd Inf.fixl Inf.fixd (288 + 0) = Inf.fixd.getD 0 0 := rfl
   have b1 := Inf.fix_max (257 + k1) (by omega)
   have b2 := Inf.fixd_max 0 (by omega)
   have b3 := (Inf.lx_small k1 a1).1
   have b4 : Inf.dxs.getD 0 0 = 0 := rfl
   simp only [Inf.tel, Inf.putn, ed1, ed2, b4]
   omega
theorem Inf.fix_few19 : ∀ (l : List Pc) (n : Nat), PcOk l → (∀ p ∈ l, p.n = 0 ∨ p.d = 1) → Inf.putn (Inf.tel (Inf.jw Inf.fixl Inf.fixd) (Inf.jd Inf.fixl Inf.fixd) (Inf.psys l)) n ≤ n + 19 * l.length
 | [], n, _, _ => Nat.le_refl _
 | p :: r, n, h1, h2 => by
   have g1 := Inf.fix_few9 (h1 p (List.mem_cons_self ..)) (h2 p (List.mem_cons_self ..)) n
   rw [Inf.psys, Inf.tel_app, Inf.putn_app]
   have g2 := Inf.fix_few19 r (Inf.putn (Inf.tel (Inf.jw Inf.fixl Inf.fixd) (Inf.jd Inf.fixl Inf.fixd) (Inf.psy p)) n) (fun q hq => h1 q (List.mem_cons_of_mem _ hq)) (fun q hq => h2 q (List.mem_cons_of_mem _ hq))
   rw [List.length_cons]
   omega
theorem Inf.Dfl.runs {b : List Int} {n V : Nat} (h : Inf.Dfl b n V) (hb : Lz.Byt b) (hl : b.length ≤ 65536) (hs : ∀ i, i < b.length → b.getD i 0 = b.getD 0 0) : (n + 7) / 8 ≤ b.length / 100 + 16 := by
 obtain ⟨P, h1, rfl, rfl⟩ := h
 have g1 := (Inf.sht_le (Inf.sht (Inf.bars 2 b) (Inf.fixp (Lz.par b))) P).1
 have g2 := (Inf.sht_le (Inf.bars 2 b) (Inf.fixp (Lz.par b))).2
 have g3 : Inf.putn (Inf.fixp (Lz.par b)) 0 ≤ 12 + 19 * (Lz.par b).length := by
   obtain ⟨hok, _⟩ := Inf.par_ok hb hl
   have := Inf.fix_few19 (Lz.par b) 3 hok (Lz.prs_one hs _ _)
   have e : Inf.putn (Inf.fixp (Lz.par b)) 0 = Inf.putn (Inf.tel (Inf.jw Inf.fixl Inf.fixd) (Inf.jd Inf.fixl Inf.fixd) (Inf.psys (Lz.par b))) 3 + Inf.fixl.getD 256 0 := by
     simp only [Inf.fixp, Inf.beg, List.cons_append, List.nil_append, Inf.putn, Inf.txs, Inf.tel_app, Inf.putn_app, Inf.tel]
     rfl
   have := Inf.fix_max 256 (by omega)
   omega
 have g4 := Lz.par_same hs
 omega
end Go.Proofs.YtenkkononchgmaaGreatDoor
