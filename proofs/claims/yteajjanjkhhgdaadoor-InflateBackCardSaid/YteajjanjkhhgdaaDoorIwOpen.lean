/- A writer of bits beside a text; blocks that came in; pure words on pieces. -/
import Derived.Test.YteajjanjkhhgdaaDoorIwDyn
import Derived.Deep.SlicePairs

/- A writer of bits beside a text; blocks that came in; pure words on pieces. -/
namespace Go.Proofs.YteajjanjkhhgdaaDoor
open Go.RowKit Go
open Lz (Pc)

theorem walign_any (g n V : Nat) (v : Value) (w : World) (h : Wr w g n V v) (hn : n ≤ 1000000000) :
    Calls Tryd.prog 21 #[.pointer (some ⟨g, 0, none⟩)] w fun e w' => e = .returned (.tuple #[]) ∧
      ∃ v', Wr w' g (n + (8 - n % 8) % 8) V v' ∧ Fro w w' g v.ownBlock ∧ ∀ k, v'.ownBlock = some k → k < w.heap.size → v.ownBlock = some k := by
  have HPUT : Hid (∀ wx, Drawn w wx → Calls Tryd.prog 20 #[.pointer (some ⟨g, 0, none⟩), .int .u32 0, .int .i64 (((8 - n % 8) % 8 : Nat) : Int)] wx fun e w' => e = .returned (.bool true) ∧
      Hid (∃ v', Wr w' g (n + (8 - n % 8) % 8) V v' ∧ Fro w w' g v.ownBlock ∧ ∀ k, v'.ownBlock = some k → k < w.heap.size → v.ownBlock = some k)) := by
    intro wx hd
    refine (put_any g n V 0 ((8 - n % 8) % 8) v wx (h.drawn hd) (by omega) (by omega) hn).mono ?_
    rintro e w' ⟨he, v', h1, h2, h3⟩
    rw [Nat.zero_mod, Nat.zero_mul, Nat.add_zero] at h1
    refine ⟨he, v', h1, ?_, ?_⟩
    · obtain ⟨m, rfl⟩ := hd
      exact ⟨h2.os, h2.tape, h2.output, h2.size, h2.block⟩
    · obtain ⟨m, rfl⟩ := hd
      exact h3
  have HLEN := Lib.hid (wlen_any g n V v w h hn)
  clear h
  have HTW := Lib.hid (fun wx => toWhole_any n wx (by omega))
  clear hn
  generalize (8 - n % 8) % 8 = q at *
  go_enter Tryd.func21, Tryd.ntmps21
  go_wp2_with fail
  refine HLEN.out.mono ?_
  rintro e w1 ⟨rfl, hd⟩
  have HD := Lib.hid hd; clear hd
  go_wp2_with fail
  refine (HTW.out _).mono ?_
  rintro e w' ⟨rfl, rfl⟩
  go_wp2_with fail
  refine (HPUT.out _ HD.out).mono ?_
  rintro e w2 ⟨rfl, hp⟩
  go_wp2
  go_returns
  exact ⟨rfl, hp.out⟩

/-- a writer, and a text of the call's own that it does not touch -/
structure It (w0 w wz : World) (g n V : Nat) (vt : Value) (D : List Int) : Prop where
  iw : Iw w0 w wz g n V
  own : wz.ownsRow w0.heap.size 5 1 vt D.length (k8 D)
  wt : ∃ v, Wr wz g n V v ∧ ∀ k, vt.ownBlock = some k → v.ownBlock ≠ some k
theorem It.step {w0 w wz w' : World} {g n V n' V' : Nat} {vt v v' : Value} {D : List Int} (h : It w0 w wz g n V vt D) (hv : Wr wz g n V v) (hne : ∀ k, vt.ownBlock = some k → v.ownBlock ≠ some k) (h1 : Wr w' g n' V' v') (h2 : Fro wz w' g v.ownBlock) (h3 : ∀ k, v'.ownBlock = some k → k < wz.heap.size → v.ownBlock = some k) : It w0 w w' g n' V' vt D ∧ Kp g wz w' := by
  have hkp := h2.kp hv
  refine ⟨⟨⟨h2.below h.iw.bel h.iw.bel.size h.iw.lo (hv.lo h.iw.lo), h.iw.lo, ⟨v', h1⟩, h.iw.kp.trans hkp⟩, ?_, ⟨v', h1, fun k hk e => ?_⟩⟩, hkp⟩
  · refine Inf.own_other h.own fun k hk => ?_
    obtain ⟨_, cur, hc⟩ := Inf.own_type h.own hk
    exact h2.block k (Inf.lt_some hc) (Inf.ne_ty hc hv.row (by decide)) (hne k hk)
  · obtain ⟨_, cur, hc⟩ := Inf.own_type h.own hk
    exact hne k hk (h3 k e (Inf.lt_some hc))
theorem It.put {w0 w wz : World} {g n V : Nat} {vt : Value} {D : List Int} (h : It w0 w wz g n V vt D) (x k : Nat) (hx : x < 4294967296) (hk : k ≤ 32) (hxk : x < 2 ^ k) (hn : n ≤ 1000000000) :
    Calls Tryd.prog 20 #[.pointer (some ⟨g, 0, none⟩), .int .u32 (x : Int), .int .i64 (k : Int)] wz fun e w' => e = .returned (.bool true) ∧ It w0 w w' g (n + k) (V + x * 2 ^ n) vt D ∧ Kp g wz w' := by
  obtain ⟨v, hv, hne⟩ := h.wt
  refine (put_any g n V x k v wz hv hx hk hn).mono ?_
  rintro e w' ⟨he, v', h1, h2, h3⟩
  rw [Nat.mod_eq_of_lt hxk] at h1
  exact ⟨he, h.step hv hne h1 h2 h3⟩
theorem It.align {w0 w wz : World} {g n V : Nat} {vt : Value} {D : List Int} (h : It w0 w wz g n V vt D) (hn : n ≤ 1000000000) :
    Calls Tryd.prog 21 #[.pointer (some ⟨g, 0, none⟩)] wz fun e w' => e = .returned (.tuple #[]) ∧ It w0 w w' g (Inf.up n) V vt D ∧ Kp g wz w' := by
  obtain ⟨v, hv, hne⟩ := h.wt
  refine (walign_any g n V v wz hv hn).mono ?_
  rintro e w' ⟨he, v', h1, h2, h3⟩
  exact ⟨he, h.step hv hne h1 h2 h3⟩
theorem Lz.rep_pre (s : List Int) (d : Nat) : ∀ k, ∃ D, Lz.rep s d k = s ++ D
  | 0 => ⟨[], (List.append_nil s).symm⟩
  | k + 1 => by
    obtain ⟨D, h⟩ := Lz.rep_pre s d k
    rw [Lz.rep, h, List.append_assoc]
    exact ⟨_, rfl⟩
theorem Lz.ex_pre : ∀ (l : List Pc) (s t : List Int), Lz.ex s l = some t → ∃ D, t = s ++ D
  | [], s, t, h => by cases h; exact ⟨[], (List.append_nil s).symm⟩
  | p :: r, s, t, h => by
    rw [Lz.ex] at h
    split at h
    · obtain ⟨D, h1⟩ := Lz.ex_pre r _ t h
      obtain ⟨E, h2⟩ : ∃ E, Lz.one s p = s ++ E := by
        unfold Lz.one
        split
        · exact ⟨_, rfl⟩
        · exact Lz.rep_pre s _ _
      rw [h2, List.append_assoc] at h1
      exact ⟨_, h1⟩
    · cases h
theorem Lz.ex_ok : ∀ (l : List Pc) (s t : List Int), Lz.ex s l = some t → PcWf l → PcOk l
  | [], _, _, _, _ => fun p hp => by cases hp
  | q :: r, s, t, h, hw => by
    rw [Lz.ex] at h
    split at h
    · rename_i hf
      have h1 := Lz.ex_ok r _ t h (fun p hp => hw p (List.mem_cons_of_mem _ hp))
      intro p hp
      rcases List.mem_cons.1 hp with e | e
      · subst e
        rcases hf.1 with c | c
        · exact .inl ⟨c, (hw p (List.mem_cons_self ..)).1⟩
        · exact .inr c
      · exact h1 p e
    · cases h
theorem Inf.fixd_min : ∀ i, i < 32 → 1 ≤ Inf.fixd.getD i 0 := of_decide_eq_true (by kernel_rfl)
theorem fix_cov {l : List Pc} (h : PcOk l) : Cov Inf.fixl Inf.fixd l := fun p hp => by
  rcases h p hp with ⟨⟨h1, h2⟩, h3, h4⟩ | ⟨h1, h2, h3, h4, h5⟩
  · refine ⟨fun _ => ?_, fun e => absurd h1 e⟩
    have := Inf.fix_min p.c.toNat (by omega)
    omega
  · refine ⟨fun e => by omega, fun _ => ⟨?_, ?_⟩⟩
    · have h6 := (Inf.lb_ok (n := p.n.toNat) (by omega) (by omega)).1
      have := Inf.fix_min (257 + Inf.lst Inf.lbs p.n.toNat 29) (by omega)
      omega
    · have h6 := (Inf.db_ok (n := p.d.toNat) (by omega) (by omega)).1
      exact Inf.fixd_min _ (by omega)
/-- a block that came in: its kind, its pieces -/
structure Bk where
  k : Int
  ps : List Pc
/-- blocks that came in -/
structure BkAt (w : World) (a : Option Addr) (j : Nat) (b : Bk) (s o : Nat) (ap : Option Addr) (np cp : Nat) : Prop where
  ad : a = some ⟨s, o, none⟩
  lt : s < w.heap.size
  kd : w.cell? ⟨s, o + j * 2, none⟩ = some (.int .i64 b.k)
  pc : w.cell? ⟨s, o + j * 2 + 1, none⟩ = some (.slice ap np cp)
  len : np = b.ps.length
  pin : PcsIn w (.slice ap np cp) b.ps (fun _ => True)
  wf : PcWf b.ps
  nil : ap = none → cp = 0
  k0 : -9223372036854775808 ≤ b.k
  k1 : b.k ≤ 9223372036854775807
theorem BkAt.later {w w' : World} {a : Option Addr} {j : Nat} {b : Bk} {s o : Nat} {ap : Option Addr} {np cp : Nat} (h : BkAt w a j b s o ap np cp) (hb : Below w.heap.size w w') : BkAt w' a j b s o ap np cp :=
  ⟨h.ad, Nat.lt_of_lt_of_le h.lt hb.size, (hb.cell h.lt).trans h.kd, (hb.cell h.lt).trans h.pc, h.len, h.pin.later hb, h.wf, h.nil, h.k0, h.k1⟩
def BksIn (w : World) (a : Option Addr) (n : Nat) (L : List Bk) : Prop := n = L.length ∧ ∀ j b, L[j]? = some b → ∃ s o ap np cp, BkAt w a j b s o ap np cp
/-- the number of a stream's bytes, with more behind -/
theorem Bit.val_app : ∀ (A B : List Int), Bit.val (A ++ B) = Bit.val A + 2 ^ (8 * A.length) * Bit.val B
  | [], B => by simp [Bit.val]
  | x :: A, B => by
    have e : (2 : Nat) ^ (8 * (A.length + 1)) = 256 * 2 ^ (8 * A.length) := by rw [show 8 * (A.length + 1) = 8 + 8 * A.length by omega, Nat.pow_add]
    rw [List.cons_append, Bit.val, Bit.val, Bit.val_app A B, List.length_cons, e, Nat.mul_add, Nat.mul_assoc, Nat.add_assoc]
theorem Inf.val_more {V n : Nat} (hV : V < 2 ^ n) (M : List Int) : Bit.val (Bit.by V ((n + 7) / 8) ++ M) % 2 ^ n = V := by
  have h8 : n ≤ 8 * ((n + 7) / 8) := by omega
  have hlt : V < 2 ^ (8 * ((n + 7) / 8)) := Nat.lt_of_lt_of_le hV (Nat.pow_le_pow_right (by omega) h8)
  rw [Bit.val_app, Bit.val_by _ _ hlt, Bit.by_length]
  obtain ⟨d, hd⟩ : ∃ d, 8 * ((n + 7) / 8) = n + d := ⟨8 * ((n + 7) / 8) - n, by omega⟩
  rw [hd, Nat.pow_add, Nat.mul_assoc, Nat.add_mul_mod_self_left, Nat.mod_eq_of_lt hV]
end Go.Proofs.YteajjanjkhhgdaaDoor

/- Blocks that came in: what a row of them reads as. -/
namespace Go.Proofs.YteajjanjkhhgdaaDoor
open Go.RowKit Go
open Lz (Pc)

open Go.ChangeShapes Go.WideShapes Go.ChangeAt Go.Deep in
set_option maxRecDepth 100000 in
theorem pcs_of {H : Type} {enc : TypeId × Value → H} {W : World} {fuel : Nat} {c1 : Value} {y : DataW H × List MemPlace} (hf : DataW.trod enc Tryd.prog W 0 (fun _ => true) true fuel 33 [c1] = some y) :
    ∃ a len cap l, c1 = .slice a len cap ∧ len = l.length ∧ PcsIn W (.slice a len cap) l (fun _ => True) ∧ PcWf l ∧ (a = none → cap = 0) := by
  have hu : Tryd.prog.underlying 33 = some (.slice 79) := by kernel_rfl
  have hs := Tryd.underlying79
  have hc : Tryd.prog.cellsOf 79 = 3 := by kernel_rfl
  have k0 : Tryd.prog.cellsOf 5 = 1 := by kernel_rfl
  have k1 : Tryd.prog.cellsOf 3 = 1 := by kernel_rfl
  rcases open_slice hu hf with ⟨hcs, _⟩ | ⟨x, len, cap, m, n, D, Pl, hcs, _, hl, hm, hmm, _, hi⟩
  · injection hcs with e _
    subst e
    exact ⟨none, 0, 0, [], rfl, rfl, pcsIn_nil _ _, (fun p hp => by cases hp), fun _ => rfl⟩
  · injection hcs with e _
    subst e
    have hm' : m = cap := by simpa using hmm
    have key : ∀ i, i < len → ∃ p : Pc, (W.cell? (x.add (i * 3)) = some (.int .u8 p.c) ∧ W.cell? (x.add (i * 3 + 1)) = some (.int .i64 p.n) ∧ W.cell? (x.add (i * 3 + 2)) = some (.int .i64 p.d)) ∧
        (0 ≤ p.c ∧ p.c < 256) ∧ (-9223372036854775808 ≤ p.n ∧ p.n ≤ 9223372036854775807) ∧ (-9223372036854775808 ≤ p.d ∧ p.d ≤ 9223372036854775807) := by
      intro i hi'
      obtain ⟨cs', hcl, ht⟩ := hi i (by omega)
      rw [hc] at hcl
      obtain ⟨_, hlen, hat⟩ := World.cells?_some hcl
      obtain ⟨xs, n', _, _, _, hxl, hfl⟩ := DataW.trod_struct hs ht
      have q0 := hfl 0 _ rfl
      have q1 := hfl 1 _ rfl
      have q2 := hfl 2 _ rfl
      obtain ⟨c0, c1, c2, rfl⟩ : ∃ c0 c1 c2, cs' = [c0, c1, c2] := by
        match cs', hlen with
        | [c0, c1, c2], _ => exact ⟨c0, c1, c2, rfl⟩
      obtain ⟨y0, y1, y2, rfl⟩ : ∃ y0 y1 y2, xs = [y0, y1, y2] := by
        match xs, hxl with
        | [c0, c1, c2], _ => exact ⟨c0, c1, c2, rfl⟩
      have q0 : DataW.trod enc Tryd.prog W 0 (fun _ => true) true n' 5 [c0] = some y0 := by
        have this : DataW.trod enc Tryd.prog W 0 (fun _ => true) true n' 5 (([c0, c1, c2].drop 0).take (Tryd.prog.cellsOf 5)) = [y0, y1, y2][0]? := q0
        rw [k0] at this; exact this
      have q1 : DataW.trod enc Tryd.prog W 0 (fun _ => true) true n' 3 [c1] = some y1 := by
        have this : DataW.trod enc Tryd.prog W 0 (fun _ => true) true n' 3 (([c0, c1, c2].drop 1).take (Tryd.prog.cellsOf 3)) = [y0, y1, y2][1]? := q1
        rw [k1] at this; exact this
      have q2 : DataW.trod enc Tryd.prog W 0 (fun _ => true) true n' 3 [c2] = some y2 := by
        have this : DataW.trod enc Tryd.prog W 0 (fun _ => true) true n' 3 (([c0, c1, c2].drop 2).take (Tryd.prog.cellsOf 3)) = [y0, y1, y2][2]? := q2
        rw [k1] at this; exact this
      obtain ⟨z0, h0, _, w0⟩ := DataW.trod_int Tryd.underlying5 q0
      obtain ⟨z1, h1, _, w1⟩ := DataW.trod_int Tryd.underlying3 q1
      obtain ⟨z2, h2, _, w2⟩ := DataW.trod_int Tryd.underlying3 q2
      simp only [List.cons.injEq, and_true] at h0 h1 h2
      subst h0 h1 h2
      have a0 := hat 0 (by omega)
      have a1 := hat 1 (by omega)
      have a2 := hat 2 (by omega)
      rw [add_add] at a0 a1 a2
      have b0 := bounds_u8 w0
      have b1 := bounds_i64 w1
      have b2 := bounds_i64 w2
      exact ⟨⟨z0, z1, z2⟩, ⟨a0, a1, a2⟩, ⟨b0.1, by have := b0.2; show z0 < 256; omega⟩, ⟨b1.1, by have := b1.2; show z1 ≤ _; omega⟩, ⟨b2.1, by have := b2.2; show z2 ≤ _; omega⟩⟩
    let G : Nat → Pc := fun i => if h : i < len then (key i h).choose else ⟨0, 0, 0⟩
    have hG : ∀ i (h : i < len), G i = (key i h).choose := fun i h => dif_pos h
    refine ⟨some x, len, cap, (List.range len).map G, rfl, by simp, ⟨some x, cap, by simp, by simp; omega, ?_, fun hp => ?_⟩, fun p hp => ?_, fun e => by cases e⟩
    · simp only [maxLen] at hm; omega
    · simp at hp
      obtain ⟨b, off, spot⟩ := x
      have hspot : spot = none := by
        have := World.cell?_spot (key 0 hp).choose_spec.1.1
        simpa [Addr.add] using this
      subst hspot
      obtain ⟨q0, ⟨h0, -, -⟩, -⟩ := key 0 hp
      rw [Addr.add_mid] at h0
      refine ⟨b, off, rfl, trivial, World.block_lt_of_cell? W _ h0, fun j p hj => ?_⟩
      rw [List.getElem?_map] at hj
      obtain ⟨i, hi1, rfl⟩ := Option.map_eq_some_iff.1 hj
      have hjl : j < len := by have := (List.getElem?_eq_some_iff.1 hi1).1; simpa using this
      have e : i = j := by rw [List.getElem?_range hjl] at hi1; cases hi1; rfl
      subst e
      obtain ⟨c0, c1, c2⟩ := (key i hjl).choose_spec.1
      rw [← hG i hjl, Addr.add_mid] at c0 c1 c2
      rw [Nat.add_assoc, Nat.add_assoc]
      exact ⟨c0, c1, c2⟩
    · obtain ⟨i, hi1, rfl⟩ := List.mem_map.1 hp
      have hil : i < len := by simpa using hi1
      rw [hG i hil]
      exact (key i hil).choose_spec.2

open Go.ChangeShapes Go.WideShapes Go.ChangeAt Go.Deep in
set_option maxRecDepth 100000 in
theorem open_blks {H : Type} {enc : TypeId × Value → H} {W : World} {base : Nat} {v : Value} {d : DataW H} {p : List MemPlace} (hok : Value.okWide Tryd.prog W .any base 32 v)
    (h : DataW.Trod enc Tryd.prog W 0 (fun _ => true) true 32 v d p) :
    ∃ a len cap L, v = .slice a len cap ∧ BksIn W a len L := by
  have hu : Tryd.prog.underlying 32 = some (.slice 37) := by kernel_rfl
  have hs := Tryd.underlying37
  have hc : Tryd.prog.cellsOf 37 = 2 := by kernel_rfl
  have k0 : Tryd.prog.cellsOf 3 = 1 := by kernel_rfl
  have k1 : Tryd.prog.cellsOf 33 = 1 := by kernel_rfl
  obtain ⟨a, len, cap, rfl⟩ := okWide_slice hu hok
  obtain ⟨fuel, hf⟩ := h
  rcases open_slice_pairs hu hs hc rfl rfl k0 k1 hf with ⟨hcs, _⟩ | ⟨x, l, c, m, n, V0, V1, D0, D1, P0, P1, hcs, _, hl, hm, hmm, _, hi⟩
  · simp [Value.cells] at hcs
    obtain ⟨rfl, rfl, rfl⟩ := hcs
    exact ⟨none, 0, 0, [], rfl, rfl, fun j b hj => by simp at hj⟩
  · simp [Value.cells] at hcs
    obtain ⟨rfl, rfl, rfl⟩ := hcs
    have hm' : m = cap := by simpa using hmm
    have key : ∀ i, i < len → ∃ (b : Bk) (ap : Option Addr) (np cp : Nat), W.cell? (x.add (i * 2)) = some (.int .i64 b.k) ∧ W.cell? (x.add (i * 2 + 1)) = some (.slice ap np cp) ∧ np = b.ps.length ∧ PcsIn W (.slice ap np cp) b.ps (fun _ => True) ∧ PcWf b.ps ∧ (ap = none → cp = 0) ∧ -9223372036854775808 ≤ b.k ∧ b.k ≤ 9223372036854775807 := by
      intro i hi'
      obtain ⟨e0, e1, e2, e3⟩ := hi i (by omega)
      obtain ⟨z0, h0, _, w0⟩ := DataW.trod_int Tryd.underlying3 e2
      simp only [List.cons.injEq, and_true] at h0
      obtain ⟨ap, np, cp, ps, h1, h2, h3, h4, h5⟩ := pcs_of e3
      have b0 := bounds_i64 w0
      exact ⟨⟨z0, ps⟩, ap, np, cp, by rw [e0, h0], by rw [e1, h1], h2, h3, h4, h5, b0.1, by have := b0.2; show z0 ≤ _; omega⟩
    let G : Nat → Bk := fun i => if h : i < len then (key i h).choose else ⟨0, []⟩
    have hG : ∀ i (h : i < len), G i = (key i h).choose := fun i h => dif_pos h
    refine ⟨some x, len, cap, (List.range len).map G, rfl, by simp, fun j b hj => ?_⟩
    have hjl : j < len := by have := (List.getElem?_eq_some_iff.1 hj).1; simpa using this
    obtain ⟨bk, off, spot⟩ := x
    have hspot : spot = none := by
      obtain ⟨_, _, _, _, h0, _⟩ := key 0 (by omega)
      have := World.cell?_spot h0
      simpa [Addr.add] using this
    subst hspot
    rw [List.getElem?_map] at hj
    obtain ⟨i, hi1, rfl⟩ := Option.map_eq_some_iff.1 hj
    have e : i = j := by rw [List.getElem?_range hjl] at hi1; cases hi1; rfl
    subst e
    obtain ⟨ap, np, cp, h0, h1, h2, h3, h4, h5, h6, h7⟩ := (key i hjl).choose_spec
    rw [← hG i hjl] at h0 h2 h3 h4 h6 h7
    rw [Addr.add_mid] at h0 h1
    exact ⟨bk, off, ap, np, cp, rfl, World.block_lt_of_cell? W _ h0, h0, by rw [Nat.add_assoc]; exact h1, h2, h3, h4, h5, h6, h7⟩
end Go.Proofs.YteajjanjkhhgdaaDoor
