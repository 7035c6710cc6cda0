/- Laid together: DfMore IkCopy DfBackW. -/
import Derived.Test.YtenkkononchgmaaGreatDoorDkB46

namespace Go.Proofs.YtenkkononchgmaaGreatDoor

structure Inf.Pre (V1 N1 V N : Nat) : Prop where
 le : N1 ≤ N
 eq : V1 = V % 2 ^ N1
theorem Inf.Pre.num {V1 N1 V N p n : Nat} (h : Inf.Pre V1 N1 V N) (hp : p + n ≤ N1) : Inf.num V1 p n = Inf.num V p n := by
 obtain ⟨d, hd⟩ : ∃ d, N1 = p + (n + d) := ⟨N1 - p - n, by omega⟩
 unfold Inf.num
 rw [h.eq, hd, Nat.pow_add, Nat.mod_mul_right_div_self]
 exact Nat.mod_mod_of_dvd _ (Nat.pow_dvd_pow 2 (by omega))
theorem Inf.Pre.vl {V1 N1 V N p : Nat} (h : Inf.Pre V1 N1 V N) : ∀ k, p + k ≤ N1 → Huf.vl V1 p k = Huf.vl V p k
 | 0, _ => rfl
 | k + 1, hk => by
   have := h.num (p := p + k) (n := 1) (by omega)
   unfold Inf.num at this
   rw [Nat.pow_one] at this
   rw [Huf.vl, Huf.vl, h.vl k (by omega), this]
theorem Inf.Pre.hit {V1 N1 V N p k i n : Nat} {L : Nat → Int} (h : Inf.Pre V1 N1 V N) (hk : p + k ≤ N1) : Huf.Hit L n V1 p k i ↔ Huf.Hit L n V p k i := by
 unfold Huf.Hit
 rw [h.vl k hk]
theorem Inf.Pre.sy {l : List Nat} {V1 N1 V N p s q : Nat} (h : Inf.Pre V1 N1 V N) (e : Inf.sy l V1 N1 p = some (s, q)) : Inf.sy l V N p = some (s, q) ∧ q ≤ N1 := by
 rcases Inf.sy_cases l V1 N1 p with e1 | ⟨k, i, h1, e1⟩
 · rw [e1] at e; cases e
 · rw [e1] at e
   cases e
   have h2 := h1.1
   refine ⟨Inf.sy_some ⟨Nat.le_trans h2 h.le, (h.hit h2).mp h1.2.1, fun j hj t ht => h1.2.2 j hj t ((h.hit (by omega)).mpr ht)⟩, h2⟩
inductive Inf.More (N : Nat) {α : Type} : Inf.St α → Inf.St α → Prop
 | err (k : Int) (s : Inf.St α) : Inf.More N (.fin (.err k)) s
 | fin (q : Nat) (U : α) (h : q ≤ N) : Inf.More N (.fin (.ok q U)) (.fin (.ok q U))
 | go (q : Nat) (U : α) (h : q ≤ N) : Inf.More N (.go q U) (.go q U)
inductive Inf.MoreR (N : Nat) {α : Type} : Inf.R α → Inf.R α → Prop
 | err (k : Int) (s : Inf.R α) : Inf.MoreR N (.err k) s
 | ok (q : Nat) (U : α) (h : q ≤ N) : Inf.MoreR N (.ok q U) (.ok q U)
theorem Inf.MoreR.run {α : Type} {N : Nat} {f1 f2 : Nat → α → Inf.St α} (hs : ∀ p T, p ≤ N → Inf.More N (f1 p T) (f2 p T)) {p : Nat} {T : α} {r : Inf.R α} (h : Inf.Run f1 p T r) : p ≤ N → Inf.MoreR N r (Inf.runs f2 p T) := by
 induction h with
 | @fin p a r h =>
   intro hp
   have h1 := hs p a hp
   rw [h] at h1
   generalize e : f2 p a = s at h1
   cases h1 with
   | err k s => exact .err _ _
   | fin q U hq => rw [Inf.runs_fin e]; exact .ok _ _ hq
 | @go p q a b r h h2 ih =>
   intro hp
   have h1 := hs p a hp
   rw [h] at h1
   generalize e : f2 p a = s at h1
   cases h1 with
   | go q U hq => rw [Inf.runs_go e]; exact ih hq
theorem Inf.MoreR.runs {α : Type} {N : Nat} {f1 f2 : Nat → α → Inf.St α} (hs : ∀ p T, p ≤ N → Inf.More N (f1 p T) (f2 p T)) {p : Nat} {T : α} (hp : p ≤ N) : Inf.MoreR N (Inf.runs f1 p T) (Inf.runs f2 p T) := by
 by_cases hx : ∃ r, Inf.Run f1 p T r
 · obtain ⟨r, hr⟩ := hx
   rw [hr.eq]
   exact Inf.MoreR.run hs hr hp
 · have e : Inf.runs f1 p T = .err 4 := by unfold Inf.runs; rw [dif_neg hx]
   rw [e]
   exact .err _ _
theorem Inf.mfar_more {V1 N1 V N : Nat} (h : Inf.Pre V1 N1 V N) (y : List Nat) (M n q : Nat) (T : List Int) : Inf.More N1 (Inf.mfar y V1 N1 M n q T) (Inf.mfar y V N M n q T) := by
 unfold Inf.mfar
 cases e : Inf.sy y V1 N1 q with
 | none => exact .err _ _
 | some x =>
   obtain ⟨k, r⟩ := x
   rw [(h.sy e).1]
   dsimp only
   by_cases c1 : 29 < k ∨ N1 < r + Inf.dxs.getD k 0
   · rw [if_pos c1]; exact .err _ _
   · rw [if_neg c1, if_neg (show ¬ (29 < k ∨ N < r + Inf.dxs.getD k 0) by have := h.le; omega), h.num (p := r) (n := Inf.dxs.getD k 0) (by omega)]
     split
     · exact .err _ _
     · split
       · exact .err _ _
       · exact .go _ _ (by omega)
theorem Inf.cstep_more {V1 N1 V N : Nat} (h : Inf.Pre V1 N1 V N) (x y : List Nat) (M p : Nat) (T : List Int) : Inf.More N1 (Inf.cstep x y V1 N1 M p T) (Inf.cstep x y V N M p T) := by
 unfold Inf.cstep
 cases e : Inf.sy x V1 N1 p with
 | none => exact .err _ _
 | some z =>
   obtain ⟨s, q⟩ := z
   have h2 := (h.sy e).2
   rw [(h.sy e).1]
   dsimp only
   split
   · exact .fin _ _ h2
   · split
     · unfold Inf.mstep
       by_cases c1 : 285 < s ∨ N1 < q + Inf.lxs.getD (s - 257) 0
       · rw [if_pos c1]; exact .err _ _
       · rw [if_neg c1, if_neg (show ¬ (285 < s ∨ N < q + Inf.lxs.getD (s - 257) 0) by have := h.le; omega), h.num (p := q) (n := Inf.lxs.getD (s - 257) 0) (by omega)]
         exact Inf.mfar_more h y M _ _ T
     · split
       · exact .err _ _
       · exact .go _ _ h2
theorem Inf.coded_more {V1 N1 V N : Nat} (h : Inf.Pre V1 N1 V N) (x y : List Nat) (M p : Nat) (T : List Int) (hp : p ≤ N1) : Inf.MoreR N1 (Inf.coded x y V1 N1 M p T) (Inf.coded x y V N M p T) := by
 unfold Inf.coded
 split
 · exact Inf.MoreR.runs (fun p T _ => Inf.cstep_more h x y M p T) hp
 · exact .err _ _
theorem Inf.lstep_more {V1 N1 V N : Nat} (h : Inf.Pre V1 N1 V N) (t : List Nat) (n p : Nat) (A : List Nat) (hp : p ≤ N1) : Inf.More N1 (Inf.lstep t n V1 N1 p A) (Inf.lstep t n V N p A) := by
 unfold Inf.lstep
 split
 · exact .fin _ _ hp
 · cases e : Inf.sy t V1 N1 p with
   | none => exact .err _ _
   | some z =>
     obtain ⟨s, q⟩ := z
     rw [(h.sy e).1]
     dsimp only
     by_cases c0 : N1 < q + Inf.lw s
     · rw [if_pos (.inr (.inl c0))]; exact .err _ _
     · rw [h.num (p := q) (n := Inf.lw s) (by omega)]
       by_cases c1 : (s = 16 ∧ A.length = 0) ∨ N1 < q + Inf.lw s ∨ n < A.length + (Inf.lk s + Inf.num V q (Inf.lw s))
       · rw [if_pos c1]; exact .err _ _
       · rw [if_neg c1, if_neg (fun c => c1 (c.imp id (fun d => d.imp (fun d => absurd d (by have := h.le; omega)) id)))]
         exact .go _ _ (by omega)
theorem Inf.short_more {V1 N1 V N p : Nat} (h : Inf.Pre V1 N1 V N) : ∀ c, p + 3 * c ≤ N1 → Inf.short V1 p c = Inf.short V p c
 | 0, _ => rfl
 | c + 1, hc => by rw [Inf.short, Inf.short, Inf.short_more h c (by omega), h.num (p := p + 3 * c) (n := 3) (by omega)]
theorem Inf.dynamic_more {V1 N1 V N : Nat} (h : Inf.Pre V1 N1 V N) (M p : Nat) (T : List Int) : Inf.MoreR N1 (Inf.dynamic V1 N1 M p T) (Inf.dynamic V N M p T) := by
 unfold Inf.dynamic
 by_cases c0 : N1 < p + 14
 · rw [if_pos (.inl c0)]; exact .err _ _
 · rw [h.num (p := p) (n := 5) (by omega), h.num (p := p + 5) (n := 5) (by omega), h.num (p := p + 10) (n := 4) (by omega)]
   by_cases c1 : N1 < p + 14 ∨ 286 < 257 + Inf.num V p 5 ∨ 30 < 1 + Inf.num V (p + 5) 5 ∨ N1 < p + 14 + 3 * (4 + Inf.num V (p + 10) 4)
   · rw [if_pos c1]; exact .err _ _
   · rw [if_neg c1, if_neg (show ¬ (N < p + 14 ∨ 286 < 257 + Inf.num V p 5 ∨ 30 < 1 + Inf.num V (p + 5) 5 ∨ N < p + 14 + 3 * (4 + Inf.num V (p + 10) 4)) by have := h.le; omega), Inf.short_more h _ (by omega)]
     split
     · exact .err _ _
     · have hr := Inf.MoreR.runs (f1 := (Inf.lstep (Inf.short V (p + 14) (4 + Inf.num V (p + 10) 4)) (257 + Inf.num V p 5 + (1 + Inf.num V (p + 5) 5)) V1 N1)) (f2 := (Inf.lstep (Inf.short V (p + 14) (4 + Inf.num V (p + 10) 4)) (257 + Inf.num V p 5 + (1 + Inf.num V (p + 5) 5)) V N)) (fun p' A hp => Inf.lstep_more h _ _ p' A hp) (p := p + 14 + 3 * (4 + Inf.num V (p + 10) 4)) (T := []) (by omega)
       revert hr
       generalize Inf.runs (Inf.lstep (Inf.short V (p + 14) (4 + Inf.num V (p + 10) 4)) (257 + Inf.num V p 5 + (1 + Inf.num V (p + 5) 5)) V1 N1) (p + 14 + 3 * (4 + Inf.num V (p + 10) 4)) [] = r1
       generalize Inf.runs (Inf.lstep (Inf.short V (p + 14) (4 + Inf.num V (p + 10) 4)) (257 + Inf.num V p 5 + (1 + Inf.num V (p + 5) 5)) V N) (p + 14 + 3 * (4 + Inf.num V (p + 10) 4)) [] = r2
       intro hr
       cases hr with
       | err k s => exact .err _ _
       | ok q A hq =>
         dsimp only
         split
         · exact .err _ _
         · exact Inf.coded_more h _ _ M q T hq
theorem Inf.stored_more {V1 N1 V N : Nat} (h : Inf.Pre V1 N1 V N) (M p : Nat) (T : List Int) : Inf.MoreR N1 (Inf.stored V1 N1 M p T) (Inf.stored V N M p T) := by
 unfold Inf.stored
 by_cases c0 : Inf.up p + 32 ≤ N1
 · rw [h.num (p := Inf.up p) (n := 16) (by omega), h.num (p := Inf.up p + 16) (n := 16) (by omega)]
   generalize Inf.up p = u at *
   by_cases c1 : u + 32 ≤ N1 ∧ Inf.num V u 16 + Inf.num V (u + 16) 16 = 65535 ∧ u + 32 + 8 * Inf.num V u 16 ≤ N1
   · rw [if_pos c1, if_pos (show u + 32 ≤ N ∧ Inf.num V u 16 + Inf.num V (u + 16) 16 = 65535 ∧ u + 32 + 8 * Inf.num V u 16 ≤ N from ⟨by have := h.le; omega, c1.2.1, by have := h.le; omega⟩)]
     have e : Inf.byts V1 (u + 32) (Inf.num V u 16) = Inf.byts V (u + 32) (Inf.num V u 16) := by
       unfold Inf.byts
       refine List.map_congr_left fun i hi => ?_
       have := List.mem_range.mp hi
       rw [h.num (p := u + 32 + 8 * i) (n := 8) (by omega)]
     rw [e]
     split
     · exact .err _ _
     · exact .ok _ _ c1.2.2
   · rw [if_neg c1]; exact .err _ _
 · rw [if_neg (fun c => c0 c.1)]; exact .err _ _
theorem Inf.bstep_more {V1 N1 V N : Nat} (h : Inf.Pre V1 N1 V N) (M p : Nat) (T : List Int) : Inf.More N1 (Inf.bstep V1 N1 M p T) (Inf.bstep V N M p T) := by
 unfold Inf.bstep
 by_cases c : N1 < p + 3
 · rw [if_pos c]; exact .err _ _
 · rw [if_neg c, if_neg (show ¬ N < p + 3 by have := h.le; omega), h.num (p := p + 1) (n := 2) (by omega), h.num (p := p) (n := 1) (by omega)]
   have hr : Inf.MoreR N1 (Inf.block V1 N1 M (Inf.num V (p + 1) 2) (p + 3) T) (Inf.block V N M (Inf.num V (p + 1) 2) (p + 3) T) := by
     unfold Inf.block
     split
     · exact Inf.stored_more h M _ T
     · split
       · exact Inf.coded_more h _ _ M _ T (by omega)
       · split
         · exact Inf.dynamic_more h M _ T
         · exact .err _ _
   revert hr
   generalize Inf.block V1 N1 M (Inf.num V (p + 1) 2) (p + 3) T = r1
   generalize Inf.block V N M (Inf.num V (p + 1) 2) (p + 3) T = r2
   intro hr
   cases hr with
   | err k s => exact .err _ _
   | ok q U hq =>
     dsimp only
     split
     · exact .fin _ _ hq
     · exact .go _ _ hq
theorem Inf.inflate_more {V1 N1 V N M q : Nat} {T : List Int} (h : Inf.Pre V1 N1 V N) (e : Inf.inflate V1 N1 M = .ok q T) : Inf.inflate V N M = .ok q T ∧ q ≤ N1 := by
 have hr : Inf.MoreR N1 (Inf.inflate V1 N1 M) (Inf.inflate V N M) := Inf.MoreR.runs (fun p T _ => Inf.bstep_more h M p T) (Nat.zero_le _)
 rw [e] at hr
 generalize Inf.inflate V N M = r at hr
 cases hr with
 | ok q U hq => exact ⟨rfl, hq⟩
end Go.Proofs.YtenkkononchgmaaGreatDoor

namespace Go.Proofs.YtenkkononchgmaaGreatDoor
open Go.RowKit Go

set_option maxRecDepth 100000 in
set_option maxHeartbeats 1000000 in
theorem copy_any (B : List Int) (a : Option Addr) (n cap : Nat) (w : World) (hn : n = B.length) (hB : BytesIn w (.slice a n cap) B (fun _ => True)) (hna : a = none → cap = 0) (hl : n ≤ 1000000) :
   Calls Tryz.prog 16 #[.slice a n cap] w fun e w' => ∃ v, e = .returned v ∧ w'.ownsRow w.heap.size 5 1 v B.length (k8 B) ∧ Below w.heap.size w w' := by
 have HN := Lib.hid hn; clear hn
 have HB := Lib.hid hB; clear hB
 have HNA := Lib.hid hna; clear hna
 go_enter Tryz.func16, Tryz.ntmps16
 go_wp2_with (first | (at_builtin; refine wpList_append_bytes_b rfl (.tmp 4) (.tmp 5) rfl w.heap.size (.slice none 0 0) 0 [] rfl ⟨rfl, .inl ⟨rfl, rfl⟩⟩ _ B (fun _ => True) rfl HB.out (by intro n c e; cases e; exact HNA.out rfl) (by have := HN.out; omega) (Below.refl _ _) (Nat.le_refl _) ?_; intro v1 w1 o1 b1))
 have HO1 : Hid (w1.ownsRow w.heap.size 5 1 v1 B.length (k8 B)) := by
   have := o1.out
   rw [Nat.zero_add, List.nil_append] at this
   exact this
 clear o1 HB
 go_ret
 exact ⟨v1, rfl, HO1.out, b1.out⟩
end Go.Proofs.YtenkkononchgmaaGreatDoor

namespace Go.Proofs.YtenkkononchgmaaGreatDoor
open Go.RowKit Go

theorem Str.pos {B : List Int} {w : World} {n V m : Nat} {v : Value} (h : Str B w n V m v) (hb : Lz.Byt B) (hl : B.length ≤ 65536) : 0 < m := by
 have hr := h.dfl.rd hb hl
 have hn : 0 < n := by
   rcases Nat.eq_zero_or_pos n with e | e
   · have := hr.run V 0 B.length (Nat.mod_eq_of_lt hr.lt) (by omega) (Nat.le_refl _)
     have h2 : Inf.inflate V 0 B.length = .err 4 := Inf.runs_fin (by unfold Inf.bstep; rw [if_pos (by omega)])
     rw [h2] at this
     cases this
   · exact e
 have := h.len
 omega
theorem val_take (K : List Int) (hK : ∀ x ∈ K, 0 ≤ x ∧ x < 256) (c : Nat) (hc : c ≤ K.length) : Inf.Pre (Bit.val (K.take c)) (8 * c) (Bit.val K) (8 * K.length) := by
 have hl : (K.take c).length = c := by rw [List.length_take]; omega
 have h1 := Bit.val_lt (K.take c) (fun x hx => hK x (List.mem_of_mem_take hx))
 rw [hl] at h1
 refine ⟨by omega, ?_⟩
 have h2 : Bit.val K = Bit.val (K.take c) + 2 ^ (8 * c) * Bit.val (K.drop c) := by
   have := Bit.val_app (K.take c) (K.drop c)
   rwa [List.take_append_drop, hl] at this
 rw [h2, Nat.add_mul_mod_self_left, Nat.mod_eq_of_lt h1]
theorem Str.cut {B : List Int} {w : World} {n V m : Nat} {v : Value} (h : Str B w n V m v) (hb : Lz.Byt B) (hl : B.length ≤ 65536) (c : Nat) (hc : c < m) (wx : World) (a : Option Addr) (cap : Nat) (hT : Tabs wx) (hB : BytesIn wx (.slice a c cap) ((Bit.by V m).take c) (fun _ => True)) (l : Nat) (hL : l = B.length) :
   Calls Tryz.prog 15 #[.slice a c cap, .int .i64 (l : Int)] wx fun e w' => Below wx.heap.size wx w' ∧ ∃ k : Int, ¬ k = 0 ∧ e = .returned (.tuple #[.slice none 0 0, .int .i64 0, .int .i64 k]) := by
 have hm := h.le hl
 have hcl : c = ((Bit.by V m).take c).length := by rw [List.length_take, Bit.by_length]; omega
 refine (inflate_any ownC _ a c cap l wx hcl hB (fun x hx => Bit.by_bd V m x (List.mem_of_mem_take hx)) (by omega) (by omega) hT).mono fun e w' hx => ?_
 obtain ⟨h1, ⟨k, h2, h3, h4⟩ | ⟨q, T, vt, h2, -, -, -⟩⟩ := hx
 · exact ⟨h1, k, h3, h4⟩
 · exfalso
   obtain ⟨g1, g2⟩ := Inf.inflate_more (val_take (Bit.by V m) (Bit.by_bd V m) c (by rw [Bit.by_length]; omega)) h2
   have := h.run hb hl [] l (by omega)
   rw [List.append_nil] at this
   rw [this] at g1
   injection g1 with g1 _
   have := h.len
   omega
theorem Str.room {B : List Int} {w : World} {n V m : Nat} {v : Value} (h : Str B w n V m v) (hb : Lz.Byt B) (hl : B.length ≤ 65536) (r : Nat) (hr : r < B.length) (wx : World) (a : Option Addr) (cap : Nat) (hT : Tabs wx) (hB : BytesIn wx (.slice a m cap) (Bit.by V m) (fun _ => True)) :
   Calls Tryz.prog 15 #[.slice a m cap, .int .i64 (r : Int)] wx fun e w' => Told [] 0 3 wx e w' := by
 have hm := h.le hl
 have hrun := h.run hb hl [] B.length (Nat.le_refl _)
 rw [List.append_nil, Bit.by_length] at hrun
 exact told_pg_err (M := r) (Bit.by_length V m).symm (Bit.by_bd V m) (by omega) (by omega) ((Inf.inflate_lim hrun r).trans (if_neg (by omega))) wx a cap hT hB

set_option maxRecDepth 100000 in
set_option maxHeartbeats 4000000 in
theorem dback_walk (a : Option Addr) (n cap : Nat) (B : List Int) (a2 : Option Addr) (n2 cap2 : Nat) (B2 : List Int) (cut room : Int) (w : World) (hTD : Tabs w ∧ DTabs w) (hn : n = B.length) (hB : BytesIn w (.slice a n cap) B (fun _ => True)) (hb : ∀ x ∈ B, 0 ≤ x ∧ x < 256) (_hna : a = none → cap = 0) (_hl : n ≤ 140737488351232) (hn2 : n2 = B2.length) (hB2 : BytesIn w (.slice a2 n2 cap2) B2 (fun _ => True)) (hb2 : ∀ x ∈ B2, 0 ≤ x ∧ x < 256) (hna2 : a2 = none → cap2 = 0) (_hl2 : n2 ≤ 140737488351232) (hc0 : -9223372036854775808 ≤ cut) (hc1 : cut ≤ 9223372036854775807) (hr0 : -9223372036854775808 ≤ room) (hr1 : room ≤ 9223372036854775807) :
   Calls Tryz.prog 4 #[.slice a n cap, .slice a2 n2 cap2, .int .i64 cut, .int .i64 room] w fun e w' => e = .returned (.bool true) ∧ Below w.heap.size w w' := by
 obtain ⟨hT, hD⟩ := hTD
 have HAW := Lib.hid (awake7_any w hD)
 have HT := Lib.hid hT
 have HD := Lib.hid hD
 have HN := Lib.hid hn
 have HB := Lib.hid hB
 have HBB : Hid (Lz.Byt B) := hb
 have HN2 := Lib.hid hn2
 have HB2 := Lib.hid hB2
 have HBB2 : Hid (Lz.Byt B2) := hb2
 have HNA2 := Lib.hid hna2
 have HC : Hid (-9223372036854775808 ≤ cut ∧ cut ≤ 9223372036854775807) := ⟨hc0, hc1⟩
 have HR : Hid (-9223372036854775808 ≤ room ∧ room ≤ 9223372036854775807) := ⟨hr0, hr1⟩
 by_cases c1 : 20000 < n ∨ 1000 < n2
 · by_cases c2 : 20000 < n
   · have d1 : decide (20000 < (n : Int)) = true := decide_eq_true (by omega)
     clear hT hD hn hB hb _hna _hl hn2 hB2 hb2 hna2 _hl2 hc0 hc1 hr0 hr1 c1 c2
     go_enter Tryz.func4, Tryz.ntmps4
     go_wp2_with fail
     refine HAW.out.mono ?_
     rintro e w1 ⟨rfl, h1⟩
     have K := Lib.hid h1
     clear h1 HAW
     go_wp2
     go_ret
     exact ⟨rfl, K.out⟩
   · have d1 : decide (20000 < (n : Int)) = false := decide_eq_false (by omega)
     have d2 : decide (1000 < (n2 : Int)) = true := decide_eq_true (by omega)
     clear hT hD hn hB hb _hna _hl hn2 hB2 hb2 hna2 _hl2 hc0 hc1 hr0 hr1 c1 c2
     go_enter Tryz.func4, Tryz.ntmps4
     go_wp2_with fail
     refine HAW.out.mono ?_
     rintro e w1 ⟨rfl, h1⟩
     have K := Lib.hid h1
     clear h1 HAW
     go_wp2
     go_ret
     exact ⟨rfl, K.out⟩
 · have d1 : decide (20000 < (n : Int)) = false := decide_eq_false (by omega)
   have d2 : decide (1000 < (n2 : Int)) = false := decide_eq_false (by omega)
   have HNL : Hid (n ≤ 20000 ∧ n2 ≤ 1000) := by unfold Hid; omega
   have hnI : (n : Int) ≤ 20000 := by omega
   clear hT hD hn hB hb _hna _hl hn2 hB2 hb2 hna2 _hl2 hc0 hc1 hr0 hr1 c1
   go_enter Tryz.func4, Tryz.ntmps4
   go_wp2_with fail
   refine HAW.out.mono ?_
   rintro e w1 ⟨rfl, h1⟩
   have B1 := Lib.hid h1
   have HDF := Lib.hid (deflate_str B a n cap w1 HN.out (by have := HNL.out; omega) (later_bytes h1 HB.out) HBB.out (HD.out.later h1 (Nat.le_refl _)))
   clear h1 HAW
   go_wp2_with fail
   refine HDF.out.mono ?_
   rintro e w2 ⟨h1, nb, V, m, G, s2, rfl⟩
   have B2' : Hid (Below w.heap.size w w2) := B1.out.trans (h1.mono B1.out.size)
   have S2 := Lib.hid s2
   have hbd := s2.dfl.bound (by have := HN.out; have := HNL.out; omega)
   rw [← s2.len, ← HN.out] at hbd
   have hdb : decide ((n : Int) + 5 * ((n : Int) / 65535 + 1) + 1 < (m : Int)) = false := decide_eq_false (by omega)
   have HM : Hid (0 < m ∧ m ≤ 65547) := ⟨s2.pos HBB.out (by have := HN.out; have := HNL.out; omega), s2.le (by have := HN.out; have := HNL.out; omega)⟩
   clear h1 s2 HDF B1 hbd
   go_wp2_with fail
   refine (bound_any n _ (by have := HNL.out; omega)).mono ?_
   rintro e w3 ⟨rfl, rfl⟩
   go_wp2_with fail
   have HCP := Lib.hid (copy_any (Bit.by V m) _ m m w2 (Bit.by_length _ _).symm S2.out.byt (fun e => by cases e) (by have := HM.out; omega))
   refine HCP.out.mono ?_
   rintro e w3 ⟨v3, rfl, ho3, hb3⟩
   obtain ⟨a3, c3, rfl⟩ := own_slice ho3
   have B3 := Lib.hid hb3
   have BW3 : Hid (Below w.heap.size w w3) := B2'.out.trans (hb3.mono B2'.out.size)
   have O3 := Lib.hid ho3
   have Z23 : Hid (w2.heap.size ≤ w3.heap.size) := hb3.size
   rw [Bit.by_length] at O3
   rw [Bit.by_length]
   have HBM := Lib.hid (later_bytes BW3.out HB2.out)
   clear ho3 hb3 HCP
   obtain ⟨r, hr⟩ : ∃ r : Nat, room % (65537 - (n : Int)) = (r : Int) := ⟨(room % (65537 - (n : Int))).toNat, by have := Int.emod_nonneg room (show (65537 - (n : Int)) ≠ 0 by omega); omega⟩
   have HR65 : Hid (n + r ≤ 65536) := by have := Int.emod_lt_of_pos room (show (0 : Int) < 65537 - (n : Int) by omega); unfold Hid; omega
   have hrI : (r : Int) ≤ 65536 := by have := HR65.out; omega
   have HPK := Lib.hid (fun wx => pick_any room (65537 - (n : Int)) wx HR.out.1 HR.out.2 (by omega) (by omega))
   rw [hr] at HPK
   clear hr
   go_wp2_with (first | (at_builtin; refine wpList_append_bytes_b (w0 := w2) rfl (.tmp 47) (.tmp 48) rfl w2.heap.size _ m (k8 (Bit.by V m)) rfl O3.out _ B2 (fun _ => True) rfl HBM.out (by intro n c e; cases e; exact HNA2.out rfl) (by have := HM.out.2; have := HN2.out; have := HNL.out.2; omega) B3.out Z23.out ?_; intro v7 w7 o7 b7; obtain ⟨a7, c7, rfl⟩ := own_slice o7.out; have O7 := Lib.hid o7.out; have B7 := Lib.hid b7.out; clear o7 b7))
   have BW7 : Hid (Below w.heap.size w w7) := B2'.out.trans (B7.out.mono B2'.out.size)
   have HLN : Hid (m + B2.length = (Bit.by V m ++ B2).length) := by unfold Hid; rw [List.length_append, Bit.by_length]
   have HYB : Hid (BytesIn w7 (.slice a7 (m + B2.length) c7) (Bit.by V m ++ B2) (fun _ => True)) := by
     have h1 := O7.out
     rw [← k8_app, HLN.out] at h1
     rw [HLN.out]
     exact own_in h1
   have S7 := Lib.hid (S2.out.later B7.out)
   have HIN := Lib.hid (S7.out.pg HBB.out (by have := HNL.out; have := HN.out; omega) B2 HBB2.out (by have := HN2.out; have := HNL.out; omega) (n + r) (by have := HN.out; omega) HR65.out (m + B2.length) HLN.out w7 a7 c7 (HT.out.later BW7.out (Nat.le_refl _)) HYB.out)
   clear HYB O7 O3 B3 HBM S2 BW3
   rw [Int.natCast_add n r] at HIN
   refine (HPK.out _).mono ?_
   rintro e w8 ⟨rfl, rfl⟩
   clear HPK
   go_wp2_with fail
   refine HIN.out.mono ?_
   rintro e w9 ⟨h1, a9, c9, rfl, h2⟩
   have BW9 : Hid (Below w.heap.size w w9) := BW7.out.trans (h1.mono BW7.out.size)
   have S9 := Lib.hid (S7.out.later h1)
   have HSM := Lib.hid (same_any B a n cap a9 c9 w9 HN.out (by have := HNL.out; omega) (later_bytes BW9.out HB.out) (by have := own_in h2; rw [← HN.out] at this; exact this))
   rw [← HN.out]
   clear h1 h2 HIN S7 BW7
   go_wp2_with fail
   refine HSM.out.mono ?_
   rintro e w10 ⟨rfl, h1⟩
   have BW10 : Hid (Below w.heap.size w w10) := BW9.out.trans (h1.below _)
   have S10 := Lib.hid (S9.out.later (h1.below _))
   obtain ⟨c, hc⟩ : ∃ c : Nat, cut % (m : Int) = (c : Int) := ⟨(cut % (m : Int)).toNat, by have := Int.emod_nonneg cut (show (m : Int) ≠ 0 by have := HM.out; omega); omega⟩
   have hcm : c < m := by have := Int.emod_lt_of_pos cut (show (0 : Int) < (m : Int) by have := HM.out; omega); omega
   have HPC := Lib.hid (fun wx => pick_any cut (m : Int) wx HC.out.1 HC.out.2 (by have := HM.out; omega) (by have := HM.out; omega))
   rw [hc] at HPC
   have hsl := fun wx => slice_to (some ⟨G, 0, none⟩) m m c (by omega) wx
   have HCT : Hid (∀ wx : World, Below w10.heap.size w10 wx → Calls Tryz.prog 15 #[.slice (some ⟨G, 0, none⟩) c m, .int .i64 (n : Int)] wx fun e w' => Below wx.heap.size wx w' ∧ ∃ k : Int, ¬ k = 0 ∧ e = .returned (.tuple #[.slice none 0 0, .int .i64 0, .int .i64 k])) := fun wx hwx => by
     have ht := (S10.out.later hwx).byt
     have ht := BytesIn.take (B := Bit.by V m) (a := some ⟨G, 0, none⟩) (cap := m) (by rw [Bit.by_length]; exact ht) c (by rw [Bit.by_length]; omega)
     exact S10.out.cut HBB.out (by have := HN.out; have := HNL.out; omega) c hcm wx _ m (HT.out.later (BW10.out.trans (hwx.mono BW10.out.size)) (Nat.le_refl _)) ht n HN.out
   clear h1 HSM BW9 S9 hc
   go_wp2_with fail
   refine (HPC.out _).mono ?_
   rintro e w11 ⟨rfl, rfl⟩
   clear HPC
   go_wp2_with fail
   refine (HCT.out _ (Below.refl _ _)).mono ?_
   rintro e w12 ⟨h1, k, hk, rfl⟩
   have BW12 : Hid (Below w.heap.size w w12) := BW10.out.trans (h1.mono BW10.out.size)
   have S12 := Lib.hid (S10.out.later h1)
   have hk0 : (k == 0) = false := by simpa using hk
   clear h1 HCT S10 BW10 hk hsl hcm
   by_cases h0 : n = 0
   · have e0 : ((n : Int) == 0) = true := by simp; omega
     go_wp2
     go_ret
     exact ⟨rfl, BW12.out⟩
   · have e0 : ((n : Int) == 0) = false := by simp; omega
     obtain ⟨q, hq⟩ : ∃ q : Nat, room % (n : Int) = (q : Int) := ⟨(room % (n : Int)).toNat, by have := Int.emod_nonneg room (show (n : Int) ≠ 0 by omega); omega⟩
     have hqn : q < n := by have := Int.emod_lt_of_pos room (show (0 : Int) < (n : Int) by omega); omega
     have HPQ := Lib.hid (fun wx => pick_any room (n : Int) wx HR.out.1 HR.out.2 (by omega) (by omega))
     rw [hq] at HPQ
     have HRM := Lib.hid (S12.out.room HBB.out (by have := HN.out; have := HNL.out; omega) q (by have := HN.out; omega) w12 _ m (HT.out.later BW12.out (Nat.le_refl _)) S12.out.byt)
     clear hq h0 S12 hqn
     go_wp2_with fail
     refine (HPQ.out _).mono ?_
     rintro e w13 ⟨rfl, rfl⟩
     clear HPQ
     go_wp2_with fail
     refine HRM.out.mono ?_
     rintro e w14 ⟨h1, a14, c14, rfl, -⟩
     have BW14 : Hid (Below w.heap.size w w14) := BW12.out.trans (h1.mono BW12.out.size)
     clear h1 HRM BW12
     go_wp2
     go_ret
     exact ⟨rfl, BW14.out⟩
end Go.Proofs.YtenkkononchgmaaGreatDoor
