/- Laid together: InfLim InfOwnIn IkSame IkMark IkLent InfLawS DfAwk DfAwa DfRunsW. -/
import Derived.Laws.IdiomStrings
import Derived.Test.YtenkkononchgmaaGreatDoorDkB45
import Derived.Test.YtenkkononchgmaaGreatDoorDkB39

namespace Go.Proofs.YtenkkononchgmaaGreatDoor

theorem Inf.runs_ok {α : Type} {f : Nat → α → Inf.St α} {p q : Nat} {a b : α} (h : Inf.runs f p a = .ok q b) : Inf.Run f p a (.ok q b) := by
 by_cases hx : ∃ r, Inf.Run f p a r
 · obtain ⟨r, hr⟩ := hx
   rw [hr.eq] at h
   rw [← h]; exact hr
 · unfold Inf.runs at h
   rw [dif_neg hx] at h
   cases h
structure Inf.LimS (M : Nat) (s1 s2 : Inf.St (List Int)) : Prop where
 go : ∀ q U, s1 = .go q U → s2 = if U.length ≤ M then .go q U else .fin (.err 3)
 fin : ∀ q U, s1 = .fin (.ok q U) → s2 = if U.length ≤ M then .fin (.ok q U) else .fin (.err 3)
def Inf.Gro (f : Nat → List Int → Inf.St (List Int)) : Prop := ∀ p T q U, (f p T = .go q U ∨ f p T = .fin (.ok q U)) → T.length ≤ U.length
theorem Inf.Gro.run {f : Nat → List Int → Inf.St (List Int)} (hg : Inf.Gro f) {p : Nat} {T : List Int} {r : Inf.R (List Int)} (h : Inf.Run f p T r) : ∀ q U, r = .ok q U → T.length ≤ U.length := by
 induction h with
 | fin h => exact fun q U e => hg _ _ q U (.inr (by rw [h, e]))
 | go h _ ih => exact fun q U e => Nat.le_trans (hg _ _ _ _ (.inl h)) (ih q U e)
theorem Inf.lim_run {f1 f2 : Nat → List Int → Inf.St (List Int)} {M : Nat} (hg : Inf.Gro f1) (hs : ∀ p T, T.length ≤ M → Inf.LimS M (f1 p T) (f2 p T)) {p : Nat} {T : List Int} {r : Inf.R (List Int)} (h : Inf.Run f1 p T r) :
   T.length ≤ M → ∀ q U, r = .ok q U → Inf.runs f2 p T = if U.length ≤ M then .ok q U else .err 3 := by
 induction h with
 | fin h =>
   intro hT q U e
   have h1 := (hs _ _ hT).fin q U (by rw [h, e])
   by_cases c : U.length ≤ M
   · rw [if_pos c] at h1 ⊢; exact Inf.runs_fin h1
   · rw [if_neg c] at h1 ⊢; exact Inf.runs_fin h1
 | @go p q1 a b r h h2 ih =>
   intro hT q U e
   have h1 := (hs _ _ hT).go _ _ h
   by_cases c : b.length ≤ M
   · rw [if_pos c] at h1
     rw [Inf.runs_go h1]
     exact ih c q U e
   · rw [if_neg c] at h1
     have := hg.run h2 q U e
     rw [if_neg (by omega)]
     exact Inf.runs_fin h1
theorem Inf.cstep_gro (x y : List Nat) (V N M : Nat) : Inf.Gro (Inf.cstep x y V N M) := by
 intro p T q U h
 rcases Inf.sy_cases x V N p with e | ⟨k, i, h1, e⟩
 · rw [Inf.cstep_none e] at h; rcases h with h | h <;> cases h
 · rcases Nat.lt_trichotomy i 256 with c | c | c
   · rcases Nat.lt_or_ge T.length M with d | d
     · rw [Inf.cstep_go e c d] at h
       rcases h with h | h
       · cases h; simp
       · cases h
     · rw [Inf.cstep_long e c d] at h; rcases h with h | h <;> cases h
   · subst c
     rw [Inf.cstep_end e] at h
     rcases h with h | h
     · cases h
     · cases h; exact Nat.le_refl _
   · rw [Inf.cstep_match e c] at h
     unfold Inf.mstep Inf.mfar at h
     split at h
     · rcases h with h | h <;> cases h
     · split at h
       · rcases h with h | h <;> cases h
       · split at h
         · rcases h with h | h <;> cases h
         · split at h
           · rcases h with h | h <;> cases h
           · split at h
             · rcases h with h | h <;> cases h
             · rcases h with h | h
               · cases h; rw [Lz.rep_length]; omega
               · cases h
theorem Inf.cstep_lim (x y : List Nat) (V N M1 M : Nat) (p : Nat) (T : List Int) (hT : T.length ≤ M) : Inf.LimS M (Inf.cstep x y V N M1 p T) (Inf.cstep x y V N M p T) := by
 rcases Inf.sy_cases x V N p with e | ⟨k, i, h1, e⟩
 · rw [Inf.cstep_none e]
   exact ⟨fun q U h => (by cases h), fun q U h => (by cases h)⟩
 · rcases Nat.lt_trichotomy i 256 with c | c | c
   · rcases Nat.lt_or_ge T.length M1 with d | d
     · rw [Inf.cstep_go e c d]
       refine ⟨fun q U h => ?_, fun q U h => by cases h⟩
       cases h
       rw [List.length_append]
       rcases Nat.lt_or_ge T.length M with f | f
       · rw [if_pos (by simp; omega), Inf.cstep_go e c f]
       · rw [if_neg (by simp; omega), Inf.cstep_long e c f]
     · rw [Inf.cstep_long e c d]
       exact ⟨fun q U h => (by cases h), fun q U h => (by cases h)⟩
   · subst c
     rw [Inf.cstep_end e, Inf.cstep_end e]
     refine ⟨fun q U h => (by cases h), fun q U h => ?_⟩
     cases h
     rw [if_pos hT]
   · rw [Inf.cstep_match e c, Inf.cstep_match e c]
     unfold Inf.mstep Inf.mfar
     split
     · exact ⟨fun q U h => (by cases h), fun q U h => (by cases h)⟩
     · split
       · exact ⟨fun q U h => (by cases h), fun q U h => (by cases h)⟩
       · split
         · exact ⟨fun q U h => (by cases h), fun q U h => (by cases h)⟩
         · split
           · exact ⟨fun q U h => (by cases h), fun q U h => (by cases h)⟩
           · split
             · exact ⟨fun q U h => (by cases h), fun q U h => (by cases h)⟩
             · refine ⟨fun q U h => ?_, fun q U h => by cases h⟩
               cases h
               rw [Lz.rep_length]
               split <;> split <;> first | rfl | omega
def Inf.Lim (M : Nat) (T : List Int) (r1 r2 : Inf.R (List Int)) : Prop := ∀ q U, r1 = .ok q U → T.length ≤ U.length ∧ r2 = if U.length ≤ M then .ok q U else .err 3
theorem Inf.coded_lim (x y : List Nat) (V N M1 M p : Nat) (T : List Int) (hT : T.length ≤ M) : Inf.Lim M T (Inf.coded x y V N M1 p T) (Inf.coded x y V N M p T) := by
 intro q U h
 unfold Inf.coded at h ⊢
 by_cases c : Inf.Mk x ∧ Inf.Mk y
 · rw [if_pos c] at h ⊢
   have hr := Inf.runs_ok h
   exact ⟨(Inf.cstep_gro x y V N M1).run hr q U rfl, Inf.lim_run (Inf.cstep_gro x y V N M1) (Inf.cstep_lim x y V N M1 M) hr hT q U rfl⟩
 · rw [if_neg c] at h; cases h
theorem Inf.stored_lim (V N M1 M p : Nat) (T : List Int) : Inf.Lim M T (Inf.stored V N M1 p T) (Inf.stored V N M p T) := by
 intro q U h
 unfold Inf.stored at h ⊢
 split at h
 · rename_i c
   rw [if_pos c]
   split at h
   · cases h
   · cases h
     rw [List.length_append, Inf.byts_length]
     refine ⟨by omega, ?_⟩
     split <;> split <;> first | rfl | omega
 · cases h
theorem Inf.dynamic_lim (V N M1 M p : Nat) (T : List Int) (hT : T.length ≤ M) : Inf.Lim M T (Inf.dynamic V N M1 p T) (Inf.dynamic V N M p T) := by
 intro q U h
 unfold Inf.dynamic at h ⊢
 split at h
 · cases h
 · rename_i c1
   rw [if_neg c1]
   split at h
   · cases h
   · rename_i c2
     rw [if_neg c2]
     split at h
     · cases h
     · rename_i q1 A e
       first | rw [e] | skip
       try dsimp only
       split at h
       · cases h
       · rename_i c3
         rw [if_neg c3]
         exact Inf.coded_lim _ _ V N M1 M q1 T hT q U h
theorem Inf.block_lim (V N M1 M k p : Nat) (T : List Int) (hT : T.length ≤ M) : Inf.Lim M T (Inf.block V N M1 k p T) (Inf.block V N M k p T) := by
 unfold Inf.block
 split
 · exact Inf.stored_lim V N M1 M p T
 · split
   · exact Inf.coded_lim _ _ V N M1 M p T hT
   · split
     · exact Inf.dynamic_lim V N M1 M p T hT
     · exact fun q U h => by cases h
theorem Inf.block_gro (V N M k p : Nat) (T : List Int) (q : Nat) (U : List Int) (h : Inf.block V N M k p T = .ok q U) : T.length ≤ U.length := by
 exact (Inf.block_lim V N M T.length k p T (Nat.le_refl _) q U h).1
theorem Inf.bstep_lim (V N M1 M : Nat) (p : Nat) (T : List Int) (hT : T.length ≤ M) : Inf.LimS M (Inf.bstep V N M1 p T) (Inf.bstep V N M p T) := by
 unfold Inf.bstep
 by_cases c : N < p + 3
 · rw [if_pos c, if_pos c]
   exact ⟨fun q U h => (by cases h), fun q U h => (by cases h)⟩
 · rw [if_neg c, if_neg c]
   have hb := Inf.block_lim V N M1 M (Inf.num V (p + 1) 2) (p + 3) T hT
   cases hbl : Inf.block V N M1 (Inf.num V (p + 1) 2) (p + 3) T with
   | err k => exact ⟨fun q U h => (by cases h), fun q U h => (by cases h)⟩
   | ok q0 U0 =>
     have h2 := (hb q0 U0 hbl).2
     rw [h2]
     dsimp only
     by_cases d : Inf.num V p 1 = 1
     · rw [if_pos d]
       refine ⟨fun q U h => (by cases h), fun q U h => ?_⟩
       cases h
       by_cases f : U0.length ≤ M
       · rw [if_pos f, if_pos f]; dsimp only; rw [if_pos d]
       · rw [if_neg f, if_neg f]
     · rw [if_neg d]
       refine ⟨fun q U h => ?_, fun q U h => by cases h⟩
       cases h
       by_cases f : U0.length ≤ M
       · rw [if_pos f, if_pos f]; dsimp only; rw [if_neg d]
       · rw [if_neg f, if_neg f]
theorem Inf.bstep_gro (V N M : Nat) : Inf.Gro (Inf.bstep V N M) := by
 intro p T q U h
 have hb := fun q U => Inf.block_gro V N M (Inf.num V (p + 1) 2) (p + 3) T q U
 unfold Inf.bstep at h
 split at h
 · rcases h with h | h <;> cases h
 · split at h
   · rcases h with h | h <;> cases h
   · rename_i q0 U0 e
     split at h
     · rcases h with h | h
       · cases h
       · cases h; exact hb _ _ e
     · rcases h with h | h
       · cases h; exact hb _ _ e
       · cases h
theorem Inf.inflate_lim {V N M1 q : Nat} {T : List Int} (h : Inf.inflate V N M1 = .ok q T) (M : Nat) : Inf.inflate V N M = if T.length ≤ M then .ok q T else .err 3 :=
 Inf.lim_run (Inf.bstep_gro V N M1) (Inf.bstep_lim V N M1 M) (Inf.runs_ok h) (Nat.zero_le _) q T rfl
end Go.Proofs.YtenkkononchgmaaGreatDoor

namespace Go.Proofs.YtenkkononchgmaaGreatDoor
open Go.RowKit Go

theorem ownC : OwnC := fun w0 w g r L V p T vt M fl fd h hL => ownCodes_any w0 w g r L V p T vt M fl fd h hL
theorem Inf.eq_ok {V N M q : Nat} {T : List Int} {w w' : World} {e : Ending} (h : IfO w V N M e w') (h1 : Inf.inflate V N M = .ok q T) : Below w.heap.size w w' ∧ ∃ a cap, e = .returned (.tuple #[.slice a T.length cap, .int .i64 (((q + 7) / 8 : Nat) : Int), .int .i64 0]) ∧ T.length ≤ M ∧ w'.ownsRow (w.heap.size + 1) 5 1 (.slice a T.length cap) T.length (k8 T) := by
 obtain ⟨hb, ⟨k, h2, h3, h4⟩ | ⟨q', T', vt, h2, h3, h4, h5⟩⟩ := h
 · rw [h1] at h2; cases h2
 · rw [h1] at h2
   cases h2
   obtain ⟨a, cap, rfl⟩ := own_slice h5
   exact ⟨hb, a, cap, h4, h3, h5⟩
theorem Inf.eq_err {V N M : Nat} {k : Int} {w w' : World} {e : Ending} (h : IfO w V N M e w') (h1 : Inf.inflate V N M = .err k) : Below w.heap.size w w' ∧ e = .returned (.tuple #[.slice none 0 0, .int .i64 0, .int .i64 k]) ∧ ¬ k = 0 := by
 obtain ⟨hb, ⟨k, h2, h3, h4⟩ | ⟨q', T', vt, h2, h3, h4, h5⟩⟩ := h
 · rw [h1] at h2; cases h2; exact ⟨hb, h4, h3⟩
 · rw [h1] at h2; cases h2
end Go.Proofs.YtenkkononchgmaaGreatDoor

/- Rows of a call's own: they stay, and are read. -/
namespace Go.Proofs.YtenkkononchgmaaGreatDoor
open Go.RowKit Go

theorem own_in {w : World} {base : Nat} {v : Value} {T : List Int} (h : w.ownsRow base 5 1 v T.length (k8 T)) : BytesIn w v T (fun _ => True) :=
 (own_bytes h).mono (Nat.le_refl _) (fun _ _ _ => trivial) (fun _ _ _ _ => rfl)
end Go.Proofs.YtenkkononchgmaaGreatDoor

namespace Go.Proofs.YtenkkononchgmaaGreatDoor
open Go.RowKit Go

set_option maxRecDepth 100000 in
set_option maxHeartbeats 1000000 in
theorem same_any (B : List Int) (a : Option Addr) (n cap : Nat) (a2 : Option Addr) (c2 : Nat) (w : World) (hn : n = B.length) (hl : n ≤ 1000000) (h1 : BytesIn w (.slice a n cap) B (fun _ => True)) (h2 : BytesIn w (.slice a2 n c2) B (fun _ => True)) :
   Calls Tryz.prog 13 #[.slice a n cap, .slice a2 n c2] w fun e w' => e = .returned (.bool true) ∧ Drawn w w' := by
 have H1 := Lib.hid h1; clear h1
 have H2 := Lib.hid h2; clear h2
 have HN := Lib.hid hn; clear hn
 have HL := Lib.hid hl; clear hl
 go_enter Tryz.func13, Tryz.ntmps13
 go_wp2_with fail
 go_loopw [5] (fun v5 wr => ∃ i : Nat, i ≤ n ∧ v5 = .int .i64 (i : Int) ∧ Drawn w wr) (fun v5 _ => (n - intOf v5).toNat)
 case atStart => exact ⟨0, by omega, rfl, Drawn.refl _⟩
 case round =>
   obtain ⟨i, hi, rfl, hd⟩ := hrel
   have HD := Lib.hid hd; clear hd
   by_cases hlt : i < n
   · obtain ⟨s, o, rfl, k1⟩ : ∃ s o, a = some ⟨s, o, none⟩ ∧ w.cell? ⟨s, o + i, none⟩ = some (.int .u8 (B.getD i 0)) := by
       obtain ⟨a', cap', e, _, _, hc⟩ := H1.out
       injection e with e1 _ _
       obtain ⟨s, o, e2, _, _, hc⟩ := hc (by have := HN.out; omega)
       exact ⟨s, o, e1.trans e2, hc i (by have := HN.out; omega)⟩
     obtain ⟨s', o', rfl, k2⟩ : ∃ s o, a2 = some ⟨s, o, none⟩ ∧ w.cell? ⟨s, o + i, none⟩ = some (.int .u8 (B.getD i 0)) := by
       obtain ⟨a', cap', e, _, _, hc⟩ := H2.out
       injection e with e1 _ _
       obtain ⟨s, o, e2, _, _, hc⟩ := hc (by have := HN.out; omega)
       exact ⟨s, o, e1.trans e2, hc i (by have := HN.out; omega)⟩
     rw [← HD.out.cell] at k1 k2
     generalize B.getD i 0 = x at *
     have hi0 : (0 : Int) ≤ (i : Int) := by omega
     have hiI : (i : Int) < (n : Int) := by omega
     have hdn : decide (i < n) = true := decide_eq_true hlt
     have hnI : (n : Int) ≤ 1000000 := by have := HL.out; omega
     go_wp2_with fail
     go_quiet (fail)
     go_wp2
     exact ⟨⟨i + 1, by omega, by go_num, HD.out.drewN _⟩, by simp [intOf]; omega⟩
   · obtain rfl : i = n := by omega
     have hdn : decide (i < i) = false := decide_eq_false (by omega)
     go_wp2
     go_ret
     exact ⟨rfl, HD.out⟩
end Go.Proofs.YtenkkononchgmaaGreatDoor

namespace Go.Proofs.YtenkkononchgmaaGreatDoor
open Go.RowKit Go

end Go.Proofs.YtenkkononchgmaaGreatDoor

namespace Go.Proofs.YtenkkononchgmaaGreatDoor
open Go.RowKit Go

end Go.Proofs.YtenkkononchgmaaGreatDoor

namespace Go.Proofs.YtenkkononchgmaaGreatDoor
open Go.RowKit Go

def Told (T : List Int) (qi ki : Int) (wx : World) (e : Ending) (w' : World) : Prop :=
 Below wx.heap.size wx w' ∧ ∃ at_ c, e = .returned (.tuple #[.slice at_ T.length c, .int .i64 qi, .int .i64 ki]) ∧ w'.ownsRow wx.heap.size 5 1 (.slice at_ T.length c) T.length (k8 T)
theorem own_low {w : World} {b0 b1 n : Nat} {e : TypeId} {size : Nat} {v : Value} {xs : List Value} (h : w.ownsRow b1 e size v n xs) (hb : b0 ≤ b1) : w.ownsRow b0 e size v n xs := by
 refine ⟨h.1, ?_⟩
 rcases h.2 with h0 | ⟨g, cap, cur, e, q1, q2, q3⟩
 · exact .inl h0
 · exact .inr ⟨g, cap, cur, e, by omega, q2, q3⟩
theorem told_pg_ok {B : List Int} {n M q : Nat} {T : List Int} (hn : n = B.length) (hb : ∀ x ∈ B, 0 ≤ x ∧ x < 256) (hl : n ≤ 100000) (hM : M ≤ 65536) (h : Inf.inflate (Bit.val B) (8 * n) M = .ok q T) (wx : World) (a : Option Addr) (cap : Nat) (hT : Tabs wx) (hB : BytesIn wx (.slice a n cap) B (fun _ => True)) :
   Calls Tryz.prog 15 #[.slice a n cap, .int .i64 (M : Int)] wx fun e w' => Told T (((q + 7) / 8 : Nat) : Int) 0 wx e w' :=
 (inflate_any ownC B a n cap M wx hn hB hb (by omega) hM hT).mono fun e w' hx => by
   obtain ⟨h1, at_, c, h2, h3, h4⟩ := Inf.eq_ok hx h
   exact ⟨h1, at_, c, h2, own_low h4 (by omega)⟩
theorem told_pg_err {B : List Int} {n M : Nat} {k : Int} (hn : n = B.length) (hb : ∀ x ∈ B, 0 ≤ x ∧ x < 256) (hl : n ≤ 100000) (hM : M ≤ 65536) (h : Inf.inflate (Bit.val B) (8 * n) M = .err k) (wx : World) (a : Option Addr) (cap : Nat) (hT : Tabs wx) (hB : BytesIn wx (.slice a n cap) B (fun _ => True)) :
   Calls Tryz.prog 15 #[.slice a n cap, .int .i64 (M : Int)] wx fun e w' => Told [] 0 k wx e w' :=
 (inflate_any ownC B a n cap M wx hn hB hb (by omega) hM hT).mono fun e w' hx => by
   obtain ⟨h1, h2, -⟩ := Inf.eq_err hx h
   exact ⟨h1, none, 0, h2, World.ownsRow_nil _ _ _ _⟩
end Go.Proofs.YtenkkononchgmaaGreatDoor

namespace Go.Proofs.YtenkkononchgmaaGreatDoor
open Go.RowKit Go

theorem deflate_long (a : Option Addr) (n cap : Nat) (w : World) (hn : 65536 < n) :
   Calls Tryz.prog 8 #[.slice a n cap] w fun e w' => e = .returned (.tuple #[.slice none 0 0, .int .i64 3]) ∧ w = w' := by
 have d0 : decide ((65536 : Int) < (n : Int)) = true := decide_eq_true (by omega)
 clear hn
 go_enter Tryz.func8, Tryz.ntmps8
 go_wp2
 go_returns
 exact ⟨rfl, rfl⟩
theorem bound_no (n : Int) (w : World) (hn : n < 0 ∨ 65536 < n) :
   Calls Tryz.prog 11 #[.int .i64 n] w fun e w' => e = .returned (.int .i64 0) ∧ w = w' := by
 by_cases h0 : n < 0
 · have d0 : decide (n < 0) = true := decide_eq_true h0
   clear hn h0
   go_enter Tryz.func11, Tryz.ntmps11
   go_wp2
   go_returns
   exact ⟨rfl, rfl⟩
 · have d0 : decide (n < 0) = false := decide_eq_false h0
   have d1 : decide (65536 < n) = true := decide_eq_true (by omega)
   clear hn h0
   go_enter Tryz.func11, Tryz.ntmps11
   go_wp2
   go_returns
   exact ⟨rfl, rfl⟩
theorem bound_any (n : Nat) (w : World) (hn : n ≤ 65536) :
   Calls Tryz.prog 11 #[.int .i64 (n : Int)] w fun e w' => e = .returned (.int .i64 ((n + 5 * (n / 65535 + 1) + 1 : Nat) : Int)) ∧ w = w' := by
 have d0 : decide ((n : Int) < 0) = false := decide_eq_false (by omega)
 have d1 : decide (65536 < (n : Int)) = false := decide_eq_false (by omega)
 have hnI : (n : Int) ≤ 65536 := by omega
 clear hn
 go_enter Tryz.func11, Tryz.ntmps11
 go_wp2
 go_returns
 exact ⟨rfl, rfl⟩

structure Str (B : List Int) (w : World) (n V m : Nat) (v : Value) : Prop where
 dfl : Inf.Dfl B n V
 len : m = (n + 7) / 8
 form : ∃ G, v = .slice (some ⟨G, 0, none⟩) m m
 byt : BytesIn w v (Bit.by V m) (fun _ => True)
theorem Str.later {B : List Int} {w w' : World} {n V m : Nat} {v : Value} (h : Str B w n V m v) (hb : Below w.heap.size w w') : Str B w' n V m v := ⟨h.dfl, h.len, h.form, later_bytes hb h.byt⟩
theorem Str.le {B : List Int} {w : World} {n V m : Nat} {v : Value} (h : Str B w n V m v) (hl : B.length ≤ 65536) : m ≤ 65547 := by
 have := h.dfl.bound hl
 rw [← h.len] at this
 omega
theorem Str.run {B : List Int} {w : World} {n V m : Nat} {v : Value} (h : Str B w n V m v) (hb : Lz.Byt B) (hl : B.length ≤ 65536) (K : List Int) (M : Nat) (hM : B.length ≤ M) : Inf.inflate (Bit.val (Bit.by V m ++ K)) (8 * (Bit.by V m ++ K).length) M = .ok n B := by
 have hr := h.dfl.rd hb hl
 refine hr.run _ _ _ ?_ ?_ hM
 · rw [h.len]; exact Inf.val_more hr.lt K
 · rw [List.length_append, Bit.by_length]; have := h.len; omega
theorem deflate_str (B : List Int) (ab : Option Addr) (nb cb : Nat) (w : World) (hnb : nb = B.length) (hl : nb ≤ 65536) (hB : BytesIn w (.slice ab nb cb) B (fun _ => True)) (hbyt : Lz.Byt B) (hT : DTabs w) :
   Calls Tryz.prog 8 #[.slice ab nb cb] w fun e w' => Below w.heap.size w w' ∧ ∃ n V m G, Str B w' n V m (.slice (some ⟨G, 0, none⟩) m m) ∧ e = .returned (.tuple #[.slice (some ⟨G, 0, none⟩) m m, .int .i64 0]) :=
 (deflate_any B ab nb cb w hnb hl hB hbyt hT).mono fun e w' ⟨h1, n, V, G, m, h2, h3, h4, h5, h6⟩ => by
   refine ⟨h1, n, V, m, G, ⟨h2, h3, ⟨G, rfl⟩, some ⟨G, 0, none⟩, m, by rw [Bit.by_length], by rw [Bit.by_length]; exact Nat.le_refl _, ?_, fun _ => ⟨G, 0, rfl, trivial, Inf.lt_some h5, fun j hj => ?_⟩⟩, h6⟩
   · have := h2.bound (by omega)
     omega
   · rw [Nat.zero_add]
     exact k8_cell h5 j hj

set_option maxRecDepth 100000 in
set_option maxHeartbeats 1000000 in
theorem says_any (B : List Int) (n V m G : Nat) (ab : Option Addr) (nb cb : Nat) (w : World) (hS : Str B w n V m (.slice (some ⟨G, 0, none⟩) m m)) (hnb : nb = B.length) (hl : nb ≤ 65536) (hB : BytesIn w (.slice ab nb cb) B (fun _ => True)) (hbyt : Lz.Byt B) :
   Calls Tryz.prog 12 #[.slice (some ⟨G, 0, none⟩) m m, .slice ab nb cb] w fun e w' => e = .returned (.bool true) ∧ Below w.heap.size w w' := by
 have hm := hS.le (by omega)
 have hrun := hS.run hbyt (by omega) [] nb (by omega)
 rw [List.append_nil, Bit.by_length] at hrun
 have HRF := Lib.hid (rinflate_any (Bit.by V m) (some ⟨G, 0, none⟩) m m nb w (Bit.by_length V m).symm hS.byt (Bit.by_bd V m) (by omega) hl)
 have HRUN := Lib.hid hrun
 have HM := Lib.hid hS.len
 have HNB := Lib.hid hnb
 have HL := Lib.hid hl
 have HB := Lib.hid hB
 clear hm hrun hS hnb hl hB hbyt
 go_enter Tryz.func12, Tryz.ntmps12
 go_wp2_with fail
 refine HRF.out.mono ?_
 rintro e w1 ⟨h1, ⟨k, h2, -, -⟩ | ⟨q, T, vt, h2, h3, rfl, h5⟩⟩
 · exact absurd (h2.symm.trans HRUN.out) (by intro h; cases h)
 · have e1 := h2.symm.trans HRUN.out
   injection e1 with e1 e2
   subst e1 e2
   obtain ⟨a', c', rfl⟩ := own_slice h5
   rw [← HM.out, ← HNB.out]
   have B1 := Lib.hid h1
   rw [← HNB.out] at h5
   have HSM := Lib.hid (same_any T ab nb cb a' c' w1 HNB.out (by have := HL.out; omega) (later_bytes h1 HB.out) (by have := HNB.out; subst this; exact own_in h5))
   clear h1 h2 h3 h5 HRF HRUN
   go_wp2_with fail
   refine HSM.out.mono ?_
   rintro e w2 ⟨rfl, h1⟩
   have B2 : Hid (Below w.heap.size w w2) := B1.out.trans (h1.below _)
   clear h1 HSM B1
   go_wp2
   go_ret
   exact ⟨rfl, B2.out⟩
end Go.Proofs.YtenkkononchgmaaGreatDoor

namespace Go.Proofs.YtenkkononchgmaaGreatDoor
open Go.RowKit Go

theorem Inf.zb (n : Nat) : Lz.Byt (List.replicate n (0 : Int)) := by
 intro x hx
 obtain ⟨-, rfl⟩ := List.mem_replicate.mp hx
 omega
theorem Inf.zs (n : Nat) : ∀ i, i < (List.replicate n (0 : Int)).length → (List.replicate n (0 : Int)).getD i 0 = (List.replicate n (0 : Int)).getD 0 0 := by
 intro i _
 simp only [List.getD_eq_getElem?_getD, List.getElem?_replicate]
 split <;> split <;> rfl
theorem zero_in (n : Nat) (hn : n ≤ 1000000) (w : World) (G : Nat) (h : w.heap[G]? = some (.cells (k8 (List.replicate n 0)).toArray 5 (0, 0))) : BytesIn w (.slice (some ⟨G, 0, none⟩) n n) (List.replicate n 0) (fun _ => True) :=
 ⟨some ⟨G, 0, none⟩, n, by rw [List.length_replicate], by rw [List.length_replicate]; exact Nat.le_refl _, by omega, fun _ => ⟨G, 0, rfl, trivial, Inf.lt_some h, fun j hj => by rw [Nat.zero_add]; exact k8_cell h j hj⟩⟩
set_option maxRecDepth 100000 in
set_option maxHeartbeats 1000000 in
theorem awake7_any (w : World) (hT : DTabs w) :
   Calls Tryz.prog 6 #[] w fun e w' => e = .returned (.bool true) ∧ Below w.heap.size w w' := by
 have HT := Lib.hid hT
 have H0 := Lib.hid (deflate_str [] none 0 0 w rfl (by omega) (bytesIn_nil w _) (by intro x hx; cases hx) hT)
 have hz3 : ∀ w : World, (Instr.makeSlice 22 (.int .i64 300) (.int .i64 300)).run Tryz.prog w = .ok (.slice (some ⟨w.heap.size, 0, none⟩) 300 300) (w.alloc (.cells (k8 (List.replicate 300 0)).toArray 5)) := fun w => run_zeros 300 (by omega) w
 have hz6 : ∀ w : World, (Instr.makeSlice 22 (.int .i64 65537) (.int .i64 65537)).run Tryz.prog w = .ok (.slice (some ⟨w.heap.size, 0, none⟩) 65537 65537) (w.alloc (.cells (k8 (List.replicate 65537 0)).toArray 5)) := fun w => run_zeros 65537 (by omega) w
 clear hT
 generalize hZ6 : List.replicate 65537 (0 : Int) = Z6 at hz6
 obtain ⟨Z3, hZ3⟩ : ∃ Z, Z = List.replicate 300 (0 : Int) := ⟨_, rfl⟩
 rw [← hZ3] at hz3
 have HZ3 := Lib.hid hZ3
 clear hZ3 hZ6
 go_enter Tryz.func6, Tryz.ntmps6
 go_wp2_with fail
 refine H0.out.mono ?_
 rintro e w1 ⟨h1, n1, V1, m1, G1, s1, rfl⟩
 have B1 := Lib.hid h1
 have S1 := Lib.hid s1
 clear H0 h1 s1
 go_wp2_with fail
 have hb2 : Below w1.heap.size w1 (w1.alloc (.cells (k8 Z3).toArray 5)) := (Below.refl _ _).alloc (Nat.le_refl _) _
 have hz : BytesIn (w1.alloc (.cells (k8 Z3).toArray 5)) (.slice (some ⟨w1.heap.size, 0, none⟩) 300 300) (List.replicate 300 0) (fun _ => True) := zero_in 300 (by omega) _ _ (by rw [← HZ3.out]; exact heap_alloc_new _ _)
 have B2 : Hid (Below w.heap.size w (w1.alloc (.cells (k8 Z3).toArray 5))) := B1.out.trans (hb2.mono B1.out.size)
 have H3 := Lib.hid (deflate_str (List.replicate 300 0) (some ⟨w1.heap.size, 0, none⟩) 300 300 _ (by rw [List.length_replicate]) (by omega) hz (Inf.zb 300) (HT.out.later B2.out (Nat.le_refl _)))
 have S1 := Lib.hid (S1.out.later hb2)
 generalize w1.alloc (.cells (k8 Z3).toArray 5) = w2 at *
 clear hb2 hz B1
 refine H3.out.mono ?_
 rintro e w3 ⟨h1, n3, V3, m3, G3, s3, rfl⟩
 have B3 : Hid (Below w.heap.size w w3) := B2.out.trans (h1.mono B2.out.size)
 have S1 := Lib.hid (S1.out.later h1)
 have S3 := Lib.hid s3
 clear H3 h1 s3 B2
 go_wp2_with fail
 refine (deflate_long _ _ _ _ (by omega)).mono ?_
 rintro e w4 ⟨rfl, e4⟩
 have hb4 : Below w3.heap.size w3 (w3.alloc (.cells (k8 Z6).toArray 5)) := (Below.refl _ _).alloc (Nat.le_refl _) _
 rw [e4] at hb4
 have B4 : Hid (Below w.heap.size w w4) := B3.out.trans (hb4.mono B3.out.size)
 have S1 := Lib.hid (S1.out.later hb4)
 have S3 := Lib.hid (S3.out.later hb4)
 clear hb4 B3 e4
 have d1 : decide ((m1 : Int) ≤ 6) = true := decide_eq_true (by have := S1.out.dfl.bound (by simp); have := S1.out.len; simp at *; omega)
 have d3 : decide ((m3 : Int) ≤ 19) = true := decide_eq_true (by have := S3.out.dfl.runs (Inf.zb 300) (by rw [List.length_replicate]; omega) (Inf.zs 300); have := S3.out.len; rw [List.length_replicate] at *; omega)
 go_wp2_with fail
 refine (says_any [] n1 V1 m1 G1 none 0 0 w4 S1.out rfl (by omega) (bytesIn_nil _ _) (by intro x hx; cases hx)).mono ?_
 rintro e w5 ⟨rfl, h5⟩
 have B5 : Hid (Below w.heap.size w w5) := B4.out.trans (h5.mono B4.out.size)
 have S3 := Lib.hid (S3.out.later h5)
 clear h5 B4 S1
 go_wp2_with fail
 have hb2 : Below w5.heap.size w5 (w5.alloc (.cells (k8 Z3).toArray 5)) := (Below.refl _ _).alloc (Nat.le_refl _) _
 have hz : BytesIn (w5.alloc (.cells (k8 Z3).toArray 5)) (.slice (some ⟨w5.heap.size, 0, none⟩) 300 300) (List.replicate 300 0) (fun _ => True) := zero_in 300 (by omega) _ _ (by rw [← HZ3.out]; exact heap_alloc_new _ _)
 have B6 : Hid (Below w.heap.size w (w5.alloc (.cells (k8 Z3).toArray 5))) := B5.out.trans (hb2.mono B5.out.size)
 have HSA := Lib.hid (says_any (List.replicate 300 0) n3 V3 m3 G3 (some ⟨w5.heap.size, 0, none⟩) 300 300 _ (S3.out.later hb2) (by rw [List.length_replicate]) (by omega) hz (Inf.zb 300))
 generalize w5.alloc (.cells (k8 Z3).toArray 5) = w6 at *
 clear hb2 hz B5
 refine HSA.out.mono ?_
 rintro e w7 ⟨rfl, h7⟩
 have B7 : Hid (Below w.heap.size w w7) := B6.out.trans (h7.mono B6.out.size)
 clear h7 B6 HSA
 go_wp2_with fail
 refine (bound_any 65536 _ (by omega)).mono ?_
 rintro e w8 ⟨rfl, rfl⟩
 go_wp2_with fail
 refine (bound_no (-1) _ (.inl (by omega))).mono ?_
 rintro e w9 ⟨rfl, rfl⟩
 go_wp2
 go_ret
 exact ⟨rfl, B7.out⟩
end Go.Proofs.YtenkkononchgmaaGreatDoor

namespace Go.Proofs.YtenkkononchgmaaGreatDoor
open Go.RowKit Go

theorem Str.pg {B : List Int} {w : World} {n V m : Nat} {v : Value} (h : Str B w n V m v) (hb : Lz.Byt B) (hl : B.length ≤ 65536) (K : List Int) (hK : Lz.Byt K) (hk : K.length ≤ 10000) (M : Nat) (hM : B.length ≤ M) (hM2 : M ≤ 65536) (l : Nat) (hL : l = (Bit.by V m ++ K).length) (wx : World) (a : Option Addr) (cap : Nat) (hT : Tabs wx) (hB : BytesIn wx (.slice a l cap) (Bit.by V m ++ K) (fun _ => True)) :
   Calls Tryz.prog 15 #[.slice a l cap, .int .i64 (M : Int)] wx fun e w' => Told B (m : Int) 0 wx e w' := by
 have hm := h.le hl
 have hlen : (Bit.by V m ++ K).length = m + K.length := by rw [List.length_append, Bit.by_length]
 have := told_pg_ok hL (fun x hx => by exact (List.mem_append.mp hx).elim (Bit.by_bd V m x) (hK x)) (by omega) hM2 (by rw [hL]; exact h.run hb hl K M hM) wx a cap hT hB
 rw [← h.len] at this
 exact this

end Go.Proofs.YtenkkononchgmaaGreatDoor
