/- Numbers that are appended within a region that draws its order. -/
import Derived.Test.YtfbcmjgiejjpmaaRefCost
import Derived.Test.YtfbcmjgiejjpmaaRefAsked
import Derived.Deep.AppendLies
import Derived.Deep.RegionHeld3
import Derived.Maps.AppendAt
namespace Go.Proofs.Ytfbcmjgiejjpmaa
open Go.RowKit Go

/-- numbers as cells -/
def kc (F : Nat → Int) (m : Nat) : List Value := (List.range m).map fun j => Value.int .i64 (F j)
theorem kc_length (F : Nat → Int) (m : Nat) : (kc F m).length = m := by simp [kc]
theorem kc_get (F : Nat → Int) (m j : Nat) (h : j < m) : (kc F m)[j]? = some (.int .i64 (F j)) := by rw [kc, List.getElem?_map, List.getElem?_range h]; rfl
/-- a row of numbers that was found out is appended -/
theorem step_append_ints (w : World) {ops : Array Oper} {o : Oper} {a : Act} {K : Act → World → Prop} {Q : Exit → Act → World → Prop} {E : Prop} (hgd : o.guard = none) (s x : Operand)
    (ho : o.op = .call { callee := .builtin .append, args := #[s, x], argTypes := #[22, 22] })
    (base : Nat) (v : Value) (n : Nat) (xs : List Value) (hs : a.eval s = v) (hown : w.ownsRow base 3 1 v n xs)
    (b f m c : Nat) (F : Nat → Int) (hx : a.eval x = .slice (some ⟨b, f, none⟩) m c) (hI : Ints w (some ⟨b, f, none⟩) m c F) (h63 : n + m ≤ 1000000) (hbase : base ≤ w.heap.size)
    (h : ∀ v' w', Hid (w'.ownsRow base 3 1 v' (n + m) (xs ++ kc F m)) → Hid (w.grownBy w' v.ownBlock) → K (a.put o.dst v') w') :
    if Region.wanted o (yielded ops a.tmps) = true then Oper.wp Try.prog o a w K Q else E := by
  have hw : Region.wanted o (yielded ops a.tmps) = true := by simp [Region.wanted, hgd]
  rw [if_pos hw]
  obtain ⟨i0, hi, hz0, hz1, hz2⟩ := info_parts infoInt
  obtain ⟨v', w', hr, h2, h3, _, _⟩ := run_append_own_at (P := Try.prog) w base 22 o.type 3 i0 (.int .i64 0) 1 8 (by kernel_rfl) hi hz0 hz1 hz2 rfl (by decide) v n xs hown ⟨b, f, none⟩ m c (kc F m) (by rw [kc_length]; omega) (fun j u hj => by
    have hjm : j < m := by
      have := (List.getElem?_eq_some_iff.1 hj).1
      rwa [kc_length] at this
    rw [kc_get _ _ _ hjm] at hj
    obtain ⟨s', o', e, _, hc⟩ := hI.at_ hjm
    simp only [Option.some.injEq, Addr.mk.injEq, and_true] at e
    obtain ⟨rfl, rfl⟩ := e
    rw [Addr.add_mid, hc]; exact hj) (fun u hu => by obtain ⟨j, _, rfl⟩ := List.mem_map.1 hu; rfl) (by simp only [maxLen]; omega) (by omega) hbase
  unfold Oper.wp execOp
  simp only [ho, resolve, invoke, builtin, Sem.run_bind, Sem.run_pure, Result.andThen_ok, List.map_toArray, List.map_cons, List.map_nil, hs, hx, hr]
  exact h v' w' h2 h3
theorem own_kc {w : World} {base m : Nat} {v : Value} {F G : Nat → Int} {k q : Nat} (h : w.ownsRow base 3 1 v m ([] ++ kc F k ++ kc G q)) (hm : m = k + q) : ∃ a cap, v = .slice a m cap ∧ Ints w a m cap (fun t => if t < k then F t else G (t - k)) := by
  rcases h.2 with ⟨h0, h1⟩ | ⟨g, c, cur, h0, hb, hg, h3, h4, h5⟩
  · subst h0 h1
    exact ⟨none, 0, rfl, Nat.le_refl _, fun h => by omega⟩
  · subst h0
    refine ⟨_, c, rfl, h3, fun hn => ⟨g, 0, rfl, lt_of_block hg, fun j hj => ?_⟩⟩
    rw [Nat.zero_add, h.cellAt j (by omega), List.nil_append]
    by_cases c : j < k
    · rw [List.getElem?_append_left (by rw [kc_length]; exact c), kc_get _ _ _ c, if_pos c]
    · rw [List.getElem?_append_right (by rw [kc_length]; omega), kc_length, kc_get _ _ _ (by omega), if_neg c]
/-- nothing that was there in w2 has changed -/
structure Tow (w w2 wx : World) : Prop where
  bel : Below w2.heap.size w2 wx
  all : Below w.heap.size w wx
theorem Tow.drew {w w2 wx : World} (h : Tow w w2 wx) : Tow w w2 wx.drew := ⟨h.bel.drew, h.all.drew⟩
theorem Tow.alloc {w w2 wx : World} (h : Tow w w2 wx) (o : Obj) : Tow w w2 (wx.alloc o) := ⟨h.bel.alloc h.bel.size o, h.all.alloc h.all.size o⟩
theorem Tow.app {w w2 wx w' : World} {v : Value} {n : Nat} {xs : List Value} (h : Tow w w2 wx) (hw : w.heap.size ≤ w2.heap.size) (hown : wx.ownsRow w2.heap.size 3 1 v n xs) (hg : wx.grownBy w' v.ownBlock) : Tow w w2 w' :=
  ⟨h.bel.grown hg h.bel.size (fun k hk => (hown.lt k hk).1), h.all.grown hg h.all.size (fun k hk => by have := (hown.lt k hk).1; omega)⟩
theorem Tow.later {w w2 wx w' : World} (h : Tow w w2 wx) (hb : Below wx.heap.size wx w') : Tow w w2 w' := ⟨h.bel.trans (hb.mono h.bel.size), h.all.trans (hb.mono h.all.size)⟩
end Go.Proofs.Ytfbcmjgiejjpmaa
