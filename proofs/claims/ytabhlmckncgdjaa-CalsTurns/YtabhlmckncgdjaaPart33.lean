/-
  Lists of calendars whose owners may be written anew; how long what Put, Cut, Take and New make is.
-/
import Derived.Test.YtabhlmckncgdjaaPart28
import Derived.Test.YtabhlmckncgdjaaCalsRefD
import Derived.Test.YtabhlmckncgdjaaPart15
import Derived.Laws.AppendOwn
import Derived.Laws.AppendOwnNone
namespace Go.Proofs.Ytabhlmckncgdjaa
open Go Go.RowKit Go.Shelf

theorem blk_ne {W : World} {g g' : Nat} {t t' : TypeId} {vs vs' : Array Value} (h : Blk W g t vs) (h' : Blk W g' t' vs') (hne : t ≠ t') : g ≠ g' := by
  rintro rfl
  have h : W.heap[g]? = some (.cells vs t (0, 0)) := h
  have h' : W.heap[g]? = some (.cells vs' t' (0, 0)) := h'
  rw [h] at h'
  simp at h'
  exact hne h'.2
theorem Blk.owner {W : World} {B gk m : Nat} {t : TypeId} {vs : Array Value} (h : Blk W B t vs) (ho : Ownd W gk m) (hne : t ≠ 52) (i : Nat) (x : Value) : Blk (W.setCell ⟨gk, i, none⟩ x) B t vs := by
  obtain ⟨us, hb, _⟩ := ho
  exact h.other i x (blk_ne h hb hne)

/-- A list of calendars that the document's own Same reads. -/
structure Few (cs : List (List Slt)) : Prop where
  len : cs.length ≤ 100000
  row : ∀ k, (cs.getD k []).length ≤ 100000
/-- The first n calendars of the block cur at g: rows whose owners may be written. -/
structure Yw (W : World) (base g n : Nat) (cur : Array Value) : Prop where
  row : ∀ k, k < n → Blk W g 50 cur ∧ ∃ bo m cap, cur[k]? = some (.slice bo m cap) ∧ m ≤ 100000 ∧ ∀ j, j < m → ∃ gk, bo = some ⟨gk, 0, none⟩ ∧ base ≤ gk ∧ Ownd W gk m
theorem Yw.later {W W' : World} {base g n : Nat} {cur : Array Value} (h : Yw W base g n cur) (hb : Below W.heap.size W W') : Yw W' base g n cur :=
  ⟨fun k hk => by
    obtain ⟨h1, bo, m, cap, hc, hm, hr⟩ := h.row k hk
    refine ⟨h1.later hb, bo, m, cap, hc, hm, fun j hj => ?_⟩
    obtain ⟨gk, e, hg, hO⟩ := hr j hj
    exact ⟨gk, e, hg, hO.later hb⟩⟩
theorem Yw.set {W : World} {base g n : Nat} {cur : Array Value} (h : Yw W base g n cur) {gk m : Nat} (ho : Ownd W gk m) (i : Nat) (z : Int) : Yw (W.setCell ⟨gk, i, none⟩ (.int .i64 z)) base g n cur :=
  ⟨fun k hk => by
    obtain ⟨h1, bo, m', cap, hc, hm, hr⟩ := h.row k hk
    refine ⟨h1.owner ho (by decide) i _, bo, m', cap, hc, hm, fun j hj => ?_⟩
    obtain ⟨gk', e, hg, hO⟩ := hr j hj
    refine ⟨gk', e, hg, ?_⟩
    by_cases e2 : gk' = gk
    · subst e2; exact hO.set i z
    · exact hO.other e2 i _⟩
theorem Yw.get {W : World} {base g n : Nat} {cur : Array Value} (h : Yw W base g n cur) {k : Nat} (hk : k < n) :
    ∃ bo m cap, cur[k]? = some (.slice bo m cap) ∧ W.cell? ⟨g, k, none⟩ = some (.slice bo m cap) ∧ g < W.heap.size ∧ m ≤ 100000 ∧ ∀ j, j < m → ∃ gk, bo = some ⟨gk, 0, none⟩ ∧ base ≤ gk ∧ Ownd W gk m := by
  obtain ⟨h1, bo, m, cap, hc, hm, hr⟩ := h.row k hk
  exact ⟨bo, m, cap, hc, by rw [h1.cell, hc], h1.lt, hm, hr⟩
theorem Yo.yw {W : World} {base : Nat} {ao : Option Addr} {n cap : Nat} {cs : List (List Slt)} (h : Yo W base (.slice ao n cap) cs) (hF : Few cs) : ∃ g cur, n = cs.length ∧ (0 < n → ao = some ⟨g, 0, none⟩) ∧ Yw W base g n cur := by
  obtain ⟨us, e, ⟨h1, h2⟩, hs⟩ := h
  rcases h2 with ⟨hv, hn⟩ | ⟨g, c, cur, hv, hg, hh, hc, hc2, hz, ht⟩
  · rw [Value.slice.injEq] at hv
    obtain ⟨rfl, rfl, rfl⟩ := hv
    exact ⟨0, #[], by omega, fun h => absurd h (by omega), ⟨fun k hk => absurd hk (by omega)⟩⟩
  · rw [Value.slice.injEq] at hv
    obtain ⟨rfl, rfl, rfl⟩ := hv
    refine ⟨g, cur, e, fun _ => rfl, ⟨fun k hk => ⟨hh, ?_⟩⟩⟩
    have hk' : k < cs.length := by omega
    have hget : cur[k]? = some (us.getD k undef) := by
      have := congrArg (fun l => l[k]?) ht
      simp only [Nat.mul_one, List.getElem?_take_of_lt hk, Array.getElem?_toList] at this
      rw [this, List.getD_eq_getElem?_getD, List.getElem?_eq_getElem hk]
      rfl
    rw [hget]
    rcases (hs k hk').ownd with ⟨eu, ec⟩ | ⟨gk, c, eu, hgk, hO⟩
    · exact ⟨none, 0, 0, by rw [eu], by omega, fun j hj => absurd hj (by omega)⟩
    · exact ⟨_, _, _, by rw [eu], hF.row k, fun j hj => ⟨gk, rfl, hgk, hO⟩⟩

theorem few_rows {cs : List (List Slt)} (er : Int) (h : er = 0 → Few cs) : Few (rowsE er cs) := by
  unfold rowsE
  split
  · rename_i h0; exact h h0
  · exact ⟨by simp, fun k => by simp⟩
theorem few_of {cs ds : List (List Slt)} (h1 : cs.length ≤ 10000) (h2 : ∀ k, (cs.getD k []).length ≤ 10000) (e1 : ds.length = cs.length) (e2 : ∀ k, k < ds.length → (ds.getD k []).length ≤ (cs.getD k []).length + 1) : Few ds := by
  refine ⟨by omega, fun k => ?_⟩
  by_cases hk : k < ds.length
  · have := e2 k hk; have := h2 k; omega
  · simp [List.getD_eq_getElem?_getD, List.getElem?_eq_none (Nat.le_of_not_lt hk)]
theorem few_puts {cs : List (List Slt)} (h1 : cs.length ≤ 10000) (h2 : ∀ k, (cs.getD k []).length ≤ 10000) (ws : List Nat) (s : Slt) : Few (putsY cs ws s) := by
  refine few_of h1 h2 (putsC_len _ _ _ _) fun k hk => ?_
  unfold putsY at hk ⊢
  rw [putsC_len] at hk
  rw [putsC_get hk]
  split
  · rw [withC_len]; omega
  · omega
theorem few_cuts {cs : List (List Slt)} (h1 : cs.length ≤ 10000) (h2 : ∀ k, (cs.getD k []).length ≤ 10000) (ow to : Int) : Few (cutsC cs ow to) := by
  refine few_of h1 h2 (by simp [cutsC]) fun k hk => ?_
  have hk' : k < cs.length := by simpa [cutsC] using hk
  unfold cutsC
  simp only [List.getD_eq_getElem?_getD, List.getElem?_map, List.getElem?_eq_getElem hk', Option.map_some, Option.getD_some]
  have : (endedC cs[k] ow to).length ≤ cs[k].length := List.length_filterMap_le _ _
  omega
theorem few_takes {cs : List (List Slt)} (h1 : cs.length ≤ 10000) (h2 : ∀ k, (cs.getD k []).length ≤ 10000) (ow : Int) : Few (takesC cs ow) := by
  refine few_of h1 h2 (by simp [takesC]) fun k hk => ?_
  have hk' : k < cs.length := by simpa [takesC] using hk
  unfold takesC
  simp only [List.getD_eq_getElem?_getD, List.getElem?_map, List.getElem?_eq_getElem hk', Option.map_some, Option.getD_some]
  have : (lessC cs[k] ow).length ≤ cs[k].length := List.length_filter_le _ _
  omega
theorem few_empty {n : Int} (h : n ≤ 100000) : Few (emptyC n) := by
  refine ⟨by unfold emptyC; rw [List.length_replicate]; omega, fun k => ?_⟩
  unfold emptyC
  by_cases hk : k < n.toNat
  · simp [List.getD_eq_getElem?_getD, hk]
  · simp [List.getD_eq_getElem?_getD, hk]
theorem few_new {a b c : Int} : Few (rowsE (newE a b c) (emptyC (a * b * c))) ∧ Few (rowsE (newE a b c) (emptyC (3 * (a * b * c)))) := by
  constructor <;> refine few_rows _ fun h0 => ?_
  all_goals
    have hd : mayD a b c := by
      by_cases h : mayD a b c
      · exact h
      · rw [newE_no h] at h0; cases h0
    have hN := N_bd hd
    exact few_empty (by omega)
theorem same_yards {a b c : Int} {u v u' v' : Value} {cs ds : List (List Slt)} (w : World) (h1 : Few cs) (h2 : Few ds) (hu : Yl w u cs) (hv : Yl w v ds) (hu' : Yl w u' cs) (hv' : Yl w v' ds) :
    Calls Try.prog 22 #[Y5 a b c u v, Y5 a b c u' v'] w fun e W' => e = .returned (.bool true) ∧ Below w.heap.size w W' := by
  have := rSameY_calls (a := a) (b := b) (c := c) (a' := a) (b' := b) (c' := c) w hu hv hu' hv' h1.len h2.len h1.row h2.row
  rwa [eqY_self] at this

end Go.Proofs.Ytabhlmckncgdjaa

/-
  A set among the arguments: as it came in, and a copy of it.
-/
namespace Go.Proofs.Ytabhlmckncgdjaa
open Go Go.RowKit Go.Shelf

/-- A row of words that came in. -/
def ArgW (W : World) (v : Value) (ws : List Nat) : Prop := Wds W v ws ∧ (v = .slice none 0 0 ∨ ∃ ad cap, v = .slice (some ad) ws.length cap)
def ArgI (W : World) (v : Value) (xs : List Int) : Prop := Its W v xs ∧ (v = .slice none 0 0 ∨ ∃ ad cap, v = .slice (some ad) xs.length cap)

theorem owns_wds {W : World} {base : Nat} {v : Value} {ws : List Nat} (hw : ∀ x ∈ ws, x < 18446744073709551616) (h : W.ownsRow base 32 1 v ws.length (ws.map U)) : Wds W v ws := by
  obtain ⟨h1, h2⟩ := h
  refine ⟨hw, ?_⟩
  rcases h2 with ⟨rfl, hn⟩ | ⟨g, cap, cur, rfl, hg, hh, hc, hc2, hs, ht⟩
  · have : ws = [] := List.length_eq_zero_iff.1 hn
    subst this
    exact Sl.nil W
  · refine ⟨_, cap, by simp, fun k hk => ⟨g, 0, rfl, (Array.getElem?_eq_some_iff.1 hh).1, ?_⟩⟩
    have hb : Blk W g 32 cur := hh
    rw [Nat.zero_add, hb.cell k]
    have := congrArg (fun l => l[k]?) ht
    simp only [Nat.mul_one] at this
    rw [List.length_map] at hk
    rw [List.getElem?_take_of_lt hk, Array.getElem?_toList] at this
    exact this

/-- 'own = append(own, s...)', own nil. -/
theorem wpList_copy {ops : Array Oper} {rest : List Oper} {o : Oper} {a : Act} {Q : Exit → Act → World → Prop} {W : World} {v : Value} {ws : List Nat} (hgd : o.guard = none) (s x : Operand)
    (ho : o.op = .call { callee := .builtin .append, args := #[s, x], argTypes := #[34, 34] }) (hs : a.eval s = .slice none 0 0) (hx : a.eval x = v)
    (hA : ArgW W v ws) (hl : ws.length ≤ 1000)
    (h : ∀ v' w', Wds w' v' ws → Below W.heap.size W w' → wpList Try.prog ops Q rest (a.put o.dst v') w') : wpList Try.prog ops Q (o :: rest) a W := by
  obtain ⟨i0, hi, hz0, hz1, hz2⟩ := info_parts info_u64
  obtain ⟨hW, rfl | ⟨ad, cap, rfl⟩⟩ := hA
  · have e : ws = [] := by
      obtain ⟨ao, c, e, _⟩ := hW.view
      simp only [Value.slice.injEq] at e
      exact List.length_eq_zero_iff.1 e.2.1.symm
    subst e
    exact wpList_append_own_none hgd s x 34 ho W.heap.size 32 i0 1 Try.underlying34 hi (.slice none 0 0) 0 [] hs (World.ownsRow_nil _ _ _ _) hx (h _ _ (Wds.nil W) (Below.refl _ _))
  · refine wpList_append_own (w := W) hgd s x 34 ho W.heap.size 32 i0 (.int .u64 0) 1 8 Try.underlying34 hi hz0 hz1 hz2 rfl (by decide) (.slice none 0 0) 0 [] hs (World.ownsRow_nil _ _ _ _) ad ws.length cap (ws.map U) hx (by simp) ?_ ?_ ?_ ?_ ?_ ?_
    · intro j u hj
      obtain ⟨ao, c, e, hv⟩ := hW.view
      simp only [Value.slice.injEq] at e
      obtain ⟨rfl, -, -⟩ := e
      have hjl : j < ws.length := by
        have := (List.getElem?_eq_some_iff.1 hj).1
        simpa using this
      obtain ⟨g, off, e, hg, hc⟩ := hv j hjl
      simp only [Option.some.injEq] at e
      subst e
      have : (⟨g, off, none⟩ : Addr).add j = ⟨g, off + j, none⟩ := by
        unfold Addr.add
        split
        · rename_i h0; subst h0; rfl
        · rfl
      rw [this, hc, ← hj]
      simp [hjl]
    · intro u hu
      obtain ⟨y, _, rfl⟩ := List.mem_map.1 hu
      rfl
    · unfold maxLen; omega
    · omega
    · omega
    · intro v' w1 hown' hgrow _
      refine h v' w1 (owns_wds hW.1 (by simpa using hown')) ?_
      exact (Below.refl _ W).grown hgrow (Nat.le_refl _) (fun k hk => by cases hk)

end Go.Proofs.Ytabhlmckncgdjaa
