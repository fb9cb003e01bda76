/-
  Lists of slots: as a walk reads them, wherever they lie (Ss); in memory that a call made (So): lengthened, made.
-/
import Derived.Test.YtikjgfjahjlbaaaCalMath
import Derived.Test.YtikjgfjahjlbaaaTimeMore
import Derived.Test.YtikjgfjahjlbaaaWords
import Derived.OwnWalk
import Derived.Laws.AppendOwn
import Derived.Laws.AppendOwnNone
import Derived.Maps.AppendAt
namespace Go.Proofs.Ytikjgfjahjlbaaa
open Go Go.RowKit Go.Shelf

/-- A slot's value, and its cells. -/
abbrev V3 (f t o : Int) : Value := .agg #[.int .i64 f, .int .i64 t, .int .i64 o]
abbrev C3 (f t o : Int) : Array Value := #[.int .i64 f, .int .i64 t, .int .i64 o]
def cellsS (s : Slt) : List Value := [I s.1, I s.2.1, I s.2.2]
def flatS (xs : List Slt) : List Value := xs.flatMap cellsS
theorem flatS_len : ∀ xs : List Slt, (flatS xs).length = xs.length * 3
  | [] => rfl
  | x :: xs => by
    have := flatS_len xs
    simp only [flatS, List.flatMap_cons, List.length_append, List.length_cons, cellsS, List.length_nil] at this ⊢
    omega
theorem flatS_app (xs ys : List Slt) : flatS (xs ++ ys) = flatS xs ++ flatS ys := by simp [flatS]
theorem flatS_get : ∀ (xs : List Slt) (k i : Nat), i < 3 → k < xs.length → (flatS xs)[k * 3 + i]? = (cellsS (xs.getD k (0, 0, 0)))[i]?
  | [], k, i, _, hk => by simp at hk
  | x :: xs, 0, i, hi, _ => by
    rw [flatS, List.flatMap_cons, List.getElem?_append_left (by simp [cellsS]; omega)]
    simp
  | x :: xs, k + 1, i, hi, hk => by
    have := flatS_get xs k i hi (by simpa using hk)
    rw [flatS, List.flatMap_cons, List.getElem?_append_right (by simp [cellsS]; omega)]
    rw [show (k + 1) * 3 + i - (cellsS x).length = k * 3 + i by simp [cellsS]; omega]
    exact this
theorem flatS_int {xs : List Slt} {v : Value} (h : v ∈ flatS xs) : ∃ n, v = I n := by
  obtain ⟨s, _, hs⟩ := List.mem_flatMap.1 h
  simp only [cellsS, List.mem_cons, List.not_mem_nil, or_false] at hs
  rcases hs with rfl | rfl | rfl
  · exact ⟨_, rfl⟩
  · exact ⟨_, rfl⟩
  · exact ⟨_, rfl⟩

/-- Block g holds, from cell n on, one slot. -/
def At3 (W : World) (g n : Nat) (s : Slt) : Prop := g < W.heap.size ∧ W.cell? ⟨g, n, none⟩ = some (I s.1) ∧ W.cell? ⟨g, n + 1, none⟩ = some (I s.2.1) ∧ W.cell? ⟨g, n + 2, none⟩ = some (I s.2.2)
theorem At3.below {W W' : World} {g n m : Nat} {s : Slt} (h : At3 W g n s) (hb : Below m W W') (hg : g < m) : At3 W' g n s := by
  obtain ⟨h0, h1, h2, h3⟩ := h
  exact ⟨Nat.lt_of_lt_of_le h0 hb.size, (hb.cell (p := ⟨g, n, none⟩) hg).trans h1, (hb.cell (p := ⟨g, n + 1, none⟩) hg).trans h2, (hb.cell (p := ⟨g, n + 2, none⟩) hg).trans h3⟩
theorem At3.later {W W' : World} {g n : Nat} {s : Slt} (h : At3 W g n s) (hb : Below W.heap.size W W') : At3 W' g n s := h.below hb h.1
theorem Blk.at3 {W : World} {g : Nat} {t : TypeId} {f t' o : Int} (h : Blk W g t (C3 f t' o)) : At3 W g 0 (f, t', o) := ⟨h.lt, h.cell 0, h.cell 1, h.cell 2⟩

/-- The slice v reads as the slots xs. -/
def Ss (W : World) (v : Value) (xs : List Slt) : Prop :=
  ∃ ao cap, v = .slice ao xs.length cap ∧ xs.length ≤ cap ∧ (ao = none → cap = 0) ∧ ∀ k, k < xs.length → ∃ g off, ao = some ⟨g, off, none⟩ ∧ At3 W g (off + k * 3) (xs.getD k (0, 0, 0))
theorem Ss.later {W W' : World} {v : Value} {xs : List Slt} (h : Ss W v xs) (hb : Below W.heap.size W W') : Ss W' v xs := by
  obtain ⟨ao, cap, e, hc, hn, h⟩ := h
  refine ⟨ao, cap, e, hc, hn, fun k hk => ?_⟩
  obtain ⟨g, off, e, ha⟩ := h k hk
  exact ⟨g, off, e, ha.later hb⟩
theorem Ss.nil (W : World) : Ss W (.slice none 0 0) [] := ⟨none, 0, rfl, Nat.le_refl _, fun _ => rfl, fun k hk => by simp at hk⟩
/-- What a walk asks of a list that it reads. -/
theorem Ss.at {W : World} {ao : Option Addr} {n cap : Nat} {xs : List Slt} (h : Ss W (.slice ao n cap) xs) {k : Nat} (hk : k < xs.length) :
    ∃ g off f t o, ao = some ⟨g, off, none⟩ ∧ xs.getD k (0, 0, 0) = (f, t, o) ∧ At3 W g (off + k * 3) (f, t, o) := by
  obtain ⟨ao', cap', e, _, _, hv⟩ := h
  obtain ⟨g, off, hg, ha⟩ := hv k hk
  rw [Value.slice.injEq] at e
  rcases hu : xs.getD k (0, 0, 0) with ⟨f, t, o⟩
  rw [hu] at ha
  exact ⟨g, off, f, t, o, e.1.trans hg, rfl, ha⟩
theorem Ss.form {W : World} {v : Value} {xs : List Slt} (h : Ss W v xs) : ∃ ao cap, v = .slice ao xs.length cap ∧ Ss W (.slice ao xs.length cap) xs := by
  obtain ⟨ao, cap, e, r⟩ := h
  exact ⟨ao, cap, e, ao, cap, rfl, r⟩

/-- The slice v holds just xs, in a block of its own from number base on. -/
def So (W : World) (base : Nat) (v : Value) (xs : List Slt) : Prop := W.ownsRow base 36 3 v xs.length (flatS xs)
theorem So.nil (W : World) (base : Nat) : So W base (.slice none 0 0) [] := World.ownsRow_nil _ _ _ _
theorem So.later {W W' : World} {base : Nat} {v : Value} {xs : List Slt} (h : So W base v xs) (hb : Below W.heap.size W W') : So W' base v xs := by
  obtain ⟨h1, h2⟩ := h
  refine ⟨h1, ?_⟩
  rcases h2 with h2 | ⟨g, cap, cur, e, hg, hh, r⟩
  · exact .inl h2
  · exact .inr ⟨g, cap, cur, e, hg, (hb.block g (Array.getElem?_eq_some_iff.1 hh).1).trans hh, r⟩
theorem So.weak {W : World} {base base' : Nat} {v : Value} {xs : List Slt} (h : So W base v xs) (hb : base' ≤ base) : So W base' v xs := by
  obtain ⟨h1, h2⟩ := h
  refine ⟨h1, ?_⟩
  rcases h2 with h2 | ⟨g, cap, cur, e, hg, r⟩
  · exact .inl h2
  · exact .inr ⟨g, cap, cur, e, Nat.le_trans hb hg, r⟩
theorem So.ss {W : World} {base : Nat} {v : Value} {xs : List Slt} (h : So W base v xs) : Ss W v xs := by
  obtain ⟨h1, h2⟩ := h
  rcases h2 with ⟨rfl, hn⟩ | ⟨g, cap, cur, rfl, hg, hh, hc, hc2, hs, ht⟩
  · have : xs = [] := List.length_eq_zero_iff.1 hn
    subst this
    exact Ss.nil W
  · refine ⟨_, cap, rfl, hc, fun h => (by cases h), fun k hk => ⟨g, 0, rfl, ?_⟩⟩
    have hb : Blk W g 36 cur := hh
    have key : ∀ i, i < 3 → W.cell? ⟨g, 0 + k * 3 + i, none⟩ = (cellsS (xs.getD k (0, 0, 0)))[i]? := by
      intro i hi
      rw [Nat.zero_add, hb.cell]
      have := congrArg (fun l => l[k * 3 + i]?) ht
      simp only [List.getElem?_take_of_lt (show k * 3 + i < xs.length * 3 by omega), Array.getElem?_toList] at this
      rw [this, flatS_get xs k i hi hk]
    exact ⟨hb.lt, key 0 (by omega), key 1 (by omega), key 2 (by omega)⟩

theorem info_s : (Try.prog.info? 36).map (fun i => (i.zero, i.size, i.bytes)) = some (some (V3 0 0 0), 3, 24) := by kernel_rfl

/-- 'list = append(list, s)', the list a call's own. -/
theorem wpList_appS {ops : Array Oper} {rest : List Oper} {o : Oper} {a : Act} {Q : Exit → Act → World → Prop} {W : World} {base : Nat} {v : Value} {xs : List Slt} {f t w : Int} (hgd : o.guard = none) (s u : Operand)
    (ho : o.op = .call { callee := .builtin .append, args := #[s, u], argTypes := #[25, 25] }) (hs : a.eval s = v) {B : Nat} (hx : a.eval u = .slice (some ⟨B, 0, none⟩) 1 1) (hBW : B = W.heap.size)
    (hown : So W base v xs) (hl : xs.length ≤ 100000) (hb : base ≤ W.heap.size)
    (h : ∀ ao n cap w', So w' base (.slice ao n cap) (xs ++ [(f, t, w)]) → Below base W w' → wpList Try.prog ops Q rest (a.put o.dst (.slice ao n cap)) w') : wpList Try.prog ops Q (o :: rest) a (W.alloc (.cells (C3 f t w) 36)) := by
  subst hBW
  obtain ⟨i0, hi, hz0, hz1, hz2⟩ := info_parts info_s
  refine wpList_append_own_at (w := W.alloc (.cells (C3 f t w) 36)) hgd s u 25 ho base 36 i0 _ 3 24 Try.underlying25 hi hz0 hz1 hz2 rfl (by decide) v xs.length _ hs (hown.alloc _) ⟨W.heap.size, 0, none⟩ 1 1 (C3 f t w).toList hx rfl ?_ ?_ ?_ ?_ ?_ ?_
  · intro j w' hj
    have hB := (Blk.new W 36 (C3 f t w)).cell j
    rw [show (⟨W.heap.size, 0, none⟩ : Addr).add j = ⟨W.heap.size, j, none⟩ by by_cases h : j = 0 <;> simp [Addr.add, h], hB]
    simpa using hj
  · intro w' hw; simp at hw; rcases hw with rfl | rfl | rfl <;> rfl
  · unfold maxLen; omega
  · omega
  · simp; omega
  · intro v' w1 hown' hgrow _ hloc
    have hW : So w1 base v' (xs ++ [(f, t, w)]) := by
      unfold So
      rw [flatS_app, List.length_append]
      exact hown'
    obtain ⟨ao, cap, rfl, _⟩ := hW.ss.form
    exact h ao _ cap w1 hW ((Below.refl base W).grown ((World.grownBy_alloc W _ _).trans hgrow) hb (fun k hk => (World.ownsRow.lt hown k hk).1))

/-- 'make([]api.Slot, 0, n)'. -/
theorem wpList_mkS {ops : Array Oper} {rest : List Oper} {o : Oper} {a : Act} {Q : Exit → Act → World → Prop} {W : World} {base : Nat} (hgd : o.guard = none) (l c : Operand) (ho : o.op = Op.makeSlice 25 l c) (n : Int)
    (hl : a.eval l = .int .i64 0) (hc : a.eval c = .int .i64 n) (h0 : 0 ≤ n) (h1 : n ≤ 100000) (hb : base ≤ W.heap.size)
    (h : ∀ ao cap w', So w' base (.slice ao 0 cap) [] → Below base W w' → wpList Try.prog ops Q rest (a.put o.dst (.slice ao 0 cap)) w') : wpList Try.prog ops Q (o :: rest) a W := by
  obtain ⟨i0, hi, hz0, hz1, hz2⟩ := info_parts info_s
  refine wpList_make_own W hgd l c 25 ho base 36 i0 _ 3 Try.underlying25 hi hz0 hz1 .i64 .i64 n n.toNat hl hc (by omega) (by rw [hz2]; omega) (by unfold maxLen; omega) hb ?_
  intro w' h1 h2
  exact h _ _ w' h1 ((Below.refl base W).grown h2 hb (fun k hk => by cases hk))

/-- 'own = append(own, c...)', own a call's own. -/
theorem wpList_catS {ops : Array Oper} {rest : List Oper} {o : Oper} {a : Act} {Q : Exit → Act → World → Prop} {W : World} {base : Nat} {v vx : Value} {xs ys : List Slt} (hgd : o.guard = none) (s u : Operand)
    (ho : o.op = .call { callee := .builtin .append, args := #[s, u], argTypes := #[25, 25] }) (hs : a.eval s = v) (hx : a.eval u = vx)
    (hown : So W base v xs) (hA : Ss W vx ys) (hl : xs.length + ys.length ≤ 100000) (hb : base ≤ W.heap.size)
    (h : ∀ ao n cap w', So w' base (.slice ao n cap) (xs ++ ys) → Below base W w' → wpList Try.prog ops Q rest (a.put o.dst (.slice ao n cap)) w') : wpList Try.prog ops Q (o :: rest) a W := by
  obtain ⟨i0, hi, hz0, hz1, hz2⟩ := info_parts info_s
  obtain ⟨ao, cap, rfl, hcap, hnone, hv⟩ := hA
  cases ao with
  | none =>
    have hc0 := hnone rfl
    subst hc0
    have e : ys = [] := List.length_eq_zero_iff.1 (by omega)
    subst e
    obtain ⟨ao, cap, rfl, _⟩ := hown.ss.form
    have hA := h ao xs.length cap W
    rw [List.append_nil] at hA
    exact wpList_append_own_none hgd s u 25 ho base 36 i0 3 Try.underlying25 hi _ xs.length _ hs hown hx (hA hown (Below.refl _ _))
  | some ad =>
    refine wpList_append_own (w := W) hgd s u 25 ho base 36 i0 _ 3 24 Try.underlying25 hi hz0 hz1 hz2 rfl (by decide) v xs.length _ hs hown ad ys.length cap (flatS ys) hx (flatS_len ys) ?_ ?_ ?_ ?_ ?_ ?_
    · intro j w hj
      have hjl : j < ys.length * 3 := by rw [← flatS_len]; exact (List.getElem?_eq_some_iff.1 hj).1
      obtain ⟨g, off, e, ha⟩ := hv (j / 3) (by omega)
      simp only [Option.some.injEq] at e
      subst e
      have hadd : (⟨g, off, none⟩ : Addr).add j = ⟨g, off + j, none⟩ := by
        unfold Addr.add
        split
        · rename_i h0; subst h0; rfl
        · rfl
      rw [hadd]
      have hg := flatS_get ys (j / 3) (j % 3) (by omega) (by omega)
      rw [show j / 3 * 3 + j % 3 = j by omega] at hg
      rw [← hj, hg]
      obtain ⟨_, a0, a1, a2⟩ := ha
      have hm : j % 3 = 0 ∨ j % 3 = 1 ∨ j % 3 = 2 := by omega
      rcases hm with hm | hm | hm
      · rw [hm, show off + j = off + j / 3 * 3 by omega]; exact a0
      · rw [hm, show off + j = off + j / 3 * 3 + 1 by omega]; exact a1
      · rw [hm, show off + j = off + j / 3 * 3 + 2 by omega]; exact a2
    · intro u hu
      obtain ⟨n, rfl⟩ := flatS_int hu
      rfl
    · unfold maxLen; omega
    · omega
    · omega
    · intro v' w1 hown' hgrow _
      have hW : So w1 base v' (xs ++ ys) := by
        unfold So
        rw [flatS_app, List.length_append]
        exact hown'
      obtain ⟨ao, cap, rfl, _⟩ := hW.ss.form
      exact h ao _ cap w1 hW ((Below.refl base W).grown hgrow hb (fun k hk => (World.ownsRow.lt hown k hk).1))

end Go.Proofs.Ytikjgfjahjlbaaa
