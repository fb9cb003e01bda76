/-
  Lists of whole numbers in memory that a call made: they stay behind what leaves old memory as it lay; tidehallref02.Ints compares two of them.
-/
import Derived.Test.YtjmfdpilmljppaaPart2
import Derived.Test.YtjmfdpilmljppaaProg
import Derived.OwnWalk
import Derived.Test.YtjmfdpilmljppaaPart5
import Derived.Laws.AppendOwn
import Derived.Laws.AppendOwnNone
import Derived.Maps.OwnIn
import Derived.Test.YtjmfdpilmljppaaPart4
import Derived.Sort.LoopGhostIn
namespace Go.Proofs.Ytjmfdpilmljppaa
open Go Go.RowKit Go.Shelf

attribute [local go_sem] Oper.semAt_some ext_const

/-- The slice v holds the numbers xs, in a block of its own from number base on. -/
def Lst (W : World) (base : Nat) (v : Value) (xs : List Int) : Prop := W.ownsRow base 3 1 v xs.length (xs.map (Value.int .i64))

theorem Lst.nil (W : World) (base : Nat) : Lst W base (.slice none 0 0) [] := World.ownsRow_nil _ _ _ _
theorem Lst.later {W W' : World} {base : Nat} {v : Value} {xs : List Int} (h : Lst W base v xs) (hb : Below W.heap.size W W') : Lst W' base v xs := by
  obtain ⟨h1, h2⟩ := h
  refine ⟨h1, ?_⟩
  rcases h2 with h2 | ⟨g, cap, cur, e, hg, hh, r⟩
  · exact .inl h2
  · exact .inr ⟨g, cap, cur, e, hg, (hb.block g (Array.getElem?_eq_some_iff.1 hh).1).trans hh, r⟩
theorem Lst.weak {W : World} {base base' : Nat} {v : Value} {xs : List Int} (h : Lst W base v xs) (hb : base' ≤ base) : Lst W base' v xs := by
  obtain ⟨h1, h2⟩ := h
  refine ⟨h1, ?_⟩
  rcases h2 with h2 | ⟨g, cap, cur, e, hg, r⟩
  · exact .inl h2
  · exact .inr ⟨g, cap, cur, e, Nat.le_trans hb hg, r⟩

/-- What a walk asks of a list that it reads. -/
theorem Lst.view {W : World} {base : Nat} {v : Value} {xs : List Int} (h : Lst W base v xs) :
    ∃ ao cap, v = .slice ao xs.length cap ∧ ∀ k : Nat, k < xs.length → ∃ g cur, ao = some ⟨g, 0, none⟩ ∧ Blk W g 3 cur ∧ cur[k]? = some (I (xs.getD k 0)) := by
  obtain ⟨h1, h2⟩ := h
  rcases h2 with ⟨rfl, hn⟩ | ⟨g, cap, cur, rfl, hg, hh, hc, hc2, hs, ht⟩
  · exact ⟨none, 0, by rw [hn], fun k hk => by omega⟩
  · refine ⟨_, cap, rfl, fun k hk => ⟨g, cur, rfl, hh, ?_⟩⟩
    have := congrArg (fun l => l[k]?) ht
    simp only [Nat.mul_one, List.getElem?_take_of_lt hk, List.getElem?_map, Array.getElem?_toList] at this
    rw [this, List.getElem?_eq_getElem hk]
    simp [hk]

theorem info_int : (Try.prog.info? 3).map (fun i => (i.zero, i.size, i.bytes)) = some (some (.int .i64 0), 1, 8) := by kernel_rfl

/-- 'list = append(list, y)', the list a call's own. -/
theorem wpList_app {ops : Array Oper} {rest : List Oper} {o : Oper} {a : Act} {Q : Exit → Act → World → Prop} {W : World} {base : Nat} {v : Value} {xs : List Int} {y : Int} (hgd : o.guard = none) (s x : Operand)
    (ho : o.op = .call { callee := .builtin .append, args := #[s, x], argTypes := #[52, 52] }) (hs : a.eval s = v) (hx : a.eval x = .slice (some ⟨W.heap.size, 0, none⟩) 1 1)
    (hown : Lst W base v xs) (hl : xs.length ≤ 100000) (hb : base ≤ W.heap.size)
    (h : ∀ v' w', Lst w' base v' (xs ++ [y]) → Below base W w' → wpList Try.prog ops Q rest (a.put o.dst v') w') : wpList Try.prog ops Q (o :: rest) a (W.alloc (.cells #[.int .i64 y] 3)) := by
  obtain ⟨i0, hi, hz0, hz1, hz2⟩ := info_parts info_int
  refine wpList_append_own (w := W.alloc (.cells #[.int .i64 y] 3)) hgd s x 52 ho base 3 i0 (.int .i64 0) 1 8 Try.underlying52 hi hz0 hz1 hz2 rfl (by decide) v xs.length _ hs (hown.alloc _) ⟨W.heap.size, 0, none⟩ 1 1 [.int .i64 y] hx rfl ?_ ?_ ?_ ?_ ?_ ?_
  · intro j u hj
    match j, hj with
    | 0, hj => simp at hj; subst hj; simp [Addr.add]
  · intro u hu; simp at hu; subst hu; rfl
  · unfold maxLen; omega
  · omega
  · simp; omega
  · intro v' w1 hown' hgrow _
    refine h v' w1 ?_ ?_
    · unfold Lst
      rw [List.map_append, List.length_append]
      exact hown'
    · exact ((Below.refl base W).alloc hb _).grown hgrow (by simp; omega) (fun k hk => (hown.lt k hk).1)

/-- 'make([]int, 0, n)'. -/
theorem wpList_mk {ops : Array Oper} {rest : List Oper} {o : Oper} {a : Act} {Q : Exit → Act → World → Prop} {W : World} {base : Nat} (hgd : o.guard = none) (l c : Operand) (ho : o.op = Op.makeSlice 52 l c) (n : Int)
    (hl : a.eval l = .int .i64 0) (hc : a.eval c = .int .i64 n) (h0 : 0 ≤ n) (h1 : n ≤ 100000) (hb : base ≤ W.heap.size)
    (h : ∀ v' w', Lst w' base v' [] → Below base W w' → wpList Try.prog ops Q rest (a.put o.dst v') w') : wpList Try.prog ops Q (o :: rest) a W := by
  obtain ⟨i0, hi, hz0, hz1, hz2⟩ := info_parts info_int
  refine wpList_make_own W hgd l c 52 ho base 3 i0 (.int .i64 0) 1 Try.underlying52 hi hz0 hz1 .i64 .i64 n n.toNat hl hc (by omega) (by rw [hz2]; omega) (by unfold maxLen; omega) hb ?_
  intro w' h1 h2
  exact h _ w' h1 ((Below.refl base W).grown h2 hb (fun k hk => by cases hk))

theorem take_eq_succ {xs ys : List Int} {k : Nat} (hx : k < xs.length) (hy : k < ys.length) (h : xs.take k = ys.take k) (he : xs.getD k 0 = ys.getD k 0) : xs.take (k + 1) = ys.take (k + 1) := by
  rw [List.take_succ_eq_append_getElem hx, List.take_succ_eq_append_getElem hy, h]
  simp [hx, hy] at he
  rw [he]

end Go.Proofs.Ytjmfdpilmljppaa

/-
  Lists of boxes in memory that a call made: read, lengthened; '==' between two boxes.
-/
namespace Go.Proofs.Ytjmfdpilmljppaa
open Go Go.RowKit Go.Shelf

abbrev zX : Bx := ⟨0, 0, 0, 0, 0, 0⟩
def cellsX (b : Bx) : List Value := [I b.x, I b.y, I b.z, I b.a, I b.b, I b.c]
theorem cellsX_len (p : Bx) : (cellsX p).length = 6 := rfl
theorem cellsX_one (p : Bx) : ∀ v ∈ cellsX p, v.oneCell' = true := by
  intro v hv
  simp only [cellsX, List.mem_cons, List.not_mem_nil, or_false] at hv
  rcases hv with rfl | rfl | rfl | rfl | rfl | rfl <;> rfl
def flatX (ps : List Bx) : List Value := ps.flatMap cellsX
theorem flatX_len : ∀ ps : List Bx, (flatX ps).length = ps.length * 6
  | [] => rfl
  | p :: ps => by
    have := flatX_len ps
    simp only [flatX, List.flatMap_cons, List.length_append, cellsX_len, List.length_cons] at this ⊢
    omega
theorem flatX_app (ps qs : List Bx) : flatX (ps ++ qs) = flatX ps ++ flatX qs := by simp [flatX]
theorem flatX_get : ∀ (ps : List Bx) (k i : Nat), i < 6 → k < ps.length → (flatX ps)[k * 6 + i]? = (cellsX (ps.getD k zX))[i]?
  | [], k, i, _, hk => by simp at hk
  | p :: ps, 0, i, hi, _ => by
    rw [flatX, List.flatMap_cons, List.getElem?_append_left (by rw [cellsX_len]; omega)]
    simp
  | p :: ps, k + 1, i, hi, hk => by
    have := flatX_get ps k i hi (by simpa using hk)
    rw [flatX, List.flatMap_cons, List.getElem?_append_right (by rw [cellsX_len]; omega), cellsX_len]
    rw [show (k + 1) * 6 + i - 6 = k * 6 + i by omega]
    exact this
theorem flatX_one {ps : List Bx} {v : Value} (h : v ∈ flatX ps) : v.oneCell' = true := by
  obtain ⟨p, _, hp⟩ := List.mem_flatMap.1 h
  exact cellsX_one p v hp

/-- The slice v holds just ps, in a block of its own from number base on. -/
def Lx (W : World) (base : Nat) (v : Value) (ps : List Bx) : Prop := W.ownsRow base 32 6 v ps.length (flatX ps)
theorem Lx.nil (W : World) (base : Nat) : Lx W base (.slice none 0 0) [] := World.ownsRow_nil _ _ _ _
theorem Lx.later {W W' : World} {base : Nat} {v : Value} {xs : List Bx} (h : Lx W base v xs) (hb : Below W.heap.size W W') : Lx W' base v xs := by
  obtain ⟨h1, h2⟩ := h
  refine ⟨h1, ?_⟩
  rcases h2 with h2 | ⟨g, cap, cur, e, hg, hh, r⟩
  · exact .inl h2
  · exact .inr ⟨g, cap, cur, e, hg, (hb.block g (Array.getElem?_eq_some_iff.1 hh).1).trans hh, r⟩
theorem Lx.weak {W : World} {base base' : Nat} {v : Value} {xs : List Bx} (h : Lx W base v xs) (hb : base' ≤ base) : Lx W base' v xs := by
  obtain ⟨h1, h2⟩ := h
  refine ⟨h1, ?_⟩
  rcases h2 with h2 | ⟨g, cap, cur, e, hg, r⟩
  · exact .inl h2
  · exact .inr ⟨g, cap, cur, e, Nat.le_trans hb hg, r⟩
/-- Behind what turned no cells, and not that list. -/
theorem Lx.kept {W W' : World} {base : Nat} {v : Value} {xs : List Bx} {row : Option Nat} (h : Lx W base v xs) (hg : W.grownBy W' row) (hr : ∀ r, row = some r → ∃ o : Obj, W.heap[r]? = some o ∧ o.isCells = false) : Lx W' base v xs := by
  obtain ⟨h1, h2⟩ := h
  refine ⟨h1, ?_⟩
  rcases h2 with h2 | ⟨g, cap, cur, e, hg', hh, r⟩
  · exact .inl h2
  · refine .inr ⟨g, cap, cur, e, hg', (hg.block g (Array.getElem?_eq_some_iff.1 hh).1 (fun e => ?_)).trans hh, r⟩
    obtain ⟨o, ho, hc⟩ := hr g e.symm
    rw [hh] at ho
    cases ho
    cases hc

/-- Block g holds, from cell n on, one box. -/
def At6 (W : World) (g n : Nat) (p : Bx) : Prop := ∃ cur, Blk W g 32 cur ∧ ∀ i, i < 6 → cur[n + i]? = (cellsX p)[i]?
theorem At6.later {W W' : World} {g n : Nat} {p : Bx} (h : At6 W g n p) (hb : Below W.heap.size W W') : At6 W' g n p := by
  obtain ⟨cur, h1, h2⟩ := h
  exact ⟨cur, h1.later hb, h2⟩
theorem At6.below {W W' : World} {g n m : Nat} {p : Bx} (h : At6 W g n p) (hb : Below m W W') (hg : g < m) : At6 W' g n p := by
  obtain ⟨cur, h1, h2⟩ := h
  exact ⟨cur, h1.below hb hg, h2⟩
theorem At6.lt {W : World} {g n : Nat} {p : Bx} (h : At6 W g n p) : g < W.heap.size := by
  obtain ⟨cur, h1, _⟩ := h
  exact h1.lt
theorem At6.cells {W : World} {g n : Nat} {b : Bx} (h : At6 W g n b) :
    W.cell? ⟨g, n, none⟩ = some (I b.x) ∧ W.cell? ⟨g, n + 1, none⟩ = some (I b.y) ∧ W.cell? ⟨g, n + 2, none⟩ = some (I b.z) ∧
    W.cell? ⟨g, n + 3, none⟩ = some (I b.a) ∧ W.cell? ⟨g, n + 4, none⟩ = some (I b.b) ∧ W.cell? ⟨g, n + 5, none⟩ = some (I b.c) := by
  obtain ⟨cur, h1, h2⟩ := h
  exact ⟨(h1.cell n).trans (h2 0 (by omega)), (h1.cell _).trans (h2 1 (by omega)), (h1.cell _).trans (h2 2 (by omega)), (h1.cell _).trans (h2 3 (by omega)), (h1.cell _).trans (h2 4 (by omega)), (h1.cell _).trans (h2 5 (by omega))⟩
theorem At6.ext {W : World} {g n : Nat} {b : Bx} (h : At6 W g n b) :
    (∀ X : Ext W, X.wd.cell? ⟨g, n, none⟩ = some (I b.x)) ∧ (∀ X : Ext W, X.wd.cell? ⟨g, n + 1, none⟩ = some (I b.y)) ∧ (∀ X : Ext W, X.wd.cell? ⟨g, n + 2, none⟩ = some (I b.z)) ∧
    (∀ X : Ext W, X.wd.cell? ⟨g, n + 3, none⟩ = some (I b.a)) ∧ (∀ X : Ext W, X.wd.cell? ⟨g, n + 4, none⟩ = some (I b.b)) ∧ (∀ X : Ext W, X.wd.cell? ⟨g, n + 5, none⟩ = some (I b.c)) :=
  ⟨fun X => (h.later X.le).cells.1, fun X => (h.later X.le).cells.2.1, fun X => (h.later X.le).cells.2.2.1, fun X => (h.later X.le).cells.2.2.2.1, fun X => (h.later X.le).cells.2.2.2.2.1, fun X => (h.later X.le).cells.2.2.2.2.2⟩
theorem Blk.at6 {W : World} {g : Nat} {b : Bx} (h : Blk W g 32 (C6 b)) : At6 W g 0 b := ⟨_, h, fun i _ => by rw [Nat.zero_add]; simp [cellsX]⟩
/-- What a later world has in a box's cells. -/
theorem Blk.sixX {W W' : World} {B : Nat} {t : TypeId} {b : Bx} (h : Blk W B t (C6 b)) (hb : Below W.heap.size W W') :
    W'.cell? ⟨B, 0, none⟩ = some (I b.x) ∧ W'.cell? ⟨B, 1, none⟩ = some (I b.y) ∧ W'.cell? ⟨B, 2, none⟩ = some (I b.z) ∧ W'.cell? ⟨B, 3, none⟩ = some (I b.a) ∧ W'.cell? ⟨B, 4, none⟩ = some (I b.b) ∧ W'.cell? ⟨B, 5, none⟩ = some (I b.c) ∧ B < W'.heap.size :=
  ⟨(h.later hb).cell 0, (h.later hb).cell 1, (h.later hb).cell 2, (h.later hb).cell 3, (h.later hb).cell 4, (h.later hb).cell 5, (h.later hb).lt⟩

/-- What a walk asks of a list that it reads. -/
theorem Lx.view {W : World} {base : Nat} {v : Value} {ps : List Bx} (h : Lx W base v ps) :
    ∃ ao cap, v = .slice ao ps.length cap ∧ ∀ k : Nat, k < ps.length → ∃ g, ao = some ⟨g, 0, none⟩ ∧ At6 W g (k * 6) (ps.getD k zX) := by
  obtain ⟨h1, h2⟩ := h
  rcases h2 with ⟨rfl, hn⟩ | ⟨g, cap, cur, rfl, hg, hh, hc, hc2, hs, ht⟩
  · exact ⟨none, 0, by rw [hn], fun k hk => by omega⟩
  · refine ⟨_, cap, rfl, fun k hk => ⟨g, rfl, cur, hh, fun i hi => ?_⟩⟩
    have := congrArg (fun l => l[k * 6 + i]?) ht
    simp only [List.getElem?_take_of_lt (show k * 6 + i < ps.length * 6 by omega), Array.getElem?_toList] at this
    rw [this, flatX_get ps k i hi hk]
theorem Lx.form {W : World} {base : Nat} {v : Value} {ps : List Bx} (h : Lx W base v ps) : ∃ ao cap, v = .slice ao ps.length cap ∧ Lx W base (.slice ao ps.length cap) ps := by
  obtain ⟨ao, cap, e, _⟩ := h.view
  exact ⟨ao, cap, e, e ▸ h⟩
theorem Lx.at {W : World} {base : Nat} {ao : Option Addr} {cap n : Nat} {ps : List Bx} (h : Lx W base (.slice ao n cap) ps) {k : Nat} (hk : k < ps.length) : ∃ g, ao = some ⟨g, 0, none⟩ ∧ At6 W g (k * 6) (ps.getD k zX) := by
  obtain ⟨ao', cap', e, hv⟩ := h.view
  obtain ⟨g, hg, ha⟩ := hv k hk
  rw [Value.slice.injEq] at e
  exact ⟨g, e.1.trans hg, ha⟩
theorem Lx.len {W : World} {base n : Nat} {ao : Option Addr} {cap : Nat} {ps : List Bx} (h : Lx W base (.slice ao n cap) ps) : n = ps.length := by
  obtain ⟨ao', cap', e, _⟩ := h.view
  rw [Value.slice.injEq] at e
  exact e.2.1

theorem info_bx : (Try.prog.info? 32).map (fun i => (i.zero, i.size, i.bytes)) = some (some (B6 zX), 6, 48) := by kernel_rfl

/-- 'list = append(list, b)', the list a call's own. -/
theorem wpList_appX {ops : Array Oper} {rest : List Oper} {o : Oper} {a : Act} {Q : Exit → Act → World → Prop} {W : World} {base : Nat} {v : Value} {xs : List Bx} {b : Bx} (hgd : o.guard = none) (s u : Operand)
    (ho : o.op = .call { callee := .builtin .append, args := #[s, u], argTypes := #[36, 36] }) (hs : a.eval s = v) {B : Nat} (hx : a.eval u = .slice (some ⟨B, 0, none⟩) 1 1) (hBW : B = W.heap.size)
    (hown : Lx W base v xs) (hl : xs.length ≤ 1000000) (hb : base ≤ W.heap.size)
    (h : ∀ ao n cap w', Lx w' base (.slice ao n cap) (xs ++ [b]) → Below base W w' → wpList Try.prog ops Q rest (a.put o.dst (.slice ao n cap)) w') : wpList Try.prog ops Q (o :: rest) a (W.alloc (.cells (C6 b) 32)) := by
  subst hBW
  obtain ⟨i0, hi, hz0, hz1, hz2⟩ := info_parts info_bx
  refine wpList_append_own_at (w := W.alloc (.cells (C6 b) 32)) hgd s u 36 ho base 32 i0 _ 6 48 Try.underlying36 hi hz0 hz1 hz2 rfl (by decide) v xs.length _ hs (hown.alloc _) ⟨W.heap.size, 0, none⟩ 1 1 (C6 b).toList hx rfl ?_ ?_ ?_ ?_ ?_ ?_
  · intro j w hj
    have hB := (Blk.new W 32 (C6 b)).cell j
    rw [show (⟨W.heap.size, 0, none⟩ : Addr).add j = ⟨W.heap.size, j, none⟩ by by_cases h : j = 0 <;> simp [Addr.add, h], hB]
    simpa using hj
  · exact cellsX_one b
  · unfold maxLen; omega
  · omega
  · simp; omega
  · intro v' w1 hown' hgrow _ hloc
    have hW : Lx w1 base v' (xs ++ [b]) := by
      unfold Lx
      rw [flatX_app, List.length_append]
      exact hown'
    obtain ⟨ao, cap, rfl, _⟩ := hW.form
    exact h ao _ cap w1 hW ((Below.refl base W).grown ((World.grownBy_alloc W _ _).trans hgrow) hb (fun k hk => (World.ownsRow.lt hown k hk).1))

/-- The same within a fence. -/
theorem wpListIn_appX {F : Fence} {m : Nat} {ops : Array Oper} {rest : List Oper} {o : Oper} {a : Act} {Q : Exit → Act → World → Prop} {W : World} {base : Nat} {v : Value} {xs : List Bx} {b : Bx} (hgd : o.guard = none) (s u : Operand)
    (ho : o.op = .call { callee := .builtin .append, args := #[s, u], argTypes := #[36, 36] }) (hs : a.eval s = v) (hx : a.eval u = .slice (some ⟨W.heap.size, 0, none⟩) 1 1)
    (hown : Lx W base v xs) (hl : xs.length ≤ 1000000) (hb : base ≤ W.heap.size)
    (h : ∀ ao n cap w', Lx w' base (.slice ao n cap) (xs ++ [b]) → Below base W w' → W.grownBy w' v.ownBlock → wpListIn F m Try.prog ops Q rest (a.put o.dst (.slice ao n cap)) w') : wpListIn F m Try.prog ops Q (o :: rest) a (W.alloc (.cells (C6 b) 32)) := by
  obtain ⟨i0, hi, hz0, hz1, hz2⟩ := info_parts info_bx
  refine wpListIn_append_own_at (w := W.alloc (.cells (C6 b) 32)) hgd s u 36 ho base 32 i0 _ 6 48 Try.underlying36 hi hz0 hz1 hz2 rfl (by decide) v xs.length _ hs (hown.alloc _) ⟨W.heap.size, 0, none⟩ 1 1 (C6 b).toList hx rfl ?_ ?_ ?_ ?_ ?_ ?_
  · intro j w hj
    have hB := (Blk.new W 32 (C6 b)).cell j
    rw [show (⟨W.heap.size, 0, none⟩ : Addr).add j = ⟨W.heap.size, j, none⟩ by by_cases h : j = 0 <;> simp [Addr.add, h], hB]
    simpa using hj
  · exact cellsX_one b
  · unfold maxLen; omega
  · omega
  · simp; omega
  · intro v' w1 hown' hgrow _ _
    have hW : Lx w1 base v' (xs ++ [b]) := by
      unfold Lx
      rw [flatX_app, List.length_append]
      exact hown'
    obtain ⟨ao, cap, rfl, _⟩ := hW.form
    exact h ao _ cap w1 hW ((Below.refl base W).grown ((World.grownBy_alloc W _ _).trans hgrow) hb (fun k hk => (World.ownsRow.lt hown k hk).1)) ((World.grownBy_alloc W _ _).trans hgrow)

theorem Lx.own {W : World} {base : Nat} {v : Value} {xs : List Bx} (h : Lx W base v xs) {g : Nat} (hg : v.ownBlock = some g) : base ≤ g ∧ ∃ cur, Blk W g 32 cur := by
  rcases h.2 with ⟨rfl, _⟩ | ⟨g', cap', cur, rfl, hb, hh, _⟩
  · cases hg
  · simp [Value.ownBlock] at hg
    subst hg
    exact ⟨hb, cur, hh⟩
theorem Lx.set {W : World} {base : Nat} {v : Value} {xs : List Bx} (h : Lx W base v xs) {B : Nat} {t : TypeId} {vs : Array Value} (hB : Blk W B t vs) (ht : t ≠ 32) (i : Nat) (u : Value) : Lx (W.setCell ⟨B, i, none⟩ u) base v xs := by
  obtain ⟨h1, h2⟩ := h
  refine ⟨h1, ?_⟩
  rcases h2 with h2 | ⟨g', cap', cur, e, hgb, hh, r⟩
  · exact .inl h2
  · refine .inr ⟨g', cap', cur, e, hgb, (Below.heap_setCell W ⟨B, i, none⟩ u g' (fun e => ?_)).trans hh, r⟩
    have e : g' = B := e
    subst e
    rw [show W.heap[g']? = _ from hB] at hh
    cases hh
    exact ht rfl
theorem Blk.grewX {W W' : World} {base B : Nat} {t : TypeId} {vs : Array Value} {v : Value} {xs : List Bx} (h : Blk W B t vs) (hL : Lx W base v xs) (hg : W.grownBy W' v.ownBlock) (ht : t ≠ 32) : Blk W' B t vs :=
  (hg.block B h.lt (fun e => by
    obtain ⟨_, cur, hc⟩ := hL.own e.symm
    have := (show W.heap[B]? = _ from h).symm.trans (show W.heap[B]? = _ from hc)
    cases this
    exact ht rfl)).trans h

/-! ### '==' between two boxes -/
set_option maxRecDepth 100000 in
theorem eq_box (x y z a b c x' y' z' a' b' c' : Int) (w : World) : (Op.equalIn 10000 32 (.agg #[.int .i64 x, .int .i64 y, .int .i64 z, .int .i64 a, .int .i64 b, .int .i64 c]) (.agg #[.int .i64 x', .int .i64 y', .int .i64 z', .int .i64 a', .int .i64 b', .int .i64 c'])).run Try.prog w = .ok (sameBx ⟨x, y, z, a, b, c⟩ ⟨x', y', z', a', b', c'⟩) w := by
  have e0 := eq_arr9 x y z x' y' z'
  have e1 := eq_arr9 a b c a' b' c'
  have es : sameBx ⟨x, y, z, a, b, c⟩ ⟨x', y', z', a', b', c'⟩ = (same3 x y z x' y' z' && same3 a b c a' b' c') := rfl
  rw [es, run_equalIn_struct (P := Try.prog) w 9999 32 _ _ (by kernel_rfl) (by kernel_rfl)]
  generalize same3 x y z x' y' z' = b0 at *
  generalize same3 a b c a' b' c' = b1 at *
  cases b0 <;> cases b1 <;> go_simp

end Go.Proofs.Ytjmfdpilmljppaa

/-
  grow.boxes as a range asks of it: all canonical boxes, rising.
-/
namespace Go.Proofs.Ytjmfdpilmljppaa
open Go Go.RowKit Go.Shelf

attribute [local go_sem] Oper.semAt_some ext_const
attribute [local go_sem high] eq_box

set_option maxRecDepth 100000 in
theorem boxesZ_calls (d0 d1 d2 : Int) (w : World) : Calls Try.prog 32 #[A3 d0 d1 d2] w fun e W' => e = .returned (.func (.func 58) #[] #[.pointer (some ⟨w.heap.size, 0, none⟩)]) ∧ W' = w.alloc (.cells #[I d0, I d1, I d2] 26) := by
  go_enter Try.func32, Try.ntmps32
  go_wp2
  go_ret
  exact ⟨rfl, rfl⟩

/-- Midplane m's box of a size. -/
def bxZ (d0 d1 : Int) (m : Nat) (s : Tz) : Bx := ⟨cx d0 m, cy d0 d1 m, cz d0 d1 m, s.1, s.2.1, s.2.2⟩
def isCanon (d0 d1 d2 : Int) (b : Bx) : Bool := sameBx (canonB d0 d1 d2 b) b
/-- The canonical ones of midplane m among some sizes. -/
def bxL (d0 d1 d2 : Int) (m : Nat) (l : List Tz) : List Bx := (l.map (bxZ d0 d1 m)).filter (isCanon d0 d1 d2)
def allZ (d0 d1 d2 : Int) : List Tz := sizesZ d0.toNat d1.toNat d2.toNat
/-- The first k midplanes' ones. -/
def bxP (d0 d1 d2 : Int) (k : Nat) : List Bx := (List.range k).flatMap fun m => bxL d0 d1 d2 m (allZ d0 d1 d2)
/-- All canonical boxes, rising. -/
def boxesZ (d0 d1 d2 : Int) : List Bx := bxP d0 d1 d2 (d0 * d1 * d2).toNat
theorem bxP_succ (d0 d1 d2 : Int) (k : Nat) : bxP d0 d1 d2 (k + 1) = bxP d0 d1 d2 k ++ bxL d0 d1 d2 k (allZ d0 d1 d2) := by simp [bxP, List.range_succ]
theorem bxL_yes {d0 d1 d2 : Int} {m : Nat} {pre : List Tz} {s : Tz} (h : isCanon d0 d1 d2 (bxZ d0 d1 m s) = true) : bxL d0 d1 d2 m (pre ++ [s]) = bxL d0 d1 d2 m pre ++ [bxZ d0 d1 m s] := by
  simp [bxL, List.filter_append, h]
theorem bxL_no {d0 d1 d2 : Int} {m : Nat} {pre : List Tz} {s : Tz} (h : isCanon d0 d1 d2 (bxZ d0 d1 m s) = false) : bxL d0 d1 d2 m (pre ++ [s]) = bxL d0 d1 d2 m pre := by
  simp [bxL, List.filter_append, h]
theorem bxP_next {d0 d1 d2 : Int} {m : Nat} (hm : m < (d0 * d1 * d2).toNat) {pre : List Tz} {s : Tz} (hp : pre ++ [s] <+: allZ d0 d1 d2) (h : isCanon d0 d1 d2 (bxZ d0 d1 m s) = true) : (bxP d0 d1 d2 m ++ bxL d0 d1 d2 m pre) ++ [bxZ d0 d1 m s] <+: boxesZ d0 d1 d2 := by
  rw [List.append_assoc, ← bxL_yes h]
  have h1 : bxL d0 d1 d2 m (pre ++ [s]) <+: bxL d0 d1 d2 m (allZ d0 d1 d2) := filterG_pre _ (mapG_pre _ hp)
  have h2 : bxP d0 d1 d2 (m + 1) <+: boxesZ d0 d1 d2 := flatG_pre _ (rangeG_pre hm)
  rw [bxP_succ] at h2
  exact (preG_append h1).trans h2

theorem boxesZ_mem {d0 d1 d2 : Int} (hd : mayD d0 d1 d2) {b : Bx} : b ∈ boxesZ d0 d1 d2 ↔ mayB d0 d1 d2 b ∧ canonB d0 d1 d2 b = b := by
  have hn := N_bd hd
  obtain ⟨x, y, z, a, b', c⟩ := b
  unfold boxesZ bxP bxL
  simp only [List.mem_flatMap, List.mem_range, List.mem_filter, List.mem_map, isCanon, sameBx_iff]
  constructor
  · rintro ⟨m, hm, ⟨s, hs, e⟩, hc⟩
    refine ⟨?_, hc⟩
    rw [← e]
    obtain ⟨h1, h2, h3⟩ := sizesZ_mem.1 hs
    obtain ⟨g1, g2, g3⟩ := inD_of_node hd (m := m) ⟨by omega, by omega⟩
    obtain ⟨⟨a1, a2⟩, ⟨b1, b2⟩, c1, c2⟩ := hd
    refine ⟨⟨⟨h1.1, ?_⟩, g1⟩, ⟨⟨h2.1, ?_⟩, g2⟩, ⟨h3.1, ?_⟩, g3⟩
    · show s.1 ≤ d0; omega
    · show s.2.1 ≤ d1; omega
    · show s.2.2 ≤ d2; omega
  · rintro ⟨⟨h1, h2, h3⟩, hc⟩
    have hi : inD d0 d1 d2 x y z := ⟨h1.2, h2.2, h3.2⟩
    obtain ⟨hm, e0, e1, e2⟩ := node_of_in hd hi
    refine ⟨(numD d0 d1 x y z).toNat, by omega, ⟨(a, b', c), ?_, ?_⟩, hc⟩
    · refine sizesZ_mem.2 ⟨⟨h1.1.1, ?_⟩, ⟨h2.1.1, ?_⟩, h3.1.1, ?_⟩
      · have := h1.1.2; show a ≤ _; simp only at this; omega
      · have := h2.1.2; show b' ≤ _; simp only at this; omega
      · have := h3.1.2; show c ≤ _; simp only at this; omega
    · have e : (((numD d0 d1 x y z).toNat : Nat) : Int) = numD d0 d1 x y z := by omega
      unfold bxZ
      rw [e]
      rw [e0, e1, e2]
theorem boxesZ_may {d0 d1 d2 : Int} (hd : mayD d0 d1 d2) {b : Bx} (h : b ∈ boxesZ d0 d1 d2) : mayB d0 d1 d2 b ∧ canonB d0 d1 d2 b = b := (boxesZ_mem hd).1 h

abbrev encX (b : Bx) : Array Value := #[B6 b]
/-- What stays of a call's boxes while others' rounds run. -/
def okG (t : TypeId) : Bool := t == 26 || t == 25 || t == 66
theorem okG_d : okG 26 = true := by decide
theorem okG_a : okG 25 = true := by decide
theorem okG_f : okG 66 = true := by decide

/-- What the iterator keeps for itself. -/
structure BoxPv (d0 d1 d2 : Int) (l Bd Bf : Nat) (W : World) : Prop where
  d : Blk W Bd 26 #[I d0, I d1, I d2]
  f : Blk W Bf 66 #[.func (.yield l) #[] #[]]
section
variable {d0 d1 d2 : Int} {l Bd Bf : Nat} {W W' : World}
theorem BoxPv.later (h : BoxPv d0 d1 d2 l Bd Bf W) (hb : Below W.heap.size W W') : BoxPv d0 d1 d2 l Bd Bf W' := ⟨h.d.later hb, h.f.later hb⟩
theorem BoxPv.kept (h : BoxPv d0 d1 d2 l Bd Bf W) {row : Option Nat} (hg : W.grownBy W' row) (hr : ∀ r, row = some r → ∃ o : Obj, W.heap[r]? = some o ∧ o.isCells = false) : BoxPv d0 d1 d2 l Bd Bf W' := ⟨h.d.kept hg hr, h.f.kept hg hr⟩
theorem BoxPv.keep (h : BoxPv d0 d1 d2 l Bd Bf W) (hk : KeepT okG W W') : BoxPv d0 d1 d2 l Bd Bf W' := ⟨hk.blkG h.d okG_d, hk.blkG h.f okG_f⟩
end

set_option maxRecDepth 100000 in
set_option maxHeartbeats 8000000 in
theorem boxesZ_seq {d0 d1 d2 : Int} (hd : mayD d0 d1 d2) {Bd : Nat} (w : World) (hBd : Blk w Bd 26 #[I d0, I d1, I d2]) :
    SeqO Try.prog 58 #[.pointer (some ⟨Bd, 0, none⟩)] encX okG (boxesZ d0 d1 d2) w := fun l J Jx W hW hJ hJx hY h0 => by
  have HY : Hid (∀ (pre : List Bx) (x : Bx) (W1 : World), pre ++ [x] <+: boxesZ d0 d1 d2 → J pre W1 → YieldAt Fence.wide 0 Try.prog l (encX x) W1 fun e W' => (e = .returned (.bool true) ∧ J (pre ++ [x]) W' ∧ KeepT okG W1 W' ∧ KeepsFrom W.heap.size W1 W') ∨ (e = .returned (.bool false) ∧ Jx (pre ++ [x]) W' ∧ KeepsFrom W.heap.size W1 W')) := hY
  have kd0 := hBd.later hW
  have HJ : Hid (OwnFrom W.heap.size J ∧ OwnFrom W.heap.size Jx) := ⟨hJ, hJx⟩
  have hb := N_bd hd
  obtain ⟨N, hN⟩ : ∃ N : Nat, d0 * d1 * d2 = N := ⟨(d0 * d1 * d2).toNat, by omega⟩
  have HM : Hid (∀ w, Calls Try.prog 54 #[A3 d0 d1 d2] w fun e W' => e = .returned (.tuple #[I N, I 0]) ∧ Below w.heap.size w W') := fun w => by rw [← hN]; exact many_yes w hd
  have HF : Hid (∀ (m : Nat) (w : World), m < N → Calls Try.prog 59 #[A3 d0 d1 d2, I m] w fun x W' => x = .returned (.tuple #[A3 (cx d0 m) (cy d0 d1 m) (cz d0 d1 m), I 0]) ∧ Below w.heap.size w W') := fun m w h => of_yes w hd ⟨by omega, by rw [hN]; omega⟩
  have HS : Hid (∀ w, Calls Try.prog 60 #[A3 d0 d1 d2] w fun e W' => e = .returned (.func (.func 86) #[] #[.pointer (some ⟨w.heap.size, 0, none⟩)]) ∧ W' = w.alloc (.cells #[I d0, I d1, I d2] 26)) := fun w => sizesZ_calls d0 d1 d2 w
  have HQ : Hid (∀ (Bo : Nat) (w : World), Blk w Bo 26 #[I d0, I d1, I d2] → SeqO Try.prog 86 #[.pointer (some ⟨Bo, 0, none⟩)] encZ okG (allZ d0 d1 d2) w) := fun Bo w hB => by
    obtain ⟨⟨a1, a2⟩, ⟨b1, b2⟩, c1, c2⟩ := hd
    have e0 : ((d0.toNat : Nat) : Int) = d0 := by omega
    have e1 : ((d1.toNat : Nat) : Int) = d1 := by omega
    have e2 : ((d2.toNat : Nat) : Int) = d2 := by omega
    exact sizesZ_seq okG okG_d w (by rw [e0, e1, e2]; exact hB) (by omega) (by omega) (by omega)
  have HC : Hid (∀ (m : Nat) (pre : List Tz) (s : Tz) (w : World), m < N → pre ++ [s] <+: allZ d0 d1 d2 → Calls Try.prog 23 #[A3 d0 d1 d2, B6 (bxZ d0 d1 m s)] w fun e W' => e = .returned (.tuple #[B6 (canonB d0 d1 d2 (bxZ d0 d1 m s)), I 0]) ∧ Below w.heap.size w W') := fun m pre s w hm hp => bcanon_ok w hd (by
    have hs : s ∈ allZ d0 d1 d2 := hp.subset (by simp)
    obtain ⟨h1, h2, h3⟩ := sizesZ_mem.1 hs
    have hc := inD_of_node hd (m := m) ⟨by omega, by rw [hN]; omega⟩
    obtain ⟨⟨a1, a2⟩, ⟨b1, b2⟩, c1, c2⟩ := hd
    obtain ⟨g1, g2, g3⟩ := hc
    refine ⟨⟨⟨h1.1, ?_⟩, g1⟩, ⟨⟨h2.1, ?_⟩, g2⟩, ⟨h3.1, ?_⟩, g3⟩
    · show s.1 ≤ d0; omega
    · show s.2.1 ≤ d1; omega
    · show s.2.2 ≤ d2; omega)
  have HE : Hid (bxP d0 d1 d2 N = boxesZ d0 d1 d2) := by
    show _ = _
    unfold boxesZ
    rw [hN, Int.toNat_natCast]
  have HNx : Hid (∀ (m : Nat) (pre : List Tz) (s : Tz), m < N → pre ++ [s] <+: allZ d0 d1 d2 →
      (isCanon d0 d1 d2 (bxZ d0 d1 m s) = true ∧ (bxP d0 d1 d2 m ++ bxL d0 d1 d2 m pre) ++ [bxZ d0 d1 m s] <+: boxesZ d0 d1 d2 ∧ bxP d0 d1 d2 m ++ bxL d0 d1 d2 m (pre ++ [s]) = (bxP d0 d1 d2 m ++ bxL d0 d1 d2 m pre) ++ [bxZ d0 d1 m s]) ∨
      (isCanon d0 d1 d2 (bxZ d0 d1 m s) = false ∧ bxP d0 d1 d2 m ++ bxL d0 d1 d2 m (pre ++ [s]) = bxP d0 d1 d2 m ++ bxL d0 d1 d2 m pre)) := fun m pre s hm hp => by
    cases h : isCanon d0 d1 d2 (bxZ d0 d1 m s)
    · exact .inr ⟨rfl, by rw [bxL_no h]⟩
    · exact .inl ⟨rfl, bxP_next (by rw [hN]; simpa using hm) hp h, by rw [bxL_yes h, List.append_assoc]⟩
  have HPs : Hid (∀ m : Nat, bxP d0 d1 d2 (m + 1) = bxP d0 d1 d2 m ++ bxL d0 d1 d2 m (allZ d0 d1 d2)) := fun m => bxP_succ d0 d1 d2 m
  have HL0 : Hid (∀ m, bxL d0 d1 d2 m [] = []) := fun m => rfl
  have hN2 : N ≤ 4096 := by omega
  clear hY hBd hd hJ hJx hb hN
  generalize boxesZ d0 d1 d2 = L at *
  generalize allZ d0 d1 d2 = Z at *
  generalize hG : bxP d0 d1 d2 = G at *
  generalize hH : bxL d0 d1 d2 = H at *
  have hG0 : G 0 = [] := by rw [← hG]; rfl
  clear hG hH
  refine (callsIn_wide (n := 3)).1 ?_
  refine callsIn_of_wp_marks Try.func58 rfl trivial ?_ rfl
  simp only [Try.ntmps58, List.size_toArray, List.length_cons, List.length_nil, Nat.reduceAdd, Nat.reduceSub, Array.replicate_succ, Array.replicate_zero, List.push_toArray, List.append_toArray, List.nil_append, List.cons_append]
  obtain ⟨c0, c1, c2, hz⟩ := kd0.three (Below.refl _ _)
  gi_wp2_with fail
  have hbU : Below W.heap.size W (W.alloc (.cells #[.func (.yield l) #[] #[]] 66)) := (Below.refl _ W).alloc (Nat.le_refl _) _
  refine ⟨trivial, (callsIn_wide.2 (HM.out _)).mono ?_⟩
  rintro e w1 ⟨rfl, hB⟩
  have hT : Below W.heap.size W w1 := then_below hbU hB
  have kf := (Blk.new W 66 #[.func (.yield l) #[] #[]]).later hB
  have pv : BoxPv d0 d1 d2 l Bd W.heap.size w1 := ⟨kd0.later hT, kf⟩
  have hJ0 : J (G 0) w1 := by rw [hG0]; exact own_below HJ.out.1 h0 hT
  have mk : MarkB W.heap.size [] w1 := MarkB.nil _ _
  have HWU : Hid (W.heap.size ≤ w1.heap.size) := hT.size
  clear c0 c1 c2 hz hbU hT kf hB kd0 h0 HM hG0
  generalize W.heap.size = Wn at *
  gi_wp2
  refine wpIn_loop_ghost_k (fun n a wr => ∃ (k : Nat) (bs : List Nat) (u5 u6 u7 u21 u22 u23 u24 u25 u26 u27 u28 u29 u30 u31 u32 u56 : Value), n + k = N ∧ a = { tmps := #[.func (.yield l) #[] #[], .pointer (some ⟨Bd, 0, none⟩), .pointer (some ⟨Wn, 0, none⟩), I N, I 0, u5, u6, u7, undef, undef, undef, undef, .tuple #[I N, I 0], .agg #[I d0, I d1, I d2], .tuple #[I N, I 0], I N, I 0, I 0, .bool false, I N, .int .i64 k, u21, u22, u23, u24, u25, u26, u27, u28, u29, u30, u31, u32, undef, undef, undef, undef, undef, undef, undef, undef, undef, undef, undef, undef, undef, undef, undef, undef, undef, undef, undef, undef, undef, undef, undef, u56], defers := markDs bs } ∧ Hid (J (G k) wr) ∧ BoxPv d0 d1 d2 l Bd Wn wr ∧ MarkB Wn bs wr ∧ Hid (Wn ≤ wr.heap.size)) N ⟨0, [], _, _, _, _, _, _, _, _, _, _, _, _, _, _, _, _, by omega, rfl, hJ0, pv, mk, HWU⟩ ?_
  intro n a wr hI Jg K hJg hK
  obtain ⟨k, bs, u5, u6, u7, u21, u22, u23, u24, u25, u26, u27, u28, u29, u30, u31, u32, u56, hn, rfl, hJ1, pv1, mk1, HWU1⟩ := hI
  have HK : Hid ((∀ k a' w', _ → Jg k a' w') ∧ (∀ a' w', Handed Jg n a' w' → K a' w')) := ⟨hJg, hK⟩
  clear hJg hK hJ0 pv mk HWU
  by_cases hlt : (k : Int) < (N : Int)
  · have hk : k < N := by omega
    have HFk : Hid (∀ w, Calls Try.prog 59 #[A3 d0 d1 d2, I k] w fun x W' => x = .returned (.tuple #[A3 (cx d0 k) (cy d0 d1 k) (cz d0 d1 k), I 0]) ∧ Below w.heap.size w W') := fun w => HF.out k w hk
    have HCk : Hid (∀ (pre : List Tz) (a b c : Int) (w : World), pre ++ [(a, b, c)] <+: Z → Calls Try.prog 23 #[A3 d0 d1 d2, B6 ⟨cx d0 k, cy d0 d1 k, cz d0 d1 k, a, b, c⟩] w fun e W' => e = .returned (.tuple #[B6 (canonB d0 d1 d2 ⟨cx d0 k, cy d0 d1 k, cz d0 d1 k, a, b, c⟩), I 0]) ∧ Below w.heap.size w W') := fun pre a b c w hp => HC.out k pre (a, b, c) w hk hp
    have HNk : Hid (∀ (pre : List Tz) (a b c : Int), pre ++ [(a, b, c)] <+: Z →
      (isCanon d0 d1 d2 ⟨cx d0 k, cy d0 d1 k, cz d0 d1 k, a, b, c⟩ = true ∧ (G k ++ H k pre) ++ [⟨cx d0 k, cy d0 d1 k, cz d0 d1 k, a, b, c⟩] <+: L ∧ G k ++ H k (pre ++ [(a, b, c)]) = (G k ++ H k pre) ++ [⟨cx d0 k, cy d0 d1 k, cz d0 d1 k, a, b, c⟩]) ∨
      (isCanon d0 d1 d2 ⟨cx d0 k, cy d0 d1 k, cz d0 d1 k, a, b, c⟩ = false ∧ G k ++ H k (pre ++ [(a, b, c)]) = G k ++ H k pre)) := fun pre a b c hp => HNx.out k pre (a, b, c) hk hp
    have HPk : Hid (G (k + 1) = G k ++ H k Z) := HPs.out k
    have HL0k : Hid (H k [] = []) := HL0.out k
    have HJ1 : Hid (J (G k) wr) := hJ1
    clear HF HC HNx HPs HL0 hJ1
    generalize cx d0 k = X at *
    generalize cy d0 d1 k = Y at *
    generalize cz d0 d1 k = Q at *
    generalize H k = Hk at *
    generalize hGk : G k = Gk at *
    generalize hGs : G (k + 1) = Gs at *
    have HGs : Hid (G (k + 1) = Gs) := hGs
    clear hGk hGs
    obtain ⟨e0, e1, e2, hez⟩ := pv1.d.three (Below.refl _ _)
    gi_wp2_with fail
    refine ⟨trivial, (callsIn_wide.2 (HFk.out _)).mono ?_⟩
    rintro e w2 ⟨rfl, hB2⟩
    have pv2 := pv1.later hB2
    have HJ2 : Hid (J Gk w2) := own_below HJ.out.1 HJ1.out hB2
    have mk2 := mk1.later hB2
    have HM2 : Hid (∀ d ∈ bs, d < w2.heap.size) := fun d hd => mk2.lt hd
    have HW2 : Hid (Wn ≤ w2.heap.size) := Nat.le_trans HWU1.out hB2.size
    clear e0 e1 e2 hez pv1 HJ1 mk1 HWU1 hB2 HFk
    obtain ⟨e0, e1, e2, hez⟩ := pv2.d.three (Below.refl _ _)
    have hbA : Below w2.heap.size w2 (w2.alloc (.cells #[I X, I Y, I Q] 25)) := (Below.refl _ w2).alloc (Nat.le_refl _) _
    have kA := Blk.new w2 25 #[I X, I Y, I Q]
    gi_wp2_with fail
    refine ⟨trivial, (callsIn_wide.2 (HS.out _)).mono ?_⟩
    rintro e w3 ⟨rfl, rfl⟩
    obtain ⟨U1, hU1⟩ : ∃ U1, U1 = ((w2.alloc (.cells #[I X, I Y, I Q] 25)).alloc (.cells #[I d0, I d1, I d2] 26)) := ⟨_, rfl⟩
    have hbU : Below w2.heap.size w2 U1 := by
      rw [hU1]
      exact ((Below.refl _ w2).alloc (Nat.le_refl _) _).alloc (by simp) _
    have hsq : SeqO Try.prog 86 #[.pointer (some ⟨w2.heap.size + 1, 0, none⟩)] encZ okG Z U1 := HQ.out _ U1 (by
        rw [hU1]
        have := Blk.new (w2.alloc (.cells #[I X, I Y, I Q] 25)) 26 #[I d0, I d1, I d2]
        simpa using this)
    have kU : Blk U1 w2.heap.size 25 #[I X, I Y, I Q] := by
      rw [hU1]
      exact kA.alloc _
    simp only [World.size_alloc]
    rw [← hU1]
    have pv3 := pv2.later hbU
    have HJ3 : Hid (J Gk U1) := own_below HJ.out.1 HJ2.out hbU
    have HM1 : Hid (MarkB Wn bs U1) := mk2.later hbU
    have HML : Hid (∀ d ∈ bs, d < U1.heap.size) := fun d hd => (mk2.later hbU).lt hd
    have HWU2 : Hid (Wn ≤ U1.heap.size) := Nat.le_trans HW2.out hbU.size
    clear hU1 hbU pv2 mk2 HJ2 HM2 HW2 hbA kA e0 e1 e2 hez HS HQ
    generalize w2.heap.size + 1 = B2 at *
    generalize w2.heap.size = B1 at *
    clear w2
    gi_wp2_with fail
    have HL0J : Hid (J (Gk ++ Hk []) U1) := by show J _ _; rw [HL0k.out, List.append_nil]; exact HJ3.out
    clear HJ3
    refine wpIn_rangeO rfl (enters_of Try.func86 (by kernel_rfl) rfl) hsq (Below.refl _ _) (fun _ => rfl)
      (fun pre V => (J (Gk ++ Hk pre) V ∧ BoxPv d0 d1 d2 l Bd Wn V ∧ Blk V B1 25 #[I X, I Y, I Q]) ∧ MarkB Wn bs V)
      (fun c pre V => (c = .ret ∧ ∃ q, q <+: L ∧ Jx q V) ∧ MarkB Wn bs V)
      (fun pre A A' row hs hgr hr => ⟨⟨own_mono HJ.out.1 HWU2.out _ A A' row hs.1.1 hgr hr, hs.1.2.1.kept hgr (fun r e => (hr r e).2), hs.1.2.2.kept hgr (fun r e => (hr r e).2)⟩, hs.2.grown HML.out hgr hr⟩)
      (fun c pre A A' row hs hgr hr => ⟨⟨hs.1.1, by obtain ⟨_, q, hq, hj⟩ := hs.1; exact ⟨q, hq, own_mono HJ.out.2 HWU2.out _ A A' row hj hgr hr⟩⟩, hs.2.grown HML.out hgr hr⟩)
      ⟨⟨HL0J.out, pv3, kU⟩, HM1.out⟩
      (fun xx a' V => ∃ Bf, a' = { tmps := #[.func (.yield l) #[] #[], .pointer (some ⟨Bd, 0, none⟩), .pointer (some ⟨Wn, 0, none⟩), I N, I 0, .int .i64 k, .pointer (some ⟨B1, 0, none⟩), I 0, .pointer (some ⟨Bf, 0, none⟩), undef, undef, undef, .tuple #[I N, I 0], .agg #[I d0, I d1, I d2], .tuple #[I N, I 0], I N, I 0, I 0, .bool false, I N, .int .i64 k, .bool true, .int .i64 k, .tuple #[A3 X Y Q, I 0], .agg #[I d0, I d1, I d2], .int .i64 k, .tuple #[A3 X Y Q, I 0], A3 X Y Q, I 0, I 0, .bool false, .agg #[I d0, I d1, I d2], .func (.func 86) #[] #[.pointer (some ⟨B2, 0, none⟩)], A3 xx.1 xx.2.1 xx.2.2, undef, undef, undef, undef, undef, undef, undef, undef, undef, undef, undef, undef, undef, undef, undef, undef, undef, undef, undef, undef, undef, undef, u56], defers := [] } ∧ Blk V Bf 25 #[I xx.1, I xx.2.1, I xx.2.2])
      (fun xx a' _ A0 A1 row hs hgr hr => by
        obtain ⟨Bf, e, hb⟩ := hs
        exact ⟨Bf, e, hb.kept hgr (fun r e => (hr r e).2)⟩) ?assign ?body ?done ?stop
    case assign =>
      rintro l2 pre ⟨a, b, c⟩ V K2 hI hK2
      have hBa : Below V.heap.size V (V.alloc (.cells #[I a, I b, I c] 25)) := (Below.refl _ V).alloc (Nat.le_refl _) _
      gi_wp2
      exact hK2 _ _ ((keeps_below hBa).from _) (KeepT.below _ hBa) ⟨⟨own_below HJ.out.1 hI.1.1 hBa, hI.1.2.1.later hBa, hI.1.2.2.later hBa⟩, hI.2.later hBa⟩ ⟨_, rfl, Blk.new _ _ _⟩
    case body =>
      rintro l2 pre ⟨a, b, c⟩ a' V hpre hl0 _ ⟨⟨hJ3, pv4, kX⟩, hmk⟩ ⟨Bf, rfl, kf⟩
      dsimp only at kf ⊢
      have HCn : Hid (∀ w, Calls Try.prog 23 #[A3 d0 d1 d2, B6 ⟨X, Y, Q, a, b, c⟩] w fun e W' => e = .returned (.tuple #[B6 (canonB d0 d1 d2 ⟨X, Y, Q, a, b, c⟩), I 0]) ∧ Below w.heap.size w W') := fun w => HCk.out pre a b c w hpre
      have HNn := HNk.out pre a b c hpre
      have HCs : Hid (sameBx (canonB d0 d1 d2 ⟨X, Y, Q, a, b, c⟩) ⟨X, Y, Q, a, b, c⟩ = isCanon d0 d1 d2 ⟨X, Y, Q, a, b, c⟩) := rfl
      obtain ⟨x0, x1, x2, xz⟩ := kX.three (Below.refl _ _)
      obtain ⟨y0, y1, y2, yz⟩ := kf.three (Below.refl _ _)
      obtain ⟨V1, hV1, hbV, kb⟩ : ∃ V1, V1 = V.alloc (.cells (C6 ⟨X, Y, Q, a, b, c⟩) 32) ∧ Below V.heap.size V V1 ∧ Blk V1 V.heap.size 32 (C6 ⟨X, Y, Q, a, b, c⟩) := ⟨_, rfl, (Below.refl _ V).alloc (Nat.le_refl _) _, Blk.new _ _ _⟩
      have HV1 : Hid (V.alloc (.cells (C6 ⟨X, Y, Q, a, b, c⟩) 32) = V1) := hV1.symm
      obtain ⟨e0, e1, e2, hez⟩ := pv4.d.three (Below.refl _ _)
      have HJ4 : Hid (J (Gk ++ Hk pre) V ∧ Blk V B1 25 #[I X, I Y, I Q] ∧ MarkB Wn bs V ∧ Wn ≤ V.heap.size) := ⟨hJ3, kX, hmk, Nat.le_of_lt pv4.f.lt⟩
      clear hJ3 hmk kX kf hpre hV1
      generalize isCanon d0 d1 d2 ⟨X, Y, Q, a, b, c⟩ = ic at *
      generalize hcb : canonB d0 d1 d2 ⟨X, Y, Q, a, b, c⟩ = cb at *
      clear hcb
      have HNn : Hid _ := HNn
      gi_wp2_with fail
      rw [HV1.out]
      refine ⟨trivial, rfl, (CallsIn.inRound l2 (callsIn_wide.2 (HCn.out _))).mono ?_⟩
      rintro e V2 ⟨rfl, hB2⟩
      have hT2 : Below V.heap.size V V2 := then_below hbV hB2
      have kb2 := kb.later hB2
      have pv5 := pv4.later hT2
      have HJ5 : Hid (J (Gk ++ Hk pre) V2 ∧ Blk V2 B1 25 #[I X, I Y, I Q] ∧ MarkB Wn bs V2 ∧ Below V.heap.size V V2 ∧ Wn ≤ V.heap.size) := ⟨own_below HJ.out.1 HJ4.out.1 hT2, HJ4.out.2.1.later hT2, HJ4.out.2.2.1.later hT2, hT2, HJ4.out.2.2.2⟩
      clear x0 x1 x2 xz y0 y1 y2 yz hbV kb HV1 pv4 e0 e1 e2 hez HJ4 hB2 hT2 HCn
      have hV3 : Below V2.heap.size V2 (V2.alloc (.cells (C6 cb) 32)) := (Below.refl _ V2).alloc (Nat.le_refl _) _
      have HT3 : Hid (Below V.heap.size V (V2.alloc (.cells (C6 cb) 32))) := then_below HJ5.out.2.2.2.1 hV3
      have HJ6 : Hid (J (Gk ++ Hk pre) (V2.alloc (.cells (C6 cb) 32)) ∧ BoxPv d0 d1 d2 l Bd Wn (V2.alloc (.cells (C6 cb) 32)) ∧ Blk (V2.alloc (.cells (C6 cb) 32)) B1 25 #[I X, I Y, I Q] ∧ MarkB Wn bs (V2.alloc (.cells (C6 cb) 32)) ∧ Wn ≤ V.heap.size) := ⟨own_below HJ.out.1 HJ5.out.1 hV3, pv5.later hV3, HJ5.out.2.1.later hV3, HJ5.out.2.2.1.later hV3, HJ5.out.2.2.2.2⟩
      obtain ⟨g0, g1, g2, g3, g4, g5, gz⟩ := kb2.sixX (Below.refl _ _)
      have cy := pv5.f.cell 0
      have hfz := pv5.f.lt
      simp at cy
      clear hV3 pv5 HJ5 kb2
      rcases HNn.out with ⟨rfl, hpre, happ⟩ | ⟨rfl, happ⟩
      · obtain ⟨f1, t1, as1, bo1, hy1, hR1⟩ := HY.out (Gk ++ Hk pre) ⟨X, Y, Q, a, b, c⟩ _ hpre HJ6.out.1
        dsimp only [encX] at hy1
        have hR1 := roundIn_any (m := 0) hR1
        have HN : Hid ((Gk ++ Hk pre) ++ [⟨X, Y, Q, a, b, c⟩] <+: L) := hpre
        have HA : Hid (Gk ++ Hk (pre ++ [(a, b, c)]) = (Gk ++ Hk pre) ++ [⟨X, Y, Q, a, b, c⟩]) := happ
        have hcs := HCs.out
        clear hpre happ HNn HCs
        gi_wp2_with fail
        refine ⟨rfl, hR1.mono ?_⟩
        rintro e W3 (⟨rfl, hJ7, hk7, hf7⟩ | ⟨rfl, hJx7, hf7⟩)
        · have HJ7 : Hid (J (Gk ++ Hk (pre ++ [(a, b, c)])) W3 ∧ KeepT okG V W3 ∧ KeepsFrom Wn V W3 ∧ BoxPv d0 d1 d2 l Bd Wn W3 ∧ Blk W3 B1 25 #[I X, I Y, I Q] ∧ MarkB Wn bs W3) := by
            rw [HA.out]
            exact ⟨hJ7, (KeepT.below _ HT3.out).trans hk7, ((keeps_below HT3.out).from _).trans hf7, HJ6.out.2.1.keep hk7, hk7.blkG HJ6.out.2.2.1 okG_a, HJ6.out.2.2.2.1.keep hf7 (Nat.le_refl _)⟩
          clear hJ7 hk7 hf7
          gi_wp2
          exact ⟨keepsFrom_mono HJ7.out.2.2.1 HWU2.out, HJ7.out.2.1, ⟨HJ7.out.1, HJ7.out.2.2.2.1, HJ7.out.2.2.2.2.1⟩, HJ7.out.2.2.2.2.2⟩
        · have HJ7 : Hid (Jx ((Gk ++ Hk pre) ++ [⟨X, Y, Q, a, b, c⟩]) W3 ∧ KeepsFrom Wn V W3 ∧ MarkB Wn bs W3) := ⟨hJx7, ((keeps_below HT3.out).from _).trans hf7, HJ6.out.2.2.2.1.keep hf7 (Nat.le_refl _)⟩
          clear hJx7 hf7
          gi_wp2
          exact ⟨keepsFrom_mono HJ7.out.2.1 HWU2.out, ⟨rfl, _, HN.out, HJ7.out.1⟩, HJ7.out.2.2⟩
      · have HA : Hid (Gk ++ Hk (pre ++ [(a, b, c)]) = Gk ++ Hk pre) := happ
        have hcs := HCs.out
        clear happ HNn HCs
        gi_wp2_with fail
        refine ⟨fun _ h => (by cases h), ?_⟩
        have HJ7 : Hid (J (Gk ++ Hk (pre ++ [(a, b, c)])) (V2.alloc (.cells (C6 cb) 32))) := by
          show J _ _
          rw [HA.out]
          exact HJ6.out.1
        gi_wp2
        exact ⟨(keeps_below HT3.out).from _, KeepT.below _ HT3.out, ⟨HJ7.out, HJ6.out.2.1, HJ6.out.2.2.1⟩, HJ6.out.2.2.2.1⟩
    case done =>
      rintro Db U hD ⟨⟨hJ3, pv4, _⟩, hmk⟩ hDV
      have mk : MarkB Wn (Db :: bs) U := hmk.cons (Nat.le_trans HWU2.out hD) hDV (fun d hd => Nat.lt_of_lt_of_le (HML.out d hd) hD)
      have HJ4 : Hid (J (G (k + 1)) U) := by
        show J _ _
        rw [HGs.out, HPk.out]
        exact hJ3
      have HE2 : Hid (BoxPv d0 d1 d2 l Bd Wn U ∧ MarkB Wn (Db :: bs) U ∧ Wn ≤ U.heap.size) := ⟨pv4, mk, by have := (Array.getElem?_eq_some_iff.1 hDV).1; have := HWU2.out; omega⟩
      clear hJ3 pv4 hmk mk hDV hD
      gi_wp2
      exact HK.out.2 _ _ ⟨n - 1, by omega, HK.out.1 _ _ _ ⟨k + 1, Db :: bs, _, _, _, _, _, _, _, _, _, _, _, _, _, _, _, _, by omega, rfl, HJ4, HE2.out.1, HE2.out.2.1, HE2.out.2.2⟩⟩
    case stop =>
      rintro D c pre V hD hpre ⟨⟨rfl, q, hq, hj⟩, hmk⟩ hDV
      have mk : MarkB Wn (D :: bs) V := hmk.cons (Nat.le_trans HWU2.out hD) hDV (fun d hd => Nat.lt_of_lt_of_le (HML.out d hd) hD)
      have HE2 : Hid (MarkB Wn (D :: bs) V ∧ q <+: L ∧ Jx q V) := ⟨mk, hq, hj⟩
      clear mk hmk hDV hD hpre hq hj
      gi_wp2
      exact leaves_own (n := Wn) (fun V' => Jx q V') (fun _ A A' row hs hgr hr => HJ.out.2 _ A A' row hs hgr hr) _ V HE2.out.1.1 HE2.out.1.2 HE2.out.2.2 (fun V' hV' _ => ⟨_, results_none rfl _ _ _, ⟨_, rfl⟩, .inr ⟨q, HE2.out.2.1, hV'⟩⟩)
  · obtain rfl : k = N := by omega
    have HF2 : Hid (J L wr) := by
      show J _ _
      rw [← HE.out]
      exact hJ1.out
    have HE2 : Hid (MarkB Wn bs wr) := mk1
    clear hJ1 pv1 mk1
    gi_wp2
    exact leaves_own (n := Wn) (fun V' => J L V') (fun _ A A' row hs hgr hr => HJ.out.1 _ A A' row hs hgr hr) _ wr HE2.out.1 HE2.out.2 HF2.out (fun V' hV' _ => ⟨_, results_none rfl _ _ _, ⟨_, rfl⟩, .inl hV'⟩)

end Go.Proofs.Ytjmfdpilmljppaa
