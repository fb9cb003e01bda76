/-
  Sets in memory that a call made: one is made empty, and a number after the other is put in.
-/
import Derived.Test.YtckklobbbidonaaDoorSetLook
import Derived.Laws.MakeOwn
namespace Go.Proofs.YtckklobbbidonaaDoor
open Go Go.RowKit Go.Shelf

/-- The set v holds the words ws, in a block of its own from number base on. -/
def Set1 (W : World) (base : Nat) (v : Value) (ws : List Nat) : Prop :=
  (∀ x ∈ ws, x < 18446744073709551616) ∧ ∃ g, v = .slice (some ⟨g, 0, none⟩) ws.length ws.length ∧ base ≤ g ∧ Blk W g 25 (ws.map U).toArray
/-- .. or there is none. -/
def SetR (W : World) (base : Nat) (v : Value) (ws : List Nat) : Prop := Set1 W base v ws ∨ (v = .slice none 0 0 ∧ ws = [])
theorem Set1.wds {W : World} {base : Nat} {v : Value} {ws : List Nat} (h : Set1 W base v ws) : Wds W v ws := by
  obtain ⟨h1, g, rfl, _, hb⟩ := h
  have := Sl.blk hb ws.length
  rw [List.length_map] at this
  exact ⟨h1, this⟩
theorem Set1.later {W W' : World} {base : Nat} {v : Value} {ws : List Nat} (h : Set1 W base v ws) (hb : Below W.heap.size W W') : Set1 W' base v ws := by
  obtain ⟨h1, g, e, hg, hk⟩ := h
  exact ⟨h1, g, e, hg, hk.later hb⟩
theorem Set1.weak {W : World} {base base' : Nat} {v : Value} {ws : List Nat} (h : Set1 W base v ws) (hb : base' ≤ base) : Set1 W base' v ws := by
  obtain ⟨h1, g, e, hg, hk⟩ := h
  exact ⟨h1, g, e, Nat.le_trans hb hg, hk⟩
theorem SetR.wds {W : World} {base : Nat} {v : Value} {ws : List Nat} (h : SetR W base v ws) : Wds W v ws := by
  rcases h with h | ⟨rfl, rfl⟩
  · exact h.wds
  · exact Wds.nil W
theorem SetR.later {W W' : World} {base : Nat} {v : Value} {ws : List Nat} (h : SetR W base v ws) (hb : Below W.heap.size W W') : SetR W' base v ws := by
  rcases h with h | h
  · exact .inl (h.later hb)
  · exact .inr h
theorem SetR.weak {W : World} {base base' : Nat} {v : Value} {ws : List Nat} (h : SetR W base v ws) (hb : base' ≤ base) : SetR W base' v ws := by
  rcases h with h | h
  · exact .inl (h.weak hb)
  · exact .inr h

theorem info_u64 : (Tryd.prog.info? 25).map (fun i => (i.zero, i.size, i.bytes)) = some (some (.int .u64 0), 1, 8) := by kernel_rfl

theorem made_zero (n : Nat) : madeCells #[.int .u64 0] n = ((List.replicate n 0).map U).toArray := by
  apply Array.ext
  · simp [madeCells]
  · intro i h1 h2
    simp only [madeCells, Array.getElem_map, Array.getElem_range]
    simp [Nat.mod_one]

/-- 'make(api.Set, n)'. -/
theorem wpList_mkW {ops : Array Oper} {rest : List Oper} {o : Oper} {a : Act} {Q : Exit → Act → World → Prop} {W : World} (hgd : o.guard = none) (l c : Operand) (ho : o.op = Op.makeSlice 27 l c) (n : Nat)
    (hl : a.eval l = .int .i64 n) (hc : a.eval c = .int .i64 n) (h1 : n ≤ 100000)
    (h : ∀ w', Blk w' W.heap.size 25 ((List.replicate n 0).map U).toArray → Below W.heap.size W w' → wpList Tryd.prog ops Q rest (a.put o.dst (.slice (some ⟨W.heap.size, 0, none⟩) n n)) w') : wpList Tryd.prog ops Q (o :: rest) a W := by
  obtain ⟨i0, hi, hz0, hz1, hz2⟩ := info_parts info_u64
  refine wpList_plain hgd fun K hK' => ?_
  have hrun := run_make (P := Tryd.prog) W 27 25 i0 (.int .u64 0) Tryd.underlying27 hi hz0 .i64 .i64 n n (by omega) (by omega) (by rw [hz2]; omega) (by omega)
  rw [hz1, Nat.mul_one] at hrun
  simp only [Int.toNat_natCast] at hrun
  rw [show (Value.int .u64 0).cells = #[.int .u64 0] from rfl, made_zero] at hrun
  have hN := h _ (Blk.new W 25 _) ((Below.refl _ W).alloc (Nat.le_refl _) _)
  clear h
  generalize ((List.replicate n 0).map U).toArray = cs at hrun hN
  unfold Oper.wp
  simp [execOp, ho, hl, hc, hrun, Result.andThen]
  exact hK' _ _ hN

/-- A number is put into a set. -/
def putW (ws : List Nat) (k : Nat) : List Nat := ws.set (k / 64) (ws.getD (k / 64) 0 ||| 2 ^ (k % 64))
theorem putW_len (ws : List Nat) (k : Nat) : (putW ws k).length = ws.length := by simp [putW]
theorem or_lt (x j : Nat) (hx : x < 18446744073709551616) (hj : j < 64) : x ||| 2 ^ j < 18446744073709551616 :=
  Nat.or_lt_two_pow (n := 64) hx (Nat.pow_lt_pow_right (by omega) hj)
theorem getD_lt {ws : List Nat} (h : ∀ x ∈ ws, x < 18446744073709551616) (k : Nat) : ws.getD k 0 < 18446744073709551616 := by
  by_cases hk : k < ws.length
  · have := h (ws[k]) (List.getElem_mem hk)
    simpa [hk] using this
  · simp [Nat.not_lt.1 hk]
theorem putW_lt {ws : List Nat} (h : ∀ x ∈ ws, x < 18446744073709551616) (k : Nat) : ∀ x ∈ putW ws k, x < 18446744073709551616 := by
  intro x hx
  rcases List.mem_or_eq_of_mem_set hx with hx | rfl
  · exact h x hx
  · exact or_lt _ _ (getD_lt h _) (Nat.mod_lt k (by omega))
theorem hasW_put {ws : List Nat} {k : Nat} (hk : k / 64 < ws.length) (j : Nat) : hasW (putW ws k) j = (hasW ws j || decide (j = k)) := by
  unfold hasW putW
  by_cases he : j / 64 = k / 64
  · rw [he]
    simp only [List.getD_eq_getElem?_getD, List.getElem?_set_self hk, Option.getD_some, Nat.testBit_or, Nat.testBit_two_pow]
    congr 1
    rw [decide_eq_decide]
    omega
  · simp only [List.getD_eq_getElem?_getD]
    rw [List.getElem?_set_ne (fun h => he h.symm)]
    rw [show decide (j = k) = false from by rw [decide_eq_false_iff_not]; intro h; rw [h] at he; exact he rfl, Bool.or_false]
theorem add_or {x j : Nat} (h : x.testBit j = false) : x + 2 ^ j = x ||| 2 ^ j := by
  have hp : 2 ^ (j + 1) = 2 * 2 ^ j := by rw [Nat.pow_succ, Nat.mul_comm]
  obtain ⟨a, b, hx, hb⟩ : ∃ a b, x = 2 ^ (j + 1) * a + b ∧ b < 2 ^ j := by
    refine ⟨x / 2 ^ j / 2, x % 2 ^ j, ?_, Nat.mod_lt x (Nat.two_pow_pos j)⟩
    have h2 : x / 2 ^ j % 2 = 0 := by
      rw [Nat.testBit_eq_decide_div_mod_eq] at h
      have := of_decide_eq_false h
      omega
    have h3 := Nat.div_add_mod x (2 ^ j)
    rw [hp, Nat.mul_comm 2, Nat.mul_assoc, show 2 * (x / 2 ^ j / 2) = x / 2 ^ j by omega]
    exact h3.symm
  have e1 : 2 ^ (j + 1) * a + b = 2 ^ (j + 1) * a ||| b := Nat.two_pow_add_eq_or_of_lt (by omega) a
  have e2 : 2 ^ j * 1 + b = 2 ^ j * 1 ||| b := Nat.two_pow_add_eq_or_of_lt hb 1
  have e3 : 2 ^ (j + 1) * a + (2 ^ j * 1 + b) = 2 ^ (j + 1) * a ||| (2 ^ j * 1 + b) := Nat.two_pow_add_eq_or_of_lt (by omega) a
  rw [hx, e1, Nat.or_assoc, Nat.or_comm b, show 2 ^ j ||| b = 2 ^ j * 1 + b by rw [e2, Nat.mul_one], ← e3, ← e1]
  omega

/-- The words of a set of l words, told by its numbers. -/
structure IsSet (l : Nat) (ws : List Nat) (p : Nat → Bool) : Prop where
  len : ws.length = l
  word : ∀ x ∈ ws, x < 18446744073709551616
  has : ∀ k, hasW ws k = p k
theorem IsSet.none (l : Nat) : IsSet l (List.replicate l 0) (fun _ => false) := ⟨by simp, fun x hx => by rw [(List.mem_replicate.1 hx).2]; decide, fun k => by
  unfold hasW
  rw [List.getD_eq_getElem?_getD, List.getElem?_replicate]
  split <;> simp⟩
theorem IsSet.put {l : Nat} {ws : List Nat} {p q : Nat → Bool} {k : Nat} (h : IsSet l ws p) (hk : k / 64 < l) (hq : ∀ j, q j = (p j || decide (j = k))) : IsSet l (putW ws k) q :=
  ⟨by rw [putW_len, h.len], putW_lt h.word k, fun j => by rw [hasW_put (by rw [h.len]; exact hk), h.has, hq]⟩
theorem IsSet.ext {l : Nat} {a b : List Nat} {p : Nat → Bool} (ha : IsSet l a p) (hb : IsSet l b p) : a = b := by
  apply List.ext_getElem
  · rw [ha.len, hb.len]
  · intro i h1 h2
    refine word_ext (ha.word _ (List.getElem_mem h1)) (hb.word _ (List.getElem_mem h2)) fun j hj => ?_
    have e := (ha.has (64 * i + j)).trans (hb.has (64 * i + j)).symm
    rw [hasW_at _ _ _ hj, hasW_at _ _ _ hj] at e
    simpa [h1, h2] using e
theorem IsSet.congr {l : Nat} {ws : List Nat} {p q : Nat → Bool} (h : IsSet l ws p) (hq : ∀ j, q j = p j) : IsSet l ws q := ⟨h.len, h.word, fun j => by rw [hq, h.has]⟩

/-- The cell that is written. -/
theorem blk_put {W : World} {g : Nat} {ws : List Nat} (h : Blk W g 25 (ws.map U).toArray) (i x : Nat) : Blk (W.setCell ⟨g, i, none⟩ (U x)) g 25 ((ws.set i x).map U).toArray := by
  have := h.set i (U x)
  rw [List.map_set]
  simpa using this
theorem blk_get {W : World} {g : Nat} {ws : List Nat} (h : Blk W g 25 (ws.map U).toArray) {i : Nat} (hi : i < ws.length) : W.cell? ⟨g, i, none⟩ = some (U (ws.getD i 0)) := by
  rw [h.cell i]
  simp [hi]

end Go.Proofs.YtckklobbbidonaaDoor
