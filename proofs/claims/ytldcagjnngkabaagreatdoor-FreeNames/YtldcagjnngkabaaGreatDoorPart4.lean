/-
  Rows of words and of whole numbers, wherever in memory they lie: what a walk asks of a slice that it reads.
-/
import Derived.Test.YtldcagjnngkabaaGreatDoorPart3
import Derived.Test.YtldcagjnngkabaaGreatDoorProg
import Derived.OwnWalk
import Derived.Laws.BitsAllLaws
import Derived.Laws.ShiftsVarLaws
import Derived.Test.YtldcagjnngkabaaGreatDoorPart2
import Derived.Laws.AppendOwn
import Derived.Laws.AppendOwnNone
import Derived.Maps.AppendAt
namespace Go.Proofs.YtldcagjnngkabaaGreatDoor
open Go Go.RowKit Go.Shelf

abbrev U (x : Nat) : Value := .int .u64 (x : Int)

/-- The slice v reads as the values vs. -/
def Sl (W : World) (v : Value) (vs : List Value) : Prop :=
  ∃ ao cap, v = .slice ao vs.length cap ∧ ∀ k, k < vs.length → ∃ g off, ao = some ⟨g, off, none⟩ ∧ g < W.heap.size ∧ W.cell? ⟨g, off + k, none⟩ = vs[k]?
theorem Sl.later {W W' : World} {v : Value} {vs : List Value} (h : Sl W v vs) (hb : Below W.heap.size W W') : Sl W' v vs := by
  obtain ⟨ao, cap, e, h⟩ := h
  refine ⟨ao, cap, e, fun k hk => ?_⟩
  obtain ⟨g, off, e, hg, hc⟩ := h k hk
  exact ⟨g, off, e, Nat.lt_of_lt_of_le hg hb.size, (hb.cell (p := ⟨g, off + k, none⟩) hg).trans hc⟩
theorem Sl.nil (W : World) : Sl W (.slice none 0 0) [] := ⟨none, 0, rfl, fun k hk => by simp at hk⟩
theorem Sl.blk {W : World} {g : Nat} {t : TypeId} {vs : List Value} (h : Blk W g t vs.toArray) (cap : Nat) : Sl W (.slice (some ⟨g, 0, none⟩) vs.length cap) vs :=
  ⟨_, _, rfl, fun k hk => ⟨g, 0, rfl, h.lt, by rw [Nat.zero_add, h.cell k]; simp⟩⟩

/-- A row of words; a row of whole numbers. -/
def Wds (W : World) (v : Value) (ws : List Nat) : Prop := (∀ x ∈ ws, x < 18446744073709551616) ∧ Sl W v (ws.map U)
def Its (W : World) (v : Value) (xs : List Int) : Prop := Sl W v (xs.map I)
theorem Wds.later {W W' : World} {v : Value} {ws : List Nat} (h : Wds W v ws) (hb : Below W.heap.size W W') : Wds W' v ws := ⟨h.1, h.2.later hb⟩
theorem Its.later {W W' : World} {v : Value} {xs : List Int} (h : Its W v xs) (hb : Below W.heap.size W W') : Its W' v xs := Sl.later h hb
theorem Wds.nil (W : World) : Wds W (.slice none 0 0) [] := ⟨fun _ h => (by cases h), Sl.nil W⟩
theorem Its.nil (W : World) : Its W (.slice none 0 0) [] := Sl.nil W
theorem Wds.view {W : World} {v : Value} {ws : List Nat} (h : Wds W v ws) :
    ∃ ao cap, v = .slice ao ws.length cap ∧ ∀ k, k < ws.length → ∃ g off, ao = some ⟨g, off, none⟩ ∧ g < W.heap.size ∧ W.cell? ⟨g, off + k, none⟩ = some (U (ws.getD k 0)) := by
  obtain ⟨_, ao, cap, e, h⟩ := h
  refine ⟨ao, cap, by simpa using e, fun k hk => ?_⟩
  obtain ⟨g, off, e, hg, hc⟩ := h k (by simpa using hk)
  exact ⟨g, off, e, hg, by rw [hc]; simp [hk]⟩
theorem Its.view {W : World} {v : Value} {xs : List Int} (h : Its W v xs) :
    ∃ ao cap, v = .slice ao xs.length cap ∧ ∀ k, k < xs.length → ∃ g off, ao = some ⟨g, off, none⟩ ∧ g < W.heap.size ∧ W.cell? ⟨g, off + k, none⟩ = some (I (xs.getD k 0)) := by
  obtain ⟨ao, cap, e, h⟩ := h
  refine ⟨ao, cap, by simpa using e, fun k hk => ?_⟩
  obtain ⟨g, off, e, hg, hc⟩ := h k (by simpa using hk)
  exact ⟨g, off, e, hg, by rw [hc]; simp [hk]⟩
theorem Wds.word {W : World} {v : Value} {ws : List Nat} (h : Wds W v ws) (k : Nat) : ws.getD k 0 < 18446744073709551616 := by
  by_cases hk : k < ws.length
  · have := h.1 (ws[k]) (List.getElem_mem hk)
    simpa [hk] using this
  · simp [Nat.not_lt.1 hk]

/-- One bit of a word, as the program asks for it. -/
theorem bit_of (x j : Nat) (hx : x < 18446744073709551616) : (bits .and .u64 ((x : Int) / 2 ^ j) 1 == 1) = x.testBit j := by
  have e : (x : Int) / 2 ^ j = ((x / 2 ^ j : Nat) : Int) := by norm_cast
  rw [e, show (1 : Int) = ((1 : Nat) : Int) from rfl, u64_and_nat _ _ (Nat.lt_of_le_of_lt (Nat.div_le_self _ _) hx) (by decide), Nat.and_one_is_mod]
  rw [Nat.testBit_eq_decide_div_mod_eq]
  have : x / 2 ^ j % 2 = 0 ∨ x / 2 ^ j % 2 = 1 := by omega
  rcases this with h | h <;> rw [h] <;> rfl

theorem hasW_out {ws : List Nat} {k : Nat} (h : ws.length ≤ k / 64) : hasW ws k = false := by
  unfold hasW
  simp [h]
theorem hasW_past {ws : List Nat} {k : Nat} (h : 64 * ws.length ≤ k) : hasW ws k = false := hasW_out (by omega)

/-- A set below n may be. -/
def maySet (n : Nat) (ws : List Nat) : Bool := decide (ws.length = (n + 63) / 64) && (List.range (64 * ws.length)).all fun k => decide (k < n) || !hasW ws k
theorem mayS_iff {n : Nat} {ws : List Nat} : maySet n ws = true ↔ ws.length = (n + 63) / 64 ∧ ∀ k, n ≤ k → hasW ws k = false := by
  unfold maySet
  rw [Bool.and_eq_true, decide_eq_true_eq, List.all_eq_true]
  constructor
  · rintro ⟨h1, h2⟩
    refine ⟨h1, fun k hk => ?_⟩
    by_cases hl : k < 64 * ws.length
    · have := h2 k (List.mem_range.2 hl)
      simpa [Nat.not_lt.2 hk] using this
    · exact hasW_past (by omega)
  · rintro ⟨h1, h2⟩
    refine ⟨h1, fun k _ => ?_⟩
    by_cases hk : k < n
    · simp [hk]
    · simp [h2 k (by omega)]
theorem mayS_len {n : Nat} {ws : List Nat} (h : ws.length ≠ (n + 63) / 64) : maySet n ws = false := by simp [maySet, h]
theorem mayS_no {n k : Nat} {ws : List Nat} (hk : n ≤ k) (h : hasW ws k = true) : maySet n ws = false := by
  cases e : maySet n ws
  · rfl
  · rw [(mayS_iff.1 e).2 k hk] at h; cases h
theorem mayS_full {n : Nat} {ws : List Nat} (hl : ws.length = (n + 63) / 64) (h0 : n % 64 = 0) : maySet n ws = true :=
  mayS_iff.2 ⟨hl, fun k hk => hasW_past (by omega)⟩
theorem mayS_last {n : Nat} {ws : List Nat} (hx : ws.getD (ws.length - 1) 0 < 18446744073709551616) (hn : 1 ≤ n) (hl : ws.length = (n + 63) / 64) (h0 : n % 64 ≠ 0) : maySet n ws = ((ws.getD (ws.length - 1) 0 : Int) / 2 ^ (n % 64) == 0) := by
  have e : ((ws.getD (ws.length - 1) 0 : Nat) : Int) / 2 ^ (n % 64) = ((ws.getD (ws.length - 1) 0 / 2 ^ (n % 64) : Nat) : Int) := by norm_cast
  rw [e, Bool.eq_iff_iff, mayS_iff]
  simp only [beq_iff_eq]
  have hp : 0 < 2 ^ (n % 64) := Nat.two_pow_pos _
  constructor
  · rintro ⟨_, h⟩
    have : ws.getD (ws.length - 1) 0 < 2 ^ (n % 64) := by
      apply Nat.lt_pow_two_of_testBit
      intro i hi
      by_cases h64 : i < 64
      · have := h (64 * (ws.length - 1) + i) (by omega)
        rwa [hasW_at _ _ _ h64] at this
      · exact Nat.testBit_lt_two_pow (Nat.lt_of_lt_of_le hx (Nat.pow_le_pow_right (n := 2) (i := 64) (by omega) (by omega)))
    rw [Nat.div_eq_of_lt this]; rfl
  · intro h
    have h : ws.getD (ws.length - 1) 0 / 2 ^ (n % 64) = 0 := by exact_mod_cast h
    refine ⟨hl, fun k hk => ?_⟩
    by_cases hk2 : k < 64 * ws.length
    · have : k = 64 * (ws.length - 1) + k % 64 := by omega
      rw [this, hasW_at _ _ _ (Nat.mod_lt k (by omega))]
      have hlt : ws.getD (ws.length - 1) 0 < 2 ^ (n % 64) := by
        rcases Nat.div_eq_zero_iff.1 h with h' | h'
        · omega
        · exact h'
      exact Nat.testBit_lt_two_pow (Nat.lt_of_lt_of_le hlt (Nat.pow_le_pow_right (by omega) (by omega)))
    · exact hasW_past (by omega)

/-- The error of some sets below n. -/
def okN (n : Int) : Bool := decide (1 ≤ n ∧ n ≤ 12288)
def errAll (n : Int) (wss : List (List Nat)) : Int := if okN n then (if wss.all (maySet n.toNat) then 0 else 8) else 2
theorem errAll_bad {n : Int} (h : ¬ (1 ≤ n ∧ n ≤ 12288)) (wss : List (List Nat)) : errAll n wss = 2 := by simp [errAll, okN, h]
theorem errAll_not {n : Nat} {wss : List (List Nat)} (h : 1 ≤ n ∧ n ≤ 12288) {k : Nat} (hk : k < wss.length) (hm : maySet n (wss.getD k []) = false) : errAll n wss = 8 := by
  have e : okN (n : Int) = true := by simp [okN]; omega
  unfold errAll
  rw [if_pos e, if_neg]
  intro ha
  have := List.all_eq_true.1 ha (wss[k]) (List.getElem_mem hk)
  simp [hk] at hm
  simp [hm] at this
theorem errAll_ok {n : Nat} {wss : List (List Nat)} (h : 1 ≤ n ∧ n ≤ 12288) (hm : ∀ k, k < wss.length → maySet n (wss.getD k []) = true) : errAll n wss = 0 := by
  have e : okN (n : Int) = true := by simp [okN]; omega
  unfold errAll
  rw [if_pos e, if_pos]
  apply List.all_eq_true.2
  intro x hx
  obtain ⟨k, hk, rfl⟩ := List.mem_iff_getElem.1 hx
  have := hm k hk
  simpa [hk] using this

end Go.Proofs.YtldcagjnngkabaaGreatDoor

/-
  Lists of slots: as a walk reads them, wherever they lie (Ss); in memory that a call made (So): lengthened, made.
-/
namespace Go.Proofs.YtldcagjnngkabaaGreatDoor
open Go Go.RowKit Go.Shelf

/-- A slot's value, and its cells. -/
abbrev V3 (f t o : Int) : Value := .agg #[.int .i64 f, .int .i64 t, .int .i64 o]
abbrev C3 (f t o : Int) : Array Value := #[.int .i64 f, .int .i64 t, .int .i64 o]
def cellsS (s : Slt) : List Value := [I s.1, I s.2.1, I s.2.2]
def flatS (xs : List Slt) : List Value := xs.flatMap cellsS
theorem flatS_len : ∀ xs : List Slt, (flatS xs).length = xs.length * 3
  | [] => rfl
  | x :: xs => by
    have := flatS_len xs
    simp only [flatS, List.flatMap_cons, List.length_append, List.length_cons, cellsS, List.length_nil] at this ⊢
    omega
theorem flatS_app (xs ys : List Slt) : flatS (xs ++ ys) = flatS xs ++ flatS ys := by simp [flatS]
theorem flatS_get : ∀ (xs : List Slt) (k i : Nat), i < 3 → k < xs.length → (flatS xs)[k * 3 + i]? = (cellsS (xs.getD k (0, 0, 0)))[i]?
  | [], k, i, _, hk => by simp at hk
  | x :: xs, 0, i, hi, _ => by
    rw [flatS, List.flatMap_cons, List.getElem?_append_left (by simp [cellsS]; omega)]
    simp
  | x :: xs, k + 1, i, hi, hk => by
    have := flatS_get xs k i hi (by simpa using hk)
    rw [flatS, List.flatMap_cons, List.getElem?_append_right (by simp [cellsS]; omega)]
    rw [show (k + 1) * 3 + i - (cellsS x).length = k * 3 + i by simp [cellsS]; omega]
    exact this
theorem flatS_int {xs : List Slt} {v : Value} (h : v ∈ flatS xs) : ∃ n, v = I n := by
  obtain ⟨s, _, hs⟩ := List.mem_flatMap.1 h
  simp only [cellsS, List.mem_cons, List.not_mem_nil, or_false] at hs
  rcases hs with rfl | rfl | rfl
  · exact ⟨_, rfl⟩
  · exact ⟨_, rfl⟩
  · exact ⟨_, rfl⟩

/-- Block g holds, from cell n on, one slot. -/
def At3 (W : World) (g n : Nat) (s : Slt) : Prop := g < W.heap.size ∧ W.cell? ⟨g, n, none⟩ = some (I s.1) ∧ W.cell? ⟨g, n + 1, none⟩ = some (I s.2.1) ∧ W.cell? ⟨g, n + 2, none⟩ = some (I s.2.2)
theorem At3.below {W W' : World} {g n m : Nat} {s : Slt} (h : At3 W g n s) (hb : Below m W W') (hg : g < m) : At3 W' g n s := by
  obtain ⟨h0, h1, h2, h3⟩ := h
  exact ⟨Nat.lt_of_lt_of_le h0 hb.size, (hb.cell (p := ⟨g, n, none⟩) hg).trans h1, (hb.cell (p := ⟨g, n + 1, none⟩) hg).trans h2, (hb.cell (p := ⟨g, n + 2, none⟩) hg).trans h3⟩
theorem At3.later {W W' : World} {g n : Nat} {s : Slt} (h : At3 W g n s) (hb : Below W.heap.size W W') : At3 W' g n s := h.below hb h.1
theorem Blk.at3 {W : World} {g : Nat} {t : TypeId} {f t' o : Int} (h : Blk W g t (C3 f t' o)) : At3 W g 0 (f, t', o) := ⟨h.lt, h.cell 0, h.cell 1, h.cell 2⟩

/-- The slice v reads as the slots xs. -/
def Ss (W : World) (v : Value) (xs : List Slt) : Prop :=
  ∃ ao cap, v = .slice ao xs.length cap ∧ xs.length ≤ cap ∧ (ao = none → cap = 0) ∧ ∀ k, k < xs.length → ∃ g off, ao = some ⟨g, off, none⟩ ∧ At3 W g (off + k * 3) (xs.getD k (0, 0, 0))
theorem Ss.later {W W' : World} {v : Value} {xs : List Slt} (h : Ss W v xs) (hb : Below W.heap.size W W') : Ss W' v xs := by
  obtain ⟨ao, cap, e, hc, hn, h⟩ := h
  refine ⟨ao, cap, e, hc, hn, fun k hk => ?_⟩
  obtain ⟨g, off, e, ha⟩ := h k hk
  exact ⟨g, off, e, ha.later hb⟩
theorem Ss.nil (W : World) : Ss W (.slice none 0 0) [] := ⟨none, 0, rfl, Nat.le_refl _, fun _ => rfl, fun k hk => by simp at hk⟩
/-- What a walk asks of a list that it reads. -/
theorem Ss.at {W : World} {ao : Option Addr} {n cap : Nat} {xs : List Slt} (h : Ss W (.slice ao n cap) xs) {k : Nat} (hk : k < xs.length) :
    ∃ g off f t o, ao = some ⟨g, off, none⟩ ∧ xs.getD k (0, 0, 0) = (f, t, o) ∧ At3 W g (off + k * 3) (f, t, o) := by
  obtain ⟨ao', cap', e, _, _, hv⟩ := h
  obtain ⟨g, off, hg, ha⟩ := hv k hk
  rw [Value.slice.injEq] at e
  rcases hu : xs.getD k (0, 0, 0) with ⟨f, t, o⟩
  rw [hu] at ha
  exact ⟨g, off, f, t, o, e.1.trans hg, rfl, ha⟩
theorem Ss.form {W : World} {v : Value} {xs : List Slt} (h : Ss W v xs) : ∃ ao cap, v = .slice ao xs.length cap ∧ Ss W (.slice ao xs.length cap) xs := by
  obtain ⟨ao, cap, e, r⟩ := h
  exact ⟨ao, cap, e, ao, cap, rfl, r⟩

/-- The slice v holds just xs, in a block of its own from number base on. -/
def So (W : World) (base : Nat) (v : Value) (xs : List Slt) : Prop := W.ownsRow base 85 3 v xs.length (flatS xs)
theorem So.nil (W : World) (base : Nat) : So W base (.slice none 0 0) [] := World.ownsRow_nil _ _ _ _
theorem So.later {W W' : World} {base : Nat} {v : Value} {xs : List Slt} (h : So W base v xs) (hb : Below W.heap.size W W') : So W' base v xs := by
  obtain ⟨h1, h2⟩ := h
  refine ⟨h1, ?_⟩
  rcases h2 with h2 | ⟨g, cap, cur, e, hg, hh, r⟩
  · exact .inl h2
  · exact .inr ⟨g, cap, cur, e, hg, (hb.block g (Array.getElem?_eq_some_iff.1 hh).1).trans hh, r⟩
theorem So.weak {W : World} {base base' : Nat} {v : Value} {xs : List Slt} (h : So W base v xs) (hb : base' ≤ base) : So W base' v xs := by
  obtain ⟨h1, h2⟩ := h
  refine ⟨h1, ?_⟩
  rcases h2 with h2 | ⟨g, cap, cur, e, hg, r⟩
  · exact .inl h2
  · exact .inr ⟨g, cap, cur, e, Nat.le_trans hb hg, r⟩
theorem So.ss {W : World} {base : Nat} {v : Value} {xs : List Slt} (h : So W base v xs) : Ss W v xs := by
  obtain ⟨h1, h2⟩ := h
  rcases h2 with ⟨rfl, hn⟩ | ⟨g, cap, cur, rfl, hg, hh, hc, hc2, hs, ht⟩
  · have : xs = [] := List.length_eq_zero_iff.1 hn
    subst this
    exact Ss.nil W
  · refine ⟨_, cap, rfl, hc, fun h => (by cases h), fun k hk => ⟨g, 0, rfl, ?_⟩⟩
    have hb : Blk W g 85 cur := hh
    have key : ∀ i, i < 3 → W.cell? ⟨g, 0 + k * 3 + i, none⟩ = (cellsS (xs.getD k (0, 0, 0)))[i]? := by
      intro i hi
      rw [Nat.zero_add, hb.cell]
      have := congrArg (fun l => l[k * 3 + i]?) ht
      simp only [List.getElem?_take_of_lt (show k * 3 + i < xs.length * 3 by omega), Array.getElem?_toList] at this
      rw [this, flatS_get xs k i hi hk]
    exact ⟨hb.lt, key 0 (by omega), key 1 (by omega), key 2 (by omega)⟩

theorem info_s : (Tryz.prog.info? 85).map (fun i => (i.zero, i.size, i.bytes)) = some (some (V3 0 0 0), 3, 24) := by kernel_rfl

/-- 'list = append(list, s)', the list a call's own. -/
theorem wpList_appS {ops : Array Oper} {rest : List Oper} {o : Oper} {a : Act} {Q : Exit → Act → World → Prop} {W : World} {base : Nat} {v : Value} {xs : List Slt} {f t w : Int} (hgd : o.guard = none) (s u : Operand)
    (ho : o.op = .call { callee := .builtin .append, args := #[s, u], argTypes := #[79, 79] }) (hs : a.eval s = v) {B : Nat} (hx : a.eval u = .slice (some ⟨B, 0, none⟩) 1 1) (hBW : B = W.heap.size)
    (hown : So W base v xs) (hl : xs.length ≤ 100000) (hb : base ≤ W.heap.size)
    (h : ∀ ao n cap w', So w' base (.slice ao n cap) (xs ++ [(f, t, w)]) → Below base W w' → wpList Tryz.prog ops Q rest (a.put o.dst (.slice ao n cap)) w') : wpList Tryz.prog ops Q (o :: rest) a (W.alloc (.cells (C3 f t w) 85)) := by
  subst hBW
  obtain ⟨i0, hi, hz0, hz1, hz2⟩ := info_parts info_s
  refine wpList_append_own_at (w := W.alloc (.cells (C3 f t w) 85)) hgd s u 79 ho base 85 i0 _ 3 24 Tryz.underlying79 hi hz0 hz1 hz2 rfl (by decide) v xs.length _ hs (hown.alloc _) ⟨W.heap.size, 0, none⟩ 1 1 (C3 f t w).toList hx rfl ?_ ?_ ?_ ?_ ?_ ?_
  · intro j w' hj
    have hB := (Blk.new W 85 (C3 f t w)).cell j
    rw [show (⟨W.heap.size, 0, none⟩ : Addr).add j = ⟨W.heap.size, j, none⟩ by by_cases h : j = 0 <;> simp [Addr.add, h], hB]
    simpa using hj
  · intro w' hw; simp at hw; rcases hw with rfl | rfl | rfl <;> rfl
  · unfold maxLen; omega
  · omega
  · simp; omega
  · intro v' w1 hown' hgrow _ hloc
    have hW : So w1 base v' (xs ++ [(f, t, w)]) := by
      unfold So
      rw [flatS_app, List.length_append]
      exact hown'
    obtain ⟨ao, cap, rfl, _⟩ := hW.ss.form
    exact h ao _ cap w1 hW ((Below.refl base W).grown ((World.grownBy_alloc W _ _).trans hgrow) hb (fun k hk => (World.ownsRow.lt hown k hk).1))

/-- 'make([]api.Slot, 0, n)'. -/
theorem wpList_mkS {ops : Array Oper} {rest : List Oper} {o : Oper} {a : Act} {Q : Exit → Act → World → Prop} {W : World} {base : Nat} (hgd : o.guard = none) (l c : Operand) (ho : o.op = Op.makeSlice 79 l c) (n : Int)
    (hl : a.eval l = .int .i64 0) (hc : a.eval c = .int .i64 n) (h0 : 0 ≤ n) (h1 : n ≤ 100000) (hb : base ≤ W.heap.size)
    (h : ∀ ao cap w', So w' base (.slice ao 0 cap) [] → Below base W w' → wpList Tryz.prog ops Q rest (a.put o.dst (.slice ao 0 cap)) w') : wpList Tryz.prog ops Q (o :: rest) a W := by
  obtain ⟨i0, hi, hz0, hz1, hz2⟩ := info_parts info_s
  refine wpList_make_own W hgd l c 79 ho base 85 i0 _ 3 Tryz.underlying79 hi hz0 hz1 .i64 .i64 n n.toNat hl hc (by omega) (by rw [hz2]; omega) (by unfold maxLen; omega) hb ?_
  intro w' h1 h2
  exact h _ _ w' h1 ((Below.refl base W).grown h2 hb (fun k hk => by cases hk))

/-- 'own = append(own, c...)', own a call's own. -/
theorem wpList_catS {ops : Array Oper} {rest : List Oper} {o : Oper} {a : Act} {Q : Exit → Act → World → Prop} {W : World} {base : Nat} {v vx : Value} {xs ys : List Slt} (hgd : o.guard = none) (s u : Operand)
    (ho : o.op = .call { callee := .builtin .append, args := #[s, u], argTypes := #[79, 79] }) (hs : a.eval s = v) (hx : a.eval u = vx)
    (hown : So W base v xs) (hA : Ss W vx ys) (hl : xs.length + ys.length ≤ 100000) (hb : base ≤ W.heap.size)
    (h : ∀ ao n cap w', So w' base (.slice ao n cap) (xs ++ ys) → Below base W w' → wpList Tryz.prog ops Q rest (a.put o.dst (.slice ao n cap)) w') : wpList Tryz.prog ops Q (o :: rest) a W := by
  obtain ⟨i0, hi, hz0, hz1, hz2⟩ := info_parts info_s
  obtain ⟨ao, cap, rfl, hcap, hnone, hv⟩ := hA
  cases ao with
  | none =>
    have hc0 := hnone rfl
    subst hc0
    have e : ys = [] := List.length_eq_zero_iff.1 (by omega)
    subst e
    obtain ⟨ao, cap, rfl, _⟩ := hown.ss.form
    have hA := h ao xs.length cap W
    rw [List.append_nil] at hA
    exact wpList_append_own_none hgd s u 79 ho base 85 i0 3 Tryz.underlying79 hi _ xs.length _ hs hown hx (hA hown (Below.refl _ _))
  | some ad =>
    refine wpList_append_own (w := W) hgd s u 79 ho base 85 i0 _ 3 24 Tryz.underlying79 hi hz0 hz1 hz2 rfl (by decide) v xs.length _ hs hown ad ys.length cap (flatS ys) hx (flatS_len ys) ?_ ?_ ?_ ?_ ?_ ?_
    · intro j w hj
      have hjl : j < ys.length * 3 := by rw [← flatS_len]; exact (List.getElem?_eq_some_iff.1 hj).1
      obtain ⟨g, off, e, ha⟩ := hv (j / 3) (by omega)
      simp only [Option.some.injEq] at e
      subst e
      have hadd : (⟨g, off, none⟩ : Addr).add j = ⟨g, off + j, none⟩ := by
        unfold Addr.add
        split
        · rename_i h0; subst h0; rfl
        · rfl
      rw [hadd]
      have hg := flatS_get ys (j / 3) (j % 3) (by omega) (by omega)
      rw [show j / 3 * 3 + j % 3 = j by omega] at hg
      rw [← hj, hg]
      obtain ⟨_, a0, a1, a2⟩ := ha
      have hm : j % 3 = 0 ∨ j % 3 = 1 ∨ j % 3 = 2 := by omega
      rcases hm with hm | hm | hm
      · rw [hm, show off + j = off + j / 3 * 3 by omega]; exact a0
      · rw [hm, show off + j = off + j / 3 * 3 + 1 by omega]; exact a1
      · rw [hm, show off + j = off + j / 3 * 3 + 2 by omega]; exact a2
    · intro u hu
      obtain ⟨n, rfl⟩ := flatS_int hu
      rfl
    · unfold maxLen; omega
    · omega
    · omega
    · intro v' w1 hown' hgrow _
      have hW : So w1 base v' (xs ++ ys) := by
        unfold So
        rw [flatS_app, List.length_append]
        exact hown'
      obtain ⟨ao, cap, rfl, _⟩ := hW.ss.form
      exact h ao _ cap w1 hW ((Below.refl base W).grown hgrow hb (fun k hk => (World.ownsRow.lt hown k hk).1))

end Go.Proofs.YtldcagjnngkabaaGreatDoor

/-
  time.ask and the two closures that it is handed; time.Meet, time.Within, time.Both: what each call answers.
-/
namespace Go.Proofs.YtldcagjnngkabaaGreatDoor
open Go.RowKit Go.Shelf

attribute [local go_sem] Oper.semAt_some ext_const

/-- What two spans that may be have in common, by bringing one's ends within the other. -/
theorem br_meets {f t f' t' : Int} (h : maySp f t) (h' : maySp f' t') : maySpB (brX f' f t) (brX t' f t) = meetsT f t f' t' := by
  rw [Bool.eq_iff_iff, maySpB_iff, meetsT_iff h.2.1 h'.2.1]
  unfold maySp at *
  unfold brX
  split <;> split <;> (try split) <;> (try split) <;> omega
def sameS (f t f' t' : Int) : Bool := decide (f = f') && decide (t = t')
theorem sameT_iff {f t f' t' : Int} : sameS f t f' t' = true ↔ f = f' ∧ t = t' := by simp [sameS]
theorem br_within {f t f' t' : Int} (h : maySp f t) (h' : maySp f' t') : sameS (brX f' f t) (brX t' f t) f t = wiT f t f' t' := by
  rw [Bool.eq_iff_iff, sameT_iff, wiT_iff h.2.1]
  unfold maySp at *
  unfold brX
  split <;> split <;> (try split) <;> (try split) <;> omega
theorem br_both {f t f' t' : Int} (h : maySp f t) (h' : maySp f' t') (hm : meetsT f t f' t' = true) : brX f' f t = maxT f f' ∧ brX t' f t = minT t t' := by
  have hm := (meetsT_iff h.2.1 h'.2.1).1 hm
  unfold maySp at *
  unfold brX maxT minT
  constructor <;> split <;> (try split) <;> (try split) <;> omega

/-- The first error of two spans. -/
def errS2 (f t f' t' : Int) : Int := if maySpB f t && maySpB f' t' then 0 else 2

theorem meetc_calls (x y : Int) (w : World) : Calls Tryz.prog 156 #[S2 x y] w fun e W' => e = .returned (.bool (maySpB x y)) ∧ Below w.heap.size w W' := by
  have hB : Below w.heap.size w (w.alloc (.cells (C2 x y) 36)) := (Below.refl _ w).alloc (Nat.le_refl _) _
  have H : Hid (∀ w, Calls Tryz.prog 55 #[S2 x y] w fun e W' => e = .returned (I (errS x y)) ∧ Below w.heap.size w W') := tcheck_calls x y
  unfold errS at H
  cases hs : maySpB x y
  all_goals
    rw [hs] at H
    simp only [Bool.false_eq_true, if_false, if_true] at H
    clear hs
    go_enter Tryz.func156, Tryz.ntmps156
    go_wp2_with fail
    refine (H.out _).mono ?_
    rintro e w1 ⟨rfl, hB1⟩
    go_wp2
    go_ret
    exact ⟨rfl, then_below hB hB1⟩

/-- What two boxes hold, in worlds that come later. -/
theorem two_pairs {W W' : World} {A B : Nat} {t : TypeId} {a b c d : Int} (h : Blk W A t #[I a, I b]) (h' : Blk W B t #[I c, I d]) (hb : Below W.heap.size W W') :
    (W'.cell? ⟨A, 0, none⟩ = some (I a) ∧ W'.cell? ⟨A, 1, none⟩ = some (I b) ∧ A < W'.heap.size) ∧ W'.cell? ⟨B, 0, none⟩ = some (I c) ∧ W'.cell? ⟨B, 1, none⟩ = some (I d) ∧ B < W'.heap.size := ⟨h.pair hb, h'.pair hb⟩

theorem ask_no {f t f' t' : Int} (g : Value) (w : World) (h : ¬ (maySp f t ∧ maySp f' t')) : Calls Tryz.prog 155 #[S2 f t, S2 f' t', g] w fun e W' => e = .returned (.tuple #[.bool false, I 2]) ∧ Below w.heap.size w W' := by
  by_cases h1 : maySp f t
  · have HA : Hid (∀ w, Calls Tryz.prog 55 #[S2 f t] w fun e W' => e = .returned (I 0) ∧ Below w.heap.size w W') := fun w => by rw [← errS_ok h1]; exact tcheck_calls f t w
    have HB : Hid (∀ w, Calls Tryz.prog 55 #[S2 f' t'] w fun e W' => e = .returned (I 2) ∧ Below w.heap.size w W') := fun w => by rw [← errS_no (fun h2 => h ⟨h1, h2⟩)]; exact tcheck_calls f' t' w
    clear h h1
    go_enter Tryz.func155, Tryz.ntmps155
    go_wp2_with fail
    obtain ⟨W, hW, hB0, b0, b1⟩ := two_start w (C2 f t) (C2 f' t') 36 36
    rw [hW]
    clear hW
    refine (HA.out _).mono ?_
    rintro e w1 ⟨rfl, hT⟩
    obtain ⟨⟨c0, c1, hz0⟩, c2, c3, hz1⟩ := two_pairs b0 b1 hT
    go_wp2_with fail
    refine (HB.out _).mono ?_
    rintro e w2 ⟨rfl, hB2⟩
    go_wp2
    go_ret2
    exact ⟨rfl, then_below hB0 (then_below hT hB2)⟩
  · have HA : Hid (∀ w, Calls Tryz.prog 55 #[S2 f t] w fun e W' => e = .returned (I 2) ∧ Below w.heap.size w W') := fun w => by rw [← errS_no h1]; exact tcheck_calls f t w
    clear h h1
    go_enter Tryz.func155, Tryz.ntmps155
    go_wp2_with fail
    obtain ⟨W, hW, hB0, b0, b1⟩ := two_start w (C2 f t) (C2 f' t') 36 36
    rw [hW]
    clear hW
    refine (HA.out _).mono ?_
    rintro e w1 ⟨rfl, hT⟩
    go_wp2
    go_ret2
    exact ⟨rfl, then_below hB0 hT⟩

theorem ask_meet {f t f' t' : Int} (w : World) (h : maySp f t) (h' : maySp f' t') : Calls Tryz.prog 155 #[S2 f t, S2 f' t', .func (.func 156) #[] #[]] w fun e W' => e = .returned (.tuple #[.bool (meetsT f t f' t'), I 0]) ∧ Below w.heap.size w W' := by
  have HA : Hid (∀ w, Calls Tryz.prog 55 #[S2 f t] w fun e W' => e = .returned (I 0) ∧ Below w.heap.size w W') := fun w => by rw [← errS_ok h]; exact tcheck_calls f t w
  have HB : Hid (∀ w, Calls Tryz.prog 55 #[S2 f' t'] w fun e W' => e = .returned (I 0) ∧ Below w.heap.size w W') := fun w => by rw [← errS_ok h']; exact tcheck_calls f' t' w
  have HC : Hid (∀ w, Calls Tryz.prog 175 #[S2 f t, S2 f' t'] w fun e W' => e = .returned (S2 (brX f' f t) (brX t' f t)) ∧ Below w.heap.size w W') := common_calls f t f' t'
  have HM : Hid (∀ w, Calls Tryz.prog 156 #[S2 (brX f' f t) (brX t' f t)] w fun e W' => e = .returned (.bool (meetsT f t f' t')) ∧ Below w.heap.size w W') := fun w => by rw [← br_meets h h']; exact meetc_calls _ _ w
  clear h h'
  generalize brX f' f t = x at *
  generalize brX t' f t = y at *
  generalize meetsT f t f' t' = r at *
  go_enter Tryz.func155, Tryz.ntmps155
  go_wp2_with fail
  obtain ⟨W, hW, hB0, b0, b1⟩ := two_start w (C2 f t) (C2 f' t') 36 36
  rw [hW]
  clear hW
  refine (HA.out _).mono ?_
  rintro e w1 ⟨rfl, hT⟩
  obtain ⟨⟨c0, c1, hz0⟩, c2, c3, hz1⟩ := two_pairs b0 b1 hT
  go_wp2_with fail
  refine (HB.out _).mono ?_
  rintro e w2 ⟨rfl, hB2⟩
  have hT := then_below hT hB2
  clear hB2 c0 c1 hz0 c2 c3 hz1
  obtain ⟨⟨c0, c1, hz0⟩, c2, c3, hz1⟩ := two_pairs b0 b1 hT
  go_wp2_with fail
  refine (HC.out _).mono ?_
  rintro e w3 ⟨rfl, hB3⟩
  have hT := then_below hT hB3
  clear hB3 c0 c1 hz0 c2 c3 hz1
  go_wp2_with fail
  refine (HM.out _).mono ?_
  rintro e w4 ⟨rfl, hB4⟩
  go_wp2
  go_ret2
  exact ⟨rfl, then_below hB0 (then_below hT hB4)⟩

end Go.Proofs.YtldcagjnngkabaaGreatDoor

/-
  The document's answers of layer 7 (tidehallref07): what each call answers.
-/
namespace Go.Proofs.YtldcagjnngkabaaGreatDoor
open Go.RowKit Go.Shelf

attribute [local go_sem] Oper.semAt_some ext_const

theorem rmayS_calls (f t : Int) (w : World) : Calls Tryz.prog 72 #[S2 f t] w fun e W' => e = .returned (.bool (maySpB f t)) ∧ Below w.heap.size w W' := by
  have hB : Below w.heap.size w (w.alloc (.cells (C2 f t) 36)) := (Below.refl _ w).alloc (Nat.le_refl _) _
  unfold maySpB
  by_cases h1 : 0 ≤ f
  · by_cases h2 : f < t
    · by_cases h3 : t ≤ 1099511627776
      · rw [decide_eq_true h1, decide_eq_true h2, decide_eq_true h3]
        go_enter Tryz.func72, Tryz.ntmps72
        go_wp2
        go_ret
        exact ⟨rfl, hB⟩
      · have h3 : decide (t ≤ 1099511627776) = false := decide_eq_false h3
        rw [decide_eq_true h1, decide_eq_true h2, h3]
        go_enter Tryz.func72, Tryz.ntmps72
        go_wp2
        go_ret
        exact ⟨rfl, hB⟩
    · have h2 : decide (f < t) = false := decide_eq_false h2
      rw [decide_eq_true h1, h2]
      go_enter Tryz.func72, Tryz.ntmps72
      go_wp2
      go_ret
      exact ⟨rfl, hB⟩
  · have h1 : decide (0 ≤ f) = false := decide_eq_false h1
    rw [h1]
    go_enter Tryz.func72, Tryz.ntmps72
    go_wp2
    go_ret
    exact ⟨rfl, hB⟩

theorem rinT_calls (f t a : Int) (w : World) : Calls Tryz.prog 194 #[S2 f t, I a] w fun e W' => e = .returned (.bool (inT f t a)) ∧ Below w.heap.size w W' := by
  have hB : Below w.heap.size w (w.alloc (.cells (C2 f t) 36)) := (Below.refl _ w).alloc (Nat.le_refl _) _
  unfold inT
  by_cases h1 : f ≤ a
  · by_cases h2 : a < t
    · rw [decide_eq_true h1, decide_eq_true h2]
      go_enter Tryz.func194, Tryz.ntmps194
      go_wp2
      go_ret
      exact ⟨rfl, hB⟩
    · have h2 : decide (a < t) = false := decide_eq_false h2
      rw [decide_eq_true h1, h2]
      go_enter Tryz.func194, Tryz.ntmps194
      go_wp2
      go_ret
      exact ⟨rfl, hB⟩
  · have h1 : decide (f ≤ a) = false := decide_eq_false h1
    rw [h1]
    go_enter Tryz.func194, Tryz.ntmps194
    go_wp2
    go_ret
    exact ⟨rfl, hB⟩

end Go.Proofs.YtldcagjnngkabaaGreatDoor
