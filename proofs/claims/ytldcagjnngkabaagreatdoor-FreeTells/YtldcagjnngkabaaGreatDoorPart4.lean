/-
  Lists of slots: as a walk reads them, wherever they lie (Ss); in memory that a call made (So): lengthened, made.
-/
import Derived.Test.YtldcagjnngkabaaGreatDoorPart2
import Derived.Test.YtldcagjnngkabaaGreatDoorPart3
import Derived.OwnWalk
import Derived.Laws.AppendOwn
import Derived.Laws.AppendOwnNone
import Derived.Maps.AppendAt
namespace Go.Proofs.YtldcagjnngkabaaGreatDoor
open Go Go.RowKit Go.Shelf

/-- A slot's value, and its cells. -/
abbrev V3 (f t o : Int) : Value := .agg #[.int .i64 f, .int .i64 t, .int .i64 o]
abbrev C3 (f t o : Int) : Array Value := #[.int .i64 f, .int .i64 t, .int .i64 o]
def cellsS (s : Slt) : List Value := [I s.1, I s.2.1, I s.2.2]
def flatS (xs : List Slt) : List Value := xs.flatMap cellsS
theorem flatS_len : ∀ xs : List Slt, (flatS xs).length = xs.length * 3
  | [] => rfl
  | x :: xs => by
    have := flatS_len xs
    simp only [flatS, List.flatMap_cons, List.length_append, List.length_cons, cellsS, List.length_nil] at this ⊢
    omega
theorem flatS_app (xs ys : List Slt) : flatS (xs ++ ys) = flatS xs ++ flatS ys := by simp [flatS]
theorem flatS_get : ∀ (xs : List Slt) (k i : Nat), i < 3 → k < xs.length → (flatS xs)[k * 3 + i]? = (cellsS (xs.getD k (0, 0, 0)))[i]?
  | [], k, i, _, hk => by simp at hk
  | x :: xs, 0, i, hi, _ => by
    rw [flatS, List.flatMap_cons, List.getElem?_append_left (by simp [cellsS]; omega)]
    simp
  | x :: xs, k + 1, i, hi, hk => by
    have := flatS_get xs k i hi (by simpa using hk)
    rw [flatS, List.flatMap_cons, List.getElem?_append_right (by simp [cellsS]; omega)]
    rw [show (k + 1) * 3 + i - (cellsS x).length = k * 3 + i by simp [cellsS]; omega]
    exact this
theorem flatS_int {xs : List Slt} {v : Value} (h : v ∈ flatS xs) : ∃ n, v = I n := by
  obtain ⟨s, _, hs⟩ := List.mem_flatMap.1 h
  simp only [cellsS, List.mem_cons, List.not_mem_nil, or_false] at hs
  rcases hs with rfl | rfl | rfl
  · exact ⟨_, rfl⟩
  · exact ⟨_, rfl⟩
  · exact ⟨_, rfl⟩

/-- Block g holds, from cell n on, one slot. -/
def At3 (W : World) (g n : Nat) (s : Slt) : Prop := g < W.heap.size ∧ W.cell? ⟨g, n, none⟩ = some (I s.1) ∧ W.cell? ⟨g, n + 1, none⟩ = some (I s.2.1) ∧ W.cell? ⟨g, n + 2, none⟩ = some (I s.2.2)
theorem At3.below {W W' : World} {g n m : Nat} {s : Slt} (h : At3 W g n s) (hb : Below m W W') (hg : g < m) : At3 W' g n s := by
  obtain ⟨h0, h1, h2, h3⟩ := h
  exact ⟨Nat.lt_of_lt_of_le h0 hb.size, (hb.cell (p := ⟨g, n, none⟩) hg).trans h1, (hb.cell (p := ⟨g, n + 1, none⟩) hg).trans h2, (hb.cell (p := ⟨g, n + 2, none⟩) hg).trans h3⟩
theorem At3.later {W W' : World} {g n : Nat} {s : Slt} (h : At3 W g n s) (hb : Below W.heap.size W W') : At3 W' g n s := h.below hb h.1
theorem Blk.at3 {W : World} {g : Nat} {t : TypeId} {f t' o : Int} (h : Blk W g t (C3 f t' o)) : At3 W g 0 (f, t', o) := ⟨h.lt, h.cell 0, h.cell 1, h.cell 2⟩

/-- The slice v reads as the slots xs. -/
def Ss (W : World) (v : Value) (xs : List Slt) : Prop :=
  ∃ ao cap, v = .slice ao xs.length cap ∧ xs.length ≤ cap ∧ (ao = none → cap = 0) ∧ ∀ k, k < xs.length → ∃ g off, ao = some ⟨g, off, none⟩ ∧ At3 W g (off + k * 3) (xs.getD k (0, 0, 0))
theorem Ss.later {W W' : World} {v : Value} {xs : List Slt} (h : Ss W v xs) (hb : Below W.heap.size W W') : Ss W' v xs := by
  obtain ⟨ao, cap, e, hc, hn, h⟩ := h
  refine ⟨ao, cap, e, hc, hn, fun k hk => ?_⟩
  obtain ⟨g, off, e, ha⟩ := h k hk
  exact ⟨g, off, e, ha.later hb⟩
theorem Ss.nil (W : World) : Ss W (.slice none 0 0) [] := ⟨none, 0, rfl, Nat.le_refl _, fun _ => rfl, fun k hk => by simp at hk⟩
/-- What a walk asks of a list that it reads. -/
theorem Ss.at {W : World} {ao : Option Addr} {n cap : Nat} {xs : List Slt} (h : Ss W (.slice ao n cap) xs) {k : Nat} (hk : k < xs.length) :
    ∃ g off f t o, ao = some ⟨g, off, none⟩ ∧ xs.getD k (0, 0, 0) = (f, t, o) ∧ At3 W g (off + k * 3) (f, t, o) := by
  obtain ⟨ao', cap', e, _, _, hv⟩ := h
  obtain ⟨g, off, hg, ha⟩ := hv k hk
  rw [Value.slice.injEq] at e
  rcases hu : xs.getD k (0, 0, 0) with ⟨f, t, o⟩
  rw [hu] at ha
  exact ⟨g, off, f, t, o, e.1.trans hg, rfl, ha⟩
theorem Ss.form {W : World} {v : Value} {xs : List Slt} (h : Ss W v xs) : ∃ ao cap, v = .slice ao xs.length cap ∧ Ss W (.slice ao xs.length cap) xs := by
  obtain ⟨ao, cap, e, r⟩ := h
  exact ⟨ao, cap, e, ao, cap, rfl, r⟩

/-- The slice v holds just xs, in a block of its own from number base on. -/
def So (W : World) (base : Nat) (v : Value) (xs : List Slt) : Prop := W.ownsRow base 85 3 v xs.length (flatS xs)
theorem So.nil (W : World) (base : Nat) : So W base (.slice none 0 0) [] := World.ownsRow_nil _ _ _ _
theorem So.later {W W' : World} {base : Nat} {v : Value} {xs : List Slt} (h : So W base v xs) (hb : Below W.heap.size W W') : So W' base v xs := by
  obtain ⟨h1, h2⟩ := h
  refine ⟨h1, ?_⟩
  rcases h2 with h2 | ⟨g, cap, cur, e, hg, hh, r⟩
  · exact .inl h2
  · exact .inr ⟨g, cap, cur, e, hg, (hb.block g (Array.getElem?_eq_some_iff.1 hh).1).trans hh, r⟩
theorem So.weak {W : World} {base base' : Nat} {v : Value} {xs : List Slt} (h : So W base v xs) (hb : base' ≤ base) : So W base' v xs := by
  obtain ⟨h1, h2⟩ := h
  refine ⟨h1, ?_⟩
  rcases h2 with h2 | ⟨g, cap, cur, e, hg, r⟩
  · exact .inl h2
  · exact .inr ⟨g, cap, cur, e, Nat.le_trans hb hg, r⟩
theorem So.ss {W : World} {base : Nat} {v : Value} {xs : List Slt} (h : So W base v xs) : Ss W v xs := by
  obtain ⟨h1, h2⟩ := h
  rcases h2 with ⟨rfl, hn⟩ | ⟨g, cap, cur, rfl, hg, hh, hc, hc2, hs, ht⟩
  · have : xs = [] := List.length_eq_zero_iff.1 hn
    subst this
    exact Ss.nil W
  · refine ⟨_, cap, rfl, hc, fun h => (by cases h), fun k hk => ⟨g, 0, rfl, ?_⟩⟩
    have hb : Blk W g 85 cur := hh
    have key : ∀ i, i < 3 → W.cell? ⟨g, 0 + k * 3 + i, none⟩ = (cellsS (xs.getD k (0, 0, 0)))[i]? := by
      intro i hi
      rw [Nat.zero_add, hb.cell]
      have := congrArg (fun l => l[k * 3 + i]?) ht
      simp only [List.getElem?_take_of_lt (show k * 3 + i < xs.length * 3 by omega), Array.getElem?_toList] at this
      rw [this, flatS_get xs k i hi hk]
    exact ⟨hb.lt, key 0 (by omega), key 1 (by omega), key 2 (by omega)⟩

theorem info_s : (Tryz.prog.info? 85).map (fun i => (i.zero, i.size, i.bytes)) = some (some (V3 0 0 0), 3, 24) := by kernel_rfl

/-- 'list = append(list, s)', the list a call's own. -/
theorem wpList_appS {ops : Array Oper} {rest : List Oper} {o : Oper} {a : Act} {Q : Exit → Act → World → Prop} {W : World} {base : Nat} {v : Value} {xs : List Slt} {f t w : Int} (hgd : o.guard = none) (s u : Operand)
    (ho : o.op = .call { callee := .builtin .append, args := #[s, u], argTypes := #[79, 79] }) (hs : a.eval s = v) {B : Nat} (hx : a.eval u = .slice (some ⟨B, 0, none⟩) 1 1) (hBW : B = W.heap.size)
    (hown : So W base v xs) (hl : xs.length ≤ 100000) (hb : base ≤ W.heap.size)
    (h : ∀ ao n cap w', So w' base (.slice ao n cap) (xs ++ [(f, t, w)]) → Below base W w' → wpList Tryz.prog ops Q rest (a.put o.dst (.slice ao n cap)) w') : wpList Tryz.prog ops Q (o :: rest) a (W.alloc (.cells (C3 f t w) 85)) := by
  subst hBW
  obtain ⟨i0, hi, hz0, hz1, hz2⟩ := info_parts info_s
  refine wpList_append_own_at (w := W.alloc (.cells (C3 f t w) 85)) hgd s u 79 ho base 85 i0 _ 3 24 Tryz.underlying79 hi hz0 hz1 hz2 rfl (by decide) v xs.length _ hs (hown.alloc _) ⟨W.heap.size, 0, none⟩ 1 1 (C3 f t w).toList hx rfl ?_ ?_ ?_ ?_ ?_ ?_
  · intro j w' hj
    have hB := (Blk.new W 85 (C3 f t w)).cell j
    rw [show (⟨W.heap.size, 0, none⟩ : Addr).add j = ⟨W.heap.size, j, none⟩ by by_cases h : j = 0 <;> simp [Addr.add, h], hB]
    simpa using hj
  · intro w' hw; simp at hw; rcases hw with rfl | rfl | rfl <;> rfl
  · unfold maxLen; omega
  · omega
  · simp; omega
  · intro v' w1 hown' hgrow _ hloc
    have hW : So w1 base v' (xs ++ [(f, t, w)]) := by
      unfold So
      rw [flatS_app, List.length_append]
      exact hown'
    obtain ⟨ao, cap, rfl, _⟩ := hW.ss.form
    exact h ao _ cap w1 hW ((Below.refl base W).grown ((World.grownBy_alloc W _ _).trans hgrow) hb (fun k hk => (World.ownsRow.lt hown k hk).1))

/-- 'make([]api.Slot, 0, n)'. -/
theorem wpList_mkS {ops : Array Oper} {rest : List Oper} {o : Oper} {a : Act} {Q : Exit → Act → World → Prop} {W : World} {base : Nat} (hgd : o.guard = none) (l c : Operand) (ho : o.op = Op.makeSlice 79 l c) (n : Int)
    (hl : a.eval l = .int .i64 0) (hc : a.eval c = .int .i64 n) (h0 : 0 ≤ n) (h1 : n ≤ 100000) (hb : base ≤ W.heap.size)
    (h : ∀ ao cap w', So w' base (.slice ao 0 cap) [] → Below base W w' → wpList Tryz.prog ops Q rest (a.put o.dst (.slice ao 0 cap)) w') : wpList Tryz.prog ops Q (o :: rest) a W := by
  obtain ⟨i0, hi, hz0, hz1, hz2⟩ := info_parts info_s
  refine wpList_make_own W hgd l c 79 ho base 85 i0 _ 3 Tryz.underlying79 hi hz0 hz1 .i64 .i64 n n.toNat hl hc (by omega) (by rw [hz2]; omega) (by unfold maxLen; omega) hb ?_
  intro w' h1 h2
  exact h _ _ w' h1 ((Below.refl base W).grown h2 hb (fun k hk => by cases hk))

/-- 'own = append(own, c...)', own a call's own. -/
theorem wpList_catS {ops : Array Oper} {rest : List Oper} {o : Oper} {a : Act} {Q : Exit → Act → World → Prop} {W : World} {base : Nat} {v vx : Value} {xs ys : List Slt} (hgd : o.guard = none) (s u : Operand)
    (ho : o.op = .call { callee := .builtin .append, args := #[s, u], argTypes := #[79, 79] }) (hs : a.eval s = v) (hx : a.eval u = vx)
    (hown : So W base v xs) (hA : Ss W vx ys) (hl : xs.length + ys.length ≤ 100000) (hb : base ≤ W.heap.size)
    (h : ∀ ao n cap w', So w' base (.slice ao n cap) (xs ++ ys) → Below base W w' → wpList Tryz.prog ops Q rest (a.put o.dst (.slice ao n cap)) w') : wpList Tryz.prog ops Q (o :: rest) a W := by
  obtain ⟨i0, hi, hz0, hz1, hz2⟩ := info_parts info_s
  obtain ⟨ao, cap, rfl, hcap, hnone, hv⟩ := hA
  cases ao with
  | none =>
    have hc0 := hnone rfl
    subst hc0
    have e : ys = [] := List.length_eq_zero_iff.1 (by omega)
    subst e
    obtain ⟨ao, cap, rfl, _⟩ := hown.ss.form
    have hA := h ao xs.length cap W
    rw [List.append_nil] at hA
    exact wpList_append_own_none hgd s u 79 ho base 85 i0 3 Tryz.underlying79 hi _ xs.length _ hs hown hx (hA hown (Below.refl _ _))
  | some ad =>
    refine wpList_append_own (w := W) hgd s u 79 ho base 85 i0 _ 3 24 Tryz.underlying79 hi hz0 hz1 hz2 rfl (by decide) v xs.length _ hs hown ad ys.length cap (flatS ys) hx (flatS_len ys) ?_ ?_ ?_ ?_ ?_ ?_
    · intro j w hj
      have hjl : j < ys.length * 3 := by rw [← flatS_len]; exact (List.getElem?_eq_some_iff.1 hj).1
      obtain ⟨g, off, e, ha⟩ := hv (j / 3) (by omega)
      simp only [Option.some.injEq] at e
      subst e
      have hadd : (⟨g, off, none⟩ : Addr).add j = ⟨g, off + j, none⟩ := by
        unfold Addr.add
        split
        · rename_i h0; subst h0; rfl
        · rfl
      rw [hadd]
      have hg := flatS_get ys (j / 3) (j % 3) (by omega) (by omega)
      rw [show j / 3 * 3 + j % 3 = j by omega] at hg
      rw [← hj, hg]
      obtain ⟨_, a0, a1, a2⟩ := ha
      have hm : j % 3 = 0 ∨ j % 3 = 1 ∨ j % 3 = 2 := by omega
      rcases hm with hm | hm | hm
      · rw [hm, show off + j = off + j / 3 * 3 by omega]; exact a0
      · rw [hm, show off + j = off + j / 3 * 3 + 1 by omega]; exact a1
      · rw [hm, show off + j = off + j / 3 * 3 + 2 by omega]; exact a2
    · intro u hu
      obtain ⟨n, rfl⟩ := flatS_int hu
      rfl
    · unfold maxLen; omega
    · omega
    · omega
    · intro v' w1 hown' hgrow _
      have hW : So w1 base v' (xs ++ ys) := by
        unfold So
        rw [flatS_app, List.length_append]
        exact hown'
      obtain ⟨ao, cap, rfl, _⟩ := hW.ss.form
      exact h ao _ cap w1 hW ((Below.refl base W).grown hgrow hb (fun k hk => (World.ownsRow.lt hown k hk).1))

end Go.Proofs.YtldcagjnngkabaaGreatDoor

/-
  time.ask and the two closures that it is handed; time.Meet, time.Within, time.Both: what each call answers.
-/
namespace Go.Proofs.YtldcagjnngkabaaGreatDoor
open Go.RowKit Go.Shelf

attribute [local go_sem] Oper.semAt_some ext_const

/-- What two spans that may be have in common, by bringing one's ends within the other. -/
theorem br_meets {f t f' t' : Int} (h : maySp f t) (h' : maySp f' t') : maySpB (brX f' f t) (brX t' f t) = meetsT f t f' t' := by
  rw [Bool.eq_iff_iff, maySpB_iff, meetsT_iff h.2.1 h'.2.1]
  unfold maySp at *
  unfold brX
  split <;> split <;> (try split) <;> (try split) <;> omega
def sameS (f t f' t' : Int) : Bool := decide (f = f') && decide (t = t')
theorem sameT_iff {f t f' t' : Int} : sameS f t f' t' = true ↔ f = f' ∧ t = t' := by simp [sameS]
theorem br_within {f t f' t' : Int} (h : maySp f t) (h' : maySp f' t') : sameS (brX f' f t) (brX t' f t) f t = wiT f t f' t' := by
  rw [Bool.eq_iff_iff, sameT_iff, wiT_iff h.2.1]
  unfold maySp at *
  unfold brX
  split <;> split <;> (try split) <;> (try split) <;> omega
theorem br_both {f t f' t' : Int} (h : maySp f t) (h' : maySp f' t') (hm : meetsT f t f' t' = true) : brX f' f t = maxT f f' ∧ brX t' f t = minT t t' := by
  have hm := (meetsT_iff h.2.1 h'.2.1).1 hm
  unfold maySp at *
  unfold brX maxT minT
  constructor <;> split <;> (try split) <;> (try split) <;> omega

/-- The first error of two spans. -/
def errS2 (f t f' t' : Int) : Int := if maySpB f t && maySpB f' t' then 0 else 2

theorem meetc_calls (x y : Int) (w : World) : Calls Tryz.prog 156 #[S2 x y] w fun e W' => e = .returned (.bool (maySpB x y)) ∧ Below w.heap.size w W' := by
  have hB : Below w.heap.size w (w.alloc (.cells (C2 x y) 36)) := (Below.refl _ w).alloc (Nat.le_refl _) _
  have H : Hid (∀ w, Calls Tryz.prog 55 #[S2 x y] w fun e W' => e = .returned (I (errS x y)) ∧ Below w.heap.size w W') := tcheck_calls x y
  unfold errS at H
  cases hs : maySpB x y
  all_goals
    rw [hs] at H
    simp only [Bool.false_eq_true, if_false, if_true] at H
    clear hs
    go_enter Tryz.func156, Tryz.ntmps156
    go_wp2_with fail
    refine (H.out _).mono ?_
    rintro e w1 ⟨rfl, hB1⟩
    go_wp2
    go_ret
    exact ⟨rfl, then_below hB hB1⟩

/-- What two boxes hold, in worlds that come later. -/
theorem two_pairs {W W' : World} {A B : Nat} {t : TypeId} {a b c d : Int} (h : Blk W A t #[I a, I b]) (h' : Blk W B t #[I c, I d]) (hb : Below W.heap.size W W') :
    (W'.cell? ⟨A, 0, none⟩ = some (I a) ∧ W'.cell? ⟨A, 1, none⟩ = some (I b) ∧ A < W'.heap.size) ∧ W'.cell? ⟨B, 0, none⟩ = some (I c) ∧ W'.cell? ⟨B, 1, none⟩ = some (I d) ∧ B < W'.heap.size := ⟨h.pair hb, h'.pair hb⟩

theorem ask_no {f t f' t' : Int} (g : Value) (w : World) (h : ¬ (maySp f t ∧ maySp f' t')) : Calls Tryz.prog 155 #[S2 f t, S2 f' t', g] w fun e W' => e = .returned (.tuple #[.bool false, I 2]) ∧ Below w.heap.size w W' := by
  by_cases h1 : maySp f t
  · have HA : Hid (∀ w, Calls Tryz.prog 55 #[S2 f t] w fun e W' => e = .returned (I 0) ∧ Below w.heap.size w W') := fun w => by rw [← errS_ok h1]; exact tcheck_calls f t w
    have HB : Hid (∀ w, Calls Tryz.prog 55 #[S2 f' t'] w fun e W' => e = .returned (I 2) ∧ Below w.heap.size w W') := fun w => by rw [← errS_no (fun h2 => h ⟨h1, h2⟩)]; exact tcheck_calls f' t' w
    clear h h1
    go_enter Tryz.func155, Tryz.ntmps155
    go_wp2_with fail
    obtain ⟨W, hW, hB0, b0, b1⟩ := two_start w (C2 f t) (C2 f' t') 36 36
    rw [hW]
    clear hW
    refine (HA.out _).mono ?_
    rintro e w1 ⟨rfl, hT⟩
    obtain ⟨⟨c0, c1, hz0⟩, c2, c3, hz1⟩ := two_pairs b0 b1 hT
    go_wp2_with fail
    refine (HB.out _).mono ?_
    rintro e w2 ⟨rfl, hB2⟩
    go_wp2
    go_ret2
    exact ⟨rfl, then_below hB0 (then_below hT hB2)⟩
  · have HA : Hid (∀ w, Calls Tryz.prog 55 #[S2 f t] w fun e W' => e = .returned (I 2) ∧ Below w.heap.size w W') := fun w => by rw [← errS_no h1]; exact tcheck_calls f t w
    clear h h1
    go_enter Tryz.func155, Tryz.ntmps155
    go_wp2_with fail
    obtain ⟨W, hW, hB0, b0, b1⟩ := two_start w (C2 f t) (C2 f' t') 36 36
    rw [hW]
    clear hW
    refine (HA.out _).mono ?_
    rintro e w1 ⟨rfl, hT⟩
    go_wp2
    go_ret2
    exact ⟨rfl, then_below hB0 hT⟩

theorem ask_meet {f t f' t' : Int} (w : World) (h : maySp f t) (h' : maySp f' t') : Calls Tryz.prog 155 #[S2 f t, S2 f' t', .func (.func 156) #[] #[]] w fun e W' => e = .returned (.tuple #[.bool (meetsT f t f' t'), I 0]) ∧ Below w.heap.size w W' := by
  have HA : Hid (∀ w, Calls Tryz.prog 55 #[S2 f t] w fun e W' => e = .returned (I 0) ∧ Below w.heap.size w W') := fun w => by rw [← errS_ok h]; exact tcheck_calls f t w
  have HB : Hid (∀ w, Calls Tryz.prog 55 #[S2 f' t'] w fun e W' => e = .returned (I 0) ∧ Below w.heap.size w W') := fun w => by rw [← errS_ok h']; exact tcheck_calls f' t' w
  have HC : Hid (∀ w, Calls Tryz.prog 175 #[S2 f t, S2 f' t'] w fun e W' => e = .returned (S2 (brX f' f t) (brX t' f t)) ∧ Below w.heap.size w W') := common_calls f t f' t'
  have HM : Hid (∀ w, Calls Tryz.prog 156 #[S2 (brX f' f t) (brX t' f t)] w fun e W' => e = .returned (.bool (meetsT f t f' t')) ∧ Below w.heap.size w W') := fun w => by rw [← br_meets h h']; exact meetc_calls _ _ w
  clear h h'
  generalize brX f' f t = x at *
  generalize brX t' f t = y at *
  generalize meetsT f t f' t' = r at *
  go_enter Tryz.func155, Tryz.ntmps155
  go_wp2_with fail
  obtain ⟨W, hW, hB0, b0, b1⟩ := two_start w (C2 f t) (C2 f' t') 36 36
  rw [hW]
  clear hW
  refine (HA.out _).mono ?_
  rintro e w1 ⟨rfl, hT⟩
  obtain ⟨⟨c0, c1, hz0⟩, c2, c3, hz1⟩ := two_pairs b0 b1 hT
  go_wp2_with fail
  refine (HB.out _).mono ?_
  rintro e w2 ⟨rfl, hB2⟩
  have hT := then_below hT hB2
  clear hB2 c0 c1 hz0 c2 c3 hz1
  obtain ⟨⟨c0, c1, hz0⟩, c2, c3, hz1⟩ := two_pairs b0 b1 hT
  go_wp2_with fail
  refine (HC.out _).mono ?_
  rintro e w3 ⟨rfl, hB3⟩
  have hT := then_below hT hB3
  clear hB3 c0 c1 hz0 c2 c3 hz1
  go_wp2_with fail
  refine (HM.out _).mono ?_
  rintro e w4 ⟨rfl, hB4⟩
  go_wp2
  go_ret2
  exact ⟨rfl, then_below hB0 (then_below hT hB4)⟩

end Go.Proofs.YtldcagjnngkabaaGreatDoor

/-
  The document's answers of layer 7 (tidehallref07): what each call answers.
-/
namespace Go.Proofs.YtldcagjnngkabaaGreatDoor
open Go.RowKit Go.Shelf

attribute [local go_sem] Oper.semAt_some ext_const

theorem rmayS_calls (f t : Int) (w : World) : Calls Tryz.prog 72 #[S2 f t] w fun e W' => e = .returned (.bool (maySpB f t)) ∧ Below w.heap.size w W' := by
  have hB : Below w.heap.size w (w.alloc (.cells (C2 f t) 36)) := (Below.refl _ w).alloc (Nat.le_refl _) _
  unfold maySpB
  by_cases h1 : 0 ≤ f
  · by_cases h2 : f < t
    · by_cases h3 : t ≤ 1099511627776
      · rw [decide_eq_true h1, decide_eq_true h2, decide_eq_true h3]
        go_enter Tryz.func72, Tryz.ntmps72
        go_wp2
        go_ret
        exact ⟨rfl, hB⟩
      · have h3 : decide (t ≤ 1099511627776) = false := decide_eq_false h3
        rw [decide_eq_true h1, decide_eq_true h2, h3]
        go_enter Tryz.func72, Tryz.ntmps72
        go_wp2
        go_ret
        exact ⟨rfl, hB⟩
    · have h2 : decide (f < t) = false := decide_eq_false h2
      rw [decide_eq_true h1, h2]
      go_enter Tryz.func72, Tryz.ntmps72
      go_wp2
      go_ret
      exact ⟨rfl, hB⟩
  · have h1 : decide (0 ≤ f) = false := decide_eq_false h1
    rw [h1]
    go_enter Tryz.func72, Tryz.ntmps72
    go_wp2
    go_ret
    exact ⟨rfl, hB⟩

theorem rinT_calls (f t a : Int) (w : World) : Calls Tryz.prog 194 #[S2 f t, I a] w fun e W' => e = .returned (.bool (inT f t a)) ∧ Below w.heap.size w W' := by
  have hB : Below w.heap.size w (w.alloc (.cells (C2 f t) 36)) := (Below.refl _ w).alloc (Nat.le_refl _) _
  unfold inT
  by_cases h1 : f ≤ a
  · by_cases h2 : a < t
    · rw [decide_eq_true h1, decide_eq_true h2]
      go_enter Tryz.func194, Tryz.ntmps194
      go_wp2
      go_ret
      exact ⟨rfl, hB⟩
    · have h2 : decide (a < t) = false := decide_eq_false h2
      rw [decide_eq_true h1, h2]
      go_enter Tryz.func194, Tryz.ntmps194
      go_wp2
      go_ret
      exact ⟨rfl, hB⟩
  · have h1 : decide (f ≤ a) = false := decide_eq_false h1
    rw [h1]
    go_enter Tryz.func194, Tryz.ntmps194
    go_wp2
    go_ret
    exact ⟨rfl, hB⟩

end Go.Proofs.YtldcagjnngkabaaGreatDoor

/-
  The document's answers of layer 7 about two spans (tidehallref07.Meets, Meet, Within, Both): what each call answers.
-/
namespace Go.Proofs.YtldcagjnngkabaaGreatDoor
open Go.RowKit Go.Shelf

attribute [local go_sem] Oper.semAt_some ext_const

theorem rmeetsT_calls (f t f' t' : Int) (w : World) : Calls Tryz.prog 173 #[S2 f t, S2 f' t'] w fun e W' => e = .returned (.bool (meetsT f t f' t')) ∧ Below w.heap.size w W' := by
  have HA : Hid (∀ w, Calls Tryz.prog 194 #[S2 f t, I f'] w fun e W' => e = .returned (.bool (inT f t f')) ∧ Below w.heap.size w W') := rinT_calls f t f'
  have HB : Hid (∀ w, Calls Tryz.prog 194 #[S2 f' t', I f] w fun e W' => e = .returned (.bool (inT f' t' f)) ∧ Below w.heap.size w W') := rinT_calls f' t' f
  unfold meetsT
  generalize inT f t f' = p at *
  generalize inT f' t' f = q at *
  cases p
  · rw [Bool.false_or]
    go_enter Tryz.func173, Tryz.ntmps173
    go_wp2_with fail
    obtain ⟨W, hW, hB0, b0, b1⟩ := two_start w (C2 f t) (C2 f' t') 36 36
    rw [hW]
    clear hW
    refine (HA.out _).mono ?_
    rintro e w1 ⟨rfl, hT⟩
    obtain ⟨⟨c0, c1, hz0⟩, c2, c3, hz1⟩ := two_pairs b0 b1 hT
    go_wp2_with fail
    refine (HB.out _).mono ?_
    rintro e w2 ⟨rfl, hB2⟩
    go_wp2
    go_ret
    exact ⟨rfl, then_below hB0 (then_below hT hB2)⟩
  · rw [Bool.true_or]
    go_enter Tryz.func173, Tryz.ntmps173
    go_wp2_with fail
    obtain ⟨W, hW, hB0, b0, b1⟩ := two_start w (C2 f t) (C2 f' t') 36 36
    rw [hW]
    clear hW
    refine (HA.out _).mono ?_
    rintro e w1 ⟨rfl, hT⟩
    go_wp2
    go_ret
    exact ⟨rfl, then_below hB0 hT⟩

theorem may_yes {f t : Int} (h : maySp f t) (w : World) : Calls Tryz.prog 72 #[S2 f t] w fun e W' => e = .returned (.bool true) ∧ Below w.heap.size w W' := by
  rw [← (maySpB_iff f t).2 h]; exact rmayS_calls f t w
theorem may_no {f t : Int} (h : ¬ maySp f t) (w : World) : Calls Tryz.prog 72 #[S2 f t] w fun e W' => e = .returned (.bool false) ∧ Below w.heap.size w W' := by
  have hs : maySpB f t = false := by rw [Bool.eq_false_iff, ne_eq, maySpB_iff]; exact h
  rw [← hs]; exact rmayS_calls f t w

end Go.Proofs.YtldcagjnngkabaaGreatDoor

/-
  cal.mayBe, cal.Check, and the document's MaySlot, May, Check: what each call answers.
-/
namespace Go.Proofs.YtldcagjnngkabaaGreatDoor
open Go Go.RowKit Go.Shelf

attribute [local go_sem] Oper.semAt_some ext_const

theorem At3.cells {W : World} {g n : Nat} {f t o : Int} (h : At3 W g n (f, t, o)) : g < W.heap.size ∧ W.cell? ⟨g, n, none⟩ = some (.int .i64 f) ∧ W.cell? ⟨g, n + 1, none⟩ = some (.int .i64 t) ∧ W.cell? ⟨g, n + 2, none⟩ = some (.int .i64 o) := h
theorem At3.ext {W : World} {g n : Nat} {f t o : Int} (h : At3 W g n (f, t, o)) :
    (∀ X : Ext W, X.wd.cell? ⟨g, n, none⟩ = some (.int .i64 f)) ∧ (∀ X : Ext W, X.wd.cell? ⟨g, n + 1, none⟩ = some (.int .i64 t)) ∧ (∀ X : Ext W, X.wd.cell? ⟨g, n + 2, none⟩ = some (.int .i64 o)) :=
  ⟨fun X => (h.later X.le).cells.2.1, fun X => (h.later X.le).cells.2.2.1, fun X => (h.later X.le).cells.2.2.2⟩

def maySlB (s : Slt) : Bool := maySpB s.1 s.2.1 && (decide (1 ≤ s.2.2) && decide (s.2.2 ≤ 1099511627776))
theorem maySlB_iff {s : Slt} : maySlB s = true ↔ maySl s := by
  unfold maySlB maySl
  rw [Bool.and_eq_true, maySpB_iff, Bool.and_eq_true, decide_eq_true_eq, decide_eq_true_eq]
/-- Slots that may be and rise, the first not ahead of e. -/
def good1 : Int → List Slt → Bool
  | _, [] => true
  | e, s :: r => maySlB s && (decide (e ≤ s.1) && good1 s.2.1 r)
def lastC : Int → List Slt → Int
  | e, [] => e
  | _, s :: r => lastC s.2.1 r
theorem good_app : ∀ (e : Int) (l m : List Slt), good1 e (l ++ m) = (good1 e l && good1 (lastC e l) m)
  | e, [], m => by simp [good1, lastC]
  | e, s :: r, m => by
    simp only [List.cons_append, good1, lastC, good_app s.2.1 r m, Bool.and_assoc]
theorem lastC_snoc : ∀ (e : Int) (l : List Slt) (s : Slt), lastC e (l ++ [s]) = s.2.1
  | _, [], _ => rfl
  | _, x :: r, s => lastC_snoc x.2.1 r s
theorem good_iff : ∀ {c : List Slt} {e : Int}, good1 e c = true ↔ (∀ s ∈ c, maySl s) ∧ riseC c ∧ ∀ s ∈ c, e ≤ s.1
  | [], e => by simp [good1, riseC]
  | s :: r, e => by
    unfold good1
    rw [Bool.and_eq_true, Bool.and_eq_true, maySlB_iff, decide_eq_true_eq, good_iff]
    constructor
    · rintro ⟨h1, h2, h3, h4, h5⟩
      refine ⟨fun x hx => ?_, List.pairwise_cons.2 ⟨h5, h4⟩, fun x hx => ?_⟩
      · rcases List.mem_cons.1 hx with rfl | hx
        · exact h1
        · exact h3 x hx
      · rcases List.mem_cons.1 hx with rfl | hx
        · exact h2
        · have := h5 x hx
          have := h1.1.2.1
          omega
    · rintro ⟨h1, h2, h3⟩
      obtain ⟨h4, h5⟩ := List.pairwise_cons.1 h2
      exact ⟨h1 s (by simp), h3 s (by simp), fun x hx => h1 x (by simp [hx]), h5, h4⟩
def mayCB (c : List Slt) : Bool := decide (c.length ≤ 4096) && good1 0 c
theorem mayCB_iff {c : List Slt} : mayCB c = true ↔ mayC c := by
  unfold mayCB mayC
  rw [Bool.and_eq_true, decide_eq_true_eq, good_iff]
  exact ⟨fun ⟨h1, h2, h3, _⟩ => ⟨h2, h3, h1⟩, fun ⟨h1, h2, h3⟩ => ⟨h3, h1, h2, fun s hs => (h1 s hs).1.1⟩⟩
def errC (c : List Slt) : Int := if mayCB c then 0 else 8
theorem errC_ok {c : List Slt} (h : mayC c) : errC c = 0 := by rw [errC, if_pos (mayCB_iff.2 h)]
theorem errC_no {c : List Slt} (h : ¬ mayC c) : errC c = 8 := by rw [errC, if_neg (by rw [mayCB_iff]; exact h)]
theorem take_snoc {c : List Slt} {k : Nat} {s : Slt} (hk : k < c.length) (hs : c.getD k (0, 0, 0) = s) : c.take (k + 1) = c.take k ++ [s] := by
  rw [List.take_succ_eq_append_getElem hk, ← hs]
  simp [hk]
theorem good_take {c : List Slt} {k : Nat} (h : good1 0 (c.take k) = false) : mayCB c = false := by
  unfold mayCB
  rw [← List.take_append_drop k c, good_app, h]
  simp
theorem errC_bad {c : List Slt} (h : mayCB c = false) : errC c = 8 := by rw [errC, h]; rfl
theorem errC_good {c : List Slt} (h : mayCB c = true) : errC c = 0 := by rw [errC, h]; rfl
/-- What a round of Check finds. -/
theorem good_next {c : List Slt} {k : Nat} {f t o en : Int} (hk : k < c.length) (hs : c.getD k (0, 0, 0) = (f, t, o)) (he : en = lastC 0 (c.take k)) (hg : good1 0 (c.take k) = true) :
    good1 0 (c.take (k + 1)) = (maySlB (f, t, o) && decide (en ≤ f)) ∧ t = lastC 0 (c.take (k + 1)) := by
  rw [take_snoc hk hs, good_app, lastC_snoc, hg, ← he]
  simp [good1]

theorem cmay_calls (f t o : Int) (w : World) : Calls Tryz.prog 91 #[V3 f t o] w fun e W' => e = .returned (.bool (maySlB (f, t, o))) ∧ Below w.heap.size w W' := by
  have H : Hid (∀ w, Calls Tryz.prog 55 #[S2 f t] w fun e W' => e = .returned (I (errS f t)) ∧ Below w.heap.size w W') := tcheck_calls f t
  have hB := (Below.refl _ w).alloc (Nat.le_refl _) (.cells (C3 f t o) 85)
  have hK := Blk.new w 85 (C3 f t o)
  have HW : Hid (∃ W, w.alloc (.cells (C3 f t o) 85) = W ∧ Below w.heap.size w W ∧ Blk W w.heap.size 85 (C3 f t o)) := ⟨_, rfl, hB, hK⟩
  clear hB hK
  obtain ⟨W, hW, hB, hK⟩ := HW.out
  clear HW
  have HW : Hid (w.alloc (.cells (C3 f t o) 85) = W) := hW
  clear hW
  unfold errS at H
  cases hs : maySpB f t
  · have E : maySlB (f, t, o) = false := by simp [maySlB, hs]
    rw [hs] at H
    simp only [Bool.false_eq_true, if_false] at H
    rw [E]
    clear hs E
    go_enter Tryz.func91, Tryz.ntmps91
    go_wp2_with fail
    rw [HW.out]
    refine (H.out _).mono ?_
    rintro e w1 ⟨rfl, hB1⟩
    go_wp2
    go_ret
    exact ⟨rfl, then_below hB hB1⟩
  · rw [hs] at H
    simp only [if_true] at H
    by_cases h1 : 1 ≤ o
    · by_cases h2 : o ≤ 1099511627776
      · have E : maySlB (f, t, o) = true := by simp [maySlB, hs, h1, h2]
        rw [E]
        clear hs E
        go_enter Tryz.func91, Tryz.ntmps91
        go_wp2_with fail
        rw [HW.out]
        refine (H.out _).mono ?_
        rintro e w1 ⟨rfl, hB1⟩
        have hc := (hK.later hB1).cell 2
        have hz := (hK.later hB1).lt
        go_wp2
        go_ret
        exact ⟨rfl, then_below hB hB1⟩
      · have E : maySlB (f, t, o) = false := by simp [maySlB, h2]
        have h2 : decide (o ≤ 1099511627776) = false := decide_eq_false h2
        rw [E]
        clear hs E
        go_enter Tryz.func91, Tryz.ntmps91
        go_wp2_with fail
        rw [HW.out]
        refine (H.out _).mono ?_
        rintro e w1 ⟨rfl, hB1⟩
        have hc := (hK.later hB1).cell 2
        have hz := (hK.later hB1).lt
        go_wp2
        go_ret
        exact ⟨rfl, then_below hB hB1⟩
    · have E : maySlB (f, t, o) = false := by simp [maySlB, h1]
      have h1 : decide (1 ≤ o) = false := decide_eq_false h1
      rw [E]
      clear hs E
      go_enter Tryz.func91, Tryz.ntmps91
      go_wp2_with fail
      rw [HW.out]
      refine (H.out _).mono ?_
      rintro e w1 ⟨rfl, hB1⟩
      have hc := (hK.later hB1).cell 2
      have hz := (hK.later hB1).lt
      go_wp2
      go_ret
      exact ⟨rfl, then_below hB hB1⟩

theorem ccheck_calls {xs : List Slt} {v : Value} (w : World) (hS : Ss w v xs) : Calls Tryz.prog 58 #[v] w fun e W' => e = .returned (I (errC xs)) ∧ Below w.heap.size w W' := by
  obtain ⟨ao, cap, rfl, hS⟩ := hS.form
  have HS : Hid (Ss w (.slice ao xs.length cap) xs) := hS
  clear hS
  have HM : Hid (∀ f t o w, Calls Tryz.prog 91 #[V3 f t o] w fun e W' => e = .returned (.bool (maySlB (f, t, o))) ∧ Below w.heap.size w W') := cmay_calls
  by_cases hl : (4096 : Int) < (xs.length : Int)
  · rw [errC_bad (by unfold mayCB; rw [decide_eq_false (by omega)]; rfl)]
    go_enter Tryz.func58, Tryz.ntmps58
    go_wp2
    go_ret
    exact ⟨rfl, Below.refl _ _⟩
  · have hn : xs.length ≤ 4096 := by omega
    have hl : decide ((4096 : Int) < (xs.length : Int)) = false := decide_eq_false hl
    have HG : Hid (mayCB xs = good1 0 xs) := by show _ = _; unfold mayCB; rw [decide_eq_true hn]; rfl
    have HB : Hid (mayCB xs = false → errC xs = 8) := errC_bad
    have HO : Hid (mayCB xs = true → errC xs = 0) := errC_good
    generalize errC xs = ans at HB HO ⊢
    go_enter Tryz.func58, Tryz.ntmps58
    go_wp2
    go_loopw [3, 11] (fun en i wr => ∃ (k : Nat) (e : Int), k ≤ xs.length ∧ i = .int .i64 k ∧ en = .int .i64 e ∧ Hid (e = lastC 0 (xs.take k)) ∧ Hid (good1 0 (xs.take k) = true) ∧ Below w.heap.size w wr) (fun _ i _ => xs.length - (RowKit.intOf i).toNat)
    case atStart => exact ⟨0, 0, by omega, rfl, rfl, by show _ = _; simp [lastC], by show _ = _; simp [good1], Below.refl _ _⟩
    case round =>
      obtain ⟨k, en, hk, rfl, rfl, HE, HK, hT⟩ := hrel
      by_cases hlt : (k : Int) < (xs.length : Int)
      · have hk' : k < xs.length := by omega
        obtain ⟨g, off, f, t, o, rfl, hu, ha⟩ := (HS.out.later hT).at hk'
        obtain ⟨hg, c0, c1, c2⟩ := ha.cells
        have HN : Hid (good1 0 (xs.take (k + 1)) = (maySlB (f, t, o) && decide (en ≤ f)) ∧ t = lastC 0 (xs.take (k + 1))) := good_next hk' hu HE.out HK.out
        have HM1 : Hid (∀ w, Calls Tryz.prog 91 #[V3 f t o] w fun e W' => e = .returned (.bool (maySlB (f, t, o))) ∧ Below w.heap.size w W') := HM.out f t o
        have hBN := (Below.refl _ wr).alloc (Nat.le_refl _) (.cells (C3 f t o) 85)
        have hKN := (Blk.new wr 85 (C3 f t o))
        clear hu ha
        cases hm : maySlB (f, t, o)
        · have E : ans = 8 := HB.out (good_take (k := k + 1) (by rw [HN.out.1, hm]; rfl))
          rw [hm] at HM1
          subst E
          clear hm HN
          go_wp2_with fail
          refine (HM1.out _).mono ?_
          rintro e w1 ⟨rfl, hB1⟩
          go_wp2
          go_ret
          exact ⟨rfl, then_below hT (then_below hBN hB1)⟩
        · rw [hm] at HM1 HN
          clear hm
          by_cases hf : f < en
          · have E : ans = 8 := HB.out (good_take (k := k + 1) (by rw [HN.out.1]; simp; omega))
            subst E
            clear HN
            go_wp2_with fail
            refine (HM1.out _).mono ?_
            rintro e w1 ⟨rfl, hB1⟩
            have hc := (hKN.later hB1).cell 0
            have hz := (hKN.later hB1).lt
            go_wp2
            go_ret
            exact ⟨rfl, then_below hT (then_below hBN hB1)⟩
          · have HN2 : Hid (good1 0 (xs.take (k + 1)) = true) := by show _ = _; rw [HN.out.1]; simp; omega
            have hf : decide (f < en) = false := decide_eq_false hf
            go_wp2_with fail
            refine (HM1.out _).mono ?_
            rintro e w1 ⟨rfl, hB1⟩
            have hc := (hKN.later hB1).cell 0
            have hc1 := (hKN.later hB1).cell 1
            have hz := (hKN.later hB1).lt
            go_wp2
            go_roundw
            case rel => exact ⟨k + 1, t, by omega, by go_num, rfl, HN.out.2, HN2.out, then_below hT (then_below hBN hB1)⟩
            case measure => simp [RowKit.intOf]; omega
      · have E : ans = 0 := HO.out (by rw [HG.out]; have := HK.out; rwa [List.take_of_length_le (by omega)] at this)
        subst E
        go_wp2
        go_ret
        exact ⟨rfl, hT⟩

end Go.Proofs.YtldcagjnngkabaaGreatDoor
