/-
  The document's answer for layer 4: which may be, two axes changed.
-/
import Derived.Test.YtanhhlekbdhfmaaDoorTurnLess
namespace Go.Proofs.YtanhhlekbdhfmaaDoor
open Go Go.RowKit Go.Shelf

attribute [local go_sem] Oper.semAt_some ext_const eq_ints_at eq_bools_at eq_wants

theorem swap_step {w W : World} {u v : Array Value} {t : TypeId} (b0 : Blk W w.heap.size t u) (b1 : Blk W (w.heap.size + 1) t v) (hB : Below w.heap.size w W) (i j : Nat) (a b : Value) :
    ∃ W1, ((W.setCell ⟨w.heap.size, i, none⟩ a).setCell ⟨w.heap.size, j, none⟩ b).drew = W1 ∧ Blk W1 w.heap.size t ((u.setIfInBounds i a).setIfInBounds j b) ∧ Blk W1 (w.heap.size + 1) t v ∧ Below w.heap.size w W1 :=
  ⟨_, rfl, ((b0.set i a).set j b).drew, ((b1.other i a (by omega)).other j b (by omega)).drew, ((hB.setCell (p := ⟨w.heap.size, i, none⟩) (Nat.le_refl _) a).setCell (p := ⟨w.heap.size, j, none⟩) (Nat.le_refl _) b).drew⟩

set_option maxRecDepth 100000 in
set_option maxHeartbeats 4000000 in
theorem swapped_01 (x y z : Int) (p q r t : Bool) (w : World) :
    Calls Tryd.prog 34 #[V7 x y z p q r t, I 0, I 1] w fun e W' => e = .returned (V7 y x z q p r t) ∧ Below w.heap.size w W' := by
  obtain ⟨W, hW, hBW, b0, b1⟩ := two_start w (cells7 x y z p q r t) (cells7 0 0 0 false false false false) 29 29
  go_enter Tryd.func34, Tryd.ntmps34
  go_wp2
  clear hW
  obtain ⟨s0, s1, s2, s3, s4, s5, s6⟩ := b0.seven
  obtain ⟨f0, f1, f2, f3, f4, f5, f6⟩ := b0.seven_open
  go_region
  clear s0 s1 s2 s3 s4 s5 s6 f0 f1 f2 f3 f4 f5 f6
  obtain ⟨W1, hW1, c0', c1, hB1⟩ := swap_step b0 b1 hBW 0 1 (.int .i64 y) (.int .i64 x)
  have c0 : Blk W1 w.heap.size 29 (cells7 y x z p q r t) := c0'
  rw [hW1]
  clear hW1 b0 b1 hBW c0'
  go_wp2
  obtain ⟨s0, s1, s2, s3, s4, s5, s6⟩ := c0.seven
  obtain ⟨f0, f1, f2, f3, f4, f5, f6⟩ := c0.seven_open
  go_region
  clear s0 s1 s2 s3 s4 s5 s6 f0 f1 f2 f3 f4 f5 f6
  obtain ⟨W2, hW2, d0', d1, hB2⟩ := swap_step c0 c1 hB1 3 4 (.bool q) (.bool p)
  have d0 : Blk W2 w.heap.size 29 (cells7 y x z q p r t) := d0'
  rw [hW2]
  clear hW2 c0 c1 hB1 d0'
  obtain ⟨s0, s1, s2, s3, s4, s5, s6⟩ := d0.seven
  obtain ⟨g0, g1, g2, g3, g4, g5, g6⟩ := d1.seven
  obtain ⟨f0, f1, f2, f3, f4, f5, f6⟩ := d1.seven_open
  go_wp2
  obtain ⟨j0, j1, j2, j3, j4, j5, j6⟩ := (d1.set7 (.int .i64 y) (.int .i64 x) (.int .i64 z) (.bool q) (.bool p) (.bool r) (.bool t)).seven
  exact bodyPost_ret (v := V7 y x z q p r t) (by simp [results, Tryd.f34, go_sem, j0, j1, j2, j3, j4, j5, j6]) rfl ⟨rfl, below_set7 hB2 (by omega) _ _ _ _ _ _ _⟩

set_option maxRecDepth 100000 in
set_option maxHeartbeats 4000000 in
theorem swapped_02 (x y z : Int) (p q r t : Bool) (w : World) :
    Calls Tryd.prog 34 #[V7 x y z p q r t, I 0, I 2] w fun e W' => e = .returned (V7 z y x r q p t) ∧ Below w.heap.size w W' := by
  obtain ⟨W, hW, hBW, b0, b1⟩ := two_start w (cells7 x y z p q r t) (cells7 0 0 0 false false false false) 29 29
  go_enter Tryd.func34, Tryd.ntmps34
  go_wp2
  clear hW
  obtain ⟨s0, s1, s2, s3, s4, s5, s6⟩ := b0.seven
  obtain ⟨f0, f1, f2, f3, f4, f5, f6⟩ := b0.seven_open
  go_region
  clear s0 s1 s2 s3 s4 s5 s6 f0 f1 f2 f3 f4 f5 f6
  obtain ⟨W1, hW1, c0', c1, hB1⟩ := swap_step b0 b1 hBW 0 2 (.int .i64 z) (.int .i64 x)
  have c0 : Blk W1 w.heap.size 29 (cells7 z y x p q r t) := c0'
  rw [hW1]
  clear hW1 b0 b1 hBW c0'
  go_wp2
  obtain ⟨s0, s1, s2, s3, s4, s5, s6⟩ := c0.seven
  obtain ⟨f0, f1, f2, f3, f4, f5, f6⟩ := c0.seven_open
  go_region
  clear s0 s1 s2 s3 s4 s5 s6 f0 f1 f2 f3 f4 f5 f6
  obtain ⟨W2, hW2, d0', d1, hB2⟩ := swap_step c0 c1 hB1 3 5 (.bool r) (.bool p)
  have d0 : Blk W2 w.heap.size 29 (cells7 z y x r q p t) := d0'
  rw [hW2]
  clear hW2 c0 c1 hB1 d0'
  obtain ⟨s0, s1, s2, s3, s4, s5, s6⟩ := d0.seven
  obtain ⟨g0, g1, g2, g3, g4, g5, g6⟩ := d1.seven
  obtain ⟨f0, f1, f2, f3, f4, f5, f6⟩ := d1.seven_open
  go_wp2
  obtain ⟨j0, j1, j2, j3, j4, j5, j6⟩ := (d1.set7 (.int .i64 z) (.int .i64 y) (.int .i64 x) (.bool r) (.bool q) (.bool p) (.bool t)).seven
  exact bodyPost_ret (v := V7 z y x r q p t) (by simp [results, Tryd.f34, go_sem, j0, j1, j2, j3, j4, j5, j6]) rfl ⟨rfl, below_set7 hB2 (by omega) _ _ _ _ _ _ _⟩

set_option maxRecDepth 100000 in
set_option maxHeartbeats 4000000 in
theorem swapped_12 (x y z : Int) (p q r t : Bool) (w : World) :
    Calls Tryd.prog 34 #[V7 x y z p q r t, I 1, I 2] w fun e W' => e = .returned (V7 x z y p r q t) ∧ Below w.heap.size w W' := by
  obtain ⟨W, hW, hBW, b0, b1⟩ := two_start w (cells7 x y z p q r t) (cells7 0 0 0 false false false false) 29 29
  go_enter Tryd.func34, Tryd.ntmps34
  go_wp2
  clear hW
  obtain ⟨s0, s1, s2, s3, s4, s5, s6⟩ := b0.seven
  obtain ⟨f0, f1, f2, f3, f4, f5, f6⟩ := b0.seven_open
  go_region
  clear s0 s1 s2 s3 s4 s5 s6 f0 f1 f2 f3 f4 f5 f6
  obtain ⟨W1, hW1, c0', c1, hB1⟩ := swap_step b0 b1 hBW 1 2 (.int .i64 z) (.int .i64 y)
  have c0 : Blk W1 w.heap.size 29 (cells7 x z y p q r t) := c0'
  rw [hW1]
  clear hW1 b0 b1 hBW c0'
  go_wp2
  obtain ⟨s0, s1, s2, s3, s4, s5, s6⟩ := c0.seven
  obtain ⟨f0, f1, f2, f3, f4, f5, f6⟩ := c0.seven_open
  go_region
  clear s0 s1 s2 s3 s4 s5 s6 f0 f1 f2 f3 f4 f5 f6
  obtain ⟨W2, hW2, d0', d1, hB2⟩ := swap_step c0 c1 hB1 4 5 (.bool r) (.bool q)
  have d0 : Blk W2 w.heap.size 29 (cells7 x z y p r q t) := d0'
  rw [hW2]
  clear hW2 c0 c1 hB1 d0'
  obtain ⟨s0, s1, s2, s3, s4, s5, s6⟩ := d0.seven
  obtain ⟨g0, g1, g2, g3, g4, g5, g6⟩ := d1.seven
  obtain ⟨f0, f1, f2, f3, f4, f5, f6⟩ := d1.seven_open
  go_wp2
  obtain ⟨j0, j1, j2, j3, j4, j5, j6⟩ := (d1.set7 (.int .i64 x) (.int .i64 z) (.int .i64 y) (.bool p) (.bool r) (.bool q) (.bool t)).seven
  exact bodyPost_ret (v := V7 x z y p r q t) (by simp [results, Tryd.f34, go_sem, j0, j1, j2, j3, j4, j5, j6]) rfl ⟨rfl, below_set7 hB2 (by omega) _ _ _ _ _ _ _⟩

set_option maxRecDepth 100000 in
set_option maxHeartbeats 1000000 in
theorem wmay_calls (x y z : Int) (p q r t : Bool) (w : World) :
    Calls Tryd.prog 24 #[V7 x y z p q r t] w fun e W' => ((mayD x y z ∧ e = .returned (.bool true)) ∨ (¬ mayD x y z ∧ e = .returned (.bool false))) ∧ Below w.heap.size w W' := by
  go_enter Tryd.func24, Tryd.ntmps24
  go_wp2
  go_loop [3] (fun i => i = .int .i64 0 ∨ (i = .int .i64 1 ∧ okD x) ∨ (i = .int .i64 2 ∧ okD x ∧ okD y) ∨ (i = .int .i64 3 ∧ mayD x y z)) (fun i => 3 - (intOf i).toNat)
  case atStart => exact .inl rfl
  case round =>
    have hB : Below w.heap.size w (w.alloc (.cells (cells7 x y z p q r t) 29)) := (Below.refl _ w).alloc (Nat.le_refl _) _
    rcases hrel with rfl | ⟨rfl, h0⟩ | ⟨rfl, h0, h1⟩ | ⟨rfl, hm⟩
    · by_cases hl : x < 1
      · go_wp2
        go_ret
        exact ⟨.inr ⟨fun h => by have := h.1; unfold okD at this; omega, rfl⟩, hB⟩
      · by_cases hg : 16 < x
        · go_wp2
          go_ret
          exact ⟨.inr ⟨fun h => by have := h.1; unfold okD at this; omega, rfl⟩, hB⟩
        · go_wp2
          go_round
          case rel => exact .inr (.inl ⟨rfl, by unfold okD; omega⟩)
          case measure => simp [intOf]
    · by_cases hl : y < 1
      · go_wp2
        go_ret
        exact ⟨.inr ⟨fun h => by have := h.2.1; unfold okD at this; omega, rfl⟩, hB⟩
      · by_cases hg : 16 < y
        · go_wp2
          go_ret
          exact ⟨.inr ⟨fun h => by have := h.2.1; unfold okD at this; omega, rfl⟩, hB⟩
        · go_wp2
          go_round
          case rel => exact .inr (.inr (.inl ⟨rfl, h0, by unfold okD; omega⟩))
          case measure => simp [intOf]
    · by_cases hl : z < 1
      · go_wp2
        go_ret
        exact ⟨.inr ⟨fun h => by have := h.2.2; unfold okD at this; omega, rfl⟩, hB⟩
      · by_cases hg : 16 < z
        · go_wp2
          go_ret
          exact ⟨.inr ⟨fun h => by have := h.2.2; unfold okD at this; omega, rfl⟩, hB⟩
        · go_wp2
          go_round
          case rel => exact .inr (.inr (.inr ⟨rfl, h0, h1, by unfold okD; omega⟩))
          case measure => simp [intOf]
    · go_wp2
      go_ret
      first | exact ⟨rfl, hB⟩ | exact ⟨.inl ⟨hm, rfl⟩, hB⟩
theorem wmay_yes {x y z : Int} {p q r t : Bool} (w : World) (h : mayD x y z) : Calls Tryd.prog 24 #[V7 x y z p q r t] w fun e W' => e = .returned (.bool true) ∧ Below w.heap.size w W' := by
  refine (wmay_calls x y z p q r t w).mono ?_
  rintro e W' ⟨⟨_, he⟩ | ⟨k, _⟩, hB⟩
  · exact ⟨he, hB⟩
  · exact absurd h k
theorem wmay_no {x y z : Int} {p q r t : Bool} (w : World) (h : ¬ mayD x y z) : Calls Tryd.prog 24 #[V7 x y z p q r t] w fun e W' => e = .returned (.bool false) ∧ Below w.heap.size w W' := by
  refine (wmay_calls x y z p q r t w).mono ?_
  rintro e W' ⟨⟨k, _⟩ | ⟨_, he⟩, hB⟩
  · exact absurd k h
  · exact ⟨he, hB⟩
set_option maxRecDepth 100000 in
theorem wcheck_yes {x y z : Int} {p q r t : Bool} (w : World) (h : mayD x y z) : Calls Tryd.prog 16 #[V7 x y z p q r t] w fun e W' => e = .returned (I 0) ∧ Below w.heap.size w W' := by
  have hc := fun w => wmay_yes (p := p) (q := q) (r := r) (t := t) w h
  clear h
  have hB : Below w.heap.size w (w.alloc (.cells (cells7 x y z p q r t) 29)) := (Below.refl _ w).alloc (Nat.le_refl _) _
  go_enter Tryd.func16, Tryd.ntmps16
  go_wp2_with fail
  refine (hc _).mono ?_
  rintro e w1 ⟨rfl, hT⟩
  go_wp2_with fail
  go_ret
  exact ⟨rfl, then_below hB hT⟩
set_option maxRecDepth 100000 in
theorem wcheck_no {x y z : Int} {p q r t : Bool} (w : World) (h : ¬ mayD x y z) : Calls Tryd.prog 16 #[V7 x y z p q r t] w fun e W' => e = .returned (I 8) ∧ Below w.heap.size w W' := by
  have hc := fun w => wmay_no (p := p) (q := q) (r := r) (t := t) w h
  clear h
  have hB : Below w.heap.size w (w.alloc (.cells (cells7 x y z p q r t) 29)) := (Below.refl _ w).alloc (Nat.le_refl _) _
  go_enter Tryd.func16, Tryd.ntmps16
  go_wp2_with fail
  refine (hc _).mono ?_
  rintro e w1 ⟨rfl, hT⟩
  go_wp2_with fail
  go_ret
  exact ⟨rfl, then_below hB hT⟩

end Go.Proofs.YtanhhlekbdhfmaaDoor
