/-
  tidehallref07.Both: what it answers.
-/
import Derived.Test.YtgmpenjbbhkgoaaRefTwoT
namespace Go.Proofs.Ytgmpenjbbhkgoaa
open Go.RowKit Go.Shelf

attribute [local go_sem] Oper.semAt_some ext_const

theorem rbothT_no {f t f' t' : Int} (w : World) (h : ¬ (maySp f t ∧ maySp f' t')) : Calls Try.prog 20 #[S2 f t, S2 f' t'] w fun e W' => e = .returned (.tuple #[S2 0 0, I 2]) ∧ Below w.heap.size w W' := by
  by_cases h1 : maySp f t
  · have HA : Hid (∀ w, Calls Try.prog 25 #[S2 f t] w fun e W' => e = .returned (.bool true) ∧ Below w.heap.size w W') := may_yes h1
    have HB : Hid (∀ w, Calls Try.prog 25 #[S2 f' t'] w fun e W' => e = .returned (.bool false) ∧ Below w.heap.size w W') := may_no (fun h2 => h ⟨h1, h2⟩)
    clear h h1
    go_enter Try.func20, Try.ntmps20
    go_wp2_with fail
    obtain ⟨W, hW, hB0, b0, b1, b2⟩ := three_boxes w (C2 f t) (C2 f' t') (C2 0 0) 23 23 23
    rw [hW]
    clear hW
    refine (HA.out _).mono ?_
    rintro e w1 ⟨rfl, hT⟩
    obtain ⟨⟨c0, c1, hz0⟩, c2, c3, hz1⟩ := two_pairs b0 b1 hT
    go_wp2_with fail
    refine (HB.out _).mono ?_
    rintro e w2 ⟨rfl, hB2⟩
    have hT := then_below hT hB2
    clear c0 c1 c2 c3
    have q2 := b2.later hT
    obtain ⟨c0, c1, f0, f1⟩ := q2.row2
    go_wp2
    have hBX := below_set2 (then_below hB0 hT) (show w.heap.size ≤ w.heap.size + 1 + 1 by omega) (I 0) (I 0)
    obtain ⟨j0, j1, _, _⟩ := (q2.set2 (I 0) (I 0)).row2
    exact bodyPost_ret (v := .tuple #[S2 0 0, I 2]) (by simp [results, Try.f20, go_sem, j0, j1]) rfl ⟨rfl, hBX⟩
  · have HA : Hid (∀ w, Calls Try.prog 25 #[S2 f t] w fun e W' => e = .returned (.bool false) ∧ Below w.heap.size w W') := may_no h1
    clear h h1
    go_enter Try.func20, Try.ntmps20
    go_wp2_with fail
    obtain ⟨W, hW, hB0, b0, b1, b2⟩ := three_boxes w (C2 f t) (C2 f' t') (C2 0 0) 23 23 23
    rw [hW]
    clear hW
    refine (HA.out _).mono ?_
    rintro e w1 ⟨rfl, hT⟩
    have q2 := b2.later hT
    obtain ⟨c0, c1, f0, f1⟩ := q2.row2
    go_wp2
    have hBX := below_set2 (then_below hB0 hT) (show w.heap.size ≤ w.heap.size + 1 + 1 by omega) (I 0) (I 0)
    obtain ⟨j0, j1, _, _⟩ := (q2.set2 (I 0) (I 0)).row2
    exact bodyPost_ret (v := .tuple #[S2 0 0, I 2]) (by simp [results, Try.f20, go_sem, j0, j1]) rfl ⟨rfl, hBX⟩

theorem rbothT_none {f t f' t' : Int} (w : World) (h : maySp f t) (h' : maySp f' t') (hm : meetsT f t f' t' = false) : Calls Try.prog 20 #[S2 f t, S2 f' t'] w fun e W' => e = .returned (.tuple #[S2 0 0, I 6]) ∧ Below w.heap.size w W' := by
  have HA : Hid (∀ w, Calls Try.prog 25 #[S2 f t] w fun e W' => e = .returned (.bool true) ∧ Below w.heap.size w W') := may_yes h
  have HB : Hid (∀ w, Calls Try.prog 25 #[S2 f' t'] w fun e W' => e = .returned (.bool true) ∧ Below w.heap.size w W') := may_yes h'
  have HC : Hid (∀ w, Calls Try.prog 28 #[S2 f t, S2 f' t'] w fun e W' => e = .returned (.bool false) ∧ Below w.heap.size w W') := fun w => by rw [← hm]; exact rmeetsT_calls f t f' t' w
  clear h h' hm
  go_enter Try.func20, Try.ntmps20
  go_wp2_with fail
  obtain ⟨W, hW, hB0, b0, b1, b2⟩ := three_boxes w (C2 f t) (C2 f' t') (C2 0 0) 23 23 23
  rw [hW]
  clear hW
  refine (HA.out _).mono ?_
  rintro e w1 ⟨rfl, hT⟩
  obtain ⟨⟨c0, c1, hz0⟩, c2, c3, hz1⟩ := two_pairs b0 b1 hT
  go_wp2_with fail
  refine (HB.out _).mono ?_
  rintro e w2 ⟨rfl, hB2⟩
  have hT := then_below hT hB2
  clear hB2 c0 c1 hz0 c2 c3 hz1
  obtain ⟨⟨c0, c1, hz0⟩, c2, c3, hz1⟩ := two_pairs b0 b1 hT
  go_wp2_with fail
  refine (HC.out _).mono ?_
  rintro e w3 ⟨rfl, hB3⟩
  have hT := then_below hT hB3
  clear c0 c1 c2 c3
  have q2 := b2.later hT
  obtain ⟨c0, c1, f0, f1⟩ := q2.row2
  go_wp2
  have hBX := below_set2 (then_below hB0 hT) (show w.heap.size ≤ w.heap.size + 1 + 1 by omega) (I 0) (I 0)
  obtain ⟨j0, j1, _, _⟩ := (q2.set2 (I 0) (I 0)).row2
  exact bodyPost_ret (v := .tuple #[S2 0 0, I 6]) (by simp [results, Try.f20, go_sem, j0, j1]) rfl ⟨rfl, hBX⟩

set_option maxHeartbeats 2000000 in
theorem rbothT_yes {f t f' t' : Int} (w : World) (h : maySp f t) (h' : maySp f' t') (hm : meetsT f t f' t' = true) : Calls Try.prog 20 #[S2 f t, S2 f' t'] w fun e W' => e = .returned (.tuple #[S2 (maxT f f') (minT t t'), I 0]) ∧ Below w.heap.size w W' := by
  have HA : Hid (∀ w, Calls Try.prog 25 #[S2 f t] w fun e W' => e = .returned (.bool true) ∧ Below w.heap.size w W') := may_yes h
  have HB : Hid (∀ w, Calls Try.prog 25 #[S2 f' t'] w fun e W' => e = .returned (.bool true) ∧ Below w.heap.size w W') := may_yes h'
  have HC : Hid (∀ w, Calls Try.prog 28 #[S2 f t, S2 f' t'] w fun e W' => e = .returned (.bool true) ∧ Below w.heap.size w W') := fun w => by rw [← hm]; exact rmeetsT_calls f t f' t' w
  clear h h' hm
  have key : ∀ x y : Int, maxT f f' = x → minT t t' = y → ((decide (f < f') = true ∧ x = f') ∨ (decide (f < f') = false ∧ x = f)) ∧ ((decide (t' < t) = true ∧ y = t') ∨ (decide (t' < t) = false ∧ y = t)) := by
    rintro x y rfl rfl
    unfold maxT minT
    constructor
    · by_cases hx : f < f' <;> simp [hx]
    · by_cases hx : t' < t <;> simp [hx]
  generalize hx : maxT f f' = x at *
  generalize hy : minT t t' = y at *
  obtain ⟨k1, k2⟩ := key x y rfl rfl
  clear key hx hy
  rcases k1 with ⟨d1, rfl⟩ | ⟨d1, rfl⟩ <;> rcases k2 with ⟨d2, rfl⟩ | ⟨d2, rfl⟩
  all_goals
    go_enter Try.func20, Try.ntmps20
    go_wp2_with fail
    obtain ⟨W, hW, hB0, b0, b1, b2⟩ := three_boxes w (C2 _ _) (C2 _ _) (C2 0 0) 23 23 23
    rw [hW]
    clear hW
    refine (HA.out _).mono ?_
    rintro e w1 ⟨rfl, hT⟩
    obtain ⟨⟨c0, c1, hz0⟩, c2, c3, hz1⟩ := two_pairs b0 b1 hT
    go_wp2_with fail
    refine (HB.out _).mono ?_
    rintro e w2 ⟨rfl, hB2⟩
    have hT := then_below hT hB2
    clear hB2 c0 c1 hz0 c2 c3 hz1
    obtain ⟨⟨c0, c1, hz0⟩, c2, c3, hz1⟩ := two_pairs b0 b1 hT
    go_wp2_with fail
    refine (HC.out _).mono ?_
    rintro e w3 ⟨rfl, hB3⟩
    have hT := then_below hT hB3
    clear hB3 c0 c1 hz0 c2 c3 hz1
    obtain ⟨⟨c0, c1, hz0⟩, c2, c3, hz1⟩ := two_pairs b0 b1 hT
    have q2 := b2.later hT
    obtain ⟨c4, c5, f4, f5⟩ := q2.row2
    have hz2 := q2.lt
    go_wp2
    have hBX := below_set2 (then_below hB0 hT) (show w.heap.size ≤ w.heap.size + 1 + 1 by omega) (I x) (I y)
    have q3 := q2.set2 (I x) (I y)
    have hBY := then_alloc hBX (.cells #[I x, I y] 23)
    obtain ⟨j0, j1, _, _⟩ := (q3.alloc (.cells #[I x, I y] 23)).row2
    exact bodyPost_ret (v := .tuple #[S2 x y, I 0]) (by simp [results, Try.f20, go_sem, j0, j1]) rfl ⟨rfl, hBY⟩

end Go.Proofs.Ytgmpenjbbhkgoaa
