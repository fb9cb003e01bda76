/-
  The document's answers of layer 7 about two spans (tidehallref07.Meets, Meet, Within, Both): what each call answers.
-/
import Derived.Test.YtgmpenjbbhkgoaaRefTime
namespace Go.Proofs.Ytgmpenjbbhkgoaa
open Go.RowKit Go.Shelf

attribute [local go_sem] Oper.semAt_some ext_const

theorem rmeetsT_calls (f t f' t' : Int) (w : World) : Calls Try.prog 28 #[S2 f t, S2 f' t'] w fun e W' => e = .returned (.bool (meetsT f t f' t')) ∧ Below w.heap.size w W' := by
  have HA : Hid (∀ w, Calls Try.prog 30 #[S2 f t, I f'] w fun e W' => e = .returned (.bool (inT f t f')) ∧ Below w.heap.size w W') := rinT_calls f t f'
  have HB : Hid (∀ w, Calls Try.prog 30 #[S2 f' t', I f] w fun e W' => e = .returned (.bool (inT f' t' f)) ∧ Below w.heap.size w W') := rinT_calls f' t' f
  unfold meetsT
  generalize inT f t f' = p at *
  generalize inT f' t' f = q at *
  cases p
  · rw [Bool.false_or]
    go_enter Try.func28, Try.ntmps28
    go_wp2_with fail
    obtain ⟨W, hW, hB0, b0, b1⟩ := two_start w (C2 f t) (C2 f' t') 23 23
    rw [hW]
    clear hW
    refine (HA.out _).mono ?_
    rintro e w1 ⟨rfl, hT⟩
    obtain ⟨⟨c0, c1, hz0⟩, c2, c3, hz1⟩ := two_pairs b0 b1 hT
    go_wp2_with fail
    refine (HB.out _).mono ?_
    rintro e w2 ⟨rfl, hB2⟩
    go_wp2
    go_ret
    exact ⟨rfl, then_below hB0 (then_below hT hB2)⟩
  · rw [Bool.true_or]
    go_enter Try.func28, Try.ntmps28
    go_wp2_with fail
    obtain ⟨W, hW, hB0, b0, b1⟩ := two_start w (C2 f t) (C2 f' t') 23 23
    rw [hW]
    clear hW
    refine (HA.out _).mono ?_
    rintro e w1 ⟨rfl, hT⟩
    go_wp2
    go_ret
    exact ⟨rfl, then_below hB0 hT⟩

theorem may_yes {f t : Int} (h : maySp f t) (w : World) : Calls Try.prog 25 #[S2 f t] w fun e W' => e = .returned (.bool true) ∧ Below w.heap.size w W' := by
  rw [← (maySpB_iff f t).2 h]; exact rmayS_calls f t w
theorem may_no {f t : Int} (h : ¬ maySp f t) (w : World) : Calls Try.prog 25 #[S2 f t] w fun e W' => e = .returned (.bool false) ∧ Below w.heap.size w W' := by
  have hs : maySpB f t = false := by rw [Bool.eq_false_iff, ne_eq, maySpB_iff]; exact h
  rw [← hs]; exact rmayS_calls f t w

theorem rmeetT_no {f t f' t' : Int} (w : World) (h : ¬ (maySp f t ∧ maySp f' t')) : Calls Try.prog 17 #[S2 f t, S2 f' t'] w fun e W' => e = .returned (.tuple #[.bool false, I 2]) ∧ Below w.heap.size w W' := by
  by_cases h1 : maySp f t
  · have HA : Hid (∀ w, Calls Try.prog 25 #[S2 f t] w fun e W' => e = .returned (.bool true) ∧ Below w.heap.size w W') := may_yes h1
    have HB : Hid (∀ w, Calls Try.prog 25 #[S2 f' t'] w fun e W' => e = .returned (.bool false) ∧ Below w.heap.size w W') := may_no (fun h2 => h ⟨h1, h2⟩)
    clear h h1
    go_enter Try.func17, Try.ntmps17
    go_wp2_with fail
    obtain ⟨W, hW, hB0, b0, b1⟩ := two_start w (C2 f t) (C2 f' t') 23 23
    rw [hW]
    clear hW
    refine (HA.out _).mono ?_
    rintro e w1 ⟨rfl, hT⟩
    obtain ⟨⟨c0, c1, hz0⟩, c2, c3, hz1⟩ := two_pairs b0 b1 hT
    go_wp2_with fail
    refine (HB.out _).mono ?_
    rintro e w2 ⟨rfl, hB2⟩
    go_wp2
    go_ret2
    exact ⟨rfl, then_below hB0 (then_below hT hB2)⟩
  · have HA : Hid (∀ w, Calls Try.prog 25 #[S2 f t] w fun e W' => e = .returned (.bool false) ∧ Below w.heap.size w W') := may_no h1
    clear h h1
    go_enter Try.func17, Try.ntmps17
    go_wp2_with fail
    obtain ⟨W, hW, hB0, b0, b1⟩ := two_start w (C2 f t) (C2 f' t') 23 23
    rw [hW]
    clear hW
    refine (HA.out _).mono ?_
    rintro e w1 ⟨rfl, hT⟩
    go_wp2
    go_ret2
    exact ⟨rfl, then_below hB0 hT⟩

theorem rmeetT_yes {f t f' t' : Int} (w : World) (h : maySp f t) (h' : maySp f' t') : Calls Try.prog 17 #[S2 f t, S2 f' t'] w fun e W' => e = .returned (.tuple #[.bool (meetsT f t f' t'), I 0]) ∧ Below w.heap.size w W' := by
  have HA : Hid (∀ w, Calls Try.prog 25 #[S2 f t] w fun e W' => e = .returned (.bool true) ∧ Below w.heap.size w W') := may_yes h
  have HB : Hid (∀ w, Calls Try.prog 25 #[S2 f' t'] w fun e W' => e = .returned (.bool true) ∧ Below w.heap.size w W') := may_yes h'
  have HC : Hid (∀ w, Calls Try.prog 28 #[S2 f t, S2 f' t'] w fun e W' => e = .returned (.bool (meetsT f t f' t')) ∧ Below w.heap.size w W') := rmeetsT_calls f t f' t'
  clear h h'
  generalize meetsT f t f' t' = r at *
  go_enter Try.func17, Try.ntmps17
  go_wp2_with fail
  obtain ⟨W, hW, hB0, b0, b1⟩ := two_start w (C2 f t) (C2 f' t') 23 23
  rw [hW]
  clear hW
  refine (HA.out _).mono ?_
  rintro e w1 ⟨rfl, hT⟩
  obtain ⟨⟨c0, c1, hz0⟩, c2, c3, hz1⟩ := two_pairs b0 b1 hT
  go_wp2_with fail
  refine (HB.out _).mono ?_
  rintro e w2 ⟨rfl, hB2⟩
  have hT := then_below hT hB2
  clear hB2 c0 c1 hz0 c2 c3 hz1
  obtain ⟨⟨c0, c1, hz0⟩, c2, c3, hz1⟩ := two_pairs b0 b1 hT
  go_wp2_with fail
  refine (HC.out _).mono ?_
  rintro e w3 ⟨rfl, hB3⟩
  go_wp2
  go_ret2
  exact ⟨rfl, then_below hB0 (then_below hT hB3)⟩

theorem rwithinT_no {f t f' t' : Int} (w : World) (h : ¬ (maySp f t ∧ maySp f' t')) : Calls Try.prog 19 #[S2 f t, S2 f' t'] w fun e W' => e = .returned (.tuple #[.bool false, I 2]) ∧ Below w.heap.size w W' := by
  by_cases h1 : maySp f t
  · have HA : Hid (∀ w, Calls Try.prog 25 #[S2 f t] w fun e W' => e = .returned (.bool true) ∧ Below w.heap.size w W') := may_yes h1
    have HB : Hid (∀ w, Calls Try.prog 25 #[S2 f' t'] w fun e W' => e = .returned (.bool false) ∧ Below w.heap.size w W') := may_no (fun h2 => h ⟨h1, h2⟩)
    clear h h1
    go_enter Try.func19, Try.ntmps19
    go_wp2_with fail
    obtain ⟨W, hW, hB0, b0, b1⟩ := two_start w (C2 f t) (C2 f' t') 23 23
    rw [hW]
    clear hW
    refine (HA.out _).mono ?_
    rintro e w1 ⟨rfl, hT⟩
    obtain ⟨⟨c0, c1, hz0⟩, c2, c3, hz1⟩ := two_pairs b0 b1 hT
    go_wp2_with fail
    refine (HB.out _).mono ?_
    rintro e w2 ⟨rfl, hB2⟩
    go_wp2
    go_ret2
    exact ⟨rfl, then_below hB0 (then_below hT hB2)⟩
  · have HA : Hid (∀ w, Calls Try.prog 25 #[S2 f t] w fun e W' => e = .returned (.bool false) ∧ Below w.heap.size w W') := may_no h1
    clear h h1
    go_enter Try.func19, Try.ntmps19
    go_wp2_with fail
    obtain ⟨W, hW, hB0, b0, b1⟩ := two_start w (C2 f t) (C2 f' t') 23 23
    rw [hW]
    clear hW
    refine (HA.out _).mono ?_
    rintro e w1 ⟨rfl, hT⟩
    go_wp2
    go_ret2
    exact ⟨rfl, then_below hB0 hT⟩

theorem rwithinT_yes {f t f' t' : Int} (w : World) (h : maySp f t) (h' : maySp f' t') : Calls Try.prog 19 #[S2 f t, S2 f' t'] w fun e W' => e = .returned (.tuple #[.bool (wiT f t f' t'), I 0]) ∧ Below w.heap.size w W' := by
  have HA : Hid (∀ w, Calls Try.prog 25 #[S2 f t] w fun e W' => e = .returned (.bool true) ∧ Below w.heap.size w W') := may_yes h
  have HB : Hid (∀ w, Calls Try.prog 25 #[S2 f' t'] w fun e W' => e = .returned (.bool true) ∧ Below w.heap.size w W') := may_yes h'
  have HC : Hid (∀ w, Calls Try.prog 30 #[S2 f' t', I f] w fun e W' => e = .returned (.bool (inT f' t' f)) ∧ Below w.heap.size w W') := rinT_calls f' t' f
  have HD : Hid (∀ w, Calls Try.prog 30 #[S2 f' t', I (t - 1)] w fun e W' => e = .returned (.bool (inT f' t' (t - 1))) ∧ Below w.heap.size w W') := rinT_calls f' t' (t - 1)
  have hw : Hid (wrap64 (t - 1) = t - 1) := wrap_in _ (by have := h.1; have := h.2.1; have := h.2.2; omega)
  clear h h'
  unfold wiT
  generalize inT f' t' f = p at *
  generalize inT f' t' (t - 1) = q at *
  cases p
  · rw [Bool.false_and]
    go_enter Try.func19, Try.ntmps19
    go_wp2_with fail
    obtain ⟨W, hW, hB0, b0, b1⟩ := two_start w (C2 f t) (C2 f' t') 23 23
    rw [hW]
    clear hW
    refine (HA.out _).mono ?_
    rintro e w1 ⟨rfl, hT⟩
    obtain ⟨⟨c0, c1, hz0⟩, c2, c3, hz1⟩ := two_pairs b0 b1 hT
    go_wp2_with fail
    refine (HB.out _).mono ?_
    rintro e w2 ⟨rfl, hB2⟩
    have hT := then_below hT hB2
    clear hB2 c0 c1 hz0 c2 c3 hz1
    obtain ⟨⟨c0, c1, hz0⟩, c2, c3, hz1⟩ := two_pairs b0 b1 hT
    go_wp2_with fail
    refine (HC.out _).mono ?_
    rintro e w3 ⟨rfl, hB3⟩
    go_wp2
    go_ret2
    exact ⟨rfl, then_below hB0 (then_below hT hB3)⟩
  · rw [Bool.true_and]
    go_enter Try.func19, Try.ntmps19
    go_wp2_with fail
    obtain ⟨W, hW, hB0, b0, b1⟩ := two_start w (C2 f t) (C2 f' t') 23 23
    rw [hW]
    clear hW
    refine (HA.out _).mono ?_
    rintro e w1 ⟨rfl, hT⟩
    obtain ⟨⟨c0, c1, hz0⟩, c2, c3, hz1⟩ := two_pairs b0 b1 hT
    go_wp2_with fail
    refine (HB.out _).mono ?_
    rintro e w2 ⟨rfl, hB2⟩
    have hT := then_below hT hB2
    clear hB2 c0 c1 hz0 c2 c3 hz1
    obtain ⟨⟨c0, c1, hz0⟩, c2, c3, hz1⟩ := two_pairs b0 b1 hT
    go_wp2_with fail
    refine (HC.out _).mono ?_
    rintro e w3 ⟨rfl, hB3⟩
    have hT := then_below hT hB3
    clear hB3 c0 c1 hz0 c2 c3 hz1
    obtain ⟨⟨c0, c1, hz0⟩, c2, c3, hz1⟩ := two_pairs b0 b1 hT
    go_wp2_with fail
    rw [hw.out]
    refine (HD.out _).mono ?_
    rintro e w4 ⟨rfl, hB4⟩
    go_wp2
    go_ret2
    exact ⟨rfl, then_below hB0 (then_below hT hB4)⟩

end Go.Proofs.Ytgmpenjbbhkgoaa
