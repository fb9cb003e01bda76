/-
  The document's answers of layer 7 (tidehallref07): what each call answers.
-/
import Derived.Test.YtgmpenjbbhkgoaaTimeAsk
namespace Go.Proofs.Ytgmpenjbbhkgoaa
open Go.RowKit Go.Shelf

attribute [local go_sem] Oper.semAt_some ext_const

theorem rwithin_calls (n : Int) (w : World) : Calls Try.prog 31 #[I n] w fun e W' => e = .returned (I (brT n)) ∧ W' = w := by
  by_cases h1 : n < 0
  · rw [show brT n = 0 by rw [brT, if_pos h1]]
    go_enter Try.func31, Try.ntmps31
    go_wp2
    go_ret
    exact ⟨rfl, rfl⟩
  · by_cases h2 : 1099511627776 < n
    · rw [show brT n = 1099511627776 by rw [brT, if_neg h1, if_pos h2]]
      have h1 : decide (n < 0) = false := decide_eq_false h1
      go_enter Try.func31, Try.ntmps31
      go_wp2
      go_ret
      exact ⟨rfl, rfl⟩
    · rw [show brT n = n by rw [brT, if_neg h1, if_neg h2]]
      have h1 : decide (n < 0) = false := decide_eq_false h1
      have h2 : decide (1099511627776 < n) = false := decide_eq_false h2
      go_enter Try.func31, Try.ntmps31
      go_wp2
      go_ret
      exact ⟨rfl, rfl⟩

theorem rplus_calls (a b : Int) (w : World) : Calls Try.prog 21 #[I a, I b] w fun e W' => e = .returned (I (plusT a b)) ∧ W' = w := by
  have HA : Hid (∀ w, Calls Try.prog 31 #[I a] w fun e W' => e = .returned (I (brT a)) ∧ W' = w) := rwithin_calls a
  have HB : Hid (∀ w, Calls Try.prog 31 #[I b] w fun e W' => e = .returned (I (brT b)) ∧ W' = w) := rwithin_calls b
  have HC : Hid (∀ w, Calls Try.prog 31 #[I (brT a + brT b)] w fun e W' => e = .returned (I (plusT a b)) ∧ W' = w) := rwithin_calls _
  have hw : wrap64 (brT a + brT b) = brT a + brT b := wrap_in _ (by have := brT_bd a; have := brT_bd b; omega)
  have hw : Hid (wrap64 (brT a + brT b) = brT a + brT b) := hw
  generalize plusT a b = r at *
  generalize brT a = x at *
  generalize brT b = y at *
  go_enter Try.func21, Try.ntmps21
  go_wp2_with fail
  refine (HA.out _).mono ?_
  rintro e w1 ⟨rfl, rfl⟩
  go_wp2_with fail
  refine (HB.out _).mono ?_
  rintro e w2 ⟨rfl, rfl⟩
  go_wp2_with fail
  rw [hw.out]
  refine (HC.out _).mono ?_
  rintro e w3 ⟨rfl, rfl⟩
  go_wp2
  go_ret
  exact ⟨rfl, rfl⟩

theorem rmayS_calls (f t : Int) (w : World) : Calls Try.prog 25 #[S2 f t] w fun e W' => e = .returned (.bool (maySpB f t)) ∧ Below w.heap.size w W' := by
  have hB : Below w.heap.size w (w.alloc (.cells (C2 f t) 23)) := (Below.refl _ w).alloc (Nat.le_refl _) _
  unfold maySpB
  by_cases h1 : 0 ≤ f
  · by_cases h2 : f < t
    · by_cases h3 : t ≤ 1099511627776
      · rw [decide_eq_true h1, decide_eq_true h2, decide_eq_true h3]
        go_enter Try.func25, Try.ntmps25
        go_wp2
        go_ret
        exact ⟨rfl, hB⟩
      · have h3 : decide (t ≤ 1099511627776) = false := decide_eq_false h3
        rw [decide_eq_true h1, decide_eq_true h2, h3]
        go_enter Try.func25, Try.ntmps25
        go_wp2
        go_ret
        exact ⟨rfl, hB⟩
    · have h2 : decide (f < t) = false := decide_eq_false h2
      rw [decide_eq_true h1, h2]
      go_enter Try.func25, Try.ntmps25
      go_wp2
      go_ret
      exact ⟨rfl, hB⟩
  · have h1 : decide (0 ≤ f) = false := decide_eq_false h1
    rw [h1]
    go_enter Try.func25, Try.ntmps25
    go_wp2
    go_ret
    exact ⟨rfl, hB⟩

theorem rcheckS_calls (f t : Int) (w : World) : Calls Try.prog 22 #[S2 f t] w fun e W' => e = .returned (I (errS f t)) ∧ Below w.heap.size w W' := by
  have hB : Below w.heap.size w (w.alloc (.cells (C2 f t) 23)) := (Below.refl _ w).alloc (Nat.le_refl _) _
  have H : Hid (∀ w, Calls Try.prog 25 #[S2 f t] w fun e W' => e = .returned (.bool (maySpB f t)) ∧ Below w.heap.size w W') := rmayS_calls f t
  unfold errS
  cases hs : maySpB f t
  all_goals
    rw [hs] at H
    simp only [Bool.false_eq_true, if_false, if_true]
    clear hs
    go_enter Try.func22, Try.ntmps22
    go_wp2_with fail
    refine (H.out _).mono ?_
    rintro e w1 ⟨rfl, hB1⟩
    go_wp2
    go_ret
    exact ⟨rfl, then_below hB hB1⟩

theorem rfrom_no {m n : Int} (w : World) (h : ¬ (0 ≤ m ∧ m < 1099511627776 ∧ 1 ≤ n)) : Calls Try.prog 13 #[I m, I n] w fun e W' => e = .returned (.tuple #[S2 0 0, I 2]) ∧ Below w.heap.size w W' := by
  have hB : Below w.heap.size w (w.alloc (.cells (C2 0 0) 23)) := (Below.refl _ w).alloc (Nat.le_refl _) _
  by_cases h1 : m < 0
  · go_enter Try.func13, Try.ntmps13
    go_wp2
    exact bodyPost_ret (v := .tuple #[S2 0 0, I 2]) (by simp [results, Try.f13, go_sem]) rfl ⟨rfl, hB⟩
  · by_cases h2 : 1099511627776 ≤ m
    · have h1 : decide (m < 0) = false := decide_eq_false h1
      go_enter Try.func13, Try.ntmps13
      go_wp2
      exact bodyPost_ret (v := .tuple #[S2 0 0, I 2]) (by simp [results, Try.f13, go_sem]) rfl ⟨rfl, hB⟩
    · have h3 : n ≤ 0 := by omega
      have h1 : decide (m < 0) = false := decide_eq_false h1
      have h2 : decide (1099511627776 ≤ m) = false := decide_eq_false h2
      clear h
      go_enter Try.func13, Try.ntmps13
      go_wp2
      exact bodyPost_ret (v := .tuple #[S2 0 0, I 2]) (by simp [results, Try.f13, go_sem]) rfl ⟨rfl, hB⟩

theorem rfrom_yes {m n : Int} (w : World) (h : 0 ≤ m ∧ m < 1099511627776 ∧ 1 ≤ n) : Calls Try.prog 13 #[I m, I n] w fun e W' => e = .returned (.tuple #[S2 m (plusT m n), I 0]) ∧ Below w.heap.size w W' := by
  have hB : Below w.heap.size w (w.alloc (.cells (C2 m (plusT m n)) 23)) := (Below.refl _ w).alloc (Nat.le_refl _) _
  have H : Hid (∀ w, Calls Try.prog 21 #[I m, I n] w fun e W' => e = .returned (I (plusT m n)) ∧ W' = w) := rplus_calls m n
  generalize plusT m n = r at *
  have h1 : decide (m < 0) = false := decide_eq_false (by omega)
  have h2 : decide (1099511627776 ≤ m) = false := decide_eq_false (by omega)
  have h3 : decide (n ≤ 0) = false := decide_eq_false (by omega)
  clear h
  go_enter Try.func13, Try.ntmps13
  go_wp2_with fail
  refine (H.out _).mono ?_
  rintro e w1 ⟨rfl, rfl⟩
  go_wp2
  exact bodyPost_ret (v := .tuple #[S2 m r, I 0]) (by simp [results, Try.f13, go_sem]) rfl ⟨rfl, hB⟩

theorem rlong_no {f t : Int} (w : World) (h : ¬ maySp f t) : Calls Try.prog 15 #[S2 f t] w fun e W' => e = .returned (.tuple #[I 0, I 2]) ∧ Below w.heap.size w W' := by
  have hB : Below w.heap.size w (w.alloc (.cells (C2 f t) 23)) := (Below.refl _ w).alloc (Nat.le_refl _) _
  have hs : maySpB f t = false := by rw [Bool.eq_false_iff, ne_eq, maySpB_iff]; exact h
  have H : Hid (∀ w, Calls Try.prog 25 #[S2 f t] w fun e W' => e = .returned (.bool false) ∧ Below w.heap.size w W') := fun w => by rw [← hs]; exact rmayS_calls f t w
  clear h hs
  go_enter Try.func15, Try.ntmps15
  go_wp2_with fail
  refine (H.out _).mono ?_
  rintro e w1 ⟨rfl, hB1⟩
  go_wp2
  go_ret2
  exact ⟨rfl, then_below hB hB1⟩

theorem rlong_yes {f t : Int} (w : World) (h : maySp f t) : Calls Try.prog 15 #[S2 f t] w fun e W' => e = .returned (.tuple #[I (t - f), I 0]) ∧ Below w.heap.size w W' := by
  have hB : Below w.heap.size w (w.alloc (.cells (C2 f t) 23)) := (Below.refl _ w).alloc (Nat.le_refl _) _
  have b0 := Blk.new w 23 (C2 f t)
  have hs : maySpB f t = true := (maySpB_iff f t).2 h
  have H : Hid (∀ w, Calls Try.prog 25 #[S2 f t] w fun e W' => e = .returned (.bool true) ∧ Below w.heap.size w W') := fun w => by rw [← hs]; exact rmayS_calls f t w
  have hw : Hid (wrap64 (t - f) = t - f) := wrap_in _ (by have := h.1; have := h.2.1; have := h.2.2; omega)
  clear h hs
  go_enter Try.func15, Try.ntmps15
  go_wp2_with fail
  refine (H.out _).mono ?_
  rintro e w1 ⟨rfl, hB1⟩
  obtain ⟨c0, c1, hz⟩ := b0.pair hB1
  go_wp2
  go_ret2
  rw [hw.out]
  exact ⟨rfl, then_below hB hB1⟩

theorem rinT_calls (f t a : Int) (w : World) : Calls Try.prog 30 #[S2 f t, I a] w fun e W' => e = .returned (.bool (inT f t a)) ∧ Below w.heap.size w W' := by
  have hB : Below w.heap.size w (w.alloc (.cells (C2 f t) 23)) := (Below.refl _ w).alloc (Nat.le_refl _) _
  unfold inT
  by_cases h1 : f ≤ a
  · by_cases h2 : a < t
    · rw [decide_eq_true h1, decide_eq_true h2]
      go_enter Try.func30, Try.ntmps30
      go_wp2
      go_ret
      exact ⟨rfl, hB⟩
    · have h2 : decide (a < t) = false := decide_eq_false h2
      rw [decide_eq_true h1, h2]
      go_enter Try.func30, Try.ntmps30
      go_wp2
      go_ret
      exact ⟨rfl, hB⟩
  · have h1 : decide (f ≤ a) = false := decide_eq_false h1
    rw [h1]
    go_enter Try.func30, Try.ntmps30
    go_wp2
    go_ret
    exact ⟨rfl, hB⟩

end Go.Proofs.Ytgmpenjbbhkgoaa
