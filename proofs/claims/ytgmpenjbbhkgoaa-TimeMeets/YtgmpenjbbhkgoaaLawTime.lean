/-
  What tidehalllaw07.alive answers; TimeNames, TimeSums.
-/
import Derived.Test.YtgmpenjbbhkgoaaTimeTwo
namespace Go.Proofs.Ytgmpenjbbhkgoaa
open Go.RowKit Go.Shelf

attribute [local go_sem] Oper.semAt_some ext_const

set_option maxRecDepth 100000 in
set_option maxHeartbeats 2000000 in
theorem aliveT_calls (w : World) : Calls Try.prog 10 #[] w fun e W' => e = .returned (.bool true) ∧ Below w.heap.size w W' := by
  have HF : Hid (∀ w, Calls Try.prog 8 #[I 5, I 3] w fun e W' => e = .returned (.tuple #[S2 5 8, I 0]) ∧ Below w.heap.size w W') := fun w => tfrom_yes w (by decide)
  have HB : Hid (∀ w, Calls Try.prog 9 #[S2 1 5, S2 3 9] w fun e W' => e = .returned (.tuple #[S2 3 5, I 0]) ∧ Below w.heap.size w W') := fun w => tboth_yes w (by unfold maySp; decide) (by unfold maySp; decide) (by decide)
  have HP : Hid (∀ w, Calls Try.prog 11 #[I 2, I 3] w fun e W' => e = .returned (I 5) ∧ W' = w) := fun w => plus_calls 2 3 w
  have HQ : Hid (∀ w, Calls Try.prog 11 #[I 1099511627776, I 1] w fun e W' => e = .returned (I 1099511627776) ∧ W' = w) := fun w => plus_calls _ _ w
  go_enter Try.func10, Try.ntmps10
  go_wp2_with fail
  refine (HF.out _).mono ?_
  rintro e w1 ⟨rfl, hT⟩
  go_wp2_with fail
  have hT := then_alloc hT (.cells (C2 5 8) 23)
  have b1 := Blk.new w1 23 (C2 5 8)
  generalize w1.alloc (.cells (C2 5 8) 23) = W1 at *
  refine (HB.out _).mono ?_
  rintro e w2 ⟨rfl, hB2⟩
  have hT := then_below hT hB2
  have b1 := b1.later hB2
  obtain ⟨c0, c1, hz1⟩ := b1.pair (Below.refl _ _)
  go_wp2_with fail
  refine (HP.out _).mono ?_
  rintro e w3 ⟨rfl, rfl⟩
  go_wp2_with fail
  refine (HQ.out _).mono ?_
  rintro e w4 ⟨rfl, rfl⟩
  go_wp2
  go_ret
  exact ⟨rfl, then_alloc hT _⟩

set_option maxRecDepth 100000 in
set_option maxHeartbeats 2000000 in
theorem timeNames_walk (w : World) : Calls Try.prog 3 #[] w fun e W' => e = .returned (.bool true) ∧ Below w.heap.size w W' := by
  have HF : Hid (∀ w, Calls Try.prog 8 #[I 1099511627776, I 1] w fun e W' => e = .returned (.tuple #[S2 0 0, I 2]) ∧ Below w.heap.size w W') := fun w => tfrom_no w (by decide)
  have HG : Hid (∀ w, Calls Try.prog 8 #[I 1099511627775, I 9] w fun e W' => e = .returned (.tuple #[S2 1099511627775 1099511627776, I 0]) ∧ Below w.heap.size w W') := fun w => tfrom_yes w (by decide)
  have HB : Hid (∀ w, Calls Try.prog 9 #[S2 1 3, S2 3 4] w fun e W' => e = .returned (.tuple #[S2 0 0, I 6]) ∧ Below w.heap.size w W') := fun w => tboth_none w (by unfold maySp; decide) (by unfold maySp; decide) (by decide)
  have HA : Hid (∀ w, Calls Try.prog 10 #[] w fun e W' => e = .returned (.bool true) ∧ Below w.heap.size w W') := aliveT_calls
  have HP : Hid (∀ w, Calls Try.prog 11 #[I (-5), I 3] w fun e W' => e = .returned (I 3) ∧ W' = w) := fun w => plus_calls _ _ w
  have HQ : Hid (∀ w, Calls Try.prog 11 #[I 9223372036854775807, I 9223372036854775807] w fun e W' => e = .returned (I 1099511627776) ∧ W' = w) := fun w => plus_calls _ _ w
  have HC : Hid (∀ w, Calls Try.prog 12 #[S2 0 0] w fun e W' => e = .returned (I 2) ∧ Below w.heap.size w W') := fun w => tcheck_calls 0 0 w
  go_enter Try.func3, Try.ntmps3
  go_wp2_with fail
  refine (HF.out _).mono ?_
  rintro e w1 ⟨rfl, hT⟩
  go_wp2_with fail
  have hT := then_alloc hT (.cells (C2 0 0) 23)
  generalize w1.alloc (.cells (C2 0 0) 23) = W1 at *
  refine (HG.out _).mono ?_
  rintro e w2 ⟨rfl, hB2⟩
  have hT := then_below hT hB2
  go_wp2_with fail
  have hT := then_alloc hT (.cells (C2 1099511627775 1099511627776) 23)
  have b2 := Blk.new w2 23 (C2 1099511627775 1099511627776)
  generalize w2.alloc (.cells (C2 1099511627775 1099511627776) 23) = W2 at *
  refine (HB.out _).mono ?_
  rintro e w3 ⟨rfl, hB3⟩
  have hT := then_below hT hB3
  have b2 := b2.later hB3
  have hz2 := b2.lt
  go_wp2_with fail
  have hT := then_alloc hT (.cells (C2 0 0) 23)
  have b2 := b2.alloc (.cells (C2 0 0) 23)
  generalize w3.alloc (.cells (C2 0 0) 23) = W3 at *
  refine (HA.out _).mono ?_
  rintro e w4 ⟨rfl, hB4⟩
  have hT := then_below hT hB4
  have b2 := b2.later hB4
  obtain ⟨c0, c1, hz⟩ := b2.pair (Below.refl _ _)
  go_wp2_with fail
  refine (HP.out _).mono ?_
  rintro e w5 ⟨rfl, rfl⟩
  go_wp2_with fail
  refine (HQ.out _).mono ?_
  rintro e w6 ⟨rfl, rfl⟩
  go_wp2_with fail
  refine (HC.out _).mono ?_
  rintro e w7 ⟨rfl, hB7⟩
  go_wp2
  go_ret
  exact ⟨rfl, then_below hT hB7⟩

set_option maxRecDepth 100000 in
set_option maxHeartbeats 2000000 in
theorem timeSums_walk (a b c : Int) (w : World) : Calls Try.prog 5 #[I a, I b, I c] w fun e W' => e = .returned (.bool true) ∧ Below w.heap.size w W' := by
  have HA : Hid (∀ w, Calls Try.prog 10 #[] w fun e W' => e = .returned (.bool true) ∧ Below w.heap.size w W') := aliveT_calls
  have H1 : Hid (∀ w, Calls Try.prog 11 #[I a, I b] w fun e W' => e = .returned (I (plusT a b)) ∧ W' = w) := fun w => plus_calls _ _ w
  have H2 : Hid (∀ w, Calls Try.prog 11 #[I (plusT a b), I c] w fun e W' => e = .returned (I (plusT (plusT a b) c)) ∧ W' = w) := fun w => plus_calls _ _ w
  have H3 : Hid (∀ w, Calls Try.prog 11 #[I b, I c] w fun e W' => e = .returned (I (plusT b c)) ∧ W' = w) := fun w => plus_calls _ _ w
  have H4 : Hid (∀ w, Calls Try.prog 11 #[I a, I (plusT b c)] w fun e W' => e = .returned (I (plusT (plusT a b) c)) ∧ W' = w) := fun w => by rw [plusT_assoc]; exact plus_calls _ _ w
  have H5 : Hid (∀ w, Calls Try.prog 11 #[I a, I c] w fun e W' => e = .returned (I (plusT a c)) ∧ W' = w) := fun w => plus_calls _ _ w
  have H6 : Hid (∀ w, Calls Try.prog 11 #[I b, I a] w fun e W' => e = .returned (I (plusT a b)) ∧ W' = w) := fun w => by rw [plusT_comm a b]; exact plus_calls _ _ w
  have H7 : Hid (∀ w, Calls Try.prog 11 #[I a, I 0] w fun e W' => e = .returned (I (plusT a 0)) ∧ W' = w) := fun w => plus_calls _ _ w
  have k1 : 0 ≤ plusT a b := (plusT_bd a b).1
  have k2 : plusT a b ≤ 1099511627776 := (plusT_bd a b).2
  have k3 : plusT a b ≤ plusT (plusT a b) c := plusT_more a b c
  have k4 : Hid (b < c → plusT a b ≤ plusT a c) := fun h => plusT_le (Int.le_of_lt h)
  have k5 : plusT a 0 ≤ plusT a b := plusT_up a b
  generalize plusT (plusT a b) c = o at *
  generalize plusT a b = n at *
  generalize plusT b c = m at *
  generalize plusT a c = k at *
  generalize plusT a 0 = z at *
  go_enter Try.func5, Try.ntmps5
  go_wp2_with fail
  refine (H1.out _).mono ?_
  rintro e w1 ⟨rfl, rfl⟩
  go_wp2_with fail
  refine (H2.out _).mono ?_
  rintro e w2 ⟨rfl, rfl⟩
  go_wp2_with fail
  refine (H3.out _).mono ?_
  rintro e w3 ⟨rfl, rfl⟩
  go_wp2_with fail
  refine (H4.out _).mono ?_
  rintro e w4 ⟨rfl, rfl⟩
  go_wp2_with fail
  · have k6 := k4.out (by assumption)
    refine (H5.out _).mono ?_
    rintro e w5 ⟨rfl, rfl⟩
    go_wp2_with fail
    refine (HA.out _).mono ?_
    rintro e w6 ⟨rfl, hT⟩
    go_wp2_with fail
    refine (H6.out _).mono ?_
    rintro e w7 ⟨rfl, rfl⟩
    go_wp2_with fail
    refine (H7.out _).mono ?_
    rintro e w8 ⟨rfl, rfl⟩
    go_wp2
    go_ret
    exact ⟨rfl, hT⟩
  · refine (H1.out _).mono ?_
    rintro e w5 ⟨rfl, rfl⟩
    go_wp2_with fail
    refine (HA.out _).mono ?_
    rintro e w6 ⟨rfl, hT⟩
    go_wp2_with fail
    refine (H6.out _).mono ?_
    rintro e w7 ⟨rfl, rfl⟩
    go_wp2_with fail
    refine (H7.out _).mono ?_
    rintro e w8 ⟨rfl, rfl⟩
    go_wp2
    go_ret
    exact ⟨rfl, hT⟩

end Go.Proofs.Ytgmpenjbbhkgoaa
