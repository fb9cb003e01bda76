/-
  What tidehalllaw01's helpers answer: the chapter's dimensions; its first examples hold.
-/
import Derived.Test.YtfpemgaabbcbiaaPosFar
import Derived.Test.YtfpemgaabbcbiaaEqArr
namespace Go.Proofs.Ytfpemgaabbcbiaa
open Go.RowKit Go.Shelf

attribute [local go_sem] Oper.semAt_some ext_const eq_arr

theorem may432 : mayD 4 3 2 := by unfold mayD okD; omega

theorem some_calls (w : World) : Calls Try.prog 10 #[] w fun e W' => e = .returned (A3 4 3 2) ∧ Below w.heap.size w W' := by
  go_enter Try.func10, Try.ntmps10
  go_wp2
  exact bodyPost_ret (v := A3 4 3 2) (by simp [results, Try.f10, go_sem]) rfl ⟨rfl, (Below.refl _ w).alloc (Nat.le_refl _) _⟩

theorem many432 (w : World) : Calls Try.prog 14 #[A3 4 3 2] w fun e W' => e = .returned (.tuple #[I 24, I 0]) ∧ Below w.heap.size w W' := many_yes w may432
theorem at432 (w : World) : Calls Try.prog 16 #[A3 4 3 2, A3 1 2 1] w fun e W' => e = .returned (.tuple #[I 21, I 0]) ∧ Below w.heap.size w W' :=
  at_yes (p0 := 1) (p1 := 2) (p2 := 1) w may432 (by unfold inD; omega)
theorem of432 (w : World) : Calls Try.prog 18 #[A3 4 3 2, I 23] w fun e W' => e = .returned (.tuple #[A3 3 2 1, I 0]) ∧ Below w.heap.size w W' :=
  of_yes (m := 23) w may432 (by omega)

set_option maxHeartbeats 400000 in
theorem alive_calls (w : World) : Calls Try.prog 12 #[] w fun e W' => e = .returned (.bool true) ∧ Below w.heap.size w W' := by
  go_enter Try.func12, Try.ntmps12
  go_wp2_with fail
  refine (some_calls _).mono ?_
  rintro e w1 ⟨rfl, hB1⟩
  go_wp2_with fail
  refine (many432 _).mono ?_
  rintro e w2 ⟨rfl, hB2⟩
  go_wp2_with fail
  refine (some_calls _).mono ?_
  rintro e w3 ⟨rfl, hB3⟩
  go_wp2_with fail
  refine (at432 _).mono ?_
  rintro e w4 ⟨rfl, hB4⟩
  go_wp2_with fail
  refine (some_calls _).mono ?_
  rintro e w5 ⟨rfl, hB5⟩
  go_wp2_with fail
  refine (of432 _).mono ?_
  rintro e w6 ⟨rfl, hB6⟩
  go_wp2
  go_ret
  exact ⟨rfl, then_alloc (then_below (then_below (then_below (then_below (then_below hB1 hB2) hB3) hB4) hB5) hB6) _⟩

theorem step432a (w : World) : Calls Try.prog 9 #[A3 4 3 2, I 0, I 0, I (-1)] w fun e W' => e = .returned (.tuple #[I 3, I 0]) ∧ Below w.heap.size w W' :=
  step_yes (m := 0) (by_ := -1) w may432 (by omega) 0
theorem step432b (w : World) : Calls Try.prog 9 #[A3 4 3 2, I 21, I 1, I 1] w fun e W' => e = .returned (.tuple #[I 13, I 0]) ∧ Below w.heap.size w W' :=
  step_yes (m := 21) (by_ := 1) w may432 (by omega) 1
theorem far432a (w : World) : Calls Try.prog 11 #[A3 4 3 2, I 0, I 3] w fun e W' => e = .returned (.tuple #[I 1, I 0]) ∧ Below w.heap.size w W' :=
  far_yes (a := 0) (b := 3) w may432 (by omega) (by omega)
theorem far432b (w : World) : Calls Try.prog 11 #[A3 4 3 2, I 0, I 23] w fun e W' => e = .returned (.tuple #[I 3, I 0]) ∧ Below w.heap.size w W' :=
  far_yes (a := 0) (b := 23) w may432 (by omega) (by omega)

set_option maxRecDepth 100000 in
set_option maxHeartbeats 1000000 in
theorem posNames_walk (w : World) : Calls Try.prog 3 #[] w fun e W' => e = .returned (.bool true) ∧ Below w.heap.size w W' := by
  go_enter Try.func3, Try.ntmps3
  go_wp2_with fail
  refine (some_calls _).mono ?_
  rintro e w1 ⟨rfl, hB1⟩
  go_wp2_with fail
  refine (step432a _).mono ?_
  rintro e w2 ⟨rfl, hB2⟩
  go_wp2_with fail
  refine (some_calls _).mono ?_
  rintro e w3 ⟨rfl, hB3⟩
  go_wp2_with fail
  refine (step432b _).mono ?_
  rintro e w4 ⟨rfl, hB4⟩
  go_wp2_with fail
  refine (some_calls _).mono ?_
  rintro e w5 ⟨rfl, hB5⟩
  go_wp2_with fail
  refine (far432a _).mono ?_
  rintro e w6 ⟨rfl, hB6⟩
  go_wp2_with fail
  refine (some_calls _).mono ?_
  rintro e w7 ⟨rfl, hB7⟩
  go_wp2_with fail
  refine (far432b _).mono ?_
  rintro e w8 ⟨rfl, hB8⟩
  go_wp2_with fail
  refine (alive_calls _).mono ?_
  rintro e w9 ⟨rfl, hB9⟩
  go_wp2_with fail
  refine (check_no (d0 := 17) (d1 := 1) (d2 := 1) _ (by unfold mayD okD; omega)).mono ?_
  rintro e w10 ⟨rfl, hB10⟩
  go_wp2_with fail
  refine (check_no (d0 := 0) (d1 := 0) (d2 := 0) _ (by unfold mayD okD; omega)).mono ?_
  rintro e w11 ⟨rfl, hB11⟩
  go_wp2
  go_ret
  exact ⟨rfl, then_below (then_below (then_below (then_below (then_below (then_below (then_below (then_below (then_below (then_below hB1 hB2) hB3) hB4) hB5) hB6) hB7) hB8) hB9) hB10) hB11⟩

end Go.Proofs.Ytfpemgaabbcbiaa
