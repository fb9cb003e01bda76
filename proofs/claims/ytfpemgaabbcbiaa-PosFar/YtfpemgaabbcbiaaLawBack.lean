/-
  tidehalllaw01.PosBack returns true, whatever it is handed; nothing that lay before is turned.
-/
import Derived.Test.YtfpemgaabbcbiaaLawNames
namespace Go.Proofs.Ytfpemgaabbcbiaa
open Go.RowKit Go.Shelf

attribute [local go_sem] Oper.semAt_some ext_const eq_arr

set_option maxRecDepth 100000 in
set_option maxHeartbeats 1000000 in
theorem back_bad {d0 d1 d2 : Int} (p0 p1 p2 m : Int) (w : World) (hm : ¬ mayD d0 d1 d2) :
    Calls Try.prog 6 #[A3 d0 d1 d2, A3 p0 p1 p2, I m] w fun e W' => e = .returned (.bool true) ∧ Below w.heap.size w W' := by
  go_enter Try.func6, Try.ntmps6
  go_wp2_with fail
  obtain ⟨W, hW, hB0, b0, b1⟩ := two_start w #[I d0, I d1, I d2] #[I p0, I p1, I p2] 26 25
  rw [hW]
  clear hW
  refine (many_no _ hm).mono ?_
  rintro e w1 ⟨rfl, hB1⟩
  go_wp2_with fail
  refine (alive_calls _).mono ?_
  rintro e w2 ⟨rfl, hB2⟩
  have hT := then_below hB1 hB2
  obtain ⟨c0, c1, c2, hz⟩ := b0.three hT
  go_wp2_with fail
  refine (check_no _ hm).mono ?_
  rintro e w3 ⟨rfl, hB3⟩
  go_wp2
  go_ret
  exact ⟨rfl, then_below hB0 (then_below hT hB3)⟩

set_option maxRecDepth 100000 in
set_option maxHeartbeats 2000000 in
theorem back_in_node {d0 d1 d2 p0 p1 p2 m : Int} (w : World) (hm : mayD d0 d1 d2) (hp : inD d0 d1 d2 p0 p1 p2) (hn : 0 ≤ m ∧ m < d0 * d1 * d2) :
    Calls Try.prog 6 #[A3 d0 d1 d2, A3 p0 p1 p2, I m] w fun e W' => e = .returned (.bool true) ∧ Below w.heap.size w W' := by
  obtain ⟨hi, hx, hy, hz'⟩ := node_of_in hm hp
  have HI : Hid (0 ≤ numD d0 d1 p0 p1 p2 ∧ numD d0 d1 p0 p1 p2 < d0 * d1 * d2) := hi
  obtain ⟨hi1, hi2⟩ := hi
  have hof := fun w => of_yes w hm HI.out
  rw [hx, hy, hz'] at hof
  have HOF : Hid (∀ w : World, Calls Try.prog 18 #[A3 d0 d1 d2, I (numD d0 d1 p0 p1 p2)] w fun x W' => x = .returned (.tuple #[A3 p0 p1 p2, I 0]) ∧ Below w.heap.size w W') := hof
  clear hof hx hy hz'
  have HN : Hid (0 ≤ m ∧ m < d0 * d1 * d2) := hn
  obtain ⟨hn1, hn2⟩ := hn
  have hb := inD_of_node hm HN.out
  have HM : Hid (numD d0 d1 (cx d0 m) (cy d0 d1 m) (cz d0 d1 m) = m) := num_of_node
  go_enter Try.func6, Try.ntmps6
  go_wp2_with fail
  obtain ⟨W, hW, hB0, b0, b1⟩ := two_start w #[I d0, I d1, I d2] #[I p0, I p1, I p2] 26 25
  rw [hW]
  clear hW
  refine (many_yes _ hm).mono ?_
  rintro e w1 ⟨rfl, hT⟩
  obtain ⟨c0, c1, c2, hz⟩ := b0.three hT
  obtain ⟨k0, k1, k2, hz1⟩ := b1.three hT
  go_wp2_with fail
  refine (at_yes _ hm hp).mono ?_
  rintro e w2 ⟨rfl, hB2⟩
  have hT := then_below hT hB2
  clear hB2 c0 c1 c2 k0 k1 k2 hz hz1
  obtain ⟨c0, c1, c2, hz⟩ := b0.three hT
  go_wp2_with fail
  refine (HOF.out _).mono ?_
  rintro e w3 ⟨rfl, hB3⟩
  have hT := then_below hT hB3
  clear hB3 c0 c1 c2 hz
  obtain ⟨c0, c1, c2, hz⟩ := b0.three hT
  obtain ⟨k0, k1, k2, hz1⟩ := b1.three hT
  go_wp2_with fail
  have hT := then_alloc hT (.cells #[I p0, I p1, I p2] 25)
  clear c0 c1 c2 k0 k1 k2 hz hz1
  refine (of_yes _ hm HN.out).mono ?_
  rintro e w4 ⟨rfl, hB4⟩
  have hT := then_below hT hB4
  clear hB4
  have hT' := then_alloc hT (.cells #[I (cx d0 m), I (cy d0 d1 m), I (cz d0 d1 m)] 25)
  obtain ⟨c0, c1, c2, hz⟩ := b0.three hT
  go_wp2_with fail
  refine (at_yes _ hm hb).mono ?_
  rintro e w5 ⟨rfl, hB5⟩
  rw [HM.out]
  have hT := then_below hT' hB5
  clear hB5 hT' c0 c1 c2 hz
  go_wp2_with fail
  refine (alive_calls _).mono ?_
  rintro e w6 ⟨rfl, hB6⟩
  go_wp2
  go_ret
  exact ⟨rfl, then_below hB0 (then_below hT hB6)⟩

set_option maxRecDepth 100000 in
set_option maxHeartbeats 2000000 in
theorem back_in_none {d0 d1 d2 p0 p1 p2 m : Int} (w : World) (hm : mayD d0 d1 d2) (hp : inD d0 d1 d2 p0 p1 p2) (hn : ¬ (0 ≤ m ∧ m < d0 * d1 * d2)) :
    Calls Try.prog 6 #[A3 d0 d1 d2, A3 p0 p1 p2, I m] w fun e W' => e = .returned (.bool true) ∧ Below w.heap.size w W' := by
  obtain ⟨hi, hx, hy, hz'⟩ := node_of_in hm hp
  have HI : Hid (0 ≤ numD d0 d1 p0 p1 p2 ∧ numD d0 d1 p0 p1 p2 < d0 * d1 * d2) := hi
  obtain ⟨hi1, hi2⟩ := hi
  have hof := fun w => of_yes w hm HI.out
  rw [hx, hy, hz'] at hof
  have HOF : Hid (∀ w : World, Calls Try.prog 18 #[A3 d0 d1 d2, I (numD d0 d1 p0 p1 p2)] w fun x W' => x = .returned (.tuple #[A3 p0 p1 p2, I 0]) ∧ Below w.heap.size w W') := hof
  clear hof hx hy hz'
  have HN : Hid (¬ (0 ≤ m ∧ m < d0 * d1 * d2)) := hn
  have hb : inD d0 d1 d2 0 0 0 := by unfold mayD okD at hm; unfold inD; omega
  by_cases hn1 : 0 ≤ m
  all_goals have hn2 : 0 ≤ m → ¬ m < d0 * d1 * d2 := fun h k => hn ⟨h, k⟩
  all_goals clear hn
  · have hn2 := hn2 hn1
    go_enter Try.func6, Try.ntmps6
    go_wp2_with fail
    obtain ⟨W, hW, hB0, b0, b1⟩ := two_start w #[I d0, I d1, I d2] #[I p0, I p1, I p2] 26 25
    rw [hW]
    clear hW
    refine (many_yes _ hm).mono ?_
    rintro e w1 ⟨rfl, hT⟩
    obtain ⟨c0, c1, c2, hz⟩ := b0.three hT
    obtain ⟨k0, k1, k2, hz1⟩ := b1.three hT
    go_wp2_with fail
    refine (at_yes _ hm hp).mono ?_
    rintro e w2 ⟨rfl, hB2⟩
    have hT := then_below hT hB2
    clear hB2 c0 c1 c2 k0 k1 k2 hz hz1
    obtain ⟨c0, c1, c2, hz⟩ := b0.three hT
    go_wp2_with fail
    refine (HOF.out _).mono ?_
    rintro e w3 ⟨rfl, hB3⟩
    have hT := then_below hT hB3
    clear hB3 c0 c1 c2 hz
    obtain ⟨c0, c1, c2, hz⟩ := b0.three hT
    obtain ⟨k0, k1, k2, hz1⟩ := b1.three hT
    go_wp2_with fail
    have hT := then_alloc hT (.cells #[I p0, I p1, I p2] 25)
    clear c0 c1 c2 k0 k1 k2 hz hz1
    refine (of_no _ hm HN.out).mono ?_
    rintro e w4 ⟨rfl, hB4⟩
    have hT := then_below hT hB4
    clear hB4
    have hT' := then_alloc hT (.cells #[I 0, I 0, I 0] 25)
    obtain ⟨c0, c1, c2, hz⟩ := b0.three hT
    go_wp2_with fail
    refine (at_yes (p0 := 0) (p1 := 0) (p2 := 0) _ hm hb).mono ?_
    rintro e w5 ⟨rfl, hB5⟩
    have hT := then_below hT' hB5
    clear hB5 hT' c0 c1 c2 hz
    go_wp2_with fail
    refine (alive_calls _).mono ?_
    rintro e w6 ⟨rfl, hB6⟩
    go_wp2
    go_ret
    exact ⟨rfl, then_below hB0 (then_below hT hB6)⟩
  · clear hn2
    go_enter Try.func6, Try.ntmps6
    go_wp2_with fail
    obtain ⟨W, hW, hB0, b0, b1⟩ := two_start w #[I d0, I d1, I d2] #[I p0, I p1, I p2] 26 25
    rw [hW]
    clear hW
    refine (many_yes _ hm).mono ?_
    rintro e w1 ⟨rfl, hT⟩
    obtain ⟨c0, c1, c2, hz⟩ := b0.three hT
    obtain ⟨k0, k1, k2, hz1⟩ := b1.three hT
    go_wp2_with fail
    refine (at_yes _ hm hp).mono ?_
    rintro e w2 ⟨rfl, hB2⟩
    have hT := then_below hT hB2
    clear hB2 c0 c1 c2 k0 k1 k2 hz hz1
    obtain ⟨c0, c1, c2, hz⟩ := b0.three hT
    go_wp2_with fail
    refine (HOF.out _).mono ?_
    rintro e w3 ⟨rfl, hB3⟩
    have hT := then_below hT hB3
    clear hB3 c0 c1 c2 hz
    obtain ⟨c0, c1, c2, hz⟩ := b0.three hT
    obtain ⟨k0, k1, k2, hz1⟩ := b1.three hT
    go_wp2_with fail
    have hT := then_alloc hT (.cells #[I p0, I p1, I p2] 25)
    clear c0 c1 c2 k0 k1 k2 hz hz1
    refine (of_no _ hm HN.out).mono ?_
    rintro e w4 ⟨rfl, hB4⟩
    have hT := then_below hT hB4
    clear hB4
    have hT' := then_alloc hT (.cells #[I 0, I 0, I 0] 25)
    obtain ⟨c0, c1, c2, hz⟩ := b0.three hT
    go_wp2_with fail
    refine (at_yes (p0 := 0) (p1 := 0) (p2 := 0) _ hm hb).mono ?_
    rintro e w5 ⟨rfl, hB5⟩
    have hT := then_below hT' hB5
    clear hB5 hT' c0 c1 c2 hz
    go_wp2_with fail
    refine (alive_calls _).mono ?_
    rintro e w6 ⟨rfl, hB6⟩
    go_wp2
    go_ret
    exact ⟨rfl, then_below hB0 (then_below hT hB6)⟩

set_option maxRecDepth 100000 in
set_option maxHeartbeats 2000000 in
theorem back_out_node {d0 d1 d2 p0 p1 p2 m : Int} (w : World) (hm : mayD d0 d1 d2) (hp : ¬ inD d0 d1 d2 p0 p1 p2) (hn : 0 ≤ m ∧ m < d0 * d1 * d2) :
    Calls Try.prog 6 #[A3 d0 d1 d2, A3 p0 p1 p2, I m] w fun e W' => e = .returned (.bool true) ∧ Below w.heap.size w W' := by
  have HN : Hid (0 ≤ m ∧ m < d0 * d1 * d2) := hn
  obtain ⟨hn1, hn2⟩ := hn
  have hb := inD_of_node hm HN.out
  have HM : Hid (numD d0 d1 (cx d0 m) (cy d0 d1 m) (cz d0 d1 m) = m) := num_of_node
  go_enter Try.func6, Try.ntmps6
  go_wp2_with fail
  obtain ⟨W, hW, hB0, b0, b1⟩ := two_start w #[I d0, I d1, I d2] #[I p0, I p1, I p2] 26 25
  rw [hW]
  clear hW
  refine (many_yes _ hm).mono ?_
  rintro e w1 ⟨rfl, hT⟩
  obtain ⟨c0, c1, c2, hz⟩ := b0.three hT
  obtain ⟨k0, k1, k2, hz1⟩ := b1.three hT
  go_wp2_with fail
  refine (at_no _ hm hp).mono ?_
  rintro e w2 ⟨rfl, hB2⟩
  have hT := then_below hT hB2
  clear hB2 c0 c1 c2 k0 k1 k2 hz hz1
  obtain ⟨c0, c1, c2, hz⟩ := b0.three hT
  go_wp2_with fail
  clear c0 c1 c2 hz
  refine (of_yes _ hm HN.out).mono ?_
  rintro e w4 ⟨rfl, hB4⟩
  have hT := then_below hT hB4
  clear hB4
  have hT' := then_alloc hT (.cells #[I (cx d0 m), I (cy d0 d1 m), I (cz d0 d1 m)] 25)
  obtain ⟨c0, c1, c2, hz⟩ := b0.three hT
  go_wp2_with fail
  refine (at_yes _ hm hb).mono ?_
  rintro e w5 ⟨rfl, hB5⟩
  rw [HM.out]
  have hT := then_below hT' hB5
  clear hB5 hT' c0 c1 c2 hz
  go_wp2_with fail
  refine (alive_calls _).mono ?_
  rintro e w6 ⟨rfl, hB6⟩
  go_wp2
  go_ret
  exact ⟨rfl, then_below hB0 (then_below hT hB6)⟩

set_option maxRecDepth 100000 in
set_option maxHeartbeats 2000000 in
theorem back_out_none {d0 d1 d2 p0 p1 p2 m : Int} (w : World) (hm : mayD d0 d1 d2) (hp : ¬ inD d0 d1 d2 p0 p1 p2) (hn : ¬ (0 ≤ m ∧ m < d0 * d1 * d2)) :
    Calls Try.prog 6 #[A3 d0 d1 d2, A3 p0 p1 p2, I m] w fun e W' => e = .returned (.bool true) ∧ Below w.heap.size w W' := by
  have HN : Hid (¬ (0 ≤ m ∧ m < d0 * d1 * d2)) := hn
  have hb : inD d0 d1 d2 0 0 0 := by unfold mayD okD at hm; unfold inD; omega
  by_cases hn1 : 0 ≤ m
  all_goals have hn2 : 0 ≤ m → ¬ m < d0 * d1 * d2 := fun h k => hn ⟨h, k⟩
  all_goals clear hn
  · have hn2 := hn2 hn1
    go_enter Try.func6, Try.ntmps6
    go_wp2_with fail
    obtain ⟨W, hW, hB0, b0, b1⟩ := two_start w #[I d0, I d1, I d2] #[I p0, I p1, I p2] 26 25
    rw [hW]
    clear hW
    refine (many_yes _ hm).mono ?_
    rintro e w1 ⟨rfl, hT⟩
    obtain ⟨c0, c1, c2, hz⟩ := b0.three hT
    obtain ⟨k0, k1, k2, hz1⟩ := b1.three hT
    go_wp2_with fail
    refine (at_no _ hm hp).mono ?_
    rintro e w2 ⟨rfl, hB2⟩
    have hT := then_below hT hB2
    clear hB2 c0 c1 c2 k0 k1 k2 hz hz1
    obtain ⟨c0, c1, c2, hz⟩ := b0.three hT
    go_wp2_with fail
    clear c0 c1 c2 hz
    refine (of_no _ hm HN.out).mono ?_
    rintro e w4 ⟨rfl, hB4⟩
    have hT := then_below hT hB4
    clear hB4
    have hT' := then_alloc hT (.cells #[I 0, I 0, I 0] 25)
    obtain ⟨c0, c1, c2, hz⟩ := b0.three hT
    go_wp2_with fail
    refine (at_yes (p0 := 0) (p1 := 0) (p2 := 0) _ hm hb).mono ?_
    rintro e w5 ⟨rfl, hB5⟩
    have hT := then_below hT' hB5
    clear hB5 hT' c0 c1 c2 hz
    go_wp2_with fail
    refine (alive_calls _).mono ?_
    rintro e w6 ⟨rfl, hB6⟩
    go_wp2
    go_ret
    exact ⟨rfl, then_below hB0 (then_below hT hB6)⟩
  · clear hn2
    go_enter Try.func6, Try.ntmps6
    go_wp2_with fail
    obtain ⟨W, hW, hB0, b0, b1⟩ := two_start w #[I d0, I d1, I d2] #[I p0, I p1, I p2] 26 25
    rw [hW]
    clear hW
    refine (many_yes _ hm).mono ?_
    rintro e w1 ⟨rfl, hT⟩
    obtain ⟨c0, c1, c2, hz⟩ := b0.three hT
    obtain ⟨k0, k1, k2, hz1⟩ := b1.three hT
    go_wp2_with fail
    refine (at_no _ hm hp).mono ?_
    rintro e w2 ⟨rfl, hB2⟩
    have hT := then_below hT hB2
    clear hB2 c0 c1 c2 k0 k1 k2 hz hz1
    obtain ⟨c0, c1, c2, hz⟩ := b0.three hT
    go_wp2_with fail
    clear c0 c1 c2 hz
    refine (of_no _ hm HN.out).mono ?_
    rintro e w4 ⟨rfl, hB4⟩
    have hT := then_below hT hB4
    clear hB4
    have hT' := then_alloc hT (.cells #[I 0, I 0, I 0] 25)
    obtain ⟨c0, c1, c2, hz⟩ := b0.three hT
    go_wp2_with fail
    refine (at_yes (p0 := 0) (p1 := 0) (p2 := 0) _ hm hb).mono ?_
    rintro e w5 ⟨rfl, hB5⟩
    have hT := then_below hT' hB5
    clear hB5 hT' c0 c1 c2 hz
    go_wp2_with fail
    refine (alive_calls _).mono ?_
    rintro e w6 ⟨rfl, hB6⟩
    go_wp2
    go_ret
    exact ⟨rfl, then_below hB0 (then_below hT hB6)⟩

theorem posBack_walk (d0 d1 d2 p0 p1 p2 m : Int) (w : World) :
    Calls Try.prog 6 #[A3 d0 d1 d2, A3 p0 p1 p2, I m] w fun e W' => e = .returned (.bool true) ∧ Below w.heap.size w W' := by
  by_cases hm : mayD d0 d1 d2
  · by_cases hp : inD d0 d1 d2 p0 p1 p2
    · by_cases hn : 0 ≤ m ∧ m < d0 * d1 * d2
      · exact back_in_node w hm hp hn
      · exact back_in_none w hm hp hn
    · by_cases hn : 0 ≤ m ∧ m < d0 * d1 * d2
      · exact back_out_node w hm hp hn
      · exact back_out_none w hm hp hn
  · exact back_bad p0 p1 p2 m w hm

end Go.Proofs.Ytfpemgaabbcbiaa
