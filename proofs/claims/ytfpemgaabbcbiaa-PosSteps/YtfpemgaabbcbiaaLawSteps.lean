/-
  tidehalllaw01.PosSteps returns true, whatever it is handed; nothing that lay before is turned.
-/
import Derived.Test.YtfpemgaabbcbiaaRefFar
import Derived.Test.YtfpemgaabbcbiaaLawTells
namespace Go.Proofs.Ytfpemgaabbcbiaa
open Go.RowKit Go.Shelf

attribute [local go_sem] Oper.semAt_some ext_const eq_arr

theorem axis_of {ax : Int} (h : 0 ≤ ax ∧ ax < 3) : ∃ k : Fin 3, ax = axI k := by
  have h : ax = 0 ∨ ax = 1 ∨ ax = 2 := by omega
  rcases h with h | h | h
  · exact ⟨0, h⟩
  · exact ⟨1, h⟩
  · exact ⟨2, h⟩

theorem both_step (d0 d1 d2 m axis by_ : Int) : ∃ n e, 0 ≤ e ∧ e ≤ 8 ∧ Both 9 21 #[A3 d0 d1 d2, I m, I axis, I by_] (.tuple #[I n, I e]) := by
  by_cases hm : mayD d0 d1 d2
  · by_cases hn : 0 ≤ m ∧ m < d0 * d1 * d2
    · by_cases ha : 0 ≤ axis ∧ axis < 3
      · obtain ⟨k, hk⟩ := axis_of ha
        exact ⟨_, 0, by omega, by omega, fun w => by subst hk; exact step_yes w hm hn k, fun w => rstep_yes w hm hn ha hk⟩
      · exact ⟨0, 2, by omega, by omega, fun w => step_axis w hm hn ha, fun w => rstep_no by_ w hm (fun h => ha h.2)⟩
    · exact ⟨0, 2, by omega, by omega, fun w => step_err m axis by_ 2 w (by decide) (fun w => of_no w hm hn), fun w => rstep_no by_ w hm (fun h => hn h.1)⟩
  · exact ⟨0, 8, by omega, by omega, fun w => step_err m axis by_ 8 w (by decide) (fun w => of_bad m w hm), fun w => rstep_bad m axis by_ w hm⟩

theorem both_far (d0 d1 d2 a b : Int) : ∃ n e, 0 ≤ e ∧ e ≤ 8 ∧ Both 11 22 #[A3 d0 d1 d2, I a, I b] (.tuple #[I n, I e]) := by
  by_cases hm : mayD d0 d1 d2
  · by_cases ha : 0 ≤ a ∧ a < d0 * d1 * d2
    · by_cases hb : 0 ≤ b ∧ b < d0 * d1 * d2
      · exact ⟨_, 0, by omega, by omega, fun w => far_yes w hm ha hb, fun w => rfar_yes w hm ha hb⟩
      · exact ⟨0, 2, by omega, by omega, fun w => far_no2 w hm ha hb, fun w => rfar_no w hm (fun h => hb h.2)⟩
    · exact ⟨0, 2, by omega, by omega, fun w => far_no1 b w hm ha, fun w => rfar_no w hm (fun h => ha h.1)⟩
  · exact ⟨0, 8, by omega, by omega, fun w => far_bad a b w hm, fun w => rfar_bad a b w hm⟩

set_option maxRecDepth 100000 in
set_option maxHeartbeats 2000000 in
theorem posSteps_walk (d0 d1 d2 m o axis by_ : Int) (w : World) :
    Calls Try.prog 5 #[A3 d0 d1 d2, I m, I o, I axis, I by_] w fun e W' => e = .returned (.bool true) ∧ Below w.heap.size w W' := by
  obtain ⟨n1, e1, l1, g1, HS⟩ := both_step d0 d1 d2 m axis by_
  obtain ⟨n2, e2, l2, g2, HF⟩ := both_far d0 d1 d2 m o
  go_enter Try.func5, Try.ntmps5
  go_wp2_with fail
  have b0 := Blk.new w 26 #[I d0, I d1, I d2]
  have hB0 : Below w.heap.size w (w.alloc (.cells #[I d0, I d1, I d2] 26)) := (Below.refl _ w).alloc (Nat.le_refl _) _
  generalize w.alloc (.cells #[I d0, I d1, I d2] 26) = W at *
  refine (HS.1 _).mono ?_
  rintro e w1 ⟨rfl, hT⟩
  obtain ⟨c0, c1, c2, hz⟩ := b0.three hT
  go_wp2_with fail
  refine (HS.2 _).mono ?_
  rintro e w2 ⟨rfl, hB2⟩
  have hT := then_below hT hB2
  clear hB2 c0 c1 c2 hz
  obtain ⟨c0, c1, c2, hz⟩ := b0.three hT
  go_wp2_with fail
  refine (HF.1 _).mono ?_
  rintro e w3 ⟨rfl, hB3⟩
  have hT := then_below hT hB3
  clear hB3 c0 c1 c2 hz
  obtain ⟨c0, c1, c2, hz⟩ := b0.three hT
  go_wp2_with fail
  refine (HF.2 _).mono ?_
  rintro e w4 ⟨rfl, hB4⟩
  have hT := then_below hT hB4
  go_wp2
  go_ret
  exact ⟨rfl, then_below hB0 hT⟩

end Go.Proofs.Ytfpemgaabbcbiaa
