/-
  The statement TurnNames, walked.
-/
import Derived.Test.YtanhhlekbdhfmaaDoorLawTurn
namespace Go.Proofs.YtanhhlekbdhfmaaDoor
open Go Go.RowKit Go.Shelf

attribute [local go_sem] Oper.semAt_some ext_const eq_ints_at eq_bools_at
attribute [local go_sem high] eq_wants

set_option maxRecDepth 100000 in
set_option maxHeartbeats 4000000 in
theorem turnNames_walk (w : World) (hO : OrdOk w) : Calls Tryd.prog 3 #[] w fun e W' => e = .returned (.bool true) ∧ Below w.heap.size w W' := by
  have HO : Hid (OrdOk w) := hO
  clear hO
  have A1 := fun (w : World) (hO : OrdOk w) => all_yes (p := false) (q := false) (r := false) (t := true) w hO may222
  have A2 := fun (w : World) (hO : OrdOk w) => all_yes (p := false) (q := false) (r := false) (t := false) w hO may123
  have F1 := fun (w : World) (hO : OrdOk w) => fits_yes (p := false) (q := false) (r := false) (t := true) w hO may321 may123
  have F2 := fun (w : World) (hO : OrdOk w) => fits_yes (p := false) (q := false) (r := false) (t := false) w hO may321 may123
  rw [fits321] at F1
  rw [fits321'] at F2
  have C1 := fun (w : World) => tcheck_no (p := false) (q := false) (r := false) (t := false) w no000
  have L1 : Hid ((turnsT (2, 2, 2, false, false, false, true)).length = 1) := len222
  have L2 : Hid ((turnsT (1, 2, 3, false, false, false, false)).length = 1) := len123'
  generalize turnsT (2, 2, 2, false, false, false, true) = l1 at A1 L1
  generalize turnsT (1, 2, 3, false, false, false, false) = l2 at A2 L2
  go_enter Tryd.func3, Tryd.ntmps3
  go_wp2_with fail
  refine (shaped_calls 2 2 2 true _).mono ?_
  rintro e w1 ⟨rfl, hT⟩
  go_wp2_with fail
  refine (A1 _ (HO.out.later hT)).mono ?_
  rintro e w2 ⟨v1, rfl, hL1, hB⟩
  have hT := then_below hT hB
  obtain ⟨ao1, cap1, rfl, _⟩ := hL1.view
  rw [L1.out]
  clear hL1 hB A1
  go_wp2_with fail
  refine (shaped_calls 1 2 3 false _).mono ?_
  rintro e w3 ⟨rfl, hB⟩
  have hT := then_below hT hB
  clear hB
  go_wp2_with fail
  refine (A2 _ (HO.out.later hT)).mono ?_
  rintro e w4 ⟨v2, rfl, hL2, hB⟩
  have hT := then_below hT hB
  obtain ⟨ao2, cap2, rfl, _⟩ := hL2.view
  rw [L2.out]
  clear hL2 hB A2
  go_wp2_with fail
  refine (shaped_calls 1 2 3 true _).mono ?_
  rintro e w5 ⟨rfl, hB⟩
  have hT := then_below hT hB
  clear hB
  go_wp2_with fail
  refine (F1 _ (HO.out.later hT)).mono ?_
  rintro e w6 ⟨rfl, hB⟩
  have hT := then_below hT hB
  clear hB F1
  go_wp2_with fail
  refine (shaped_calls 1 2 3 false _).mono ?_
  rintro e w7 ⟨rfl, hB⟩
  have hT := then_below hT hB
  clear hB
  go_wp2_with fail
  refine (F2 _ (HO.out.later hT)).mono ?_
  rintro e w8 ⟨rfl, hB⟩
  have hT := then_below hT hB
  clear hB F2
  go_wp2_with fail
  refine (talive_calls _ (HO.out.later hT)).mono ?_
  rintro e w9 ⟨rfl, hB⟩
  have hT := then_below hT hB
  clear hB
  go_wp2_with fail
  refine (C1 _).mono ?_
  rintro e w10 ⟨rfl, hB⟩
  have hT := then_below hT hB
  clear hB
  go_wp2
  go_ret
  exact ⟨rfl, hT⟩

end Go.Proofs.YtanhhlekbdhfmaaDoor
