/-
  The statement TurnFits, walked.
-/
import Derived.Test.YtanhhlekbdhfmaaDoorLawTurn
namespace Go.Proofs.YtanhhlekbdhfmaaDoor
open Go Go.RowKit Go.Shelf

attribute [local go_sem] Oper.semAt_some ext_const eq_ints_at eq_bools_at
attribute [local go_sem high] eq_wants

set_option maxRecDepth 100000 in
set_option maxHeartbeats 8000000 in
theorem tf_off {d0 d1 d2 x y z : Int} {p q r t : Bool} (a b : Int) (w : World) (hO : OrdOk w) (h : ¬ (mayD d0 d1 d2 ∧ mayD x y z)) :
    Calls Tryd.prog 6 #[A3 d0 d1 d2, V7 x y z p q r t, .int .u8 a, .int .u8 b] w fun e W' => e = .returned (.bool true) ∧ Below w.heap.size w W' := by
  have HO : Hid (OrdOk w) := hO
  clear hO
  have F1 := fun (w : World) => fits_no (p := p) (q := q) (r := r) (t := t) w h
  clear h
  obtain ⟨W, hW, hBW, b0, b1⟩ := two_start w #[I d0, I d1, I d2] (cells7 x y z p q r t) 33 29
  have HW : Hid ((w.alloc (.cells #[I d0, I d1, I d2] 33)).alloc (.cells (cells7 x y z p q r t) 29) = W) := hW
  clear hW
  go_enter Tryd.func6, Tryd.ntmps6
  go_wp2_with fail
  rw [HW.out]
  refine (talive_calls _ (HO.out.later hBW)).mono ?_
  rintro e w1 ⟨rfl, hT⟩
  obtain ⟨s0, s1, s2, s3, s4, s5, s6⟩ := (b1.later hT).seven
  obtain ⟨g0, g1, g2, gl⟩ := b0.threeB hT
  go_wp2_with fail
  refine (F1 _).mono ?_
  rintro e w2 ⟨rfl, hB⟩
  go_wp2
  go_ret
  exact ⟨rfl, then_below (then_below hBW hT) hB⟩

end Go.Proofs.YtanhhlekbdhfmaaDoor
