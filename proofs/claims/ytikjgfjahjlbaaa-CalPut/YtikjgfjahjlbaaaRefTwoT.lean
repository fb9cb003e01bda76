/-
  The document's answers of layer 7 about two spans (tidehallref07.Meets, Meet, Within, Both): what each call answers.
-/
import Derived.Test.YtikjgfjahjlbaaaRefTime
namespace Go.Proofs.Ytikjgfjahjlbaaa
open Go.RowKit Go.Shelf

attribute [local go_sem] Oper.semAt_some ext_const

theorem rmeetsT_calls (f t f' t' : Int) (w : World) : Calls Try.prog 50 #[S2 f t, S2 f' t'] w fun e W' => e = .returned (.bool (meetsT f t f' t')) ∧ Below w.heap.size w W' := by
  have HA : Hid (∀ w, Calls Try.prog 44 #[S2 f t, I f'] w fun e W' => e = .returned (.bool (inT f t f')) ∧ Below w.heap.size w W') := rinT_calls f t f'
  have HB : Hid (∀ w, Calls Try.prog 44 #[S2 f' t', I f] w fun e W' => e = .returned (.bool (inT f' t' f)) ∧ Below w.heap.size w W') := rinT_calls f' t' f
  unfold meetsT
  generalize inT f t f' = p at *
  generalize inT f' t' f = q at *
  cases p
  · rw [Bool.false_or]
    go_enter Try.func50, Try.ntmps50
    go_wp2_with fail
    obtain ⟨W, hW, hB0, b0, b1⟩ := two_start w (C2 f t) (C2 f' t') 34 34
    rw [hW]
    clear hW
    refine (HA.out _).mono ?_
    rintro e w1 ⟨rfl, hT⟩
    obtain ⟨⟨c0, c1, hz0⟩, c2, c3, hz1⟩ := two_pairs b0 b1 hT
    go_wp2_with fail
    refine (HB.out _).mono ?_
    rintro e w2 ⟨rfl, hB2⟩
    go_wp2
    go_ret
    exact ⟨rfl, then_below hB0 (then_below hT hB2)⟩
  · rw [Bool.true_or]
    go_enter Try.func50, Try.ntmps50
    go_wp2_with fail
    obtain ⟨W, hW, hB0, b0, b1⟩ := two_start w (C2 f t) (C2 f' t') 34 34
    rw [hW]
    clear hW
    refine (HA.out _).mono ?_
    rintro e w1 ⟨rfl, hT⟩
    go_wp2
    go_ret
    exact ⟨rfl, then_below hB0 hT⟩

theorem may_yes {f t : Int} (h : maySp f t) (w : World) : Calls Try.prog 43 #[S2 f t] w fun e W' => e = .returned (.bool true) ∧ Below w.heap.size w W' := by
  rw [← (maySpB_iff f t).2 h]; exact rmayS_calls f t w
theorem may_no {f t : Int} (h : ¬ maySp f t) (w : World) : Calls Try.prog 43 #[S2 f t] w fun e W' => e = .returned (.bool false) ∧ Below w.heap.size w W' := by
  have hs : maySpB f t = false := by rw [Bool.eq_false_iff, ne_eq, maySpB_iff]; exact h
  rw [← hs]; exact rmayS_calls f t w

end Go.Proofs.Ytikjgfjahjlbaaa
