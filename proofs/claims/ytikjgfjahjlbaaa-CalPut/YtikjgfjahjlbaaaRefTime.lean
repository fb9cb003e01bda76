/-
  The document's answers of layer 7 (tidehallref07): what each call answers.
-/
import Derived.Test.YtikjgfjahjlbaaaTimeAsk
namespace Go.Proofs.Ytikjgfjahjlbaaa
open Go.RowKit Go.Shelf

attribute [local go_sem] Oper.semAt_some ext_const

theorem rmayS_calls (f t : Int) (w : World) : Calls Try.prog 43 #[S2 f t] w fun e W' => e = .returned (.bool (maySpB f t)) ∧ Below w.heap.size w W' := by
  have hB : Below w.heap.size w (w.alloc (.cells (C2 f t) 34)) := (Below.refl _ w).alloc (Nat.le_refl _) _
  unfold maySpB
  by_cases h1 : 0 ≤ f
  · by_cases h2 : f < t
    · by_cases h3 : t ≤ 1099511627776
      · rw [decide_eq_true h1, decide_eq_true h2, decide_eq_true h3]
        go_enter Try.func43, Try.ntmps43
        go_wp2
        go_ret
        exact ⟨rfl, hB⟩
      · have h3 : decide (t ≤ 1099511627776) = false := decide_eq_false h3
        rw [decide_eq_true h1, decide_eq_true h2, h3]
        go_enter Try.func43, Try.ntmps43
        go_wp2
        go_ret
        exact ⟨rfl, hB⟩
    · have h2 : decide (f < t) = false := decide_eq_false h2
      rw [decide_eq_true h1, h2]
      go_enter Try.func43, Try.ntmps43
      go_wp2
      go_ret
      exact ⟨rfl, hB⟩
  · have h1 : decide (0 ≤ f) = false := decide_eq_false h1
    rw [h1]
    go_enter Try.func43, Try.ntmps43
    go_wp2
    go_ret
    exact ⟨rfl, hB⟩

theorem rinT_calls (f t a : Int) (w : World) : Calls Try.prog 44 #[S2 f t, I a] w fun e W' => e = .returned (.bool (inT f t a)) ∧ Below w.heap.size w W' := by
  have hB : Below w.heap.size w (w.alloc (.cells (C2 f t) 34)) := (Below.refl _ w).alloc (Nat.le_refl _) _
  unfold inT
  by_cases h1 : f ≤ a
  · by_cases h2 : a < t
    · rw [decide_eq_true h1, decide_eq_true h2]
      go_enter Try.func44, Try.ntmps44
      go_wp2
      go_ret
      exact ⟨rfl, hB⟩
    · have h2 : decide (a < t) = false := decide_eq_false h2
      rw [decide_eq_true h1, h2]
      go_enter Try.func44, Try.ntmps44
      go_wp2
      go_ret
      exact ⟨rfl, hB⟩
  · have h1 : decide (f ≤ a) = false := decide_eq_false h1
    rw [h1]
    go_enter Try.func44, Try.ntmps44
    go_wp2
    go_ret
    exact ⟨rfl, hB⟩

end Go.Proofs.Ytikjgfjahjlbaaa
