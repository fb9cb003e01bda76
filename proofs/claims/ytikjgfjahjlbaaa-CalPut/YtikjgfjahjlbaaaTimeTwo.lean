/-
  time.Meet, time.Within, time.Both: what each call answers.
-/
import Derived.Test.YtikjgfjahjlbaaaTimeAsk
namespace Go.Proofs.Ytikjgfjahjlbaaa
open Go.RowKit Go.Shelf

attribute [local go_sem] Oper.semAt_some ext_const

theorem tmeet_no {f t f' t' : Int} (w : World) (h : ¬ (maySp f t ∧ maySp f' t')) : Calls Try.prog 48 #[S2 f t, S2 f' t'] w fun e W' => e = .returned (.tuple #[.bool false, I 2]) ∧ Below w.heap.size w W' := by
  have H : Hid (∀ g w, Calls Try.prog 53 #[S2 f t, S2 f' t', g] w fun e W' => e = .returned (.tuple #[.bool false, I 2]) ∧ Below w.heap.size w W') := fun g w => ask_no g w h
  clear h
  go_enter Try.func48, Try.ntmps48
  go_wp2_with fail
  obtain ⟨W, hW, hB0, b0, b1⟩ := two_start w (C2 f t) (C2 f' t') 34 34
  rw [hW]
  clear hW
  refine (H.out _ _).mono ?_
  rintro e w1 ⟨rfl, hT⟩
  go_wp2
  go_ret2
  exact ⟨rfl, then_below hB0 hT⟩

theorem tmeet_yes {f t f' t' : Int} (w : World) (h : maySp f t) (h' : maySp f' t') : Calls Try.prog 48 #[S2 f t, S2 f' t'] w fun e W' => e = .returned (.tuple #[.bool (meetsT f t f' t'), I 0]) ∧ Below w.heap.size w W' := by
  have H : Hid (∀ w, Calls Try.prog 53 #[S2 f t, S2 f' t', .func (.func 54) #[] #[]] w fun e W' => e = .returned (.tuple #[.bool (meetsT f t f' t'), I 0]) ∧ Below w.heap.size w W') := fun w => ask_meet w h h'
  clear h h'
  generalize meetsT f t f' t' = r at *
  go_enter Try.func48, Try.ntmps48
  go_wp2_with fail
  obtain ⟨W, hW, hB0, b0, b1⟩ := two_start w (C2 f t) (C2 f' t') 34 34
  rw [hW]
  clear hW
  refine (H.out _).mono ?_
  rintro e w1 ⟨rfl, hT⟩
  go_wp2
  go_ret2
  exact ⟨rfl, then_below hB0 hT⟩

end Go.Proofs.Ytikjgfjahjlbaaa
