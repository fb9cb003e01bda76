/-
  time.ask and the two closures that it is handed; time.Meet, time.Within, time.Both: what each call answers.
-/
import Derived.Test.YtikjgfjahjlbaaaTimeMore
namespace Go.Proofs.Ytikjgfjahjlbaaa
open Go.RowKit Go.Shelf

attribute [local go_sem] Oper.semAt_some ext_const

/-- What two spans that may be have in common, by bringing one's ends within the other. -/
theorem br_meets {f t f' t' : Int} (h : maySp f t) (h' : maySp f' t') : maySpB (brX f' f t) (brX t' f t) = meetsT f t f' t' := by
  rw [Bool.eq_iff_iff, maySpB_iff, meetsT_iff h.2.1 h'.2.1]
  unfold maySp at *
  unfold brX
  split <;> split <;> (try split) <;> (try split) <;> omega
def sameS (f t f' t' : Int) : Bool := decide (f = f') && decide (t = t')
theorem sameS_iff {f t f' t' : Int} : sameS f t f' t' = true ↔ f = f' ∧ t = t' := by simp [sameS]
theorem br_within {f t f' t' : Int} (h : maySp f t) (h' : maySp f' t') : sameS (brX f' f t) (brX t' f t) f t = wiT f t f' t' := by
  rw [Bool.eq_iff_iff, sameS_iff, wiT_iff h.2.1]
  unfold maySp at *
  unfold brX
  split <;> split <;> (try split) <;> (try split) <;> omega
theorem br_both {f t f' t' : Int} (h : maySp f t) (h' : maySp f' t') (hm : meetsT f t f' t' = true) : brX f' f t = maxT f f' ∧ brX t' f t = minT t t' := by
  have hm := (meetsT_iff h.2.1 h'.2.1).1 hm
  unfold maySp at *
  unfold brX maxT minT
  constructor <;> split <;> (try split) <;> (try split) <;> omega

/-- The first error of two spans. -/
def errS2 (f t f' t' : Int) : Int := if maySpB f t && maySpB f' t' then 0 else 2

theorem meetc_calls (x y : Int) (w : World) : Calls Try.prog 54 #[S2 x y] w fun e W' => e = .returned (.bool (maySpB x y)) ∧ Below w.heap.size w W' := by
  have hB : Below w.heap.size w (w.alloc (.cells (C2 x y) 34)) := (Below.refl _ w).alloc (Nat.le_refl _) _
  have H : Hid (∀ w, Calls Try.prog 42 #[S2 x y] w fun e W' => e = .returned (I (errS x y)) ∧ Below w.heap.size w W') := tcheck_calls x y
  unfold errS at H
  cases hs : maySpB x y
  all_goals
    rw [hs] at H
    simp only [Bool.false_eq_true, if_false, if_true] at H
    clear hs
    go_enter Try.func54, Try.ntmps54
    go_wp2_with fail
    refine (H.out _).mono ?_
    rintro e w1 ⟨rfl, hB1⟩
    go_wp2
    go_ret
    exact ⟨rfl, then_below hB hB1⟩

/-- What two boxes hold, in worlds that come later. -/
theorem two_pairs {W W' : World} {A B : Nat} {t : TypeId} {a b c d : Int} (h : Blk W A t #[I a, I b]) (h' : Blk W B t #[I c, I d]) (hb : Below W.heap.size W W') :
    (W'.cell? ⟨A, 0, none⟩ = some (I a) ∧ W'.cell? ⟨A, 1, none⟩ = some (I b) ∧ A < W'.heap.size) ∧ W'.cell? ⟨B, 0, none⟩ = some (I c) ∧ W'.cell? ⟨B, 1, none⟩ = some (I d) ∧ B < W'.heap.size := ⟨h.pair hb, h'.pair hb⟩

theorem ask_no {f t f' t' : Int} (g : Value) (w : World) (h : ¬ (maySp f t ∧ maySp f' t')) : Calls Try.prog 53 #[S2 f t, S2 f' t', g] w fun e W' => e = .returned (.tuple #[.bool false, I 2]) ∧ Below w.heap.size w W' := by
  by_cases h1 : maySp f t
  · have HA : Hid (∀ w, Calls Try.prog 42 #[S2 f t] w fun e W' => e = .returned (I 0) ∧ Below w.heap.size w W') := fun w => by rw [← errS_ok h1]; exact tcheck_calls f t w
    have HB : Hid (∀ w, Calls Try.prog 42 #[S2 f' t'] w fun e W' => e = .returned (I 2) ∧ Below w.heap.size w W') := fun w => by rw [← errS_no (fun h2 => h ⟨h1, h2⟩)]; exact tcheck_calls f' t' w
    clear h h1
    go_enter Try.func53, Try.ntmps53
    go_wp2_with fail
    obtain ⟨W, hW, hB0, b0, b1⟩ := two_start w (C2 f t) (C2 f' t') 34 34
    rw [hW]
    clear hW
    refine (HA.out _).mono ?_
    rintro e w1 ⟨rfl, hT⟩
    obtain ⟨⟨c0, c1, hz0⟩, c2, c3, hz1⟩ := two_pairs b0 b1 hT
    go_wp2_with fail
    refine (HB.out _).mono ?_
    rintro e w2 ⟨rfl, hB2⟩
    go_wp2
    go_ret2
    exact ⟨rfl, then_below hB0 (then_below hT hB2)⟩
  · have HA : Hid (∀ w, Calls Try.prog 42 #[S2 f t] w fun e W' => e = .returned (I 2) ∧ Below w.heap.size w W') := fun w => by rw [← errS_no h1]; exact tcheck_calls f t w
    clear h h1
    go_enter Try.func53, Try.ntmps53
    go_wp2_with fail
    obtain ⟨W, hW, hB0, b0, b1⟩ := two_start w (C2 f t) (C2 f' t') 34 34
    rw [hW]
    clear hW
    refine (HA.out _).mono ?_
    rintro e w1 ⟨rfl, hT⟩
    go_wp2
    go_ret2
    exact ⟨rfl, then_below hB0 hT⟩

theorem ask_meet {f t f' t' : Int} (w : World) (h : maySp f t) (h' : maySp f' t') : Calls Try.prog 53 #[S2 f t, S2 f' t', .func (.func 54) #[] #[]] w fun e W' => e = .returned (.tuple #[.bool (meetsT f t f' t'), I 0]) ∧ Below w.heap.size w W' := by
  have HA : Hid (∀ w, Calls Try.prog 42 #[S2 f t] w fun e W' => e = .returned (I 0) ∧ Below w.heap.size w W') := fun w => by rw [← errS_ok h]; exact tcheck_calls f t w
  have HB : Hid (∀ w, Calls Try.prog 42 #[S2 f' t'] w fun e W' => e = .returned (I 0) ∧ Below w.heap.size w W') := fun w => by rw [← errS_ok h']; exact tcheck_calls f' t' w
  have HC : Hid (∀ w, Calls Try.prog 56 #[S2 f t, S2 f' t'] w fun e W' => e = .returned (S2 (brX f' f t) (brX t' f t)) ∧ Below w.heap.size w W') := common_calls f t f' t'
  have HM : Hid (∀ w, Calls Try.prog 54 #[S2 (brX f' f t) (brX t' f t)] w fun e W' => e = .returned (.bool (meetsT f t f' t')) ∧ Below w.heap.size w W') := fun w => by rw [← br_meets h h']; exact meetc_calls _ _ w
  clear h h'
  generalize brX f' f t = x at *
  generalize brX t' f t = y at *
  generalize meetsT f t f' t' = r at *
  go_enter Try.func53, Try.ntmps53
  go_wp2_with fail
  obtain ⟨W, hW, hB0, b0, b1⟩ := two_start w (C2 f t) (C2 f' t') 34 34
  rw [hW]
  clear hW
  refine (HA.out _).mono ?_
  rintro e w1 ⟨rfl, hT⟩
  obtain ⟨⟨c0, c1, hz0⟩, c2, c3, hz1⟩ := two_pairs b0 b1 hT
  go_wp2_with fail
  refine (HB.out _).mono ?_
  rintro e w2 ⟨rfl, hB2⟩
  have hT := then_below hT hB2
  clear hB2 c0 c1 hz0 c2 c3 hz1
  obtain ⟨⟨c0, c1, hz0⟩, c2, c3, hz1⟩ := two_pairs b0 b1 hT
  go_wp2_with fail
  refine (HC.out _).mono ?_
  rintro e w3 ⟨rfl, hB3⟩
  have hT := then_below hT hB3
  clear hB3 c0 c1 hz0 c2 c3 hz1
  go_wp2_with fail
  refine (HM.out _).mono ?_
  rintro e w4 ⟨rfl, hB4⟩
  go_wp2
  go_ret2
  exact ⟨rfl, then_below hB0 (then_below hT hB4)⟩

end Go.Proofs.Ytikjgfjahjlbaaa
