/-
  time.Meet, time.Within, time.Both: what each call answers.
-/
import Derived.Test.YtgmpenjbbhkgoaaTimeAsk
namespace Go.Proofs.Ytgmpenjbbhkgoaa
open Go.RowKit Go.Shelf

attribute [local go_sem] Oper.semAt_some ext_const

theorem tmeet_no {f t f' t' : Int} (w : World) (h : ¬ (maySp f t ∧ maySp f' t')) : Calls Try.prog 16 #[S2 f t, S2 f' t'] w fun e W' => e = .returned (.tuple #[.bool false, I 2]) ∧ Below w.heap.size w W' := by
  have H : Hid (∀ g w, Calls Try.prog 26 #[S2 f t, S2 f' t', g] w fun e W' => e = .returned (.tuple #[.bool false, I 2]) ∧ Below w.heap.size w W') := fun g w => ask_no g w h
  clear h
  go_enter Try.func16, Try.ntmps16
  go_wp2_with fail
  obtain ⟨W, hW, hB0, b0, b1⟩ := two_start w (C2 f t) (C2 f' t') 23 23
  rw [hW]
  clear hW
  refine (H.out _ _).mono ?_
  rintro e w1 ⟨rfl, hT⟩
  go_wp2
  go_ret2
  exact ⟨rfl, then_below hB0 hT⟩

theorem tmeet_yes {f t f' t' : Int} (w : World) (h : maySp f t) (h' : maySp f' t') : Calls Try.prog 16 #[S2 f t, S2 f' t'] w fun e W' => e = .returned (.tuple #[.bool (meetsT f t f' t'), I 0]) ∧ Below w.heap.size w W' := by
  have H : Hid (∀ w, Calls Try.prog 26 #[S2 f t, S2 f' t', .func (.func 27) #[] #[]] w fun e W' => e = .returned (.tuple #[.bool (meetsT f t f' t'), I 0]) ∧ Below w.heap.size w W') := fun w => ask_meet w h h'
  clear h h'
  generalize meetsT f t f' t' = r at *
  go_enter Try.func16, Try.ntmps16
  go_wp2_with fail
  obtain ⟨W, hW, hB0, b0, b1⟩ := two_start w (C2 f t) (C2 f' t') 23 23
  rw [hW]
  clear hW
  refine (H.out _).mono ?_
  rintro e w1 ⟨rfl, hT⟩
  go_wp2
  go_ret2
  exact ⟨rfl, then_below hB0 hT⟩

theorem twithin_no {f t f' t' : Int} (w : World) (h : ¬ (maySp f t ∧ maySp f' t')) : Calls Try.prog 18 #[S2 f t, S2 f' t'] w fun e W' => e = .returned (.tuple #[.bool false, I 2]) ∧ Below w.heap.size w W' := by
  have H : Hid (∀ g w, Calls Try.prog 26 #[S2 f t, S2 f' t', g] w fun e W' => e = .returned (.tuple #[.bool false, I 2]) ∧ Below w.heap.size w W') := fun g w => ask_no g w h
  clear h
  go_enter Try.func18, Try.ntmps18
  go_wp2_with fail
  obtain ⟨W, hW, hB0, b0, b1⟩ := two_start w (C2 f t) (C2 f' t') 23 23
  rw [hW]
  clear hW
  refine (H.out _ _).mono ?_
  rintro e w1 ⟨rfl, hT⟩
  go_wp2
  go_ret2
  exact ⟨rfl, then_below hB0 hT⟩

theorem twithin_yes {f t f' t' : Int} (w : World) (h : maySp f t) (h' : maySp f' t') : Calls Try.prog 18 #[S2 f t, S2 f' t'] w fun e W' => e = .returned (.tuple #[.bool (wiT f t f' t'), I 0]) ∧ Below w.heap.size w W' := by
  have H : Hid (∀ w A, Blk w A 23 (C2 f t) → Calls Try.prog 26 #[S2 f t, S2 f' t', .func (.func 29) #[] #[.pointer (some ⟨A, 0, none⟩)]] w fun e W' => e = .returned (.tuple #[.bool (wiT f t f' t'), I 0]) ∧ Below w.heap.size w W') := fun w A ha => ask_within ha h h'
  clear h h'
  generalize wiT f t f' t' = r at *
  go_enter Try.func18, Try.ntmps18
  go_wp2_with fail
  obtain ⟨W, hW, hB0, b0, b1⟩ := two_start w (C2 f t) (C2 f' t') 23 23
  rw [hW]
  clear hW
  refine (H.out _ _ b0).mono ?_
  rintro e w1 ⟨rfl, hT⟩
  go_wp2
  go_ret2
  exact ⟨rfl, then_below hB0 hT⟩

theorem tboth_no {f t f' t' : Int} (w : World) (h : ¬ (maySp f t ∧ maySp f' t')) : Calls Try.prog 9 #[S2 f t, S2 f' t'] w fun e W' => e = .returned (.tuple #[S2 0 0, I 2]) ∧ Below w.heap.size w W' := by
  have H : Hid (∀ w, Calls Try.prog 16 #[S2 f t, S2 f' t'] w fun e W' => e = .returned (.tuple #[.bool false, I 2]) ∧ Below w.heap.size w W') := fun w => tmeet_no w h
  clear h
  go_enter Try.func9, Try.ntmps9
  go_wp2_with fail
  obtain ⟨W, hW, hB0, b0, b1, b2⟩ := three_boxes w (C2 f t) (C2 f' t') (C2 0 0) 23 23 23
  rw [hW]
  clear hW
  refine (H.out _).mono ?_
  rintro e w1 ⟨rfl, hT⟩
  have q2 := b2.later hT
  obtain ⟨c0, c1, f0, f1⟩ := q2.row2
  go_wp2
  have hBX := below_set2 (then_below hB0 hT) (show w.heap.size ≤ w.heap.size + 1 + 1 by omega) (I 0) (I 0)
  obtain ⟨j0, j1, _, _⟩ := (q2.set2 (I 0) (I 0)).row2
  exact bodyPost_ret (v := .tuple #[S2 0 0, I 2]) (by simp [results, Try.f9, go_sem, j0, j1]) rfl ⟨rfl, hBX⟩

theorem tboth_none {f t f' t' : Int} (w : World) (h : maySp f t) (h' : maySp f' t') (hm : meetsT f t f' t' = false) : Calls Try.prog 9 #[S2 f t, S2 f' t'] w fun e W' => e = .returned (.tuple #[S2 0 0, I 6]) ∧ Below w.heap.size w W' := by
  have H : Hid (∀ w, Calls Try.prog 16 #[S2 f t, S2 f' t'] w fun e W' => e = .returned (.tuple #[.bool false, I 0]) ∧ Below w.heap.size w W') := fun w => by rw [← hm]; exact tmeet_yes w h h'
  clear h h' hm
  go_enter Try.func9, Try.ntmps9
  go_wp2_with fail
  obtain ⟨W, hW, hB0, b0, b1, b2⟩ := three_boxes w (C2 f t) (C2 f' t') (C2 0 0) 23 23 23
  rw [hW]
  clear hW
  refine (H.out _).mono ?_
  rintro e w1 ⟨rfl, hT⟩
  have q2 := b2.later hT
  obtain ⟨c0, c1, f0, f1⟩ := q2.row2
  go_wp2
  have hBX := below_set2 (then_below hB0 hT) (show w.heap.size ≤ w.heap.size + 1 + 1 by omega) (I 0) (I 0)
  obtain ⟨j0, j1, _, _⟩ := (q2.set2 (I 0) (I 0)).row2
  exact bodyPost_ret (v := .tuple #[S2 0 0, I 6]) (by simp [results, Try.f9, go_sem, j0, j1]) rfl ⟨rfl, hBX⟩

theorem tboth_yes {f t f' t' : Int} (w : World) (h : maySp f t) (h' : maySp f' t') (hm : meetsT f t f' t' = true) : Calls Try.prog 9 #[S2 f t, S2 f' t'] w fun e W' => e = .returned (.tuple #[S2 (maxT f f') (minT t t'), I 0]) ∧ Below w.heap.size w W' := by
  have H : Hid (∀ w, Calls Try.prog 16 #[S2 f t, S2 f' t'] w fun e W' => e = .returned (.tuple #[.bool true, I 0]) ∧ Below w.heap.size w W') := fun w => by rw [← hm]; exact tmeet_yes w h h'
  have HC : Hid (∀ w, Calls Try.prog 23 #[S2 f t, S2 f' t'] w fun e W' => e = .returned (S2 (maxT f f') (minT t t')) ∧ Below w.heap.size w W') := fun w => by rw [← (br_both h h' hm).1, ← (br_both h h' hm).2]; exact common_calls f t f' t' w
  clear h h' hm
  generalize maxT f f' = x at *
  generalize minT t t' = y at *
  go_enter Try.func9, Try.ntmps9
  go_wp2_with fail
  obtain ⟨W, hW, hB0, b0, b1, b2⟩ := three_boxes w (C2 f t) (C2 f' t') (C2 0 0) 23 23 23
  rw [hW]
  clear hW
  refine (H.out _).mono ?_
  rintro e w1 ⟨rfl, hT⟩
  obtain ⟨⟨c0, c1, hz0⟩, c2, c3, hz1⟩ := two_pairs b0 b1 hT
  go_wp2_with fail
  refine (HC.out _).mono ?_
  rintro e w2 ⟨rfl, hB2⟩
  have hT := then_below hT hB2
  have q2 := b2.later hT
  clear c0 c1 c2 c3
  obtain ⟨c0, c1, f0, f1⟩ := q2.row2
  go_wp2
  have hBX := below_set2 (then_below hB0 hT) (show w.heap.size ≤ w.heap.size + 1 + 1 by omega) (I x) (I y)
  obtain ⟨j0, j1, _, _⟩ := (q2.set2 (I x) (I y)).row2
  exact bodyPost_ret (v := .tuple #[S2 x y, I 0]) (by simp [results, Try.f9, go_sem, j0, j1]) rfl ⟨rfl, hBX⟩

end Go.Proofs.Ytgmpenjbbhkgoaa
