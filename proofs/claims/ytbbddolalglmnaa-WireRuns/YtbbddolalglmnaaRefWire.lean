/-
  What the document's own answer for layer 5 (tidehallref05) gives: asked, Many, Link; nothing that lay before is turned.
-/
import Derived.Test.YtbbddolalglmnaaRefStep
import Derived.Test.YtbbddolalglmnaaWireEnds
namespace Go.Proofs.Ytbbddolalglmnaa
open Go.RowKit Go.Shelf

attribute [local go_sem] Oper.semAt_some ext_const

set_option maxHeartbeats 400000 in
theorem vmany_no {d0 d1 d2 : Int} (w : World) (hm : ¬ mayD d0 d1 d2) :
    Calls Try.prog 15 #[A3 d0 d1 d2] w fun e W' => e = .returned (.tuple #[I 0, I 8]) ∧ Below w.heap.size w W' := by
  go_enter Try.func15, Try.ntmps15
  go_wp2_with fail
  refine (rmay_no _ hm).mono ?_
  rintro e w1 ⟨rfl, hB⟩
  go_wp2
  go_ret2
  exact ⟨rfl, then_below ((Below.refl _ w).alloc (Nat.le_refl _) _) hB⟩
set_option maxHeartbeats 400000 in
theorem vmany_yes {d0 d1 d2 : Int} (w : World) (hm : mayD d0 d1 d2) :
    Calls Try.prog 15 #[A3 d0 d1 d2] w fun e W' => e = .returned (.tuple #[I (3 * (d0 * d1 * d2)), I 0]) ∧ Below w.heap.size w W' := by
  have hN := N_bd hm
  have HM : Hid (∀ w, Calls Try.prog 30 #[A3 d0 d1 d2] w fun e W' => e = .returned (I (d0 * d1 * d2)) ∧ Below w.heap.size w W') := fun w => rn_calls w hm
  generalize d0 * d1 * d2 = N at *
  go_enter Try.func15, Try.ntmps15
  go_wp2_with fail
  refine (rmay_yes _ hm).mono ?_
  rintro e w1 ⟨rfl, hB⟩
  have g0 := (Blk.new w 26 #[I d0, I d1, I d2]).later hB
  have c0 := g0.cell 0
  have c1 := g0.cell 1
  have c2 := g0.cell 2
  simp at c0 c1 c2
  go_wp2_with fail
  refine (HM.out _).mono ?_
  rintro e w2 ⟨rfl, hB2⟩
  go_wp2
  go_ret2
  exact ⟨rfl, then_below (then_below ((Below.refl _ w).alloc (Nat.le_refl _) _) hB) hB2⟩

set_option maxHeartbeats 1000000 in
theorem asked_ref {d0 d1 d2 axis m e : Int} (w : World) (h : Refused d0 d1 d2 axis m e) :
    Calls Try.prog 31 #[A3 d0 d1 d2, I axis, I m] w fun x W' => x = .returned (I e) ∧ Below w.heap.size w W' := by
  rcases h with ⟨h, rfl⟩ | ⟨h, h', rfl⟩
  · go_enter Try.func31, Try.ntmps31
    go_wp2_with fail
    refine (rmay_no _ h).mono ?_
    rintro e w1 ⟨rfl, hB⟩
    go_wp2
    go_ret
    exact ⟨rfl, then_below ((Below.refl _ w).alloc (Nat.le_refl _) _) hB⟩
  · have HM : Hid (∀ w, Calls Try.prog 30 #[A3 d0 d1 d2] w fun e W' => e = .returned (I (d0 * d1 * d2)) ∧ Below w.heap.size w W') := fun w => rn_calls w h
    unfold lineOk at h'
    generalize d0 * d1 * d2 = N at *
    have hc : axis < 0 ∨ (¬ axis < 0 ∧ 2 < axis) ∨ (¬ axis < 0 ∧ ¬ 2 < axis ∧ m < 0) ∨ (¬ axis < 0 ∧ ¬ 2 < axis ∧ ¬ m < 0 ∧ N ≤ m) := by omega
    clear h'
    rcases hc with h1 | ⟨h1, h2⟩ | ⟨h1, h2, h3⟩ | ⟨h1, h2, h3, h4⟩
    iterate 3
      · go_enter Try.func31, Try.ntmps31
        go_wp2_with fail
        refine (rmay_yes _ h).mono ?_
        rintro e w1 ⟨rfl, hB⟩
        go_wp2
        go_ret
        exact ⟨rfl, then_below ((Below.refl _ w).alloc (Nat.le_refl _) _) hB⟩
    · go_enter Try.func31, Try.ntmps31
      go_wp2_with fail
      refine (rmay_yes _ h).mono ?_
      rintro e w1 ⟨rfl, hB⟩
      have g0 := (Blk.new w 26 #[I d0, I d1, I d2]).later hB
      have c0 := g0.cell 0
      have c1 := g0.cell 1
      have c2 := g0.cell 2
      simp at c0 c1 c2
      go_wp2_with fail
      refine (HM.out _).mono ?_
      rintro e w2 ⟨rfl, hB2⟩
      go_wp2
      go_ret
      exact ⟨rfl, then_below (then_below ((Below.refl _ w).alloc (Nat.le_refl _) _) hB) hB2⟩

set_option maxHeartbeats 1000000 in
theorem asked_yes {d0 d1 d2 axis m : Int} (w : World) (hm : mayD d0 d1 d2) (hn : 0 ≤ m ∧ m < d0 * d1 * d2) {k : Fin 3} (hk : axis = axI k) :
    Calls Try.prog 31 #[A3 d0 d1 d2, I axis, I m] w fun x W' => x = .returned (I 0) ∧ Below w.heap.size w W' := by
  have HM : Hid (∀ w, Calls Try.prog 30 #[A3 d0 d1 d2] w fun e W' => e = .returned (I (d0 * d1 * d2)) ∧ Below w.heap.size w W') := fun w => rn_calls w hm
  have ha : 0 ≤ axis ∧ axis ≤ 2 := by
    subst hk
    rcases fin3 k with rfl | rfl | rfl <;> simp [axI]
  generalize d0 * d1 * d2 = N at *
  have h1 : ¬ axis < 0 := by omega
  have h2 : ¬ 2 < axis := by omega
  have h3 : ¬ m < 0 := by omega
  have h4 : ¬ N ≤ m := by omega
  clear hk ha hn
  go_enter Try.func31, Try.ntmps31
  go_wp2_with fail
  refine (rmay_yes _ hm).mono ?_
  rintro e w1 ⟨rfl, hB⟩
  have g0 := (Blk.new w 26 #[I d0, I d1, I d2]).later hB
  have c0 := g0.cell 0
  have c1 := g0.cell 1
  have c2 := g0.cell 2
  simp at c0 c1 c2
  go_wp2_with fail
  refine (HM.out _).mono ?_
  rintro e w2 ⟨rfl, hB2⟩
  go_wp2
  go_ret
  exact ⟨rfl, then_below (then_below ((Below.refl _ w).alloc (Nat.le_refl _) _) hB) hB2⟩

set_option maxHeartbeats 400000 in
theorem vlink_ref {d0 d1 d2 axis m e : Int} (w : World) (h : Refused d0 d1 d2 axis m e) :
    Calls Try.prog 16 #[A3 d0 d1 d2, I axis, I m] w fun x W' => x = .returned (.tuple #[I 0, I e]) ∧ Below w.heap.size w W' := by
  have he := h.ne
  have H : Hid (Refused d0 d1 d2 axis m e) := h
  clear h
  go_enter Try.func16, Try.ntmps16
  go_wp2_with fail
  refine (asked_ref _ H.out).mono ?_
  rintro x w1 ⟨rfl, hB⟩
  go_wp2
  go_ret2
  exact ⟨rfl, then_below ((Below.refl _ w).alloc (Nat.le_refl _) _) hB⟩

set_option maxHeartbeats 1000000 in
theorem vlink_none {d0 d1 d2 axis m : Int} (w : World) (hm : mayD d0 d1 d2) (hn : 0 ≤ m ∧ m < d0 * d1 * d2) {k : Fin 3} (hk : axis = axI k) (h1 : ¬ 1 < dimAt d0 d1 d2 k) :
    Calls Try.prog 16 #[A3 d0 d1 d2, I axis, I m] w fun x W' => x = .returned (.tuple #[I 0, I 6]) ∧ Below w.heap.size w W' := by
  have hok := dimAt_ok hm k
  unfold okD at hok
  have hd : dimAt d0 d1 d2 k = 1 := by omega
  have HA : Hid (∀ w, Calls Try.prog 31 #[A3 d0 d1 d2, I (axI k), I m] w fun x W' => x = .returned (I 0) ∧ Below w.heap.size w W') := fun w => asked_yes w hm hn rfl
  subst hk
  clear hn hok h1 hm
  rcases fin3 k with rfl | rfl | rfl
  all_goals
    simp only [axI, dimAt] at *
    subst hd
    go_enter Try.func16, Try.ntmps16
    go_wp2_with fail
    refine (HA.out _).mono ?_
    rintro x w1 ⟨rfl, hB⟩
    have g0 := (Blk.new w _ _).later hB
    have c0 := g0.cell 0
    have c1 := g0.cell 1
    have c2 := g0.cell 2
    simp at c0 c1 c2
    go_wp2
    go_ret2
    exact ⟨rfl, then_below ((Below.refl _ w).alloc (Nat.le_refl _) _) hB⟩

set_option maxHeartbeats 1000000 in
theorem vlink_yes {d0 d1 d2 axis m : Int} (w : World) (hm : mayD d0 d1 d2) (hn : 0 ≤ m ∧ m < d0 * d1 * d2) {k : Fin 3} (hk : axis = axI k) (h1 : 1 < dimAt d0 d1 d2 k) :
    Calls Try.prog 16 #[A3 d0 d1 d2, I axis, I m] w fun x W' => x = .returned (.tuple #[I (cabW d0 d1 d2 k m), I 0]) ∧ Below w.heap.size w W' := by
  have hN := N_bd hm
  have HA : Hid (∀ w, Calls Try.prog 31 #[A3 d0 d1 d2, I (axI k), I m] w fun x W' => x = .returned (I 0) ∧ Below w.heap.size w W') := fun w => asked_yes w hm hn rfl
  have HM : Hid (∀ w, Calls Try.prog 30 #[A3 d0 d1 d2] w fun e W' => e = .returned (I (d0 * d1 * d2)) ∧ Below w.heap.size w W') := fun w => rn_calls w hm
  subst hk
  unfold cabW
  generalize d0 * d1 * d2 = N at *
  clear hm
  rcases fin3 k with rfl | rfl | rfl
  all_goals
    simp only [axI, dimAt] at *
    go_enter Try.func16, Try.ntmps16
    go_wp2_with fail
    refine (HA.out _).mono ?_
    rintro x w1 ⟨rfl, hB⟩
    have g0 := (Blk.new w _ _).later hB
    have c0 := g0.cell 0
    have c1 := g0.cell 1
    have c2 := g0.cell 2
    simp at c0 c1 c2
    go_wp2_with fail
    refine (HM.out _).mono ?_
    rintro x w2 ⟨rfl, hB2⟩
    go_wp2
    go_ret2
    refine ⟨?_, then_below (then_below ((Below.refl _ w).alloc (Nat.le_refl _) _) hB) hB2⟩
    first
      | rfl
      | (simp; done)
      | (simp; omega)

end Go.Proofs.Ytbbddolalglmnaa
