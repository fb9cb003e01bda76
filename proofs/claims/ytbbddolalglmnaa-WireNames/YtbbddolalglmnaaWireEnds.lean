/-
  wire.Ends: what it answers, for every input; nothing that lay before is turned.
-/
import Derived.Test.YtbbddolalglmnaaWireSmall
namespace Go.Proofs.Ytbbddolalglmnaa
open Go.RowKit Go.Shelf

attribute [local go_sem] Oper.semAt_some ext_const

theorem results_tmp4 {fn : Func} {t u v x : Tmp} (h : fn.results = #[.tmp t, .tmp u, .tmp v, .tmp x]) (tmps : Array Value) (P : Program) (w : World) :
    (results fn tmps).run P w = .ok (.tuple #[tmps.getD t undef, tmps.getD u undef, tmps.getD v undef, tmps.getD x undef]) w := by
  simp [results, h]

/-- Each number of a cable is an axis and a midplane. -/
theorem cab_of {d0 d1 d2 link : Int} (h : mayD d0 d1 d2) (hl : 0 ≤ link ∧ link < 3 * (d0 * d1 * d2)) : ∃ (k : Fin 3) (m : Int), (0 ≤ m ∧ m < d0 * d1 * d2) ∧ link = cabW d0 d1 d2 k m := by
  have hN := N_bd h
  unfold cabW
  generalize d0 * d1 * d2 = N at *
  by_cases h1 : link < N
  · exact ⟨0, link, by omega, by simp only [axI]; omega⟩
  · by_cases h2 : link < 2 * N
    · exact ⟨1, link - N, by omega, by simp only [axI]; omega⟩
    · exact ⟨2, link - 2 * N, by omega, by simp only [axI]; omega⟩

set_option maxHeartbeats 400000 in
theorem ends_bad {d0 d1 d2 : Int} (link : Int) (w : World) (hm : ¬ mayD d0 d1 d2) :
    Calls Try.prog 10 #[A3 d0 d1 d2, I link] w fun e W' => e = .returned (.tuple #[I 0, I 0, I 0, I 8]) ∧ Below w.heap.size w W' := by
  go_enter Try.func10, Try.ntmps10
  go_wp2_with fail
  refine (many_no _ hm).mono ?_
  rintro e w1 ⟨rfl, hB⟩
  go_wp2
  (try simp only [Exit.inBlock, Exit.then]); refine bodyPost_ret (results_tmp4 rfl _ _ _) rfl ?_
  exact ⟨rfl, then_below ((Below.refl _ w).alloc (Nat.le_refl _) _) hB⟩

set_option maxHeartbeats 400000 in
theorem ends_no {d0 d1 d2 link : Int} (w : World) (hm : mayD d0 d1 d2) (hl : ¬ (0 ≤ link ∧ link < 3 * (d0 * d1 * d2))) :
    Calls Try.prog 10 #[A3 d0 d1 d2, I link] w fun e W' => e = .returned (.tuple #[I 0, I 0, I 0, I 2]) ∧ Below w.heap.size w W' := by
  have hN := N_bd hm
  have HM : Hid (∀ w, Calls Try.prog 26 #[A3 d0 d1 d2] w fun e W' => e = .returned (.tuple #[I (d0 * d1 * d2), I 0]) ∧ Below w.heap.size w W') := fun w => many_yes w hm
  generalize d0 * d1 * d2 = N at *
  by_cases h0 : link < 0
  · clear hl
    go_enter Try.func10, Try.ntmps10
    go_wp2_with fail
    refine (HM.out _).mono ?_
    rintro e w1 ⟨rfl, hB⟩
    go_wp2
    (try simp only [Exit.inBlock, Exit.then]); refine bodyPost_ret (results_tmp4 rfl _ _ _) rfl ?_
    exact ⟨rfl, then_below ((Below.refl _ w).alloc (Nat.le_refl _) _) hB⟩
  · have h3 : 3 * N ≤ link := by omega
    clear hl
    go_enter Try.func10, Try.ntmps10
    go_wp2_with fail
    refine (HM.out _).mono ?_
    rintro e w1 ⟨rfl, hB⟩
    go_wp2
    (try simp only [Exit.inBlock, Exit.then]); refine bodyPost_ret (results_tmp4 rfl _ _ _) rfl ?_
    exact ⟨rfl, then_below ((Below.refl _ w).alloc (Nat.le_refl _) _) hB⟩

set_option maxHeartbeats 800000 in
theorem ends_none {d0 d1 d2 m : Int} (w : World) (hm : mayD d0 d1 d2) (hn : 0 ≤ m ∧ m < d0 * d1 * d2) (k : Fin 3) (h1 : ¬ 1 < dimAt d0 d1 d2 k) :
    Calls Try.prog 10 #[A3 d0 d1 d2, I (cabW d0 d1 d2 k m)] w fun e W' => e = .returned (.tuple #[I 0, I 0, I 0, I 6]) ∧ Below w.heap.size w W' := by
  have hmx : Try.prog.follows .mixedOrders = true := by kernel_rfl
  have hN := N_bd hm
  obtain ⟨hl0, hl3, t1, t2⟩ := cab_bd hm hn k
  have HM : Hid (∀ w, Calls Try.prog 26 #[A3 d0 d1 d2] w fun e W' => e = .returned (.tuple #[I (d0 * d1 * d2), I 0]) ∧ Below w.heap.size w W') := fun w => many_yes w hm
  have HW : Hid (∀ w, Calls Try.prog 25 #[A3 d0 d1 d2, I (axI k)] w fun x W' => x = .returned (.bool false) ∧ Below w.heap.size w W') := fun w => wired_calls w rfl (decide_eq_false h1).symm
  generalize cabW d0 d1 d2 k m = link at *
  generalize d0 * d1 * d2 = N at *
  generalize axI k = ax at *
  have T1 : Hid (link / N = ax) := t1
  have T2 : Hid (link % N = m) := t2
  clear t1 t2 hn h1
  have hlt : ¬ link < 0 := by omega
  go_enter Try.func10, Try.ntmps10
  go_wp2_with fail
  refine (HM.out _).mono ?_
  rintro e w1 ⟨rfl, hB⟩
  have g0 := (Blk.new w 26 #[I d0, I d1, I d2]).later hB
  go_wp2_with fail
  refine wp_region_look hmx (by kernel_rfl) ?_
  repeat (go_big_quiet_step (fail))
  refine wpQuiet_nil ?_
  intro x
  rw [T1.out, T2.out]
  have g1 := g0.later x.le
  have k0 := g1.cell 0
  have k1 := g1.cell 1
  have k2 := g1.cell 2
  simp at k0 k1 k2
  go_wp2_with fail
  refine (HW.out _).mono ?_
  rintro e w2 ⟨rfl, hB2⟩
  go_wp2
  (try simp only [Exit.inBlock, Exit.then]); refine bodyPost_ret (results_tmp4 rfl _ _ _) rfl ?_
  exact ⟨rfl, then_below (then_below (then_below ((Below.refl _ w).alloc (Nat.le_refl _) _) hB) x.le) hB2⟩

set_option maxHeartbeats 800000 in
theorem ends_yes {d0 d1 d2 m : Int} (w : World) (hm : mayD d0 d1 d2) (hn : 0 ≤ m ∧ m < d0 * d1 * d2) (k : Fin 3) (h1 : 1 < dimAt d0 d1 d2 k) :
    Calls Try.prog 10 #[A3 d0 d1 d2, I (cabW d0 d1 d2 k m)] w fun e W' => e = .returned (.tuple #[I (axI k), I m, I (onD d0 d1 d2 m k 1), I 0]) ∧ Below w.heap.size w W' := by
  have hmx : Try.prog.follows .mixedOrders = true := by kernel_rfl
  have hN := N_bd hm
  obtain ⟨hl0, hl3, t1, t2⟩ := cab_bd hm hn k
  have HM : Hid (∀ w, Calls Try.prog 26 #[A3 d0 d1 d2] w fun e W' => e = .returned (.tuple #[I (d0 * d1 * d2), I 0]) ∧ Below w.heap.size w W') := fun w => many_yes w hm
  have HW : Hid (∀ w, Calls Try.prog 25 #[A3 d0 d1 d2, I (axI k)] w fun x W' => x = .returned (.bool true) ∧ Below w.heap.size w W') := fun w => wired_calls w rfl (decide_eq_true h1).symm
  have HS : Hid (∀ w, Calls Try.prog 21 #[A3 d0 d1 d2, I m, I (axI k), I 1] w fun x W' => x = .returned (.tuple #[I (onD d0 d1 d2 m k 1), I 0]) ∧ Below w.heap.size w W') := fun w => step_yes w hm hn k
  generalize onD d0 d1 d2 m k 1 = o at *
  generalize cabW d0 d1 d2 k m = link at *
  generalize d0 * d1 * d2 = N at *
  generalize axI k = ax at *
  have T1 : Hid (link / N = ax) := t1
  have T2 : Hid (link % N = m) := t2
  clear t1 t2 hn h1
  have hlt : ¬ link < 0 := by omega
  go_enter Try.func10, Try.ntmps10
  go_wp2_with fail
  refine (HM.out _).mono ?_
  rintro e w1 ⟨rfl, hB⟩
  have g0 := (Blk.new w 26 #[I d0, I d1, I d2]).later hB
  go_wp2_with fail
  refine wp_region_look hmx (by kernel_rfl) ?_
  repeat (go_big_quiet_step (fail))
  refine wpQuiet_nil ?_
  intro x
  rw [T1.out, T2.out]
  have g1 := g0.later x.le
  have k0 := g1.cell 0
  have k1 := g1.cell 1
  have k2 := g1.cell 2
  simp at k0 k1 k2
  go_wp2_with fail
  refine (HW.out _).mono ?_
  rintro e w2 ⟨rfl, hB2⟩
  have g2 := g1.later hB2
  have j0 := g2.cell 0
  have j1 := g2.cell 1
  have j2 := g2.cell 2
  simp at j0 j1 j2
  go_wp2_with fail
  refine (HS.out _).mono ?_
  rintro e w3 ⟨rfl, hB3⟩
  go_wp2
  (try simp only [Exit.inBlock, Exit.then]); refine bodyPost_ret (results_tmp4 rfl _ _ _) rfl ?_
  exact ⟨rfl, then_below (then_below (then_below (then_below ((Below.refl _ w).alloc (Nat.le_refl _) _) hB) x.le) hB2) hB3⟩

end Go.Proofs.Ytbbddolalglmnaa
