/-
  What the document's own answer for layer 5 (tidehallref05) gives: Ends; nothing that lay before is turned.
-/
import Derived.Test.YtbbddolalglmnaaRefWire
namespace Go.Proofs.Ytbbddolalglmnaa
open Go.RowKit Go.Shelf

attribute [local go_sem] Oper.semAt_some ext_const

set_option maxHeartbeats 400000 in
theorem vends_bad {d0 d1 d2 : Int} (link : Int) (w : World) (hm : ¬ mayD d0 d1 d2) :
    Calls Try.prog 17 #[A3 d0 d1 d2, I link] w fun e W' => e = .returned (.tuple #[I 0, I 0, I 0, I 8]) ∧ Below w.heap.size w W' := by
  go_enter Try.func17, Try.ntmps17
  go_wp2_with fail
  refine (rmay_no _ hm).mono ?_
  rintro e w1 ⟨rfl, hB⟩
  go_wp2
  (try simp only [Exit.inBlock, Exit.then]); refine bodyPost_ret (results_tmp4 rfl _ _ _) rfl ?_
  exact ⟨rfl, then_below ((Below.refl _ w).alloc (Nat.le_refl _) _) hB⟩

set_option maxHeartbeats 400000 in
theorem vends_no {d0 d1 d2 link : Int} (w : World) (hm : mayD d0 d1 d2) (hl : ¬ (0 ≤ link ∧ link < 3 * (d0 * d1 * d2))) :
    Calls Try.prog 17 #[A3 d0 d1 d2, I link] w fun e W' => e = .returned (.tuple #[I 0, I 0, I 0, I 2]) ∧ Below w.heap.size w W' := by
  have hN := N_bd hm
  have HM : Hid (∀ w, Calls Try.prog 30 #[A3 d0 d1 d2] w fun e W' => e = .returned (I (d0 * d1 * d2)) ∧ Below w.heap.size w W') := fun w => rn_calls w hm
  generalize d0 * d1 * d2 = N at *
  have hc : link < 0 ∨ (¬ link < 0 ∧ 3 * N ≤ link) := by omega
  clear hl
  rcases hc with h1 | ⟨h1, h2⟩
  all_goals
    go_enter Try.func17, Try.ntmps17
    go_wp2_with fail
    refine (rmay_yes _ hm).mono ?_
    rintro e w1 ⟨rfl, hB⟩
    have g0 := (Blk.new w _ _).later hB
    have c0 := g0.cell 0
    have c1 := g0.cell 1
    have c2 := g0.cell 2
    simp at c0 c1 c2
    go_wp2_with fail
    refine (HM.out _).mono ?_
    rintro x w2 ⟨rfl, hB2⟩
    go_wp2
    (try simp only [Exit.inBlock, Exit.then]); refine bodyPost_ret (results_tmp4 rfl _ _ _) rfl ?_
    exact ⟨rfl, then_below (then_below ((Below.refl _ w).alloc (Nat.le_refl _) _) hB) hB2⟩

set_option maxRecDepth 100000 in
set_option maxHeartbeats 4000000 in
theorem vends_none {d0 d1 d2 m : Int} (w : World) (hm : mayD d0 d1 d2) (hn : 0 ≤ m ∧ m < d0 * d1 * d2) (k : Fin 3) (h1 : ¬ 1 < dimAt d0 d1 d2 k) :
    Calls Try.prog 17 #[A3 d0 d1 d2, I (cabW d0 d1 d2 k m)] w fun e W' => e = .returned (.tuple #[I 0, I 0, I 0, I 6]) ∧ Below w.heap.size w W' := by
  have hN := N_bd hm
  have hok := dimAt_ok hm k
  unfold okD at hok
  have HM : Hid (∀ w, Calls Try.prog 30 #[A3 d0 d1 d2] w fun e W' => e = .returned (I (d0 * d1 * d2)) ∧ Below w.heap.size w W') := fun w => rn_calls w hm
  have hd : dimAt d0 d1 d2 k = 1 := by omega
  unfold cabW
  generalize d0 * d1 * d2 = N at *
  rcases fin3 k with rfl | rfl | rfl
  · simp only [axI, dimAt] at *
    subst hd
    obtain ⟨link, hlk⟩ : ∃ link : Int, 0 * N + m = link := ⟨_, rfl⟩
    rw [hlk]
    have HLK : Hid (0 * N + m = link) := hlk
    have q1 : ¬ link < 0 := by omega
    have q2 : ¬ 3 * N ≤ link := by omega
    clear hlk
    go_enter Try.func17, Try.ntmps17
    go_wp2_with fail
    refine (rmay_yes _ hm).mono ?_
    rintro e w1 ⟨rfl, hB⟩
    have g0 := (Blk.new w _ _).later hB
    have c0 := g0.cell 0
    have c1 := g0.cell 1
    have c2 := g0.cell 2
    simp at c0 c1 c2
    go_wp2_with fail
    refine (HM.out _).mono ?_
    rintro x w2 ⟨rfl, hB2⟩
    have g1 := g0.later hB2
    have hBW := then_below (then_below ((Below.refl _ w).alloc (Nat.le_refl _) (.cells _ 26)) hB) hB2
    have e0 := g1.cell 0
    have e1 := g1.cell 1
    have e2 := g1.cell 2
    simp at e0 e1 e2
    go_wp2
    go_loopw [1, 9] (fun l a wr => ((a = .int .i64 0 ∧ l = .int .i64 (m))) ∧ wr = w2) (fun _ a _ => 3 - (intOf a).toNat)
    case atStart => exact ⟨⟨rfl, by have := HLK.out; congr 1; omega⟩, by trivial⟩
    case round =>
      obtain ⟨hrel, hw⟩ := hrel
      subst hw
      rcases hrel with ⟨rfl, rfl⟩
      · have hlt : ¬ N ≤ m := by omega
        go_wp2
        (try simp only [Exit.inBlock, Exit.then]); refine bodyPost_ret (results_tmp4 rfl _ _ _) rfl ?_
        exact ⟨rfl, hBW⟩
  · simp only [axI, dimAt] at *
    subst hd
    obtain ⟨link, hlk⟩ : ∃ link : Int, 1 * N + m = link := ⟨_, rfl⟩
    rw [hlk]
    have HLK : Hid (1 * N + m = link) := hlk
    have q1 : ¬ link < 0 := by omega
    have q2 : ¬ 3 * N ≤ link := by omega
    clear hlk
    go_enter Try.func17, Try.ntmps17
    go_wp2_with fail
    refine (rmay_yes _ hm).mono ?_
    rintro e w1 ⟨rfl, hB⟩
    have g0 := (Blk.new w _ _).later hB
    have c0 := g0.cell 0
    have c1 := g0.cell 1
    have c2 := g0.cell 2
    simp at c0 c1 c2
    go_wp2_with fail
    refine (HM.out _).mono ?_
    rintro x w2 ⟨rfl, hB2⟩
    have g1 := g0.later hB2
    have hBW := then_below (then_below ((Below.refl _ w).alloc (Nat.le_refl _) (.cells _ 26)) hB) hB2
    have e0 := g1.cell 0
    have e1 := g1.cell 1
    have e2 := g1.cell 2
    simp at e0 e1 e2
    go_wp2
    go_loopw [1, 9] (fun l a wr => ((a = .int .i64 0 ∧ l = .int .i64 (N + m)) ∨ (a = .int .i64 1 ∧ l = .int .i64 (m))) ∧ wr = w2) (fun _ a _ => 3 - (intOf a).toNat)
    case atStart => exact ⟨.inl ⟨rfl, by have := HLK.out; congr 1; omega⟩, by trivial⟩
    case round =>
      obtain ⟨hrel, hw⟩ := hrel
      subst hw
      rcases hrel with ⟨rfl, rfl⟩ | ⟨rfl, rfl⟩
      · have hge : N ≤ N + m := by omega
        go_wp2
        go_roundw
        case rel => exact ⟨.inr (⟨rfl, by first | rfl | (congr 1; omega) | (simp; omega)⟩), by trivial⟩
        case measure => simp [intOf]
      · have hlt : ¬ N ≤ m := by omega
        go_wp2
        (try simp only [Exit.inBlock, Exit.then]); refine bodyPost_ret (results_tmp4 rfl _ _ _) rfl ?_
        exact ⟨rfl, hBW⟩
  · simp only [axI, dimAt] at *
    subst hd
    obtain ⟨link, hlk⟩ : ∃ link : Int, 2 * N + m = link := ⟨_, rfl⟩
    rw [hlk]
    have HLK : Hid (2 * N + m = link) := hlk
    have q1 : ¬ link < 0 := by omega
    have q2 : ¬ 3 * N ≤ link := by omega
    clear hlk
    go_enter Try.func17, Try.ntmps17
    go_wp2_with fail
    refine (rmay_yes _ hm).mono ?_
    rintro e w1 ⟨rfl, hB⟩
    have g0 := (Blk.new w _ _).later hB
    have c0 := g0.cell 0
    have c1 := g0.cell 1
    have c2 := g0.cell 2
    simp at c0 c1 c2
    go_wp2_with fail
    refine (HM.out _).mono ?_
    rintro x w2 ⟨rfl, hB2⟩
    have g1 := g0.later hB2
    have hBW := then_below (then_below ((Below.refl _ w).alloc (Nat.le_refl _) (.cells _ 26)) hB) hB2
    have e0 := g1.cell 0
    have e1 := g1.cell 1
    have e2 := g1.cell 2
    simp at e0 e1 e2
    go_wp2
    go_loopw [1, 9] (fun l a wr => ((a = .int .i64 0 ∧ l = .int .i64 (2 * N + m)) ∨ (a = .int .i64 1 ∧ l = .int .i64 (N + m)) ∨ (a = .int .i64 2 ∧ l = .int .i64 (m))) ∧ wr = w2) (fun _ a _ => 3 - (intOf a).toNat)
    case atStart => exact ⟨.inl ⟨rfl, by have := HLK.out; congr 1; omega⟩, by trivial⟩
    case round =>
      obtain ⟨hrel, hw⟩ := hrel
      subst hw
      rcases hrel with ⟨rfl, rfl⟩ | ⟨rfl, rfl⟩ | ⟨rfl, rfl⟩
      · have hge : N ≤ 2 * N + m := by omega
        go_wp2
        go_roundw
        case rel => exact ⟨.inr (.inl ⟨rfl, by first | rfl | (congr 1; omega) | (simp; omega)⟩), by trivial⟩
        case measure => simp [intOf]
      · have hge : N ≤ N + m := by omega
        go_wp2
        go_roundw
        case rel => exact ⟨.inr (.inr (⟨rfl, by first | rfl | (congr 1; omega) | (simp; omega)⟩)), by trivial⟩
        case measure => simp [intOf]
      · have hlt : ¬ N ≤ m := by omega
        go_wp2
        (try simp only [Exit.inBlock, Exit.then]); refine bodyPost_ret (results_tmp4 rfl _ _ _) rfl ?_
        exact ⟨rfl, hBW⟩

set_option maxRecDepth 100000 in
set_option maxHeartbeats 4000000 in
theorem vends_yes {d0 d1 d2 m : Int} (w : World) (hm : mayD d0 d1 d2) (hn : 0 ≤ m ∧ m < d0 * d1 * d2) (k : Fin 3) (h1 : 1 < dimAt d0 d1 d2 k) :
    Calls Try.prog 17 #[A3 d0 d1 d2, I (cabW d0 d1 d2 k m)] w fun e W' => e = .returned (.tuple #[I (axI k), I m, I (onD d0 d1 d2 m k 1), I 0]) ∧ Below w.heap.size w W' := by
  have hN := N_bd hm
  have hok := dimAt_ok hm k
  unfold okD at hok
  have HM : Hid (∀ w, Calls Try.prog 30 #[A3 d0 d1 d2] w fun e W' => e = .returned (I (d0 * d1 * d2)) ∧ Below w.heap.size w W') := fun w => rn_calls w hm
  have HS : Hid (∀ w, Calls Try.prog 32 #[A3 d0 d1 d2, I m, I (axI k), I 1] w fun x W' => x = .returned (I (onD d0 d1 d2 m k 1)) ∧ Below w.heap.size w W') := fun w => ron_calls w hm hn k
  generalize onD d0 d1 d2 m k 1 = o at *
  unfold cabW
  generalize d0 * d1 * d2 = N at *
  rcases fin3 k with rfl | rfl | rfl
  · simp only [axI, dimAt] at *
    obtain ⟨link, hlk⟩ : ∃ link : Int, 0 * N + m = link := ⟨_, rfl⟩
    rw [hlk]
    have HLK : Hid (0 * N + m = link) := hlk
    have q1 : ¬ link < 0 := by omega
    have q2 : ¬ 3 * N ≤ link := by omega
    clear hlk
    go_enter Try.func17, Try.ntmps17
    go_wp2_with fail
    refine (rmay_yes _ hm).mono ?_
    rintro e w1 ⟨rfl, hB⟩
    have g0 := (Blk.new w _ _).later hB
    have c0 := g0.cell 0
    have c1 := g0.cell 1
    have c2 := g0.cell 2
    simp at c0 c1 c2
    go_wp2_with fail
    refine (HM.out _).mono ?_
    rintro x w2 ⟨rfl, hB2⟩
    have g1 := g0.later hB2
    have hBW := then_below (then_below ((Below.refl _ w).alloc (Nat.le_refl _) (.cells _ 26)) hB) hB2
    have e0 := g1.cell 0
    have e1 := g1.cell 1
    have e2 := g1.cell 2
    simp at e0 e1 e2
    go_wp2
    go_loopw [1, 9] (fun l a wr => ((a = .int .i64 0 ∧ l = .int .i64 (m))) ∧ wr = w2) (fun _ a _ => 3 - (intOf a).toNat)
    case atStart => exact ⟨⟨rfl, by have := HLK.out; congr 1; omega⟩, by trivial⟩
    case round =>
      obtain ⟨hrel, hw⟩ := hrel
      subst hw
      rcases hrel with ⟨rfl, rfl⟩
      · have hlt : ¬ N ≤ m := by omega
        have hd : (d0 == 1) = false := by simp; omega
        go_wp2_with fail
        refine (HS.out _).mono ?_
        rintro x w3 ⟨rfl, hB3⟩
        go_wp2
        (try simp only [Exit.inBlock, Exit.then]); refine bodyPost_ret (results_tmp4 rfl _ _ _) rfl ?_
        exact ⟨rfl, then_below hBW hB3⟩
  · simp only [axI, dimAt] at *
    obtain ⟨link, hlk⟩ : ∃ link : Int, 1 * N + m = link := ⟨_, rfl⟩
    rw [hlk]
    have HLK : Hid (1 * N + m = link) := hlk
    have q1 : ¬ link < 0 := by omega
    have q2 : ¬ 3 * N ≤ link := by omega
    clear hlk
    go_enter Try.func17, Try.ntmps17
    go_wp2_with fail
    refine (rmay_yes _ hm).mono ?_
    rintro e w1 ⟨rfl, hB⟩
    have g0 := (Blk.new w _ _).later hB
    have c0 := g0.cell 0
    have c1 := g0.cell 1
    have c2 := g0.cell 2
    simp at c0 c1 c2
    go_wp2_with fail
    refine (HM.out _).mono ?_
    rintro x w2 ⟨rfl, hB2⟩
    have g1 := g0.later hB2
    have hBW := then_below (then_below ((Below.refl _ w).alloc (Nat.le_refl _) (.cells _ 26)) hB) hB2
    have e0 := g1.cell 0
    have e1 := g1.cell 1
    have e2 := g1.cell 2
    simp at e0 e1 e2
    go_wp2
    go_loopw [1, 9] (fun l a wr => ((a = .int .i64 0 ∧ l = .int .i64 (N + m)) ∨ (a = .int .i64 1 ∧ l = .int .i64 (m))) ∧ wr = w2) (fun _ a _ => 3 - (intOf a).toNat)
    case atStart => exact ⟨.inl ⟨rfl, by have := HLK.out; congr 1; omega⟩, by trivial⟩
    case round =>
      obtain ⟨hrel, hw⟩ := hrel
      subst hw
      rcases hrel with ⟨rfl, rfl⟩ | ⟨rfl, rfl⟩
      · have hge : N ≤ N + m := by omega
        go_wp2
        go_roundw
        case rel => exact ⟨.inr (⟨rfl, by first | rfl | (congr 1; omega) | (simp; omega)⟩), by trivial⟩
        case measure => simp [intOf]
      · have hlt : ¬ N ≤ m := by omega
        have hd : (d1 == 1) = false := by simp; omega
        go_wp2_with fail
        refine (HS.out _).mono ?_
        rintro x w3 ⟨rfl, hB3⟩
        go_wp2
        (try simp only [Exit.inBlock, Exit.then]); refine bodyPost_ret (results_tmp4 rfl _ _ _) rfl ?_
        exact ⟨rfl, then_below hBW hB3⟩
  · simp only [axI, dimAt] at *
    obtain ⟨link, hlk⟩ : ∃ link : Int, 2 * N + m = link := ⟨_, rfl⟩
    rw [hlk]
    have HLK : Hid (2 * N + m = link) := hlk
    have q1 : ¬ link < 0 := by omega
    have q2 : ¬ 3 * N ≤ link := by omega
    clear hlk
    go_enter Try.func17, Try.ntmps17
    go_wp2_with fail
    refine (rmay_yes _ hm).mono ?_
    rintro e w1 ⟨rfl, hB⟩
    have g0 := (Blk.new w _ _).later hB
    have c0 := g0.cell 0
    have c1 := g0.cell 1
    have c2 := g0.cell 2
    simp at c0 c1 c2
    go_wp2_with fail
    refine (HM.out _).mono ?_
    rintro x w2 ⟨rfl, hB2⟩
    have g1 := g0.later hB2
    have hBW := then_below (then_below ((Below.refl _ w).alloc (Nat.le_refl _) (.cells _ 26)) hB) hB2
    have e0 := g1.cell 0
    have e1 := g1.cell 1
    have e2 := g1.cell 2
    simp at e0 e1 e2
    go_wp2
    go_loopw [1, 9] (fun l a wr => ((a = .int .i64 0 ∧ l = .int .i64 (2 * N + m)) ∨ (a = .int .i64 1 ∧ l = .int .i64 (N + m)) ∨ (a = .int .i64 2 ∧ l = .int .i64 (m))) ∧ wr = w2) (fun _ a _ => 3 - (intOf a).toNat)
    case atStart => exact ⟨.inl ⟨rfl, by have := HLK.out; congr 1; omega⟩, by trivial⟩
    case round =>
      obtain ⟨hrel, hw⟩ := hrel
      subst hw
      rcases hrel with ⟨rfl, rfl⟩ | ⟨rfl, rfl⟩ | ⟨rfl, rfl⟩
      · have hge : N ≤ 2 * N + m := by omega
        go_wp2
        go_roundw
        case rel => exact ⟨.inr (.inl ⟨rfl, by first | rfl | (congr 1; omega) | (simp; omega)⟩), by trivial⟩
        case measure => simp [intOf]
      · have hge : N ≤ N + m := by omega
        go_wp2
        go_roundw
        case rel => exact ⟨.inr (.inr (⟨rfl, by first | rfl | (congr 1; omega) | (simp; omega)⟩)), by trivial⟩
        case measure => simp [intOf]
      · have hlt : ¬ N ≤ m := by omega
        have hd : (d2 == 1) = false := by simp; omega
        go_wp2_with fail
        refine (HS.out _).mono ?_
        rintro x w3 ⟨rfl, hB3⟩
        go_wp2
        (try simp only [Exit.inBlock, Exit.then]); refine bodyPost_ret (results_tmp4 rfl _ _ _) rfl ?_
        exact ⟨rfl, then_below hBW hB3⟩

end Go.Proofs.Ytbbddolalglmnaa
