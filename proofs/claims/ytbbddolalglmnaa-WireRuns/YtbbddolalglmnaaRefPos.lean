/-
  What the document's own answer for layer 1 (tidehallref01) gives, for every input: dimensions, how many, the midplane at coordinates, the coordinates of one.
-/
import Derived.Test.YtbbddolalglmnaaPosMany
import Derived.Test.YtbbddolalglmnaaEqArr
namespace Go.Proofs.Ytbbddolalglmnaa
open Go.RowKit Go.Shelf

attribute [local go_sem] Oper.semAt_some ext_const eq_arr

set_option maxRecDepth 100000 in
set_option maxHeartbeats 1000000 in
theorem rmay_calls (d0 d1 d2 : Int) (w : World) :
    Calls Try.prog 29 #[A3 d0 d1 d2] w fun e W' => ((mayD d0 d1 d2 ∧ e = .returned (.bool true)) ∨ (¬ mayD d0 d1 d2 ∧ e = .returned (.bool false))) ∧ Below w.heap.size w W' := by
  go_enter Try.func29, Try.ntmps29
  go_wp2
  go_loop [3] (fun i => i = .int .i64 0 ∨ (i = .int .i64 1 ∧ okD d0) ∨ (i = .int .i64 2 ∧ okD d0 ∧ okD d1) ∨ (i = .int .i64 3 ∧ mayD d0 d1 d2)) (fun i => 3 - (intOf i).toNat)
  case atStart => exact .inl rfl
  case round =>
    have hB : Below w.heap.size w (w.alloc (.cells #[I d0, I d1, I d2] 26)) := (Below.refl _ w).alloc (Nat.le_refl _) _
    rcases hrel with rfl | ⟨rfl, h0⟩ | ⟨rfl, h0, h1⟩ | ⟨rfl, hm⟩
    · by_cases hl : d0 < 1
      · go_wp2
        go_ret
        exact ⟨.inr ⟨fun h => by have := h.1; unfold okD at this; omega, rfl⟩, hB⟩
      · by_cases hg : 16 < d0
        · go_wp2
          go_ret
          exact ⟨.inr ⟨fun h => by have := h.1; unfold okD at this; omega, rfl⟩, hB⟩
        · go_wp2
          go_round
          case rel => exact .inr (.inl ⟨rfl, by unfold okD; omega⟩)
          case measure => simp [intOf]
    · by_cases hl : d1 < 1
      · go_wp2
        go_ret
        exact ⟨.inr ⟨fun h => by have := h.2.1; unfold okD at this; omega, rfl⟩, hB⟩
      · by_cases hg : 16 < d1
        · go_wp2
          go_ret
          exact ⟨.inr ⟨fun h => by have := h.2.1; unfold okD at this; omega, rfl⟩, hB⟩
        · go_wp2
          go_round
          case rel => exact .inr (.inr (.inl ⟨rfl, h0, by unfold okD; omega⟩))
          case measure => simp [intOf]
    · by_cases hl : d2 < 1
      · go_wp2
        go_ret
        exact ⟨.inr ⟨fun h => by have := h.2.2; unfold okD at this; omega, rfl⟩, hB⟩
      · by_cases hg : 16 < d2
        · go_wp2
          go_ret
          exact ⟨.inr ⟨fun h => by have := h.2.2; unfold okD at this; omega, rfl⟩, hB⟩
        · go_wp2
          go_round
          case rel => exact .inr (.inr (.inr ⟨rfl, h0, h1, by unfold okD; omega⟩))
          case measure => simp [intOf]
    · go_wp2
      go_ret
      exact ⟨rfl, hB⟩

theorem rmay_yes {d0 d1 d2 : Int} (w : World) (h : mayD d0 d1 d2) : Calls Try.prog 29 #[A3 d0 d1 d2] w fun e W' => e = .returned (.bool true) ∧ Below w.heap.size w W' := by
  refine (rmay_calls d0 d1 d2 w).mono ?_
  rintro e W' ⟨⟨_, rfl⟩ | ⟨hn, _⟩, hB⟩
  · exact ⟨rfl, hB⟩
  · exact absurd h hn
theorem rmay_no {d0 d1 d2 : Int} (w : World) (h : ¬ mayD d0 d1 d2) : Calls Try.prog 29 #[A3 d0 d1 d2] w fun e W' => e = .returned (.bool false) ∧ Below w.heap.size w W' := by
  refine (rmay_calls d0 d1 d2 w).mono ?_
  rintro e W' ⟨⟨hy, _⟩ | ⟨_, rfl⟩, hB⟩
  · exact absurd hy h
  · exact ⟨rfl, hB⟩

theorem rn_calls {d0 d1 d2 : Int} (w : World) (h : mayD d0 d1 d2) : Calls Try.prog 30 #[A3 d0 d1 d2] w fun e W' => e = .returned (I (d0 * d1 * d2)) ∧ Below w.heap.size w W' := by
  have hn := N_bd h
  have h' := h
  obtain ⟨h0, h1, h2⟩ := h'
  unfold okD at h0 h1 h2
  have hp : 0 ≤ d0 * d1 ∧ d0 * d1 ≤ 16 * 16 := mul_bd (by omega) h0.2 (by omega) h1.2
  go_enter Try.func30, Try.ntmps30
  go_wp2
  go_ret
  exact ⟨rfl, (Below.refl _ w).alloc (Nat.le_refl _) _⟩

theorem rnum_calls {d0 d1 d2 p0 p1 p2 : Int} (w : World) (h : mayD d0 d1 d2) (hp : inD d0 d1 d2 p0 p1 p2) : Calls Try.prog 47 #[A3 d0 d1 d2, A3 p0 p1 p2] w fun e W' => e = .returned (I (numD d0 d1 p0 p1 p2)) ∧ Below w.heap.size w W' := by
  have hn := (node_of_in h hp).1
  have hN := N_bd h
  have h' := h
  obtain ⟨h0, h1, h2⟩ := h'
  unfold okD at h0 h1 h2
  obtain ⟨q0, q1, q2⟩ := hp
  have a1 : 0 ≤ d1 * p2 ∧ d1 * p2 ≤ 16 * 16 := mul_bd (by omega) h1.2 (by omega) (by omega)
  have a2 : 0 ≤ d0 * (p1 + d1 * p2) ∧ d0 * (p1 + d1 * p2) ≤ 16 * 272 := mul_bd (by omega) h0.2 (by omega) (by omega)
  unfold numD at hn ⊢
  generalize d0 * d1 * d2 = N at hn hN
  go_enter Try.func47, Try.ntmps47
  go_wp2
  go_ret
  exact ⟨rfl, ((Below.refl _ w).alloc (Nat.le_refl _) _).alloc (by simp) _⟩

set_option maxRecDepth 100000 in
set_option maxHeartbeats 1000000 in
theorem rwhere_calls {d0 d1 d2 m : Int} (w : World) (h : mayD d0 d1 d2) (hm : 0 ≤ m ∧ m < d0 * d1 * d2) : Calls Try.prog 45 #[A3 d0 d1 d2, I m] w fun e W' => e = .returned (A3 (cx d0 m) (cy d0 d1 m) (cz d0 d1 m)) ∧ Below w.heap.size w W' := by
  have hN := N_bd h
  have hm0 : 0 ≤ m := hm.1
  have hm1 : m ≤ 4096 := by omega
  have h' := h
  obtain ⟨h0, h1, h2⟩ := h'
  unfold okD at h0 h1 h2
  have r0 : 0 ≤ m / d0 := Int.ediv_nonneg hm0 (by omega)
  have r1 : m / d0 ≤ 4096 := Int.le_trans (Int.ediv_le_self _ hm0) hm1
  unfold cx cy cz
  clear hN hm
  obtain ⟨h00, h01⟩ := h0
  obtain ⟨h10, h11⟩ := h1
  go_enter Try.func45, Try.ntmps45
  go_wp2
  obtain ⟨W, hW, hB0, b0, b1⟩ := two_start w #[I d0, I d1, I d2] #[I 0, I 0, I 0] 26 25
  rw [hW]
  clear hW
  have hmx : Try.prog.follows .mixedOrders = true := by kernel_rfl
  have e1 := Ext.cell b0 1
  simp at e1
  refine wp_region_tail 10 hmx (by kernel_rfl) ?_
  simp only [List.take_succ_cons, List.take_zero, List.drop_succ_cons, List.drop_zero]
  repeat (go_big_quiet_step (fail))
  refine wpQuiet_nil ?_
  intro x
  have q1 := b1.later x.le
  obtain ⟨c0, c1, c2, f0, f1, f2⟩ := q1.row
  gi_wp2
  have hBX := below_set3 (below_ext hB0 x) (Nat.le_succ _) (I (m % d0)) (I (m / d0 % d1)) (I (m / d0 / d1))
  have q3 := q1.set3 (I (m % d0)) (I (m / d0 % d1)) (I (m / d0 / d1))
  obtain ⟨j0, j1, j2, _, _, _⟩ := q3.row
  go_wp2
  exact bodyPost_ret (v := A3 (m % d0) (m / d0 % d1) (m / d0 / d1)) (by simp [results, Try.f45, go_sem, j0, j1, j2]) rfl ⟨rfl, hBX⟩

end Go.Proofs.Ytbbddolalglmnaa
