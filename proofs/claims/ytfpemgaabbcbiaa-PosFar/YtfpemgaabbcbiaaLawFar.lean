/-
  tidehalllaw01.PosFar returns true, whatever it is handed; nothing that lay before is turned.
-/
import Derived.Test.YtfpemgaabbcbiaaLawRound
namespace Go.Proofs.Ytfpemgaabbcbiaa
open Go.RowKit Go.Shelf

attribute [local go_sem] Oper.semAt_some ext_const eq_arr

set_option maxRecDepth 100000 in
set_option maxHeartbeats 2000000 in
theorem far_off {d0 d1 d2 : Int} (a b c n e : Int) (w : World)
    (hM : ∀ w : World, Calls Try.prog 14 #[A3 d0 d1 d2] w fun e' W' => e' = .returned (.tuple #[I n, I e]) ∧ Below w.heap.size w W')
    (hc : (e != 0) = true ∨ ((e != 0) = false ∧ (a < 0 ∨ n ≤ a ∨ b < 0 ∨ n ≤ b ∨ c < 0 ∨ n ≤ c))) :
    Calls Try.prog 8 #[A3 d0 d1 d2, I a, I b, I c] w fun e W' => e = .returned (.bool true) ∧ Below w.heap.size w W' := by
  have HM : Hid (∀ w : World, Calls Try.prog 14 #[A3 d0 d1 d2] w fun e' W' => e' = .returned (.tuple #[I n, I e]) ∧ Below w.heap.size w W') := hM
  clear hM
  have fin : (e != 0) = true ∨ ((e != 0) = false ∧ (a < 0 ∨ (0 ≤ a ∧ n ≤ a) ∨ (0 ≤ a ∧ a < n ∧ b < 0) ∨ (0 ≤ a ∧ a < n ∧ 0 ≤ b ∧ n ≤ b) ∨ (0 ≤ a ∧ a < n ∧ 0 ≤ b ∧ b < n ∧ c < 0) ∨ (0 ≤ a ∧ a < n ∧ 0 ≤ b ∧ b < n ∧ 0 ≤ c ∧ n ≤ c))) := by
    rcases hc with h | ⟨h, h'⟩
    · exact .inl h
    · exact .inr ⟨h, by omega⟩
  clear hc
  rcases fin with h | ⟨h, h1 | ⟨h1, h2⟩ | ⟨h1, h2, h3⟩ | ⟨h1, h2, h3, h4⟩ | ⟨h1, h2, h3, h4, h5⟩ | ⟨h1, h2, h3, h4, h5, h6⟩⟩
  all_goals
    go_enter Try.func8, Try.ntmps8
    go_wp2_with fail
    refine (alive_calls _).mono ?_
    rintro e w1 ⟨rfl, hB1⟩
    obtain ⟨c0, c1, c2, hz⟩ := (Blk.new w 26 #[I d0, I d1, I d2]).three hB1
    go_wp2_with fail
    refine (HM.out _).mono ?_
    rintro e w2 ⟨rfl, hB2⟩
    go_wp2
    go_ret
    exact ⟨rfl, then_below (then_below ((Below.refl _ w).alloc (Nat.le_refl _) _) hB1) hB2⟩

set_option maxRecDepth 100000 in
set_option maxHeartbeats 4000000 in
theorem far_main {d0 d1 d2 a b c : Int} (w : World) (hm : mayD d0 d1 d2) (ha : 0 ≤ a ∧ a < d0 * d1 * d2) (hb : 0 ≤ b ∧ b < d0 * d1 * d2) (hc : 0 ≤ c ∧ c < d0 * d1 * d2) :
    Calls Try.prog 8 #[A3 d0 d1 d2, I a, I b, I c] w fun e W' => e = .returned (.bool true) ∧ Below w.heap.size w W' := by
  have HA : Hid (0 ≤ a ∧ a < d0 * d1 * d2) := ha
  have fab := fun w => far_yes w hm ha hb
  have fba := fun w => far_yes w hm hb ha
  have fbc := fun w => far_yes w hm hb hc
  have fac := fun w => far_yes w hm ha hc
  rw [← far_sym hm ha hb] at fba
  have hq : (farD d0 d1 d2 a b == 0) = (a == b) := by rw [Bool.eq_iff_iff, beq_iff_eq, beq_iff_eq]; exact far_zero hm ha hb
  have ht := far_tri hm ha hb hc
  have xb := far_bd hm a b
  have zb := far_bd hm b c
  have vb := far_bd hm a c
  generalize farD d0 d1 d2 a b = X at *
  generalize farD d0 d1 d2 b c = Z at *
  generalize farD d0 d1 d2 a c = V at *
  have FAB : Hid (∀ w : World, Calls Try.prog 11 #[A3 d0 d1 d2, I a, I b] w fun x W' => x = .returned (.tuple #[I X, I 0]) ∧ Below w.heap.size w W') := fab
  have FBA : Hid (∀ w : World, Calls Try.prog 11 #[A3 d0 d1 d2, I b, I a] w fun x W' => x = .returned (.tuple #[I X, I 0]) ∧ Below w.heap.size w W') := fba
  have FBC : Hid (∀ w : World, Calls Try.prog 11 #[A3 d0 d1 d2, I b, I c] w fun x W' => x = .returned (.tuple #[I Z, I 0]) ∧ Below w.heap.size w W') := fbc
  have FAC : Hid (∀ w : World, Calls Try.prog 11 #[A3 d0 d1 d2, I a, I c] w fun x W' => x = .returned (.tuple #[I V, I 0]) ∧ Below w.heap.size w W') := fac
  clear fab fba fbc fac
  obtain ⟨ha1, ha2⟩ := ha
  obtain ⟨hb1, hb2⟩ := hb
  obtain ⟨hc1, hc2⟩ := hc
  obtain ⟨xb1, xb2⟩ := xb
  obtain ⟨zb1, zb2⟩ := zb
  obtain ⟨vb1, vb2⟩ := vb
  go_enter Try.func8, Try.ntmps8
  go_wp2_with fail
  have b0 := Blk.new w 26 #[I d0, I d1, I d2]
  have hB0 : Below w.heap.size w (w.alloc (.cells #[I d0, I d1, I d2] 26)) := (Below.refl _ w).alloc (Nat.le_refl _) _
  generalize w.alloc (.cells #[I d0, I d1, I d2] 26) = W at *
  refine (alive_calls _).mono ?_
  rintro e w1 ⟨rfl, hT⟩
  obtain ⟨c0, c1, c2, hz⟩ := b0.three hT
  go_wp2_with fail
  refine (many_yes _ hm).mono ?_
  rintro e w2 ⟨rfl, hB2⟩
  have hT := then_below hT hB2
  clear hB2 c0 c1 c2 hz
  obtain ⟨c0, c1, c2, hz⟩ := b0.three hT
  go_wp2_with fail
  refine (FAB.out _).mono ?_
  rintro e w3 ⟨rfl, hB3⟩
  have hT := then_below hT hB3
  clear hB3 c0 c1 c2 hz
  obtain ⟨c0, c1, c2, hz⟩ := b0.three hT
  go_wp2_with fail
  refine (FBA.out _).mono ?_
  rintro e w4 ⟨rfl, hB4⟩
  have hT := then_below hT hB4
  clear hB4 c0 c1 c2 hz
  obtain ⟨c0, c1, c2, hz⟩ := b0.three hT
  go_wp2_with fail
  refine (FBC.out _).mono ?_
  rintro e w5 ⟨rfl, hB5⟩
  have hT := then_below hT hB5
  clear hB5 c0 c1 c2 hz
  obtain ⟨c0, c1, c2, hz⟩ := b0.three hT
  go_wp2_with fail
  refine (FAC.out _).mono ?_
  rintro e w6 ⟨rfl, hB6⟩
  have hT := then_below hT hB6
  clear hB6 c0 c1 c2 hz
  go_wp2_with fail
  clear hq ht
  clear FAB FBA FBC FAC
  go_loopw [20] (fun i wr => (i = .int .i64 0 ∨ i = .int .i64 1 ∨ i = .int .i64 2 ∨ i = .int .i64 3) ∧ Below W.heap.size W wr) (fun i _ => 3 - (intOf i).toNat)
  case atStart => exact ⟨.inl rfl, hT⟩
  case round =>
    obtain ⟨hi, hT⟩ := hrel
    obtain ⟨c0, c1, c2, hz⟩ := b0.three hT
    rcases hi with rfl | rfl | rfl | rfl
    · have NK : Hid (0 ≤ onD d0 d1 d2 a 0 1 ∧ onD d0 d1 d2 a 0 1 < d0 * d1 * d2) := on_node hm HA.out 0 1
      have fo := far_on hm HA.out 0
      simp only [dimAt] at fo
      have fk := fun w => far_yes w hm HA.out NK.out
      go_wp2_with fail
      refine (step_l0 _ hm HA.out).mono ?_
      rintro e w8 ⟨rfl, hB8⟩
      have hT := then_below hT hB8
      clear hB8 c0 c1 c2 hz
      obtain ⟨c0, c1, c2, hz⟩ := b0.three hT
      generalize onD d0 d1 d2 a 0 1 = t at *
      have FK : Hid (∀ w : World, Calls Try.prog 11 #[A3 d0 d1 d2, I a, I t] w fun x W' => x = .returned (.tuple #[I (farD d0 d1 d2 a t), I 0]) ∧ Below w.heap.size w W') := fk
      have FO : Hid (farD d0 d1 d2 a t = if 1 < d0 then 1 else 0) := fo
      clear fk fo
      go_wp2_with fail
      refine (FK.out _).mono ?_
      rintro e w9 ⟨rfl, hB9⟩
      have hT := then_below hT hB9
      clear hB9 c0 c1 c2 hz
      obtain ⟨c0, c1, c2, hz⟩ := b0.three hT
      rw [FO.out]
      by_cases hd : 1 < d0
      · rw [if_pos hd]
        go_wp2
        go_roundw
        case rel => exact ⟨by simp, hT⟩
        case measure => simp [intOf]
      · rw [if_neg hd]
        go_wp2
        go_roundw
        case rel => exact ⟨by simp, hT⟩
        case measure => simp [intOf]
    · have NK : Hid (0 ≤ onD d0 d1 d2 a 1 1 ∧ onD d0 d1 d2 a 1 1 < d0 * d1 * d2) := on_node hm HA.out 1 1
      have fo := far_on hm HA.out 1
      simp only [dimAt] at fo
      have fk := fun w => far_yes w hm HA.out NK.out
      go_wp2_with fail
      refine (step_l1 _ hm HA.out).mono ?_
      rintro e w8 ⟨rfl, hB8⟩
      have hT := then_below hT hB8
      clear hB8 c0 c1 c2 hz
      obtain ⟨c0, c1, c2, hz⟩ := b0.three hT
      generalize onD d0 d1 d2 a 1 1 = t at *
      have FK : Hid (∀ w : World, Calls Try.prog 11 #[A3 d0 d1 d2, I a, I t] w fun x W' => x = .returned (.tuple #[I (farD d0 d1 d2 a t), I 0]) ∧ Below w.heap.size w W') := fk
      have FO : Hid (farD d0 d1 d2 a t = if 1 < d1 then 1 else 0) := fo
      clear fk fo
      go_wp2_with fail
      refine (FK.out _).mono ?_
      rintro e w9 ⟨rfl, hB9⟩
      have hT := then_below hT hB9
      clear hB9 c0 c1 c2 hz
      obtain ⟨c0, c1, c2, hz⟩ := b0.three hT
      rw [FO.out]
      by_cases hd : 1 < d1
      · rw [if_pos hd]
        go_wp2
        go_roundw
        case rel => exact ⟨by simp, hT⟩
        case measure => simp [intOf]
      · rw [if_neg hd]
        go_wp2
        go_roundw
        case rel => exact ⟨by simp, hT⟩
        case measure => simp [intOf]
    · have NK : Hid (0 ≤ onD d0 d1 d2 a 2 1 ∧ onD d0 d1 d2 a 2 1 < d0 * d1 * d2) := on_node hm HA.out 2 1
      have fo := far_on hm HA.out 2
      simp only [dimAt] at fo
      have fk := fun w => far_yes w hm HA.out NK.out
      go_wp2_with fail
      refine (step_l2 _ hm HA.out).mono ?_
      rintro e w8 ⟨rfl, hB8⟩
      have hT := then_below hT hB8
      clear hB8 c0 c1 c2 hz
      obtain ⟨c0, c1, c2, hz⟩ := b0.three hT
      generalize onD d0 d1 d2 a 2 1 = t at *
      have FK : Hid (∀ w : World, Calls Try.prog 11 #[A3 d0 d1 d2, I a, I t] w fun x W' => x = .returned (.tuple #[I (farD d0 d1 d2 a t), I 0]) ∧ Below w.heap.size w W') := fk
      have FO : Hid (farD d0 d1 d2 a t = if 1 < d2 then 1 else 0) := fo
      clear fk fo
      go_wp2_with fail
      refine (FK.out _).mono ?_
      rintro e w9 ⟨rfl, hB9⟩
      have hT := then_below hT hB9
      clear hB9 c0 c1 c2 hz
      obtain ⟨c0, c1, c2, hz⟩ := b0.three hT
      rw [FO.out]
      by_cases hd : 1 < d2
      · rw [if_pos hd]
        go_wp2
        go_roundw
        case rel => exact ⟨by simp, hT⟩
        case measure => simp [intOf]
      · rw [if_neg hd]
        go_wp2
        go_roundw
        case rel => exact ⟨by simp, hT⟩
        case measure => simp [intOf]
    · go_wp2
      go_ret
      exact ⟨rfl, then_below hB0 hT⟩

theorem posFar_walk (d0 d1 d2 a b c : Int) (w : World) :
    Calls Try.prog 8 #[A3 d0 d1 d2, I a, I b, I c] w fun e W' => e = .returned (.bool true) ∧ Below w.heap.size w W' := by
  by_cases hm : mayD d0 d1 d2
  · by_cases hg : (0 ≤ a ∧ a < d0 * d1 * d2) ∧ (0 ≤ b ∧ b < d0 * d1 * d2) ∧ (0 ≤ c ∧ c < d0 * d1 * d2)
    · exact far_main w hm hg.1 hg.2.1 hg.2.2
    · exact far_off a b c (d0 * d1 * d2) 0 w (fun w => many_yes w hm) (.inr ⟨rfl, by omega⟩)
  · exact far_off a b c 0 8 w (fun w => many_no w hm) (.inl rfl)

end Go.Proofs.Ytfpemgaabbcbiaa
