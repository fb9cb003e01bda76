/-
  What tidehalllaw02's helpers answer: the chapter's dimensions, its box A; its first examples hold. BoxNames.
-/
import Derived.Test.YthakcjpipcmogaaBoxNodes
import Derived.Test.YthakcjpipcmogaaEqBox
namespace Go.Proofs.Ythakcjpipcmogaa
open Go.RowKit Go.Shelf

attribute [local go_sem] Oper.semAt_some ext_const eq_arr eq_arr9 same3_self

theorem Lst.two {W : World} {B base : Nat} {x y : Int} (h : Blk W B 3 #[I x, I y]) (hb : base ≤ B) : Lst W base (.slice (some ⟨B, 0, none⟩) 2 2) [x, y] :=
  ⟨rfl, .inr ⟨B, 2, _, rfl, hb, h, Nat.le_refl _, by unfold maxLen; omega, rfl, rfl⟩⟩

theorem may432b : mayD 4 3 2 := by unfold mayD okD; omega
abbrev bxA : Bx := ⟨3, 0, 0, 2, 1, 1⟩
theorem mayA : mayB 4 3 2 bxA := by unfold mayB mayS; decide

theorem some2_calls (w : World) : Calls Try.prog 10 #[] w fun e W' => e = .returned (A3 4 3 2) ∧ Below w.heap.size w W' := by
  go_enter Try.func10, Try.ntmps10
  go_wp2
  exact bodyPost_ret (v := A3 4 3 2) (by simp [results, Try.f10, go_sem]) rfl ⟨rfl, (Below.refl _ w).alloc (Nat.le_refl _) _⟩
theorem first_calls (w : World) : Calls Try.prog 12 #[] w fun e W' => e = .returned (B6 bxA) ∧ Below w.heap.size w W' := by
  go_enter Try.func12, Try.ntmps12
  go_wp2
  exact bodyPost_ret (v := B6 bxA) (by simp [results, Try.f12, go_sem]) rfl ⟨rfl, (Below.refl _ w).alloc (Nat.le_refl _) _⟩

theorem nodesA : nodesB 4 3 2 bxA = [0, 3] := by decide

set_option maxHeartbeats 1000000 in
theorem alive2_calls (w : World) : Calls Try.prog 14 #[] w fun e W' => e = .returned (.bool true) ∧ Below w.heap.size w W' := by
  have HA : Hid (∀ w : World, Calls Try.prog 21 #[A3 4 3 2, B6 bxA] w fun e W' => ∃ v, e = .returned (.tuple #[v, I 0]) ∧ Lst W' w.heap.size v [0, 3] ∧ Below w.heap.size w W') := fun w => by rw [← nodesA]; exact bnodes_ok w may432b mayA
  have HM : Hid (∀ w : World, Calls Try.prog 17 #[A3 4 3 2, B6 ⟨0, 0, 0, 2, 3, 2⟩] w fun e W' => e = .returned (.tuple #[I 12, I 0]) ∧ Below w.heap.size w W') := fun w => bMany_ok w may432b (by unfold mayB mayS; decide)
  go_enter Try.func14, Try.ntmps14
  go_wp2_with fail
  refine (some2_calls _).mono ?_
  rintro e w1 ⟨rfl, hB1⟩
  go_wp2_with fail
  refine (first_calls _).mono ?_
  rintro e w2 ⟨rfl, hB2⟩
  go_wp2_with fail
  refine (HA.out _).mono ?_
  rintro e w3 ⟨v, rfl, hl, hB3⟩
  go_wp2_with fail
  refine (some2_calls _).mono ?_
  rintro e w4 ⟨rfl, hB4⟩
  go_wp2_with fail
  refine (HM.out _).mono ?_
  rintro e w5 ⟨rfl, hB5⟩
  have hl := (hl.later hB4).later hB5
  go_wp2_with fail
  have q := Blk.new w5 3 #[I 0, I 3]
  have hB6 : Below w5.heap.size w5 (w5.alloc (.cells #[I 0, I 3] 3)) := (Below.refl _ w5).alloc (Nat.le_refl _) _
  refine (ints_calls _ (hl.later hB6) (Lst.two (base := 0) q (Nat.zero_le _)) (by decide)).mono ?_
  rintro e w6 ⟨rfl, hB7⟩
  go_wp2
  go_ret
  exact ⟨rfl, then_below (then_below (then_below (then_below (then_below (then_below hB1 hB2) hB3) hB4) hB5) hB6) hB7⟩

set_option maxRecDepth 100000 in
set_option maxHeartbeats 2000000 in
theorem boxNames_walk (w : World) : Calls Try.prog 3 #[] w fun e W' => e = .returned (.bool true) ∧ Below w.heap.size w W' := by
  have hmx : Try.prog.follows .mixedOrders = true := by kernel_rfl
  have KC : Hid (∀ w : World, Calls Try.prog 9 #[A3 4 3 2, B6 ⟨1, 2, 1, 4, 3, 1⟩] w fun e W' => e = .returned (.tuple #[B6 ⟨0, 0, 1, 4, 3, 1⟩, I 0]) ∧ Below w.heap.size w W') := fun w => bcanon_ok (b := ⟨1, 2, 1, 4, 3, 1⟩) w may432b (by unfold mayB mayS; decide)
  have KM : Hid (∀ w : World, Calls Try.prog 11 #[A3 4 3 2, B6 bxA, B6 ⟨0, 0, 0, 1, 1, 1⟩] w fun e W' => e = .returned (.tuple #[.bool true, I 0]) ∧ Below w.heap.size w W') := fun w => bmeet_ok (a := bxA) (b := ⟨0, 0, 0, 1, 1, 1⟩) w may432b mayA (by unfold mayB mayS; decide)
  have KW : Hid (∀ w : World, Calls Try.prog 13 #[A3 4 3 2, B6 ⟨0, 0, 0, 1, 1, 1⟩, B6 bxA] w fun e W' => e = .returned (.tuple #[.bool true, I 0]) ∧ Below w.heap.size w W') := fun w => bwithin_ok (b := bxA) (a := ⟨0, 0, 0, 1, 1, 1⟩) w may432b (by unfold mayB mayS; decide) mayA
  have K2 : Hid (∀ w : World, Calls Try.prog 15 #[A3 4 3 2, B6 ⟨0, 0, 0, 0, 0, 0⟩] w fun e W' => e = .returned (I 2) ∧ Below w.heap.size w W') := fun w => bcheck_calls 4 3 2 ⟨0, 0, 0, 0, 0, 0⟩ w
  have K8 : Hid (∀ w : World, Calls Try.prog 15 #[A3 0 0 0, B6 ⟨0, 0, 0, 1, 1, 1⟩] w fun e W' => e = .returned (I 8) ∧ Below w.heap.size w W') := fun w => bcheck_calls 0 0 0 ⟨0, 0, 0, 1, 1, 1⟩ w
  go_enter Try.func3, Try.ntmps3
  go_wp2_with fail
  refine (some2_calls _).mono ?_
  rintro e w1 ⟨rfl, hB1⟩
  go_wp2_with fail
  refine (KC.out _).mono ?_
  rintro e w2 ⟨rfl, hB2⟩
  have hT := then_below hB1 hB2
  go_wp2_with fail
  obtain ⟨W, hW, hB3, b0, b1⟩ := two_start w2 #[I 0, I 0, I 1, I 4, I 3, I 1] #[I 0, I 0, I 0, I 1, I 1, I 1] 24 24
  rw [hW]
  clear hW
  have hT := then_below hT hB3
  have x0 := Ext.cell b1 0
  have x1 := Ext.cell b1 1
  have x2 := Ext.cell b1 2
  have x3 := Ext.cell b1 3
  have x4 := Ext.cell b1 4
  have x5 := Ext.cell b1 5
  simp at x0 x1 x2 x3 x4 x5
  refine wp_region_look hmx (by kernel_rfl) ?_
  repeat (go_big_quiet_step (first | (go_at_call 10; exact calls_ext (some2_calls _)) | (go_at_call 12; exact calls_ext (first_calls _)) | (go_at_call 11; exact calls_ext (KM.out _))))
  refine wpQuiet_nil ?_
  intro v
  have b0 := b0.later v.le
  have b1 := b1.later v.le
  have hT := then_below hT v.le
  generalize v.wd = W1 at b0 b1 hT ⊢
  clear x0 x1 x2 x3 x4 x5 hB3 v
  go_wp2_with fail
  have x0 := Ext.cell b1 0
  have x1 := Ext.cell b1 1
  have x2 := Ext.cell b1 2
  have x3 := Ext.cell b1 3
  have x4 := Ext.cell b1 4
  have x5 := Ext.cell b1 5
  simp at x0 x1 x2 x3 x4 x5
  refine wp_region_look hmx (by kernel_rfl) ?_
  repeat (go_big_quiet_step (first | (go_at_call 10; exact calls_ext (some2_calls _)) | (go_at_call 12; exact calls_ext (first_calls _)) | (go_at_call 13; exact calls_ext (KW.out _))))
  refine wpQuiet_nil ?_
  intro v
  have b0 := b0.later v.le
  have b1 := b1.later v.le
  have hT := then_below hT v.le
  generalize v.wd = W2 at b0 b1 hT ⊢
  clear x0 x1 x2 x3 x4 x5 v
  go_wp2_with fail
  refine (alive2_calls _).mono ?_
  rintro e w4 ⟨rfl, hB4⟩
  have b0 := b0.later hB4
  have b1 := b1.later hB4
  have hT := then_below hT hB4
  clear hB4
  obtain ⟨⟨c0, c1, c2, c3, c4, c5⟩, _⟩ := b0.row6
  go_wp2_with fail
  refine (some2_calls _).mono ?_
  rintro e w5 ⟨rfl, hB5⟩
  have b1 := b1.later hB5
  have hT := then_below hT hB5
  clear hB5 c0 c1 c2 c3 c4 c5
  go_wp2_with fail
  refine (K2.out _).mono ?_
  rintro e w6 ⟨rfl, hB6⟩
  have b1 := b1.later hB6
  have hT := then_below hT hB6
  clear hB6
  obtain ⟨⟨c0, c1, c2, c3, c4, c5⟩, _⟩ := b1.row6
  go_wp2_with fail
  refine (K8.out _).mono ?_
  rintro e w7 ⟨rfl, hB7⟩
  go_wp2
  go_ret
  exact ⟨rfl, then_below hT hB7⟩

end Go.Proofs.Ythakcjpipcmogaa
