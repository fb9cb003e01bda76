/-
  The statement SetNames, walked.
-/
import Derived.Test.YtckklobbbidonaaDoorSetAlive
namespace Go.Proofs.YtckklobbbidonaaDoor
open Go Go.RowKit Go.Shelf

theorem names_many : manyR 70 [8, 32] = 2 := by decide +kernel
theorem names_of : ofErr 70 [70] = 2 := by decide +kernel
theorem names_far : ofErr 12289 [] = 2 := by decide +kernel
theorem names_most : ofErr 12288 [] = 0 := by decide +kernel
theorem names_few : errAll 70 [[8]] = 8 := by decide +kernel
theorem names_bit : errAll 70 [[0, 64]] = 8 := by decide +kernel

set_option maxRecDepth 100000 in
set_option maxHeartbeats 4000000 in
theorem setNames_walk (w : World) (hTab : TabOk w) : Calls Tryd.prog 3 #[] w fun e W' => e = .returned (.bool true) ∧ Below w.heap.size w W' := by
  go_enter Tryd.func3, Tryd.ntmps3
  go_wp2_with fail
  have hT := (Below.refl _ w).alloc (Nat.le_refl _) (.cells #[U 8, U 32] 25)
  have hb : Blk (w.alloc (.cells #[U 8, U 32] 25)) w.heap.size 25 (List.map U [8, 32]).toArray := Blk.new w _ _
  have C := manyn_calls (v := .slice (some ⟨w.heap.size, 0, none⟩) 2 2) _ (wds_of_blk (by intro x hx; simp at hx; rcases hx with rfl | rfl <;> decide) hb 2) 70
  rw [names_many, alive_err] at C
  refine C.mono ?_
  rintro e w1 ⟨rfl, hT2⟩
  have hT := then_below hT hT2
  clear C hb hT2
  go_wp2_with fail
  have hT1 := (Below.refl _ w1).alloc (Nat.le_refl _) (.cells #[I 70] 3)
  have hb : Blk (w1.alloc (.cells #[I 70] 3)) w1.heap.size 3 (List.map I [70]).toArray := Blk.new w1 _ _
  have C := of_calls (v := .slice (some ⟨w1.heap.size, 0, none⟩) 1 1) (l := [70]) _ (its_of_blk hb 1) (by simp) 70
  rw [names_of] at C
  refine C.mono ?_
  rintro e w2 ⟨_, _, rfl, _, _, hT2⟩
  have hT := then_below hT (then_below hT1 hT2)
  clear C hb hT1 hT2
  go_wp2_with fail
  have C := of_calls (v := .slice none 0 0) (l := []) w2 (Its.nil w2) (by simp) 12289
  rw [names_far] at C
  refine C.mono ?_
  rintro e w3 ⟨_, _, rfl, _, _, hT2⟩
  have hT := then_below hT hT2
  clear C hT2
  go_wp2_with fail
  have C := of_calls (v := .slice none 0 0) (l := []) w3 (Its.nil w3) (by simp) 12288
  rw [names_most] at C
  refine C.mono ?_
  rintro e w4 ⟨_, _, rfl, _, _, hT2⟩
  have hT := then_below hT hT2
  clear C hT2
  go_wp2_with fail
  refine (alive_calls _ (hTab.later hT)).mono ?_
  rintro e w5 ⟨rfl, hT2⟩
  have hT := then_below hT hT2
  clear hT2
  go_wp2_with fail
  have hT1 := (Below.refl _ w5).alloc (Nat.le_refl _) (.cells #[U 8] 25)
  have hb : Blk (w5.alloc (.cells #[U 8] 25)) w5.heap.size 25 (List.map U [8]).toArray := Blk.new w5 _ _
  have C := chk_calls (v := .slice (some ⟨w5.heap.size, 0, none⟩) 1 1) _ (wds_of_blk (by intro x hx; simp at hx; subst hx; decide) hb 1) 70
  rw [names_few] at C
  refine C.mono ?_
  rintro e w6 ⟨rfl, hT2⟩
  have hT := then_below hT (then_below hT1 hT2)
  clear C hb hT1 hT2
  go_wp2_with fail
  have hT1 := (Below.refl _ w6).alloc (Nat.le_refl _) (.cells #[U 0, U 64] 25)
  have hb : Blk (w6.alloc (.cells #[U 0, U 64] 25)) w6.heap.size 25 (List.map U [0, 64]).toArray := Blk.new w6 _ _
  have C := chk_calls (v := .slice (some ⟨w6.heap.size, 0, none⟩) 2 2) _ (wds_of_blk (by intro x hx; simp at hx; rcases hx with rfl | rfl <;> decide) hb 2) 70
  rw [names_bit] at C
  refine C.mono ?_
  rintro e w7 ⟨rfl, hT2⟩
  have hT := then_below hT (then_below hT1 hT2)
  clear C hb hT1 hT2
  go_wp2
  go_ret
  exact ⟨rfl, hT⟩

end Go.Proofs.YtckklobbbidonaaDoor
