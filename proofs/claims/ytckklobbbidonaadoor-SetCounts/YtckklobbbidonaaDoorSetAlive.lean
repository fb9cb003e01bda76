/-
  The chapter's first examples (the statements' 'alive').
-/
import Derived.Test.YtckklobbbidonaaDoorRefCalls
import Derived.Test.YtckklobbbidonaaDoorSetOf
namespace Go.Proofs.YtckklobbbidonaaDoor
open Go Go.RowKit Go.Shelf

theorem alive_err : errAll 70 [[8, 32]] = 0 := by decide +kernel
theorem alive_list : listR 70 [8, 32] = [3, 69] := by decide +kernel
theorem alive_of : ofErr 70 [3, 69, 3] = 0 := by decide +kernel
theorem alive_ok : ofOk 70 [3, 69, 3] = true := by decide +kernel
theorem alive_bits : ∀ k, k < 128 → hasW [8, 32] k = inL [3, 69, 3] k := by decide +kernel
theorem alive_set {ws : List Nat} (h : OfIs 70 [3, 69, 3] ws) : ws = [8, 32] := by
  refine (h.yes alive_ok).ext ⟨rfl, fun x hx => ?_, fun k => ?_⟩
  · simp at hx
    rcases hx with rfl | rfl <;> decide
  · by_cases hk : k < 128
    · exact alive_bits k hk
    · rw [hasW_past (by simp; omega)]
      unfold inL
      symm
      rw [Bool.eq_false_iff]
      intro hc
      simp at hc
      omega

theorem its_of_blk {W : World} {g : Nat} {xs : List Int} {t : TypeId} (h : Blk W g t (xs.map I).toArray) (cap : Nat) : Its W (.slice (some ⟨g, 0, none⟩) xs.length cap) xs := by
  have := Sl.blk h cap
  rw [List.length_map] at this
  exact this
theorem wds_of_blk {W : World} {g : Nat} {ws : List Nat} {t : TypeId} (hw : ∀ x ∈ ws, x < 18446744073709551616) (h : Blk W g t (ws.map U).toArray) (cap : Nat) : Wds W (.slice (some ⟨g, 0, none⟩) ws.length cap) ws := by
  have := Sl.blk h cap
  rw [List.length_map] at this
  exact ⟨hw, this⟩

set_option maxRecDepth 100000 in
set_option maxHeartbeats 2000000 in
theorem alive_calls (w : World) (hTab : TabOk w) : Calls Tryd.prog 10 #[] w fun e W' => e = .returned (.bool true) ∧ Below w.heap.size w W' := by
  go_enter Tryd.func10, Tryd.ntmps10
  go_wp2_with fail
  have hT1 := (Below.refl _ w).alloc (Nat.le_refl _) (.cells #[I 3, I 69, I 3] 3)
  have hb : Blk (w.alloc (.cells #[I 3, I 69, I 3] 3)) w.heap.size 3 (List.map I [3, 69, 3]).toArray := Blk.new w _ _
  have C := of_calls (v := .slice (some ⟨w.heap.size, 0, none⟩) 3 3) (l := [3, 69, 3]) _ (its_of_blk hb 3) (by simp) 70
  rw [alive_of] at C
  refine C.mono ?_
  rintro e w2 ⟨s, ws, rfl, hR, hO, hT2⟩
  obtain rfl := alive_set hO
  have hT := then_below hT1 hT2
  clear C hO hT1 hT2 hb
  go_wp2_with fail
  have D := list_calls w2 (hTab.later hT) hR.wds 70
  rw [alive_err, alive_list] at D
  refine D.mono ?_
  rintro e w3 ⟨l, rfl, hL, hT3⟩
  have hR := hR.later hT3
  have hT := then_below hT hT3
  clear D hT3
  go_wp2_with fail
  have hT4 := (Below.refl _ w3).alloc (Nat.le_refl _) (.cells #[U 8, U 32] 25)
  have hb : Blk (w3.alloc (.cells #[U 8, U 32] 25)) w3.heap.size 25 (List.map U [8, 32]).toArray := Blk.new w3 _ _
  have S := same_calls (xs := [8, 32]) (ys := [8, 32]) (v := .slice (some ⟨w3.heap.size, 0, none⟩) 2 2) _ (hR.wds.later hT4) (wds_of_blk (by intro x hx; simp at hx; rcases hx with rfl | rfl <;> decide) hb 2) (by simp)
  rw [decide_eq_true rfl] at S
  refine S.mono ?_
  rintro e w4 ⟨rfl, hT5⟩
  have hT := then_below hT (then_below hT4 hT5)
  have hL := hL.later (then_below hT4 hT5)
  clear S hb hT4 hT5 hR
  go_wp2_with fail
  have hT4 := (Below.refl _ w4).alloc (Nat.le_refl _) (.cells #[I 3, I 69] 3)
  have hb : Blk (w4.alloc (.cells #[I 3, I 69] 3)) w4.heap.size 3 (List.map I [3, 69]).toArray := Blk.new w4 _ _
  have S := ints2_calls (xs := [3, 69]) (ys := [3, 69]) (v := .slice (some ⟨w4.heap.size, 0, none⟩) 2 2) _ (hL.its.later hT4) (its_of_blk hb 2) (by simp)
  rw [decide_eq_true rfl] at S
  refine S.mono ?_
  rintro e w5 ⟨rfl, hT5⟩
  have hT := then_below hT (then_below hT4 hT5)
  clear S hb hT4 hT5 hL
  go_wp2
  go_ret
  exact ⟨rfl, hT⟩

end Go.Proofs.YtckklobbbidonaaDoor
