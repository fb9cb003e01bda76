/-
  tidehalllaw05.WireNames returns true; nothing that lay before is turned.
-/
import Derived.Test.YtbbddolalglmnaaLawWire
namespace Go.Proofs.Ytbbddolalglmnaa
open Go Go.RowKit Go.Shelf

attribute [local go_sem] Oper.semAt_some ext_const

theorem link431b (w : World) : Calls Try.prog 8 #[A3 4 3 1, I 2, I 5] w fun e W' => e = .returned (.tuple #[I 0, I 6]) ∧ Below w.heap.size w W' :=
  link_none (k := 2) (m := 5) w may431 (by omega) rfl (by decide)
theorem ends431b (w : World) : Calls Try.prog 10 #[A3 4 3 1, I 30] w fun e W' => e = .returned (.tuple #[I 0, I 0, I 0, I 6]) ∧ Below w.heap.size w W' :=
  ends_none (m := 6) w may431 (by omega) 2 (by decide)
theorem run431a (w : World) : Calls Try.prog 11 #[A3 4 3 1, I 0, I 3, I 2, .bool false] w fun e W' => ∃ v, e = .returned (.tuple #[v, I 0]) ∧ Lst W' w.heap.size v [3] ∧ Below w.heap.size w W' := by
  have e0 : cablesW 4 3 1 3 0 (mostW (dimAt 4 3 1 0) 2 false).toNat = [3] := by decide +kernel
  rw [← e0]
  exact wrun_yes (k := 0) (m := 3) false w may431 (by omega) rfl (by decide)
theorem run431b (w : World) : Calls Try.prog 11 #[A3 4 3 1, I 0, I 3, I 2, .bool true] w fun e W' => ∃ v, e = .returned (.tuple #[v, I 0]) ∧ Lst W' w.heap.size v [0, 1, 2, 3] ∧ Below w.heap.size w W' := by
  have e0 : cablesW 4 3 1 3 0 (mostW (dimAt 4 3 1 0) 2 true).toNat = [0, 1, 2, 3] := by decide +kernel
  rw [← e0]
  exact wrun_yes (k := 0) (m := 3) true w may431 (by omega) rfl (by decide)
theorem run431c (w : World) : Calls Try.prog 11 #[A3 4 3 1, I 0, I 3, I 1, .bool true] w fun e W' => ∃ v, e = .returned (.tuple #[v, I 0]) ∧ Lst W' w.heap.size v [] ∧ Below w.heap.size w W' := by
  have e0 : cablesW 4 3 1 3 0 (mostW (dimAt 4 3 1 0) 1 true).toNat = [] := by decide +kernel
  rw [← e0]
  exact wrun_yes (k := 0) (m := 3) true w may431 (by omega) rfl (by decide)

/-- A list that stands in a new block, as it was written down. -/
theorem Lst.one {W : World} {B : Nat} {x : Int} (h : Blk W B 3 #[I x]) : Lst W 0 (.slice (some ⟨B, 0, none⟩) 1 1) [x] :=
  ⟨rfl, .inr ⟨B, 1, _, rfl, Nat.zero_le _, h, Nat.le_refl _, by decide, rfl, rfl⟩⟩
theorem Lst.four {W : World} {B : Nat} {x y z t : Int} (h : Blk W B 3 #[I x, I y, I z, I t]) : Lst W 0 (.slice (some ⟨B, 0, none⟩) 4 4) [x, y, z, t] :=
  ⟨rfl, .inr ⟨B, 4, _, rfl, Nat.zero_le _, h, Nat.le_refl _, by decide, rfl, rfl⟩⟩

set_option maxRecDepth 100000 in
set_option maxHeartbeats 2000000 in
theorem wireNames_walk (w : World) : Calls Try.prog 3 #[] w fun e W' => e = .returned (.bool true) ∧ Below w.heap.size w W' := by
  go_enter Try.func3, Try.ntmps3
  go_wp2_with fail
  refine (some5_calls _).mono ?_
  rintro e w1 ⟨rfl, hB⟩
  have hT := hB
  clear hB
  go_wp2_with fail
  refine (link431b _).mono ?_
  rintro e w2 ⟨rfl, hB⟩
  have hT := then_below hT hB
  clear hB
  go_wp2_with fail
  refine (some5_calls _).mono ?_
  rintro e w3 ⟨rfl, hB⟩
  have hT := then_below hT hB
  clear hB
  go_wp2_with fail
  refine (ends431b _).mono ?_
  rintro e w4 ⟨rfl, hB⟩
  have hT := then_below hT hB
  clear hB
  go_wp2_with fail
  refine (some5_calls _).mono ?_
  rintro e w5 ⟨rfl, hB⟩
  have hT := then_below hT hB
  clear hB
  go_wp2_with fail
  refine (run431a _).mono ?_
  rintro e w6 ⟨u, rfl, hu, hB⟩
  have hT := then_below hT hB
  clear hB
  go_wp2_with fail
  refine (some5_calls _).mono ?_
  rintro e w7 ⟨rfl, hB⟩
  have hu := hu.later hB
  have hT := then_below hT hB
  clear hB
  go_wp2_with fail
  refine (run431b _).mono ?_
  rintro e w8 ⟨v, rfl, hv, hB⟩
  have hu := hu.later hB
  have hT := then_below hT hB
  clear hB
  go_wp2_with fail
  refine (some5_calls _).mono ?_
  rintro e w9 ⟨rfl, hB⟩
  have hu := hu.later hB
  have hv := hv.later hB
  have hT := then_below hT hB
  clear hB
  go_wp2_with fail
  refine (run431c _).mono ?_
  rintro e w10 ⟨s, rfl, hs, hB⟩
  have hu := hu.later hB
  have hv := hv.later hB
  have hT := then_below hT hB
  clear hB
  obtain ⟨as', cs', rfl, _⟩ := hs.view
  go_wp2_with fail
  refine (alive5_calls _).mono ?_
  rintro e w11 ⟨rfl, hB⟩
  have hu := hu.later hB
  have hv := hv.later hB
  have hT := then_below hT hB
  clear hB
  go_wp2_with fail
  have hx := Lst.one (Blk.new w11 3 #[I 3])
  have hu := hu.alloc (.cells #[I 3] 3)
  have hv := hv.alloc (.cells #[I 3] 3)
  have hT := then_alloc hT (.cells #[I 3] 3)
  have KI := ints_calls _ hu hx (by simp)
  simp only [decide_true] at KI
  refine KI.mono ?_
  rintro e w12 ⟨rfl, hB⟩
  have hv := Lst.later hv hB
  have hT := then_below hT hB
  clear hB KI hx hu
  go_wp2_with fail
  have hx := Lst.four (Blk.new w12 3 #[I 0, I 1, I 2, I 3])
  have hv := hv.alloc (.cells #[I 0, I 1, I 2, I 3] 3)
  have hT := then_alloc hT (.cells #[I 0, I 1, I 2, I 3] 3)
  have KI := ints_calls _ hv hx (by simp)
  simp only [decide_true] at KI
  refine KI.mono ?_
  rintro e w13 ⟨rfl, hB⟩
  have hT := then_below hT hB
  go_wp2
  go_ret
  exact ⟨rfl, hT⟩

end Go.Proofs.Ytbbddolalglmnaa
