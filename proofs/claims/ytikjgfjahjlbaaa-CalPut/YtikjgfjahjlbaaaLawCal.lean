/-
  The statements of cal: slot, some, alive; CalNames.
-/
import Derived.Test.YtikjgfjahjlbaaaCalRef
import Derived.Test.YtikjgfjahjlbaaaCalNext
import Derived.Test.YtikjgfjahjlbaaaCalPut
namespace Go.Proofs.Ytikjgfjahjlbaaa
open Go Go.RowKit Go.Shelf

attribute [local go_sem] Oper.semAt_some ext_const

theorem So.laid (W : World) (base : Nat) (hb : base ≤ W.heap.size) (xs : List Slt) (hl : xs.length ≤ 100) : So (W.alloc (.cells (flatS xs).toArray 36)) base (.slice (some ⟨W.heap.size, 0, none⟩) xs.length xs.length) xs :=
  ⟨flatS_len xs, .inr ⟨W.heap.size, xs.length, (flatS xs).toArray, rfl, hb, Blk.new W _ _, Nat.le_refl _, by unfold maxLen; omega, by simp [flatS_len], by simp [← flatS_len]⟩⟩

theorem slot_calls (f t o : Int) (w : World) : Calls Try.prog 16 #[I f, I t, I o] w fun e W' => e = .returned (V3 f t o) ∧ Below w.heap.size w W' := by
  obtain ⟨W, hW, hB, hK⟩ := one_start w (C3 f t o) 36
  have HW : Hid (w.alloc (.cells (C3 f t o) 36) = W) := hW
  obtain ⟨_, j0, j1, j2⟩ := hK.at3.cells
  clear hW
  go_enter Try.func16, Try.ntmps16
  go_wp2
  rw [HW.out]
  exact bodyPost_ret (v := V3 f t o) (by simp [results, Try.f16, go_sem, j0, j1, j2]) rfl ⟨rfl, hB⟩

def someC : List Slt := [(1, 3, 7), (5, 9, 8)]
theorem some_may : mayC someC := mayCB_iff.1 (by decide)

theorem some_calls (w : World) : Calls Try.prog 10 #[] w fun e W' => ∃ u, e = .returned u ∧ So W' w.heap.size u someC ∧ Below w.heap.size w W' := by
  have HA : Hid (∀ w, Calls Try.prog 16 #[I 1, I 3, I 7] w fun e W' => e = .returned (V3 1 3 7) ∧ Below w.heap.size w W') := slot_calls 1 3 7
  have HB : Hid (∀ w, Calls Try.prog 16 #[I 5, I 9, I 8] w fun e W' => e = .returned (V3 5 9 8) ∧ Below w.heap.size w W') := slot_calls 5 9 8
  go_enter Try.func10, Try.ntmps10
  go_wp2_with fail
  refine (HA.out _).mono ?_
  rintro e w1 ⟨rfl, hT⟩
  go_wp2_with fail
  refine (HB.out _).mono ?_
  rintro e w2 ⟨rfl, hB2⟩
  have HL : Hid (So (w2.alloc (.cells (flatS someC).toArray 36)) w.heap.size (.slice (some ⟨w2.heap.size, 0, none⟩) 2 2) someC) := So.laid w2 w.heap.size (Nat.le_trans hT.size hB2.size) someC (by decide)
  have hB3 := (Below.refl _ w2).alloc (Nat.le_refl _) (.cells (flatS someC).toArray 36)
  go_wp2
  go_ret
  exact ⟨_, rfl, HL.out, then_below hT (then_below hB2 hB3)⟩

set_option maxRecDepth 100000 in
set_option maxHeartbeats 8000000 in
theorem aliveC_calls (w : World) : Calls Try.prog 14 #[] w fun e W' => e = .returned (.bool true) ∧ Below w.heap.size w W' := by
  have HS := some_calls
  have HS : Hid (∀ w, Calls Try.prog 10 #[] w fun e W' => ∃ u, e = .returned u ∧ So W' w.heap.size u someC ∧ Below w.heap.size w W') := HS
  have HA : Hid (∀ f t o w, Calls Try.prog 16 #[I f, I t, I o] w fun e W' => e = .returned (V3 f t o) ∧ Below w.heap.size w W') := slot_calls
  have HP : Hid (∀ w v, Ss w v someC → Calls Try.prog 17 #[v, V3 3 5 9] w fun e W' => ∃ u, e = .returned (.tuple #[u, I 0]) ∧ So W' w.heap.size u [(1, 3, 7), (3, 5, 9), (5, 9, 8)] ∧ Below w.heap.size w W') := fun w v h => cput_yes w h some_may (maySlB_iff.1 (by decide)) (by decide) (by decide)
  have HT : Hid (∀ w v, Ss w v someC → Calls Try.prog 17 #[v, V3 4 6 9] w fun e W' => e = .returned (.tuple #[.slice none 0 0, I 80]) ∧ Below w.heap.size w W') := fun w v h => cput_err w h (by decide)
  have HN : Hid (∀ w v, Ss w v someC → Calls Try.prog 9 #[v, I 0, I 2] w fun e W' => e = .returned (.tuple #[I 3, I 0]) ∧ Below w.heap.size w W') := fun w v h => cnext_calls w h
  go_enter Try.func14, Try.ntmps14
  go_wp2_with fail
  refine (HS.out _).mono ?_
  rintro e w1 ⟨u1, rfl, hO1, hT1⟩
  have H1 : Hid (Ss w1 u1 someC) := hO1.ss
  clear hO1
  go_wp2_with fail
  refine (HA.out 3 5 9 _).mono ?_
  rintro e w2 ⟨rfl, hB2⟩
  go_wp2_with fail
  refine (HP.out _ _ (H1.out.later hB2)).mono ?_
  rintro e w3 ⟨u3, rfl, hO3, hB3⟩
  have hT3 := then_below hT1 (then_below hB2 hB3)
  have H3 : Hid (Ss w3 u3 [(1, 3, 7), (3, 5, 9), (5, 9, 8)]) := hO3.ss
  clear hO3 H1 hT1 hB2 hB3
  go_wp2_with fail
  refine (HS.out _).mono ?_
  rintro e w4 ⟨u4, rfl, hO4, hB4⟩
  have H4 : Hid (Ss w4 u4 someC) := hO4.ss
  clear hO4
  go_wp2_with fail
  refine (HA.out 4 6 9 _).mono ?_
  rintro e w5 ⟨rfl, hB5⟩
  go_wp2_with fail
  refine (HT.out _ _ (H4.out.later hB5)).mono ?_
  rintro e w6 ⟨rfl, hB6⟩
  have hB46 := then_below hB4 (then_below hB5 hB6)
  clear H4 hB4 hB5 hB6
  go_wp2_with fail
  refine (HS.out _).mono ?_
  rintro e w7 ⟨u7, rfl, hO7, hB7⟩
  have H7 : Hid (Ss w7 u7 someC) := hO7.ss
  clear hO7
  go_wp2_with fail
  refine (HN.out _ _ H7.out).mono ?_
  rintro e w8 ⟨rfl, hB8⟩
  have hB38 := then_below hB46 (then_below hB7 hB8)
  clear H7 hB7 hB8 hB46
  go_wp2_with fail
  refine (HA.out 1 3 7 _).mono ?_
  rintro e w9 ⟨rfl, hB9⟩
  go_wp2_with fail
  refine (HA.out 3 5 9 _).mono ?_
  rintro e w10 ⟨rfl, hB10⟩
  go_wp2_with fail
  refine (HA.out 5 9 8 _).mono ?_
  rintro e w11 ⟨rfl, hB11⟩
  have hB3b := then_below hB38 (then_below hB9 (then_below hB10 hB11))
  clear hB38 hB9 hB10 hB11
  have hL := So.laid w11 w11.heap.size (Nat.le_refl _) [(1, 3, 7), (3, 5, 9), (5, 9, 8)] (by decide)
  have hBL := (Below.refl _ w11).alloc (Nat.le_refl _) (.cells (flatS [(1, 3, 7), (3, 5, 9), (5, 9, 8)]).toArray 36)
  have HSa : Hid (Calls Try.prog 15 #[u3, .slice (some ⟨w11.heap.size, 0, none⟩) 3 3] (w11.alloc (.cells (flatS [(1, 3, 7), (3, 5, 9), (5, 9, 8)]).toArray 36)) fun e W' => e = .returned (.bool true) ∧ Below (w11.alloc (.cells (flatS [(1, 3, 7), (3, 5, 9), (5, 9, 8)]).toArray 36)).heap.size (w11.alloc (.cells (flatS [(1, 3, 7), (3, 5, 9), (5, 9, 8)]).toArray 36)) W') :=
    rsameC_calls (xs := [(1, 3, 7), (3, 5, 9), (5, 9, 8)]) (ys := [(1, 3, 7), (3, 5, 9), (5, 9, 8)]) _ (H3.out.later (then_below hB3b hBL)) hL.ss (by decide)
  clear hL
  go_wp2_with fail
  refine HSa.out.mono ?_
  rintro e w12 ⟨rfl, hB12⟩
  go_wp2
  go_ret
  exact ⟨rfl, then_below hT3 (then_below hB3b (then_below hBL hB12))⟩

end Go.Proofs.Ytikjgfjahjlbaaa
