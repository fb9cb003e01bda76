/-
  CalNames walked. (Written by tools/gen/cal_names.py.)
-/
import Derived.Test.YtikjgfjahjlbaaaLawCal
namespace Go.Proofs.Ytikjgfjahjlbaaa
open Go Go.RowKit Go.Shelf

attribute [local go_sem] Oper.semAt_some ext_const

theorem same_laid {W : World} {u : Value} {xs : List Slt} (ys : List Slt) (h : Ss W u xs) (he : eqC xs ys = true) (hx : xs.length ≤ 100) (hy : ys.length ≤ 100) :
    Calls Try.prog 15 #[u, .slice (some ⟨W.heap.size, 0, none⟩) ys.length ys.length] (W.alloc (.cells (flatS ys).toArray 36)) fun e W' => e = .returned (.bool true) ∧ Below W.heap.size W W' := by
  have hB := (Below.refl _ W).alloc (Nat.le_refl _) (.cells (flatS ys).toArray 36)
  rw [← he]
  refine (rsameC_calls (xs := xs) (ys := ys) _ (h.later hB) (So.laid W W.heap.size (Nat.le_refl _) ys hy).ss (by omega)).mono ?_
  rintro e w1 ⟨rfl, h1⟩
  exact ⟨rfl, then_below hB h1⟩

set_option maxRecDepth 100000 in
set_option maxHeartbeats 16000000 in
theorem calNames_walk (w : World) : Calls Try.prog 3 #[] w fun e W' => e = .returned (.bool true) ∧ Below w.heap.size w W' := by
  have HS : Hid (∀ w, Calls Try.prog 10 #[] w fun e W' => ∃ u, e = .returned u ∧ So W' w.heap.size u someC ∧ Below w.heap.size w W') := some_calls
  have HA : Hid (∀ f t o w, Calls Try.prog 16 #[I f, I t, I o] w fun e W' => e = .returned (V3 f t o) ∧ Below w.heap.size w W') := slot_calls
  have HV : Hid (∀ w, Calls Try.prog 14 #[] w fun e W' => e = .returned (.bool true) ∧ Below w.heap.size w W') := aliveC_calls
  have HN1 : Hid (∀ w v, Ss w v someC → Calls Try.prog 9 #[v, I 0, I 1] w fun e W' => e = .returned (.tuple #[I 0, I 0]) ∧ Below w.heap.size w W') := fun w v h => cnext_calls w h
  have HN2 : Hid (∀ w v, Ss w v someC → Calls Try.prog 9 #[v, I 2, I 3] w fun e W' => e = .returned (.tuple #[I 9, I 0]) ∧ Below w.heap.size w W') := fun w v h => cnext_calls w h
  have HA1 : Hid (∀ w v, Ss w v someC → Calls Try.prog 11 #[v, I 2] w fun e W' => e = .returned (.tuple #[I 7, I 0]) ∧ Below w.heap.size w W') := fun w v h => cat_calls w h
  have HA2 : Hid (∀ w v, Ss w v someC → Calls Try.prog 11 #[v, I 3] w fun e W' => e = .returned (.tuple #[I 0, I 6]) ∧ Below w.heap.size w W') := fun w v h => cat_calls w h
  have HC1 : Hid (∀ w v, Ss w v someC → Calls Try.prog 12 #[v, I 8, I 6] w fun e W' => ∃ u, e = .returned (.tuple #[u, I 0]) ∧ So W' w.heap.size u [(1, 3, 7), (5, 6, 8)] ∧ Below w.heap.size w W') := fun w v h => ccut_yes w h some_may
  have HC2 : Hid (∀ w v, Ss w v someC → Calls Try.prog 12 #[v, I 8, I 5] w fun e W' => ∃ u, e = .returned (.tuple #[u, I 0]) ∧ So W' w.heap.size u [(1, 3, 7)] ∧ Below w.heap.size w W') := fun w v h => ccut_yes w h some_may
  have HT1 : Hid (∀ w v, Ss w v someC → Calls Try.prog 13 #[v, I 7] w fun e W' => ∃ u, e = .returned (.tuple #[u, I 0]) ∧ So W' w.heap.size u [(5, 9, 8)] ∧ Below w.heap.size w W') := fun w v h => ctake_yes w h some_may
  have HSa : Hid (∀ (W : World) (u : Value), Ss W u [(1, 3, 7), (5, 6, 8)] → Calls Try.prog 15 #[u, .slice (some ⟨W.heap.size, 0, none⟩) 2 2] (W.alloc (.cells #[I 1, I 3, I 7, I 5, I 6, I 8] 36)) fun e W' => e = .returned (.bool true) ∧ Below W.heap.size W W') := fun W u h => same_laid [(1, 3, 7), (5, 6, 8)] h (by decide) (by decide) (by decide)
  have HSb : Hid (∀ (W : World) (u : Value), Ss W u [(1, 3, 7)] → Calls Try.prog 15 #[u, .slice (some ⟨W.heap.size, 0, none⟩) 1 1] (W.alloc (.cells #[I 1, I 3, I 7] 36)) fun e W' => e = .returned (.bool true) ∧ Below W.heap.size W W') := fun W u h => same_laid [(1, 3, 7)] h (by decide) (by decide) (by decide)
  have HSc : Hid (∀ (W : World) (u : Value), Ss W u [(5, 9, 8)] → Calls Try.prog 15 #[u, .slice (some ⟨W.heap.size, 0, none⟩) 1 1] (W.alloc (.cells #[I 5, I 9, I 8] 36)) fun e W' => e = .returned (.bool true) ∧ Below W.heap.size W W') := fun W u h => same_laid [(5, 9, 8)] h (by decide) (by decide) (by decide)
  have hT := Below.refl w.heap.size w
  go_enter Try.func3, Try.ntmps3
  go_wp2_with fail
  refine (HS.out _).mono ?_
  rintro e w1 ⟨uS, rfl, hO, hB⟩
  have HX : Hid (Ss w1 uS someC) := hO.ss
  have hT := then_below hT hB
  clear hB
  clear hO
  go_wp2_with fail
  refine (HN1.out _ _ HX.out).mono ?_
  rintro e w2 ⟨rfl, hB⟩
  have hT := then_below hT hB
  clear hB
  clear HX
  go_wp2_with fail
  refine (HS.out _).mono ?_
  rintro e w3 ⟨uS, rfl, hO, hB⟩
  have HX : Hid (Ss w3 uS someC) := hO.ss
  have hT := then_below hT hB
  clear hB
  clear hO
  go_wp2_with fail
  refine (HN2.out _ _ HX.out).mono ?_
  rintro e w4 ⟨rfl, hB⟩
  have hT := then_below hT hB
  clear hB
  clear HX
  go_wp2_with fail
  refine (HS.out _).mono ?_
  rintro e w5 ⟨uS, rfl, hO, hB⟩
  have HX : Hid (Ss w5 uS someC) := hO.ss
  have hT := then_below hT hB
  clear hB
  clear hO
  go_wp2_with fail
  refine (HA1.out _ _ HX.out).mono ?_
  rintro e w6 ⟨rfl, hB⟩
  have hT := then_below hT hB
  clear hB
  clear HX
  go_wp2_with fail
  refine (HS.out _).mono ?_
  rintro e w7 ⟨uS, rfl, hO, hB⟩
  have HX : Hid (Ss w7 uS someC) := hO.ss
  have hT := then_below hT hB
  clear hB
  clear hO
  go_wp2_with fail
  refine (HA2.out _ _ HX.out).mono ?_
  rintro e w8 ⟨rfl, hB⟩
  have hT := then_below hT hB
  clear hB
  clear HX
  go_wp2_with fail
  refine (HS.out _).mono ?_
  rintro e w9 ⟨uS, rfl, hO, hB⟩
  have HX : Hid (Ss w9 uS someC) := hO.ss
  have hT := then_below hT hB
  clear hB
  clear hO
  go_wp2_with fail
  refine (HC1.out _ _ HX.out).mono ?_
  rintro e w10 ⟨uD, rfl, hO, hB⟩
  have HD : Hid (Ss w10 uD [(1, 3, 7), (5, 6, 8)]) := hO.ss
  have hT := then_below hT hB
  clear hB
  clear hO
  clear HX
  go_wp2_with fail
  refine (HS.out _).mono ?_
  rintro e w11 ⟨uS, rfl, hO, hB⟩
  have HD : Hid (Ss w11 uD [(1, 3, 7), (5, 6, 8)]) := HD.out.later hB
  have HX : Hid (Ss w11 uS someC) := hO.ss
  have hT := then_below hT hB
  clear hB
  clear hO
  go_wp2_with fail
  refine (HC2.out _ _ HX.out).mono ?_
  rintro e w12 ⟨uK, rfl, hO, hB⟩
  have HD : Hid (Ss w12 uD [(1, 3, 7), (5, 6, 8)]) := HD.out.later hB
  have HK : Hid (Ss w12 uK [(1, 3, 7)]) := hO.ss
  have hT := then_below hT hB
  clear hB
  clear hO
  clear HX
  go_wp2_with fail
  refine (HS.out _).mono ?_
  rintro e w13 ⟨uS, rfl, hO, hB⟩
  have HD : Hid (Ss w13 uD [(1, 3, 7), (5, 6, 8)]) := HD.out.later hB
  have HK : Hid (Ss w13 uK [(1, 3, 7)]) := HK.out.later hB
  have HX : Hid (Ss w13 uS someC) := hO.ss
  have hT := then_below hT hB
  clear hB
  clear hO
  go_wp2_with fail
  refine (HT1.out _ _ HX.out).mono ?_
  rintro e w14 ⟨uL, rfl, hO, hB⟩
  have HD : Hid (Ss w14 uD [(1, 3, 7), (5, 6, 8)]) := HD.out.later hB
  have HK : Hid (Ss w14 uK [(1, 3, 7)]) := HK.out.later hB
  have HL : Hid (Ss w14 uL [(5, 9, 8)]) := hO.ss
  have hT := then_below hT hB
  clear hB
  clear hO
  clear HX
  go_wp2_with fail
  refine (HV.out _).mono ?_
  rintro e w15 ⟨rfl, hB⟩
  have HD : Hid (Ss w15 uD [(1, 3, 7), (5, 6, 8)]) := HD.out.later hB
  have HK : Hid (Ss w15 uK [(1, 3, 7)]) := HK.out.later hB
  have HL : Hid (Ss w15 uL [(5, 9, 8)]) := HL.out.later hB
  have hT := then_below hT hB
  clear hB
  go_wp2_with fail
  refine (HA.out 1 3 7 _).mono ?_
  rintro e w16 ⟨rfl, hB⟩
  have HD : Hid (Ss w16 uD [(1, 3, 7), (5, 6, 8)]) := HD.out.later hB
  have HK : Hid (Ss w16 uK [(1, 3, 7)]) := HK.out.later hB
  have HL : Hid (Ss w16 uL [(5, 9, 8)]) := HL.out.later hB
  have hT := then_below hT hB
  clear hB
  go_wp2_with fail
  refine (HA.out 5 6 8 _).mono ?_
  rintro e w17 ⟨rfl, hB⟩
  have HD : Hid (Ss w17 uD [(1, 3, 7), (5, 6, 8)]) := HD.out.later hB
  have HK : Hid (Ss w17 uK [(1, 3, 7)]) := HK.out.later hB
  have HL : Hid (Ss w17 uL [(5, 9, 8)]) := HL.out.later hB
  have hT := then_below hT hB
  clear hB
  go_wp2_with fail
  refine (HSa.out _ _ HD.out).mono ?_
  rintro e w18 ⟨rfl, hB⟩
  have HD : Hid (Ss w18 uD [(1, 3, 7), (5, 6, 8)]) := HD.out.later hB
  have HK : Hid (Ss w18 uK [(1, 3, 7)]) := HK.out.later hB
  have HL : Hid (Ss w18 uL [(5, 9, 8)]) := HL.out.later hB
  have hT := then_below hT hB
  clear hB
  go_wp2_with fail
  refine (HA.out 1 3 7 _).mono ?_
  rintro e w19 ⟨rfl, hB⟩
  have HD : Hid (Ss w19 uD [(1, 3, 7), (5, 6, 8)]) := HD.out.later hB
  have HK : Hid (Ss w19 uK [(1, 3, 7)]) := HK.out.later hB
  have HL : Hid (Ss w19 uL [(5, 9, 8)]) := HL.out.later hB
  have hT := then_below hT hB
  clear hB
  go_wp2_with fail
  refine (HSb.out _ _ HK.out).mono ?_
  rintro e w20 ⟨rfl, hB⟩
  have HD : Hid (Ss w20 uD [(1, 3, 7), (5, 6, 8)]) := HD.out.later hB
  have HK : Hid (Ss w20 uK [(1, 3, 7)]) := HK.out.later hB
  have HL : Hid (Ss w20 uL [(5, 9, 8)]) := HL.out.later hB
  have hT := then_below hT hB
  clear hB
  go_wp2_with fail
  refine (HA.out 5 9 8 _).mono ?_
  rintro e w21 ⟨rfl, hB⟩
  have HD : Hid (Ss w21 uD [(1, 3, 7), (5, 6, 8)]) := HD.out.later hB
  have HK : Hid (Ss w21 uK [(1, 3, 7)]) := HK.out.later hB
  have HL : Hid (Ss w21 uL [(5, 9, 8)]) := HL.out.later hB
  have hT := then_below hT hB
  clear hB
  go_wp2_with fail
  refine (HSc.out _ _ HL.out).mono ?_
  rintro e w22 ⟨rfl, hB⟩
  have HD : Hid (Ss w22 uD [(1, 3, 7), (5, 6, 8)]) := HD.out.later hB
  have HK : Hid (Ss w22 uK [(1, 3, 7)]) := HK.out.later hB
  have HL : Hid (Ss w22 uL [(5, 9, 8)]) := HL.out.later hB
  have hT := then_below hT hB
  clear hB
  go_wp2
  go_ret
  exact ⟨rfl, hT⟩

end Go.Proofs.Ytikjgfjahjlbaaa
