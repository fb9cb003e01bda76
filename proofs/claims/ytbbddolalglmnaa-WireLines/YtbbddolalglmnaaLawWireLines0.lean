/-
  tidehalllaw05.WireLines, where a line is refused, or has but one midplane.
-/
import Derived.Test.YtbbddolalglmnaaLawWireRuns0
namespace Go.Proofs.Ytbbddolalglmnaa
open Go Go.RowKit Go.Shelf

attribute [local go_sem] Oper.semAt_some ext_const

set_option maxRecDepth 100000 in
set_option maxHeartbeats 1000000 in
theorem lines_off1 {d0 d1 d2 a m o e f : Int} {B : List Int} (ha : 0 ≤ a ∧ a ≤ 255) (w : World) (he : (e != 0) = true)
    (HA : ListsW 18 #[A3 d0 d1 d2, I (a % 3), I m] [] e) (HB : ListsW 18 #[A3 d0 d1 d2, I (a % 3), I o] B f) :
    Calls Try.prog 6 #[A3 d0 d1 d2, .int .u8 a, I m, I o] w fun e W' => e = .returned (.bool true) ∧ Below w.heap.size w W' := by
  have KA : Hid (ListsW 18 #[A3 d0 d1 d2, I (a % 3), I m] _ _) := HA
  have KB : Hid (ListsW 18 #[A3 d0 d1 d2, I (a % 3), I o] _ _) := HB
  clear HA HB
  have b0 := Blk.new w 26 #[I d0, I d1, I d2]
  have hB0 := (Below.refl w.heap.size w).alloc (Nat.le_refl _) (.cells #[I d0, I d1, I d2] 26)
  go_enter Try.func6, Try.ntmps6
  go_wp2_with fail
  generalize w.alloc (.cells #[I d0, I d1, I d2] 26) = W at *
  refine (alive5_calls _).mono ?_
  rintro x w1 ⟨rfl, hT⟩
  obtain ⟨c0, c1, c2, hz⟩ := b0.three hT
  go_wp2_with fail
  refine (KA.out _).mono ?_
  rintro x w2 ⟨u, rfl, _, hB⟩
  have hT := then_below hT hB
  clear hB c0 c1 c2 hz
  obtain ⟨c0, c1, c2, hz⟩ := b0.three hT
  go_wp2_with fail
  refine (KB.out _).mono ?_
  rintro x w3 ⟨v, rfl, _, hB⟩
  have hT := then_below hT hB
  clear hB c0 c1 c2 hz
  go_wp2
  go_ret
  exact ⟨rfl, then_below hB0 hT⟩

set_option maxRecDepth 100000 in
set_option maxHeartbeats 1000000 in
theorem lines_off2 {d0 d1 d2 a m o f : Int} {A : List Int} (ha : 0 ≤ a ∧ a ≤ 255) (w : World) (he : (f != 0) = true)
    (HA : ListsW 18 #[A3 d0 d1 d2, I (a % 3), I m] A 0) (HB : ListsW 18 #[A3 d0 d1 d2, I (a % 3), I o] [] f) :
    Calls Try.prog 6 #[A3 d0 d1 d2, .int .u8 a, I m, I o] w fun e W' => e = .returned (.bool true) ∧ Below w.heap.size w W' := by
  have KA : Hid (ListsW 18 #[A3 d0 d1 d2, I (a % 3), I m] _ _) := HA
  have KB : Hid (ListsW 18 #[A3 d0 d1 d2, I (a % 3), I o] _ _) := HB
  clear HA HB
  have b0 := Blk.new w 26 #[I d0, I d1, I d2]
  have hB0 := (Below.refl w.heap.size w).alloc (Nat.le_refl _) (.cells #[I d0, I d1, I d2] 26)
  go_enter Try.func6, Try.ntmps6
  go_wp2_with fail
  generalize w.alloc (.cells #[I d0, I d1, I d2] 26) = W at *
  refine (alive5_calls _).mono ?_
  rintro x w1 ⟨rfl, hT⟩
  obtain ⟨c0, c1, c2, hz⟩ := b0.three hT
  go_wp2_with fail
  refine (KA.out _).mono ?_
  rintro x w2 ⟨u, rfl, _, hB⟩
  have hT := then_below hT hB
  clear hB c0 c1 c2 hz
  obtain ⟨c0, c1, c2, hz⟩ := b0.three hT
  go_wp2_with fail
  refine (KB.out _).mono ?_
  rintro x w3 ⟨v, rfl, _, hB⟩
  have hT := then_below hT hB
  clear hB c0 c1 c2 hz
  go_wp2
  go_ret
  exact ⟨rfl, then_below hB0 hT⟩

set_option maxRecDepth 100000 in
set_option maxHeartbeats 8000000 in
theorem lines_one0 {d1 d2 a m o : Int} (ha : 0 ≤ a ∧ a ≤ 255) (hk : a % 3 = 0) (w : World) {oneB : Nat → Bool} {P : Nat → Int}
    (h0 : oneB 0 = false) (hS : ∀ j : Nat, oneB (j + 1) = (oneB j || (P j == o)))
    (HA : ListsW 18 #[A3 1 d1 d2, I 0, I m] [] 0) (HB : ListsW 18 #[A3 1 d1 d2, I 0, I o] [] 0)
    (HP : ∀ (j : Nat) (w : World), Calls Try.prog 21 #[A3 1 d1 d2, I m, I 0, I (j : Int)] w fun x W' => x = .returned (.tuple #[I (P j), I 0]) ∧ Below w.heap.size w W')
    : Calls Try.prog 6 #[A3 1 d1 d2, .int .u8 a, I m, I o] w fun e W' => e = .returned (.bool true) ∧ Below w.heap.size w W' := by
  have hmx : Try.prog.follows .mixedOrders = true := by kernel_rfl
  have KA : Hid (ListsW 18 #[A3 1 d1 d2, I 0, I m] [] 0) := HA
  have KB : Hid (ListsW 18 #[A3 1 d1 d2, I 0, I o] [] 0) := HB
  have KP : Hid (∀ (j : Nat) (w : World), Calls Try.prog 21 #[A3 1 d1 d2, I m, I 0, I (j : Int)] w fun x W' => x = .returned (.tuple #[I (P j), I 0]) ∧ Below w.heap.size w W') := HP
  have KS : Hid (∀ j : Nat, oneB (j + 1) = (oneB j || (P j == o))) := hS
  clear HA HB HP hS
  have b0 := Blk.new w 26 #[I 1, I d1, I d2]
  have hB0 := (Below.refl w.heap.size w).alloc (Nat.le_refl _) (.cells #[I 1, I d1, I d2] 26)
  go_enter Try.func6, Try.ntmps6
  go_wp2_with fail
  generalize w.alloc (.cells #[I 1, I d1, I d2] 26) = W at *
  refine (alive5_calls _).mono ?_
  rintro x w1 ⟨rfl, hT⟩
  obtain ⟨c0, c1, c2, hz⟩ := b0.three hT
  go_wp2_with fail
  refine (KA.out _).mono ?_
  rintro x w2 ⟨u, rfl, hu, hB⟩
  obtain ⟨aou, capu, rfl, _⟩ := hu.view
  have hT := then_below hT hB
  clear hB c0 c1 c2 hz
  obtain ⟨c0, c1, c2, hz⟩ := b0.three hT
  go_wp2_with fail
  refine (KB.out _).mono ?_
  rintro x w3 ⟨v, rfl, hv, hB⟩
  obtain ⟨aov, capv, rfl, _⟩ := hv.view
  have hu := hu.later hB
  have hT := then_below hT hB
  clear hB c0 c1 c2 hz KA KB
  go_wp2
  go_loopw [15, 16] (fun b i wr => ∃ j : Nat, j ≤ 1 ∧ i = .int .i64 j ∧ b = .bool (oneB j) ∧ Below w3.heap.size w3 wr) (fun _ i _ => 1 - (intOf i).toNat)
  case atStart => exact ⟨0, by omega, rfl, by rw [h0], Below.refl _ _⟩
  case round =>
    clear h0
    obtain ⟨j, hj, rfl, rfl, hR⟩ := hrel
    obtain ⟨c0, c1, c2, hz⟩ := b0.three (then_below hT hR)
    by_cases hjl : (j : Int) < 1
    · go_wp2_with fail
      refine (KP.out j _).mono ?_
      rintro x wa ⟨rfl, hBa⟩
      have hR := then_below hR hBa
      have hs := KS.out j
      generalize P j = p at hs
      cases hq : oneB j
      · rw [hq, Bool.false_or] at hs
        go_wp2
        go_roundw
        case rel => exact ⟨j + 1, by omega, by go_num, by rw [hs], hR⟩
        case measure => simp [intOf]; omega
      · rw [hq, Bool.true_or] at hs
        go_wp2
        go_roundw
        case rel => exact ⟨j + 1, by omega, by go_num, by rw [hs], hR⟩
        case measure => simp [intOf]; omega
    · obtain rfl : j = 1 := by omega
      have hu := hu.later hR
      have hv := hv.later hR
      have hT := then_below hT hR
      cases hq : oneB 1
      · go_wp2
        go_loopw [20] (fun i wr' => i = .int .i64 0 ∧ wr' = wr) (fun _ _ => 0)
        case atStart => exact ⟨rfl, by trivial⟩
        case round =>
          obtain ⟨rfl, hw⟩ := hrel
          subst hw
          go_wp2
          go_ret
          exact ⟨rfl, then_below hB0 hT⟩
      · go_wp2_with fail
        have KI := ints_calls _ hu hv (by simp)
        simp only [decide_true] at KI
        refine KI.mono ?_
        rintro x wb ⟨rfl, hBb⟩
        have hT := then_below hT hBb
        clear KI
        go_wp2
        go_loopw [20] (fun i wr' => i = .int .i64 0 ∧ wr' = wb) (fun _ _ => 0)
        case atStart => exact ⟨rfl, by trivial⟩
        case round =>
          obtain ⟨rfl, hw⟩ := hrel
          subst hw
          go_wp2
          go_ret
          exact ⟨rfl, then_below hB0 hT⟩

set_option maxRecDepth 100000 in
set_option maxHeartbeats 8000000 in
theorem lines_one1 {d0 d2 a m o : Int} (ha : 0 ≤ a ∧ a ≤ 255) (hk : a % 3 = 1) (w : World) {oneB : Nat → Bool} {P : Nat → Int}
    (h0 : oneB 0 = false) (hS : ∀ j : Nat, oneB (j + 1) = (oneB j || (P j == o)))
    (HA : ListsW 18 #[A3 d0 1 d2, I 1, I m] [] 0) (HB : ListsW 18 #[A3 d0 1 d2, I 1, I o] [] 0)
    (HP : ∀ (j : Nat) (w : World), Calls Try.prog 21 #[A3 d0 1 d2, I m, I 1, I (j : Int)] w fun x W' => x = .returned (.tuple #[I (P j), I 0]) ∧ Below w.heap.size w W')
    : Calls Try.prog 6 #[A3 d0 1 d2, .int .u8 a, I m, I o] w fun e W' => e = .returned (.bool true) ∧ Below w.heap.size w W' := by
  have hmx : Try.prog.follows .mixedOrders = true := by kernel_rfl
  have KA : Hid (ListsW 18 #[A3 d0 1 d2, I 1, I m] [] 0) := HA
  have KB : Hid (ListsW 18 #[A3 d0 1 d2, I 1, I o] [] 0) := HB
  have KP : Hid (∀ (j : Nat) (w : World), Calls Try.prog 21 #[A3 d0 1 d2, I m, I 1, I (j : Int)] w fun x W' => x = .returned (.tuple #[I (P j), I 0]) ∧ Below w.heap.size w W') := HP
  have KS : Hid (∀ j : Nat, oneB (j + 1) = (oneB j || (P j == o))) := hS
  clear HA HB HP hS
  have b0 := Blk.new w 26 #[I d0, I 1, I d2]
  have hB0 := (Below.refl w.heap.size w).alloc (Nat.le_refl _) (.cells #[I d0, I 1, I d2] 26)
  go_enter Try.func6, Try.ntmps6
  go_wp2_with fail
  generalize w.alloc (.cells #[I d0, I 1, I d2] 26) = W at *
  refine (alive5_calls _).mono ?_
  rintro x w1 ⟨rfl, hT⟩
  obtain ⟨c0, c1, c2, hz⟩ := b0.three hT
  go_wp2_with fail
  refine (KA.out _).mono ?_
  rintro x w2 ⟨u, rfl, hu, hB⟩
  obtain ⟨aou, capu, rfl, _⟩ := hu.view
  have hT := then_below hT hB
  clear hB c0 c1 c2 hz
  obtain ⟨c0, c1, c2, hz⟩ := b0.three hT
  go_wp2_with fail
  refine (KB.out _).mono ?_
  rintro x w3 ⟨v, rfl, hv, hB⟩
  obtain ⟨aov, capv, rfl, _⟩ := hv.view
  have hu := hu.later hB
  have hT := then_below hT hB
  clear hB c0 c1 c2 hz KA KB
  go_wp2
  go_loopw [15, 16] (fun b i wr => ∃ j : Nat, j ≤ 1 ∧ i = .int .i64 j ∧ b = .bool (oneB j) ∧ Below w3.heap.size w3 wr) (fun _ i _ => 1 - (intOf i).toNat)
  case atStart => exact ⟨0, by omega, rfl, by rw [h0], Below.refl _ _⟩
  case round =>
    clear h0
    obtain ⟨j, hj, rfl, rfl, hR⟩ := hrel
    obtain ⟨c0, c1, c2, hz⟩ := b0.three (then_below hT hR)
    by_cases hjl : (j : Int) < 1
    · go_wp2_with fail
      refine (KP.out j _).mono ?_
      rintro x wa ⟨rfl, hBa⟩
      have hR := then_below hR hBa
      have hs := KS.out j
      generalize P j = p at hs
      cases hq : oneB j
      · rw [hq, Bool.false_or] at hs
        go_wp2
        go_roundw
        case rel => exact ⟨j + 1, by omega, by go_num, by rw [hs], hR⟩
        case measure => simp [intOf]; omega
      · rw [hq, Bool.true_or] at hs
        go_wp2
        go_roundw
        case rel => exact ⟨j + 1, by omega, by go_num, by rw [hs], hR⟩
        case measure => simp [intOf]; omega
    · obtain rfl : j = 1 := by omega
      have hu := hu.later hR
      have hv := hv.later hR
      have hT := then_below hT hR
      cases hq : oneB 1
      · go_wp2
        go_loopw [20] (fun i wr' => i = .int .i64 0 ∧ wr' = wr) (fun _ _ => 0)
        case atStart => exact ⟨rfl, by trivial⟩
        case round =>
          obtain ⟨rfl, hw⟩ := hrel
          subst hw
          go_wp2
          go_ret
          exact ⟨rfl, then_below hB0 hT⟩
      · go_wp2_with fail
        have KI := ints_calls _ hu hv (by simp)
        simp only [decide_true] at KI
        refine KI.mono ?_
        rintro x wb ⟨rfl, hBb⟩
        have hT := then_below hT hBb
        clear KI
        go_wp2
        go_loopw [20] (fun i wr' => i = .int .i64 0 ∧ wr' = wb) (fun _ _ => 0)
        case atStart => exact ⟨rfl, by trivial⟩
        case round =>
          obtain ⟨rfl, hw⟩ := hrel
          subst hw
          go_wp2
          go_ret
          exact ⟨rfl, then_below hB0 hT⟩

set_option maxRecDepth 100000 in
set_option maxHeartbeats 8000000 in
theorem lines_one2 {d0 d1 a m o : Int} (ha : 0 ≤ a ∧ a ≤ 255) (hk : a % 3 = 2) (w : World) {oneB : Nat → Bool} {P : Nat → Int}
    (h0 : oneB 0 = false) (hS : ∀ j : Nat, oneB (j + 1) = (oneB j || (P j == o)))
    (HA : ListsW 18 #[A3 d0 d1 1, I 2, I m] [] 0) (HB : ListsW 18 #[A3 d0 d1 1, I 2, I o] [] 0)
    (HP : ∀ (j : Nat) (w : World), Calls Try.prog 21 #[A3 d0 d1 1, I m, I 2, I (j : Int)] w fun x W' => x = .returned (.tuple #[I (P j), I 0]) ∧ Below w.heap.size w W')
    : Calls Try.prog 6 #[A3 d0 d1 1, .int .u8 a, I m, I o] w fun e W' => e = .returned (.bool true) ∧ Below w.heap.size w W' := by
  have hmx : Try.prog.follows .mixedOrders = true := by kernel_rfl
  have KA : Hid (ListsW 18 #[A3 d0 d1 1, I 2, I m] [] 0) := HA
  have KB : Hid (ListsW 18 #[A3 d0 d1 1, I 2, I o] [] 0) := HB
  have KP : Hid (∀ (j : Nat) (w : World), Calls Try.prog 21 #[A3 d0 d1 1, I m, I 2, I (j : Int)] w fun x W' => x = .returned (.tuple #[I (P j), I 0]) ∧ Below w.heap.size w W') := HP
  have KS : Hid (∀ j : Nat, oneB (j + 1) = (oneB j || (P j == o))) := hS
  clear HA HB HP hS
  have b0 := Blk.new w 26 #[I d0, I d1, I 1]
  have hB0 := (Below.refl w.heap.size w).alloc (Nat.le_refl _) (.cells #[I d0, I d1, I 1] 26)
  go_enter Try.func6, Try.ntmps6
  go_wp2_with fail
  generalize w.alloc (.cells #[I d0, I d1, I 1] 26) = W at *
  refine (alive5_calls _).mono ?_
  rintro x w1 ⟨rfl, hT⟩
  obtain ⟨c0, c1, c2, hz⟩ := b0.three hT
  go_wp2_with fail
  refine (KA.out _).mono ?_
  rintro x w2 ⟨u, rfl, hu, hB⟩
  obtain ⟨aou, capu, rfl, _⟩ := hu.view
  have hT := then_below hT hB
  clear hB c0 c1 c2 hz
  obtain ⟨c0, c1, c2, hz⟩ := b0.three hT
  go_wp2_with fail
  refine (KB.out _).mono ?_
  rintro x w3 ⟨v, rfl, hv, hB⟩
  obtain ⟨aov, capv, rfl, _⟩ := hv.view
  have hu := hu.later hB
  have hT := then_below hT hB
  clear hB c0 c1 c2 hz KA KB
  go_wp2
  go_loopw [15, 16] (fun b i wr => ∃ j : Nat, j ≤ 1 ∧ i = .int .i64 j ∧ b = .bool (oneB j) ∧ Below w3.heap.size w3 wr) (fun _ i _ => 1 - (intOf i).toNat)
  case atStart => exact ⟨0, by omega, rfl, by rw [h0], Below.refl _ _⟩
  case round =>
    clear h0
    obtain ⟨j, hj, rfl, rfl, hR⟩ := hrel
    obtain ⟨c0, c1, c2, hz⟩ := b0.three (then_below hT hR)
    by_cases hjl : (j : Int) < 1
    · go_wp2_with fail
      refine (KP.out j _).mono ?_
      rintro x wa ⟨rfl, hBa⟩
      have hR := then_below hR hBa
      have hs := KS.out j
      generalize P j = p at hs
      cases hq : oneB j
      · rw [hq, Bool.false_or] at hs
        go_wp2
        go_roundw
        case rel => exact ⟨j + 1, by omega, by go_num, by rw [hs], hR⟩
        case measure => simp [intOf]; omega
      · rw [hq, Bool.true_or] at hs
        go_wp2
        go_roundw
        case rel => exact ⟨j + 1, by omega, by go_num, by rw [hs], hR⟩
        case measure => simp [intOf]; omega
    · obtain rfl : j = 1 := by omega
      have hu := hu.later hR
      have hv := hv.later hR
      have hT := then_below hT hR
      cases hq : oneB 1
      · go_wp2
        go_loopw [20] (fun i wr' => i = .int .i64 0 ∧ wr' = wr) (fun _ _ => 0)
        case atStart => exact ⟨rfl, by trivial⟩
        case round =>
          obtain ⟨rfl, hw⟩ := hrel
          subst hw
          go_wp2
          go_ret
          exact ⟨rfl, then_below hB0 hT⟩
      · go_wp2_with fail
        have KI := ints_calls _ hu hv (by simp)
        simp only [decide_true] at KI
        refine KI.mono ?_
        rintro x wb ⟨rfl, hBb⟩
        have hT := then_below hT hBb
        clear KI
        go_wp2
        go_loopw [20] (fun i wr' => i = .int .i64 0 ∧ wr' = wb) (fun _ _ => 0)
        case atStart => exact ⟨rfl, by trivial⟩
        case round =>
          obtain ⟨rfl, hw⟩ := hrel
          subst hw
          go_wp2
          go_ret
          exact ⟨rfl, then_below hB0 hT⟩

end Go.Proofs.Ytbbddolalglmnaa
