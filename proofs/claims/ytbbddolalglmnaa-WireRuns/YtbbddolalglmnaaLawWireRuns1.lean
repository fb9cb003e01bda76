/-
  tidehalllaw05.WireRuns, where the runs have more than one midplane and one more fits.
-/
import Derived.Test.YtbbddolalglmnaaLawWireRuns0
namespace Go.Proofs.Ytbbddolalglmnaa
open Go Go.RowKit Go.Shelf

attribute [local go_sem] Oper.semAt_some ext_const

set_option maxRecDepth 100000 in
set_option maxHeartbeats 4000000 in
theorem runs_more_fits {d0 d1 d2 a m : Int} {k : Fin 3} (ha : 0 ≤ a ∧ a ≤ 255) (hk : a % 3 = axI k) (w : World) {L C : List Int} {A : List Int} (hLl : L.length ≤ 4096) (hCl : C.length ≤ 4096)
    (hA0 : 0 < A.length) (hAl : A.length ≤ 16) (hlt : ((A.length : Int) + 1) < dimAt d0 d1 d2 k)
    (HA : ListsW 11 #[A3 d0 d1 d2, I (axI k), I m, I ((A.length : Int) + 1), .bool false] A 0) (HB : ListsW 11 #[A3 d0 d1 d2, I (axI k), I m, I ((A.length : Int) + 1), .bool true] L 0)
    (HL : ListsW 18 #[A3 d0 d1 d2, I (axI k), I m] L 0) (HC : ListsW 11 #[A3 d0 d1 d2, I (axI k), I m, I ((A.length : Int) + 1 + 1), .bool false] C 0)
    (hAL : ∀ y ∈ A, y ∈ L) (hAC : ∀ y ∈ A, y ∈ C) :
    Calls Try.prog 7 #[A3 d0 d1 d2, .int .u8 a, I m, I ((A.length : Int) + 1)] w fun e W' => e = .returned (.bool true) ∧ Below w.heap.size w W' := by
  have KA : Hid (ListsW 11 #[A3 d0 d1 d2, I (axI k), I m, I ((A.length : Int) + 1), .bool false] A 0) := HA
  have KB : Hid (ListsW 11 #[A3 d0 d1 d2, I (axI k), I m, I ((A.length : Int) + 1), .bool true] L 0) := HB
  have KL : Hid (ListsW 18 #[A3 d0 d1 d2, I (axI k), I m] L 0) := HL
  have KC : Hid (ListsW 11 #[A3 d0 d1 d2, I (axI k), I m, I ((A.length : Int) + 1 + 1), .bool false] C 0) := HC
  have HLl : Hid (L.length ≤ 4096) := hLl
  have HCl : Hid (C.length ≤ 4096) := hCl
  have HM : Hid (∀ y ∈ A, y ∈ L) := hAL
  have HN : Hid (∀ y ∈ A, y ∈ C) := hAC
  clear hAL hAC
  clear HA HB HL HC hLl hCl
  have b0 := Blk.new w 26 #[I d0, I d1, I d2]
  have hB0 := (Below.refl w.heap.size w).alloc (Nat.le_refl _) (.cells #[I d0, I d1, I d2] 26)
  rcases fin3 k with rfl | rfl | rfl
  all_goals
    simp only [axI, dimAt] at *
    go_enter Try.func7, Try.ntmps7
    go_wp2_with fail
    generalize w.alloc (.cells #[I d0, I d1, I d2] 26) = W at *
    refine (alive5_calls _).mono ?_
    rintro x w1 ⟨rfl, hT⟩
    obtain ⟨c0, c1, c2, hz⟩ := b0.three hT
    go_wp2_with fail
    refine (KA.out _).mono ?_
    rintro x w2 ⟨u, rfl, hu, hB⟩
    obtain ⟨aou, capu, rfl, _⟩ := hu.view
    have hT := then_below hT hB
    clear hB c0 c1 c2 hz
    obtain ⟨c0, c1, c2, hz⟩ := b0.three hT
    go_wp2_with fail
    refine (KB.out _).mono ?_
    rintro x w3 ⟨v, rfl, hv, hB⟩
    obtain ⟨aov, capv, rfl, _⟩ := hv.view
    have hu := hu.later hB
    have hT := then_below hT hB
    clear hB c0 c1 c2 hz
    obtain ⟨c0, c1, c2, hz⟩ := b0.three hT
    go_wp2_with fail
    refine (KL.out _).mono ?_
    rintro x w4 ⟨s, rfl, hs, hB⟩
    obtain ⟨aos, caps, rfl, _⟩ := hs.view
    have hu := hu.later hB
    have hv := hv.later hB
    have hT := then_below hT hB
    clear hB c0 c1 c2 hz
    go_wp2_with fail
    have KI := ints_calls _ hv hs HLl.out
    simp only [decide_true] at KI
    refine KI.mono ?_
    rintro x w5 ⟨rfl, hB⟩
    have hu := hu.later hB
    have hs := hs.later hB
    have hT := then_below hT hB
    clear hB KI hv
    obtain ⟨c0, c1, c2, hz⟩ := b0.three hT
    go_wp2_with fail
    refine (KC.out _).mono ?_
    rintro x w6 ⟨t, rfl, ht, hB⟩
    obtain ⟨aot, capt, rfl, _⟩ := ht.view
    have hu := hu.later hB
    have hs := hs.later hB
    have hT := then_below hT hB
    clear hB c0 c1 c2 hz
    clear KA KB KL KC
    go_wp2
    go_loopw [19] (fun i wr => ∃ j : Nat, j ≤ A.length ∧ i = .int .i64 j ∧ Below w6.heap.size w6 wr) (fun i _ => A.length - (intOf i).toNat)
    case atStart => exact ⟨0, by omega, rfl, Below.refl _ _⟩
    case round =>
      obtain ⟨j, hj, rfl, hR⟩ := hrel
      by_cases hjl : (j : Int) < (A.length : Int)
      · have hj' : j < A.length := by omega
        obtain ⟨g, cur, rfl, hg, hc⟩ := view_at hu hj'
        have y0 := (hg.later hR).cell j
        rw [hc] at y0
        have HY : Hid (inLi L (A.getD j 0) = true) := inLi_yes (HM.out _ (getD_mem hj'))
        have HZ : Hid (inLi C (A.getD j 0) = true) := inLi_yes (HN.out _ (getD_mem hj'))
        generalize A.getD j 0 = y at *
        go_wp2_with fail
        have KH := hasl_calls y wr (hs.later hR) HLl.out
        rw [HY.out] at KH
        refine KH.mono ?_
        rintro x wa ⟨rfl, hBa⟩
        have hR := then_below hR hBa
        clear KH
        have y0 := (hg.later hR).cell j
        rw [hc] at y0
        go_wp2_with fail
        have KH := hasl_calls y wa (ht.later hR) HCl.out
        rw [HZ.out] at KH
        refine KH.mono ?_
        rintro x wb ⟨rfl, hBb⟩
        have hR := then_below hR hBb
        clear KH
        go_wp2
        go_roundw
        case rel => exact ⟨j + 1, by omega, by go_num, hR⟩
        case measure => simp [intOf]; omega
      · obtain ⟨c0, c1, c2, hz⟩ := b0.three (then_below hT hR)
        go_wp2
        go_ret
        refine ⟨?_, then_below hB0 (then_below hT hR)⟩
        first
          | rfl
          | (simp; omega)

end Go.Proofs.Ytbbddolalglmnaa
