/-
  tidehalllaw05.WireLines along axis 1, where lines have more than one midplane.
-/
import Derived.Test.YtbbddolalglmnaaLawWireLines0
namespace Go.Proofs.Ytbbddolalglmnaa
open Go Go.RowKit Go.Shelf

attribute [local go_sem] Oper.semAt_some ext_const

set_option maxRecDepth 100000 in
set_option maxHeartbeats 8000000 in
theorem lines_more1 {d0 d2 a m o : Int} (ha : 0 ≤ a ∧ a ≤ 255) (hk : a % 3 = 1) (w : World) {A B : List Int} {oneB : Nat → Bool} {P : Nat → Int}
    (hAl : 1 < A.length ∧ A.length ≤ 16) (hBl : B.length = A.length) (h0 : oneB 0 = false) (hS : ∀ j : Nat, oneB (j + 1) = (oneB j || (P j == o)))
    (HA : ListsW 18 #[A3 d0 (A.length : Int) d2, I 1, I m] A 0) (HB : ListsW 18 #[A3 d0 (A.length : Int) d2, I 1, I o] B 0)
    (HP : ∀ (j : Nat) (w : World), Calls Try.prog 21 #[A3 d0 (A.length : Int) d2, I m, I 1, I (j : Int)] w fun x W' => x = .returned (.tuple #[I (P j), I 0]) ∧ Below w.heap.size w W')
    (hyes : oneB A.length = true → A = B) (hno : oneB A.length = false → ∀ y ∈ A, ¬ y ∈ B) (hrise : ∀ j, 0 < j → j < A.length → A.getD (j - 1) 0 < A.getD j 0)
    (hE : ∀ y ∈ A, ∃ p q, (∀ w : World, Calls Try.prog 10 #[A3 d0 (A.length : Int) d2, I y] w fun x W' => x = .returned (.tuple #[I 1, I p, I q, I 0]) ∧ Below w.heap.size w W') ∧ (p = m → y = d0 * (A.length : Int) * d2 + m))
(hw : wrap64 (d0) = d0 ∧ wrap64 (d0 * (A.length : Int)) = d0 * (A.length : Int) ∧ wrap64 (d0 * (A.length : Int) * d2) = d0 * (A.length : Int) * d2 ∧ wrap64 (d0 * (A.length : Int) * d2 + m) = d0 * (A.length : Int) * d2 + m)
    : Calls Try.prog 6 #[A3 d0 (A.length : Int) d2, .int .u8 a, I m, I o] w fun e W' => e = .returned (.bool true) ∧ Below w.heap.size w W' := by
  have hmx : Try.prog.follows .mixedOrders = true := by kernel_rfl
  have KA : Hid (ListsW 18 #[A3 d0 (A.length : Int) d2, I 1, I m] A 0) := HA
  have KB : Hid (ListsW 18 #[A3 d0 (A.length : Int) d2, I 1, I o] B 0) := HB
  have KP : Hid (∀ (j : Nat) (w : World), Calls Try.prog 21 #[A3 d0 (A.length : Int) d2, I m, I 1, I (j : Int)] w fun x W' => x = .returned (.tuple #[I (P j), I 0]) ∧ Below w.heap.size w W') := HP
  have KS : Hid (∀ j : Nat, oneB (j + 1) = (oneB j || (P j == o))) := hS
  have KY : Hid (oneB A.length = true → A = B) := hyes
  have KN : Hid (oneB A.length = false → ∀ y ∈ A, ¬ y ∈ B) := hno
  have KR : Hid (∀ j, 0 < j → j < A.length → A.getD (j - 1) 0 < A.getD j 0) := hrise
  have KE : Hid (∀ y ∈ A, ∃ p q, (∀ w : World, Calls Try.prog 10 #[A3 d0 (A.length : Int) d2, I y] w fun x W' => x = .returned (.tuple #[I 1, I p, I q, I 0]) ∧ Below w.heap.size w W') ∧ (p = m → y = d0 * (A.length : Int) * d2 + m)) := hE
  have KBl : Hid (B.length = A.length) := hBl
  have KW : Hid (wrap64 (d0) = d0 ∧ wrap64 (d0 * (A.length : Int)) = d0 * (A.length : Int) ∧ wrap64 (d0 * (A.length : Int) * d2) = d0 * (A.length : Int) * d2 ∧ wrap64 (d0 * (A.length : Int) * d2 + m) = d0 * (A.length : Int) * d2 + m) := hw
  clear hyes hno hrise hE hBl hw
  obtain ⟨hA1, hA2⟩ := hAl
  clear HA HB HP hS
  have b0 := Blk.new w 26 #[I d0, I (A.length : Int), I d2]
  have hB0 := (Below.refl w.heap.size w).alloc (Nat.le_refl _) (.cells #[I d0, I (A.length : Int), I d2] 26)
  go_enter Try.func6, Try.ntmps6
  go_wp2_with fail
  generalize w.alloc (.cells #[I d0, I (A.length : Int), I d2] 26) = W at *
  refine (alive5_calls _).mono ?_
  rintro x w1 ⟨rfl, hT⟩
  obtain ⟨c0, c1, c2, hz⟩ := b0.three hT
  go_wp2_with fail
  refine (KA.out _).mono ?_
  rintro x w2 ⟨u, rfl, hu, hB⟩
  obtain ⟨aou, capu, rfl, _⟩ := hu.view
  have hT := then_below hT hB
  clear hB c0 c1 c2 hz
  obtain ⟨c0, c1, c2, hz⟩ := b0.three hT
  go_wp2_with fail
  refine (KB.out _).mono ?_
  rintro x w3 ⟨v, rfl, hv, hB⟩
  obtain ⟨aov, capv, rfl, _⟩ := hv.view
  have hu := hu.later hB
  have hT := then_below hT hB
  clear hB c0 c1 c2 hz KA KB
  rw [KBl.out] at hv ⊢
  go_wp2
  go_loopw [15, 16] (fun b i wr => ∃ j : Nat, j ≤ A.length ∧ i = .int .i64 j ∧ b = .bool (oneB j) ∧ Below w3.heap.size w3 wr) (fun _ i _ => A.length - (intOf i).toNat)
  case atStart => exact ⟨0, by omega, rfl, by rw [h0], Below.refl _ _⟩
  case round =>
    clear h0
    obtain ⟨j, hj, rfl, rfl, hR⟩ := hrel
    obtain ⟨c0, c1, c2, hz⟩ := b0.three (then_below hT hR)
    by_cases hjl : (j : Int) < (A.length : Int)
    · go_wp2_with fail
      refine (KP.out j _).mono ?_
      rintro x wa ⟨rfl, hBa⟩
      have hR := then_below hR hBa
      have hs := KS.out j
      generalize P j = p at hs
      cases hq : oneB j
      · rw [hq, Bool.false_or] at hs
        go_wp2
        go_roundw
        case rel => exact ⟨j + 1, by omega, by go_num, by rw [hs], hR⟩
        case measure => simp [intOf]; omega
      · rw [hq, Bool.true_or] at hs
        go_wp2
        go_roundw
        case rel => exact ⟨j + 1, by omega, by go_num, by rw [hs], hR⟩
        case measure => simp [intOf]; omega
    · have E : j = A.length := by omega
      subst E
      have hu := hu.later hR
      have hv := hv.later hR
      have hT := then_below hT hR
      clear hR KP KS hjl
      cases hq : oneB A.length
      · rename World => wo
        have KNN : Hid (∀ y ∈ A, ¬ y ∈ B) := KN.out hq
        clear hq KN KY
        go_wp2
        go_loopw [20] (fun i wr' => ∃ j : Nat, j ≤ A.length ∧ i = .int .i64 j ∧ Below wo.heap.size wo wr') (fun i _ => A.length - (intOf i).toNat)
        case atStart => exact ⟨0, by omega, rfl, Below.refl _ _⟩
        case round =>
          obtain ⟨j, hj, rfl, hR⟩ := hrel
          by_cases hjl : (j : Int) < (A.length : Int)
          · have hj' : j < A.length := by omega
            obtain ⟨g, cur, rfl, hg, hc⟩ := view_at hu hj'
            have q0 := b0.later (then_below hT hR)
            have e0 := Ext.cell q0 0
            have e1 := Ext.cell q0 1
            have e2 := Ext.cell q0 2
            have y0 := Ext.cell (hg.later hR) j
            rw [hc] at y0
            simp at e0 e1 e2
            obtain ⟨p, q, KE1, hpm⟩ := KE.out _ (getD_mem hj')
            have KEE : Hid (∀ w : World, Calls Try.prog 10 #[A3 d0 (A.length : Int) d2, I (A.getD j 0)] w fun x W' => x = .returned (.tuple #[I 1, I p, I q, I 0]) ∧ Below w.heap.size w W') := KE1
            have HPM : Hid (p = m → A.getD j 0 = d0 * (A.length : Int) * d2 + m) := hpm
            clear KE1 hpm
            have KH : Hid (∀ x : Ext wr, Calls Try.prog 23 #[.slice aov A.length capv, I (A.getD j 0)] x.wd fun e W' => e = .returned (.bool false) ∧ Below x.wd.heap.size x.wd W') := fun x => by
              have h := hasl_calls (A.getD j 0) x.wd (hv.later (then_below hR x.le)) (by rw [KBl.out]; omega)
              rw [inLi_no (KNN.out _ (getD_mem hj'))] at h
              exact h
            by_cases hj0 : j = 0
            · subst hj0
              generalize A.getD 0 0 = y at *
              simp only [Int.natCast_zero] at hjl ⊢
              go_wp2_with fail
              refine wp_region_look hmx (by kernel_rfl) ?_
              repeat (go_big_quiet_step ((go_at_call 23; exact calls_ext (KH.out _))))
              refine wpQuiet_nil ?_
              intro x
              have hR := then_below hR x.le
              have q0 := q0.later x.le
              have gx := hg.later hR
              clear e0 e1 e2 y0
              generalize x.wd = wx at *
              have e0 := Ext.cell q0 0
              have e1 := Ext.cell q0 1
              have e2 := Ext.cell q0 2
              have y0 := Ext.cell gx 0
              rw [hc] at y0
              simp at e0 e1 e2
              clear x
              go_wp2_with fail
              refine wp_region_look hmx (by kernel_rfl) ?_
              repeat (go_big_quiet_step ((go_at_call 10; exact calls_ext (KEE.out _))))
              refine wpQuiet_nil ?_
              intro x
              have hR := then_below hR x.le
              have q0 := q0.later x.le
              have gx := hg.later hR
              clear e0 e1 e2 y0
              generalize x.wd = wx at *
              have e0 := Ext.cell q0 0
              have e1 := Ext.cell q0 1
              have e2 := Ext.cell q0 2
              have y0 := Ext.cell gx 0
              rw [hc] at y0
              simp at e0 e1 e2
              clear x
              go_wp2_with fail
              refine wp_region_look hmx (by kernel_rfl) ?_
              repeat (go_big_quiet_step (fail))
              refine wpQuiet_nil ?_
              intro x
              have hR := then_below hR x.le
              go_wp2
              go_roundw
              case rel => exact ⟨0 + 1, by omega, by go_num, hR⟩
              case measure => simp [intOf]; omega
            · have hjp : 0 < (j : Int) := by omega
              have hjn : 0 < j := by omega
              have hjd : decide (0 < (j : Int)) = true := decide_eq_true hjp
              have hjd' : decide (0 < j) = true := decide_eq_true hjn
              have hzy := KR.out j (by omega) hj'
              obtain ⟨t, ht, et⟩ : ∃ t : Nat, (j : Int) - 1 = (t : Int) ∧ j - 1 = t := ⟨j - 1, by omega, rfl⟩
              rw [et] at hzy
              have htl : t < A.length := by omega
              have htl' : (t : Int) < (A.length : Int) := by omega
              obtain ⟨g', cur', eg, hg', hct⟩ := view_at hu htl
              cases eg
              have ecur : cur' = cur := by
                have h1 : wo.heap[g]? = _ := hg
                have h2 : wo.heap[g]? = _ := hg'
                rw [h1] at h2
                cases h2
                rfl
              subst ecur
              have z0 := Ext.cell (hg.later hR) t
              rw [hct] at z0
              generalize A.getD t 0 = z at *
              generalize A.getD j 0 = y at *
              have hzd : decide (y ≤ z) = false := decide_eq_false (by omega)
              clear hzy et hj0
              go_wp2_with fail
              refine wp_region_look hmx (by kernel_rfl) ?_
              repeat (go_big_quiet_step ((go_at_call 23; exact calls_ext (KH.out _))))
              refine wpQuiet_nil ?_
              intro x
              have hR := then_below hR x.le
              have q0 := q0.later x.le
              have gx := hg.later hR
              clear e0 e1 e2 y0 z0
              generalize x.wd = wx at *
              have e0 := Ext.cell q0 0
              have e1 := Ext.cell q0 1
              have e2 := Ext.cell q0 2
              have y0 := Ext.cell gx j
              rw [hc] at y0
              simp at e0 e1 e2
              have z0 := Ext.cell gx t
              rw [hct] at z0
              clear x
              go_wp2_with fail
              refine wp_region_look hmx (by kernel_rfl) ?_
              repeat (go_big_quiet_step ((go_at_call 10; exact calls_ext (KEE.out _))))
              refine wpQuiet_nil ?_
              intro x
              have hR := then_below hR x.le
              have q0 := q0.later x.le
              have gx := hg.later hR
              clear e0 e1 e2 y0 z0
              generalize x.wd = wx at *
              have e0 := Ext.cell q0 0
              have e1 := Ext.cell q0 1
              have e2 := Ext.cell q0 2
              have y0 := Ext.cell gx j
              rw [hc] at y0
              simp at e0 e1 e2
              have z0 := Ext.cell gx t
              rw [hct] at z0
              cases hpe : (p == m)
              · clear x
                go_wp2_with fail
                refine wp_region_look hmx (by kernel_rfl) ?_
                repeat (go_big_quiet_step (fail))
                refine wpQuiet_nil ?_
                intro x
                have hR := then_below hR x.le
                go_wp2
                go_roundw
                case rel => exact ⟨j + 1, by omega, by go_num, hR⟩
                case measure => simp [intOf]; omega
              · have hpm : p = m := by simpa using hpe
                have hy := HPM.out hpm
                clear hpe HPM KEE KH
                subst hpm
                subst hy
                obtain ⟨r1, r2, r3, r4⟩ := KW.out
                clear x
                go_wp2_with fail
                refine wp_region_look hmx (by kernel_rfl) ?_
                repeat (go_big_quiet_step (fail))
                refine wpQuiet_nil ?_
                intro x
                have hR := then_below hR x.le
                go_wp2
                go_roundw
                case rel => exact ⟨j + 1, by omega, by go_num, hR⟩
                case measure => simp [intOf]; omega
          · go_wp2
            go_ret
            exact ⟨rfl, then_below hB0 (then_below hT hR)⟩
      · have hAB : A = B := KY.out hq
        clear hq KN KY
        have HAB : Hid (A = B) := hAB
        clear hAB
        go_wp2_with fail
        have KI := ints_calls _ hu hv (by omega)
        rw [decide_eq_true HAB.out] at KI
        refine KI.mono ?_
        rintro x wo ⟨rfl, hBb⟩
        have hu := hu.later hBb
        have hv := hv.later hBb
        have hT := then_below hT hBb
        clear KI hBb
        go_wp2
        go_loopw [20] (fun i wr' => ∃ j : Nat, j ≤ A.length ∧ i = .int .i64 j ∧ Below wo.heap.size wo wr') (fun i _ => A.length - (intOf i).toNat)
        case atStart => exact ⟨0, by omega, rfl, Below.refl _ _⟩
        case round =>
          obtain ⟨j, hj, rfl, hR⟩ := hrel
          by_cases hjl : (j : Int) < (A.length : Int)
          · have hj' : j < A.length := by omega
            obtain ⟨g, cur, rfl, hg, hc⟩ := view_at hu hj'
            have q0 := b0.later (then_below hT hR)
            have e0 := Ext.cell q0 0
            have e1 := Ext.cell q0 1
            have e2 := Ext.cell q0 2
            have y0 := Ext.cell (hg.later hR) j
            rw [hc] at y0
            simp at e0 e1 e2
            obtain ⟨p, q, KE1, hpm⟩ := KE.out _ (getD_mem hj')
            have KEE : Hid (∀ w : World, Calls Try.prog 10 #[A3 d0 (A.length : Int) d2, I (A.getD j 0)] w fun x W' => x = .returned (.tuple #[I 1, I p, I q, I 0]) ∧ Below w.heap.size w W') := KE1
            have HPM : Hid (p = m → A.getD j 0 = d0 * (A.length : Int) * d2 + m) := hpm
            clear KE1 hpm
            by_cases hj0 : j = 0
            · subst hj0
              generalize A.getD 0 0 = y at *
              simp only [Int.natCast_zero] at hjl ⊢
              go_wp2_with fail
              refine wp_region_look hmx (by kernel_rfl) ?_
              repeat (go_big_quiet_step (fail))
              refine wpQuiet_nil ?_
              intro x
              have hR := then_below hR x.le
              have q0 := q0.later x.le
              have gx := hg.later hR
              clear e0 e1 e2 y0
              generalize x.wd = wx at *
              have e0 := Ext.cell q0 0
              have e1 := Ext.cell q0 1
              have e2 := Ext.cell q0 2
              have y0 := Ext.cell gx 0
              rw [hc] at y0
              simp at e0 e1 e2
              clear x
              go_wp2_with fail
              refine wp_region_look hmx (by kernel_rfl) ?_
              repeat (go_big_quiet_step ((go_at_call 10; exact calls_ext (KEE.out _))))
              refine wpQuiet_nil ?_
              intro x
              have hR := then_below hR x.le
              have q0 := q0.later x.le
              have gx := hg.later hR
              clear e0 e1 e2 y0
              generalize x.wd = wx at *
              have e0 := Ext.cell q0 0
              have e1 := Ext.cell q0 1
              have e2 := Ext.cell q0 2
              have y0 := Ext.cell gx 0
              rw [hc] at y0
              simp at e0 e1 e2
              clear x
              go_wp2_with fail
              refine wp_region_look hmx (by kernel_rfl) ?_
              repeat (go_big_quiet_step (fail))
              refine wpQuiet_nil ?_
              intro x
              have hR := then_below hR x.le
              go_wp2
              go_roundw
              case rel => exact ⟨0 + 1, by omega, by go_num, hR⟩
              case measure => simp [intOf]; omega
            · have hjp : 0 < (j : Int) := by omega
              have hjn : 0 < j := by omega
              have hjd : decide (0 < (j : Int)) = true := decide_eq_true hjp
              have hjd' : decide (0 < j) = true := decide_eq_true hjn
              have hzy := KR.out j (by omega) hj'
              obtain ⟨t, ht, et⟩ : ∃ t : Nat, (j : Int) - 1 = (t : Int) ∧ j - 1 = t := ⟨j - 1, by omega, rfl⟩
              rw [et] at hzy
              have htl : t < A.length := by omega
              have htl' : (t : Int) < (A.length : Int) := by omega
              obtain ⟨g', cur', eg, hg', hct⟩ := view_at hu htl
              cases eg
              have ecur : cur' = cur := by
                have h1 : wo.heap[g]? = _ := hg
                have h2 : wo.heap[g]? = _ := hg'
                rw [h1] at h2
                cases h2
                rfl
              subst ecur
              have z0 := Ext.cell (hg.later hR) t
              rw [hct] at z0
              generalize A.getD t 0 = z at *
              generalize A.getD j 0 = y at *
              have hzd : decide (y ≤ z) = false := decide_eq_false (by omega)
              clear hzy et hj0
              go_wp2_with fail
              refine wp_region_look hmx (by kernel_rfl) ?_
              repeat (go_big_quiet_step (fail))
              refine wpQuiet_nil ?_
              intro x
              have hR := then_below hR x.le
              have q0 := q0.later x.le
              have gx := hg.later hR
              clear e0 e1 e2 y0 z0
              generalize x.wd = wx at *
              have e0 := Ext.cell q0 0
              have e1 := Ext.cell q0 1
              have e2 := Ext.cell q0 2
              have y0 := Ext.cell gx j
              rw [hc] at y0
              simp at e0 e1 e2
              have z0 := Ext.cell gx t
              rw [hct] at z0
              clear x
              go_wp2_with fail
              refine wp_region_look hmx (by kernel_rfl) ?_
              repeat (go_big_quiet_step ((go_at_call 10; exact calls_ext (KEE.out _))))
              refine wpQuiet_nil ?_
              intro x
              have hR := then_below hR x.le
              have q0 := q0.later x.le
              have gx := hg.later hR
              clear e0 e1 e2 y0 z0
              generalize x.wd = wx at *
              have e0 := Ext.cell q0 0
              have e1 := Ext.cell q0 1
              have e2 := Ext.cell q0 2
              have y0 := Ext.cell gx j
              rw [hc] at y0
              simp at e0 e1 e2
              have z0 := Ext.cell gx t
              rw [hct] at z0
              cases hpe : (p == m)
              · clear x
                go_wp2_with fail
                refine wp_region_look hmx (by kernel_rfl) ?_
                repeat (go_big_quiet_step (fail))
                refine wpQuiet_nil ?_
                intro x
                have hR := then_below hR x.le
                go_wp2
                go_roundw
                case rel => exact ⟨j + 1, by omega, by go_num, hR⟩
                case measure => simp [intOf]; omega
              · have hpm : p = m := by simpa using hpe
                have hy := HPM.out hpm
                clear hpe HPM KEE
                subst hpm
                subst hy
                obtain ⟨r1, r2, r3, r4⟩ := KW.out
                clear x
                go_wp2_with fail
                refine wp_region_look hmx (by kernel_rfl) ?_
                repeat (go_big_quiet_step (fail))
                refine wpQuiet_nil ?_
                intro x
                have hR := then_below hR x.le
                go_wp2
                go_roundw
                case rel => exact ⟨j + 1, by omega, by go_num, hR⟩
                case measure => simp [intOf]; omega
          · go_wp2
            go_ret
            exact ⟨rfl, then_below hB0 (then_below hT hR)⟩

end Go.Proofs.Ytbbddolalglmnaa
