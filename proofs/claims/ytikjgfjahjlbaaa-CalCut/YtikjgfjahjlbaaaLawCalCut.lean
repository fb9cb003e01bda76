/-
  CalCut walked. (Written by tools/gen/cal_cut.py.)
-/
import Derived.Test.YtikjgfjahjlbaaaCalBoth
namespace Go.Proofs.Ytikjgfjahjlbaaa
open Go Go.RowKit Go.Shelf

attribute [local go_sem] Oper.semAt_some ext_const

/-- What is asked of At, ahead of Cut and behind it. -/
theorem cut_at_facts {xs : List Slt} {ow to a : Int} (hm : mayC xs) :
    (atE xs a = 0 ∧ atV xs a = ow ∧ to ≤ a ∧ atE (endedC xs ow to) a = 6) ∨
    (¬ (atE xs a = 0 ∧ atV xs a = ow ∧ to ≤ a) ∧ atE (endedC xs ow to) a = atE xs a ∧ atV (endedC xs ow to) a = atV xs a) := by
  have em := mayCB_iff.2 hm
  have ey := mayCB_iff.2 (endedC_may hm ow to)
  have hat := endedC_at hm ow to a
  by_cases hmo : 0 ≤ a ∧ a < 1099511627776
  · have e1 := momB_yes hmo
    by_cases hh : atC xs a = some ow ∧ to ≤ a
    · rw [if_pos hh] at hat
      exact .inl ⟨by simp [atE, em, e1, hh.1], by simp [atV, em, e1, hh.1], hh.2, by simp [atE, ey, e1, hat]⟩
    · rw [if_neg hh] at hat
      refine .inr ⟨fun ⟨h1, h2, h3⟩ => hh ⟨?_, h3⟩, by simp [atE, ey, em, e1, hat], by simp [atV, ey, em, e1, hat]⟩
      cases hx : atC xs a with
      | none => simp [atE, em, e1, hx] at h1
      | some p =>
        simp [atV, em, e1, hx] at h2
        rw [h2]
  · have e1 := momB_no hmo
    exact .inr ⟨fun ⟨h1, _⟩ => by simp [atE, em, e1] at h1, by simp [atE, ey, em, e1], by simp [atV, e1]⟩

set_option maxRecDepth 100000 in
set_option maxHeartbeats 8000000 in
theorem calCut_bad {xs : List Slt} {v : Value} {ow to mo a : Int} (w : World) (hS : Ss w v xs) (hn : xs.length ≤ 5000) (hm : ¬ mayC xs) :
    Calls Try.prog 8 #[v, I ow, I to, I mo, I a] w fun e W' => e = .returned (.bool true) ∧ Below w.heap.size w W' := by
  obtain ⟨ao, cap, rfl, hS⟩ := hS.form
  have HS : Hid (Ss w (.slice ao xs.length cap) xs) := hS
  have HV : Hid (∀ w, Calls Try.prog 14 #[] w fun e W' => e = .returned (.bool true) ∧ Below w.heap.size w W') := aliveC_calls
  have HU : Hid (∀ w v, Ss w v xs → Calls Try.prog 12 #[v, I ow, I to] w fun e W' => e = .returned (.tuple #[.slice none 0 0, I 8]) ∧ Below w.heap.size w W') := fun w v h => ccut_no w h hm
  have HE : Hid (∀ w v, Ss w v xs → Calls Try.prog 21 #[v] w fun e W' => e = .returned (I 8) ∧ Below w.heap.size w W') := fun w v h => by rw [← errC_no hm]; exact ccheck_calls w h
  have hg5 : decide ((5000 : Int) < (xs.length : Int)) = false := decide_eq_false (by omega)
  clear hS hm
  go_enter Try.func8, Try.ntmps8
  go_wp2_with fail
  refine (HV.out _).mono ?_
  rintro e w1 ⟨rfl, hT⟩
  go_wp2_with fail
  refine (HU.out _ _ (HS.out.later hT)).mono ?_
  rintro e w2 ⟨rfl, hB⟩
  have hT := then_below hT hB
  clear hB
  go_wp2_with fail
  refine (HE.out _ _ (HS.out.later hT)).mono ?_
  rintro e w3 ⟨rfl, hB⟩
  go_wp2
  go_ret
  exact ⟨rfl, then_below hT hB⟩

set_option maxRecDepth 100000 in
set_option maxHeartbeats 32000000 in
theorem calCut_yes {xs : List Slt} {v : Value} {ow to mo a : Int} (w : World) (hS : Ss w v xs) (hm : mayC xs) :
    Calls Try.prog 8 #[v, I ow, I to, I mo, I a] w fun e W' => e = .returned (.bool true) ∧ Below w.heap.size w W' := by
  obtain ⟨ao, cap, rfl, hS⟩ := hS.form
  have HS : Hid (Ss w (.slice ao xs.length cap) xs) := hS
  have HV : Hid (∀ w, Calls Try.prog 14 #[] w fun e W' => e = .returned (.bool true) ∧ Below w.heap.size w W') := aliveC_calls
  have hmy := endedC_may hm ow to
  have HU : Hid (∀ w v, Ss w v xs → Calls Try.prog 12 #[v, I ow, I to] w fun e W' => ∃ u, e = .returned (.tuple #[u, I 0]) ∧ So W' w.heap.size u (endedC xs ow to) ∧ Below w.heap.size w W') := fun w v h => ccut_yes w h hm
  have HA : Hid (∀ w v, Ss w v xs → Calls Try.prog 11 #[v, I a] w fun e W' => e = .returned (.tuple #[I (atV xs a), I (atE xs a)]) ∧ Below w.heap.size w W') := fun w v h => cat_calls w h
  have HA' : Hid (∀ w v, Ss w v (endedC xs ow to) → Calls Try.prog 11 #[v, I a] w fun e W' => e = .returned (.tuple #[I (atV (endedC xs ow to) a), I (atE (endedC xs ow to) a)]) ∧ Below w.heap.size w W') := fun w v h => cat_calls w h
  have HUb : Hid (∀ w v, Ss w v (endedC xs ow to) → Calls Try.prog 12 #[v, I ow, I mo] w fun e W' => ∃ u, e = .returned (.tuple #[u, I 0]) ∧ So W' w.heap.size u (endedC xs ow (if to ≤ mo then to else mo)) ∧ Below w.heap.size w W') := fun w v h => by rw [← endedC_twice]; exact ccut_yes w h hmy
  have HUd : Hid (∀ w v, Ss w v xs → Calls Try.prog 12 #[v, I ow, I (if to ≤ mo then to else mo)] w fun e W' => ∃ u, e = .returned (.tuple #[u, I 0]) ∧ So W' w.heap.size u (endedC xs ow (if to ≤ mo then to else mo)) ∧ Below w.heap.size w W') := fun w v h => ccut_yes w h hm
  have HUm : Hid (∀ w v, Ss w v xs → Calls Try.prog 12 #[v, I ow, I 1099511627776] w fun e W' => ∃ u, e = .returned (.tuple #[u, I 0]) ∧ So W' w.heap.size u xs ∧ Below w.heap.size w W') := fun w v h => by
    have := ccut_yes (ow := ow) (to := 1099511627776) w h hm
    rwa [endedC_max hm ow (by omega)] at this
  have HUz : Hid (∀ w v, Ss w v xs → Calls Try.prog 12 #[v, I ow, I 0] w fun e W' => ∃ u, e = .returned (.tuple #[u, I 0]) ∧ So W' w.heap.size u (lessC xs ow) ∧ Below w.heap.size w W') := fun w v h => by
    have := ccut_yes (ow := ow) (to := 0) w h hm
    rwa [endedC_zero hm ow (by omega)] at this
  have HX : Hid (∀ w v, Ss w v xs → Calls Try.prog 13 #[v, I ow] w fun e W' => ∃ u, e = .returned (.tuple #[u, I 0]) ∧ So W' w.heap.size u (lessC xs ow) ∧ Below w.heap.size w W') := fun w v h => ctake_yes w h hm
  have HE : Hid (∀ w v, Ss w v (endedC xs ow to) → Calls Try.prog 21 #[v] w fun e W' => e = .returned (I 0) ∧ Below w.heap.size w W') := fun w v h => by rw [← errC_ok hmy]; exact ccheck_calls w h
  have HM : Hid (∀ w u v (ys : List Slt), ys.length ≤ 100000 → Ss w u ys → Ss w v ys → Calls Try.prog 15 #[u, v] w fun e W' => e = .returned (.bool true) ∧ Below w.heap.size w W') := fun w u v ys hy h h' => same_true w h h' hy
  have hx4 := hm.2.2
  have HL1 : Hid ((endedC xs ow (if to ≤ mo then to else mo)).length ≤ 100000) := Nat.le_trans (List.length_filterMap_le _ _) (by omega)
  have HL2 : Hid ((lessC xs ow).length ≤ 100000) := Nat.le_trans (List.length_filter_le _ _) (by omega)
  have HF := cut_at_facts (ow := ow) (to := to) (a := a) hm
  have hg5 : decide ((5000 : Int) < (xs.length : Int)) = false := decide_eq_false (by omega)
  clear hS hm hmy
  generalize atV xs a = x1 at *
  generalize atE xs a = g1 at *
  generalize atV (endedC xs ow to) a = y1 at *
  generalize atE (endedC xs ow to) a = h1 at *
  generalize endedC xs ow (if to ≤ mo then to else mo) = LB at *
  generalize endedC xs ow to = LA at *
  generalize lessC xs ow = LT at *
  by_cases hmin : to ≤ mo
  · rw [if_pos hmin] at HUd
    rcases HF with ⟨rfl, rfl, hta, rfl⟩ | ⟨hno, rfl, rfl⟩
    · skip
      have HC : Hid (Ss w (.slice ao xs.length cap) xs) := HS
      go_enter Try.func8, Try.ntmps8
      go_wp2_with fail
      refine (HV.out _).mono ?_
      rintro e w1 ⟨rfl, hB⟩
      have HC : Hid (Ss w1 (.slice ao xs.length cap) xs) := HC.out.later hB
      have hT := hB
      clear hB
      go_wp2_with fail
      refine (HU.out _ _ HC.out).mono ?_
      rintro e w2 ⟨ua, rfl, hO, hB⟩
      have HC : Hid (Ss w2 (.slice ao xs.length cap) xs) := HC.out.later hB
      have HY : Hid (Ss w2 ua LA) := hO.ss
      clear hO
      have hT := then_below hT hB
      clear hB
      go_wp2_with fail
      refine (HA.out _ _ HC.out).mono ?_
      rintro e w3 ⟨rfl, hB⟩
      have HC : Hid (Ss w3 (.slice ao xs.length cap) xs) := HC.out.later hB
      have HY : Hid (Ss w3 ua LA) := HY.out.later hB
      have hT := then_below hT hB
      clear hB
      go_wp2_with fail
      refine (HA'.out _ _ HY.out).mono ?_
      rintro e w4 ⟨rfl, hB⟩
      have HC : Hid (Ss w4 (.slice ao xs.length cap) xs) := HC.out.later hB
      have HY : Hid (Ss w4 ua LA) := HY.out.later hB
      have hT := then_below hT hB
      clear hB
      go_wp2_with fail
      refine (HUb.out _ _ HY.out).mono ?_
      rintro e w5 ⟨ub, rfl, hO, hB⟩
      have HC : Hid (Ss w5 (.slice ao xs.length cap) xs) := HC.out.later hB
      have HY : Hid (Ss w5 ua LA) := HY.out.later hB
      have HBb : Hid (Ss w5 ub LB) := hO.ss
      clear hO
      have hT := then_below hT hB
      clear hB
      go_wp2_with fail
      all_goals (try (exfalso; omega))
      refine (HUd.out _ _ HC.out).mono ?_
      rintro e w6 ⟨ud, rfl, hO, hB⟩
      have HC : Hid (Ss w6 (.slice ao xs.length cap) xs) := HC.out.later hB
      have HY : Hid (Ss w6 ua LA) := HY.out.later hB
      have HBb : Hid (Ss w6 ub LB) := HBb.out.later hB
      have HD : Hid (Ss w6 ud LB) := hO.ss
      clear hO
      have hT := then_below hT hB
      clear hB
      go_wp2_with fail
      refine (HUm.out _ _ HC.out).mono ?_
      rintro e w7 ⟨um, rfl, hO, hB⟩
      have HC : Hid (Ss w7 (.slice ao xs.length cap) xs) := HC.out.later hB
      have HY : Hid (Ss w7 ua LA) := HY.out.later hB
      have HBb : Hid (Ss w7 ub LB) := HBb.out.later hB
      have HD : Hid (Ss w7 ud LB) := HD.out.later hB
      have HMx : Hid (Ss w7 um xs) := hO.ss
      clear hO
      have hT := then_below hT hB
      clear hB
      go_wp2_with fail
      refine (HUz.out _ _ HC.out).mono ?_
      rintro e w8 ⟨uz, rfl, hO, hB⟩
      have HC : Hid (Ss w8 (.slice ao xs.length cap) xs) := HC.out.later hB
      have HY : Hid (Ss w8 ua LA) := HY.out.later hB
      have HBb : Hid (Ss w8 ub LB) := HBb.out.later hB
      have HD : Hid (Ss w8 ud LB) := HD.out.later hB
      have HMx : Hid (Ss w8 um xs) := HMx.out.later hB
      have HZ : Hid (Ss w8 uz LT) := hO.ss
      clear hO
      have hT := then_below hT hB
      clear hB
      go_wp2_with fail
      refine (HX.out _ _ HC.out).mono ?_
      rintro e w9 ⟨ut, rfl, hO, hB⟩
      have HC : Hid (Ss w9 (.slice ao xs.length cap) xs) := HC.out.later hB
      have HY : Hid (Ss w9 ua LA) := HY.out.later hB
      have HBb : Hid (Ss w9 ub LB) := HBb.out.later hB
      have HD : Hid (Ss w9 ud LB) := HD.out.later hB
      have HMx : Hid (Ss w9 um xs) := HMx.out.later hB
      have HZ : Hid (Ss w9 uz LT) := HZ.out.later hB
      have HTk : Hid (Ss w9 ut LT) := hO.ss
      clear hO
      have hT := then_below hT hB
      clear hB
      go_wp2_with fail
      refine (HM.out _ _ _ LB HL1.out HBb.out HD.out).mono ?_
      rintro e w10 ⟨rfl, hB⟩
      have HC : Hid (Ss w10 (.slice ao xs.length cap) xs) := HC.out.later hB
      have HY : Hid (Ss w10 ua LA) := HY.out.later hB
      have HBb : Hid (Ss w10 ub LB) := HBb.out.later hB
      have HD : Hid (Ss w10 ud LB) := HD.out.later hB
      have HMx : Hid (Ss w10 um xs) := HMx.out.later hB
      have HZ : Hid (Ss w10 uz LT) := HZ.out.later hB
      have HTk : Hid (Ss w10 ut LT) := HTk.out.later hB
      have hT := then_below hT hB
      clear hB
      go_wp2_with fail
      refine (HM.out _ _ _ xs (by omega) HMx.out HC.out).mono ?_
      rintro e w11 ⟨rfl, hB⟩
      have HC : Hid (Ss w11 (.slice ao xs.length cap) xs) := HC.out.later hB
      have HY : Hid (Ss w11 ua LA) := HY.out.later hB
      have HBb : Hid (Ss w11 ub LB) := HBb.out.later hB
      have HD : Hid (Ss w11 ud LB) := HD.out.later hB
      have HMx : Hid (Ss w11 um xs) := HMx.out.later hB
      have HZ : Hid (Ss w11 uz LT) := HZ.out.later hB
      have HTk : Hid (Ss w11 ut LT) := HTk.out.later hB
      have hT := then_below hT hB
      clear hB
      go_wp2_with fail
      refine (HM.out _ _ _ LT HL2.out HZ.out HTk.out).mono ?_
      rintro e w12 ⟨rfl, hB⟩
      have HC : Hid (Ss w12 (.slice ao xs.length cap) xs) := HC.out.later hB
      have HY : Hid (Ss w12 ua LA) := HY.out.later hB
      have HBb : Hid (Ss w12 ub LB) := HBb.out.later hB
      have HD : Hid (Ss w12 ud LB) := HD.out.later hB
      have HMx : Hid (Ss w12 um xs) := HMx.out.later hB
      have HZ : Hid (Ss w12 uz LT) := HZ.out.later hB
      have HTk : Hid (Ss w12 ut LT) := HTk.out.later hB
      have hT := then_below hT hB
      clear hB
      go_wp2_with fail
      refine (HE.out _ _ HY.out).mono ?_
      rintro e w13 ⟨rfl, hB⟩
      have HC : Hid (Ss w13 (.slice ao xs.length cap) xs) := HC.out.later hB
      have HY : Hid (Ss w13 ua LA) := HY.out.later hB
      have HBb : Hid (Ss w13 ub LB) := HBb.out.later hB
      have HD : Hid (Ss w13 ud LB) := HD.out.later hB
      have HMx : Hid (Ss w13 um xs) := HMx.out.later hB
      have HZ : Hid (Ss w13 uz LT) := HZ.out.later hB
      have HTk : Hid (Ss w13 ut LT) := HTk.out.later hB
      have hT := then_below hT hB
      clear hB
      go_wp2
      go_ret
      exact ⟨rfl, hT⟩
    · by_cases h0 : h1 = 0
      · by_cases hx : y1 = ow
        · have hta : decide (to ≤ a) = false := decide_eq_false fun h => hno ⟨h0, hx, h⟩
          clear hno
          subst h0 hx
          have HC : Hid (Ss w (.slice ao xs.length cap) xs) := HS
          go_enter Try.func8, Try.ntmps8
          go_wp2_with fail
          refine (HV.out _).mono ?_
          rintro e w1 ⟨rfl, hB⟩
          have HC : Hid (Ss w1 (.slice ao xs.length cap) xs) := HC.out.later hB
          have hT := hB
          clear hB
          go_wp2_with fail
          refine (HU.out _ _ HC.out).mono ?_
          rintro e w2 ⟨ua, rfl, hO, hB⟩
          have HC : Hid (Ss w2 (.slice ao xs.length cap) xs) := HC.out.later hB
          have HY : Hid (Ss w2 ua LA) := hO.ss
          clear hO
          have hT := then_below hT hB
          clear hB
          go_wp2_with fail
          refine (HA.out _ _ HC.out).mono ?_
          rintro e w3 ⟨rfl, hB⟩
          have HC : Hid (Ss w3 (.slice ao xs.length cap) xs) := HC.out.later hB
          have HY : Hid (Ss w3 ua LA) := HY.out.later hB
          have hT := then_below hT hB
          clear hB
          go_wp2_with fail
          refine (HA'.out _ _ HY.out).mono ?_
          rintro e w4 ⟨rfl, hB⟩
          have HC : Hid (Ss w4 (.slice ao xs.length cap) xs) := HC.out.later hB
          have HY : Hid (Ss w4 ua LA) := HY.out.later hB
          have hT := then_below hT hB
          clear hB
          go_wp2_with fail
          refine (HUb.out _ _ HY.out).mono ?_
          rintro e w5 ⟨ub, rfl, hO, hB⟩
          have HC : Hid (Ss w5 (.slice ao xs.length cap) xs) := HC.out.later hB
          have HY : Hid (Ss w5 ua LA) := HY.out.later hB
          have HBb : Hid (Ss w5 ub LB) := hO.ss
          clear hO
          have hT := then_below hT hB
          clear hB
          go_wp2_with fail
          all_goals (try (exfalso; omega))
          refine (HUd.out _ _ HC.out).mono ?_
          rintro e w6 ⟨ud, rfl, hO, hB⟩
          have HC : Hid (Ss w6 (.slice ao xs.length cap) xs) := HC.out.later hB
          have HY : Hid (Ss w6 ua LA) := HY.out.later hB
          have HBb : Hid (Ss w6 ub LB) := HBb.out.later hB
          have HD : Hid (Ss w6 ud LB) := hO.ss
          clear hO
          have hT := then_below hT hB
          clear hB
          go_wp2_with fail
          refine (HUm.out _ _ HC.out).mono ?_
          rintro e w7 ⟨um, rfl, hO, hB⟩
          have HC : Hid (Ss w7 (.slice ao xs.length cap) xs) := HC.out.later hB
          have HY : Hid (Ss w7 ua LA) := HY.out.later hB
          have HBb : Hid (Ss w7 ub LB) := HBb.out.later hB
          have HD : Hid (Ss w7 ud LB) := HD.out.later hB
          have HMx : Hid (Ss w7 um xs) := hO.ss
          clear hO
          have hT := then_below hT hB
          clear hB
          go_wp2_with fail
          refine (HUz.out _ _ HC.out).mono ?_
          rintro e w8 ⟨uz, rfl, hO, hB⟩
          have HC : Hid (Ss w8 (.slice ao xs.length cap) xs) := HC.out.later hB
          have HY : Hid (Ss w8 ua LA) := HY.out.later hB
          have HBb : Hid (Ss w8 ub LB) := HBb.out.later hB
          have HD : Hid (Ss w8 ud LB) := HD.out.later hB
          have HMx : Hid (Ss w8 um xs) := HMx.out.later hB
          have HZ : Hid (Ss w8 uz LT) := hO.ss
          clear hO
          have hT := then_below hT hB
          clear hB
          go_wp2_with fail
          refine (HX.out _ _ HC.out).mono ?_
          rintro e w9 ⟨ut, rfl, hO, hB⟩
          have HC : Hid (Ss w9 (.slice ao xs.length cap) xs) := HC.out.later hB
          have HY : Hid (Ss w9 ua LA) := HY.out.later hB
          have HBb : Hid (Ss w9 ub LB) := HBb.out.later hB
          have HD : Hid (Ss w9 ud LB) := HD.out.later hB
          have HMx : Hid (Ss w9 um xs) := HMx.out.later hB
          have HZ : Hid (Ss w9 uz LT) := HZ.out.later hB
          have HTk : Hid (Ss w9 ut LT) := hO.ss
          clear hO
          have hT := then_below hT hB
          clear hB
          go_wp2_with fail
          refine (HM.out _ _ _ LB HL1.out HBb.out HD.out).mono ?_
          rintro e w10 ⟨rfl, hB⟩
          have HC : Hid (Ss w10 (.slice ao xs.length cap) xs) := HC.out.later hB
          have HY : Hid (Ss w10 ua LA) := HY.out.later hB
          have HBb : Hid (Ss w10 ub LB) := HBb.out.later hB
          have HD : Hid (Ss w10 ud LB) := HD.out.later hB
          have HMx : Hid (Ss w10 um xs) := HMx.out.later hB
          have HZ : Hid (Ss w10 uz LT) := HZ.out.later hB
          have HTk : Hid (Ss w10 ut LT) := HTk.out.later hB
          have hT := then_below hT hB
          clear hB
          go_wp2_with fail
          refine (HM.out _ _ _ xs (by omega) HMx.out HC.out).mono ?_
          rintro e w11 ⟨rfl, hB⟩
          have HC : Hid (Ss w11 (.slice ao xs.length cap) xs) := HC.out.later hB
          have HY : Hid (Ss w11 ua LA) := HY.out.later hB
          have HBb : Hid (Ss w11 ub LB) := HBb.out.later hB
          have HD : Hid (Ss w11 ud LB) := HD.out.later hB
          have HMx : Hid (Ss w11 um xs) := HMx.out.later hB
          have HZ : Hid (Ss w11 uz LT) := HZ.out.later hB
          have HTk : Hid (Ss w11 ut LT) := HTk.out.later hB
          have hT := then_below hT hB
          clear hB
          go_wp2_with fail
          refine (HM.out _ _ _ LT HL2.out HZ.out HTk.out).mono ?_
          rintro e w12 ⟨rfl, hB⟩
          have HC : Hid (Ss w12 (.slice ao xs.length cap) xs) := HC.out.later hB
          have HY : Hid (Ss w12 ua LA) := HY.out.later hB
          have HBb : Hid (Ss w12 ub LB) := HBb.out.later hB
          have HD : Hid (Ss w12 ud LB) := HD.out.later hB
          have HMx : Hid (Ss w12 um xs) := HMx.out.later hB
          have HZ : Hid (Ss w12 uz LT) := HZ.out.later hB
          have HTk : Hid (Ss w12 ut LT) := HTk.out.later hB
          have hT := then_below hT hB
          clear hB
          go_wp2_with fail
          refine (HE.out _ _ HY.out).mono ?_
          rintro e w13 ⟨rfl, hB⟩
          have HC : Hid (Ss w13 (.slice ao xs.length cap) xs) := HC.out.later hB
          have HY : Hid (Ss w13 ua LA) := HY.out.later hB
          have HBb : Hid (Ss w13 ub LB) := HBb.out.later hB
          have HD : Hid (Ss w13 ud LB) := HD.out.later hB
          have HMx : Hid (Ss w13 um xs) := HMx.out.later hB
          have HZ : Hid (Ss w13 uz LT) := HZ.out.later hB
          have HTk : Hid (Ss w13 ut LT) := HTk.out.later hB
          have hT := then_below hT hB
          clear hB
          go_wp2
          go_ret
          exact ⟨rfl, hT⟩
        · have hx : (y1 == ow) = false := by simpa using hx
          clear hno
          subst h0
          have HC : Hid (Ss w (.slice ao xs.length cap) xs) := HS
          go_enter Try.func8, Try.ntmps8
          go_wp2_with fail
          refine (HV.out _).mono ?_
          rintro e w1 ⟨rfl, hB⟩
          have HC : Hid (Ss w1 (.slice ao xs.length cap) xs) := HC.out.later hB
          have hT := hB
          clear hB
          go_wp2_with fail
          refine (HU.out _ _ HC.out).mono ?_
          rintro e w2 ⟨ua, rfl, hO, hB⟩
          have HC : Hid (Ss w2 (.slice ao xs.length cap) xs) := HC.out.later hB
          have HY : Hid (Ss w2 ua LA) := hO.ss
          clear hO
          have hT := then_below hT hB
          clear hB
          go_wp2_with fail
          refine (HA.out _ _ HC.out).mono ?_
          rintro e w3 ⟨rfl, hB⟩
          have HC : Hid (Ss w3 (.slice ao xs.length cap) xs) := HC.out.later hB
          have HY : Hid (Ss w3 ua LA) := HY.out.later hB
          have hT := then_below hT hB
          clear hB
          go_wp2_with fail
          refine (HA'.out _ _ HY.out).mono ?_
          rintro e w4 ⟨rfl, hB⟩
          have HC : Hid (Ss w4 (.slice ao xs.length cap) xs) := HC.out.later hB
          have HY : Hid (Ss w4 ua LA) := HY.out.later hB
          have hT := then_below hT hB
          clear hB
          go_wp2_with fail
          refine (HUb.out _ _ HY.out).mono ?_
          rintro e w5 ⟨ub, rfl, hO, hB⟩
          have HC : Hid (Ss w5 (.slice ao xs.length cap) xs) := HC.out.later hB
          have HY : Hid (Ss w5 ua LA) := HY.out.later hB
          have HBb : Hid (Ss w5 ub LB) := hO.ss
          clear hO
          have hT := then_below hT hB
          clear hB
          go_wp2_with fail
          all_goals (try (exfalso; omega))
          refine (HUd.out _ _ HC.out).mono ?_
          rintro e w6 ⟨ud, rfl, hO, hB⟩
          have HC : Hid (Ss w6 (.slice ao xs.length cap) xs) := HC.out.later hB
          have HY : Hid (Ss w6 ua LA) := HY.out.later hB
          have HBb : Hid (Ss w6 ub LB) := HBb.out.later hB
          have HD : Hid (Ss w6 ud LB) := hO.ss
          clear hO
          have hT := then_below hT hB
          clear hB
          go_wp2_with fail
          refine (HUm.out _ _ HC.out).mono ?_
          rintro e w7 ⟨um, rfl, hO, hB⟩
          have HC : Hid (Ss w7 (.slice ao xs.length cap) xs) := HC.out.later hB
          have HY : Hid (Ss w7 ua LA) := HY.out.later hB
          have HBb : Hid (Ss w7 ub LB) := HBb.out.later hB
          have HD : Hid (Ss w7 ud LB) := HD.out.later hB
          have HMx : Hid (Ss w7 um xs) := hO.ss
          clear hO
          have hT := then_below hT hB
          clear hB
          go_wp2_with fail
          refine (HUz.out _ _ HC.out).mono ?_
          rintro e w8 ⟨uz, rfl, hO, hB⟩
          have HC : Hid (Ss w8 (.slice ao xs.length cap) xs) := HC.out.later hB
          have HY : Hid (Ss w8 ua LA) := HY.out.later hB
          have HBb : Hid (Ss w8 ub LB) := HBb.out.later hB
          have HD : Hid (Ss w8 ud LB) := HD.out.later hB
          have HMx : Hid (Ss w8 um xs) := HMx.out.later hB
          have HZ : Hid (Ss w8 uz LT) := hO.ss
          clear hO
          have hT := then_below hT hB
          clear hB
          go_wp2_with fail
          refine (HX.out _ _ HC.out).mono ?_
          rintro e w9 ⟨ut, rfl, hO, hB⟩
          have HC : Hid (Ss w9 (.slice ao xs.length cap) xs) := HC.out.later hB
          have HY : Hid (Ss w9 ua LA) := HY.out.later hB
          have HBb : Hid (Ss w9 ub LB) := HBb.out.later hB
          have HD : Hid (Ss w9 ud LB) := HD.out.later hB
          have HMx : Hid (Ss w9 um xs) := HMx.out.later hB
          have HZ : Hid (Ss w9 uz LT) := HZ.out.later hB
          have HTk : Hid (Ss w9 ut LT) := hO.ss
          clear hO
          have hT := then_below hT hB
          clear hB
          go_wp2_with fail
          refine (HM.out _ _ _ LB HL1.out HBb.out HD.out).mono ?_
          rintro e w10 ⟨rfl, hB⟩
          have HC : Hid (Ss w10 (.slice ao xs.length cap) xs) := HC.out.later hB
          have HY : Hid (Ss w10 ua LA) := HY.out.later hB
          have HBb : Hid (Ss w10 ub LB) := HBb.out.later hB
          have HD : Hid (Ss w10 ud LB) := HD.out.later hB
          have HMx : Hid (Ss w10 um xs) := HMx.out.later hB
          have HZ : Hid (Ss w10 uz LT) := HZ.out.later hB
          have HTk : Hid (Ss w10 ut LT) := HTk.out.later hB
          have hT := then_below hT hB
          clear hB
          go_wp2_with fail
          refine (HM.out _ _ _ xs (by omega) HMx.out HC.out).mono ?_
          rintro e w11 ⟨rfl, hB⟩
          have HC : Hid (Ss w11 (.slice ao xs.length cap) xs) := HC.out.later hB
          have HY : Hid (Ss w11 ua LA) := HY.out.later hB
          have HBb : Hid (Ss w11 ub LB) := HBb.out.later hB
          have HD : Hid (Ss w11 ud LB) := HD.out.later hB
          have HMx : Hid (Ss w11 um xs) := HMx.out.later hB
          have HZ : Hid (Ss w11 uz LT) := HZ.out.later hB
          have HTk : Hid (Ss w11 ut LT) := HTk.out.later hB
          have hT := then_below hT hB
          clear hB
          go_wp2_with fail
          refine (HM.out _ _ _ LT HL2.out HZ.out HTk.out).mono ?_
          rintro e w12 ⟨rfl, hB⟩
          have HC : Hid (Ss w12 (.slice ao xs.length cap) xs) := HC.out.later hB
          have HY : Hid (Ss w12 ua LA) := HY.out.later hB
          have HBb : Hid (Ss w12 ub LB) := HBb.out.later hB
          have HD : Hid (Ss w12 ud LB) := HD.out.later hB
          have HMx : Hid (Ss w12 um xs) := HMx.out.later hB
          have HZ : Hid (Ss w12 uz LT) := HZ.out.later hB
          have HTk : Hid (Ss w12 ut LT) := HTk.out.later hB
          have hT := then_below hT hB
          clear hB
          go_wp2_with fail
          refine (HE.out _ _ HY.out).mono ?_
          rintro e w13 ⟨rfl, hB⟩
          have HC : Hid (Ss w13 (.slice ao xs.length cap) xs) := HC.out.later hB
          have HY : Hid (Ss w13 ua LA) := HY.out.later hB
          have HBb : Hid (Ss w13 ub LB) := HBb.out.later hB
          have HD : Hid (Ss w13 ud LB) := HD.out.later hB
          have HMx : Hid (Ss w13 um xs) := HMx.out.later hB
          have HZ : Hid (Ss w13 uz LT) := HZ.out.later hB
          have HTk : Hid (Ss w13 ut LT) := HTk.out.later hB
          have hT := then_below hT hB
          clear hB
          go_wp2
          go_ret
          exact ⟨rfl, hT⟩
      · have h0 : (h1 == 0) = false := by simpa using h0
        clear hno
        have HC : Hid (Ss w (.slice ao xs.length cap) xs) := HS
        go_enter Try.func8, Try.ntmps8
        go_wp2_with fail
        refine (HV.out _).mono ?_
        rintro e w1 ⟨rfl, hB⟩
        have HC : Hid (Ss w1 (.slice ao xs.length cap) xs) := HC.out.later hB
        have hT := hB
        clear hB
        go_wp2_with fail
        refine (HU.out _ _ HC.out).mono ?_
        rintro e w2 ⟨ua, rfl, hO, hB⟩
        have HC : Hid (Ss w2 (.slice ao xs.length cap) xs) := HC.out.later hB
        have HY : Hid (Ss w2 ua LA) := hO.ss
        clear hO
        have hT := then_below hT hB
        clear hB
        go_wp2_with fail
        refine (HA.out _ _ HC.out).mono ?_
        rintro e w3 ⟨rfl, hB⟩
        have HC : Hid (Ss w3 (.slice ao xs.length cap) xs) := HC.out.later hB
        have HY : Hid (Ss w3 ua LA) := HY.out.later hB
        have hT := then_below hT hB
        clear hB
        go_wp2_with fail
        refine (HA'.out _ _ HY.out).mono ?_
        rintro e w4 ⟨rfl, hB⟩
        have HC : Hid (Ss w4 (.slice ao xs.length cap) xs) := HC.out.later hB
        have HY : Hid (Ss w4 ua LA) := HY.out.later hB
        have hT := then_below hT hB
        clear hB
        go_wp2_with fail
        refine (HUb.out _ _ HY.out).mono ?_
        rintro e w5 ⟨ub, rfl, hO, hB⟩
        have HC : Hid (Ss w5 (.slice ao xs.length cap) xs) := HC.out.later hB
        have HY : Hid (Ss w5 ua LA) := HY.out.later hB
        have HBb : Hid (Ss w5 ub LB) := hO.ss
        clear hO
        have hT := then_below hT hB
        clear hB
        go_wp2_with fail
        all_goals (try (exfalso; omega))
        refine (HUd.out _ _ HC.out).mono ?_
        rintro e w6 ⟨ud, rfl, hO, hB⟩
        have HC : Hid (Ss w6 (.slice ao xs.length cap) xs) := HC.out.later hB
        have HY : Hid (Ss w6 ua LA) := HY.out.later hB
        have HBb : Hid (Ss w6 ub LB) := HBb.out.later hB
        have HD : Hid (Ss w6 ud LB) := hO.ss
        clear hO
        have hT := then_below hT hB
        clear hB
        go_wp2_with fail
        refine (HUm.out _ _ HC.out).mono ?_
        rintro e w7 ⟨um, rfl, hO, hB⟩
        have HC : Hid (Ss w7 (.slice ao xs.length cap) xs) := HC.out.later hB
        have HY : Hid (Ss w7 ua LA) := HY.out.later hB
        have HBb : Hid (Ss w7 ub LB) := HBb.out.later hB
        have HD : Hid (Ss w7 ud LB) := HD.out.later hB
        have HMx : Hid (Ss w7 um xs) := hO.ss
        clear hO
        have hT := then_below hT hB
        clear hB
        go_wp2_with fail
        refine (HUz.out _ _ HC.out).mono ?_
        rintro e w8 ⟨uz, rfl, hO, hB⟩
        have HC : Hid (Ss w8 (.slice ao xs.length cap) xs) := HC.out.later hB
        have HY : Hid (Ss w8 ua LA) := HY.out.later hB
        have HBb : Hid (Ss w8 ub LB) := HBb.out.later hB
        have HD : Hid (Ss w8 ud LB) := HD.out.later hB
        have HMx : Hid (Ss w8 um xs) := HMx.out.later hB
        have HZ : Hid (Ss w8 uz LT) := hO.ss
        clear hO
        have hT := then_below hT hB
        clear hB
        go_wp2_with fail
        refine (HX.out _ _ HC.out).mono ?_
        rintro e w9 ⟨ut, rfl, hO, hB⟩
        have HC : Hid (Ss w9 (.slice ao xs.length cap) xs) := HC.out.later hB
        have HY : Hid (Ss w9 ua LA) := HY.out.later hB
        have HBb : Hid (Ss w9 ub LB) := HBb.out.later hB
        have HD : Hid (Ss w9 ud LB) := HD.out.later hB
        have HMx : Hid (Ss w9 um xs) := HMx.out.later hB
        have HZ : Hid (Ss w9 uz LT) := HZ.out.later hB
        have HTk : Hid (Ss w9 ut LT) := hO.ss
        clear hO
        have hT := then_below hT hB
        clear hB
        go_wp2_with fail
        refine (HM.out _ _ _ LB HL1.out HBb.out HD.out).mono ?_
        rintro e w10 ⟨rfl, hB⟩
        have HC : Hid (Ss w10 (.slice ao xs.length cap) xs) := HC.out.later hB
        have HY : Hid (Ss w10 ua LA) := HY.out.later hB
        have HBb : Hid (Ss w10 ub LB) := HBb.out.later hB
        have HD : Hid (Ss w10 ud LB) := HD.out.later hB
        have HMx : Hid (Ss w10 um xs) := HMx.out.later hB
        have HZ : Hid (Ss w10 uz LT) := HZ.out.later hB
        have HTk : Hid (Ss w10 ut LT) := HTk.out.later hB
        have hT := then_below hT hB
        clear hB
        go_wp2_with fail
        refine (HM.out _ _ _ xs (by omega) HMx.out HC.out).mono ?_
        rintro e w11 ⟨rfl, hB⟩
        have HC : Hid (Ss w11 (.slice ao xs.length cap) xs) := HC.out.later hB
        have HY : Hid (Ss w11 ua LA) := HY.out.later hB
        have HBb : Hid (Ss w11 ub LB) := HBb.out.later hB
        have HD : Hid (Ss w11 ud LB) := HD.out.later hB
        have HMx : Hid (Ss w11 um xs) := HMx.out.later hB
        have HZ : Hid (Ss w11 uz LT) := HZ.out.later hB
        have HTk : Hid (Ss w11 ut LT) := HTk.out.later hB
        have hT := then_below hT hB
        clear hB
        go_wp2_with fail
        refine (HM.out _ _ _ LT HL2.out HZ.out HTk.out).mono ?_
        rintro e w12 ⟨rfl, hB⟩
        have HC : Hid (Ss w12 (.slice ao xs.length cap) xs) := HC.out.later hB
        have HY : Hid (Ss w12 ua LA) := HY.out.later hB
        have HBb : Hid (Ss w12 ub LB) := HBb.out.later hB
        have HD : Hid (Ss w12 ud LB) := HD.out.later hB
        have HMx : Hid (Ss w12 um xs) := HMx.out.later hB
        have HZ : Hid (Ss w12 uz LT) := HZ.out.later hB
        have HTk : Hid (Ss w12 ut LT) := HTk.out.later hB
        have hT := then_below hT hB
        clear hB
        go_wp2_with fail
        refine (HE.out _ _ HY.out).mono ?_
        rintro e w13 ⟨rfl, hB⟩
        have HC : Hid (Ss w13 (.slice ao xs.length cap) xs) := HC.out.later hB
        have HY : Hid (Ss w13 ua LA) := HY.out.later hB
        have HBb : Hid (Ss w13 ub LB) := HBb.out.later hB
        have HD : Hid (Ss w13 ud LB) := HD.out.later hB
        have HMx : Hid (Ss w13 um xs) := HMx.out.later hB
        have HZ : Hid (Ss w13 uz LT) := HZ.out.later hB
        have HTk : Hid (Ss w13 ut LT) := HTk.out.later hB
        have hT := then_below hT hB
        clear hB
        go_wp2
        go_ret
        exact ⟨rfl, hT⟩
  · rw [if_neg hmin] at HUd
    rcases HF with ⟨rfl, rfl, hta, rfl⟩ | ⟨hno, rfl, rfl⟩
    · skip
      have HC : Hid (Ss w (.slice ao xs.length cap) xs) := HS
      go_enter Try.func8, Try.ntmps8
      go_wp2_with fail
      refine (HV.out _).mono ?_
      rintro e w1 ⟨rfl, hB⟩
      have HC : Hid (Ss w1 (.slice ao xs.length cap) xs) := HC.out.later hB
      have hT := hB
      clear hB
      go_wp2_with fail
      refine (HU.out _ _ HC.out).mono ?_
      rintro e w2 ⟨ua, rfl, hO, hB⟩
      have HC : Hid (Ss w2 (.slice ao xs.length cap) xs) := HC.out.later hB
      have HY : Hid (Ss w2 ua LA) := hO.ss
      clear hO
      have hT := then_below hT hB
      clear hB
      go_wp2_with fail
      refine (HA.out _ _ HC.out).mono ?_
      rintro e w3 ⟨rfl, hB⟩
      have HC : Hid (Ss w3 (.slice ao xs.length cap) xs) := HC.out.later hB
      have HY : Hid (Ss w3 ua LA) := HY.out.later hB
      have hT := then_below hT hB
      clear hB
      go_wp2_with fail
      refine (HA'.out _ _ HY.out).mono ?_
      rintro e w4 ⟨rfl, hB⟩
      have HC : Hid (Ss w4 (.slice ao xs.length cap) xs) := HC.out.later hB
      have HY : Hid (Ss w4 ua LA) := HY.out.later hB
      have hT := then_below hT hB
      clear hB
      go_wp2_with fail
      refine (HUb.out _ _ HY.out).mono ?_
      rintro e w5 ⟨ub, rfl, hO, hB⟩
      have HC : Hid (Ss w5 (.slice ao xs.length cap) xs) := HC.out.later hB
      have HY : Hid (Ss w5 ua LA) := HY.out.later hB
      have HBb : Hid (Ss w5 ub LB) := hO.ss
      clear hO
      have hT := then_below hT hB
      clear hB
      go_wp2_with fail
      all_goals (try (exfalso; omega))
      refine (HUd.out _ _ HC.out).mono ?_
      rintro e w6 ⟨ud, rfl, hO, hB⟩
      have HC : Hid (Ss w6 (.slice ao xs.length cap) xs) := HC.out.later hB
      have HY : Hid (Ss w6 ua LA) := HY.out.later hB
      have HBb : Hid (Ss w6 ub LB) := HBb.out.later hB
      have HD : Hid (Ss w6 ud LB) := hO.ss
      clear hO
      have hT := then_below hT hB
      clear hB
      go_wp2_with fail
      refine (HUm.out _ _ HC.out).mono ?_
      rintro e w7 ⟨um, rfl, hO, hB⟩
      have HC : Hid (Ss w7 (.slice ao xs.length cap) xs) := HC.out.later hB
      have HY : Hid (Ss w7 ua LA) := HY.out.later hB
      have HBb : Hid (Ss w7 ub LB) := HBb.out.later hB
      have HD : Hid (Ss w7 ud LB) := HD.out.later hB
      have HMx : Hid (Ss w7 um xs) := hO.ss
      clear hO
      have hT := then_below hT hB
      clear hB
      go_wp2_with fail
      refine (HUz.out _ _ HC.out).mono ?_
      rintro e w8 ⟨uz, rfl, hO, hB⟩
      have HC : Hid (Ss w8 (.slice ao xs.length cap) xs) := HC.out.later hB
      have HY : Hid (Ss w8 ua LA) := HY.out.later hB
      have HBb : Hid (Ss w8 ub LB) := HBb.out.later hB
      have HD : Hid (Ss w8 ud LB) := HD.out.later hB
      have HMx : Hid (Ss w8 um xs) := HMx.out.later hB
      have HZ : Hid (Ss w8 uz LT) := hO.ss
      clear hO
      have hT := then_below hT hB
      clear hB
      go_wp2_with fail
      refine (HX.out _ _ HC.out).mono ?_
      rintro e w9 ⟨ut, rfl, hO, hB⟩
      have HC : Hid (Ss w9 (.slice ao xs.length cap) xs) := HC.out.later hB
      have HY : Hid (Ss w9 ua LA) := HY.out.later hB
      have HBb : Hid (Ss w9 ub LB) := HBb.out.later hB
      have HD : Hid (Ss w9 ud LB) := HD.out.later hB
      have HMx : Hid (Ss w9 um xs) := HMx.out.later hB
      have HZ : Hid (Ss w9 uz LT) := HZ.out.later hB
      have HTk : Hid (Ss w9 ut LT) := hO.ss
      clear hO
      have hT := then_below hT hB
      clear hB
      go_wp2_with fail
      refine (HM.out _ _ _ LB HL1.out HBb.out HD.out).mono ?_
      rintro e w10 ⟨rfl, hB⟩
      have HC : Hid (Ss w10 (.slice ao xs.length cap) xs) := HC.out.later hB
      have HY : Hid (Ss w10 ua LA) := HY.out.later hB
      have HBb : Hid (Ss w10 ub LB) := HBb.out.later hB
      have HD : Hid (Ss w10 ud LB) := HD.out.later hB
      have HMx : Hid (Ss w10 um xs) := HMx.out.later hB
      have HZ : Hid (Ss w10 uz LT) := HZ.out.later hB
      have HTk : Hid (Ss w10 ut LT) := HTk.out.later hB
      have hT := then_below hT hB
      clear hB
      go_wp2_with fail
      refine (HM.out _ _ _ xs (by omega) HMx.out HC.out).mono ?_
      rintro e w11 ⟨rfl, hB⟩
      have HC : Hid (Ss w11 (.slice ao xs.length cap) xs) := HC.out.later hB
      have HY : Hid (Ss w11 ua LA) := HY.out.later hB
      have HBb : Hid (Ss w11 ub LB) := HBb.out.later hB
      have HD : Hid (Ss w11 ud LB) := HD.out.later hB
      have HMx : Hid (Ss w11 um xs) := HMx.out.later hB
      have HZ : Hid (Ss w11 uz LT) := HZ.out.later hB
      have HTk : Hid (Ss w11 ut LT) := HTk.out.later hB
      have hT := then_below hT hB
      clear hB
      go_wp2_with fail
      refine (HM.out _ _ _ LT HL2.out HZ.out HTk.out).mono ?_
      rintro e w12 ⟨rfl, hB⟩
      have HC : Hid (Ss w12 (.slice ao xs.length cap) xs) := HC.out.later hB
      have HY : Hid (Ss w12 ua LA) := HY.out.later hB
      have HBb : Hid (Ss w12 ub LB) := HBb.out.later hB
      have HD : Hid (Ss w12 ud LB) := HD.out.later hB
      have HMx : Hid (Ss w12 um xs) := HMx.out.later hB
      have HZ : Hid (Ss w12 uz LT) := HZ.out.later hB
      have HTk : Hid (Ss w12 ut LT) := HTk.out.later hB
      have hT := then_below hT hB
      clear hB
      go_wp2_with fail
      refine (HE.out _ _ HY.out).mono ?_
      rintro e w13 ⟨rfl, hB⟩
      have HC : Hid (Ss w13 (.slice ao xs.length cap) xs) := HC.out.later hB
      have HY : Hid (Ss w13 ua LA) := HY.out.later hB
      have HBb : Hid (Ss w13 ub LB) := HBb.out.later hB
      have HD : Hid (Ss w13 ud LB) := HD.out.later hB
      have HMx : Hid (Ss w13 um xs) := HMx.out.later hB
      have HZ : Hid (Ss w13 uz LT) := HZ.out.later hB
      have HTk : Hid (Ss w13 ut LT) := HTk.out.later hB
      have hT := then_below hT hB
      clear hB
      go_wp2
      go_ret
      exact ⟨rfl, hT⟩
    · by_cases h0 : h1 = 0
      · by_cases hx : y1 = ow
        · have hta : decide (to ≤ a) = false := decide_eq_false fun h => hno ⟨h0, hx, h⟩
          clear hno
          subst h0 hx
          have HC : Hid (Ss w (.slice ao xs.length cap) xs) := HS
          go_enter Try.func8, Try.ntmps8
          go_wp2_with fail
          refine (HV.out _).mono ?_
          rintro e w1 ⟨rfl, hB⟩
          have HC : Hid (Ss w1 (.slice ao xs.length cap) xs) := HC.out.later hB
          have hT := hB
          clear hB
          go_wp2_with fail
          refine (HU.out _ _ HC.out).mono ?_
          rintro e w2 ⟨ua, rfl, hO, hB⟩
          have HC : Hid (Ss w2 (.slice ao xs.length cap) xs) := HC.out.later hB
          have HY : Hid (Ss w2 ua LA) := hO.ss
          clear hO
          have hT := then_below hT hB
          clear hB
          go_wp2_with fail
          refine (HA.out _ _ HC.out).mono ?_
          rintro e w3 ⟨rfl, hB⟩
          have HC : Hid (Ss w3 (.slice ao xs.length cap) xs) := HC.out.later hB
          have HY : Hid (Ss w3 ua LA) := HY.out.later hB
          have hT := then_below hT hB
          clear hB
          go_wp2_with fail
          refine (HA'.out _ _ HY.out).mono ?_
          rintro e w4 ⟨rfl, hB⟩
          have HC : Hid (Ss w4 (.slice ao xs.length cap) xs) := HC.out.later hB
          have HY : Hid (Ss w4 ua LA) := HY.out.later hB
          have hT := then_below hT hB
          clear hB
          go_wp2_with fail
          refine (HUb.out _ _ HY.out).mono ?_
          rintro e w5 ⟨ub, rfl, hO, hB⟩
          have HC : Hid (Ss w5 (.slice ao xs.length cap) xs) := HC.out.later hB
          have HY : Hid (Ss w5 ua LA) := HY.out.later hB
          have HBb : Hid (Ss w5 ub LB) := hO.ss
          clear hO
          have hT := then_below hT hB
          clear hB
          go_wp2_with fail
          all_goals (try (exfalso; omega))
          refine (HUd.out _ _ HC.out).mono ?_
          rintro e w6 ⟨ud, rfl, hO, hB⟩
          have HC : Hid (Ss w6 (.slice ao xs.length cap) xs) := HC.out.later hB
          have HY : Hid (Ss w6 ua LA) := HY.out.later hB
          have HBb : Hid (Ss w6 ub LB) := HBb.out.later hB
          have HD : Hid (Ss w6 ud LB) := hO.ss
          clear hO
          have hT := then_below hT hB
          clear hB
          go_wp2_with fail
          refine (HUm.out _ _ HC.out).mono ?_
          rintro e w7 ⟨um, rfl, hO, hB⟩
          have HC : Hid (Ss w7 (.slice ao xs.length cap) xs) := HC.out.later hB
          have HY : Hid (Ss w7 ua LA) := HY.out.later hB
          have HBb : Hid (Ss w7 ub LB) := HBb.out.later hB
          have HD : Hid (Ss w7 ud LB) := HD.out.later hB
          have HMx : Hid (Ss w7 um xs) := hO.ss
          clear hO
          have hT := then_below hT hB
          clear hB
          go_wp2_with fail
          refine (HUz.out _ _ HC.out).mono ?_
          rintro e w8 ⟨uz, rfl, hO, hB⟩
          have HC : Hid (Ss w8 (.slice ao xs.length cap) xs) := HC.out.later hB
          have HY : Hid (Ss w8 ua LA) := HY.out.later hB
          have HBb : Hid (Ss w8 ub LB) := HBb.out.later hB
          have HD : Hid (Ss w8 ud LB) := HD.out.later hB
          have HMx : Hid (Ss w8 um xs) := HMx.out.later hB
          have HZ : Hid (Ss w8 uz LT) := hO.ss
          clear hO
          have hT := then_below hT hB
          clear hB
          go_wp2_with fail
          refine (HX.out _ _ HC.out).mono ?_
          rintro e w9 ⟨ut, rfl, hO, hB⟩
          have HC : Hid (Ss w9 (.slice ao xs.length cap) xs) := HC.out.later hB
          have HY : Hid (Ss w9 ua LA) := HY.out.later hB
          have HBb : Hid (Ss w9 ub LB) := HBb.out.later hB
          have HD : Hid (Ss w9 ud LB) := HD.out.later hB
          have HMx : Hid (Ss w9 um xs) := HMx.out.later hB
          have HZ : Hid (Ss w9 uz LT) := HZ.out.later hB
          have HTk : Hid (Ss w9 ut LT) := hO.ss
          clear hO
          have hT := then_below hT hB
          clear hB
          go_wp2_with fail
          refine (HM.out _ _ _ LB HL1.out HBb.out HD.out).mono ?_
          rintro e w10 ⟨rfl, hB⟩
          have HC : Hid (Ss w10 (.slice ao xs.length cap) xs) := HC.out.later hB
          have HY : Hid (Ss w10 ua LA) := HY.out.later hB
          have HBb : Hid (Ss w10 ub LB) := HBb.out.later hB
          have HD : Hid (Ss w10 ud LB) := HD.out.later hB
          have HMx : Hid (Ss w10 um xs) := HMx.out.later hB
          have HZ : Hid (Ss w10 uz LT) := HZ.out.later hB
          have HTk : Hid (Ss w10 ut LT) := HTk.out.later hB
          have hT := then_below hT hB
          clear hB
          go_wp2_with fail
          refine (HM.out _ _ _ xs (by omega) HMx.out HC.out).mono ?_
          rintro e w11 ⟨rfl, hB⟩
          have HC : Hid (Ss w11 (.slice ao xs.length cap) xs) := HC.out.later hB
          have HY : Hid (Ss w11 ua LA) := HY.out.later hB
          have HBb : Hid (Ss w11 ub LB) := HBb.out.later hB
          have HD : Hid (Ss w11 ud LB) := HD.out.later hB
          have HMx : Hid (Ss w11 um xs) := HMx.out.later hB
          have HZ : Hid (Ss w11 uz LT) := HZ.out.later hB
          have HTk : Hid (Ss w11 ut LT) := HTk.out.later hB
          have hT := then_below hT hB
          clear hB
          go_wp2_with fail
          refine (HM.out _ _ _ LT HL2.out HZ.out HTk.out).mono ?_
          rintro e w12 ⟨rfl, hB⟩
          have HC : Hid (Ss w12 (.slice ao xs.length cap) xs) := HC.out.later hB
          have HY : Hid (Ss w12 ua LA) := HY.out.later hB
          have HBb : Hid (Ss w12 ub LB) := HBb.out.later hB
          have HD : Hid (Ss w12 ud LB) := HD.out.later hB
          have HMx : Hid (Ss w12 um xs) := HMx.out.later hB
          have HZ : Hid (Ss w12 uz LT) := HZ.out.later hB
          have HTk : Hid (Ss w12 ut LT) := HTk.out.later hB
          have hT := then_below hT hB
          clear hB
          go_wp2_with fail
          refine (HE.out _ _ HY.out).mono ?_
          rintro e w13 ⟨rfl, hB⟩
          have HC : Hid (Ss w13 (.slice ao xs.length cap) xs) := HC.out.later hB
          have HY : Hid (Ss w13 ua LA) := HY.out.later hB
          have HBb : Hid (Ss w13 ub LB) := HBb.out.later hB
          have HD : Hid (Ss w13 ud LB) := HD.out.later hB
          have HMx : Hid (Ss w13 um xs) := HMx.out.later hB
          have HZ : Hid (Ss w13 uz LT) := HZ.out.later hB
          have HTk : Hid (Ss w13 ut LT) := HTk.out.later hB
          have hT := then_below hT hB
          clear hB
          go_wp2
          go_ret
          exact ⟨rfl, hT⟩
        · have hx : (y1 == ow) = false := by simpa using hx
          clear hno
          subst h0
          have HC : Hid (Ss w (.slice ao xs.length cap) xs) := HS
          go_enter Try.func8, Try.ntmps8
          go_wp2_with fail
          refine (HV.out _).mono ?_
          rintro e w1 ⟨rfl, hB⟩
          have HC : Hid (Ss w1 (.slice ao xs.length cap) xs) := HC.out.later hB
          have hT := hB
          clear hB
          go_wp2_with fail
          refine (HU.out _ _ HC.out).mono ?_
          rintro e w2 ⟨ua, rfl, hO, hB⟩
          have HC : Hid (Ss w2 (.slice ao xs.length cap) xs) := HC.out.later hB
          have HY : Hid (Ss w2 ua LA) := hO.ss
          clear hO
          have hT := then_below hT hB
          clear hB
          go_wp2_with fail
          refine (HA.out _ _ HC.out).mono ?_
          rintro e w3 ⟨rfl, hB⟩
          have HC : Hid (Ss w3 (.slice ao xs.length cap) xs) := HC.out.later hB
          have HY : Hid (Ss w3 ua LA) := HY.out.later hB
          have hT := then_below hT hB
          clear hB
          go_wp2_with fail
          refine (HA'.out _ _ HY.out).mono ?_
          rintro e w4 ⟨rfl, hB⟩
          have HC : Hid (Ss w4 (.slice ao xs.length cap) xs) := HC.out.later hB
          have HY : Hid (Ss w4 ua LA) := HY.out.later hB
          have hT := then_below hT hB
          clear hB
          go_wp2_with fail
          refine (HUb.out _ _ HY.out).mono ?_
          rintro e w5 ⟨ub, rfl, hO, hB⟩
          have HC : Hid (Ss w5 (.slice ao xs.length cap) xs) := HC.out.later hB
          have HY : Hid (Ss w5 ua LA) := HY.out.later hB
          have HBb : Hid (Ss w5 ub LB) := hO.ss
          clear hO
          have hT := then_below hT hB
          clear hB
          go_wp2_with fail
          all_goals (try (exfalso; omega))
          refine (HUd.out _ _ HC.out).mono ?_
          rintro e w6 ⟨ud, rfl, hO, hB⟩
          have HC : Hid (Ss w6 (.slice ao xs.length cap) xs) := HC.out.later hB
          have HY : Hid (Ss w6 ua LA) := HY.out.later hB
          have HBb : Hid (Ss w6 ub LB) := HBb.out.later hB
          have HD : Hid (Ss w6 ud LB) := hO.ss
          clear hO
          have hT := then_below hT hB
          clear hB
          go_wp2_with fail
          refine (HUm.out _ _ HC.out).mono ?_
          rintro e w7 ⟨um, rfl, hO, hB⟩
          have HC : Hid (Ss w7 (.slice ao xs.length cap) xs) := HC.out.later hB
          have HY : Hid (Ss w7 ua LA) := HY.out.later hB
          have HBb : Hid (Ss w7 ub LB) := HBb.out.later hB
          have HD : Hid (Ss w7 ud LB) := HD.out.later hB
          have HMx : Hid (Ss w7 um xs) := hO.ss
          clear hO
          have hT := then_below hT hB
          clear hB
          go_wp2_with fail
          refine (HUz.out _ _ HC.out).mono ?_
          rintro e w8 ⟨uz, rfl, hO, hB⟩
          have HC : Hid (Ss w8 (.slice ao xs.length cap) xs) := HC.out.later hB
          have HY : Hid (Ss w8 ua LA) := HY.out.later hB
          have HBb : Hid (Ss w8 ub LB) := HBb.out.later hB
          have HD : Hid (Ss w8 ud LB) := HD.out.later hB
          have HMx : Hid (Ss w8 um xs) := HMx.out.later hB
          have HZ : Hid (Ss w8 uz LT) := hO.ss
          clear hO
          have hT := then_below hT hB
          clear hB
          go_wp2_with fail
          refine (HX.out _ _ HC.out).mono ?_
          rintro e w9 ⟨ut, rfl, hO, hB⟩
          have HC : Hid (Ss w9 (.slice ao xs.length cap) xs) := HC.out.later hB
          have HY : Hid (Ss w9 ua LA) := HY.out.later hB
          have HBb : Hid (Ss w9 ub LB) := HBb.out.later hB
          have HD : Hid (Ss w9 ud LB) := HD.out.later hB
          have HMx : Hid (Ss w9 um xs) := HMx.out.later hB
          have HZ : Hid (Ss w9 uz LT) := HZ.out.later hB
          have HTk : Hid (Ss w9 ut LT) := hO.ss
          clear hO
          have hT := then_below hT hB
          clear hB
          go_wp2_with fail
          refine (HM.out _ _ _ LB HL1.out HBb.out HD.out).mono ?_
          rintro e w10 ⟨rfl, hB⟩
          have HC : Hid (Ss w10 (.slice ao xs.length cap) xs) := HC.out.later hB
          have HY : Hid (Ss w10 ua LA) := HY.out.later hB
          have HBb : Hid (Ss w10 ub LB) := HBb.out.later hB
          have HD : Hid (Ss w10 ud LB) := HD.out.later hB
          have HMx : Hid (Ss w10 um xs) := HMx.out.later hB
          have HZ : Hid (Ss w10 uz LT) := HZ.out.later hB
          have HTk : Hid (Ss w10 ut LT) := HTk.out.later hB
          have hT := then_below hT hB
          clear hB
          go_wp2_with fail
          refine (HM.out _ _ _ xs (by omega) HMx.out HC.out).mono ?_
          rintro e w11 ⟨rfl, hB⟩
          have HC : Hid (Ss w11 (.slice ao xs.length cap) xs) := HC.out.later hB
          have HY : Hid (Ss w11 ua LA) := HY.out.later hB
          have HBb : Hid (Ss w11 ub LB) := HBb.out.later hB
          have HD : Hid (Ss w11 ud LB) := HD.out.later hB
          have HMx : Hid (Ss w11 um xs) := HMx.out.later hB
          have HZ : Hid (Ss w11 uz LT) := HZ.out.later hB
          have HTk : Hid (Ss w11 ut LT) := HTk.out.later hB
          have hT := then_below hT hB
          clear hB
          go_wp2_with fail
          refine (HM.out _ _ _ LT HL2.out HZ.out HTk.out).mono ?_
          rintro e w12 ⟨rfl, hB⟩
          have HC : Hid (Ss w12 (.slice ao xs.length cap) xs) := HC.out.later hB
          have HY : Hid (Ss w12 ua LA) := HY.out.later hB
          have HBb : Hid (Ss w12 ub LB) := HBb.out.later hB
          have HD : Hid (Ss w12 ud LB) := HD.out.later hB
          have HMx : Hid (Ss w12 um xs) := HMx.out.later hB
          have HZ : Hid (Ss w12 uz LT) := HZ.out.later hB
          have HTk : Hid (Ss w12 ut LT) := HTk.out.later hB
          have hT := then_below hT hB
          clear hB
          go_wp2_with fail
          refine (HE.out _ _ HY.out).mono ?_
          rintro e w13 ⟨rfl, hB⟩
          have HC : Hid (Ss w13 (.slice ao xs.length cap) xs) := HC.out.later hB
          have HY : Hid (Ss w13 ua LA) := HY.out.later hB
          have HBb : Hid (Ss w13 ub LB) := HBb.out.later hB
          have HD : Hid (Ss w13 ud LB) := HD.out.later hB
          have HMx : Hid (Ss w13 um xs) := HMx.out.later hB
          have HZ : Hid (Ss w13 uz LT) := HZ.out.later hB
          have HTk : Hid (Ss w13 ut LT) := HTk.out.later hB
          have hT := then_below hT hB
          clear hB
          go_wp2
          go_ret
          exact ⟨rfl, hT⟩
      · have h0 : (h1 == 0) = false := by simpa using h0
        clear hno
        have HC : Hid (Ss w (.slice ao xs.length cap) xs) := HS
        go_enter Try.func8, Try.ntmps8
        go_wp2_with fail
        refine (HV.out _).mono ?_
        rintro e w1 ⟨rfl, hB⟩
        have HC : Hid (Ss w1 (.slice ao xs.length cap) xs) := HC.out.later hB
        have hT := hB
        clear hB
        go_wp2_with fail
        refine (HU.out _ _ HC.out).mono ?_
        rintro e w2 ⟨ua, rfl, hO, hB⟩
        have HC : Hid (Ss w2 (.slice ao xs.length cap) xs) := HC.out.later hB
        have HY : Hid (Ss w2 ua LA) := hO.ss
        clear hO
        have hT := then_below hT hB
        clear hB
        go_wp2_with fail
        refine (HA.out _ _ HC.out).mono ?_
        rintro e w3 ⟨rfl, hB⟩
        have HC : Hid (Ss w3 (.slice ao xs.length cap) xs) := HC.out.later hB
        have HY : Hid (Ss w3 ua LA) := HY.out.later hB
        have hT := then_below hT hB
        clear hB
        go_wp2_with fail
        refine (HA'.out _ _ HY.out).mono ?_
        rintro e w4 ⟨rfl, hB⟩
        have HC : Hid (Ss w4 (.slice ao xs.length cap) xs) := HC.out.later hB
        have HY : Hid (Ss w4 ua LA) := HY.out.later hB
        have hT := then_below hT hB
        clear hB
        go_wp2_with fail
        refine (HUb.out _ _ HY.out).mono ?_
        rintro e w5 ⟨ub, rfl, hO, hB⟩
        have HC : Hid (Ss w5 (.slice ao xs.length cap) xs) := HC.out.later hB
        have HY : Hid (Ss w5 ua LA) := HY.out.later hB
        have HBb : Hid (Ss w5 ub LB) := hO.ss
        clear hO
        have hT := then_below hT hB
        clear hB
        go_wp2_with fail
        all_goals (try (exfalso; omega))
        refine (HUd.out _ _ HC.out).mono ?_
        rintro e w6 ⟨ud, rfl, hO, hB⟩
        have HC : Hid (Ss w6 (.slice ao xs.length cap) xs) := HC.out.later hB
        have HY : Hid (Ss w6 ua LA) := HY.out.later hB
        have HBb : Hid (Ss w6 ub LB) := HBb.out.later hB
        have HD : Hid (Ss w6 ud LB) := hO.ss
        clear hO
        have hT := then_below hT hB
        clear hB
        go_wp2_with fail
        refine (HUm.out _ _ HC.out).mono ?_
        rintro e w7 ⟨um, rfl, hO, hB⟩
        have HC : Hid (Ss w7 (.slice ao xs.length cap) xs) := HC.out.later hB
        have HY : Hid (Ss w7 ua LA) := HY.out.later hB
        have HBb : Hid (Ss w7 ub LB) := HBb.out.later hB
        have HD : Hid (Ss w7 ud LB) := HD.out.later hB
        have HMx : Hid (Ss w7 um xs) := hO.ss
        clear hO
        have hT := then_below hT hB
        clear hB
        go_wp2_with fail
        refine (HUz.out _ _ HC.out).mono ?_
        rintro e w8 ⟨uz, rfl, hO, hB⟩
        have HC : Hid (Ss w8 (.slice ao xs.length cap) xs) := HC.out.later hB
        have HY : Hid (Ss w8 ua LA) := HY.out.later hB
        have HBb : Hid (Ss w8 ub LB) := HBb.out.later hB
        have HD : Hid (Ss w8 ud LB) := HD.out.later hB
        have HMx : Hid (Ss w8 um xs) := HMx.out.later hB
        have HZ : Hid (Ss w8 uz LT) := hO.ss
        clear hO
        have hT := then_below hT hB
        clear hB
        go_wp2_with fail
        refine (HX.out _ _ HC.out).mono ?_
        rintro e w9 ⟨ut, rfl, hO, hB⟩
        have HC : Hid (Ss w9 (.slice ao xs.length cap) xs) := HC.out.later hB
        have HY : Hid (Ss w9 ua LA) := HY.out.later hB
        have HBb : Hid (Ss w9 ub LB) := HBb.out.later hB
        have HD : Hid (Ss w9 ud LB) := HD.out.later hB
        have HMx : Hid (Ss w9 um xs) := HMx.out.later hB
        have HZ : Hid (Ss w9 uz LT) := HZ.out.later hB
        have HTk : Hid (Ss w9 ut LT) := hO.ss
        clear hO
        have hT := then_below hT hB
        clear hB
        go_wp2_with fail
        refine (HM.out _ _ _ LB HL1.out HBb.out HD.out).mono ?_
        rintro e w10 ⟨rfl, hB⟩
        have HC : Hid (Ss w10 (.slice ao xs.length cap) xs) := HC.out.later hB
        have HY : Hid (Ss w10 ua LA) := HY.out.later hB
        have HBb : Hid (Ss w10 ub LB) := HBb.out.later hB
        have HD : Hid (Ss w10 ud LB) := HD.out.later hB
        have HMx : Hid (Ss w10 um xs) := HMx.out.later hB
        have HZ : Hid (Ss w10 uz LT) := HZ.out.later hB
        have HTk : Hid (Ss w10 ut LT) := HTk.out.later hB
        have hT := then_below hT hB
        clear hB
        go_wp2_with fail
        refine (HM.out _ _ _ xs (by omega) HMx.out HC.out).mono ?_
        rintro e w11 ⟨rfl, hB⟩
        have HC : Hid (Ss w11 (.slice ao xs.length cap) xs) := HC.out.later hB
        have HY : Hid (Ss w11 ua LA) := HY.out.later hB
        have HBb : Hid (Ss w11 ub LB) := HBb.out.later hB
        have HD : Hid (Ss w11 ud LB) := HD.out.later hB
        have HMx : Hid (Ss w11 um xs) := HMx.out.later hB
        have HZ : Hid (Ss w11 uz LT) := HZ.out.later hB
        have HTk : Hid (Ss w11 ut LT) := HTk.out.later hB
        have hT := then_below hT hB
        clear hB
        go_wp2_with fail
        refine (HM.out _ _ _ LT HL2.out HZ.out HTk.out).mono ?_
        rintro e w12 ⟨rfl, hB⟩
        have HC : Hid (Ss w12 (.slice ao xs.length cap) xs) := HC.out.later hB
        have HY : Hid (Ss w12 ua LA) := HY.out.later hB
        have HBb : Hid (Ss w12 ub LB) := HBb.out.later hB
        have HD : Hid (Ss w12 ud LB) := HD.out.later hB
        have HMx : Hid (Ss w12 um xs) := HMx.out.later hB
        have HZ : Hid (Ss w12 uz LT) := HZ.out.later hB
        have HTk : Hid (Ss w12 ut LT) := HTk.out.later hB
        have hT := then_below hT hB
        clear hB
        go_wp2_with fail
        refine (HE.out _ _ HY.out).mono ?_
        rintro e w13 ⟨rfl, hB⟩
        have HC : Hid (Ss w13 (.slice ao xs.length cap) xs) := HC.out.later hB
        have HY : Hid (Ss w13 ua LA) := HY.out.later hB
        have HBb : Hid (Ss w13 ub LB) := HBb.out.later hB
        have HD : Hid (Ss w13 ud LB) := HD.out.later hB
        have HMx : Hid (Ss w13 um xs) := HMx.out.later hB
        have HZ : Hid (Ss w13 uz LT) := HZ.out.later hB
        have HTk : Hid (Ss w13 ut LT) := HTk.out.later hB
        have hT := then_below hT hB
        clear hB
        go_wp2
        go_ret
        exact ⟨rfl, hT⟩

set_option maxRecDepth 100000 in
theorem calCut_walk (ow to mo a : Int) (w : World) {xs : List Slt} {v : Value} (hS : Ss w v xs) :
    Calls Try.prog 8 #[v, I ow, I to, I mo, I a] w fun e W' => e = .returned (.bool true) ∧ Below w.heap.size w W' := by
  by_cases hn : xs.length ≤ 5000
  · by_cases hm : mayC xs
    · exact calCut_yes w hS hm
    · exact calCut_bad w hS hn hm
  · obtain ⟨ao, cap, rfl, hS⟩ := hS.form
    have HV : Hid (∀ w, Calls Try.prog 14 #[] w fun e W' => e = .returned (.bool true) ∧ Below w.heap.size w W') := aliveC_calls
    have e3 : (5000 : Int) < (xs.length : Int) := by omega
    clear hS hn
    go_enter Try.func8, Try.ntmps8
    go_wp2_with fail
    refine (HV.out _).mono ?_
    rintro e w1 ⟨rfl, hT⟩
    go_wp2
    go_ret
    exact ⟨rfl, hT⟩

end Go.Proofs.Ytikjgfjahjlbaaa
