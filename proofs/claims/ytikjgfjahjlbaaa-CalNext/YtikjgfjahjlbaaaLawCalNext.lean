/-
  CalNext walked. (Written by tools/gen/cal_next.py.)
-/
import Derived.Test.YtikjgfjahjlbaaaCalBoth
namespace Go.Proofs.Ytikjgfjahjlbaaa
open Go Go.RowKit Go.Shelf

attribute [local go_sem] Oper.semAt_some ext_const

theorem plusT_in {p l : Int} (h0 : 0 ≤ p) (h1 : 1 ≤ l) (h2 : p + l ≤ 1099511627776) : plusT p l = p + l := by
  unfold plusT brT
  repeat' split
  all_goals omega
theorem free_at {xs : List Slt} {a long b : Int} (hm : mayC xs) (hl : 1 ≤ long) (ha : 0 ≤ a) (h1 : ¬ b < a) (h2 : ¬ 1099511627776 - b < long) : freeE xs b (b + long) = 0 ∧ freeB xs b (b + long) = okF xs a long b := by
  have em := mayCB_iff.2 hm
  have es : maySpB b (b + long) = true := (maySpB_iff _ _).2 ⟨by omega, by omega, by omega⟩
  exact ⟨by simp [freeE, em, es], by rw [okF_at h1 h2]; simp [freeB, em, es]⟩

set_option maxRecDepth 100000 in
set_option maxHeartbeats 8000000 in
theorem calNext_bad {xs : List Slt} {v : Value} {a long b : Int} (w : World) (hS : Ss w v xs) (hn : xs.length ≤ 5000) (h0 : (nextE xs a long != 0) = true) (h6 : (nextE xs a long != 6) = true) (hv : nextV xs a long = 0) :
    Calls Try.prog 7 #[v, I a, I long, I b] w fun e W' => e = .returned (.bool true) ∧ Below w.heap.size w W' := by
  obtain ⟨ao, cap, rfl, hS⟩ := hS.form
  have HS : Hid (Ss w (.slice ao xs.length cap) xs) := hS
  have HV : Hid (∀ w, Calls Try.prog 14 #[] w fun e W' => e = .returned (.bool true) ∧ Below w.heap.size w W') := aliveC_calls
  have HN : Hid (∀ w v, Ss w v xs → Calls Try.prog 9 #[v, I a, I long] w fun e W' => e = .returned (.tuple #[I (nextV xs a long), I (nextE xs a long)]) ∧ Below w.heap.size w W') := fun w v h => cnext_calls w h
  rw [hv] at HN
  have hg5 : decide ((5000 : Int) < (xs.length : Int)) = false := decide_eq_false (by omega)
  clear hS hv
  generalize nextE xs a long = q at *
  go_enter Try.func7, Try.ntmps7
  go_wp2_with fail
  refine (HV.out _).mono ?_
  rintro e w1 ⟨rfl, hT⟩
  go_wp2_with fail
  refine (HN.out _ _ (HS.out.later hT)).mono ?_
  rintro e w2 ⟨rfl, hB2⟩
  go_wp2
  go_ret
  exact ⟨rfl, then_below hT hB2⟩

set_option maxRecDepth 100000 in
set_option maxHeartbeats 16000000 in
theorem calNext_none {xs : List Slt} {v : Value} {a long b : Int} (w : World) (hS : Ss w v xs) (hm : mayC xs) (ha : 0 ≤ a ∧ a < 1099511627776 ∧ 1 ≤ long) (hc : nextC xs a long = none) :
    Calls Try.prog 7 #[v, I a, I long, I b] w fun e W' => e = .returned (.bool true) ∧ Below w.heap.size w W' := by
  obtain ⟨ao, cap, rfl, hS⟩ := hS.form
  have HS : Hid (Ss w (.slice ao xs.length cap) xs) := hS
  have HV : Hid (∀ w, Calls Try.prog 14 #[] w fun e W' => e = .returned (.bool true) ∧ Below w.heap.size w W') := aliveC_calls
  have em := mayCB_iff.2 hm
  have hf := mayC_fine hm
  obtain ⟨ha0, ha1, hl1⟩ := ha
  have ea := askN_yes ⟨ha0, ha1, hl1⟩
  have HN : Hid (∀ w v, Ss w v xs → Calls Try.prog 9 #[v, I a, I long] w fun e W' => e = .returned (.tuple #[I 0, I 6]) ∧ Below w.heap.size w W') := fun w v h => by
    rw [← show nextV xs a long = 0 by simp [nextV, em, ea, hc], ← show nextE xs a long = 6 by simp [nextE, em, ea, hc]]
    exact cnext_calls w h
  have HFb : Hid (¬ b < a → ¬ 1099511627776 - b < long → ∀ w v, Ss w v xs → Calls Try.prog 23 #[v, S2 b (b + long)] w fun e W' => e = .returned (.tuple #[.bool false, I 0]) ∧ Below w.heap.size w W') := fun h1 h2 w v h => by
    obtain ⟨e1, e2⟩ := free_at (b := b) hm hl1 ha0 h1 h2
    have hb := nextC_none hf hl1 hc b
    rw [hb] at e2
    rw [← e1, ← e2]
    exact cfree_calls w h
  have hg5 : decide ((5000 : Int) < (xs.length : Int)) = false := decide_eq_false (by have := hm.2.2; omega)
  clear hS hm em hf ea hc
  by_cases h1 : b < a
  · clear HFb
    go_enter Try.func7, Try.ntmps7
    go_wp2_with fail
    refine (HV.out _).mono ?_
    rintro e w1 ⟨rfl, hT⟩
    go_wp2_with fail
    refine (HN.out _ _ (HS.out.later hT)).mono ?_
    rintro e w2 ⟨rfl, hB⟩
    have hT := then_below hT hB
    clear hB
    go_wp2
    go_ret
    exact ⟨rfl, hT⟩
  · by_cases h2 : (1099511627776 : Int) ≤ b
    · have h1 : decide (b < a) = false := decide_eq_false h1
      clear HFb
      go_enter Try.func7, Try.ntmps7
      go_wp2_with fail
      refine (HV.out _).mono ?_
      rintro e w1 ⟨rfl, hT⟩
      go_wp2_with fail
      refine (HN.out _ _ (HS.out.later hT)).mono ?_
      rintro e w2 ⟨rfl, hB⟩
      have hT := then_below hT hB
      clear hB
      go_wp2
      go_ret
      exact ⟨rfl, hT⟩
    · by_cases h3 : 1099511627776 - b < long
      · have h1 : decide (b < a) = false := decide_eq_false h1
        have h2 : decide ((1099511627776 : Int) ≤ b) = false := decide_eq_false h2
        have hb0 : 0 ≤ b ∧ b < 1099511627776 := by have := of_decide_eq_false h1; have := of_decide_eq_false h2; omega
        clear HFb
        go_enter Try.func7, Try.ntmps7
        go_wp2_with fail
        refine (HV.out _).mono ?_
        rintro e w1 ⟨rfl, hT⟩
        go_wp2_with fail
        refine (HN.out _ _ (HS.out.later hT)).mono ?_
        rintro e w2 ⟨rfl, hB⟩
        have hT := then_below hT hB
        clear hB
        go_wp2
        go_ret
        exact ⟨rfl, hT⟩
      · have HFx : Hid (∀ w v, Ss w v xs → Calls Try.prog 23 #[v, S2 b (b + long)] w fun e W' => e = .returned (.tuple #[.bool false, I 0]) ∧ Below w.heap.size w W') := HFb.out h1 h3
        have hb0 : 0 ≤ b ∧ b < 1099511627776 := by omega
        have h1 : decide (b < a) = false := decide_eq_false h1
        have h2 : decide ((1099511627776 : Int) ≤ b) = false := decide_eq_false h2
        have hbl : b + long ≤ 1099511627776 := by omega
        have h3 : decide (1099511627776 - b < long) = false := decide_eq_false h3
        clear HFb
        go_enter Try.func7, Try.ntmps7
        go_wp2_with fail
        refine (HV.out _).mono ?_
        rintro e w1 ⟨rfl, hT⟩
        go_wp2_with fail
        refine (HN.out _ _ (HS.out.later hT)).mono ?_
        rintro e w2 ⟨rfl, hB⟩
        have hT := then_below hT hB
        clear hB
        go_wp2_with fail
        refine (HFx.out _ _ (HS.out.later hT)).mono ?_
        rintro e w6 ⟨rfl, hB⟩
        have hT := then_below hT hB
        clear hB
        go_wp2
        go_ret
        exact ⟨rfl, hT⟩

set_option maxRecDepth 100000 in
set_option maxHeartbeats 16000000 in
theorem calNext_some {xs : List Slt} {v : Value} {a long b : Int} {p : Int} (w : World) (hS : Ss w v xs) (hm : mayC xs) (ha : 0 ≤ a ∧ a < 1099511627776 ∧ 1 ≤ long) (hc : nextC xs a long = some p) :
    Calls Try.prog 7 #[v, I a, I long, I b] w fun e W' => e = .returned (.bool true) ∧ Below w.heap.size w W' := by
  obtain ⟨ao, cap, rfl, hS⟩ := hS.form
  have HS : Hid (Ss w (.slice ao xs.length cap) xs) := hS
  have HV : Hid (∀ w, Calls Try.prog 14 #[] w fun e W' => e = .returned (.bool true) ∧ Below w.heap.size w W') := aliveC_calls
  have em := mayCB_iff.2 hm
  have hf := mayC_fine hm
  obtain ⟨ha0, ha1, hl1⟩ := ha
  have ea := askN_yes ⟨ha0, ha1, hl1⟩
  have HN : Hid (∀ w v, Ss w v xs → Calls Try.prog 9 #[v, I a, I long] w fun e W' => e = .returned (.tuple #[I p, I 0]) ∧ Below w.heap.size w W') := fun w v h => by
    rw [← show nextV xs a long = p by simp [nextV, em, ea, hc], ← show nextE xs a long = 0 by simp [nextE, em, ea, hc]]
    exact cnext_calls w h
  obtain ⟨ho, hle⟩ := nextC_some hf hl1 hc
  obtain ⟨hp0, hp1, _⟩ := (okF_iff hf hl1).1 ho
  have HFr : Hid (∀ w, Calls Try.prog 27 #[I p, I long] w fun e W' => e = .returned (.tuple #[S2 p (p + long), I 0]) ∧ Below w.heap.size w W') := fun w => by
    rw [← plusT_in (show 0 ≤ p by omega) hl1 (show p + long ≤ 1099511627776 by omega)]
    exact tfrom_yes w ⟨by omega, by omega, hl1⟩
  have HLo : Hid (∀ w, Calls Try.prog 28 #[S2 p (p + long)] w fun e W' => e = .returned (.tuple #[I long, I 0]) ∧ Below w.heap.size w W') := fun w => by
    have := tlong_yes (f := p) (t := p + long) w ⟨by omega, by omega, by omega⟩
    rwa [show p + long - p = long by omega] at this
  have HFp : Hid (∀ w v, Ss w v xs → Calls Try.prog 23 #[v, S2 p (p + long)] w fun e W' => e = .returned (.tuple #[.bool true, I 0]) ∧ Below w.heap.size w W') := fun w v h => by
    obtain ⟨e1, e2⟩ := free_at (b := p) hm hl1 ha0 (show ¬ p < a by omega) (show ¬ 1099511627776 - p < long by omega)
    rw [ho] at e2
    rw [← e1, ← e2]
    exact cfree_calls w h
  have hpa : decide (p < a) = false := decide_eq_false (by omega)
  have HFb : Hid (¬ b < a → ¬ 1099511627776 - b < long → ¬ p ≤ b → ∀ w v, Ss w v xs → Calls Try.prog 23 #[v, S2 b (b + long)] w fun e W' => e = .returned (.tuple #[.bool false, I 0]) ∧ Below w.heap.size w W') := fun h1 h2 h3 w v h => by
    obtain ⟨e1, e2⟩ := free_at (b := b) hm hl1 ha0 h1 h2
    have hb : okF xs a long b = false := by
      cases e : okF xs a long b
      · rfl
      · exact absurd (hle b e) h3
    rw [hb] at e2
    rw [← e1, ← e2]
    exact cfree_calls w h
  have hg5 : decide ((5000 : Int) < (xs.length : Int)) = false := decide_eq_false (by have := hm.2.2; omega)
  clear ho hle
  clear hS hm em hf ea hc
  by_cases h1 : b < a
  · clear HFb
    go_enter Try.func7, Try.ntmps7
    go_wp2_with fail
    refine (HV.out _).mono ?_
    rintro e w1 ⟨rfl, hT⟩
    go_wp2_with fail
    refine (HN.out _ _ (HS.out.later hT)).mono ?_
    rintro e w2 ⟨rfl, hB⟩
    have hT := then_below hT hB
    clear hB
    go_wp2_with fail
    refine (HFr.out _).mono ?_
    rintro e w3 ⟨rfl, hB⟩
    obtain ⟨W, hW, hB4, hK⟩ := one_start w3 (C2 p (p + long)) 34
    have HW : Hid (w3.alloc (.cells (C2 p (p + long)) 34) = W) := hW
    have hT := then_below hT (then_below hB hB4)
    clear hB hB4 hW
    go_wp2_with fail
    rw [HW.out]
    refine (HLo.out _).mono ?_
    rintro e w4 ⟨rfl, hB⟩
    have hT := then_below hT hB
    obtain ⟨c0, c1, hz⟩ := hK.pair hB
    clear hB
    go_wp2_with fail
    refine (HFp.out _ _ (HS.out.later hT)).mono ?_
    rintro e w5 ⟨rfl, hB⟩
    have hT := then_below hT hB
    clear hB c0 c1 hz
    go_wp2
    go_ret
    exact ⟨rfl, hT⟩
  · by_cases h2 : (1099511627776 : Int) ≤ b
    · have h1 : decide (b < a) = false := decide_eq_false h1
      clear HFb
      go_enter Try.func7, Try.ntmps7
      go_wp2_with fail
      refine (HV.out _).mono ?_
      rintro e w1 ⟨rfl, hT⟩
      go_wp2_with fail
      refine (HN.out _ _ (HS.out.later hT)).mono ?_
      rintro e w2 ⟨rfl, hB⟩
      have hT := then_below hT hB
      clear hB
      go_wp2_with fail
      refine (HFr.out _).mono ?_
      rintro e w3 ⟨rfl, hB⟩
      obtain ⟨W, hW, hB4, hK⟩ := one_start w3 (C2 p (p + long)) 34
      have HW : Hid (w3.alloc (.cells (C2 p (p + long)) 34) = W) := hW
      have hT := then_below hT (then_below hB hB4)
      clear hB hB4 hW
      go_wp2_with fail
      rw [HW.out]
      refine (HLo.out _).mono ?_
      rintro e w4 ⟨rfl, hB⟩
      have hT := then_below hT hB
      obtain ⟨c0, c1, hz⟩ := hK.pair hB
      clear hB
      go_wp2_with fail
      refine (HFp.out _ _ (HS.out.later hT)).mono ?_
      rintro e w5 ⟨rfl, hB⟩
      have hT := then_below hT hB
      clear hB c0 c1 hz
      go_wp2
      go_ret
      exact ⟨rfl, hT⟩
    · by_cases h3 : 1099511627776 - b < long
      · have h1 : decide (b < a) = false := decide_eq_false h1
        have h2 : decide ((1099511627776 : Int) ≤ b) = false := decide_eq_false h2
        have hb0 : 0 ≤ b ∧ b < 1099511627776 := by have := of_decide_eq_false h1; have := of_decide_eq_false h2; omega
        clear HFb
        go_enter Try.func7, Try.ntmps7
        go_wp2_with fail
        refine (HV.out _).mono ?_
        rintro e w1 ⟨rfl, hT⟩
        go_wp2_with fail
        refine (HN.out _ _ (HS.out.later hT)).mono ?_
        rintro e w2 ⟨rfl, hB⟩
        have hT := then_below hT hB
        clear hB
        go_wp2_with fail
        refine (HFr.out _).mono ?_
        rintro e w3 ⟨rfl, hB⟩
        obtain ⟨W, hW, hB4, hK⟩ := one_start w3 (C2 p (p + long)) 34
        have HW : Hid (w3.alloc (.cells (C2 p (p + long)) 34) = W) := hW
        have hT := then_below hT (then_below hB hB4)
        clear hB hB4 hW
        go_wp2_with fail
        rw [HW.out]
        refine (HLo.out _).mono ?_
        rintro e w4 ⟨rfl, hB⟩
        have hT := then_below hT hB
        obtain ⟨c0, c1, hz⟩ := hK.pair hB
        clear hB
        go_wp2_with fail
        refine (HFp.out _ _ (HS.out.later hT)).mono ?_
        rintro e w5 ⟨rfl, hB⟩
        have hT := then_below hT hB
        clear hB c0 c1 hz
        go_wp2
        go_ret
        exact ⟨rfl, hT⟩
      · by_cases h4 : p ≤ b
        · have hb0 : 0 ≤ b ∧ b < 1099511627776 := by omega
          have h1 : decide (b < a) = false := decide_eq_false h1
          have h2 : decide ((1099511627776 : Int) ≤ b) = false := decide_eq_false h2
          have hbl : b + long ≤ 1099511627776 := by omega
          have h3 : decide (1099511627776 - b < long) = false := decide_eq_false h3
          clear HFb
          go_enter Try.func7, Try.ntmps7
          go_wp2_with fail
          refine (HV.out _).mono ?_
          rintro e w1 ⟨rfl, hT⟩
          go_wp2_with fail
          refine (HN.out _ _ (HS.out.later hT)).mono ?_
          rintro e w2 ⟨rfl, hB⟩
          have hT := then_below hT hB
          clear hB
          go_wp2_with fail
          refine (HFr.out _).mono ?_
          rintro e w3 ⟨rfl, hB⟩
          obtain ⟨W, hW, hB4, hK⟩ := one_start w3 (C2 p (p + long)) 34
          have HW : Hid (w3.alloc (.cells (C2 p (p + long)) 34) = W) := hW
          have hT := then_below hT (then_below hB hB4)
          clear hB hB4 hW
          go_wp2_with fail
          rw [HW.out]
          refine (HLo.out _).mono ?_
          rintro e w4 ⟨rfl, hB⟩
          have hT := then_below hT hB
          obtain ⟨c0, c1, hz⟩ := hK.pair hB
          clear hB
          go_wp2_with fail
          refine (HFp.out _ _ (HS.out.later hT)).mono ?_
          rintro e w5 ⟨rfl, hB⟩
          have hT := then_below hT hB
          clear hB c0 c1 hz
          go_wp2
          go_ret
          exact ⟨rfl, hT⟩
        · have HFx : Hid (∀ w v, Ss w v xs → Calls Try.prog 23 #[v, S2 b (b + long)] w fun e W' => e = .returned (.tuple #[.bool false, I 0]) ∧ Below w.heap.size w W') := HFb.out h1 h3 h4
          have hb0 : 0 ≤ b ∧ b < 1099511627776 := by omega
          have h1 : decide (b < a) = false := decide_eq_false h1
          have h2 : decide ((1099511627776 : Int) ≤ b) = false := decide_eq_false h2
          have hbl : b + long ≤ 1099511627776 := by omega
          have h3 : decide (1099511627776 - b < long) = false := decide_eq_false h3
          have h4 : decide (p ≤ b) = false := decide_eq_false h4
          clear HFb
          go_enter Try.func7, Try.ntmps7
          go_wp2_with fail
          refine (HV.out _).mono ?_
          rintro e w1 ⟨rfl, hT⟩
          go_wp2_with fail
          refine (HN.out _ _ (HS.out.later hT)).mono ?_
          rintro e w2 ⟨rfl, hB⟩
          have hT := then_below hT hB
          clear hB
          go_wp2_with fail
          refine (HFr.out _).mono ?_
          rintro e w3 ⟨rfl, hB⟩
          obtain ⟨W, hW, hB4, hK⟩ := one_start w3 (C2 p (p + long)) 34
          have HW : Hid (w3.alloc (.cells (C2 p (p + long)) 34) = W) := hW
          have hT := then_below hT (then_below hB hB4)
          clear hB hB4 hW
          go_wp2_with fail
          rw [HW.out]
          refine (HLo.out _).mono ?_
          rintro e w4 ⟨rfl, hB⟩
          have hT := then_below hT hB
          obtain ⟨c0, c1, hz⟩ := hK.pair hB
          clear hB
          go_wp2_with fail
          refine (HFp.out _ _ (HS.out.later hT)).mono ?_
          rintro e w5 ⟨rfl, hB⟩
          have hT := then_below hT hB
          clear hB c0 c1 hz
          go_wp2_with fail
          refine (HFx.out _ _ (HS.out.later hT)).mono ?_
          rintro e w6 ⟨rfl, hB⟩
          have hT := then_below hT hB
          clear hB
          go_wp2
          go_ret
          exact ⟨rfl, hT⟩

set_option maxRecDepth 100000 in
theorem calNext_walk (a long b : Int) (w : World) {xs : List Slt} {v : Value} (hS : Ss w v xs) :
    Calls Try.prog 7 #[v, I a, I long, I b] w fun e W' => e = .returned (.bool true) ∧ Below w.heap.size w W' := by
  by_cases hn : xs.length ≤ 5000
  · by_cases hm : mayC xs
    · have em := mayCB_iff.2 hm
      by_cases ha : 0 ≤ a ∧ a < 1099511627776 ∧ 1 ≤ long
      · cases hc : nextC xs a long with
        | none => exact calNext_none w hS hm ha hc
        | some p => exact calNext_some w hS hm ha hc
      · have ea := askN_no ha
        have e2 : nextE xs a long = 2 := by simp [nextE, em, ea]
        exact calNext_bad w hS hn (by rw [e2]; decide) (by rw [e2]; decide) (by simp [nextV, ea])
    · have em := mayCB_no hm
      have e2 : nextE xs a long = 8 := by simp [nextE, em]
      exact calNext_bad w hS hn (by rw [e2]; decide) (by rw [e2]; decide) (by simp [nextV, em])
  · obtain ⟨ao, cap, rfl, hS⟩ := hS.form
    have HV : Hid (∀ w, Calls Try.prog 14 #[] w fun e W' => e = .returned (.bool true) ∧ Below w.heap.size w W') := aliveC_calls
    have e3 : (5000 : Int) < (xs.length : Int) := by omega
    clear hS hn
    go_enter Try.func7, Try.ntmps7
    go_wp2_with fail
    refine (HV.out _).mono ?_
    rintro e w1 ⟨rfl, hT⟩
    go_wp2
    go_ret
    exact ⟨rfl, hT⟩

end Go.Proofs.Ytikjgfjahjlbaaa
