/-
  CalPut walked. (Written by tools/gen/cal_put.py.)
-/
import Derived.Test.YtikjgfjahjlbaaaCalBoth
namespace Go.Proofs.Ytikjgfjahjlbaaa
open Go Go.RowKit Go.Shelf

attribute [local go_sem] Oper.semAt_some ext_const

/-- What is asked of At, ahead of Put and behind it. -/
theorem put_at_facts {xs : List Slt} {f t o a : Int} (hm : mayC xs) (hs : maySl (f, t, o)) (hc : clearC xs f t = true) (hl : xs.length < 4096) :
    (atE xs a = 2 ∧ atE (withC (f, t, o) xs) a = 2) ∨ ((f ≤ a ∧ a < t) ∧ atE xs a = 6 ∧ atE (withC (f, t, o) xs) a = 0 ∧ atV (withC (f, t, o) xs) a = o) ∨
    (¬ (f ≤ a ∧ a < t) ∧ (atE xs a == 2) = false ∧ atE (withC (f, t, o) xs) a = atE xs a ∧ atV (withC (f, t, o) xs) a = atV xs a) := by
  have em := mayCB_iff.2 hm
  have ey := mayCB_iff.2 (withC_may hm hs hc hl)
  by_cases hmo : 0 ≤ a ∧ a < 1099511627776
  · have e1 := momB_yes hmo
    by_cases hin : f ≤ a ∧ a < t
    · obtain ⟨h1, h2⟩ := withC_in hm hs hc hl (a := a) hin
      exact .inr (.inl ⟨hin, by simp [atE, em, e1, h2], by simp [atE, ey, e1, h1], by simp [atV, ey, e1, h1]⟩)
    · have h1 := withC_out hm hs hc hl (a := a) hin
      refine .inr (.inr ⟨hin, ?_, by simp [atE, ey, em, e1, h1], by simp [atV, ey, em, e1, h1]⟩)
      cases h : atC xs a <;> simp [atE, em, e1, h]
  · have e1 := momB_no hmo
    exact .inl ⟨by simp [atE, em, e1], by simp [atE, ey, e1]⟩

set_option maxRecDepth 100000 in
set_option maxHeartbeats 8000000 in
theorem calPut_err {xs : List Slt} {v : Value} {f t o a : Int} (w : World) (hS : Ss w v xs) (hn : xs.length ≤ 5000) (hne : putE xs (f, t, o) ≠ 0) :
    Calls Try.prog 6 #[v, V3 f t o, I a] w fun e W' => e = .returned (.bool true) ∧ Below w.heap.size w W' := by
  obtain ⟨ao, cap, rfl, hS⟩ := hS.form
  obtain ⟨W, hW, hB0, hK⟩ := one_start w (C3 f t o) 36
  have HW : Hid (w.alloc (.cells (C3 f t o) 36) = W) := hW
  have HS : Hid (Ss W (.slice ao xs.length cap) xs) := hS.later hB0
  have HV : Hid (∀ w, Calls Try.prog 14 #[] w fun e W' => e = .returned (.bool true) ∧ Below w.heap.size w W') := aliveC_calls
  have HP : Hid (∀ w v, Ss w v xs → Calls Try.prog 17 #[v, V3 f t o] w fun e W' => e = .returned (.tuple #[.slice none 0 0, I (putE xs (f, t, o))]) ∧ Below w.heap.size w W') := fun w v h => cput_err w h hne
  have HF : Hid (∀ w v, Ss w v xs → Calls Try.prog 23 #[v, S2 f t] w fun e W' => e = .returned (.tuple #[.bool (freeB xs f t), I (freeE xs f t)]) ∧ Below w.heap.size w W') := fun w v h => cfree_calls w h
  have H80 : putE xs (f, t, o) = 80 → freeB xs f t = false ∧ freeE xs f t = 0 := by
    intro h
    unfold putE at h
    split at h
    · rename_i h1
      split at h
      · rename_i h2
        have h5 := (maySpB_iff f t).2 (maySlB_iff.1 h2).1
        split at h
        · split at h <;> cases h
        · rename_i h3
          simp only [Bool.not_eq_true] at h3
          exact ⟨by simp [freeB, h3], by simp [freeE, h1, h5]⟩
      · cases h
    · cases h
  have hg5 : decide ((5000 : Int) < (xs.length : Int)) = false := decide_eq_false (by omega)
  clear hS hW
  by_cases h8 : putE xs (f, t, o) = 80
  · obtain ⟨e1, e2⟩ := H80 h8
    rw [h8] at HP
    rw [e1, e2] at HF
    clear H80 h8 hne e1 e2
    go_enter Try.func6, Try.ntmps6
    go_wp2_with fail
    rw [HW.out]
    refine (HV.out _).mono ?_
    rintro e w1 ⟨rfl, hT⟩
    obtain ⟨hz, c0, c1, c2⟩ := (hK.later hT).at3.cells
    go_wp2_with fail
    refine (HP.out _ _ (HS.out.later hT)).mono ?_
    rintro e w2 ⟨rfl, hB2⟩
    have hT2 := then_below hT hB2
    clear hz c0 c1 c2
    obtain ⟨hz, c0, c1, c2⟩ := (hK.later hT2).at3.cells
    go_wp2_with fail
    refine (HF.out _ _ (HS.out.later hT2)).mono ?_
    rintro e w3 ⟨rfl, hB3⟩
    go_wp2
    go_ret
    exact ⟨rfl, then_below hB0 (then_below hT2 hB3)⟩
  · clear H80
    generalize putE xs (f, t, o) = q at *
    generalize freeB xs f t = q1 at *
    generalize freeE xs f t = q2 at *
    have h0 : (q != 0) = true := by simpa using hne
    have h8 : (q != 80) = true := by simpa using h8
    clear hne
    go_enter Try.func6, Try.ntmps6
    go_wp2_with fail
    rw [HW.out]
    refine (HV.out _).mono ?_
    rintro e w1 ⟨rfl, hT⟩
    obtain ⟨hz, c0, c1, c2⟩ := (hK.later hT).at3.cells
    go_wp2_with fail
    refine (HP.out _ _ (HS.out.later hT)).mono ?_
    rintro e w2 ⟨rfl, hB2⟩
    have hT2 := then_below hT hB2
    clear hz c0 c1 c2
    obtain ⟨hz, c0, c1, c2⟩ := (hK.later hT2).at3.cells
    go_wp2_with fail
    refine (HF.out _ _ (HS.out.later hT2)).mono ?_
    rintro e w3 ⟨rfl, hB3⟩
    go_wp2
    go_ret
    exact ⟨rfl, then_below hB0 (then_below hT2 hB3)⟩

set_option maxRecDepth 100000 in
set_option maxHeartbeats 16000000 in
theorem calPut_eq {xs LD : List Slt} {v : Value} {f t o a : Int} (w : World) (hS : Ss w v xs) (hm : mayC xs) (hs : maySl (f, t, o)) (hc : clearC xs f t = true) (hl : xs.length < 4096) (hLD : LD = lessC xs o) (hlen : LD.length = xs.length) :
    Calls Try.prog 6 #[v, V3 f t o, I a] w fun e W' => e = .returned (.bool true) ∧ Below w.heap.size w W' := by
  have HXX : Hid (LD = xs) := by show LD = xs; rw [hLD]; exact less_all (by rw [← hLD]; exact hlen)
  obtain ⟨ao, cap, rfl, hS⟩ := hS.form
  obtain ⟨W, hW, hB0, hK⟩ := one_start w (C3 f t o) 36
  have HW : Hid (w.alloc (.cells (C3 f t o) 36) = W) := hW
  have HS : Hid (Ss W (.slice ao xs.length cap) xs) := hS.later hB0
  have HV : Hid (∀ w, Calls Try.prog 14 #[] w fun e W' => e = .returned (.bool true) ∧ Below w.heap.size w W') := aliveC_calls
  have HP : Hid (∀ w v, Ss w v xs → Calls Try.prog 17 #[v, V3 f t o] w fun e W' => ∃ u, e = .returned (.tuple #[u, I 0]) ∧ So W' w.heap.size u (withC (f, t, o) xs) ∧ Below w.heap.size w W') := fun w v h => cput_yes w h hm hs hc hl
  have HF : Hid (∀ w v, Ss w v xs → Calls Try.prog 23 #[v, S2 f t] w fun e W' => e = .returned (.tuple #[.bool true, I 0]) ∧ Below w.heap.size w W') := fun w v h => by
    have em := mayCB_iff.2 hm
    have es := (maySpB_iff f t).2 hs.1
    have e1 : freeB xs f t = true := by simp [freeB, em, es, hc]
    have e2 : freeE xs f t = 0 := by simp [freeE, em, es]
    rw [← e1, ← e2]; exact cfree_calls w h
  have hy := withC_may hm hs hc hl
  have HE : Hid (∀ w v, Ss w v (withC (f, t, o) xs) → Calls Try.prog 21 #[v] w fun e W' => e = .returned (I 0) ∧ Below w.heap.size w W') := fun w v h => by rw [← errC_ok hy]; exact ccheck_calls w h
  have HA : Hid (∀ w v, Ss w v xs → Calls Try.prog 11 #[v, I a] w fun e W' => e = .returned (.tuple #[I (atV xs a), I (atE xs a)]) ∧ Below w.heap.size w W') := fun w v h => cat_calls w h
  have HA' : Hid (∀ w v, Ss w v (withC (f, t, o) xs) → Calls Try.prog 11 #[v, I a] w fun e W' => e = .returned (.tuple #[I (atV (withC (f, t, o) xs) a), I (atE (withC (f, t, o) xs) a)]) ∧ Below w.heap.size w W') := fun w v h => cat_calls w h
  have HX : Hid (∀ w v, Ss w v (withC (f, t, o) xs) → Calls Try.prog 13 #[v, I o] w fun e W' => ∃ u, e = .returned (.tuple #[u, I 0]) ∧ So W' w.heap.size u LD ∧ Below w.heap.size w W') := fun w v h => by rw [hLD, ← less_with (s := (f, t, o)) (c := xs)]; exact ctake_yes w h hy
  have HX' : Hid (∀ w v, Ss w v xs → Calls Try.prog 13 #[v, I o] w fun e W' => ∃ u, e = .returned (.tuple #[u, I 0]) ∧ So W' w.heap.size u LD ∧ Below w.heap.size w W') := fun w v h => by rw [hLD]; exact ctake_yes w h hm
  have HM : Hid (∀ w u v (ys : List Slt), ys.length ≤ 100000 → Ss w u ys → Ss w v ys → Calls Try.prog 15 #[u, v] w fun e W' => e = .returned (.bool true) ∧ Below w.heap.size w W') := fun w u v ys hy h h' => same_true w h h' hy
  have HLy : Hid ((withC (f, t, o) xs).length = xs.length + 1) := withC_len _ _
  have HLD : Hid (LD.length ≤ 5000) := by
    have h1 : LD.length ≤ xs.length := by rw [hLD]; exact List.length_filter_le _ _
    exact Nat.le_trans h1 (by omega)
  have HF3 := put_at_facts (a := a) hm hs hc hl
  have hg5 : decide ((5000 : Int) < (xs.length : Int)) = false := decide_eq_false (by omega)
  clear hS hW hy
  generalize atV xs a = x1 at *
  generalize atE xs a = g1 at *
  generalize atV (withC (f, t, o) xs) a = y1 at *
  generalize atE (withC (f, t, o) xs) a = h1 at *
  generalize withC (f, t, o) xs = ys at *
  have hlx : xs.length ≤ 4096 := by omega
  clear hm hs hc hl hLD
  have hLx := hlen
  have HLx : Hid (LD.length = xs.length) := hlen
  clear hLx hlen
  rcases HF3 with ⟨rfl, rfl⟩ | ⟨⟨hi1, hi2⟩, rfl, rfl, hy1⟩ | ⟨hin, hg2, rfl, rfl⟩
  · skip
    have HC : Hid (Ss W (.slice ao xs.length cap) xs) := HS
    have HK : Hid (Blk W w.heap.size 36 (C3 f t o)) := hK
    go_enter Try.func6, Try.ntmps6
    go_wp2_with fail
    rw [HW.out]
    refine (HV.out _).mono ?_
    rintro e w1 ⟨rfl, hB⟩
    have HC : Hid (Ss w1 (.slice ao xs.length cap) xs) := HC.out.later hB
    have HK : Hid (Blk w1 w.heap.size 36 (C3 f t o)) := HK.out.later hB
    have hT := hB
    clear hB
    obtain ⟨hz, c0, c1, c2⟩ := HK.out.at3.cells
    go_wp2_with fail
    refine (HP.out _ _ HC.out).mono ?_
    rintro e w2 ⟨ua, rfl, hO, hB⟩
    have HC : Hid (Ss w2 (.slice ao xs.length cap) xs) := HC.out.later hB
    have HK : Hid (Blk w2 w.heap.size 36 (C3 f t o)) := HK.out.later hB
    have hT := then_below hT hB
    obtain ⟨aA, cA, hua, hA⟩ := hO.ss.form
    rw [HLy.out] at hua hA
    subst hua
    have HY : Hid (Ss w2 (.slice aA (xs.length + 1) cA) ys) := hA
    clear hO hA
    clear hB
    clear hz c0 c1 c2
    obtain ⟨hz, c0, c1, c2⟩ := HK.out.at3.cells
    go_wp2_with fail
    refine (HF.out _ _ HC.out).mono ?_
    rintro e w3 ⟨rfl, hB⟩
    have HC : Hid (Ss w3 (.slice ao xs.length cap) xs) := HC.out.later hB
    have HK : Hid (Blk w3 w.heap.size 36 (C3 f t o)) := HK.out.later hB
    have HY : Hid (Ss w3 (.slice aA (xs.length + 1) cA) ys) := HY.out.later hB
    have hT := then_below hT hB
    clear hB
    clear hz c0 c1 c2
    obtain ⟨hz, c0, c1, c2⟩ := HK.out.at3.cells
    go_wp2_with fail
    refine (HE.out _ _ HY.out).mono ?_
    rintro e w4 ⟨rfl, hB⟩
    have HC : Hid (Ss w4 (.slice ao xs.length cap) xs) := HC.out.later hB
    have HK : Hid (Blk w4 w.heap.size 36 (C3 f t o)) := HK.out.later hB
    have HY : Hid (Ss w4 (.slice aA (xs.length + 1) cA) ys) := HY.out.later hB
    have hT := then_below hT hB
    clear hB
    clear hz c0 c1 c2
    obtain ⟨hz, c0, c1, c2⟩ := HK.out.at3.cells
    go_wp2_with fail
    refine (HA.out _ _ HC.out).mono ?_
    rintro e w5 ⟨rfl, hB⟩
    have HC : Hid (Ss w5 (.slice ao xs.length cap) xs) := HC.out.later hB
    have HK : Hid (Blk w5 w.heap.size 36 (C3 f t o)) := HK.out.later hB
    have HY : Hid (Ss w5 (.slice aA (xs.length + 1) cA) ys) := HY.out.later hB
    have hT := then_below hT hB
    clear hB
    clear hz c0 c1 c2
    obtain ⟨hz, c0, c1, c2⟩ := HK.out.at3.cells
    go_wp2_with fail
    refine (HA'.out _ _ HY.out).mono ?_
    rintro e w6 ⟨rfl, hB⟩
    have HC : Hid (Ss w6 (.slice ao xs.length cap) xs) := HC.out.later hB
    have HK : Hid (Blk w6 w.heap.size 36 (C3 f t o)) := HK.out.later hB
    have HY : Hid (Ss w6 (.slice aA (xs.length + 1) cA) ys) := HY.out.later hB
    have hT := then_below hT hB
    clear hB
    clear hz c0 c1 c2
    obtain ⟨hz, c0, c1, c2⟩ := HK.out.at3.cells
    go_wp2_with fail
    refine (HX.out _ _ HY.out).mono ?_
    rintro e w7 ⟨ub, rfl, hO, hB⟩
    have HC : Hid (Ss w7 (.slice ao xs.length cap) xs) := HC.out.later hB
    have HK : Hid (Blk w7 w.heap.size 36 (C3 f t o)) := HK.out.later hB
    have HY : Hid (Ss w7 (.slice aA (xs.length + 1) cA) ys) := HY.out.later hB
    have hT := then_below hT hB
    have HBb : Hid (Ss w7 ub LD) := hO.ss
    clear hO
    clear hB
    clear hz c0 c1 c2
    obtain ⟨hz, c0, c1, c2⟩ := HK.out.at3.cells
    go_wp2_with fail
    refine (HX'.out _ _ HC.out).mono ?_
    rintro e w8 ⟨ud, rfl, hO, hB⟩
    have HC : Hid (Ss w8 (.slice ao xs.length cap) xs) := HC.out.later hB
    have HK : Hid (Blk w8 w.heap.size 36 (C3 f t o)) := HK.out.later hB
    have HY : Hid (Ss w8 (.slice aA (xs.length + 1) cA) ys) := HY.out.later hB
    have HBb : Hid (Ss w8 ub LD) := HBb.out.later hB
    have hT := then_below hT hB
    obtain ⟨aD, cD, hud, hD⟩ := hO.ss.form
    rw [HLx.out] at hud hD
    subst hud
    have HD : Hid (Ss w8 (.slice aD xs.length cD) LD) := hD
    clear hO hD
    clear hB
    clear hz c0 c1 c2
    go_wp2_with fail
    refine (HM.out _ _ _ LD (Nat.le_trans HLD.out (by omega)) HBb.out HD.out).mono ?_
    rintro e w9 ⟨rfl, hB⟩
    have HC : Hid (Ss w9 (.slice ao xs.length cap) xs) := HC.out.later hB
    have HK : Hid (Blk w9 w.heap.size 36 (C3 f t o)) := HK.out.later hB
    have HY : Hid (Ss w9 (.slice aA (xs.length + 1) cA) ys) := HY.out.later hB
    have HBb : Hid (Ss w9 ub LD) := HBb.out.later hB
    have HD : Hid (Ss w9 (.slice aD xs.length cD) LD) := HD.out.later hB
    have hT := then_below hT hB
    clear hB
    go_wp2_with fail
    refine (HM.out _ _ _ xs (by omega) (HXX.out ▸ HBb.out) HC.out).mono ?_
    rintro e w10 ⟨rfl, hB⟩
    have HC : Hid (Ss w10 (.slice ao xs.length cap) xs) := HC.out.later hB
    have HK : Hid (Blk w10 w.heap.size 36 (C3 f t o)) := HK.out.later hB
    have HY : Hid (Ss w10 (.slice aA (xs.length + 1) cA) ys) := HY.out.later hB
    have HBb : Hid (Ss w10 ub LD) := HBb.out.later hB
    have HD : Hid (Ss w10 (.slice aD xs.length cD) LD) := HD.out.later hB
    have hT := then_below hT hB
    clear hB
    go_wp2
    go_ret
    exact ⟨rfl, then_below hB0 hT⟩
  · rw [hy1] at HA'
    clear hy1
    have HC : Hid (Ss W (.slice ao xs.length cap) xs) := HS
    have HK : Hid (Blk W w.heap.size 36 (C3 f t o)) := hK
    go_enter Try.func6, Try.ntmps6
    go_wp2_with fail
    rw [HW.out]
    refine (HV.out _).mono ?_
    rintro e w1 ⟨rfl, hB⟩
    have HC : Hid (Ss w1 (.slice ao xs.length cap) xs) := HC.out.later hB
    have HK : Hid (Blk w1 w.heap.size 36 (C3 f t o)) := HK.out.later hB
    have hT := hB
    clear hB
    obtain ⟨hz, c0, c1, c2⟩ := HK.out.at3.cells
    go_wp2_with fail
    refine (HP.out _ _ HC.out).mono ?_
    rintro e w2 ⟨ua, rfl, hO, hB⟩
    have HC : Hid (Ss w2 (.slice ao xs.length cap) xs) := HC.out.later hB
    have HK : Hid (Blk w2 w.heap.size 36 (C3 f t o)) := HK.out.later hB
    have hT := then_below hT hB
    obtain ⟨aA, cA, hua, hA⟩ := hO.ss.form
    rw [HLy.out] at hua hA
    subst hua
    have HY : Hid (Ss w2 (.slice aA (xs.length + 1) cA) ys) := hA
    clear hO hA
    clear hB
    clear hz c0 c1 c2
    obtain ⟨hz, c0, c1, c2⟩ := HK.out.at3.cells
    go_wp2_with fail
    refine (HF.out _ _ HC.out).mono ?_
    rintro e w3 ⟨rfl, hB⟩
    have HC : Hid (Ss w3 (.slice ao xs.length cap) xs) := HC.out.later hB
    have HK : Hid (Blk w3 w.heap.size 36 (C3 f t o)) := HK.out.later hB
    have HY : Hid (Ss w3 (.slice aA (xs.length + 1) cA) ys) := HY.out.later hB
    have hT := then_below hT hB
    clear hB
    clear hz c0 c1 c2
    obtain ⟨hz, c0, c1, c2⟩ := HK.out.at3.cells
    go_wp2_with fail
    refine (HE.out _ _ HY.out).mono ?_
    rintro e w4 ⟨rfl, hB⟩
    have HC : Hid (Ss w4 (.slice ao xs.length cap) xs) := HC.out.later hB
    have HK : Hid (Blk w4 w.heap.size 36 (C3 f t o)) := HK.out.later hB
    have HY : Hid (Ss w4 (.slice aA (xs.length + 1) cA) ys) := HY.out.later hB
    have hT := then_below hT hB
    clear hB
    clear hz c0 c1 c2
    obtain ⟨hz, c0, c1, c2⟩ := HK.out.at3.cells
    go_wp2_with fail
    refine (HA.out _ _ HC.out).mono ?_
    rintro e w5 ⟨rfl, hB⟩
    have HC : Hid (Ss w5 (.slice ao xs.length cap) xs) := HC.out.later hB
    have HK : Hid (Blk w5 w.heap.size 36 (C3 f t o)) := HK.out.later hB
    have HY : Hid (Ss w5 (.slice aA (xs.length + 1) cA) ys) := HY.out.later hB
    have hT := then_below hT hB
    clear hB
    clear hz c0 c1 c2
    obtain ⟨hz, c0, c1, c2⟩ := HK.out.at3.cells
    go_wp2_with fail
    refine (HA'.out _ _ HY.out).mono ?_
    rintro e w6 ⟨rfl, hB⟩
    have HC : Hid (Ss w6 (.slice ao xs.length cap) xs) := HC.out.later hB
    have HK : Hid (Blk w6 w.heap.size 36 (C3 f t o)) := HK.out.later hB
    have HY : Hid (Ss w6 (.slice aA (xs.length + 1) cA) ys) := HY.out.later hB
    have hT := then_below hT hB
    clear hB
    clear hz c0 c1 c2
    obtain ⟨hz, c0, c1, c2⟩ := HK.out.at3.cells
    go_wp2_with fail
    refine (HX.out _ _ HY.out).mono ?_
    rintro e w7 ⟨ub, rfl, hO, hB⟩
    have HC : Hid (Ss w7 (.slice ao xs.length cap) xs) := HC.out.later hB
    have HK : Hid (Blk w7 w.heap.size 36 (C3 f t o)) := HK.out.later hB
    have HY : Hid (Ss w7 (.slice aA (xs.length + 1) cA) ys) := HY.out.later hB
    have hT := then_below hT hB
    have HBb : Hid (Ss w7 ub LD) := hO.ss
    clear hO
    clear hB
    clear hz c0 c1 c2
    obtain ⟨hz, c0, c1, c2⟩ := HK.out.at3.cells
    go_wp2_with fail
    refine (HX'.out _ _ HC.out).mono ?_
    rintro e w8 ⟨ud, rfl, hO, hB⟩
    have HC : Hid (Ss w8 (.slice ao xs.length cap) xs) := HC.out.later hB
    have HK : Hid (Blk w8 w.heap.size 36 (C3 f t o)) := HK.out.later hB
    have HY : Hid (Ss w8 (.slice aA (xs.length + 1) cA) ys) := HY.out.later hB
    have HBb : Hid (Ss w8 ub LD) := HBb.out.later hB
    have hT := then_below hT hB
    obtain ⟨aD, cD, hud, hD⟩ := hO.ss.form
    rw [HLx.out] at hud hD
    subst hud
    have HD : Hid (Ss w8 (.slice aD xs.length cD) LD) := hD
    clear hO hD
    clear hB
    clear hz c0 c1 c2
    go_wp2_with fail
    refine (HM.out _ _ _ LD (Nat.le_trans HLD.out (by omega)) HBb.out HD.out).mono ?_
    rintro e w9 ⟨rfl, hB⟩
    have HC : Hid (Ss w9 (.slice ao xs.length cap) xs) := HC.out.later hB
    have HK : Hid (Blk w9 w.heap.size 36 (C3 f t o)) := HK.out.later hB
    have HY : Hid (Ss w9 (.slice aA (xs.length + 1) cA) ys) := HY.out.later hB
    have HBb : Hid (Ss w9 ub LD) := HBb.out.later hB
    have HD : Hid (Ss w9 (.slice aD xs.length cD) LD) := HD.out.later hB
    have hT := then_below hT hB
    clear hB
    go_wp2_with fail
    refine (HM.out _ _ _ xs (by omega) (HXX.out ▸ HBb.out) HC.out).mono ?_
    rintro e w10 ⟨rfl, hB⟩
    have HC : Hid (Ss w10 (.slice ao xs.length cap) xs) := HC.out.later hB
    have HK : Hid (Blk w10 w.heap.size 36 (C3 f t o)) := HK.out.later hB
    have HY : Hid (Ss w10 (.slice aA (xs.length + 1) cA) ys) := HY.out.later hB
    have HBb : Hid (Ss w10 ub LD) := HBb.out.later hB
    have HD : Hid (Ss w10 (.slice aD xs.length cD) LD) := HD.out.later hB
    have hT := then_below hT hB
    clear hB
    go_wp2
    go_ret
    exact ⟨rfl, then_below hB0 hT⟩
  · by_cases hi1 : f ≤ a
    · have hi2 : decide (a < t) = false := decide_eq_false fun h => hin ⟨hi1, h⟩
      clear hin
      have HC : Hid (Ss W (.slice ao xs.length cap) xs) := HS
      have HK : Hid (Blk W w.heap.size 36 (C3 f t o)) := hK
      go_enter Try.func6, Try.ntmps6
      go_wp2_with fail
      rw [HW.out]
      refine (HV.out _).mono ?_
      rintro e w1 ⟨rfl, hB⟩
      have HC : Hid (Ss w1 (.slice ao xs.length cap) xs) := HC.out.later hB
      have HK : Hid (Blk w1 w.heap.size 36 (C3 f t o)) := HK.out.later hB
      have hT := hB
      clear hB
      obtain ⟨hz, c0, c1, c2⟩ := HK.out.at3.cells
      go_wp2_with fail
      refine (HP.out _ _ HC.out).mono ?_
      rintro e w2 ⟨ua, rfl, hO, hB⟩
      have HC : Hid (Ss w2 (.slice ao xs.length cap) xs) := HC.out.later hB
      have HK : Hid (Blk w2 w.heap.size 36 (C3 f t o)) := HK.out.later hB
      have hT := then_below hT hB
      obtain ⟨aA, cA, hua, hA⟩ := hO.ss.form
      rw [HLy.out] at hua hA
      subst hua
      have HY : Hid (Ss w2 (.slice aA (xs.length + 1) cA) ys) := hA
      clear hO hA
      clear hB
      clear hz c0 c1 c2
      obtain ⟨hz, c0, c1, c2⟩ := HK.out.at3.cells
      go_wp2_with fail
      refine (HF.out _ _ HC.out).mono ?_
      rintro e w3 ⟨rfl, hB⟩
      have HC : Hid (Ss w3 (.slice ao xs.length cap) xs) := HC.out.later hB
      have HK : Hid (Blk w3 w.heap.size 36 (C3 f t o)) := HK.out.later hB
      have HY : Hid (Ss w3 (.slice aA (xs.length + 1) cA) ys) := HY.out.later hB
      have hT := then_below hT hB
      clear hB
      clear hz c0 c1 c2
      obtain ⟨hz, c0, c1, c2⟩ := HK.out.at3.cells
      go_wp2_with fail
      refine (HE.out _ _ HY.out).mono ?_
      rintro e w4 ⟨rfl, hB⟩
      have HC : Hid (Ss w4 (.slice ao xs.length cap) xs) := HC.out.later hB
      have HK : Hid (Blk w4 w.heap.size 36 (C3 f t o)) := HK.out.later hB
      have HY : Hid (Ss w4 (.slice aA (xs.length + 1) cA) ys) := HY.out.later hB
      have hT := then_below hT hB
      clear hB
      clear hz c0 c1 c2
      obtain ⟨hz, c0, c1, c2⟩ := HK.out.at3.cells
      go_wp2_with fail
      refine (HA.out _ _ HC.out).mono ?_
      rintro e w5 ⟨rfl, hB⟩
      have HC : Hid (Ss w5 (.slice ao xs.length cap) xs) := HC.out.later hB
      have HK : Hid (Blk w5 w.heap.size 36 (C3 f t o)) := HK.out.later hB
      have HY : Hid (Ss w5 (.slice aA (xs.length + 1) cA) ys) := HY.out.later hB
      have hT := then_below hT hB
      clear hB
      clear hz c0 c1 c2
      obtain ⟨hz, c0, c1, c2⟩ := HK.out.at3.cells
      go_wp2_with fail
      refine (HA'.out _ _ HY.out).mono ?_
      rintro e w6 ⟨rfl, hB⟩
      have HC : Hid (Ss w6 (.slice ao xs.length cap) xs) := HC.out.later hB
      have HK : Hid (Blk w6 w.heap.size 36 (C3 f t o)) := HK.out.later hB
      have HY : Hid (Ss w6 (.slice aA (xs.length + 1) cA) ys) := HY.out.later hB
      have hT := then_below hT hB
      clear hB
      clear hz c0 c1 c2
      obtain ⟨hz, c0, c1, c2⟩ := HK.out.at3.cells
      go_wp2_with fail
      refine (HX.out _ _ HY.out).mono ?_
      rintro e w7 ⟨ub, rfl, hO, hB⟩
      have HC : Hid (Ss w7 (.slice ao xs.length cap) xs) := HC.out.later hB
      have HK : Hid (Blk w7 w.heap.size 36 (C3 f t o)) := HK.out.later hB
      have HY : Hid (Ss w7 (.slice aA (xs.length + 1) cA) ys) := HY.out.later hB
      have hT := then_below hT hB
      have HBb : Hid (Ss w7 ub LD) := hO.ss
      clear hO
      clear hB
      clear hz c0 c1 c2
      obtain ⟨hz, c0, c1, c2⟩ := HK.out.at3.cells
      go_wp2_with fail
      refine (HX'.out _ _ HC.out).mono ?_
      rintro e w8 ⟨ud, rfl, hO, hB⟩
      have HC : Hid (Ss w8 (.slice ao xs.length cap) xs) := HC.out.later hB
      have HK : Hid (Blk w8 w.heap.size 36 (C3 f t o)) := HK.out.later hB
      have HY : Hid (Ss w8 (.slice aA (xs.length + 1) cA) ys) := HY.out.later hB
      have HBb : Hid (Ss w8 ub LD) := HBb.out.later hB
      have hT := then_below hT hB
      obtain ⟨aD, cD, hud, hD⟩ := hO.ss.form
      rw [HLx.out] at hud hD
      subst hud
      have HD : Hid (Ss w8 (.slice aD xs.length cD) LD) := hD
      clear hO hD
      clear hB
      clear hz c0 c1 c2
      go_wp2_with fail
      refine (HM.out _ _ _ LD (Nat.le_trans HLD.out (by omega)) HBb.out HD.out).mono ?_
      rintro e w9 ⟨rfl, hB⟩
      have HC : Hid (Ss w9 (.slice ao xs.length cap) xs) := HC.out.later hB
      have HK : Hid (Blk w9 w.heap.size 36 (C3 f t o)) := HK.out.later hB
      have HY : Hid (Ss w9 (.slice aA (xs.length + 1) cA) ys) := HY.out.later hB
      have HBb : Hid (Ss w9 ub LD) := HBb.out.later hB
      have HD : Hid (Ss w9 (.slice aD xs.length cD) LD) := HD.out.later hB
      have hT := then_below hT hB
      clear hB
      go_wp2_with fail
      refine (HM.out _ _ _ xs (by omega) (HXX.out ▸ HBb.out) HC.out).mono ?_
      rintro e w10 ⟨rfl, hB⟩
      have HC : Hid (Ss w10 (.slice ao xs.length cap) xs) := HC.out.later hB
      have HK : Hid (Blk w10 w.heap.size 36 (C3 f t o)) := HK.out.later hB
      have HY : Hid (Ss w10 (.slice aA (xs.length + 1) cA) ys) := HY.out.later hB
      have HBb : Hid (Ss w10 ub LD) := HBb.out.later hB
      have HD : Hid (Ss w10 (.slice aD xs.length cD) LD) := HD.out.later hB
      have hT := then_below hT hB
      clear hB
      go_wp2
      go_ret
      exact ⟨rfl, then_below hB0 hT⟩
    · have hi1 : decide (f ≤ a) = false := decide_eq_false hi1
      clear hin
      have HC : Hid (Ss W (.slice ao xs.length cap) xs) := HS
      have HK : Hid (Blk W w.heap.size 36 (C3 f t o)) := hK
      go_enter Try.func6, Try.ntmps6
      go_wp2_with fail
      rw [HW.out]
      refine (HV.out _).mono ?_
      rintro e w1 ⟨rfl, hB⟩
      have HC : Hid (Ss w1 (.slice ao xs.length cap) xs) := HC.out.later hB
      have HK : Hid (Blk w1 w.heap.size 36 (C3 f t o)) := HK.out.later hB
      have hT := hB
      clear hB
      obtain ⟨hz, c0, c1, c2⟩ := HK.out.at3.cells
      go_wp2_with fail
      refine (HP.out _ _ HC.out).mono ?_
      rintro e w2 ⟨ua, rfl, hO, hB⟩
      have HC : Hid (Ss w2 (.slice ao xs.length cap) xs) := HC.out.later hB
      have HK : Hid (Blk w2 w.heap.size 36 (C3 f t o)) := HK.out.later hB
      have hT := then_below hT hB
      obtain ⟨aA, cA, hua, hA⟩ := hO.ss.form
      rw [HLy.out] at hua hA
      subst hua
      have HY : Hid (Ss w2 (.slice aA (xs.length + 1) cA) ys) := hA
      clear hO hA
      clear hB
      clear hz c0 c1 c2
      obtain ⟨hz, c0, c1, c2⟩ := HK.out.at3.cells
      go_wp2_with fail
      refine (HF.out _ _ HC.out).mono ?_
      rintro e w3 ⟨rfl, hB⟩
      have HC : Hid (Ss w3 (.slice ao xs.length cap) xs) := HC.out.later hB
      have HK : Hid (Blk w3 w.heap.size 36 (C3 f t o)) := HK.out.later hB
      have HY : Hid (Ss w3 (.slice aA (xs.length + 1) cA) ys) := HY.out.later hB
      have hT := then_below hT hB
      clear hB
      clear hz c0 c1 c2
      obtain ⟨hz, c0, c1, c2⟩ := HK.out.at3.cells
      go_wp2_with fail
      refine (HE.out _ _ HY.out).mono ?_
      rintro e w4 ⟨rfl, hB⟩
      have HC : Hid (Ss w4 (.slice ao xs.length cap) xs) := HC.out.later hB
      have HK : Hid (Blk w4 w.heap.size 36 (C3 f t o)) := HK.out.later hB
      have HY : Hid (Ss w4 (.slice aA (xs.length + 1) cA) ys) := HY.out.later hB
      have hT := then_below hT hB
      clear hB
      clear hz c0 c1 c2
      obtain ⟨hz, c0, c1, c2⟩ := HK.out.at3.cells
      go_wp2_with fail
      refine (HA.out _ _ HC.out).mono ?_
      rintro e w5 ⟨rfl, hB⟩
      have HC : Hid (Ss w5 (.slice ao xs.length cap) xs) := HC.out.later hB
      have HK : Hid (Blk w5 w.heap.size 36 (C3 f t o)) := HK.out.later hB
      have HY : Hid (Ss w5 (.slice aA (xs.length + 1) cA) ys) := HY.out.later hB
      have hT := then_below hT hB
      clear hB
      clear hz c0 c1 c2
      obtain ⟨hz, c0, c1, c2⟩ := HK.out.at3.cells
      go_wp2_with fail
      refine (HA'.out _ _ HY.out).mono ?_
      rintro e w6 ⟨rfl, hB⟩
      have HC : Hid (Ss w6 (.slice ao xs.length cap) xs) := HC.out.later hB
      have HK : Hid (Blk w6 w.heap.size 36 (C3 f t o)) := HK.out.later hB
      have HY : Hid (Ss w6 (.slice aA (xs.length + 1) cA) ys) := HY.out.later hB
      have hT := then_below hT hB
      clear hB
      clear hz c0 c1 c2
      obtain ⟨hz, c0, c1, c2⟩ := HK.out.at3.cells
      go_wp2_with fail
      refine (HX.out _ _ HY.out).mono ?_
      rintro e w7 ⟨ub, rfl, hO, hB⟩
      have HC : Hid (Ss w7 (.slice ao xs.length cap) xs) := HC.out.later hB
      have HK : Hid (Blk w7 w.heap.size 36 (C3 f t o)) := HK.out.later hB
      have HY : Hid (Ss w7 (.slice aA (xs.length + 1) cA) ys) := HY.out.later hB
      have hT := then_below hT hB
      have HBb : Hid (Ss w7 ub LD) := hO.ss
      clear hO
      clear hB
      clear hz c0 c1 c2
      obtain ⟨hz, c0, c1, c2⟩ := HK.out.at3.cells
      go_wp2_with fail
      refine (HX'.out _ _ HC.out).mono ?_
      rintro e w8 ⟨ud, rfl, hO, hB⟩
      have HC : Hid (Ss w8 (.slice ao xs.length cap) xs) := HC.out.later hB
      have HK : Hid (Blk w8 w.heap.size 36 (C3 f t o)) := HK.out.later hB
      have HY : Hid (Ss w8 (.slice aA (xs.length + 1) cA) ys) := HY.out.later hB
      have HBb : Hid (Ss w8 ub LD) := HBb.out.later hB
      have hT := then_below hT hB
      obtain ⟨aD, cD, hud, hD⟩ := hO.ss.form
      rw [HLx.out] at hud hD
      subst hud
      have HD : Hid (Ss w8 (.slice aD xs.length cD) LD) := hD
      clear hO hD
      clear hB
      clear hz c0 c1 c2
      go_wp2_with fail
      refine (HM.out _ _ _ LD (Nat.le_trans HLD.out (by omega)) HBb.out HD.out).mono ?_
      rintro e w9 ⟨rfl, hB⟩
      have HC : Hid (Ss w9 (.slice ao xs.length cap) xs) := HC.out.later hB
      have HK : Hid (Blk w9 w.heap.size 36 (C3 f t o)) := HK.out.later hB
      have HY : Hid (Ss w9 (.slice aA (xs.length + 1) cA) ys) := HY.out.later hB
      have HBb : Hid (Ss w9 ub LD) := HBb.out.later hB
      have HD : Hid (Ss w9 (.slice aD xs.length cD) LD) := HD.out.later hB
      have hT := then_below hT hB
      clear hB
      go_wp2_with fail
      refine (HM.out _ _ _ xs (by omega) (HXX.out ▸ HBb.out) HC.out).mono ?_
      rintro e w10 ⟨rfl, hB⟩
      have HC : Hid (Ss w10 (.slice ao xs.length cap) xs) := HC.out.later hB
      have HK : Hid (Blk w10 w.heap.size 36 (C3 f t o)) := HK.out.later hB
      have HY : Hid (Ss w10 (.slice aA (xs.length + 1) cA) ys) := HY.out.later hB
      have HBb : Hid (Ss w10 ub LD) := HBb.out.later hB
      have HD : Hid (Ss w10 (.slice aD xs.length cD) LD) := HD.out.later hB
      have hT := then_below hT hB
      clear hB
      go_wp2
      go_ret
      exact ⟨rfl, then_below hB0 hT⟩

set_option maxRecDepth 100000 in
set_option maxHeartbeats 16000000 in
theorem calPut_ne {xs LD : List Slt} {v : Value} {f t o a : Int} (w : World) (hS : Ss w v xs) (hm : mayC xs) (hs : maySl (f, t, o)) (hc : clearC xs f t = true) (hl : xs.length < 4096) (hLD : LD = lessC xs o) (hlen : LD.length ≠ xs.length) :
    Calls Try.prog 6 #[v, V3 f t o, I a] w fun e W' => e = .returned (.bool true) ∧ Below w.heap.size w W' := by
  obtain ⟨ao, cap, rfl, hS⟩ := hS.form
  obtain ⟨W, hW, hB0, hK⟩ := one_start w (C3 f t o) 36
  have HW : Hid (w.alloc (.cells (C3 f t o) 36) = W) := hW
  have HS : Hid (Ss W (.slice ao xs.length cap) xs) := hS.later hB0
  have HV : Hid (∀ w, Calls Try.prog 14 #[] w fun e W' => e = .returned (.bool true) ∧ Below w.heap.size w W') := aliveC_calls
  have HP : Hid (∀ w v, Ss w v xs → Calls Try.prog 17 #[v, V3 f t o] w fun e W' => ∃ u, e = .returned (.tuple #[u, I 0]) ∧ So W' w.heap.size u (withC (f, t, o) xs) ∧ Below w.heap.size w W') := fun w v h => cput_yes w h hm hs hc hl
  have HF : Hid (∀ w v, Ss w v xs → Calls Try.prog 23 #[v, S2 f t] w fun e W' => e = .returned (.tuple #[.bool true, I 0]) ∧ Below w.heap.size w W') := fun w v h => by
    have em := mayCB_iff.2 hm
    have es := (maySpB_iff f t).2 hs.1
    have e1 : freeB xs f t = true := by simp [freeB, em, es, hc]
    have e2 : freeE xs f t = 0 := by simp [freeE, em, es]
    rw [← e1, ← e2]; exact cfree_calls w h
  have hy := withC_may hm hs hc hl
  have HE : Hid (∀ w v, Ss w v (withC (f, t, o) xs) → Calls Try.prog 21 #[v] w fun e W' => e = .returned (I 0) ∧ Below w.heap.size w W') := fun w v h => by rw [← errC_ok hy]; exact ccheck_calls w h
  have HA : Hid (∀ w v, Ss w v xs → Calls Try.prog 11 #[v, I a] w fun e W' => e = .returned (.tuple #[I (atV xs a), I (atE xs a)]) ∧ Below w.heap.size w W') := fun w v h => cat_calls w h
  have HA' : Hid (∀ w v, Ss w v (withC (f, t, o) xs) → Calls Try.prog 11 #[v, I a] w fun e W' => e = .returned (.tuple #[I (atV (withC (f, t, o) xs) a), I (atE (withC (f, t, o) xs) a)]) ∧ Below w.heap.size w W') := fun w v h => cat_calls w h
  have HX : Hid (∀ w v, Ss w v (withC (f, t, o) xs) → Calls Try.prog 13 #[v, I o] w fun e W' => ∃ u, e = .returned (.tuple #[u, I 0]) ∧ So W' w.heap.size u LD ∧ Below w.heap.size w W') := fun w v h => by rw [hLD, ← less_with (s := (f, t, o)) (c := xs)]; exact ctake_yes w h hy
  have HX' : Hid (∀ w v, Ss w v xs → Calls Try.prog 13 #[v, I o] w fun e W' => ∃ u, e = .returned (.tuple #[u, I 0]) ∧ So W' w.heap.size u LD ∧ Below w.heap.size w W') := fun w v h => by rw [hLD]; exact ctake_yes w h hm
  have HM : Hid (∀ w u v (ys : List Slt), ys.length ≤ 100000 → Ss w u ys → Ss w v ys → Calls Try.prog 15 #[u, v] w fun e W' => e = .returned (.bool true) ∧ Below w.heap.size w W') := fun w u v ys hy h h' => same_true w h h' hy
  have HLy : Hid ((withC (f, t, o) xs).length = xs.length + 1) := withC_len _ _
  have HLD : Hid (LD.length ≤ 5000) := by
    have h1 : LD.length ≤ xs.length := by rw [hLD]; exact List.length_filter_le _ _
    exact Nat.le_trans h1 (by omega)
  have HF3 := put_at_facts (a := a) hm hs hc hl
  have hg5 : decide ((5000 : Int) < (xs.length : Int)) = false := decide_eq_false (by omega)
  clear hS hW hy
  generalize atV xs a = x1 at *
  generalize atE xs a = g1 at *
  generalize atV (withC (f, t, o) xs) a = y1 at *
  generalize atE (withC (f, t, o) xs) a = h1 at *
  generalize withC (f, t, o) xs = ys at *
  have hlx : xs.length ≤ 4096 := by omega
  clear hm hs hc hl hLD
  obtain ⟨ld, hld⟩ : ∃ ld, LD.length = ld := ⟨_, rfl⟩
  have HLl : Hid (LD.length = ld) := hld
  rw [hld] at hlen
  have hlb : ((ld : Int) != (xs.length : Int)) = true := by simpa using fun h => hlen (by omega)
  clear hld hlen
  rcases HF3 with ⟨rfl, rfl⟩ | ⟨⟨hi1, hi2⟩, rfl, rfl, hy1⟩ | ⟨hin, hg2, rfl, rfl⟩
  · skip
    have HC : Hid (Ss W (.slice ao xs.length cap) xs) := HS
    have HK : Hid (Blk W w.heap.size 36 (C3 f t o)) := hK
    go_enter Try.func6, Try.ntmps6
    go_wp2_with fail
    rw [HW.out]
    refine (HV.out _).mono ?_
    rintro e w1 ⟨rfl, hB⟩
    have HC : Hid (Ss w1 (.slice ao xs.length cap) xs) := HC.out.later hB
    have HK : Hid (Blk w1 w.heap.size 36 (C3 f t o)) := HK.out.later hB
    have hT := hB
    clear hB
    obtain ⟨hz, c0, c1, c2⟩ := HK.out.at3.cells
    go_wp2_with fail
    refine (HP.out _ _ HC.out).mono ?_
    rintro e w2 ⟨ua, rfl, hO, hB⟩
    have HC : Hid (Ss w2 (.slice ao xs.length cap) xs) := HC.out.later hB
    have HK : Hid (Blk w2 w.heap.size 36 (C3 f t o)) := HK.out.later hB
    have hT := then_below hT hB
    obtain ⟨aA, cA, hua, hA⟩ := hO.ss.form
    rw [HLy.out] at hua hA
    subst hua
    have HY : Hid (Ss w2 (.slice aA (xs.length + 1) cA) ys) := hA
    clear hO hA
    clear hB
    clear hz c0 c1 c2
    obtain ⟨hz, c0, c1, c2⟩ := HK.out.at3.cells
    go_wp2_with fail
    refine (HF.out _ _ HC.out).mono ?_
    rintro e w3 ⟨rfl, hB⟩
    have HC : Hid (Ss w3 (.slice ao xs.length cap) xs) := HC.out.later hB
    have HK : Hid (Blk w3 w.heap.size 36 (C3 f t o)) := HK.out.later hB
    have HY : Hid (Ss w3 (.slice aA (xs.length + 1) cA) ys) := HY.out.later hB
    have hT := then_below hT hB
    clear hB
    clear hz c0 c1 c2
    obtain ⟨hz, c0, c1, c2⟩ := HK.out.at3.cells
    go_wp2_with fail
    refine (HE.out _ _ HY.out).mono ?_
    rintro e w4 ⟨rfl, hB⟩
    have HC : Hid (Ss w4 (.slice ao xs.length cap) xs) := HC.out.later hB
    have HK : Hid (Blk w4 w.heap.size 36 (C3 f t o)) := HK.out.later hB
    have HY : Hid (Ss w4 (.slice aA (xs.length + 1) cA) ys) := HY.out.later hB
    have hT := then_below hT hB
    clear hB
    clear hz c0 c1 c2
    obtain ⟨hz, c0, c1, c2⟩ := HK.out.at3.cells
    go_wp2_with fail
    refine (HA.out _ _ HC.out).mono ?_
    rintro e w5 ⟨rfl, hB⟩
    have HC : Hid (Ss w5 (.slice ao xs.length cap) xs) := HC.out.later hB
    have HK : Hid (Blk w5 w.heap.size 36 (C3 f t o)) := HK.out.later hB
    have HY : Hid (Ss w5 (.slice aA (xs.length + 1) cA) ys) := HY.out.later hB
    have hT := then_below hT hB
    clear hB
    clear hz c0 c1 c2
    obtain ⟨hz, c0, c1, c2⟩ := HK.out.at3.cells
    go_wp2_with fail
    refine (HA'.out _ _ HY.out).mono ?_
    rintro e w6 ⟨rfl, hB⟩
    have HC : Hid (Ss w6 (.slice ao xs.length cap) xs) := HC.out.later hB
    have HK : Hid (Blk w6 w.heap.size 36 (C3 f t o)) := HK.out.later hB
    have HY : Hid (Ss w6 (.slice aA (xs.length + 1) cA) ys) := HY.out.later hB
    have hT := then_below hT hB
    clear hB
    clear hz c0 c1 c2
    obtain ⟨hz, c0, c1, c2⟩ := HK.out.at3.cells
    go_wp2_with fail
    refine (HX.out _ _ HY.out).mono ?_
    rintro e w7 ⟨ub, rfl, hO, hB⟩
    have HC : Hid (Ss w7 (.slice ao xs.length cap) xs) := HC.out.later hB
    have HK : Hid (Blk w7 w.heap.size 36 (C3 f t o)) := HK.out.later hB
    have HY : Hid (Ss w7 (.slice aA (xs.length + 1) cA) ys) := HY.out.later hB
    have hT := then_below hT hB
    have HBb : Hid (Ss w7 ub LD) := hO.ss
    clear hO
    clear hB
    clear hz c0 c1 c2
    obtain ⟨hz, c0, c1, c2⟩ := HK.out.at3.cells
    go_wp2_with fail
    refine (HX'.out _ _ HC.out).mono ?_
    rintro e w8 ⟨ud, rfl, hO, hB⟩
    have HC : Hid (Ss w8 (.slice ao xs.length cap) xs) := HC.out.later hB
    have HK : Hid (Blk w8 w.heap.size 36 (C3 f t o)) := HK.out.later hB
    have HY : Hid (Ss w8 (.slice aA (xs.length + 1) cA) ys) := HY.out.later hB
    have HBb : Hid (Ss w8 ub LD) := HBb.out.later hB
    have hT := then_below hT hB
    obtain ⟨aD, cD, hud, hD⟩ := hO.ss.form
    rw [HLl.out] at hud hD
    subst hud
    have HD : Hid (Ss w8 (.slice aD ld cD) LD) := hD
    clear hO hD
    clear hB
    clear hz c0 c1 c2
    go_wp2_with fail
    refine (HM.out _ _ _ LD (Nat.le_trans HLD.out (by omega)) HBb.out HD.out).mono ?_
    rintro e w9 ⟨rfl, hB⟩
    have HC : Hid (Ss w9 (.slice ao xs.length cap) xs) := HC.out.later hB
    have HK : Hid (Blk w9 w.heap.size 36 (C3 f t o)) := HK.out.later hB
    have HY : Hid (Ss w9 (.slice aA (xs.length + 1) cA) ys) := HY.out.later hB
    have HBb : Hid (Ss w9 ub LD) := HBb.out.later hB
    have HD : Hid (Ss w9 (.slice aD ld cD) LD) := HD.out.later hB
    have hT := then_below hT hB
    clear hB
    go_wp2
    go_ret
    exact ⟨rfl, then_below hB0 hT⟩
  · rw [hy1] at HA'
    clear hy1
    have HC : Hid (Ss W (.slice ao xs.length cap) xs) := HS
    have HK : Hid (Blk W w.heap.size 36 (C3 f t o)) := hK
    go_enter Try.func6, Try.ntmps6
    go_wp2_with fail
    rw [HW.out]
    refine (HV.out _).mono ?_
    rintro e w1 ⟨rfl, hB⟩
    have HC : Hid (Ss w1 (.slice ao xs.length cap) xs) := HC.out.later hB
    have HK : Hid (Blk w1 w.heap.size 36 (C3 f t o)) := HK.out.later hB
    have hT := hB
    clear hB
    obtain ⟨hz, c0, c1, c2⟩ := HK.out.at3.cells
    go_wp2_with fail
    refine (HP.out _ _ HC.out).mono ?_
    rintro e w2 ⟨ua, rfl, hO, hB⟩
    have HC : Hid (Ss w2 (.slice ao xs.length cap) xs) := HC.out.later hB
    have HK : Hid (Blk w2 w.heap.size 36 (C3 f t o)) := HK.out.later hB
    have hT := then_below hT hB
    obtain ⟨aA, cA, hua, hA⟩ := hO.ss.form
    rw [HLy.out] at hua hA
    subst hua
    have HY : Hid (Ss w2 (.slice aA (xs.length + 1) cA) ys) := hA
    clear hO hA
    clear hB
    clear hz c0 c1 c2
    obtain ⟨hz, c0, c1, c2⟩ := HK.out.at3.cells
    go_wp2_with fail
    refine (HF.out _ _ HC.out).mono ?_
    rintro e w3 ⟨rfl, hB⟩
    have HC : Hid (Ss w3 (.slice ao xs.length cap) xs) := HC.out.later hB
    have HK : Hid (Blk w3 w.heap.size 36 (C3 f t o)) := HK.out.later hB
    have HY : Hid (Ss w3 (.slice aA (xs.length + 1) cA) ys) := HY.out.later hB
    have hT := then_below hT hB
    clear hB
    clear hz c0 c1 c2
    obtain ⟨hz, c0, c1, c2⟩ := HK.out.at3.cells
    go_wp2_with fail
    refine (HE.out _ _ HY.out).mono ?_
    rintro e w4 ⟨rfl, hB⟩
    have HC : Hid (Ss w4 (.slice ao xs.length cap) xs) := HC.out.later hB
    have HK : Hid (Blk w4 w.heap.size 36 (C3 f t o)) := HK.out.later hB
    have HY : Hid (Ss w4 (.slice aA (xs.length + 1) cA) ys) := HY.out.later hB
    have hT := then_below hT hB
    clear hB
    clear hz c0 c1 c2
    obtain ⟨hz, c0, c1, c2⟩ := HK.out.at3.cells
    go_wp2_with fail
    refine (HA.out _ _ HC.out).mono ?_
    rintro e w5 ⟨rfl, hB⟩
    have HC : Hid (Ss w5 (.slice ao xs.length cap) xs) := HC.out.later hB
    have HK : Hid (Blk w5 w.heap.size 36 (C3 f t o)) := HK.out.later hB
    have HY : Hid (Ss w5 (.slice aA (xs.length + 1) cA) ys) := HY.out.later hB
    have hT := then_below hT hB
    clear hB
    clear hz c0 c1 c2
    obtain ⟨hz, c0, c1, c2⟩ := HK.out.at3.cells
    go_wp2_with fail
    refine (HA'.out _ _ HY.out).mono ?_
    rintro e w6 ⟨rfl, hB⟩
    have HC : Hid (Ss w6 (.slice ao xs.length cap) xs) := HC.out.later hB
    have HK : Hid (Blk w6 w.heap.size 36 (C3 f t o)) := HK.out.later hB
    have HY : Hid (Ss w6 (.slice aA (xs.length + 1) cA) ys) := HY.out.later hB
    have hT := then_below hT hB
    clear hB
    clear hz c0 c1 c2
    obtain ⟨hz, c0, c1, c2⟩ := HK.out.at3.cells
    go_wp2_with fail
    refine (HX.out _ _ HY.out).mono ?_
    rintro e w7 ⟨ub, rfl, hO, hB⟩
    have HC : Hid (Ss w7 (.slice ao xs.length cap) xs) := HC.out.later hB
    have HK : Hid (Blk w7 w.heap.size 36 (C3 f t o)) := HK.out.later hB
    have HY : Hid (Ss w7 (.slice aA (xs.length + 1) cA) ys) := HY.out.later hB
    have hT := then_below hT hB
    have HBb : Hid (Ss w7 ub LD) := hO.ss
    clear hO
    clear hB
    clear hz c0 c1 c2
    obtain ⟨hz, c0, c1, c2⟩ := HK.out.at3.cells
    go_wp2_with fail
    refine (HX'.out _ _ HC.out).mono ?_
    rintro e w8 ⟨ud, rfl, hO, hB⟩
    have HC : Hid (Ss w8 (.slice ao xs.length cap) xs) := HC.out.later hB
    have HK : Hid (Blk w8 w.heap.size 36 (C3 f t o)) := HK.out.later hB
    have HY : Hid (Ss w8 (.slice aA (xs.length + 1) cA) ys) := HY.out.later hB
    have HBb : Hid (Ss w8 ub LD) := HBb.out.later hB
    have hT := then_below hT hB
    obtain ⟨aD, cD, hud, hD⟩ := hO.ss.form
    rw [HLl.out] at hud hD
    subst hud
    have HD : Hid (Ss w8 (.slice aD ld cD) LD) := hD
    clear hO hD
    clear hB
    clear hz c0 c1 c2
    go_wp2_with fail
    refine (HM.out _ _ _ LD (Nat.le_trans HLD.out (by omega)) HBb.out HD.out).mono ?_
    rintro e w9 ⟨rfl, hB⟩
    have HC : Hid (Ss w9 (.slice ao xs.length cap) xs) := HC.out.later hB
    have HK : Hid (Blk w9 w.heap.size 36 (C3 f t o)) := HK.out.later hB
    have HY : Hid (Ss w9 (.slice aA (xs.length + 1) cA) ys) := HY.out.later hB
    have HBb : Hid (Ss w9 ub LD) := HBb.out.later hB
    have HD : Hid (Ss w9 (.slice aD ld cD) LD) := HD.out.later hB
    have hT := then_below hT hB
    clear hB
    go_wp2
    go_ret
    exact ⟨rfl, then_below hB0 hT⟩
  · by_cases hi1 : f ≤ a
    · have hi2 : decide (a < t) = false := decide_eq_false fun h => hin ⟨hi1, h⟩
      clear hin
      have HC : Hid (Ss W (.slice ao xs.length cap) xs) := HS
      have HK : Hid (Blk W w.heap.size 36 (C3 f t o)) := hK
      go_enter Try.func6, Try.ntmps6
      go_wp2_with fail
      rw [HW.out]
      refine (HV.out _).mono ?_
      rintro e w1 ⟨rfl, hB⟩
      have HC : Hid (Ss w1 (.slice ao xs.length cap) xs) := HC.out.later hB
      have HK : Hid (Blk w1 w.heap.size 36 (C3 f t o)) := HK.out.later hB
      have hT := hB
      clear hB
      obtain ⟨hz, c0, c1, c2⟩ := HK.out.at3.cells
      go_wp2_with fail
      refine (HP.out _ _ HC.out).mono ?_
      rintro e w2 ⟨ua, rfl, hO, hB⟩
      have HC : Hid (Ss w2 (.slice ao xs.length cap) xs) := HC.out.later hB
      have HK : Hid (Blk w2 w.heap.size 36 (C3 f t o)) := HK.out.later hB
      have hT := then_below hT hB
      obtain ⟨aA, cA, hua, hA⟩ := hO.ss.form
      rw [HLy.out] at hua hA
      subst hua
      have HY : Hid (Ss w2 (.slice aA (xs.length + 1) cA) ys) := hA
      clear hO hA
      clear hB
      clear hz c0 c1 c2
      obtain ⟨hz, c0, c1, c2⟩ := HK.out.at3.cells
      go_wp2_with fail
      refine (HF.out _ _ HC.out).mono ?_
      rintro e w3 ⟨rfl, hB⟩
      have HC : Hid (Ss w3 (.slice ao xs.length cap) xs) := HC.out.later hB
      have HK : Hid (Blk w3 w.heap.size 36 (C3 f t o)) := HK.out.later hB
      have HY : Hid (Ss w3 (.slice aA (xs.length + 1) cA) ys) := HY.out.later hB
      have hT := then_below hT hB
      clear hB
      clear hz c0 c1 c2
      obtain ⟨hz, c0, c1, c2⟩ := HK.out.at3.cells
      go_wp2_with fail
      refine (HE.out _ _ HY.out).mono ?_
      rintro e w4 ⟨rfl, hB⟩
      have HC : Hid (Ss w4 (.slice ao xs.length cap) xs) := HC.out.later hB
      have HK : Hid (Blk w4 w.heap.size 36 (C3 f t o)) := HK.out.later hB
      have HY : Hid (Ss w4 (.slice aA (xs.length + 1) cA) ys) := HY.out.later hB
      have hT := then_below hT hB
      clear hB
      clear hz c0 c1 c2
      obtain ⟨hz, c0, c1, c2⟩ := HK.out.at3.cells
      go_wp2_with fail
      refine (HA.out _ _ HC.out).mono ?_
      rintro e w5 ⟨rfl, hB⟩
      have HC : Hid (Ss w5 (.slice ao xs.length cap) xs) := HC.out.later hB
      have HK : Hid (Blk w5 w.heap.size 36 (C3 f t o)) := HK.out.later hB
      have HY : Hid (Ss w5 (.slice aA (xs.length + 1) cA) ys) := HY.out.later hB
      have hT := then_below hT hB
      clear hB
      clear hz c0 c1 c2
      obtain ⟨hz, c0, c1, c2⟩ := HK.out.at3.cells
      go_wp2_with fail
      refine (HA'.out _ _ HY.out).mono ?_
      rintro e w6 ⟨rfl, hB⟩
      have HC : Hid (Ss w6 (.slice ao xs.length cap) xs) := HC.out.later hB
      have HK : Hid (Blk w6 w.heap.size 36 (C3 f t o)) := HK.out.later hB
      have HY : Hid (Ss w6 (.slice aA (xs.length + 1) cA) ys) := HY.out.later hB
      have hT := then_below hT hB
      clear hB
      clear hz c0 c1 c2
      obtain ⟨hz, c0, c1, c2⟩ := HK.out.at3.cells
      go_wp2_with fail
      refine (HX.out _ _ HY.out).mono ?_
      rintro e w7 ⟨ub, rfl, hO, hB⟩
      have HC : Hid (Ss w7 (.slice ao xs.length cap) xs) := HC.out.later hB
      have HK : Hid (Blk w7 w.heap.size 36 (C3 f t o)) := HK.out.later hB
      have HY : Hid (Ss w7 (.slice aA (xs.length + 1) cA) ys) := HY.out.later hB
      have hT := then_below hT hB
      have HBb : Hid (Ss w7 ub LD) := hO.ss
      clear hO
      clear hB
      clear hz c0 c1 c2
      obtain ⟨hz, c0, c1, c2⟩ := HK.out.at3.cells
      go_wp2_with fail
      refine (HX'.out _ _ HC.out).mono ?_
      rintro e w8 ⟨ud, rfl, hO, hB⟩
      have HC : Hid (Ss w8 (.slice ao xs.length cap) xs) := HC.out.later hB
      have HK : Hid (Blk w8 w.heap.size 36 (C3 f t o)) := HK.out.later hB
      have HY : Hid (Ss w8 (.slice aA (xs.length + 1) cA) ys) := HY.out.later hB
      have HBb : Hid (Ss w8 ub LD) := HBb.out.later hB
      have hT := then_below hT hB
      obtain ⟨aD, cD, hud, hD⟩ := hO.ss.form
      rw [HLl.out] at hud hD
      subst hud
      have HD : Hid (Ss w8 (.slice aD ld cD) LD) := hD
      clear hO hD
      clear hB
      clear hz c0 c1 c2
      go_wp2_with fail
      refine (HM.out _ _ _ LD (Nat.le_trans HLD.out (by omega)) HBb.out HD.out).mono ?_
      rintro e w9 ⟨rfl, hB⟩
      have HC : Hid (Ss w9 (.slice ao xs.length cap) xs) := HC.out.later hB
      have HK : Hid (Blk w9 w.heap.size 36 (C3 f t o)) := HK.out.later hB
      have HY : Hid (Ss w9 (.slice aA (xs.length + 1) cA) ys) := HY.out.later hB
      have HBb : Hid (Ss w9 ub LD) := HBb.out.later hB
      have HD : Hid (Ss w9 (.slice aD ld cD) LD) := HD.out.later hB
      have hT := then_below hT hB
      clear hB
      go_wp2
      go_ret
      exact ⟨rfl, then_below hB0 hT⟩
    · have hi1 : decide (f ≤ a) = false := decide_eq_false hi1
      clear hin
      have HC : Hid (Ss W (.slice ao xs.length cap) xs) := HS
      have HK : Hid (Blk W w.heap.size 36 (C3 f t o)) := hK
      go_enter Try.func6, Try.ntmps6
      go_wp2_with fail
      rw [HW.out]
      refine (HV.out _).mono ?_
      rintro e w1 ⟨rfl, hB⟩
      have HC : Hid (Ss w1 (.slice ao xs.length cap) xs) := HC.out.later hB
      have HK : Hid (Blk w1 w.heap.size 36 (C3 f t o)) := HK.out.later hB
      have hT := hB
      clear hB
      obtain ⟨hz, c0, c1, c2⟩ := HK.out.at3.cells
      go_wp2_with fail
      refine (HP.out _ _ HC.out).mono ?_
      rintro e w2 ⟨ua, rfl, hO, hB⟩
      have HC : Hid (Ss w2 (.slice ao xs.length cap) xs) := HC.out.later hB
      have HK : Hid (Blk w2 w.heap.size 36 (C3 f t o)) := HK.out.later hB
      have hT := then_below hT hB
      obtain ⟨aA, cA, hua, hA⟩ := hO.ss.form
      rw [HLy.out] at hua hA
      subst hua
      have HY : Hid (Ss w2 (.slice aA (xs.length + 1) cA) ys) := hA
      clear hO hA
      clear hB
      clear hz c0 c1 c2
      obtain ⟨hz, c0, c1, c2⟩ := HK.out.at3.cells
      go_wp2_with fail
      refine (HF.out _ _ HC.out).mono ?_
      rintro e w3 ⟨rfl, hB⟩
      have HC : Hid (Ss w3 (.slice ao xs.length cap) xs) := HC.out.later hB
      have HK : Hid (Blk w3 w.heap.size 36 (C3 f t o)) := HK.out.later hB
      have HY : Hid (Ss w3 (.slice aA (xs.length + 1) cA) ys) := HY.out.later hB
      have hT := then_below hT hB
      clear hB
      clear hz c0 c1 c2
      obtain ⟨hz, c0, c1, c2⟩ := HK.out.at3.cells
      go_wp2_with fail
      refine (HE.out _ _ HY.out).mono ?_
      rintro e w4 ⟨rfl, hB⟩
      have HC : Hid (Ss w4 (.slice ao xs.length cap) xs) := HC.out.later hB
      have HK : Hid (Blk w4 w.heap.size 36 (C3 f t o)) := HK.out.later hB
      have HY : Hid (Ss w4 (.slice aA (xs.length + 1) cA) ys) := HY.out.later hB
      have hT := then_below hT hB
      clear hB
      clear hz c0 c1 c2
      obtain ⟨hz, c0, c1, c2⟩ := HK.out.at3.cells
      go_wp2_with fail
      refine (HA.out _ _ HC.out).mono ?_
      rintro e w5 ⟨rfl, hB⟩
      have HC : Hid (Ss w5 (.slice ao xs.length cap) xs) := HC.out.later hB
      have HK : Hid (Blk w5 w.heap.size 36 (C3 f t o)) := HK.out.later hB
      have HY : Hid (Ss w5 (.slice aA (xs.length + 1) cA) ys) := HY.out.later hB
      have hT := then_below hT hB
      clear hB
      clear hz c0 c1 c2
      obtain ⟨hz, c0, c1, c2⟩ := HK.out.at3.cells
      go_wp2_with fail
      refine (HA'.out _ _ HY.out).mono ?_
      rintro e w6 ⟨rfl, hB⟩
      have HC : Hid (Ss w6 (.slice ao xs.length cap) xs) := HC.out.later hB
      have HK : Hid (Blk w6 w.heap.size 36 (C3 f t o)) := HK.out.later hB
      have HY : Hid (Ss w6 (.slice aA (xs.length + 1) cA) ys) := HY.out.later hB
      have hT := then_below hT hB
      clear hB
      clear hz c0 c1 c2
      obtain ⟨hz, c0, c1, c2⟩ := HK.out.at3.cells
      go_wp2_with fail
      refine (HX.out _ _ HY.out).mono ?_
      rintro e w7 ⟨ub, rfl, hO, hB⟩
      have HC : Hid (Ss w7 (.slice ao xs.length cap) xs) := HC.out.later hB
      have HK : Hid (Blk w7 w.heap.size 36 (C3 f t o)) := HK.out.later hB
      have HY : Hid (Ss w7 (.slice aA (xs.length + 1) cA) ys) := HY.out.later hB
      have hT := then_below hT hB
      have HBb : Hid (Ss w7 ub LD) := hO.ss
      clear hO
      clear hB
      clear hz c0 c1 c2
      obtain ⟨hz, c0, c1, c2⟩ := HK.out.at3.cells
      go_wp2_with fail
      refine (HX'.out _ _ HC.out).mono ?_
      rintro e w8 ⟨ud, rfl, hO, hB⟩
      have HC : Hid (Ss w8 (.slice ao xs.length cap) xs) := HC.out.later hB
      have HK : Hid (Blk w8 w.heap.size 36 (C3 f t o)) := HK.out.later hB
      have HY : Hid (Ss w8 (.slice aA (xs.length + 1) cA) ys) := HY.out.later hB
      have HBb : Hid (Ss w8 ub LD) := HBb.out.later hB
      have hT := then_below hT hB
      obtain ⟨aD, cD, hud, hD⟩ := hO.ss.form
      rw [HLl.out] at hud hD
      subst hud
      have HD : Hid (Ss w8 (.slice aD ld cD) LD) := hD
      clear hO hD
      clear hB
      clear hz c0 c1 c2
      go_wp2_with fail
      refine (HM.out _ _ _ LD (Nat.le_trans HLD.out (by omega)) HBb.out HD.out).mono ?_
      rintro e w9 ⟨rfl, hB⟩
      have HC : Hid (Ss w9 (.slice ao xs.length cap) xs) := HC.out.later hB
      have HK : Hid (Blk w9 w.heap.size 36 (C3 f t o)) := HK.out.later hB
      have HY : Hid (Ss w9 (.slice aA (xs.length + 1) cA) ys) := HY.out.later hB
      have HBb : Hid (Ss w9 ub LD) := HBb.out.later hB
      have HD : Hid (Ss w9 (.slice aD ld cD) LD) := HD.out.later hB
      have hT := then_below hT hB
      clear hB
      go_wp2
      go_ret
      exact ⟨rfl, then_below hB0 hT⟩

set_option maxRecDepth 100000 in
theorem calPut_walk (f t o a : Int) (w : World) {xs : List Slt} {v : Value} (hS : Ss w v xs) :
    Calls Try.prog 6 #[v, V3 f t o, I a] w fun e W' => e = .returned (.bool true) ∧ Below w.heap.size w W' := by
  by_cases hn : xs.length ≤ 5000
  · by_cases he : putE xs (f, t, o) = 0
    · obtain ⟨h1, h2, h3, h4⟩ := putE_zero he
      by_cases hl : (lessC xs o).length = xs.length
      · exact calPut_eq w hS h1 h2 h3 h4 rfl hl
      · exact calPut_ne w hS h1 h2 h3 h4 rfl hl
    · exact calPut_err w hS hn he
  · obtain ⟨ao, cap, rfl, hS⟩ := hS.form
    obtain ⟨W, hW, hB0, hK⟩ := one_start w (C3 f t o) 36
    have HW : Hid (w.alloc (.cells (C3 f t o) 36) = W) := hW
    have HV : Hid (∀ w, Calls Try.prog 14 #[] w fun e W' => e = .returned (.bool true) ∧ Below w.heap.size w W') := aliveC_calls
    have e3 : (5000 : Int) < (xs.length : Int) := by omega
    clear hS hn hW
    go_enter Try.func6, Try.ntmps6
    go_wp2_with fail
    rw [HW.out]
    refine (HV.out _).mono ?_
    rintro e w1 ⟨rfl, hT⟩
    go_wp2
    go_ret
    exact ⟨rfl, then_below hB0 hT⟩

end Go.Proofs.Ytikjgfjahjlbaaa
