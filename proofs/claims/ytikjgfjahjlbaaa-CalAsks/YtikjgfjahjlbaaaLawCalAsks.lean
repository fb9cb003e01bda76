/-
  CalAsks walked. (Written by tools/gen/cal_law1.py.)
-/
import Derived.Test.YtikjgfjahjlbaaaCalBoth
namespace Go.Proofs.Ytikjgfjahjlbaaa
open Go Go.RowKit Go.Shelf

attribute [local go_sem] Oper.semAt_some ext_const

set_option maxRecDepth 100000 in
set_option maxHeartbeats 16000000 in
theorem calAsks_in {xs : List Slt} {v : Value} {x y a long : Int} (w : World) (hS : Ss w v xs) (hn : xs.length ≤ 5000) {g0 g1 : Bool} (hg0 : decide ((300 : Int) < (xs.length : Int)) = g0) (hg1 : decide ((xs.length : Int) ≤ 4096) = g1) (hg : g0 = false ∨ (g0 = true ∧ g1 = false)) :
    Calls Try.prog 5 #[v, S2 x y, I a, I long] w fun e W' => e = .returned (.bool true) ∧ Below w.heap.size w W' := by
  obtain ⟨ao, cap, rfl, hS⟩ := hS.form
  obtain ⟨W, hW, hB0, hK⟩ := one_start w (C2 x y) 34
  have HS : Hid (Ss W (.slice ao xs.length cap) xs) := hS.later hB0
  have hWs : W.heap.size = w.heap.size + 1 := by rw [← hW]; simp
  have HZ : Hid (So ((w.alloc (.cells (C2 x y) 34)).alloc (.cells #[] 36)) (w.heap.size + 1) (.slice (some ⟨w.heap.size + 1, 0, none⟩) 0 0) []) := by
    rw [hW, ← hWs]; exact So.zero W _ (Nat.le_refl _)
  have HSZ : Hid (Ss ((w.alloc (.cells (C2 x y) 34)).alloc (.cells #[] 36)) (.slice ao xs.length cap) xs) := by
    rw [hW]; exact HS.out.later ((Below.refl _ W).alloc (Nat.le_refl _) _)
  have HB2 : Hid (∀ w0, Below (w.heap.size + 1) ((w.alloc (.cells (C2 x y) 34)).alloc (.cells #[] 36)) w0 → Below W.heap.size W w0) := fun w0 h => by
    rw [hW, ← hWs] at h; exact ((Below.refl _ W).alloc (Nat.le_refl _) _).trans h
  have hzz : w.heap.size + 1 ≤ ((w.alloc (.cells (C2 x y) 34)).alloc (.cells #[] 36)).heap.size := by simp
  have hl0 : ([] : List Slt).length + xs.length ≤ 100000 := by simp; omega
  clear hS hW hWs
  have hg5 : decide ((5000 : Int) < (xs.length : Int)) = false := decide_eq_false (by omega)
  have HF : Hid (∀ w v, Ss w v xs → Calls Try.prog 23 #[v, S2 x y] w fun e W' => e = .returned (.tuple #[.bool (freeB xs x y), I (freeE xs x y)]) ∧ Below w.heap.size w W') := fun w v h => cfree_calls w h
  have HF' : Hid (∀ w v, Ss w v xs → Calls Try.prog 24 #[v, S2 x y] w fun e W' => e = .returned (.tuple #[.bool (freeB xs x y), I (freeE xs x y)]) ∧ Below w.heap.size w W') := fun w v h => rfree_calls w h (by omega)
  have HA : Hid (∀ w v, Ss w v xs → Calls Try.prog 11 #[v, I a] w fun e W' => e = .returned (.tuple #[I (atV xs a), I (atE xs a)]) ∧ Below w.heap.size w W') := fun w v h => cat_calls w h
  have HA' : Hid (∀ w v, Ss w v xs → Calls Try.prog 25 #[v, I a] w fun e W' => e = .returned (.tuple #[I (atV xs a), I (atE xs a)]) ∧ Below w.heap.size w W') := fun w v h => rat_calls w h (by omega)
  have HN : Hid (∀ w v, Ss w v xs → Calls Try.prog 9 #[v, I a, I long] w fun e W' => e = .returned (.tuple #[I (nextV xs a long), I (nextE xs a long)]) ∧ Below w.heap.size w W') := fun w v h => cnext_calls w h
  have HN' : Hid (∀ w v, Ss w v xs → Calls Try.prog 26 #[v, I a, I long] w fun e W' => e = .returned (.tuple #[I (nextV xs a long), I (nextE xs a long)]) ∧ Below w.heap.size w W') := fun w v h => rnext_calls w h (by omega)
  have HM : Hid (∀ w u v, Ss w u xs → Ss w v xs → Calls Try.prog 15 #[u, v] w fun e W' => e = .returned (.bool true) ∧ Below w.heap.size w W') := fun w u v h h' => same_true w h h' (by omega)
  generalize freeB xs x y = q0 at *
  generalize freeE xs x y = q1 at *
  generalize atV xs a = q2 at *
  generalize atE xs a = q3 at *
  generalize nextV xs a long = q4 at *
  generalize nextE xs a long = q5 at *
  cases q0
  all_goals
    rcases hg with rfl | ⟨rfl, rfl⟩
    all_goals
      go_enter Try.func5, Try.ntmps5
      go_wp2_with (at_builtin; refine wpList_catS (base := w.heap.size + 1) (xs := []) (ys := xs) rfl _ _ rfl rfl rfl HZ.out HSZ.out hl0 hzz ?_; intro aO nO cO w0 hO hBO; have hB := HB2.out _ hBO; have HO : Hid (Ss w0 (.slice aO nO cO) xs) := hO.ss; obtain ⟨c0, c1, hz⟩ := hK.pair hB)
      have HC : Hid (Ss w0 (.slice ao xs.length cap) xs) := HS.out.later hB
      have HK : Hid (Blk w0 w.heap.size 34 (C2 x y)) := hK.later hB
      have hT := then_below hB0 hB
      clear hO hBO hB
      refine (HF.out _ _ HO.out).mono ?_
      rintro e w1 ⟨rfl, hB⟩
      have HO : Hid (Ss w1 (.slice aO nO cO) xs) := HO.out.later hB
      have HC : Hid (Ss w1 (.slice ao xs.length cap) xs) := HC.out.later hB
      have HK : Hid (Blk w1 w.heap.size 34 (C2 x y)) := HK.out.later hB
      have hT := then_below hT hB
      clear hB
      clear c0 c1 hz
      obtain ⟨c0, c1, hz⟩ := HK.out.pair (Below.refl _ _)
      go_wp2_with fail
      refine (HF'.out _ _ HC.out).mono ?_
      rintro e w2 ⟨rfl, hB⟩
      have HO : Hid (Ss w2 (.slice aO nO cO) xs) := HO.out.later hB
      have HC : Hid (Ss w2 (.slice ao xs.length cap) xs) := HC.out.later hB
      have HK : Hid (Blk w2 w.heap.size 34 (C2 x y)) := HK.out.later hB
      have hT := then_below hT hB
      clear hB
      clear c0 c1 hz
      go_wp2_with fail
      refine (HA.out _ _ HO.out).mono ?_
      rintro e w3 ⟨rfl, hB⟩
      have HO : Hid (Ss w3 (.slice aO nO cO) xs) := HO.out.later hB
      have HC : Hid (Ss w3 (.slice ao xs.length cap) xs) := HC.out.later hB
      have HK : Hid (Blk w3 w.heap.size 34 (C2 x y)) := HK.out.later hB
      have hT := then_below hT hB
      clear hB
      go_wp2_with fail
      refine (HA'.out _ _ HC.out).mono ?_
      rintro e w4 ⟨rfl, hB⟩
      have HO : Hid (Ss w4 (.slice aO nO cO) xs) := HO.out.later hB
      have HC : Hid (Ss w4 (.slice ao xs.length cap) xs) := HC.out.later hB
      have HK : Hid (Blk w4 w.heap.size 34 (C2 x y)) := HK.out.later hB
      have hT := then_below hT hB
      clear hB
      go_wp2_with fail
      refine (HN.out _ _ HO.out).mono ?_
      rintro e w5 ⟨rfl, hB⟩
      have HO : Hid (Ss w5 (.slice aO nO cO) xs) := HO.out.later hB
      have HC : Hid (Ss w5 (.slice ao xs.length cap) xs) := HC.out.later hB
      have HK : Hid (Blk w5 w.heap.size 34 (C2 x y)) := HK.out.later hB
      have hT := then_below hT hB
      clear hB
      go_wp2_with fail
      refine (HN'.out _ _ HC.out).mono ?_
      rintro e w6 ⟨rfl, hB⟩
      have HO : Hid (Ss w6 (.slice aO nO cO) xs) := HO.out.later hB
      have HC : Hid (Ss w6 (.slice ao xs.length cap) xs) := HC.out.later hB
      have HK : Hid (Blk w6 w.heap.size 34 (C2 x y)) := HK.out.later hB
      have hT := then_below hT hB
      clear hB
      go_wp2_with fail
      refine (HM.out _ _ _ HO.out HC.out).mono ?_
      rintro e w7 ⟨rfl, hB⟩
      have HO : Hid (Ss w7 (.slice aO nO cO) xs) := HO.out.later hB
      have HC : Hid (Ss w7 (.slice ao xs.length cap) xs) := HC.out.later hB
      have HK : Hid (Blk w7 w.heap.size 34 (C2 x y)) := HK.out.later hB
      have hT := then_below hT hB
      clear hB
      go_wp2
      go_ret
      exact ⟨rfl, hT⟩

set_option maxRecDepth 100000 in
theorem calAsks_out {xs : List Slt} {v : Value} {x y a long : Int} (w : World) (hS : Ss w v xs) (h : (300 < xs.length ∧ xs.length ≤ 4096) ∨ 5000 < xs.length) :
    Calls Try.prog 5 #[v, S2 x y, I a, I long] w fun e W' => e = .returned (.bool true) ∧ Below w.heap.size w W' := by
  obtain ⟨ao, cap, rfl, hS⟩ := hS.form
  have hB := (Below.refl _ w).alloc (Nat.le_refl _) (.cells (C2 x y) 34)
  rcases h with ⟨h1, h2⟩ | h1
  · have e1 : (300 : Int) < (xs.length : Int) := by omega
    have e2 : (xs.length : Int) ≤ 4096 := by omega
    clear hS
    go_enter Try.func5, Try.ntmps5
    go_wp2
    go_ret
    exact ⟨rfl, hB⟩
  · have e1 : (300 : Int) < (xs.length : Int) := by omega
    have e2 : decide ((xs.length : Int) ≤ 4096) = false := decide_eq_false (by omega)
    have e3 : (5000 : Int) < (xs.length : Int) := by omega
    clear hS
    go_enter Try.func5, Try.ntmps5
    go_wp2
    go_ret
    exact ⟨rfl, hB⟩

theorem calAsks_walk (x y a long : Int) (w : World) {xs : List Slt} {v : Value} (hS : Ss w v xs) :
    Calls Try.prog 5 #[v, S2 x y, I a, I long] w fun e W' => e = .returned (.bool true) ∧ Below w.heap.size w W' := by
  by_cases h : (300 < xs.length ∧ xs.length ≤ 4096) ∨ 5000 < xs.length
  · exact calAsks_out w hS h
  · by_cases h0 : xs.length ≤ 300
    · exact calAsks_in w hS (by omega) (g0 := false) (decide_eq_false (by omega)) rfl (.inl rfl)
    · exact calAsks_in w hS (by omega) (g0 := true) (g1 := false) (decide_eq_true (by omega)) (decide_eq_false (by omega)) (.inr ⟨rfl, rfl⟩)

end Go.Proofs.Ytikjgfjahjlbaaa
