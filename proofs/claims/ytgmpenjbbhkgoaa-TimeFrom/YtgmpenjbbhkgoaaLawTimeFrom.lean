/-
  tidehalllaw07.TimeFrom returns true, whatever it is handed; nothing that lay before is turned.
-/
import Derived.Test.YtgmpenjbbhkgoaaLawTime
namespace Go.Proofs.Ytgmpenjbbhkgoaa
open Go.RowKit Go.Shelf

attribute [local go_sem] Oper.semAt_some ext_const

/-- What a span from a moment on is. -/
theorem from_facts {m n : Int} (h : 0 ≤ m ∧ m < 1099511627776 ∧ 1 ≤ n) : maySp m (plusT m n) ∧ plusT m n - m ≤ n ∧ (plusT m n - m < n → plusT m n = 1099511627776) := by
  have h1 : brT m = m := brT_in (by omega)
  unfold plusT maySp
  rw [h1]
  have h2 := brT_bd n
  have h3 : 1 ≤ brT n ∧ brT n ≤ n := by
    unfold brT; split <;> (try split) <;> omega
  have h4 : brT n = n ∨ brT n = 1099511627776 := by
    unfold brT; split <;> (try split) <;> omega
  generalize brT n = k at *
  have h5 : brT (m + k) = m + k ∧ m + k ≤ 1099511627776 ∨ brT (m + k) = 1099511627776 ∧ 1099511627776 < m + k := by
    unfold brT; split <;> (try split) <;> omega
  generalize brT (m + k) = r at *
  omega

set_option maxRecDepth 100000 in
set_option maxHeartbeats 2000000 in
theorem timeFrom_no {m n : Int} (o : Int) (w : World) (h : ¬ (0 ≤ m ∧ m < 1099511627776 ∧ 1 ≤ n)) : Calls Try.prog 7 #[I m, I n, I o] w fun e W' => e = .returned (.bool true) ∧ Below w.heap.size w W' := by
  have HA : Hid (∀ w, Calls Try.prog 10 #[] w fun e W' => e = .returned (.bool true) ∧ Below w.heap.size w W') := aliveT_calls
  have HF : Hid (∀ w, Calls Try.prog 8 #[I m, I n] w fun e W' => e = .returned (.tuple #[S2 0 0, I 2]) ∧ Below w.heap.size w W') := fun w => tfrom_no w h
  have k : (m < 0) ∨ (decide (m < 0) = false ∧ 1099511627776 ≤ m) ∨ (decide (m < 0) = false ∧ decide (1099511627776 ≤ m) = false ∧ n < 1) := by
    by_cases h1 : m < 0
    · exact .inl h1
    · by_cases h2 : 1099511627776 ≤ m
      · exact .inr (.inl ⟨decide_eq_false h1, h2⟩)
      · exact .inr (.inr ⟨decide_eq_false h1, decide_eq_false h2, by omega⟩)
  clear h
  rcases k with k1 | ⟨k1, k2⟩ | ⟨k1, k2, k3⟩
  all_goals
    go_enter Try.func7, Try.ntmps7
    go_wp2_with fail
    refine (HA.out _).mono ?_
    rintro e w1 ⟨rfl, hT⟩
    go_wp2_with fail
    refine (HF.out _).mono ?_
    rintro e w2 ⟨rfl, hB2⟩
    have hT := then_below hT hB2
    go_wp2
    go_ret
    exact ⟨rfl, then_alloc hT _⟩

set_option maxRecDepth 100000 in
set_option maxHeartbeats 4000000 in
theorem timeFrom_yes {m n : Int} (o : Int) (w : World) (h : 0 ≤ m ∧ m < 1099511627776 ∧ 1 ≤ n) : Calls Try.prog 7 #[I m, I n, I o] w fun e W' => e = .returned (.bool true) ∧ Below w.heap.size w W' := by
  have HA : Hid (∀ w, Calls Try.prog 10 #[] w fun e W' => e = .returned (.bool true) ∧ Below w.heap.size w W') := aliveT_calls
  have HF : Hid (∀ w, Calls Try.prog 8 #[I m, I n] w fun e W' => e = .returned (.tuple #[S2 m (plusT m n), I 0]) ∧ Below w.heap.size w W') := fun w => tfrom_yes w h
  obtain ⟨hs, hl, he⟩ := from_facts h
  generalize plusT m n = r at *
  have HL : Hid (∀ w, Calls Try.prog 14 #[S2 m r] w fun e W' => e = .returned (.tuple #[I (r - m), I 0]) ∧ Below w.heap.size w W') := fun w => tlong_yes w hs
  have HC : Hid (∀ w, Calls Try.prog 12 #[S2 m r] w fun e W' => e = .returned (I 0) ∧ Below w.heap.size w W') := fun w => by rw [← errS_ok hs]; exact tcheck_calls m r w
  have dl : decide (n < r - m) = false := decide_eq_false (by omega)
  have de : (decide (r - m < n) = false) ∨ (r - m < n ∧ (r != 1099511627776) = false) := by
    by_cases hx : r - m < n
    · exact .inr ⟨hx, by simp [he hx]⟩
    · exact .inl (decide_eq_false hx)
  have hsum : (0 ≤ r ∧ r < 1099511627776 ∧ 1 ≤ o) ∨ (¬ (0 ≤ r ∧ r < 1099511627776 ∧ 1 ≤ o) ∧ ((r == 1099511627776) = true ∨ ((r == 1099511627776) = false ∧ o < 1))) := by
    have := hs.1
    have := hs.2.1
    have := hs.2.2
    by_cases hx : r = 1099511627776
    · exact .inr ⟨by omega, .inl (by simp [hx])⟩
    · by_cases hy : 1 ≤ o
      · exact .inl ⟨by omega, by omega, hy⟩
      · exact .inr ⟨by omega, .inr ⟨by simpa using hx, by omega⟩⟩
  rcases hsum with hg | ⟨hg, hg'⟩
  · have HG : Hid (∀ w, Calls Try.prog 8 #[I r, I o] w fun e W' => e = .returned (.tuple #[S2 r (plusT r o), I 0]) ∧ Below w.heap.size w W') := fun w => tfrom_yes w hg
    obtain ⟨hs', hl', he'⟩ := from_facts hg
    generalize plusT r o = q at *
    have hm : meetsT m r r q = false := (meetsT_no hs.2.1 hs'.2.1).2 (.inr (Int.le_refl r))
    have HM : Hid (∀ w, Calls Try.prog 16 #[S2 m r, S2 r q] w fun e W' => e = .returned (.tuple #[.bool false, I 0]) ∧ Below w.heap.size w W') := fun w => by rw [← hm]; exact tmeet_yes w hs hs'
    clear h hs hl he hs' hl' he' hm hg
    generalize r - m = len at *
    rcases de with de | ⟨de, de'⟩
    all_goals
      go_enter Try.func7, Try.ntmps7
      go_wp2_with fail
      refine (HA.out _).mono ?_
      rintro e w1 ⟨rfl, hT⟩
      go_wp2_with fail
      refine (HF.out _).mono ?_
      rintro e w2 ⟨rfl, hB2⟩
      have hT := then_below hT hB2
      go_wp2_with fail
      have hT := then_alloc hT (.cells (C2 m r) 23)
      have b2 := Blk.new w2 23 (C2 m r)
      generalize w2.alloc (.cells (C2 m r) 23) = W2 at *
      refine (HL.out _).mono ?_
      rintro e w3 ⟨rfl, hB3⟩
      have hT := then_below hT hB3
      have b2 := b2.later hB3
      obtain ⟨c0, c1, hz⟩ := b2.pair (Below.refl _ _)
      go_wp2_with fail
      refine (HC.out _).mono ?_
      rintro e w4 ⟨rfl, hB4⟩
      have hT := then_below hT hB4
      have b2 := b2.later hB4
      clear c0 c1 hz
      obtain ⟨c0, c1, hz⟩ := b2.pair (Below.refl _ _)
      go_wp2_with fail
      refine (HG.out _).mono ?_
      rintro e w5 ⟨rfl, hB5⟩
      have hT := then_below hT hB5
      have b2 := b2.later hB5
      clear c0 c1 hz
      obtain ⟨c0, c1, hz⟩ := b2.pair (Below.refl _ _)
      go_wp2_with fail
      refine (HM.out _).mono ?_
      rintro e w6 ⟨rfl, hB6⟩
      go_wp2
      go_ret
      exact ⟨rfl, then_below (then_alloc hT _) hB6⟩
  · have HG : Hid (∀ w, Calls Try.prog 8 #[I r, I o] w fun e W' => e = .returned (.tuple #[S2 0 0, I 2]) ∧ Below w.heap.size w W') := fun w => tfrom_no w hg
    clear h hs hl he hg
    generalize r - m = len at *
    rcases de with de | ⟨de, de'⟩ <;> rcases hg' with hg' | ⟨hg', ho⟩
    all_goals
      go_enter Try.func7, Try.ntmps7
      go_wp2_with fail
      refine (HA.out _).mono ?_
      rintro e w1 ⟨rfl, hT⟩
      go_wp2_with fail
      refine (HF.out _).mono ?_
      rintro e w2 ⟨rfl, hB2⟩
      have hT := then_below hT hB2
      go_wp2_with fail
      have hT := then_alloc hT (.cells (C2 m r) 23)
      have b2 := Blk.new w2 23 (C2 m r)
      generalize w2.alloc (.cells (C2 m r) 23) = W2 at *
      refine (HL.out _).mono ?_
      rintro e w3 ⟨rfl, hB3⟩
      have hT := then_below hT hB3
      have b2 := b2.later hB3
      obtain ⟨c0, c1, hz⟩ := b2.pair (Below.refl _ _)
      go_wp2_with fail
      refine (HC.out _).mono ?_
      rintro e w4 ⟨rfl, hB4⟩
      have hT := then_below hT hB4
      have b2 := b2.later hB4
      clear c0 c1 hz
      obtain ⟨c0, c1, hz⟩ := b2.pair (Below.refl _ _)
      go_wp2_with fail
      refine (HG.out _).mono ?_
      rintro e w5 ⟨rfl, hB5⟩
      have hT := then_below hT hB5
      have b2 := b2.later hB5
      clear c0 c1 hz
      obtain ⟨c0, c1, hz⟩ := b2.pair (Below.refl _ _)
      go_wp2
      go_ret
      exact ⟨rfl, then_alloc hT _⟩

theorem timeFrom_walk (m n o : Int) (w : World) : Calls Try.prog 7 #[I m, I n, I o] w fun e W' => e = .returned (.bool true) ∧ Below w.heap.size w W' := by
  by_cases h : 0 ≤ m ∧ m < 1099511627776 ∧ 1 ≤ n
  · exact timeFrom_yes o w h
  · exact timeFrom_no o w h

end Go.Proofs.Ytgmpenjbbhkgoaa
