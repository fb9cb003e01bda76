/-
  time.bring, time.moment, time.Plus, time.Check, time.Long, time.From, time.common: what each call answers.
-/
import Derived.Test.YtikjgfjahjlbaaaTimeMath
import Derived.Test.YtikjgfjahjlbaaaDraw
import Derived.Test.YtikjgfjahjlbaaaProg
namespace Go.Proofs.Ytikjgfjahjlbaaa
open Go.RowKit Go.Shelf

attribute [local go_sem] Oper.semAt_some ext_const

/-- A span's value. -/
abbrev S2 (f t : Int) : Value := .agg #[.int .i64 f, .int .i64 t]
abbrev C2 (f t : Int) : Array Value := #[I f, I t]
/-- The error of a span. -/
def errS (f t : Int) : Int := if maySpB f t then 0 else 2
theorem errS_ok {f t : Int} (h : maySp f t) : errS f t = 0 := by rw [errS, if_pos ((maySpB_iff f t).2 h)]
theorem errS_no {f t : Int} (h : ¬ maySp f t) : errS f t = 2 := by rw [errS, if_neg (by rw [maySpB_iff]; exact h)]
/-- A number brought within two. -/
def brX (n lo hi : Int) : Int := if n < lo then lo else if hi < n then hi else n
theorem brX_brT (n : Int) : brX n 0 1099511627776 = brT n := rfl
theorem Blk.pair {W W' : World} {B : Nat} {t : TypeId} {a b : Int} (h : Blk W B t #[I a, I b]) (hb : Below W.heap.size W W') :
    W'.cell? ⟨B, 0, none⟩ = some (I a) ∧ W'.cell? ⟨B, 1, none⟩ = some (I b) ∧ B < W'.heap.size :=
  ⟨(h.later hb).cell 0, (h.later hb).cell 1, (h.later hb).lt⟩

theorem bring_calls (n lo hi : Int) (w : World) : Calls Try.prog 55 #[I n, I lo, I hi] w fun e W' => e = .returned (I (brX n lo hi)) ∧ W' = w := by
  by_cases h1 : n < lo
  · rw [show brX n lo hi = lo by rw [brX, if_pos h1]]
    go_enter Try.func55, Try.ntmps55
    go_wp2
    go_ret
    exact ⟨rfl, rfl⟩
  · by_cases h2 : hi < n
    · rw [show brX n lo hi = hi by rw [brX, if_neg h1, if_pos h2]]
      have h1 : decide (n < lo) = false := decide_eq_false h1
      go_enter Try.func55, Try.ntmps55
      go_wp2
      go_ret
      exact ⟨rfl, rfl⟩
    · rw [show brX n lo hi = n by rw [brX, if_neg h1, if_neg h2]]
      have h1 : decide (n < lo) = false := decide_eq_false h1
      have h2 : decide (hi < n) = false := decide_eq_false h2
      go_enter Try.func55, Try.ntmps55
      go_wp2
      go_ret
      exact ⟨rfl, rfl⟩

theorem moment_calls (n : Int) (w : World) : Calls Try.prog 51 #[I n] w fun e W' => e = .returned (I (brT n)) ∧ W' = w := by
  rw [← brX_brT]
  have H : Hid (∀ w, Calls Try.prog 55 #[I n, I 0, I 1099511627776] w fun e W' => e = .returned (I (brX n 0 1099511627776)) ∧ W' = w) := fun w => bring_calls n 0 _ w
  generalize brX n 0 1099511627776 = r at *
  go_enter Try.func51, Try.ntmps51
  go_wp2_with fail
  refine (H.out _).mono ?_
  rintro e w1 ⟨rfl, rfl⟩
  go_wp2
  go_ret
  exact ⟨rfl, rfl⟩

theorem plus_calls (a b : Int) (w : World) : Calls Try.prog 45 #[I a, I b] w fun e W' => e = .returned (I (plusT a b)) ∧ W' = w := by
  have HA : Hid (∀ w, Calls Try.prog 51 #[I a] w fun e W' => e = .returned (I (brT a)) ∧ W' = w) := moment_calls a
  have HB : Hid (∀ w, Calls Try.prog 51 #[I b] w fun e W' => e = .returned (I (brT b)) ∧ W' = w) := moment_calls b
  have HC : Hid (∀ w, Calls Try.prog 51 #[I (brT a + brT b)] w fun e W' => e = .returned (I (plusT a b)) ∧ W' = w) := moment_calls _
  have hw : wrap64 (brT a + brT b) = brT a + brT b := wrap_in _ (by have := brT_bd a; have := brT_bd b; omega)
  have hw : Hid (wrap64 (brT a + brT b) = brT a + brT b) := hw
  generalize plusT a b = r at *
  generalize brT a = x at *
  generalize brT b = y at *
  go_enter Try.func45, Try.ntmps45
  go_wp2_with fail
  refine (HA.out _).mono ?_
  rintro e w1 ⟨rfl, rfl⟩
  go_wp2_with fail
  refine (HB.out _).mono ?_
  rintro e w2 ⟨rfl, rfl⟩
  go_wp2_with fail
  first | rw [hw.out] | skip
  refine (HC.out _).mono ?_
  rintro e w3 ⟨rfl, rfl⟩
  go_wp2
  go_ret
  exact ⟨rfl, rfl⟩

theorem tcheck_calls (f t : Int) (w : World) : Calls Try.prog 42 #[S2 f t] w fun e W' => e = .returned (I (errS f t)) ∧ Below w.heap.size w W' := by
  have hB : Below w.heap.size w (w.alloc (.cells (C2 f t) 34)) := (Below.refl _ w).alloc (Nat.le_refl _) _
  by_cases h1 : f < 0
  · rw [errS_no (fun h => by have := h.1; omega)]
    go_enter Try.func42, Try.ntmps42
    go_wp2
    go_ret
    exact ⟨rfl, hB⟩
  · by_cases h2 : 1099511627776 < t
    · rw [errS_no (fun h => by have := h.2.2; omega)]
      have h1 : decide (f < 0) = false := decide_eq_false h1
      go_enter Try.func42, Try.ntmps42
      go_wp2
      go_ret
      exact ⟨rfl, hB⟩
    · by_cases h3 : t ≤ f
      · rw [errS_no (fun h => by have := h.2.1; omega)]
        have h1 : decide (f < 0) = false := decide_eq_false h1
        have h2 : decide (1099511627776 < t) = false := decide_eq_false h2
        go_enter Try.func42, Try.ntmps42
        go_wp2
        go_ret
        exact ⟨rfl, hB⟩
      · rw [errS_ok ⟨by omega, by omega, by omega⟩]
        have h1 : decide (f < 0) = false := decide_eq_false h1
        have h2 : decide (1099511627776 < t) = false := decide_eq_false h2
        have h3 : decide (t ≤ f) = false := decide_eq_false h3
        go_enter Try.func42, Try.ntmps42
        go_wp2
        go_ret
        exact ⟨rfl, hB⟩

end Go.Proofs.Ytikjgfjahjlbaaa
