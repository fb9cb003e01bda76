/-
  The small functions of turn and of the document's answer: what each gives, for every input.
-/
import Derived.Test.YtanhhlekbdhfmaaDoorWantsOwn
import Derived.Test.YtanhhlekbdhfmaaDoorPosCheck
import Derived.Test.YtanhhlekbdhfmaaDoorRefPos
namespace Go.Proofs.YtanhhlekbdhfmaaDoor
open Go Go.RowKit Go.Shelf

theorem ix0 (x y z : Int) (w : World) : (Instr.index 26 (A3 x y z) (.int .i64 0)).run Tryd.prog w = .ok (.int .i64 x) w := by kernel_rfl
theorem ix1 (x y z : Int) (w : World) : (Instr.index 26 (A3 x y z) (.int .i64 1)).run Tryd.prog w = .ok (.int .i64 y) w := by kernel_rfl
theorem ix2 (x y z : Int) (w : World) : (Instr.index 26 (A3 x y z) (.int .i64 2)).run Tryd.prog w = .ok (.int .i64 z) w := by kernel_rfl

attribute [local go_sem] Oper.semAt_some ext_const eq_ints_at eq_bools_at eq_wants ix0 ix1 ix2

theorem mayT_D {x y z : Int} {p q r t : Bool} : mayT (x, y, z, p, q, r, t) ↔ mayD x y z := by
  simp only [mayT, mayD, okD]
  omega

set_option maxRecDepth 100000 in
set_option maxHeartbeats 1000000 in
theorem tcheck_yes {x y z : Int} {p q r t : Bool} (w : World) (h : mayD x y z) : Calls Tryd.prog 11 #[V7 x y z p q r t] w fun e W' => e = .returned (I 0) ∧ Below w.heap.size w W' := by
  have hc := fun w => check_yes w h
  clear h
  have hB : Below w.heap.size w (w.alloc (.cells (cells7 x y z p q r t) 29)) := (Below.refl _ w).alloc (Nat.le_refl _) _
  go_enter Tryd.func11, Tryd.ntmps11
  go_wp2_with fail
  refine (hc _).mono ?_
  rintro e w1 ⟨rfl, hT⟩
  go_wp2_with fail
  go_ret
  exact ⟨rfl, then_below hB hT⟩
set_option maxRecDepth 100000 in
set_option maxHeartbeats 1000000 in
theorem tcheck_no {x y z : Int} {p q r t : Bool} (w : World) (h : ¬ mayD x y z) : Calls Tryd.prog 11 #[V7 x y z p q r t] w fun e W' => e = .returned (I 8) ∧ Below w.heap.size w W' := by
  have hc := fun w => check_no w h
  clear h
  have hB : Below w.heap.size w (w.alloc (.cells (cells7 x y z p q r t) 29)) := (Below.refl _ w).alloc (Nat.le_refl _) _
  go_enter Tryd.func11, Tryd.ntmps11
  go_wp2_with fail
  refine (hc _).mono ?_
  rintro e w1 ⟨rfl, hT⟩
  go_wp2_with fail
  go_ret
  exact ⟨rfl, then_below hB hT⟩

set_option maxRecDepth 100000 in
set_option maxHeartbeats 1000000 in
theorem tfits_calls (a b c x y z : Int) (p q r t : Bool) (w : World) :
    Calls Tryd.prog 23 #[A3 a b c, V7 x y z p q r t] w fun e W' => e = .returned (.bool (withinT (a, b, c) (x, y, z, p, q, r, t))) ∧ Below w.heap.size w W' := by
  have HW : Hid (withinT (a, b, c) (x, y, z, p, q, r, t) = true ↔ x ≤ a ∧ y ≤ b ∧ z ≤ c) := by
    show _ ↔ _
    simp only [withinT, Bool.and_eq_true, decide_eq_true_eq, and_assoc]
  generalize withinT (a, b, c) (x, y, z, p, q, r, t) = ans at HW ⊢
  have no : ∀ {P : Prop}, (ans = true → P) → ¬ P → ans = false := fun h k => by cases ans; rfl; exact absurd (h rfl) k
  go_enter Tryd.func23, Tryd.ntmps23
  go_wp2
  go_loop [9] (fun i => i = .int .i64 0 ∨ (i = .int .i64 1 ∧ x ≤ a) ∨ (i = .int .i64 2 ∧ x ≤ a ∧ y ≤ b) ∨ (i = .int .i64 3 ∧ x ≤ a ∧ y ≤ b ∧ z ≤ c)) (fun i => 3 - (intOf i).toNat)
  case atStart => exact .inl rfl
  case round =>
    have hB : Below w.heap.size w ((w.alloc (.cells #[I a, I b, I c] 33)).alloc (.cells (cells7 x y z p q r t) 29)) := ((Below.refl _ w).alloc (Nat.le_refl _) _).alloc (by simp) _
    rcases hrel with rfl | ⟨rfl, h0⟩ | ⟨rfl, h0, h1⟩ | ⟨rfl, hm⟩
    · by_cases hl : x ≤ a
      · go_wp2
        go_round
        case rel => exact .inr (.inl ⟨rfl, hl⟩)
        case measure => simp [intOf]
      · obtain rfl : ans = false := no HW.out.1 (by omega)
        go_wp2
        go_ret
        exact ⟨rfl, hB⟩
    · by_cases hl : y ≤ b
      · go_wp2
        go_round
        case rel => exact .inr (.inr (.inl ⟨rfl, h0, hl⟩))
        case measure => simp [intOf]
      · obtain rfl : ans = false := no HW.out.1 (by omega)
        go_wp2
        go_ret
        exact ⟨rfl, hB⟩
    · by_cases hl : z ≤ c
      · go_wp2
        go_round
        case rel => exact .inr (.inr (.inr ⟨rfl, h0, h1, hl⟩))
        case measure => simp [intOf]
      · obtain rfl : ans = false := no HW.out.1 (by omega)
        go_wp2
        go_ret
        exact ⟨rfl, hB⟩
    · obtain rfl : ans = true := HW.out.2 hm
      go_wp2
      go_ret
      exact ⟨rfl, hB⟩

theorem rwithin_calls (a b c x y z : Int) (p q r t : Bool) (w : World) :
    Calls Tryd.prog 27 #[A3 a b c, A3 x y z] w fun e W' => e = .returned (.bool (withinT (a, b, c) (x, y, z, p, q, r, t))) ∧ Below w.heap.size w W' := by
  have hB : Below w.heap.size w ((w.alloc (.cells #[I a, I b, I c] 33)).alloc (.cells #[I x, I y, I z] 26)) := ((Below.refl _ w).alloc (Nat.le_refl _) _).alloc (by simp) _
  have e : withinT (a, b, c) (x, y, z, p, q, r, t) = (decide (x ≤ a) && decide (y ≤ b) && decide (z ≤ c)) := rfl
  rw [e]
  by_cases h0 : x ≤ a <;> by_cases h1 : y ≤ b <;> by_cases h2 : z ≤ c <;>
  · simp only [h0, h1, h2, decide_true, decide_false, Bool.and_true, Bool.and_false, Bool.and_self]
    go_enter Tryd.func27, Tryd.ntmps27
    go_wp2
    go_ret
    exact ⟨rfl, hB⟩

end Go.Proofs.YtanhhlekbdhfmaaDoor
