/-
  The closures that cal hands to keep: of Take, of Cut, of Put.
-/
import Derived.Test.YtikjgfjahjlbaaaCalCheck
namespace Go.Proofs.Ytikjgfjahjlbaaa
open Go Go.RowKit Go.Shelf

attribute [local go_sem] Oper.semAt_some ext_const

theorem Blk.drew3 {W : World} {B : Nat} {t : TypeId} {f x o : Int} (h : Blk W B t (C3 f x o)) : W.drew.cell? ⟨B, 0, none⟩ = some (.int .i64 f) ∧ W.drew.cell? ⟨B, 1, none⟩ = some (.int .i64 x) ∧ W.drew.cell? ⟨B, 2, none⟩ = some (.int .i64 o) := ⟨h.drew.cell 0, h.drew.cell 1, h.drew.cell 2⟩

theorem takec_calls {w : World} {A : Nat} {f t o ow : Int} {r : Bool} (hr : (o != ow) = r) (ha : w.cell? ⟨A, 0, none⟩ = some (.int .i64 ow)) (hA : A < w.heap.size) : Calls Try.prog 31 #[V3 f t o, .pointer (some ⟨A, 0, none⟩)] w fun e W' => e = .returned (.tuple #[V3 f t o, .bool r]) ∧ Below w.heap.size w W' := by
  obtain ⟨W, hW, hB0, b0, b1⟩ := two_start w (C3 f t o) (C3 f t o) 36 36
  have HW : Hid ((w.alloc (.cells (C3 f t o) 36)).alloc (.cells (C3 f t o) 36) = W) := hW
  clear hW
  obtain ⟨j0, j1, j2⟩ := b1.drew3
  cases r
  all_goals
    go_enter Try.func31, Try.ntmps31
    go_wp2
    go_region
    rw [HW.out]
    go_wp2
    exact bodyPost_ret (v := .tuple #[V3 f t o, .bool _]) (by simp [results, Try.f31, go_sem, j0, j1, j2]) rfl ⟨rfl, hB0.drew⟩

theorem putc_calls {w : World} {A : Nat} {f t o x y p : Int} {r : Bool} (hr : decide (t ≤ x) = r) (ha : Blk w A 36 (C3 x y p)) : Calls Try.prog 34 #[V3 f t o, .pointer (some ⟨A, 0, none⟩)] w fun e W' => e = .returned (.tuple #[V3 f t o, .bool r]) ∧ Below w.heap.size w W' := by
  obtain ⟨W, hW, hB0, b0, b1⟩ := two_start w (C3 f t o) (C3 f t o) 36 36
  have HW : Hid ((w.alloc (.cells (C3 f t o) 36)).alloc (.cells (C3 f t o) 36) = W) := hW
  clear hW
  obtain ⟨j0, j1, j2⟩ := b1.drew3
  have hA := ha.lt
  have ha0 : w.cell? ⟨A, 0, none⟩ = some (.int .i64 x) := ha.cell 0
  clear ha
  cases r
  all_goals
    go_enter Try.func34, Try.ntmps34
    go_wp2
    go_region
    rw [HW.out]
    go_wp2
    exact bodyPost_ret (v := .tuple #[V3 f t o, .bool _]) (by simp [results, Try.f34, go_sem, j0, j1, j2]) rfl ⟨rfl, hB0.drew⟩

/-- Where a slot ends, cut for its owner. -/
def endS (ow to t o : Int) : Int := if o = ow then (if t ≤ to then t else to) else t

theorem cutc_calls {w : World} {A B : Nat} {f t o ow to : Int} {r : Bool} (hr : decide (f < endS ow to t o) = r) (ha : w.cell? ⟨A, 0, none⟩ = some (.int .i64 ow)) (hA : A < w.heap.size) (hb : w.cell? ⟨B, 0, none⟩ = some (.int .i64 to)) (hB : B < w.heap.size) : Calls Try.prog 30 #[V3 f t o, .pointer (some ⟨A, 0, none⟩), .pointer (some ⟨B, 0, none⟩)] w fun e W' => e = .returned (.tuple #[V3 f (endS ow to t o) o, .bool r]) ∧ Below w.heap.size w W' := by
  by_cases ho : o = ow
  · by_cases ht : t ≤ to
    · rw [endS, if_pos ho, if_pos ht] at *
      obtain ⟨W, hW, hB0, b0, b1⟩ := two_start w (C3 f t o) (C3 f t o) 36 36
      have HW : Hid ((w.alloc (.cells (C3 f t o) 36)).alloc (.cells (C3 f t o) 36) = W) := hW
      clear hW
      obtain ⟨j0, j1, j2⟩ := b1.drew3
      subst ho
      cases r
      all_goals
        go_enter Try.func30, Try.ntmps30
        go_wp2
        all_goals (try (exfalso; omega))
        go_region
        rw [HW.out]
        go_wp2
        exact bodyPost_ret (v := .tuple #[V3 f t o, .bool _]) (by simp [results, Try.f30, go_sem, j0, j1, j2]) rfl ⟨rfl, hB0.drew⟩
    · rw [endS, if_pos ho, if_neg ht] at *
      obtain ⟨W, hW, hB0, b0, b1⟩ := two_start w (C3 f to o) (C3 f to o) 36 36
      have HW : Hid ((w.alloc (.cells (C3 f to o) 36)).alloc (.cells (C3 f to o) 36) = W) := hW
      clear hW
      obtain ⟨j0, j1, j2⟩ := b1.drew3
      subst ho
      cases r
      all_goals
        go_enter Try.func30, Try.ntmps30
        go_wp2
        all_goals (try (exfalso; omega))
        go_region
        rw [HW.out]
        go_wp2
        exact bodyPost_ret (v := .tuple #[V3 f to o, .bool _]) (by simp [results, Try.f30, go_sem, j0, j1, j2]) rfl ⟨rfl, hB0.drew⟩
  · rw [endS, if_neg ho] at *
    obtain ⟨W, hW, hB0, b0, b1⟩ := two_start w (C3 f t o) (C3 f t o) 36 36
    have HW : Hid ((w.alloc (.cells (C3 f t o) 36)).alloc (.cells (C3 f t o) 36) = W) := hW
    clear hW
    obtain ⟨j0, j1, j2⟩ := b1.drew3
    have ho : (o == ow) = false := by simpa using ho
    cases r
    all_goals
      go_enter Try.func30, Try.ntmps30
      go_wp2
      go_region
      rw [HW.out]
      go_wp2
      exact bodyPost_ret (v := .tuple #[V3 f t o, .bool _]) (by simp [results, Try.f30, go_sem, j0, j1, j2]) rfl ⟨rfl, hB0.drew⟩

end Go.Proofs.Ytikjgfjahjlbaaa
