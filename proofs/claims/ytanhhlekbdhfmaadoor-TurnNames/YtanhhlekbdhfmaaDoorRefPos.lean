/-
  What the document's own answer for layer 1 (tidehallref01) gives, for every input: dimensions, how many, the midplane at coordinates, the coordinates of one.
-/
import Derived.Test.YtanhhlekbdhfmaaDoorPosMany
import Derived.Test.YtanhhlekbdhfmaaDoorEqArr
namespace Go.Proofs.YtanhhlekbdhfmaaDoor
open Go.RowKit Go.Shelf

attribute [local go_sem] Oper.semAt_some ext_const eq_arr

set_option maxRecDepth 100000 in
set_option maxHeartbeats 1000000 in
theorem rmay_calls (d0 d1 d2 : Int) (w : World) :
    Calls Tryd.prog 26 #[A3 d0 d1 d2] w fun e W' => ((mayD d0 d1 d2 ∧ e = .returned (.bool true)) ∨ (¬ mayD d0 d1 d2 ∧ e = .returned (.bool false))) ∧ Below w.heap.size w W' := by
  go_enter Tryd.func26, Tryd.ntmps26
  go_wp2
  go_loop [3] (fun i => i = .int .i64 0 ∨ (i = .int .i64 1 ∧ okD d0) ∨ (i = .int .i64 2 ∧ okD d0 ∧ okD d1) ∨ (i = .int .i64 3 ∧ mayD d0 d1 d2)) (fun i => 3 - (intOf i).toNat)
  case atStart => exact .inl rfl
  case round =>
    have hB : Below w.heap.size w (w.alloc (.cells #[I d0, I d1, I d2] 33)) := (Below.refl _ w).alloc (Nat.le_refl _) _
    rcases hrel with rfl | ⟨rfl, h0⟩ | ⟨rfl, h0, h1⟩ | ⟨rfl, hm⟩
    · by_cases hl : d0 < 1
      · go_wp2
        go_ret
        exact ⟨.inr ⟨fun h => by have := h.1; unfold okD at this; omega, rfl⟩, hB⟩
      · by_cases hg : 16 < d0
        · go_wp2
          go_ret
          exact ⟨.inr ⟨fun h => by have := h.1; unfold okD at this; omega, rfl⟩, hB⟩
        · go_wp2
          go_round
          case rel => exact .inr (.inl ⟨rfl, by unfold okD; omega⟩)
          case measure => simp [intOf]
    · by_cases hl : d1 < 1
      · go_wp2
        go_ret
        exact ⟨.inr ⟨fun h => by have := h.2.1; unfold okD at this; omega, rfl⟩, hB⟩
      · by_cases hg : 16 < d1
        · go_wp2
          go_ret
          exact ⟨.inr ⟨fun h => by have := h.2.1; unfold okD at this; omega, rfl⟩, hB⟩
        · go_wp2
          go_round
          case rel => exact .inr (.inr (.inl ⟨rfl, h0, by unfold okD; omega⟩))
          case measure => simp [intOf]
    · by_cases hl : d2 < 1
      · go_wp2
        go_ret
        exact ⟨.inr ⟨fun h => by have := h.2.2; unfold okD at this; omega, rfl⟩, hB⟩
      · by_cases hg : 16 < d2
        · go_wp2
          go_ret
          exact ⟨.inr ⟨fun h => by have := h.2.2; unfold okD at this; omega, rfl⟩, hB⟩
        · go_wp2
          go_round
          case rel => exact .inr (.inr (.inr ⟨rfl, h0, h1, by unfold okD; omega⟩))
          case measure => simp [intOf]
    · go_wp2
      go_ret
      exact ⟨rfl, hB⟩

theorem rmay_yes {d0 d1 d2 : Int} (w : World) (h : mayD d0 d1 d2) : Calls Tryd.prog 26 #[A3 d0 d1 d2] w fun e W' => e = .returned (.bool true) ∧ Below w.heap.size w W' := by
  refine (rmay_calls d0 d1 d2 w).mono ?_
  rintro e W' ⟨⟨_, rfl⟩ | ⟨hn, _⟩, hB⟩
  · exact ⟨rfl, hB⟩
  · exact absurd h hn
theorem rmay_no {d0 d1 d2 : Int} (w : World) (h : ¬ mayD d0 d1 d2) : Calls Tryd.prog 26 #[A3 d0 d1 d2] w fun e W' => e = .returned (.bool false) ∧ Below w.heap.size w W' := by
  refine (rmay_calls d0 d1 d2 w).mono ?_
  rintro e W' ⟨⟨hy, _⟩ | ⟨_, rfl⟩, hB⟩
  · exact absurd hy h
  · exact ⟨rfl, hB⟩

end Go.Proofs.YtanhhlekbdhfmaaDoor
