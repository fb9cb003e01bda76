/-
  wire.Run: the cables that a run takes, rising, in new memory; for every input.
-/
import Derived.Test.YtbbddolalglmnaaWireRun
namespace Go.Proofs.Ytbbddolalglmnaa
open Go Go.RowKit Go.Shelf

attribute [local go_sem] Oper.semAt_some ext_const

set_option maxHeartbeats 1000000 in
theorem wrun_no {d0 d1 d2 axis m long : Int} (torus : Bool) (w : World) (hm : mayD d0 d1 d2) (hn : 0 ≤ m ∧ m < d0 * d1 * d2) {k : Fin 3} (hk : axis = axI k) (hl : ¬ (1 ≤ long ∧ long ≤ dimAt d0 d1 d2 k)) :
    Calls Try.prog 11 #[A3 d0 d1 d2, I axis, I m, I long, .bool torus] w fun x W' => x = .returned (.tuple #[.slice none 0 0, I 2]) ∧ Below w.heap.size w W' := by
  subst hk
  have HC : Hid (∀ w, Calls Try.prog 24 #[A3 d0 d1 d2, I (axI k), I m] w fun x W' => x = .returned (I 0) ∧ Below w.heap.size w W') := fun w => checkl_yes w hm hn rfl
  clear hn
  by_cases h1 : long < 1
  · clear hl
    go_enter Try.func11, Try.ntmps11
    go_wp2_with fail
    refine (HC.out _).mono ?_
    rintro x w1 ⟨rfl, hB⟩
    have hB1 := then_below ((Below.refl _ w).alloc (Nat.le_refl _) (.cells #[I d0, I d1, I d2] 26)) hB
    go_wp2
    go_ret2
    exact ⟨rfl, hB1⟩
  · have h2 : dimAt d0 d1 d2 k < long := by omega
    clear hl
    rcases fin3 k with rfl | rfl | rfl
    all_goals
      simp only [axI, dimAt] at *
      go_enter Try.func11, Try.ntmps11
      go_wp2_with fail
      refine (HC.out _).mono ?_
      rintro x w1 ⟨rfl, hB⟩
      have hB1 := then_below ((Below.refl _ w).alloc (Nat.le_refl _) (.cells #[I d0, I d1, I d2] 26)) hB
      have g0 := (Blk.new w 26 #[I d0, I d1, I d2]).later hB
      have c0 := g0.cell 0
      have c1 := g0.cell 1
      have c2 := g0.cell 2
      simp at c0 c1 c2
      go_wp2
      go_ret2
      exact ⟨rfl, hB1⟩

/-- From how many midplanes on the cables that a run takes go. -/
def mostW (dim long : Int) (torus : Bool) : Int := if torus = true ∧ 1 < long then dim else long - 1

set_option maxRecDepth 100000 in
set_option maxHeartbeats 4000000 in
theorem wrun_yes {d0 d1 d2 axis m long : Int} (torus : Bool) (w : World) (hm : mayD d0 d1 d2) (hn : 0 ≤ m ∧ m < d0 * d1 * d2) {k : Fin 3} (hk : axis = axI k) (hl : 1 ≤ long ∧ long ≤ dimAt d0 d1 d2 k) :
    Calls Try.prog 11 #[A3 d0 d1 d2, I axis, I m, I long, .bool torus] w fun e W' => ∃ v, e = .returned (.tuple #[v, I 0]) ∧ Lst W' w.heap.size v (cablesW d0 d1 d2 m k (mostW (dimAt d0 d1 d2 k) long torus).toNat) ∧ Below w.heap.size w W' := by
  subst hk
  have hok := dimAt_ok hm k
  unfold okD at hok
  have HC : Hid (∀ w, Calls Try.prog 24 #[A3 d0 d1 d2, I (axI k), I m] w fun x W' => x = .returned (I 0) ∧ Below w.heap.size w W') := fun w => checkl_yes w hm hn rfl
  have HL : Hid (∀ w, Calls Try.prog 28 #[A3 d0 d1 d2, I (axI k), I m] w fun e w' => ∃ v, e = .returned v ∧ Below w.heap.size w w' ∧ IsLine d0 d1 d2 (axI k) m v w') := fun w => line_is d0 d1 d2 (axI k) m w
  have hmb : 0 ≤ mostW (dimAt d0 d1 d2 k) long torus ∧ mostW (dimAt d0 d1 d2 k) long torus ≤ dimAt d0 d1 d2 k := by unfold mostW; split <;> omega
  have HR : Hid (∀ v w, IsLine d0 d1 d2 (axI k) m v w → Calls Try.prog 27 #[v, I (mostW (dimAt d0 d1 d2 k) long torus)] w fun e W' => ∃ u, e = .returned u ∧ Lst W' w.heap.size u (cablesW d0 d1 d2 m k (mostW (dimAt d0 d1 d2 k) long torus).toNat) ∧ Below w.heap.size w W') := fun v w hv => rising_is hm hn k hmb w hv
  have hcase : (torus = true ∧ 1 < long ∧ mostW (dimAt d0 d1 d2 k) long torus = dimAt d0 d1 d2 k) ∨ (torus = true ∧ long = 1 ∧ mostW (dimAt d0 d1 d2 k) long torus = 0) ∨ (torus = false ∧ mostW (dimAt d0 d1 d2 k) long torus = long - 1) := by
    unfold mostW
    cases torus
    · exact .inr (.inr ⟨rfl, by simp⟩)
    · by_cases h : 1 < long
      · exact .inl ⟨rfl, h, by simp [h]⟩
      · exact .inr (.inl ⟨rfl, by omega, by simp [h]; omega⟩)
  generalize mostW (dimAt d0 d1 d2 k) long torus = z at *
  generalize cablesW d0 d1 d2 m k z.toNat = X at *
  clear hn hmb
  obtain ⟨hl1, hl2⟩ := hl
  rcases hcase with ⟨rfl, h1, rfl⟩ | ⟨rfl, rfl, rfl⟩ | ⟨rfl, rfl⟩
  all_goals rcases fin3 k with rfl | rfl | rfl
  all_goals
    simp only [axI, dimAt] at *
    go_enter Try.func11, Try.ntmps11
    go_wp2_with fail
    refine (HC.out _).mono ?_
    rintro x w1 ⟨rfl, hB⟩
    have hB1 := then_below ((Below.refl _ w).alloc (Nat.le_refl _) (.cells #[I d0, I d1, I d2] 26)) hB
    have g0 := (Blk.new w 26 #[I d0, I d1, I d2]).later hB
    have c0 := g0.cell 0
    have c1 := g0.cell 1
    have c2 := g0.cell 2
    simp at c0 c1 c2
    go_wp2_with fail
    refine (HL.out _).mono ?_
    rintro x w2 ⟨v, rfl, hB2, hv⟩
    go_wp2_with fail
    refine (HR.out _ _ hv).mono ?_
    rintro x w3 ⟨u, rfl, hX, hB3⟩
    go_wp2
    go_ret2
    exact ⟨_, rfl, hX.weak (then_below hB1 hB2).size, then_below (then_below hB1 hB2) hB3⟩

end Go.Proofs.Ytbbddolalglmnaa
