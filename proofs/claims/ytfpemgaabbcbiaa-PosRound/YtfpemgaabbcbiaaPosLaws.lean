/-
  Plain arithmetic: steps on a torus add up, lead round, and do not hang on each other; how far midplanes are apart. No program is named here.
-/
import Derived.Test.YtfpemgaabbcbiaaPosMath
namespace Go.Proofs.Ytfpemgaabbcbiaa
open Go.RowKit

/-- What a step makes of the coordinates. -/
theorem on_coords {d0 d1 d2 m : Int} (h : mayD d0 d1 d2) (hm : 0 ≤ m ∧ m < d0 * d1 * d2) (k : Fin 3) (n : Int) :
    (0 ≤ onD d0 d1 d2 m k n ∧ onD d0 d1 d2 m k n < d0 * d1 * d2) ∧
    cx d0 (onD d0 d1 d2 m k n) = (if k = 0 then (cx d0 m + n) % d0 else cx d0 m) ∧
    cy d0 d1 (onD d0 d1 d2 m k n) = (if k = 1 then (cy d0 d1 m + n) % d1 else cy d0 d1 m) ∧
    cz d0 d1 (onD d0 d1 d2 m k n) = (if k = 2 then (cz d0 d1 m + n) % d2 else cz d0 d1 m) := by
  obtain ⟨i0, i1, i2⟩ := inD_on h hm n
  match k with
  | 0 => exact node_of_in h i0
  | 1 => exact node_of_in h i1
  | 2 => exact node_of_in h i2
theorem on_node {d0 d1 d2 m : Int} (h : mayD d0 d1 d2) (hm : 0 ≤ m ∧ m < d0 * d1 * d2) (k : Fin 3) (n : Int) : 0 ≤ onD d0 d1 d2 m k n ∧ onD d0 d1 d2 m k n < d0 * d1 * d2 := (on_coords h hm k n).1

/-- Midplanes with the same coordinates are one. -/
theorem node_ext {d0 d1 m n : Int} (hx : cx d0 m = cx d0 n) (hy : cy d0 d1 m = cy d0 d1 n) (hz : cz d0 d1 m = cz d0 d1 n) : m = n := by
  rw [← num_of_node (d0 := d0) (d1 := d1) (m := m), hx, hy, hz, num_of_node]

theorem on_on {d0 d1 d2 m : Int} (h : mayD d0 d1 d2) (hm : 0 ≤ m ∧ m < d0 * d1 * d2) (k : Fin 3) (a b : Int) : onD d0 d1 d2 (onD d0 d1 d2 m k a) k b = onD d0 d1 d2 m k (a + b) := by
  obtain ⟨n1, x1, y1, z1⟩ := on_coords h hm k a
  obtain ⟨_, x2, y2, z2⟩ := on_coords h n1 k b
  obtain ⟨_, x3, y3, z3⟩ := on_coords h hm k (a + b)
  refine node_ext (d0 := d0) (d1 := d1) ?_ ?_ ?_
  · rw [x2, x3, x1]; split
    · rw [Int.emod_add_emod, Int.add_assoc]
    · rfl
  · rw [y2, y3, y1]; split
    · rw [Int.emod_add_emod, Int.add_assoc]
    · rfl
  · rw [z2, z3, z1]; split
    · rw [Int.emod_add_emod, Int.add_assoc]
    · rfl
theorem on_comm {d0 d1 d2 m : Int} (h : mayD d0 d1 d2) (hm : 0 ≤ m ∧ m < d0 * d1 * d2) (j k : Fin 3) (a b : Int) : onD d0 d1 d2 (onD d0 d1 d2 m j a) k b = onD d0 d1 d2 (onD d0 d1 d2 m k b) j a := by
  by_cases hjk : j = k
  · subst hjk; rw [on_on h hm, on_on h hm, Int.add_comm]
  · obtain ⟨n1, x1, y1, z1⟩ := on_coords h hm j a
    obtain ⟨_, x2, y2, z2⟩ := on_coords h n1 k b
    obtain ⟨n3, x3, y3, z3⟩ := on_coords h hm k b
    obtain ⟨_, x4, y4, z4⟩ := on_coords h n3 j a
    refine node_ext (d0 := d0) (d1 := d1) ?_ ?_ ?_
    · rw [x2, x4, x1, x3]
      by_cases e : j = 0
      · by_cases e' : k = 0
        · exact absurd (e.trans e'.symm) hjk
        · simp [e, e']
      · by_cases e' : k = 0 <;> simp [e, e']
    · rw [y2, y4, y1, y3]
      by_cases e : j = 1
      · by_cases e' : k = 1
        · exact absurd (e.trans e'.symm) hjk
        · simp [e, e']
      · by_cases e' : k = 1 <;> simp [e, e']
    · rw [z2, z4, z1, z3]
      by_cases e : j = 2
      · by_cases e' : k = 2
        · exact absurd (e.trans e'.symm) hjk
        · simp [e, e']
      · by_cases e' : k = 2 <;> simp [e, e']
theorem on_round {d0 d1 d2 m : Int} (h : mayD d0 d1 d2) (hm : 0 ≤ m ∧ m < d0 * d1 * d2) (k : Fin 3) (n : Int) (hn : n = 0 ∨ n = dimAt d0 d1 d2 k) : onD d0 d1 d2 m k n = m := by
  obtain ⟨ix, iy, iz⟩ := inD_of_node h hm
  obtain ⟨_, x1, y1, z1⟩ := on_coords h hm k n
  have e : ∀ c d : Int, 0 ≤ c → c < d → n = 0 ∨ n = d → (c + n) % d = c := by
    intro c d h1 h2 h3
    rcases h3 with h3 | h3
    · rw [h3, Int.add_zero, Int.emod_eq_of_lt h1 h2]
    · rw [h3, Int.add_emod_right, Int.emod_eq_of_lt h1 h2]
  refine node_ext (d0 := d0) (d1 := d1) ?_ ?_ ?_
  · rw [x1]; split
    · rename_i hk; subst hk; exact e _ _ ix.1 ix.2 hn
    · rfl
  · rw [y1]; split
    · rename_i hk; subst hk; exact e _ _ iy.1 iy.2 hn
    · rfl
  · rw [z1]; split
    · rename_i hk; subst hk; exact e _ _ iz.1 iz.2 hn
    · rfl

end Go.Proofs.Ytfpemgaabbcbiaa
