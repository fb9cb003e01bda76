/-
  Plain arithmetic: steps on a torus add up, lead round, and do not hang on each other; how far midplanes are apart. No program is named here.
-/
import Derived.Test.YtbbddolalglmnaaPosMath
namespace Go.Proofs.Ytbbddolalglmnaa
open Go.RowKit

/-- What a step makes of the coordinates. -/
theorem on_coords {d0 d1 d2 m : Int} (h : mayD d0 d1 d2) (hm : 0 ≤ m ∧ m < d0 * d1 * d2) (k : Fin 3) (n : Int) :
    (0 ≤ onD d0 d1 d2 m k n ∧ onD d0 d1 d2 m k n < d0 * d1 * d2) ∧
    cx d0 (onD d0 d1 d2 m k n) = (if k = 0 then (cx d0 m + n) % d0 else cx d0 m) ∧
    cy d0 d1 (onD d0 d1 d2 m k n) = (if k = 1 then (cy d0 d1 m + n) % d1 else cy d0 d1 m) ∧
    cz d0 d1 (onD d0 d1 d2 m k n) = (if k = 2 then (cz d0 d1 m + n) % d2 else cz d0 d1 m) := by
  obtain ⟨i0, i1, i2⟩ := inD_on h hm n
  match k with
  | 0 => exact node_of_in h i0
  | 1 => exact node_of_in h i1
  | 2 => exact node_of_in h i2
theorem on_node {d0 d1 d2 m : Int} (h : mayD d0 d1 d2) (hm : 0 ≤ m ∧ m < d0 * d1 * d2) (k : Fin 3) (n : Int) : 0 ≤ onD d0 d1 d2 m k n ∧ onD d0 d1 d2 m k n < d0 * d1 * d2 := (on_coords h hm k n).1

/-- Midplanes with the same coordinates are one. -/
theorem node_ext {d0 d1 m n : Int} (hx : cx d0 m = cx d0 n) (hy : cy d0 d1 m = cy d0 d1 n) (hz : cz d0 d1 m = cz d0 d1 n) : m = n := by
  rw [← num_of_node (d0 := d0) (d1 := d1) (m := m), hx, hy, hz, num_of_node]

theorem on_on {d0 d1 d2 m : Int} (h : mayD d0 d1 d2) (hm : 0 ≤ m ∧ m < d0 * d1 * d2) (k : Fin 3) (a b : Int) : onD d0 d1 d2 (onD d0 d1 d2 m k a) k b = onD d0 d1 d2 m k (a + b) := by
  obtain ⟨n1, x1, y1, z1⟩ := on_coords h hm k a
  obtain ⟨_, x2, y2, z2⟩ := on_coords h n1 k b
  obtain ⟨_, x3, y3, z3⟩ := on_coords h hm k (a + b)
  refine node_ext (d0 := d0) (d1 := d1) ?_ ?_ ?_
  · rw [x2, x3, x1]; split
    · rw [Int.emod_add_emod, Int.add_assoc]
    · rfl
  · rw [y2, y3, y1]; split
    · rw [Int.emod_add_emod, Int.add_assoc]
    · rfl
  · rw [z2, z3, z1]; split
    · rw [Int.emod_add_emod, Int.add_assoc]
    · rfl
theorem on_comm {d0 d1 d2 m : Int} (h : mayD d0 d1 d2) (hm : 0 ≤ m ∧ m < d0 * d1 * d2) (j k : Fin 3) (a b : Int) : onD d0 d1 d2 (onD d0 d1 d2 m j a) k b = onD d0 d1 d2 (onD d0 d1 d2 m k b) j a := by
  by_cases hjk : j = k
  · subst hjk; rw [on_on h hm, on_on h hm, Int.add_comm]
  · obtain ⟨n1, x1, y1, z1⟩ := on_coords h hm j a
    obtain ⟨_, x2, y2, z2⟩ := on_coords h n1 k b
    obtain ⟨n3, x3, y3, z3⟩ := on_coords h hm k b
    obtain ⟨_, x4, y4, z4⟩ := on_coords h n3 j a
    refine node_ext (d0 := d0) (d1 := d1) ?_ ?_ ?_
    · rw [x2, x4, x1, x3]
      by_cases e : j = 0
      · by_cases e' : k = 0
        · exact absurd (e.trans e'.symm) hjk
        · simp [e, e']
      · by_cases e' : k = 0 <;> simp [e, e']
    · rw [y2, y4, y1, y3]
      by_cases e : j = 1
      · by_cases e' : k = 1
        · exact absurd (e.trans e'.symm) hjk
        · simp [e, e']
      · by_cases e' : k = 1 <;> simp [e, e']
    · rw [z2, z4, z1, z3]
      by_cases e : j = 2
      · by_cases e' : k = 2
        · exact absurd (e.trans e'.symm) hjk
        · simp [e, e']
      · by_cases e' : k = 2 <;> simp [e, e']
theorem on_round {d0 d1 d2 m : Int} (h : mayD d0 d1 d2) (hm : 0 ≤ m ∧ m < d0 * d1 * d2) (k : Fin 3) (n : Int) (hn : n = 0 ∨ n = dimAt d0 d1 d2 k) : onD d0 d1 d2 m k n = m := by
  obtain ⟨ix, iy, iz⟩ := inD_of_node h hm
  obtain ⟨_, x1, y1, z1⟩ := on_coords h hm k n
  have e : ∀ c d : Int, 0 ≤ c → c < d → n = 0 ∨ n = d → (c + n) % d = c := by
    intro c d h1 h2 h3
    rcases h3 with h3 | h3
    · rw [h3, Int.add_zero, Int.emod_eq_of_lt h1 h2]
    · rw [h3, Int.add_emod_right, Int.emod_eq_of_lt h1 h2]
  refine node_ext (d0 := d0) (d1 := d1) ?_ ?_ ?_
  · rw [x1]; split
    · rename_i hk; subst hk; exact e _ _ ix.1 ix.2 hn
    · rfl
  · rw [y1]; split
    · rename_i hk; subst hk; exact e _ _ iy.1 iy.2 hn
    · rfl
  · rw [z1]; split
    · rename_i hk; subst hk; exact e _ _ iz.1 iz.2 hn
    · rfl

/-- How far apart on a ring, said without a remainder. -/
theorem ring_eq {n p q : Int} (hp : 0 ≤ p ∧ p < n) (hq : 0 ≤ q ∧ q < n) :
    (p ≤ q ∧ ((q - p ≤ n - (q - p) ∧ ring n p q = q - p) ∨ (n - (q - p) < q - p ∧ ring n p q = n - (q - p)))) ∨
    (q < p ∧ ((q - p + n ≤ p - q ∧ ring n p q = q - p + n) ∨ (p - q < q - p + n ∧ ring n p q = p - q))) := by
  have e : (q - p) % n = if p ≤ q then q - p else q - p + n := by
    split
    · exact Int.emod_eq_of_lt (by omega) (by omega)
    · rw [← Int.add_emod_right]; exact Int.emod_eq_of_lt (by omega) (by omega)
  unfold ring minI
  by_cases h : p ≤ q
  · rw [if_pos h] at e
    rw [e]
    by_cases h' : n - (q - p) < q - p
    · rw [if_pos h']; omega
    · rw [if_neg h']; omega
  · rw [if_neg h] at e
    rw [e]
    by_cases h' : n - (q - p + n) < q - p + n
    · rw [if_pos h']; omega
    · rw [if_neg h']; omega
theorem ring_sym {n p q : Int} (hp : 0 ≤ p ∧ p < n) (hq : 0 ≤ q ∧ q < n) : ring n p q = ring n q p := by
  have a := ring_eq hp hq
  have b := ring_eq hq hp
  omega
theorem ring_pos {n p q : Int} (hp : 0 ≤ p ∧ p < n) (hq : 0 ≤ q ∧ q < n) : 0 ≤ ring n p q ∧ (ring n p q = 0 ↔ p = q) := by
  have a := ring_eq hp hq
  omega
theorem ring_tri {n p q r : Int} (hp : 0 ≤ p ∧ p < n) (hq : 0 ≤ q ∧ q < n) (hr : 0 ≤ r ∧ r < n) : ring n p r ≤ ring n p q + ring n q r := by
  have a := ring_eq hp hq
  have b := ring_eq hq hr
  have c := ring_eq hp hr
  omega
theorem ring_step {n p : Int} (hp : 0 ≤ p ∧ p < n) : ring n p ((p + 1) % n) = if 1 < n then 1 else 0 := by
  have e : (p + 1) % n = if p + 1 < n then p + 1 else 0 := by
    split
    · exact Int.emod_eq_of_lt (by omega) (by omega)
    · have : p + 1 = n := by omega
      rw [this, Int.emod_self]
  have hb : 0 ≤ (p + 1) % n ∧ (p + 1) % n < n := ⟨Int.emod_nonneg _ (by omega), Int.emod_lt_of_pos _ (by omega)⟩
  have a := ring_eq hp hb
  generalize (p + 1) % n = q at *
  split <;> split at e <;> omega
theorem ring_self {n p : Int} (hp : 0 ≤ p ∧ p < n) : ring n p p = 0 := (ring_pos hp hp).2.2 rfl

theorem far_bd {d0 d1 d2 : Int} (h : mayD d0 d1 d2) (a b : Int) : 0 ≤ farD d0 d1 d2 a b ∧ farD d0 d1 d2 a b ≤ 48 := by
  obtain ⟨h0, h1, h2⟩ := h
  unfold okD at h0 h1 h2
  have x := ring_bd (p := cx d0 a) (q := cx d0 b) h0.1 h0.2
  have y := ring_bd (p := cy d0 d1 a) (q := cy d0 d1 b) h1.1 h1.2
  have z := ring_bd (p := cz d0 d1 a) (q := cz d0 d1 b) h2.1 h2.2
  unfold farD
  omega
theorem far_sym {d0 d1 d2 a b : Int} (h : mayD d0 d1 d2) (ha : 0 ≤ a ∧ a < d0 * d1 * d2) (hb : 0 ≤ b ∧ b < d0 * d1 * d2) : farD d0 d1 d2 a b = farD d0 d1 d2 b a := by
  obtain ⟨a0, a1, a2⟩ := inD_of_node h ha
  obtain ⟨b0, b1, b2⟩ := inD_of_node h hb
  unfold farD
  rw [ring_sym a0 b0, ring_sym a1 b1, ring_sym a2 b2]
theorem far_zero {d0 d1 d2 a b : Int} (h : mayD d0 d1 d2) (ha : 0 ≤ a ∧ a < d0 * d1 * d2) (hb : 0 ≤ b ∧ b < d0 * d1 * d2) : farD d0 d1 d2 a b = 0 ↔ a = b := by
  obtain ⟨a0, a1, a2⟩ := inD_of_node h ha
  obtain ⟨b0, b1, b2⟩ := inD_of_node h hb
  have x := ring_pos a0 b0
  have y := ring_pos a1 b1
  have z := ring_pos a2 b2
  constructor
  · intro hf
    unfold farD at hf
    exact node_ext (d0 := d0) (d1 := d1) (x.2.1 (by omega)) (y.2.1 (by omega)) (z.2.1 (by omega))
  · intro e
    subst e
    unfold farD
    rw [ring_self a0, ring_self a1, ring_self a2]; rfl
theorem far_tri {d0 d1 d2 a b c : Int} (h : mayD d0 d1 d2) (ha : 0 ≤ a ∧ a < d0 * d1 * d2) (hb : 0 ≤ b ∧ b < d0 * d1 * d2) (hc : 0 ≤ c ∧ c < d0 * d1 * d2) :
    farD d0 d1 d2 a c ≤ farD d0 d1 d2 a b + farD d0 d1 d2 b c := by
  obtain ⟨a0, a1, a2⟩ := inD_of_node h ha
  obtain ⟨b0, b1, b2⟩ := inD_of_node h hb
  obtain ⟨c0, c1, c2⟩ := inD_of_node h hc
  have x := ring_tri a0 b0 c0
  have y := ring_tri a1 b1 c1
  have z := ring_tri a2 b2 c2
  unfold farD
  omega
theorem far_on {d0 d1 d2 a : Int} (h : mayD d0 d1 d2) (ha : 0 ≤ a ∧ a < d0 * d1 * d2) (k : Fin 3) : farD d0 d1 d2 a (onD d0 d1 d2 a k 1) = if 1 < dimAt d0 d1 d2 k then 1 else 0 := by
  obtain ⟨a0, a1, a2⟩ := inD_of_node h ha
  obtain ⟨_, x1, y1, z1⟩ := on_coords h ha k 1
  unfold farD
  rw [x1, y1, z1]
  match k with
  | 0 => simp [ring_step a0, ring_self a1, ring_self a2, dimAt]; rfl
  | 1 => simp [ring_step a1, ring_self a0, ring_self a2, dimAt]; rfl
  | 2 => simp [ring_step a2, ring_self a0, ring_self a1, dimAt]; rfl

/-- Some steps on or back, no more than the way: just the whole way leads there. -/
theorem ring_hit {n p q j : Int} (hp : 0 ≤ p ∧ p < n) (hq : 0 ≤ q ∧ q < n) (h0 : 0 ≤ j) (hj : j ≤ ring n p q) : (j < ring n p q ↔ ((p + j) % n ≠ q ∧ (p + -j) % n ≠ q)) := by
  have a := ring_eq hp hq
  have hle : ring n p q ≤ n := by omega
  have e1 : (p + j) % n = p + j ∨ (p + j) % n = p + j - n := by
    rcases Int.lt_or_le (p + j) n with h | h
    · exact .inl (Int.emod_eq_of_lt (by omega) h)
    · right
      rw [← Int.sub_emod_right]
      exact Int.emod_eq_of_lt (by omega) (by omega)
  have e2 : (p + -j) % n = p + -j ∨ (p + -j) % n = p + -j + n := by
    rcases Int.lt_or_le (p + -j) 0 with h | h
    · right
      rw [← Int.add_emod_right]
      exact Int.emod_eq_of_lt (by omega) (by omega)
    · exact .inl (Int.emod_eq_of_lt h (by omega))
  have b1 : 0 ≤ (p + j) % n ∧ (p + j) % n < n := ⟨Int.emod_nonneg _ (by omega), Int.emod_lt_of_pos _ (by omega)⟩
  have b2 : 0 ≤ (p + -j) % n ∧ (p + -j) % n < n := ⟨Int.emod_nonneg _ (by omega), Int.emod_lt_of_pos _ (by omega)⟩
  generalize (p + j) % n = u at *
  generalize (p + -j) % n = v at *
  generalize ring n p q = r at *
  constructor
  · intro h; constructor <;> omega
  · rintro ⟨h1, h2⟩
    rcases Int.lt_or_le j r with h | h
    · exact h
    · omega

end Go.Proofs.Ytbbddolalglmnaa
