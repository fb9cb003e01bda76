/-
  Plain arithmetic of cables: which midplanes steps along an axis lead to, listed rising; how many there are; lines are the same or apart. No program is named here.
-/
import Derived.Test.YtbbddolalglmnaaPosLaws
import Derived.Test.YtbbddolalglmnaaPosAxes
namespace Go.Proofs.Ytbbddolalglmnaa
open Go.RowKit

theorem emod_inj {c d a b : Int} (hd : 0 < d) (ha : 0 ≤ a ∧ a < d) (hb : 0 ≤ b ∧ b < d) (e : (c + a) % d = (c + b) % d) : a = b := by
  have h1 := Int.emod_add_mul_ediv (c + a) d
  have h2 := Int.emod_add_mul_ediv (c + b) d
  rw [e] at h1
  generalize (c + b) % d = r at h1 h2
  generalize (c + a) / d = p at h1
  generalize (c + b) / d = q at h2
  have h3 : d * (p - q) = a - b := by rw [Int.mul_sub]; omega
  rcases Int.lt_trichotomy (p - q) 0 with h | h | h
  · have := Int.mul_le_mul_of_nonneg_left (show p - q ≤ -1 by omega) (Int.le_of_lt hd)
    omega
  · rw [h] at h3; omega
  · have := Int.mul_le_mul_of_nonneg_left (show 1 ≤ p - q by omega) (Int.le_of_lt hd)
    omega

/-- Two ways of less than the ring's length that lead to one midplane are the same. -/
theorem on_inj {d0 d1 d2 m : Int} (h : mayD d0 d1 d2) (hm : 0 ≤ m ∧ m < d0 * d1 * d2) (k : Fin 3) {a b : Int} (ha : 0 ≤ a ∧ a < dimAt d0 d1 d2 k) (hb : 0 ≤ b ∧ b < dimAt d0 d1 d2 k) (e : onD d0 d1 d2 m k a = onD d0 d1 d2 m k b) : a = b := by
  obtain ⟨_, x1, y1, z1⟩ := on_coords h hm k a
  obtain ⟨_, x2, y2, z2⟩ := on_coords h hm k b
  have hk := dimAt_ok h k
  unfold okD at hk
  rw [e] at x1 y1 z1
  match k, ha, hb, hk, x1, x2, y1, y2, z1, z2 with
  | 0, ha, hb, hk, x1, x2, _, _, _, _ => exact emod_inj (d := d0) (by simp only [dimAt] at hk; omega) ha hb (x1.symm.trans x2)
  | 1, ha, hb, hk, _, _, y1, y2, _, _ => exact emod_inj (d := d1) (by simp only [dimAt] at hk; omega) ha hb (y1.symm.trans y2)
  | 2, ha, hb, hk, _, _, _, _, z1, z2 => exact emod_inj (d := d2) (by simp only [dimAt] at hk; omega) ha hb (z1.symm.trans z2)

/-- Steps count but for the ring's length. -/
theorem on_mod {d0 d1 d2 m : Int} (h : mayD d0 d1 d2) (hm : 0 ≤ m ∧ m < d0 * d1 * d2) (k : Fin 3) (n : Int) : onD d0 d1 d2 m k (n % dimAt d0 d1 d2 k) = onD d0 d1 d2 m k n := by
  obtain ⟨_, x1, y1, z1⟩ := on_coords h hm k (n % dimAt d0 d1 d2 k)
  obtain ⟨_, x2, y2, z2⟩ := on_coords h hm k n
  refine node_ext (d0 := d0) (d1 := d1) ?_ ?_ ?_
  · rw [x1, x2]; split
    · rename_i e; subst e; exact Int.add_emod_emod ..
    · rfl
  · rw [y1, y2]; split
    · rename_i e; subst e; exact Int.add_emod_emod ..
    · rfl
  · rw [z1, z2]; split
    · rename_i e; subst e; exact Int.add_emod_emod ..
    · rfl

/-- One is among so many from another one on. -/
def amongW (d0 d1 d2 m : Int) (k : Fin 3) (many : Nat) (o : Int) : Bool := (List.range many).any fun i => decide (onD d0 d1 d2 m k (i : Int) = o)
theorem among_iff {d0 d1 d2 m : Int} {k : Fin 3} {many : Nat} {o : Int} : amongW d0 d1 d2 m k many o = true ↔ ∃ i : Nat, i < many ∧ onD d0 d1 d2 m k i = o := by
  simp [amongW, List.any_eq_true]

/-- Those, rising. -/
def nodesW (d0 d1 d2 m : Int) (k : Fin 3) (many : Nat) : List Nat := (List.range (d0 * d1 * d2).toNat).filter fun o => amongW d0 d1 d2 m k many (o : Int)
theorem nodes_rise (d0 d1 d2 m : Int) (k : Fin 3) (many : Nat) : (nodesW d0 d1 d2 m k many).Pairwise (· < ·) := (List.pairwise_lt_range).filter _
theorem nodes_mem {d0 d1 d2 m : Int} {k : Fin 3} {many : Nat} {o : Nat} : o ∈ nodesW d0 d1 d2 m k many ↔ (o : Int) < d0 * d1 * d2 ∧ ∃ i : Nat, i < many ∧ onD d0 d1 d2 m k i = (o : Int) := by
  unfold nodesW
  rw [List.mem_filter, List.mem_range, among_iff]
  constructor
  · rintro ⟨a, b⟩; exact ⟨by omega, b⟩
  · rintro ⟨a, b⟩; exact ⟨by omega, b⟩

theorem lenN_le : ∀ (a b : List Nat), a.Nodup → (∀ x ∈ a, x ∈ b) → a.length ≤ b.length
  | [], b, _, _ => Nat.zero_le _
  | x :: a, b, hn, hs => by
    have hx := hs x (by simp)
    have ih := lenN_le a (b.erase x) (List.nodup_cons.1 hn).2 fun y hy => by
      have hne : y ≠ x := fun e => (List.nodup_cons.1 hn).1 (e ▸ hy)
      exact (List.mem_erase_of_ne hne).2 (hs y (by simp [hy]))
    rw [List.length_erase_of_mem hx] at ih
    have : 0 < b.length := List.length_pos_of_mem hx
    simp only [List.length_cons]
    omega
/-- There are as many as steps. -/
theorem nodes_len {d0 d1 d2 m : Int} (h : mayD d0 d1 d2) (hm : 0 ≤ m ∧ m < d0 * d1 * d2) (k : Fin 3) {many : Nat} (hk : (many : Int) ≤ dimAt d0 d1 d2 k) : (nodesW d0 d1 d2 m k many).length = many := by
  have hn1 : (nodesW d0 d1 d2 m k many).Nodup := (nodes_rise d0 d1 d2 m k many).imp fun hab e => by omega
  have hn2 : ((List.range many).map fun i : Nat => (onD d0 d1 d2 m k (i : Int)).toNat).Nodup := by
    refine List.pairwise_map.2 ?_
    refine (List.pairwise_lt_range (n := many)).imp_of_mem fun {a b} ha hb hab e => ?_
    have ha' := List.mem_range.1 ha
    have hb' := List.mem_range.1 hb
    have n1 := on_node h hm k (a : Int)
    have n2 := on_node h hm k (b : Int)
    have := on_inj h hm k (a := (a : Int)) (b := (b : Int)) (by omega) (by omega) (by omega)
    omega
  have e : ∀ x, x ∈ nodesW d0 d1 d2 m k many ↔ x ∈ (List.range many).map fun i : Nat => (onD d0 d1 d2 m k (i : Int)).toNat := by
    intro x
    rw [nodes_mem, List.mem_map]
    constructor
    · rintro ⟨_, i, hi, ei⟩
      exact ⟨i, List.mem_range.2 hi, by rw [ei]; exact Int.toNat_natCast x⟩
    · rintro ⟨i, hi, rfl⟩
      have n1 := on_node h hm k (i : Int)
      exact ⟨by omega, i, List.mem_range.1 hi, by omega⟩
  have l1 := lenN_le _ _ hn1 fun x hx => (e x).1 hx
  have l2 := lenN_le _ _ hn2 fun x hx => (e x).2 hx
  simp only [List.length_map, List.length_range] at l1 l2
  omega
theorem nodes_more {d0 d1 d2 m : Int} {k : Fin 3} {many more : Nat} (h : many ≤ more) {o : Nat} (ho : o ∈ nodesW d0 d1 d2 m k many) : o ∈ nodesW d0 d1 d2 m k more := by
  obtain ⟨a, i, hi, e⟩ := nodes_mem.1 ho
  exact nodes_mem.2 ⟨a, i, by omega, e⟩

/-- Steps along the axis lead from one to the other. -/
def oneLine (d0 d1 d2 m o : Int) (k : Fin 3) : Bool := amongW d0 d1 d2 m k (dimAt d0 d1 d2 k).toNat o
theorem one_any {d0 d1 d2 m o : Int} (h : mayD d0 d1 d2) (hm : 0 ≤ m ∧ m < d0 * d1 * d2) (k : Fin 3) : oneLine d0 d1 d2 m o k = true ↔ ∃ n : Int, onD d0 d1 d2 m k n = o := by
  have hk := dimAt_ok h k
  unfold okD at hk
  unfold oneLine
  rw [among_iff]
  constructor
  · rintro ⟨i, _, e⟩; exact ⟨i, e⟩
  · rintro ⟨n, e⟩
    have h0 := Int.emod_nonneg n (show dimAt d0 d1 d2 k ≠ 0 by omega)
    have h1 := Int.emod_lt_of_pos n (show 0 < dimAt d0 d1 d2 k by omega)
    refine ⟨(n % dimAt d0 d1 d2 k).toNat, by omega, ?_⟩
    rw [Int.toNat_of_nonneg h0, on_mod h hm, e]
/-- Midplanes of one line have one line. -/
theorem line_same {d0 d1 d2 m o : Int} (h : mayD d0 d1 d2) (hm : 0 ≤ m ∧ m < d0 * d1 * d2) (ho : 0 ≤ o ∧ o < d0 * d1 * d2) (k : Fin 3) (h1 : oneLine d0 d1 d2 m o k = true) :
    nodesW d0 d1 d2 m k (dimAt d0 d1 d2 k).toNat = nodesW d0 d1 d2 o k (dimAt d0 d1 d2 k).toNat := by
  obtain ⟨n, e⟩ := (one_any h hm k).1 h1
  unfold nodesW
  refine List.filter_congr fun p _ => ?_
  rw [Bool.eq_iff_iff]
  show oneLine d0 d1 d2 m p k = true ↔ oneLine d0 d1 d2 o p k = true
  rw [one_any h hm, one_any h ho]
  constructor
  · rintro ⟨a, ea⟩
    exact ⟨a - n, by rw [← e, on_on h hm, show n + (a - n) = a by omega]; exact ea⟩
  · rintro ⟨a, ea⟩
    exact ⟨n + a, by rw [← on_on h hm, e]; exact ea⟩
/-- Lines that are not the same have no midplane in common. -/
theorem line_apart {d0 d1 d2 m o : Int} (h : mayD d0 d1 d2) (hm : 0 ≤ m ∧ m < d0 * d1 * d2) (ho : 0 ≤ o ∧ o < d0 * d1 * d2) (k : Fin 3) (h1 : oneLine d0 d1 d2 m o k = false) {p : Nat}
    (ha : p ∈ nodesW d0 d1 d2 m k (dimAt d0 d1 d2 k).toNat) (hb : p ∈ nodesW d0 d1 d2 o k (dimAt d0 d1 d2 k).toNat) : False := by
  obtain ⟨_, i, _, ei⟩ := nodes_mem.1 ha
  obtain ⟨_, j, _, ej⟩ := nodes_mem.1 hb
  have : oneLine d0 d1 d2 m o k = true := by
    rw [one_any h hm]
    refine ⟨i + -j, ?_⟩
    rw [← on_on h hm, ei, ← ej, on_on h ho, Int.add_right_neg]
    exact on_round h ho k 0 (.inl rfl)
  rw [this] at h1
  cases h1

/-- A cable's number. -/
def cabW (d0 d1 d2 : Int) (k : Fin 3) (o : Int) : Int := axI k * (d0 * d1 * d2) + o
theorem cab_bd {d0 d1 d2 o : Int} (h : mayD d0 d1 d2) (ho : 0 ≤ o ∧ o < d0 * d1 * d2) (k : Fin 3) :
    0 ≤ cabW d0 d1 d2 k o ∧ cabW d0 d1 d2 k o < 3 * (d0 * d1 * d2) ∧ cabW d0 d1 d2 k o / (d0 * d1 * d2) = axI k ∧ cabW d0 d1 d2 k o % (d0 * d1 * d2) = o := by
  have hN := N_bd h
  unfold cabW
  generalize d0 * d1 * d2 = N at *
  have e1 : (axI k * N + o) / N = axI k := by
    rw [Int.add_comm, Int.add_mul_ediv_right _ _ (by omega), Int.ediv_eq_zero_of_lt ho.1 ho.2, Int.zero_add]
  have e2 : (axI k * N + o) % N = o := by
    rw [Int.add_comm, Int.add_mul_emod_self_right, Int.emod_eq_of_lt ho.1 ho.2]
  refine ⟨?_, ?_, e1, e2⟩
  · match k with
    | 0 => simp only [axI]; omega
    | 1 => simp only [axI]; omega
    | 2 => simp only [axI]; omega
  · match k with
    | 0 => simp only [axI]; omega
    | 1 => simp only [axI]; omega
    | 2 => simp only [axI]; omega
theorem cab_inj {d0 d1 d2 o p : Int} {k : Fin 3} (e : cabW d0 d1 d2 k o = cabW d0 d1 d2 k p) : o = p := by
  unfold cabW at e
  omega

/-- The cables from so many midplanes on, rising; none, if there is but one along the axis. -/
def cablesW (d0 d1 d2 m : Int) (k : Fin 3) (many : Nat) : List Int := if 1 < dimAt d0 d1 d2 k then (nodesW d0 d1 d2 m k many).map (fun o : Nat => cabW d0 d1 d2 k (o : Int)) else []
theorem cables_mem {d0 d1 d2 m : Int} {k : Fin 3} {many : Nat} {n : Int} : n ∈ cablesW d0 d1 d2 m k many ↔ 1 < dimAt d0 d1 d2 k ∧ ∃ o ∈ nodesW d0 d1 d2 m k many, n = cabW d0 d1 d2 k (o : Int) := by
  unfold cablesW
  split
  · rename_i h
    rw [List.mem_map]
    constructor
    · rintro ⟨o, ho, e⟩; exact ⟨h, o, ho, e.symm⟩
    · rintro ⟨_, o, ho, e⟩; exact ⟨o, ho, e.symm⟩
  · rename_i h
    simp [h]
theorem cables_len {d0 d1 d2 m : Int} (h : mayD d0 d1 d2) (hm : 0 ≤ m ∧ m < d0 * d1 * d2) (k : Fin 3) {many : Nat} (hk : (many : Int) ≤ dimAt d0 d1 d2 k) :
    (cablesW d0 d1 d2 m k many).length = if 1 < dimAt d0 d1 d2 k then many else 0 := by
  unfold cablesW
  split
  · rw [List.length_map, nodes_len h hm k hk]
  · rfl
theorem cables_rise (d0 d1 d2 m : Int) (k : Fin 3) (many : Nat) : (cablesW d0 d1 d2 m k many).Pairwise (· < ·) := by
  unfold cablesW
  split
  · refine List.pairwise_map.2 ((nodes_rise d0 d1 d2 m k many).imp fun {a b} hab => ?_)
    unfold cabW
    omega
  · exact List.Pairwise.nil
theorem cables_more {d0 d1 d2 m : Int} {k : Fin 3} {many more : Nat} (h : many ≤ more) {n : Int} (hn : n ∈ cablesW d0 d1 d2 m k many) : n ∈ cablesW d0 d1 d2 m k more := by
  obtain ⟨a, o, ho, e⟩ := cables_mem.1 hn
  exact cables_mem.2 ⟨a, o, nodes_more h ho, e⟩
theorem cables_same {d0 d1 d2 m o : Int} (h : mayD d0 d1 d2) (hm : 0 ≤ m ∧ m < d0 * d1 * d2) (ho : 0 ≤ o ∧ o < d0 * d1 * d2) (k : Fin 3) (h1 : oneLine d0 d1 d2 m o k = true) :
    cablesW d0 d1 d2 m k (dimAt d0 d1 d2 k).toNat = cablesW d0 d1 d2 o k (dimAt d0 d1 d2 k).toNat := by
  unfold cablesW
  rw [line_same h hm ho k h1]
theorem cables_apart {d0 d1 d2 m o : Int} (h : mayD d0 d1 d2) (hm : 0 ≤ m ∧ m < d0 * d1 * d2) (ho : 0 ≤ o ∧ o < d0 * d1 * d2) (k : Fin 3) (h1 : oneLine d0 d1 d2 m o k = false) {n : Int}
    (ha : n ∈ cablesW d0 d1 d2 m k (dimAt d0 d1 d2 k).toNat) (hb : n ∈ cablesW d0 d1 d2 o k (dimAt d0 d1 d2 k).toNat) : False := by
  obtain ⟨_, p, hp, e⟩ := cables_mem.1 ha
  obtain ⟨_, q, hq, e'⟩ := cables_mem.1 hb
  have := cab_inj (e.symm.trans e')
  have hpq : p = q := by omega
  subst hpq
  exact line_apart h hm ho k h1 hp hq

end Go.Proofs.Ytbbddolalglmnaa
