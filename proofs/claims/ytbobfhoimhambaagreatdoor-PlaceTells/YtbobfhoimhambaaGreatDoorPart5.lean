/-
  Plain arithmetic of cables: which midplanes steps along an axis lead to, listed rising; how many there are; lines are the same or apart. No program is named here.
-/
import Derived.Test.YtbobfhoimhambaaGreatDoorPart4
import Derived.Test.YtbobfhoimhambaaGreatDoorPart2
import Derived.Test.YtbobfhoimhambaaGreatDoorPart3
import Derived.Test.YtbobfhoimhambaaGreatDoorProg
import Derived.OwnWalk
namespace Go.Proofs.YtbobfhoimhambaaGreatDoor
open Go.RowKit

theorem emod_inj {c d a b : Int} (hd : 0 < d) (ha : 0 ≤ a ∧ a < d) (hb : 0 ≤ b ∧ b < d) (e : (c + a) % d = (c + b) % d) : a = b := by
  have h1 := Int.emod_add_mul_ediv (c + a) d
  have h2 := Int.emod_add_mul_ediv (c + b) d
  rw [e] at h1
  generalize (c + b) % d = r at h1 h2
  generalize (c + a) / d = p at h1
  generalize (c + b) / d = q at h2
  have h3 : d * (p - q) = a - b := by rw [Int.mul_sub]; omega
  rcases Int.lt_trichotomy (p - q) 0 with h | h | h
  · have := Int.mul_le_mul_of_nonneg_left (show p - q ≤ -1 by omega) (Int.le_of_lt hd)
    omega
  · rw [h] at h3; omega
  · have := Int.mul_le_mul_of_nonneg_left (show 1 ≤ p - q by omega) (Int.le_of_lt hd)
    omega

/-- Two ways of less than the ring's length that lead to one midplane are the same. -/
theorem on_inj {d0 d1 d2 m : Int} (h : mayD d0 d1 d2) (hm : 0 ≤ m ∧ m < d0 * d1 * d2) (k : Fin 3) {a b : Int} (ha : 0 ≤ a ∧ a < dimAt d0 d1 d2 k) (hb : 0 ≤ b ∧ b < dimAt d0 d1 d2 k) (e : onD d0 d1 d2 m k a = onD d0 d1 d2 m k b) : a = b := by
  obtain ⟨_, x1, y1, z1⟩ := on_coords h hm k a
  obtain ⟨_, x2, y2, z2⟩ := on_coords h hm k b
  have hk := dimAt_ok h k
  unfold okD at hk
  rw [e] at x1 y1 z1
  match k, ha, hb, hk, x1, x2, y1, y2, z1, z2 with
  | 0, ha, hb, hk, x1, x2, _, _, _, _ => exact emod_inj (d := d0) (by simp only [dimAt] at hk; omega) ha hb (x1.symm.trans x2)
  | 1, ha, hb, hk, _, _, y1, y2, _, _ => exact emod_inj (d := d1) (by simp only [dimAt] at hk; omega) ha hb (y1.symm.trans y2)
  | 2, ha, hb, hk, _, _, _, _, z1, z2 => exact emod_inj (d := d2) (by simp only [dimAt] at hk; omega) ha hb (z1.symm.trans z2)

/-- Steps count but for the ring's length. -/
theorem on_mod {d0 d1 d2 m : Int} (h : mayD d0 d1 d2) (hm : 0 ≤ m ∧ m < d0 * d1 * d2) (k : Fin 3) (n : Int) : onD d0 d1 d2 m k (n % dimAt d0 d1 d2 k) = onD d0 d1 d2 m k n := by
  obtain ⟨_, x1, y1, z1⟩ := on_coords h hm k (n % dimAt d0 d1 d2 k)
  obtain ⟨_, x2, y2, z2⟩ := on_coords h hm k n
  refine node_ext (d0 := d0) (d1 := d1) ?_ ?_ ?_
  · rw [x1, x2]; split
    · rename_i e; subst e; exact Int.add_emod_emod ..
    · rfl
  · rw [y1, y2]; split
    · rename_i e; subst e; exact Int.add_emod_emod ..
    · rfl
  · rw [z1, z2]; split
    · rename_i e; subst e; exact Int.add_emod_emod ..
    · rfl

/-- One is among so many from another one on. -/
def amongW (d0 d1 d2 m : Int) (k : Fin 3) (many : Nat) (o : Int) : Bool := (List.range many).any fun i => decide (onD d0 d1 d2 m k (i : Int) = o)
theorem among_iff {d0 d1 d2 m : Int} {k : Fin 3} {many : Nat} {o : Int} : amongW d0 d1 d2 m k many o = true ↔ ∃ i : Nat, i < many ∧ onD d0 d1 d2 m k i = o := by
  simp [amongW, List.any_eq_true]

/-- Those, rising. -/
def nodesW (d0 d1 d2 m : Int) (k : Fin 3) (many : Nat) : List Nat := (List.range (d0 * d1 * d2).toNat).filter fun o => amongW d0 d1 d2 m k many (o : Int)
theorem nodes_rise (d0 d1 d2 m : Int) (k : Fin 3) (many : Nat) : (nodesW d0 d1 d2 m k many).Pairwise (· < ·) := (List.pairwise_lt_range).filter _
theorem nodes_mem {d0 d1 d2 m : Int} {k : Fin 3} {many : Nat} {o : Nat} : o ∈ nodesW d0 d1 d2 m k many ↔ (o : Int) < d0 * d1 * d2 ∧ ∃ i : Nat, i < many ∧ onD d0 d1 d2 m k i = (o : Int) := by
  unfold nodesW
  rw [List.mem_filter, List.mem_range, among_iff]
  constructor
  · rintro ⟨a, b⟩; exact ⟨by omega, b⟩
  · rintro ⟨a, b⟩; exact ⟨by omega, b⟩

theorem lenN_le : ∀ (a b : List Nat), a.Nodup → (∀ x ∈ a, x ∈ b) → a.length ≤ b.length
  | [], b, _, _ => Nat.zero_le _
  | x :: a, b, hn, hs => by
    have hx := hs x (by simp)
    have ih := lenN_le a (b.erase x) (List.nodup_cons.1 hn).2 fun y hy => by
      have hne : y ≠ x := fun e => (List.nodup_cons.1 hn).1 (e ▸ hy)
      exact (List.mem_erase_of_ne hne).2 (hs y (by simp [hy]))
    rw [List.length_erase_of_mem hx] at ih
    have : 0 < b.length := List.length_pos_of_mem hx
    simp only [List.length_cons]
    omega
/-- There are as many as steps. -/
theorem nodes_len {d0 d1 d2 m : Int} (h : mayD d0 d1 d2) (hm : 0 ≤ m ∧ m < d0 * d1 * d2) (k : Fin 3) {many : Nat} (hk : (many : Int) ≤ dimAt d0 d1 d2 k) : (nodesW d0 d1 d2 m k many).length = many := by
  have hn1 : (nodesW d0 d1 d2 m k many).Nodup := (nodes_rise d0 d1 d2 m k many).imp fun hab e => by omega
  have hn2 : ((List.range many).map fun i : Nat => (onD d0 d1 d2 m k (i : Int)).toNat).Nodup := by
    refine List.pairwise_map.2 ?_
    refine (List.pairwise_lt_range (n := many)).imp_of_mem fun {a b} ha hb hab e => ?_
    have ha' := List.mem_range.1 ha
    have hb' := List.mem_range.1 hb
    have n1 := on_node h hm k (a : Int)
    have n2 := on_node h hm k (b : Int)
    have := on_inj h hm k (a := (a : Int)) (b := (b : Int)) (by omega) (by omega) (by omega)
    omega
  have e : ∀ x, x ∈ nodesW d0 d1 d2 m k many ↔ x ∈ (List.range many).map fun i : Nat => (onD d0 d1 d2 m k (i : Int)).toNat := by
    intro x
    rw [nodes_mem, List.mem_map]
    constructor
    · rintro ⟨_, i, hi, ei⟩
      exact ⟨i, List.mem_range.2 hi, by rw [ei]; exact Int.toNat_natCast x⟩
    · rintro ⟨i, hi, rfl⟩
      have n1 := on_node h hm k (i : Int)
      exact ⟨by omega, i, List.mem_range.1 hi, by omega⟩
  have l1 := lenN_le _ _ hn1 fun x hx => (e x).1 hx
  have l2 := lenN_le _ _ hn2 fun x hx => (e x).2 hx
  simp only [List.length_map, List.length_range] at l1 l2
  omega
theorem nodes_more {d0 d1 d2 m : Int} {k : Fin 3} {many more : Nat} (h : many ≤ more) {o : Nat} (ho : o ∈ nodesW d0 d1 d2 m k many) : o ∈ nodesW d0 d1 d2 m k more := by
  obtain ⟨a, i, hi, e⟩ := nodes_mem.1 ho
  exact nodes_mem.2 ⟨a, i, by omega, e⟩

/-- Steps along the axis lead from one to the other. -/
def oneLine (d0 d1 d2 m o : Int) (k : Fin 3) : Bool := amongW d0 d1 d2 m k (dimAt d0 d1 d2 k).toNat o
theorem one_any {d0 d1 d2 m o : Int} (h : mayD d0 d1 d2) (hm : 0 ≤ m ∧ m < d0 * d1 * d2) (k : Fin 3) : oneLine d0 d1 d2 m o k = true ↔ ∃ n : Int, onD d0 d1 d2 m k n = o := by
  have hk := dimAt_ok h k
  unfold okD at hk
  unfold oneLine
  rw [among_iff]
  constructor
  · rintro ⟨i, _, e⟩; exact ⟨i, e⟩
  · rintro ⟨n, e⟩
    have h0 := Int.emod_nonneg n (show dimAt d0 d1 d2 k ≠ 0 by omega)
    have h1 := Int.emod_lt_of_pos n (show 0 < dimAt d0 d1 d2 k by omega)
    refine ⟨(n % dimAt d0 d1 d2 k).toNat, by omega, ?_⟩
    rw [Int.toNat_of_nonneg h0, on_mod h hm, e]
/-- Midplanes of one line have one line. -/
theorem line_same {d0 d1 d2 m o : Int} (h : mayD d0 d1 d2) (hm : 0 ≤ m ∧ m < d0 * d1 * d2) (ho : 0 ≤ o ∧ o < d0 * d1 * d2) (k : Fin 3) (h1 : oneLine d0 d1 d2 m o k = true) :
    nodesW d0 d1 d2 m k (dimAt d0 d1 d2 k).toNat = nodesW d0 d1 d2 o k (dimAt d0 d1 d2 k).toNat := by
  obtain ⟨n, e⟩ := (one_any h hm k).1 h1
  unfold nodesW
  refine List.filter_congr fun p _ => ?_
  rw [Bool.eq_iff_iff]
  show oneLine d0 d1 d2 m p k = true ↔ oneLine d0 d1 d2 o p k = true
  rw [one_any h hm, one_any h ho]
  constructor
  · rintro ⟨a, ea⟩
    exact ⟨a - n, by rw [← e, on_on h hm, show n + (a - n) = a by omega]; exact ea⟩
  · rintro ⟨a, ea⟩
    exact ⟨n + a, by rw [← on_on h hm, e]; exact ea⟩
/-- Lines that are not the same have no midplane in common. -/
theorem line_apart {d0 d1 d2 m o : Int} (h : mayD d0 d1 d2) (hm : 0 ≤ m ∧ m < d0 * d1 * d2) (ho : 0 ≤ o ∧ o < d0 * d1 * d2) (k : Fin 3) (h1 : oneLine d0 d1 d2 m o k = false) {p : Nat}
    (ha : p ∈ nodesW d0 d1 d2 m k (dimAt d0 d1 d2 k).toNat) (hb : p ∈ nodesW d0 d1 d2 o k (dimAt d0 d1 d2 k).toNat) : False := by
  obtain ⟨_, i, _, ei⟩ := nodes_mem.1 ha
  obtain ⟨_, j, _, ej⟩ := nodes_mem.1 hb
  have : oneLine d0 d1 d2 m o k = true := by
    rw [one_any h hm]
    refine ⟨i + -j, ?_⟩
    rw [← on_on h hm, ei, ← ej, on_on h ho, Int.add_right_neg]
    exact on_round h ho k 0 (.inl rfl)
  rw [this] at h1
  cases h1

/-- A cable's number. -/
def cabW (d0 d1 d2 : Int) (k : Fin 3) (o : Int) : Int := axI k * (d0 * d1 * d2) + o
theorem cab_bd {d0 d1 d2 o : Int} (h : mayD d0 d1 d2) (ho : 0 ≤ o ∧ o < d0 * d1 * d2) (k : Fin 3) :
    0 ≤ cabW d0 d1 d2 k o ∧ cabW d0 d1 d2 k o < 3 * (d0 * d1 * d2) ∧ cabW d0 d1 d2 k o / (d0 * d1 * d2) = axI k ∧ cabW d0 d1 d2 k o % (d0 * d1 * d2) = o := by
  have hN := N_bd h
  unfold cabW
  generalize d0 * d1 * d2 = N at *
  have e1 : (axI k * N + o) / N = axI k := by
    rw [Int.add_comm, Int.add_mul_ediv_right _ _ (by omega), Int.ediv_eq_zero_of_lt ho.1 ho.2, Int.zero_add]
  have e2 : (axI k * N + o) % N = o := by
    rw [Int.add_comm, Int.add_mul_emod_self_right, Int.emod_eq_of_lt ho.1 ho.2]
  refine ⟨?_, ?_, e1, e2⟩
  · match k with
    | 0 => simp only [axI]; omega
    | 1 => simp only [axI]; omega
    | 2 => simp only [axI]; omega
  · match k with
    | 0 => simp only [axI]; omega
    | 1 => simp only [axI]; omega
    | 2 => simp only [axI]; omega
theorem cab_inj {d0 d1 d2 o p : Int} {k : Fin 3} (e : cabW d0 d1 d2 k o = cabW d0 d1 d2 k p) : o = p := by
  unfold cabW at e
  omega

/-- The cables from so many midplanes on, rising; none, if there is but one along the axis. -/
def cablesW (d0 d1 d2 m : Int) (k : Fin 3) (many : Nat) : List Int := if 1 < dimAt d0 d1 d2 k then (nodesW d0 d1 d2 m k many).map (fun o : Nat => cabW d0 d1 d2 k (o : Int)) else []
theorem cables_mem {d0 d1 d2 m : Int} {k : Fin 3} {many : Nat} {n : Int} : n ∈ cablesW d0 d1 d2 m k many ↔ 1 < dimAt d0 d1 d2 k ∧ ∃ o ∈ nodesW d0 d1 d2 m k many, n = cabW d0 d1 d2 k (o : Int) := by
  unfold cablesW
  split
  · rename_i h
    rw [List.mem_map]
    constructor
    · rintro ⟨o, ho, e⟩; exact ⟨h, o, ho, e.symm⟩
    · rintro ⟨_, o, ho, e⟩; exact ⟨o, ho, e.symm⟩
  · rename_i h
    simp [h]
theorem cables_len {d0 d1 d2 m : Int} (h : mayD d0 d1 d2) (hm : 0 ≤ m ∧ m < d0 * d1 * d2) (k : Fin 3) {many : Nat} (hk : (many : Int) ≤ dimAt d0 d1 d2 k) :
    (cablesW d0 d1 d2 m k many).length = if 1 < dimAt d0 d1 d2 k then many else 0 := by
  unfold cablesW
  split
  · rw [List.length_map, nodes_len h hm k hk]
  · rfl
theorem cables_rise (d0 d1 d2 m : Int) (k : Fin 3) (many : Nat) : (cablesW d0 d1 d2 m k many).Pairwise (· < ·) := by
  unfold cablesW
  split
  · refine List.pairwise_map.2 ((nodes_rise d0 d1 d2 m k many).imp fun {a b} hab => ?_)
    unfold cabW
    omega
  · exact List.Pairwise.nil
theorem cables_more {d0 d1 d2 m : Int} {k : Fin 3} {many more : Nat} (h : many ≤ more) {n : Int} (hn : n ∈ cablesW d0 d1 d2 m k many) : n ∈ cablesW d0 d1 d2 m k more := by
  obtain ⟨a, o, ho, e⟩ := cables_mem.1 hn
  exact cables_mem.2 ⟨a, o, nodes_more h ho, e⟩
theorem cables_same {d0 d1 d2 m o : Int} (h : mayD d0 d1 d2) (hm : 0 ≤ m ∧ m < d0 * d1 * d2) (ho : 0 ≤ o ∧ o < d0 * d1 * d2) (k : Fin 3) (h1 : oneLine d0 d1 d2 m o k = true) :
    cablesW d0 d1 d2 m k (dimAt d0 d1 d2 k).toNat = cablesW d0 d1 d2 o k (dimAt d0 d1 d2 k).toNat := by
  unfold cablesW
  rw [line_same h hm ho k h1]
theorem cables_apart {d0 d1 d2 m o : Int} (h : mayD d0 d1 d2) (hm : 0 ≤ m ∧ m < d0 * d1 * d2) (ho : 0 ≤ o ∧ o < d0 * d1 * d2) (k : Fin 3) (h1 : oneLine d0 d1 d2 m o k = false) {n : Int}
    (ha : n ∈ cablesW d0 d1 d2 m k (dimAt d0 d1 d2 k).toNat) (hb : n ∈ cablesW d0 d1 d2 o k (dimAt d0 d1 d2 k).toNat) : False := by
  obtain ⟨_, p, hp, e⟩ := cables_mem.1 ha
  obtain ⟨_, q, hq, e'⟩ := cables_mem.1 hb
  have := cab_inj (e.symm.trans e')
  have hpq : p = q := by omega
  subst hpq
  exact line_apart h hm ho k h1 hp hq

end Go.Proofs.YtbobfhoimhambaaGreatDoor

/-
  Plain arithmetic of places: which cables a box takes along an axis, as the midplanes of another box; how many there are; where they end. No program is named here.
-/
namespace Go.Proofs.YtbobfhoimhambaaGreatDoor
open Go.RowKit

/-- A midplane's coordinate along an axis. -/
def coK (d0 d1 m : Int) (k : Fin 3) : Int := dimAt (cx d0 m) (cy d0 d1 m) (cz d0 d1 m) k
theorem co_bd {d0 d1 d2 m : Int} (h : mayD d0 d1 d2) (hm : 0 ≤ m ∧ m < d0 * d1 * d2) (k : Fin 3) : 0 ≤ coK d0 d1 m k ∧ coK d0 d1 m k < dimAt d0 d1 d2 k := by
  obtain ⟨a, b, c⟩ := inD_of_node h hm
  rcases fin3 k with rfl | rfl | rfl
  · exact a
  · exact b
  · exact c
theorem co_ext {d0 d1 m n : Int} (h : ∀ k, coK d0 d1 m k = coK d0 d1 n k) : m = n := node_ext (d0 := d0) (d1 := d1) (h 0) (h 1) (h 2)
theorem co_on {d0 d1 d2 m : Int} (h : mayD d0 d1 d2) (hm : 0 ≤ m ∧ m < d0 * d1 * d2) (k : Fin 3) (n : Int) (j : Fin 3) :
    coK d0 d1 (onD d0 d1 d2 m k n) j = if j = k then (coK d0 d1 m k + n) % dimAt d0 d1 d2 k else coK d0 d1 m j := by
  obtain ⟨_, x, y, z⟩ := on_coords h hm k n
  rcases fin3 k with rfl | rfl | rfl <;> rcases fin3 j with rfl | rfl | rfl <;> simp_all [coK, dimAt]
theorem hasB_iff {d0 d1 d2 m : Int} {b : Bx} : hasB d0 d1 d2 b m = true ↔ ∀ k, hasS (dimAt d0 d1 d2 k) (bAt b k) (sAt b k) (coK d0 d1 m k) = true := by
  simp only [hasB, Bool.and_eq_true]
  constructor
  · rintro ⟨⟨a, b⟩, c⟩ k
    rcases fin3 k with rfl | rfl | rfl
    · exact a
    · exact b
    · exact c
  · intro h
    exact ⟨⟨h 0, h 1⟩, h 2⟩

theorem hasS_iff0 {r b s k : Int} (hs : 0 ≤ s ∧ s ≤ r) (hb : 0 ≤ b ∧ b < r) (hk : 0 ≤ k ∧ k < r) : hasS r b s k = true ↔ ∃ j, 0 ≤ j ∧ j < s ∧ (b + j) % r = k := by
  simp only [hasS, decide_eq_true_eq]
  constructor
  · intro ha
    refine ⟨aft r b k, (aft_bd hb hk).1, ha, ?_⟩
    rw [on_rem hb (aft_bd hb hk)]
    unfold aft
    split <;> split <;> omega
  · rintro ⟨j, j0, j1, hj⟩
    rw [on_rem hb ⟨j0, by omega⟩] at hj
    unfold aft
    split at hj <;> split <;> omega

/-- The box with another size along an axis. -/
def upB (b : Bx) (z : Int) (k : Fin 3) : Bx := match k with | 0 => ⟨b.x, b.y, b.z, z, b.b, b.c⟩ | 1 => ⟨b.x, b.y, b.z, b.a, z, b.c⟩ | 2 => ⟨b.x, b.y, b.z, b.a, b.b, z⟩
theorem upB_b (b : Bx) (z : Int) (k j : Fin 3) : bAt (upB b z k) j = bAt b j := by
  rcases fin3 k with rfl | rfl | rfl <;> rcases fin3 j with rfl | rfl | rfl <;> rfl
theorem upB_s (b : Bx) (z : Int) (k j : Fin 3) : sAt (upB b z k) j = if j = k then z else sAt b j := by
  rcases fin3 k with rfl | rfl | rfl <;> rcases fin3 j with rfl | rfl | rfl <;> rfl
theorem upB_has {d0 d1 d2 m : Int} {b : Bx} {z : Int} {k : Fin 3} : hasB d0 d1 d2 (upB b z k) m = true ↔
    hasS (dimAt d0 d1 d2 k) (bAt b k) z (coK d0 d1 m k) = true ∧ ∀ j, j ≠ k → hasS (dimAt d0 d1 d2 j) (bAt b j) (sAt b j) (coK d0 d1 m j) = true := by
  rw [hasB_iff]
  constructor
  · intro h
    refine ⟨?_, fun j hj => ?_⟩
    · have := h k
      rw [upB_b, upB_s, if_pos rfl] at this
      exact this
    · have := h j
      rw [upB_b, upB_s, if_neg hj] at this
      exact this
  · rintro ⟨h1, h2⟩ j
    rw [upB_b, upB_s]
    by_cases hj : j = k
    · subst hj; rw [if_pos rfl]; exact h1
    · rw [if_neg hj]; exact h2 j hj

/-- The cables that a box takes along an axis, from its lines' first midplanes on: those that go from the midplanes of a box. -/
theorem line_mem {d0 d1 d2 : Int} {b : Bx} (h : mayD d0 d1 d2) (hb : mayB d0 d1 d2 b) (k : Fin 3) {z : Int} (hz : 0 ≤ z ∧ z ≤ dimAt d0 d1 d2 k) {n : Int} :
    (∃ m, (0 ≤ m ∧ m < d0 * d1 * d2) ∧ hasB d0 d1 d2 b m = true ∧ coK d0 d1 m k = bAt b k ∧ n ∈ cablesW d0 d1 d2 m k z.toNat) ↔
    (1 < dimAt d0 d1 d2 k ∧ ∃ o, (0 ≤ o ∧ o < d0 * d1 * d2) ∧ hasB d0 d1 d2 (upB b z k) o = true ∧ n = cabW d0 d1 d2 k o) := by
  have hd := dimAt_ok h k
  unfold okD at hd
  have hbk := (mayB_at hb k).2
  constructor
  · rintro ⟨m, hm, hbm, hco, hn⟩
    obtain ⟨h1, o, ho, rfl⟩ := cables_mem.1 hn
    obtain ⟨hoN, i, hi, e⟩ := nodes_mem.1 ho
    refine ⟨h1, (o : Int), ⟨by omega, hoN⟩, ?_, rfl⟩
    rw [upB_has]
    have hc := co_on h hm k (i : Int)
    rw [e] at hc
    refine ⟨?_, fun j hj => ?_⟩
    · rw [hasS_iff0 hz hbk (co_bd h ⟨by omega, hoN⟩ k)]
      refine ⟨(i : Int), by omega, by omega, ?_⟩
      rw [hc k, if_pos rfl, hco]
    · rw [hc j, if_neg hj]
      exact hasB_iff.1 hbm j
  · rintro ⟨h1, o, ho, hbo, rfl⟩
    obtain ⟨u1, u2⟩ := upB_has.1 hbo
    obtain ⟨i, i0, i1, hi⟩ := (hasS_iff0 hz hbk (co_bd h ho k)).1 u1
    have hm := on_node h ho k (-i)
    have hc := co_on h ho k (-i)
    have ek : coK d0 d1 (onD d0 d1 d2 o k (-i)) k = bAt b k := by
      rw [hc k, if_pos rfl, ← hi, Int.emod_add_emod, show bAt b k + i + -i = bAt b k by omega, Int.emod_eq_of_lt hbk.1 hbk.2]
    refine ⟨onD d0 d1 d2 o k (-i), hm, ?_, ek, ?_⟩
    · rw [hasB_iff]
      intro j
      by_cases hj : j = k
      · subst hj
        rw [ek]
        exact hasS_base (mayB_at hb j)
      · rw [hc j, if_neg hj]
        exact u2 j hj
    · refine cables_mem.2 ⟨h1, o.toNat, nodes_mem.2 ⟨by omega, i.toNat, by omega, ?_⟩, by rw [Int.toNat_of_nonneg ho.1]⟩
      rw [Int.toNat_of_nonneg i0, Int.toNat_of_nonneg ho.1, on_on h ho, show -i + i = 0 by omega]
      exact on_round h ho k 0 (.inl rfl)

/-- From how many midplanes of each of its lines the cables that a place takes go. -/
def runS (r s : Int) (t : Bool) : Int := if t = true then r else s - 1
theorem runS_bd {r s : Int} (t : Bool) (h : 1 ≤ s ∧ s ≤ r) : 0 ≤ runS r s t ∧ runS r s t ≤ r := by unfold runS; split <;> omega
def tK (t0 t1 t2 : Bool) (k : Fin 3) : Bool := match k with | 0 => t0 | 1 => t1 | 2 => t2

/-- A mesh takes none that it does not take as a torus. -/
theorem mesh_in {d0 d1 d2 m : Int} {b : Bx} (h : mayD d0 d1 d2) (hb : mayB d0 d1 d2 b) (hm : 0 ≤ m ∧ m < d0 * d1 * d2) (k : Fin 3) (t : Bool)
    (hu : hasB d0 d1 d2 (upB b (runS (dimAt d0 d1 d2 k) (sAt b k) false) k) m = true) : hasB d0 d1 d2 (upB b (runS (dimAt d0 d1 d2 k) (sAt b k) t) k) m = true := by
  obtain ⟨u1, u2⟩ := upB_has.1 hu
  refine upB_has.2 ⟨?_, u2⟩
  have hs := (mayB_at hb k).1
  have hbd := aft_bd (mayB_at hb k).2 (co_bd h hm k)
  have e0 : runS (dimAt d0 d1 d2 k) (sAt b k) false = sAt b k - 1 := by simp [runS]
  rw [e0] at u1
  unfold hasS at u1 ⊢
  rw [decide_eq_true_eq] at u1 ⊢
  unfold runS
  split <;> omega
/-- Both ends of a mesh's cable are its own. -/
theorem mesh_ends {d0 d1 d2 m : Int} {b : Bx} (h : mayD d0 d1 d2) (hb : mayB d0 d1 d2 b) (hm : 0 ≤ m ∧ m < d0 * d1 * d2) (k : Fin 3)
    (hu : hasB d0 d1 d2 (upB b (runS (dimAt d0 d1 d2 k) (sAt b k) false) k) m = true) : hasB d0 d1 d2 b m = true ∧ hasB d0 d1 d2 b (onD d0 d1 d2 m k 1) = true := by
  obtain ⟨u1, u2⟩ := upB_has.1 hu
  have hs := (mayB_at hb k).1
  have hbk := (mayB_at hb k).2
  have hco := co_bd h hm k
  have hc := co_on h hm k 1
  simp only [runS] at u1
  simp at u1
  constructor
  · rw [hasB_iff]
    intro j
    by_cases hj : j = k
    · subst hj
      simp only [hasS, decide_eq_true_eq] at u1 ⊢
      omega
    · exact u2 j hj
  · rw [hasB_iff]
    intro j
    by_cases hj : j = k
    · subst hj
      rw [hc j, if_pos rfl]
      obtain ⟨i, i0, i1, hi⟩ := (hasS_iff0 (by omega) hbk hco).1 u1
      rw [hasS_iff (mayB_at hb j) ⟨Int.emod_nonneg _ (by omega), Int.emod_lt_of_pos _ (by omega)⟩]
      refine ⟨i + 1, by omega, by omega, ?_⟩
      rw [← hi, Int.emod_add_emod, Int.add_assoc]
    · rw [hc j, if_neg hj]
      exact u2 j hj

/-- How many of a ring a side has. -/
theorem side_count : ∀ r : Nat, r < 17 → ∀ b : Nat, b < r → ∀ s : Nat, s < r + 1 → ((List.range r).filter fun j : Nat => hasS (r : Int) (b : Int) (s : Int) (j : Int)).length = s := by decide +kernel

end Go.Proofs.YtbobfhoimhambaaGreatDoor

/-
  Lists of whole numbers in memory that a call made: they stay behind what leaves old memory as it lay; tidehallref02.Ints compares two of them.
-/
namespace Go.Proofs.YtbobfhoimhambaaGreatDoor
open Go Go.RowKit Go.Shelf

attribute [local go_sem] Oper.semAt_some ext_const

/-- The slice v holds the numbers xs, in a block of its own from number base on. -/
def Lst (W : World) (base : Nat) (v : Value) (xs : List Int) : Prop := W.ownsRow base 3 1 v xs.length (xs.map (Value.int .i64))

theorem Lst.nil (W : World) (base : Nat) : Lst W base (.slice none 0 0) [] := World.ownsRow_nil _ _ _ _
theorem Lst.later {W W' : World} {base : Nat} {v : Value} {xs : List Int} (h : Lst W base v xs) (hb : Below W.heap.size W W') : Lst W' base v xs := by
  obtain ⟨h1, h2⟩ := h
  refine ⟨h1, ?_⟩
  rcases h2 with h2 | ⟨g, cap, cur, e, hg, hh, r⟩
  · exact .inl h2
  · exact .inr ⟨g, cap, cur, e, hg, (hb.block g (Array.getElem?_eq_some_iff.1 hh).1).trans hh, r⟩
theorem Lst.weak {W : World} {base base' : Nat} {v : Value} {xs : List Int} (h : Lst W base v xs) (hb : base' ≤ base) : Lst W base' v xs := by
  obtain ⟨h1, h2⟩ := h
  refine ⟨h1, ?_⟩
  rcases h2 with h2 | ⟨g, cap, cur, e, hg, r⟩
  · exact .inl h2
  · exact .inr ⟨g, cap, cur, e, Nat.le_trans hb hg, r⟩

/-- What a walk asks of a list that it reads. -/
theorem Lst.view {W : World} {base : Nat} {v : Value} {xs : List Int} (h : Lst W base v xs) :
    ∃ ao cap, v = .slice ao xs.length cap ∧ ∀ k : Nat, k < xs.length → ∃ g cur, ao = some ⟨g, 0, none⟩ ∧ Blk W g 3 cur ∧ cur[k]? = some (I (xs.getD k 0)) := by
  obtain ⟨h1, h2⟩ := h
  rcases h2 with ⟨rfl, hn⟩ | ⟨g, cap, cur, rfl, hg, hh, hc, hc2, hs, ht⟩
  · exact ⟨none, 0, by rw [hn], fun k hk => by omega⟩
  · refine ⟨_, cap, rfl, fun k hk => ⟨g, cur, rfl, hh, ?_⟩⟩
    have := congrArg (fun l => l[k]?) ht
    simp only [Nat.mul_one, List.getElem?_take_of_lt hk, List.getElem?_map, Array.getElem?_toList] at this
    rw [this, List.getElem?_eq_getElem hk]
    simp [hk]

theorem info_int : (Tryz.prog.info? 3).map (fun i => (i.zero, i.size, i.bytes)) = some (some (.int .i64 0), 1, 8) := by kernel_rfl

/-- 'list = append(list, y)', the list a call's own. -/
theorem wpList_app {ops : Array Oper} {rest : List Oper} {o : Oper} {a : Act} {Q : Exit → Act → World → Prop} {W : World} {base : Nat} {v : Value} {xs : List Int} {y : Int} (hgd : o.guard = none) (s x : Operand)
    (ho : o.op = .call { callee := .builtin .append, args := #[s, x], argTypes := #[36, 36] }) (hs : a.eval s = v) (hx : a.eval x = .slice (some ⟨W.heap.size, 0, none⟩) 1 1)
    (hown : Lst W base v xs) (hl : xs.length ≤ 100000) (hb : base ≤ W.heap.size)
    (h : ∀ v' w', Lst w' base v' (xs ++ [y]) → Below base W w' → wpList Tryz.prog ops Q rest (a.put o.dst v') w') : wpList Tryz.prog ops Q (o :: rest) a (W.alloc (.cells #[.int .i64 y] 3)) := by
  obtain ⟨i0, hi, hz0, hz1, hz2⟩ := info_parts info_int
  refine wpList_append_own (w := W.alloc (.cells #[.int .i64 y] 3)) hgd s x 36 ho base 3 i0 (.int .i64 0) 1 8 Tryz.underlying36 hi hz0 hz1 hz2 rfl (by decide) v xs.length _ hs (hown.alloc _) ⟨W.heap.size, 0, none⟩ 1 1 [.int .i64 y] hx rfl ?_ ?_ ?_ ?_ ?_ ?_
  · intro j u hj
    match j, hj with
    | 0, hj => simp at hj; subst hj; simp [Addr.add]
  · intro u hu; simp at hu; subst hu; rfl
  · unfold maxLen; omega
  · omega
  · simp; omega
  · intro v' w1 hown' hgrow _
    refine h v' w1 ?_ ?_
    · unfold Lst
      rw [List.map_append, List.length_append]
      exact hown'
    · exact ((Below.refl base W).alloc hb _).grown hgrow (by simp; omega) (fun k hk => (hown.lt k hk).1)

/-- 'make([]int, 0, n)'. -/
theorem wpList_mk {ops : Array Oper} {rest : List Oper} {o : Oper} {a : Act} {Q : Exit → Act → World → Prop} {W : World} {base : Nat} (hgd : o.guard = none) (l c : Operand) (ho : o.op = Op.makeSlice 36 l c) (n : Int)
    (hl : a.eval l = .int .i64 0) (hc : a.eval c = .int .i64 n) (h0 : 0 ≤ n) (h1 : n ≤ 100000) (hb : base ≤ W.heap.size)
    (h : ∀ v' w', Lst w' base v' [] → Below base W w' → wpList Tryz.prog ops Q rest (a.put o.dst v') w') : wpList Tryz.prog ops Q (o :: rest) a W := by
  obtain ⟨i0, hi, hz0, hz1, hz2⟩ := info_parts info_int
  refine wpList_make_own W hgd l c 36 ho base 3 i0 (.int .i64 0) 1 Tryz.underlying36 hi hz0 hz1 .i64 .i64 n n.toNat hl hc (by omega) (by rw [hz2]; omega) (by unfold maxLen; omega) hb ?_
  intro w' h1 h2
  exact h _ w' h1 ((Below.refl base W).grown h2 hb (fun k hk => by cases hk))

theorem take_eq_succ {xs ys : List Int} {k : Nat} (hx : k < xs.length) (hy : k < ys.length) (h : xs.take k = ys.take k) (he : xs.getD k 0 = ys.getD k 0) : xs.take (k + 1) = ys.take (k + 1) := by
  rw [List.take_succ_eq_append_getElem hx, List.take_succ_eq_append_getElem hy, h]
  simp [hx, hy] at he
  rw [he]

set_option maxRecDepth 100000 in
set_option maxHeartbeats 2000000 in
theorem ints_calls {xs ys : List Int} {u v : Value} {b1 b2 : Nat} (w : World) (hu : Lst w b1 u xs) (hv : Lst w b2 v ys) (hx : xs.length ≤ 4096) :
    Calls Tryz.prog 13 #[u, v] w fun e W' => e = .returned (.bool (decide (xs = ys))) ∧ Below w.heap.size w W' := by
  have hmx : Tryz.prog.follows .mixedOrders = true := by kernel_rfl
  obtain ⟨ao, cap, rfl, hA⟩ := hu.view
  obtain ⟨ao', cap', rfl, hB⟩ := hv.view
  have HA : Hid (∀ k : Nat, k < xs.length → ∃ g cur, ao = some ⟨g, 0, none⟩ ∧ Blk w g 3 cur ∧ cur[k]? = some (I (xs.getD k 0))) := hA
  have HB : Hid (∀ k : Nat, k < ys.length → ∃ g cur, ao' = some ⟨g, 0, none⟩ ∧ Blk w g 3 cur ∧ cur[k]? = some (I (ys.getD k 0))) := hB
  clear hu hv hA hB
  obtain ⟨ans, hans⟩ : ∃ ans, ans = decide (xs = ys) := ⟨_, rfl⟩
  rw [← hans]
  have HS : Hid (ans = decide (xs = ys)) := hans
  clear hans
  by_cases hl : (xs.length : Int) = ys.length
  · have hl' : ys.length = xs.length := by omega
    clear hl
    rw [hl'] at HB ⊢
    have HL : Hid (ys.length = xs.length) := hl'
    clear hl'
    go_enter Tryz.func13, Tryz.ntmps13
    go_wp2
    go_loopw [5] (fun i wr => ∃ k : Nat, k ≤ xs.length ∧ i = .int .i64 k ∧ Hid (xs.take k = ys.take k) ∧ Below w.heap.size w wr) (fun i _ => xs.length - (intOf i).toNat)
    case atStart => exact ⟨0, by omega, rfl, by show _ = _; simp, Below.refl _ _⟩
    case round =>
      obtain ⟨k, hk, rfl, HT, hT⟩ := hrel
      by_cases hlt : (k : Int) < (xs.length : Int)
      · have hkx : k < xs.length := by omega
        obtain ⟨g, cur, rfl, hg, hc⟩ := HA.out k hkx
        obtain ⟨g', cur', rfl, hg', hc'⟩ := HB.out k (by have := HL.out; omega)
        have e0 := Ext.cell (hg.later hT) k
        have e1 := Ext.cell (hg'.later hT) k
        rw [hc] at e0
        rw [hc'] at e1
        have HE : Hid (xs.getD k 0 = ys.getD k 0 → xs.take (k + 1) = ys.take (k + 1)) := take_eq_succ hkx (by have := HL.out; omega) HT.out
        have HD : Hid (xs.getD k 0 ≠ ys.getD k 0 → ans = false) := fun hne => by rw [HS.out, decide_eq_false_iff_not]; intro he; exact hne (by rw [he])
        clear hg hg' hc hc'
        generalize xs.getD k 0 = x at e0 HE HD
        generalize ys.getD k 0 = y at e1 HE HD
        cases hq : (x != y)
        · go_wp2
          refine wp_region_look hmx (by kernel_rfl) ?_
          repeat (go_big_quiet_step (fail))
          refine wpQuiet_nil ?_
          intro v
          go_wp2
          go_roundw
          case rel => exact ⟨k + 1, by omega, by go_num, HE.out (by simpa using hq), then_below hT v.le⟩
          case measure => simp [intOf]; omega
        · go_wp2
          refine wp_region_look hmx (by kernel_rfl) ?_
          repeat (go_big_quiet_step (fail))
          refine wpQuiet_nil ?_
          intro v
          go_wp2
          go_ret
          exact ⟨by rw [HD.out (by simpa using hq)]; rfl, then_below hT v.le⟩
      · have E : ans = true := by
          rw [HS.out, decide_eq_true_eq]
          have h1 := HT.out
          rwa [List.take_of_length_le (by omega), List.take_of_length_le (by have := HL.out; omega)] at h1
        subst E
        go_wp2
        go_ret
        exact ⟨rfl, hT⟩
  · have E : ans = false := by rw [HS.out, decide_eq_false_iff_not]; intro he; rw [he] at hl; exact hl rfl
    subst E
    go_enter Tryz.func13, Tryz.ntmps13
    go_wp2
    go_ret
    exact ⟨rfl, Below.refl _ _⟩

end Go.Proofs.YtbobfhoimhambaaGreatDoor
