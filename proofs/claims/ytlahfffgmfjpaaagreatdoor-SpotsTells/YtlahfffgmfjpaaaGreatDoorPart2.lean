/-
  Plain arithmetic of cables: which midplanes steps along an axis lead to, listed rising; how many there are; lines are the same or apart. No program is named here.
-/
import Derived.Test.YtlahfffgmfjpaaaGreatDoorPart1
namespace Go.Proofs.YtlahfffgmfjpaaaGreatDoor
open Go.RowKit

theorem emod_inj {c d a b : Int} (hd : 0 < d) (ha : 0 ≤ a ∧ a < d) (hb : 0 ≤ b ∧ b < d) (e : (c + a) % d = (c + b) % d) : a = b := by
  have h1 := Int.emod_add_mul_ediv (c + a) d
  have h2 := Int.emod_add_mul_ediv (c + b) d
  rw [e] at h1
  generalize (c + b) % d = r at h1 h2
  generalize (c + a) / d = p at h1
  generalize (c + b) / d = q at h2
  have h3 : d * (p - q) = a - b := by rw [Int.mul_sub]; omega
  rcases Int.lt_trichotomy (p - q) 0 with h | h | h
  · have := Int.mul_le_mul_of_nonneg_left (show p - q ≤ -1 by omega) (Int.le_of_lt hd)
    omega
  · rw [h] at h3; omega
  · have := Int.mul_le_mul_of_nonneg_left (show 1 ≤ p - q by omega) (Int.le_of_lt hd)
    omega

/-- Two ways of less than the ring's length that lead to one midplane are the same. -/
theorem on_inj {d0 d1 d2 m : Int} (h : mayD d0 d1 d2) (hm : 0 ≤ m ∧ m < d0 * d1 * d2) (k : Fin 3) {a b : Int} (ha : 0 ≤ a ∧ a < dimAt d0 d1 d2 k) (hb : 0 ≤ b ∧ b < dimAt d0 d1 d2 k) (e : onD d0 d1 d2 m k a = onD d0 d1 d2 m k b) : a = b := by
  obtain ⟨_, x1, y1, z1⟩ := on_coords h hm k a
  obtain ⟨_, x2, y2, z2⟩ := on_coords h hm k b
  have hk := dimAt_ok h k
  unfold okD at hk
  rw [e] at x1 y1 z1
  match k, ha, hb, hk, x1, x2, y1, y2, z1, z2 with
  | 0, ha, hb, hk, x1, x2, _, _, _, _ => exact emod_inj (d := d0) (by simp only [dimAt] at hk; omega) ha hb (x1.symm.trans x2)
  | 1, ha, hb, hk, _, _, y1, y2, _, _ => exact emod_inj (d := d1) (by simp only [dimAt] at hk; omega) ha hb (y1.symm.trans y2)
  | 2, ha, hb, hk, _, _, _, _, z1, z2 => exact emod_inj (d := d2) (by simp only [dimAt] at hk; omega) ha hb (z1.symm.trans z2)

/-- One is among so many from another one on. -/
def amongW (d0 d1 d2 m : Int) (k : Fin 3) (many : Nat) (o : Int) : Bool := (List.range many).any fun i => decide (onD d0 d1 d2 m k (i : Int) = o)
theorem among_iff {d0 d1 d2 m : Int} {k : Fin 3} {many : Nat} {o : Int} : amongW d0 d1 d2 m k many o = true ↔ ∃ i : Nat, i < many ∧ onD d0 d1 d2 m k i = o := by
  simp [amongW, List.any_eq_true]

/-- Those, rising. -/
def nodesW (d0 d1 d2 m : Int) (k : Fin 3) (many : Nat) : List Nat := (List.range (d0 * d1 * d2).toNat).filter fun o => amongW d0 d1 d2 m k many (o : Int)
theorem nodes_rise (d0 d1 d2 m : Int) (k : Fin 3) (many : Nat) : (nodesW d0 d1 d2 m k many).Pairwise (· < ·) := (List.pairwise_lt_range).filter _
theorem nodes_mem {d0 d1 d2 m : Int} {k : Fin 3} {many : Nat} {o : Nat} : o ∈ nodesW d0 d1 d2 m k many ↔ (o : Int) < d0 * d1 * d2 ∧ ∃ i : Nat, i < many ∧ onD d0 d1 d2 m k i = (o : Int) := by
  unfold nodesW
  rw [List.mem_filter, List.mem_range, among_iff]
  constructor
  · rintro ⟨a, b⟩; exact ⟨by omega, b⟩
  · rintro ⟨a, b⟩; exact ⟨by omega, b⟩

theorem lenN_le : ∀ (a b : List Nat), a.Nodup → (∀ x ∈ a, x ∈ b) → a.length ≤ b.length
  | [], b, _, _ => Nat.zero_le _
  | x :: a, b, hn, hs => by
    have hx := hs x (by simp)
    have ih := lenN_le a (b.erase x) (List.nodup_cons.1 hn).2 fun y hy => by
      have hne : y ≠ x := fun e => (List.nodup_cons.1 hn).1 (e ▸ hy)
      exact (List.mem_erase_of_ne hne).2 (hs y (by simp [hy]))
    rw [List.length_erase_of_mem hx] at ih
    have : 0 < b.length := List.length_pos_of_mem hx
    simp only [List.length_cons]
    omega
/-- There are as many as steps. -/
theorem nodes_len {d0 d1 d2 m : Int} (h : mayD d0 d1 d2) (hm : 0 ≤ m ∧ m < d0 * d1 * d2) (k : Fin 3) {many : Nat} (hk : (many : Int) ≤ dimAt d0 d1 d2 k) : (nodesW d0 d1 d2 m k many).length = many := by
  have hn1 : (nodesW d0 d1 d2 m k many).Nodup := (nodes_rise d0 d1 d2 m k many).imp fun hab e => by omega
  have hn2 : ((List.range many).map fun i : Nat => (onD d0 d1 d2 m k (i : Int)).toNat).Nodup := by
    refine List.pairwise_map.2 ?_
    refine (List.pairwise_lt_range (n := many)).imp_of_mem fun {a b} ha hb hab e => ?_
    have ha' := List.mem_range.1 ha
    have hb' := List.mem_range.1 hb
    have n1 := on_node h hm k (a : Int)
    have n2 := on_node h hm k (b : Int)
    have := on_inj h hm k (a := (a : Int)) (b := (b : Int)) (by omega) (by omega) (by omega)
    omega
  have e : ∀ x, x ∈ nodesW d0 d1 d2 m k many ↔ x ∈ (List.range many).map fun i : Nat => (onD d0 d1 d2 m k (i : Int)).toNat := by
    intro x
    rw [nodes_mem, List.mem_map]
    constructor
    · rintro ⟨_, i, hi, ei⟩
      exact ⟨i, List.mem_range.2 hi, by rw [ei]; exact Int.toNat_natCast x⟩
    · rintro ⟨i, hi, rfl⟩
      have n1 := on_node h hm k (i : Int)
      exact ⟨by omega, i, List.mem_range.1 hi, by omega⟩
  have l1 := lenN_le _ _ hn1 fun x hx => (e x).1 hx
  have l2 := lenN_le _ _ hn2 fun x hx => (e x).2 hx
  simp only [List.length_map, List.length_range] at l1 l2
  omega
/-- Steps along the axis lead from one to the other. -/
def oneLine (d0 d1 d2 m o : Int) (k : Fin 3) : Bool := amongW d0 d1 d2 m k (dimAt d0 d1 d2 k).toNat o
/-- A cable's number. -/
def cabW (d0 d1 d2 : Int) (k : Fin 3) (o : Int) : Int := axI k * (d0 * d1 * d2) + o
theorem cab_inj {d0 d1 d2 o p : Int} {k : Fin 3} (e : cabW d0 d1 d2 k o = cabW d0 d1 d2 k p) : o = p := by
  unfold cabW at e
  omega

/-- The cables from so many midplanes on, rising; none, if there is but one along the axis. -/
def cablesW (d0 d1 d2 m : Int) (k : Fin 3) (many : Nat) : List Int := if 1 < dimAt d0 d1 d2 k then (nodesW d0 d1 d2 m k many).map (fun o : Nat => cabW d0 d1 d2 k (o : Int)) else []
theorem cables_mem {d0 d1 d2 m : Int} {k : Fin 3} {many : Nat} {n : Int} : n ∈ cablesW d0 d1 d2 m k many ↔ 1 < dimAt d0 d1 d2 k ∧ ∃ o ∈ nodesW d0 d1 d2 m k many, n = cabW d0 d1 d2 k (o : Int) := by
  unfold cablesW
  split
  · rename_i h
    rw [List.mem_map]
    constructor
    · rintro ⟨o, ho, e⟩; exact ⟨h, o, ho, e.symm⟩
    · rintro ⟨_, o, ho, e⟩; exact ⟨o, ho, e.symm⟩
  · rename_i h
    simp [h]
theorem cables_len {d0 d1 d2 m : Int} (h : mayD d0 d1 d2) (hm : 0 ≤ m ∧ m < d0 * d1 * d2) (k : Fin 3) {many : Nat} (hk : (many : Int) ≤ dimAt d0 d1 d2 k) :
    (cablesW d0 d1 d2 m k many).length = if 1 < dimAt d0 d1 d2 k then many else 0 := by
  unfold cablesW
  split
  · rw [List.length_map, nodes_len h hm k hk]
  · rfl
theorem cables_rise (d0 d1 d2 m : Int) (k : Fin 3) (many : Nat) : (cablesW d0 d1 d2 m k many).Pairwise (· < ·) := by
  unfold cablesW
  split
  · refine List.pairwise_map.2 ((nodes_rise d0 d1 d2 m k many).imp fun {a b} hab => ?_)
    unfold cabW
    omega
  · exact List.Pairwise.nil
end Go.Proofs.YtlahfffgmfjpaaaGreatDoor

/-
  Boxes that wrap, as plain arithmetic: sides on a ring, the midplanes of a box, when two meet, when one lies in another, when they are the same.
-/
namespace Go.Proofs.YtlahfffgmfjpaaaGreatDoor

/-- A box: where it begins, and how much it has along each axis. -/
structure Bx where
  x : Int
  y : Int
  z : Int
  a : Int
  b : Int
  c : Int
abbrev B6 (b : Bx) : Value := .agg #[.int .i64 b.x, .int .i64 b.y, .int .i64 b.z, .int .i64 b.a, .int .i64 b.b, .int .i64 b.c]

/-- A side: ring r, beginning at b, s of it. -/
def mayS (r b s : Int) : Prop := (1 ≤ s ∧ s ≤ r) ∧ (0 ≤ b ∧ b < r)
def maySB (r b s : Int) : Bool := decide (1 ≤ s) && (decide (s ≤ r) && (decide (0 ≤ b) && decide (b < r)))
theorem maySB_iff (r b s : Int) : maySB r b s = true ↔ mayS r b s := by simp [maySB, mayS, and_assoc]
def aft (r b k : Int) : Int := if b ≤ k then k - b else k - b + r
def hasS (r b s k : Int) : Bool := decide (aft r b k < s)
def meetS (r b s b' s' : Int) : Bool := hasS r b s b' || hasS r b' s' b
def inS (r b s b' s' : Int) : Bool := s' == r || decide (aft r b' b + s ≤ s')

theorem aft_bd {r b k : Int} (hb : 0 ≤ b ∧ b < r) (hk : 0 ≤ k ∧ k < r) : 0 ≤ aft r b k ∧ aft r b k < r := by unfold aft; split <;> omega
theorem aft_rem {r b k : Int} (hb : 0 ≤ b ∧ b < r) (hk : 0 ≤ k ∧ k < r) : (k - b + r) % r = aft r b k := by
  unfold aft
  split
  · rw [Int.add_emod_right, Int.emod_eq_of_lt (by omega) (by omega)]
  · rw [Int.emod_eq_of_lt (by omega) (by omega)]
theorem on_rem {r b k : Int} (hb : 0 ≤ b ∧ b < r) (hk : 0 ≤ k ∧ k < r) : (b + k) % r = if b + k < r then b + k else b + k - r := by
  split
  · rw [Int.emod_eq_of_lt (by omega) (by omega)]
  · rw [show b + k = (b + k - r) + r by omega, Int.add_emod_right, Int.emod_eq_of_lt (by omega) (by omega)]; omega

/-- What a side has, a step after another. -/
theorem hasS_iff {r b s k : Int} (h : mayS r b s) (hk : 0 ≤ k ∧ k < r) : hasS r b s k = true ↔ ∃ j, 0 ≤ j ∧ j < s ∧ (b + j) % r = k := by
  obtain ⟨⟨h1, h2⟩, h3, h4⟩ := h
  simp only [hasS, decide_eq_true_eq]
  constructor
  · intro ha
    refine ⟨aft r b k, (aft_bd ⟨h3, h4⟩ hk).1, ha, ?_⟩
    rw [on_rem ⟨h3, h4⟩ (aft_bd ⟨h3, h4⟩ hk)]
    unfold aft
    split <;> split <;> omega
  · rintro ⟨j, j0, j1, hj⟩
    rw [on_rem ⟨h3, h4⟩ ⟨j0, by omega⟩] at hj
    unfold aft
    split at hj <;> split <;> omega
theorem hasS_base {r b s : Int} (h : mayS r b s) : hasS r b s b = true := by
  obtain ⟨⟨h1, h2⟩, h3, h4⟩ := h
  simp [hasS, aft]; omega

def okDB (d0 d1 d2 : Int) : Bool := decide (1 ≤ d0) && decide (d0 ≤ 16) && (decide (1 ≤ d1) && decide (d1 ≤ 16)) && (decide (1 ≤ d2) && decide (d2 ≤ 16))
theorem okDB_iff (d0 d1 d2 : Int) : okDB d0 d1 d2 = true ↔ mayD d0 d1 d2 := by simp [okDB, mayD, okD, and_assoc]

/-- A box may be. -/
def mayB (d0 d1 d2 : Int) (b : Bx) : Prop := mayS d0 b.x b.a ∧ mayS d1 b.y b.b ∧ mayS d2 b.z b.c
def mayBB (d0 d1 d2 : Int) (b : Bx) : Bool := maySB d0 b.x b.a && maySB d1 b.y b.b && maySB d2 b.z b.c
theorem mayBB_iff (d0 d1 d2 : Int) (b : Bx) : mayBB d0 d1 d2 b = true ↔ mayB d0 d1 d2 b := by simp [mayBB, mayB, maySB_iff, and_assoc]
theorem mayBB_no {d0 d1 d2 : Int} {b : Bx} (h : ¬ mayB d0 d1 d2 b) : mayBB d0 d1 d2 b = false := by
  rw [← Bool.not_eq_true, mayBB_iff]; exact h

abbrev bAt (b : Bx) (k : Fin 3) : Int := dimAt b.x b.y b.z k
abbrev sAt (b : Bx) (k : Fin 3) : Int := dimAt b.a b.b b.c k
theorem mayB_at {d0 d1 d2 : Int} {b : Bx} (h : mayB d0 d1 d2 b) (k : Fin 3) : mayS (dimAt d0 d1 d2 k) (bAt b k) (sAt b k) := by
  match k with
  | 0 => exact h.1
  | 1 => exact h.2.1
  | 2 => exact h.2.2

def canonB (d0 d1 d2 : Int) (b : Bx) : Bx := ⟨if b.a = d0 then 0 else b.x, if b.b = d1 then 0 else b.y, if b.c = d2 then 0 else b.z, b.a, b.b, b.c⟩
def hasB (d0 d1 d2 : Int) (b : Bx) (m : Int) : Bool := hasS d0 b.x b.a (cx d0 m) && hasS d1 b.y b.b (cy d0 d1 m) && hasS d2 b.z b.c (cz d0 d1 m)
def meetB (d0 d1 d2 : Int) (a b : Bx) : Bool := meetS d0 a.x a.a b.x b.a && meetS d1 a.y a.b b.y b.b && meetS d2 a.z a.c b.z b.c
def inB (d0 d1 d2 : Int) (a b : Bx) : Bool := inS d0 a.x a.a b.x b.a && inS d1 a.y a.b b.y b.b && inS d2 a.z a.c b.z b.c

theorem hasB_num {d0 d1 d2 p q r : Int} {b : Bx} (h : mayD d0 d1 d2) (hp : inD d0 d1 d2 p q r) : hasB d0 d1 d2 b (numD d0 d1 p q r) = (hasS d0 b.x b.a p && hasS d1 b.y b.b q && hasS d2 b.z b.c r) := by
  obtain ⟨_, hx, hy, hz⟩ := node_of_in h hp
  rw [hasB, hx, hy, hz]

def manyB (b : Bx) : Int := b.a * b.b * b.c
end Go.Proofs.YtlahfffgmfjpaaaGreatDoor

/-
  Plain arithmetic of places: which cables a box takes along an axis, as the midplanes of another box; how many there are; where they end. No program is named here.
-/
namespace Go.Proofs.YtlahfffgmfjpaaaGreatDoor
open Go.RowKit

/-- A midplane's coordinate along an axis. -/
def coK (d0 d1 m : Int) (k : Fin 3) : Int := dimAt (cx d0 m) (cy d0 d1 m) (cz d0 d1 m) k
theorem co_bd {d0 d1 d2 m : Int} (h : mayD d0 d1 d2) (hm : 0 ≤ m ∧ m < d0 * d1 * d2) (k : Fin 3) : 0 ≤ coK d0 d1 m k ∧ coK d0 d1 m k < dimAt d0 d1 d2 k := by
  obtain ⟨a, b, c⟩ := inD_of_node h hm
  rcases fin3 k with rfl | rfl | rfl
  · exact a
  · exact b
  · exact c
theorem co_on {d0 d1 d2 m : Int} (h : mayD d0 d1 d2) (hm : 0 ≤ m ∧ m < d0 * d1 * d2) (k : Fin 3) (n : Int) (j : Fin 3) :
    coK d0 d1 (onD d0 d1 d2 m k n) j = if j = k then (coK d0 d1 m k + n) % dimAt d0 d1 d2 k else coK d0 d1 m j := by
  obtain ⟨_, x, y, z⟩ := on_coords h hm k n
  rcases fin3 k with rfl | rfl | rfl <;> rcases fin3 j with rfl | rfl | rfl <;> simp_all [coK, dimAt]
theorem hasB_iff {d0 d1 d2 m : Int} {b : Bx} : hasB d0 d1 d2 b m = true ↔ ∀ k, hasS (dimAt d0 d1 d2 k) (bAt b k) (sAt b k) (coK d0 d1 m k) = true := by
  simp only [hasB, Bool.and_eq_true]
  constructor
  · rintro ⟨⟨a, b⟩, c⟩ k
    rcases fin3 k with rfl | rfl | rfl
    · exact a
    · exact b
    · exact c
  · intro h
    exact ⟨⟨h 0, h 1⟩, h 2⟩

theorem hasS_iff0 {r b s k : Int} (hs : 0 ≤ s ∧ s ≤ r) (hb : 0 ≤ b ∧ b < r) (hk : 0 ≤ k ∧ k < r) : hasS r b s k = true ↔ ∃ j, 0 ≤ j ∧ j < s ∧ (b + j) % r = k := by
  simp only [hasS, decide_eq_true_eq]
  constructor
  · intro ha
    refine ⟨aft r b k, (aft_bd hb hk).1, ha, ?_⟩
    rw [on_rem hb (aft_bd hb hk)]
    unfold aft
    split <;> split <;> omega
  · rintro ⟨j, j0, j1, hj⟩
    rw [on_rem hb ⟨j0, by omega⟩] at hj
    unfold aft
    split at hj <;> split <;> omega

/-- The box with another size along an axis. -/
def upB (b : Bx) (z : Int) (k : Fin 3) : Bx := match k with | 0 => ⟨b.x, b.y, b.z, z, b.b, b.c⟩ | 1 => ⟨b.x, b.y, b.z, b.a, z, b.c⟩ | 2 => ⟨b.x, b.y, b.z, b.a, b.b, z⟩
theorem upB_b (b : Bx) (z : Int) (k j : Fin 3) : bAt (upB b z k) j = bAt b j := by
  rcases fin3 k with rfl | rfl | rfl <;> rcases fin3 j with rfl | rfl | rfl <;> rfl
theorem upB_s (b : Bx) (z : Int) (k j : Fin 3) : sAt (upB b z k) j = if j = k then z else sAt b j := by
  rcases fin3 k with rfl | rfl | rfl <;> rcases fin3 j with rfl | rfl | rfl <;> rfl
theorem upB_has {d0 d1 d2 m : Int} {b : Bx} {z : Int} {k : Fin 3} : hasB d0 d1 d2 (upB b z k) m = true ↔
    hasS (dimAt d0 d1 d2 k) (bAt b k) z (coK d0 d1 m k) = true ∧ ∀ j, j ≠ k → hasS (dimAt d0 d1 d2 j) (bAt b j) (sAt b j) (coK d0 d1 m j) = true := by
  rw [hasB_iff]
  constructor
  · intro h
    refine ⟨?_, fun j hj => ?_⟩
    · have := h k
      rw [upB_b, upB_s, if_pos rfl] at this
      exact this
    · have := h j
      rw [upB_b, upB_s, if_neg hj] at this
      exact this
  · rintro ⟨h1, h2⟩ j
    rw [upB_b, upB_s]
    by_cases hj : j = k
    · subst hj; rw [if_pos rfl]; exact h1
    · rw [if_neg hj]; exact h2 j hj

/-- The cables that a box takes along an axis, from its lines' first midplanes on: those that go from the midplanes of a box. -/
theorem line_mem {d0 d1 d2 : Int} {b : Bx} (h : mayD d0 d1 d2) (hb : mayB d0 d1 d2 b) (k : Fin 3) {z : Int} (hz : 0 ≤ z ∧ z ≤ dimAt d0 d1 d2 k) {n : Int} :
    (∃ m, (0 ≤ m ∧ m < d0 * d1 * d2) ∧ hasB d0 d1 d2 b m = true ∧ coK d0 d1 m k = bAt b k ∧ n ∈ cablesW d0 d1 d2 m k z.toNat) ↔
    (1 < dimAt d0 d1 d2 k ∧ ∃ o, (0 ≤ o ∧ o < d0 * d1 * d2) ∧ hasB d0 d1 d2 (upB b z k) o = true ∧ n = cabW d0 d1 d2 k o) := by
  have hd := dimAt_ok h k
  unfold okD at hd
  have hbk := (mayB_at hb k).2
  constructor
  · rintro ⟨m, hm, hbm, hco, hn⟩
    obtain ⟨h1, o, ho, rfl⟩ := cables_mem.1 hn
    obtain ⟨hoN, i, hi, e⟩ := nodes_mem.1 ho
    refine ⟨h1, (o : Int), ⟨by omega, hoN⟩, ?_, rfl⟩
    rw [upB_has]
    have hc := co_on h hm k (i : Int)
    rw [e] at hc
    refine ⟨?_, fun j hj => ?_⟩
    · rw [hasS_iff0 hz hbk (co_bd h ⟨by omega, hoN⟩ k)]
      refine ⟨(i : Int), by omega, by omega, ?_⟩
      rw [hc k, if_pos rfl, hco]
    · rw [hc j, if_neg hj]
      exact hasB_iff.1 hbm j
  · rintro ⟨h1, o, ho, hbo, rfl⟩
    obtain ⟨u1, u2⟩ := upB_has.1 hbo
    obtain ⟨i, i0, i1, hi⟩ := (hasS_iff0 hz hbk (co_bd h ho k)).1 u1
    have hm := on_node h ho k (-i)
    have hc := co_on h ho k (-i)
    have ek : coK d0 d1 (onD d0 d1 d2 o k (-i)) k = bAt b k := by
      rw [hc k, if_pos rfl, ← hi, Int.emod_add_emod, show bAt b k + i + -i = bAt b k by omega, Int.emod_eq_of_lt hbk.1 hbk.2]
    refine ⟨onD d0 d1 d2 o k (-i), hm, ?_, ek, ?_⟩
    · rw [hasB_iff]
      intro j
      by_cases hj : j = k
      · subst hj
        rw [ek]
        exact hasS_base (mayB_at hb j)
      · rw [hc j, if_neg hj]
        exact u2 j hj
    · refine cables_mem.2 ⟨h1, o.toNat, nodes_mem.2 ⟨by omega, i.toNat, by omega, ?_⟩, by rw [Int.toNat_of_nonneg ho.1]⟩
      rw [Int.toNat_of_nonneg i0, Int.toNat_of_nonneg ho.1, on_on h ho, show -i + i = 0 by omega]
      exact on_round h ho k 0 (.inl rfl)

/-- From how many midplanes of each of its lines the cables that a place takes go. -/
def runS (r s : Int) (t : Bool) : Int := if t = true then r else s - 1
theorem runS_bd {r s : Int} (t : Bool) (h : 1 ≤ s ∧ s ≤ r) : 0 ≤ runS r s t ∧ runS r s t ≤ r := by unfold runS; split <;> omega
def tK (t0 t1 t2 : Bool) (k : Fin 3) : Bool := match k with | 0 => t0 | 1 => t1 | 2 => t2

/-- How many of a ring a side has. -/
theorem side_count : ∀ r : Nat, r < 17 → ∀ b : Nat, b < r → ∀ s : Nat, s < r + 1 → ((List.range r).filter fun j : Nat => hasS (r : Int) (b : Int) (s : Int) (j : Int)).length = s := by decide +kernel

end Go.Proofs.YtlahfffgmfjpaaaGreatDoor
