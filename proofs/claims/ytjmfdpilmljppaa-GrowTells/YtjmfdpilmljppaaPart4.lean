/-
  Plain arithmetic of places: which cables a box takes along an axis, as the midplanes of another box; how many there are; where they end. No program is named here.
-/
import Derived.Test.YtjmfdpilmljppaaPart3
import Derived.Test.YtjmfdpilmljppaaPart2
import Derived.Test.YtjmfdpilmljppaaPart1
import Derived.LoopNIn
import Derived.LoopIn
import Derived.TacticsInMore
import Derived.OwnWalkIn
namespace Go.Proofs.Ytjmfdpilmljppaa
open Go.RowKit

/-- A midplane's coordinate along an axis. -/
def coK (d0 d1 m : Int) (k : Fin 3) : Int := dimAt (cx d0 m) (cy d0 d1 m) (cz d0 d1 m) k
theorem co_bd {d0 d1 d2 m : Int} (h : mayD d0 d1 d2) (hm : 0 ≤ m ∧ m < d0 * d1 * d2) (k : Fin 3) : 0 ≤ coK d0 d1 m k ∧ coK d0 d1 m k < dimAt d0 d1 d2 k := by
  obtain ⟨a, b, c⟩ := inD_of_node h hm
  rcases fin3 k with rfl | rfl | rfl
  · exact a
  · exact b
  · exact c
theorem co_ext {d0 d1 m n : Int} (h : ∀ k, coK d0 d1 m k = coK d0 d1 n k) : m = n := node_ext (d0 := d0) (d1 := d1) (h 0) (h 1) (h 2)
theorem co_on {d0 d1 d2 m : Int} (h : mayD d0 d1 d2) (hm : 0 ≤ m ∧ m < d0 * d1 * d2) (k : Fin 3) (n : Int) (j : Fin 3) :
    coK d0 d1 (onD d0 d1 d2 m k n) j = if j = k then (coK d0 d1 m k + n) % dimAt d0 d1 d2 k else coK d0 d1 m j := by
  obtain ⟨_, x, y, z⟩ := on_coords h hm k n
  rcases fin3 k with rfl | rfl | rfl <;> rcases fin3 j with rfl | rfl | rfl <;> simp_all [coK, dimAt]
theorem hasB_iff {d0 d1 d2 m : Int} {b : Bx} : hasB d0 d1 d2 b m = true ↔ ∀ k, hasS (dimAt d0 d1 d2 k) (bAt b k) (sAt b k) (coK d0 d1 m k) = true := by
  simp only [hasB, Bool.and_eq_true]
  constructor
  · rintro ⟨⟨a, b⟩, c⟩ k
    rcases fin3 k with rfl | rfl | rfl
    · exact a
    · exact b
    · exact c
  · intro h
    exact ⟨⟨h 0, h 1⟩, h 2⟩

theorem hasS_iff0 {r b s k : Int} (hs : 0 ≤ s ∧ s ≤ r) (hb : 0 ≤ b ∧ b < r) (hk : 0 ≤ k ∧ k < r) : hasS r b s k = true ↔ ∃ j, 0 ≤ j ∧ j < s ∧ (b + j) % r = k := by
  simp only [hasS, decide_eq_true_eq]
  constructor
  · intro ha
    refine ⟨aft r b k, (aft_bd hb hk).1, ha, ?_⟩
    rw [on_rem hb (aft_bd hb hk)]
    unfold aft
    split <;> split <;> omega
  · rintro ⟨j, j0, j1, hj⟩
    rw [on_rem hb ⟨j0, by omega⟩] at hj
    unfold aft
    split at hj <;> split <;> omega

/-- The box with another size along an axis. -/
def upB (b : Bx) (z : Int) (k : Fin 3) : Bx := match k with | 0 => ⟨b.x, b.y, b.z, z, b.b, b.c⟩ | 1 => ⟨b.x, b.y, b.z, b.a, z, b.c⟩ | 2 => ⟨b.x, b.y, b.z, b.a, b.b, z⟩
theorem upB_b (b : Bx) (z : Int) (k j : Fin 3) : bAt (upB b z k) j = bAt b j := by
  rcases fin3 k with rfl | rfl | rfl <;> rcases fin3 j with rfl | rfl | rfl <;> rfl
theorem upB_s (b : Bx) (z : Int) (k j : Fin 3) : sAt (upB b z k) j = if j = k then z else sAt b j := by
  rcases fin3 k with rfl | rfl | rfl <;> rcases fin3 j with rfl | rfl | rfl <;> rfl
theorem upB_has {d0 d1 d2 m : Int} {b : Bx} {z : Int} {k : Fin 3} : hasB d0 d1 d2 (upB b z k) m = true ↔
    hasS (dimAt d0 d1 d2 k) (bAt b k) z (coK d0 d1 m k) = true ∧ ∀ j, j ≠ k → hasS (dimAt d0 d1 d2 j) (bAt b j) (sAt b j) (coK d0 d1 m j) = true := by
  rw [hasB_iff]
  constructor
  · intro h
    refine ⟨?_, fun j hj => ?_⟩
    · have := h k
      rw [upB_b, upB_s, if_pos rfl] at this
      exact this
    · have := h j
      rw [upB_b, upB_s, if_neg hj] at this
      exact this
  · rintro ⟨h1, h2⟩ j
    rw [upB_b, upB_s]
    by_cases hj : j = k
    · subst hj; rw [if_pos rfl]; exact h1
    · rw [if_neg hj]; exact h2 j hj

/-- The cables that a box takes along an axis, from its lines' first midplanes on: those that go from the midplanes of a box. -/
theorem line_mem {d0 d1 d2 : Int} {b : Bx} (h : mayD d0 d1 d2) (hb : mayB d0 d1 d2 b) (k : Fin 3) {z : Int} (hz : 0 ≤ z ∧ z ≤ dimAt d0 d1 d2 k) {n : Int} :
    (∃ m, (0 ≤ m ∧ m < d0 * d1 * d2) ∧ hasB d0 d1 d2 b m = true ∧ coK d0 d1 m k = bAt b k ∧ n ∈ cablesW d0 d1 d2 m k z.toNat) ↔
    (1 < dimAt d0 d1 d2 k ∧ ∃ o, (0 ≤ o ∧ o < d0 * d1 * d2) ∧ hasB d0 d1 d2 (upB b z k) o = true ∧ n = cabW d0 d1 d2 k o) := by
  have hd := dimAt_ok h k
  unfold okD at hd
  have hbk := (mayB_at hb k).2
  constructor
  · rintro ⟨m, hm, hbm, hco, hn⟩
    obtain ⟨h1, o, ho, rfl⟩ := cables_mem.1 hn
    obtain ⟨hoN, i, hi, e⟩ := nodes_mem.1 ho
    refine ⟨h1, (o : Int), ⟨by omega, hoN⟩, ?_, rfl⟩
    rw [upB_has]
    have hc := co_on h hm k (i : Int)
    rw [e] at hc
    refine ⟨?_, fun j hj => ?_⟩
    · rw [hasS_iff0 hz hbk (co_bd h ⟨by omega, hoN⟩ k)]
      refine ⟨(i : Int), by omega, by omega, ?_⟩
      rw [hc k, if_pos rfl, hco]
    · rw [hc j, if_neg hj]
      exact hasB_iff.1 hbm j
  · rintro ⟨h1, o, ho, hbo, rfl⟩
    obtain ⟨u1, u2⟩ := upB_has.1 hbo
    obtain ⟨i, i0, i1, hi⟩ := (hasS_iff0 hz hbk (co_bd h ho k)).1 u1
    have hm := on_node h ho k (-i)
    have hc := co_on h ho k (-i)
    have ek : coK d0 d1 (onD d0 d1 d2 o k (-i)) k = bAt b k := by
      rw [hc k, if_pos rfl, ← hi, Int.emod_add_emod, show bAt b k + i + -i = bAt b k by omega, Int.emod_eq_of_lt hbk.1 hbk.2]
    refine ⟨onD d0 d1 d2 o k (-i), hm, ?_, ek, ?_⟩
    · rw [hasB_iff]
      intro j
      by_cases hj : j = k
      · subst hj
        rw [ek]
        exact hasS_base (mayB_at hb j)
      · rw [hc j, if_neg hj]
        exact u2 j hj
    · refine cables_mem.2 ⟨h1, o.toNat, nodes_mem.2 ⟨by omega, i.toNat, by omega, ?_⟩, by rw [Int.toNat_of_nonneg ho.1]⟩
      rw [Int.toNat_of_nonneg i0, Int.toNat_of_nonneg ho.1, on_on h ho, show -i + i = 0 by omega]
      exact on_round h ho k 0 (.inl rfl)

/-- From how many midplanes of each of its lines the cables that a place takes go. -/
def runS (r s : Int) (t : Bool) : Int := if t = true then r else s - 1
theorem runS_bd {r s : Int} (t : Bool) (h : 1 ≤ s ∧ s ≤ r) : 0 ≤ runS r s t ∧ runS r s t ≤ r := by unfold runS; split <;> omega
def tK (t0 t1 t2 : Bool) (k : Fin 3) : Bool := match k with | 0 => t0 | 1 => t1 | 2 => t2

/-- A mesh takes none that it does not take as a torus. -/
theorem mesh_in {d0 d1 d2 m : Int} {b : Bx} (h : mayD d0 d1 d2) (hb : mayB d0 d1 d2 b) (hm : 0 ≤ m ∧ m < d0 * d1 * d2) (k : Fin 3) (t : Bool)
    (hu : hasB d0 d1 d2 (upB b (runS (dimAt d0 d1 d2 k) (sAt b k) false) k) m = true) : hasB d0 d1 d2 (upB b (runS (dimAt d0 d1 d2 k) (sAt b k) t) k) m = true := by
  obtain ⟨u1, u2⟩ := upB_has.1 hu
  refine upB_has.2 ⟨?_, u2⟩
  have hs := (mayB_at hb k).1
  have hbd := aft_bd (mayB_at hb k).2 (co_bd h hm k)
  have e0 : runS (dimAt d0 d1 d2 k) (sAt b k) false = sAt b k - 1 := by simp [runS]
  rw [e0] at u1
  unfold hasS at u1 ⊢
  rw [decide_eq_true_eq] at u1 ⊢
  unfold runS
  split <;> omega
/-- Both ends of a mesh's cable are its own. -/
theorem mesh_ends {d0 d1 d2 m : Int} {b : Bx} (h : mayD d0 d1 d2) (hb : mayB d0 d1 d2 b) (hm : 0 ≤ m ∧ m < d0 * d1 * d2) (k : Fin 3)
    (hu : hasB d0 d1 d2 (upB b (runS (dimAt d0 d1 d2 k) (sAt b k) false) k) m = true) : hasB d0 d1 d2 b m = true ∧ hasB d0 d1 d2 b (onD d0 d1 d2 m k 1) = true := by
  obtain ⟨u1, u2⟩ := upB_has.1 hu
  have hs := (mayB_at hb k).1
  have hbk := (mayB_at hb k).2
  have hco := co_bd h hm k
  have hc := co_on h hm k 1
  simp only [runS] at u1
  simp at u1
  constructor
  · rw [hasB_iff]
    intro j
    by_cases hj : j = k
    · subst hj
      simp only [hasS, decide_eq_true_eq] at u1 ⊢
      omega
    · exact u2 j hj
  · rw [hasB_iff]
    intro j
    by_cases hj : j = k
    · subst hj
      rw [hc j, if_pos rfl]
      obtain ⟨i, i0, i1, hi⟩ := (hasS_iff0 (by omega) hbk hco).1 u1
      rw [hasS_iff (mayB_at hb j) ⟨Int.emod_nonneg _ (by omega), Int.emod_lt_of_pos _ (by omega)⟩]
      refine ⟨i + 1, by omega, by omega, ?_⟩
      rw [← hi, Int.emod_add_emod, Int.add_assoc]
    · rw [hc j, if_neg hj]
      exact u2 j hj

/-- How many of a ring a side has. -/
theorem side_count : ∀ r : Nat, r < 17 → ∀ b : Nat, b < r → ∀ s : Nat, s < r + 1 → ((List.range r).filter fun j : Nat => hasS (r : Int) (b : Int) (s : Int) (j : Int)).length = s := by decide +kernel

end Go.Proofs.Ytjmfdpilmljppaa

/-
  Plain arithmetic of boxes that grow (ahead of layer 13): a free box that lies in a greater one can grow a step; grown as far as it goes it lies in no other one; each free box lies in one that lies in no other one. No program is walked here.
-/
namespace Go.Proofs.Ytjmfdpilmljppaa
open Go Go.RowKit Go.Shelf

/-- Free of what a test asks for; a canonical free box that may be. -/
def freeG (d0 d1 d2 : Int) (q : Int → Bool) (b : Bx) : Prop := mayB d0 d1 d2 b ∧ canonB d0 d1 d2 b = b ∧ ∀ m, (0 ≤ m ∧ m < d0 * d1 * d2) → hasB d0 d1 d2 b m = true → q m = false
def szB (b : Bx) : Int := b.a + b.b + b.c
theorem in_trans {d0 d1 d2 : Int} (h : mayD d0 d1 d2) {a b c : Bx} (ha : mayB d0 d1 d2 a) (hb : mayB d0 d1 d2 b) (hc : mayB d0 d1 d2 c) (h1 : inB d0 d1 d2 a b = true) (h2 : inB d0 d1 d2 b c = true) : inB d0 d1 d2 a c = true :=
  (inB_iff h ha hc).2 fun m hm hx => (inB_iff h hb hc).1 h2 m hm ((inB_iff h ha hb).1 h1 m hm hx)
theorem in_self {d0 d1 d2 : Int} (h : mayD d0 d1 d2) {a : Bx} (ha : mayB d0 d1 d2 a) : inB d0 d1 d2 a a = true := (inB_iff h ha ha).2 fun _ _ hx => hx
theorem in_sizes {d0 d1 d2 : Int} {a c : Bx} (ha : mayB d0 d1 d2 a) (hc : mayB d0 d1 d2 c) (h : inB d0 d1 d2 a c = true) : a.a ≤ c.a ∧ a.b ≤ c.b ∧ a.c ≤ c.c := by
  simp only [inB, Bool.and_eq_true] at h
  exact ⟨inS_size ha.1 hc.1 h.1.1, inS_size ha.2.1 hc.2.1 h.1.2, inS_size ha.2.2 hc.2.2 h.2⟩
/-- Within, and of the same sizes: the same one, canonical. -/
theorem in_same {d0 d1 d2 : Int} {a c : Bx} (ha : mayB d0 d1 d2 a) (hc : mayB d0 d1 d2 c) (h : inB d0 d1 d2 a c = true) (e0 : a.a = c.a) (e1 : a.b = c.b) (e2 : a.c = c.c) : canonB d0 d1 d2 a = canonB d0 d1 d2 c := by
  refine (same_canon ha hc).1 ⟨h, ?_⟩
  have key : ∀ r b s b' : Int, mayS r b s → mayS r b' s → inS r b s b' s = true → inS r b' s b s = true := fun r b s b' h1 h2 h3 => by
    simp only [inS, Bool.or_eq_true, beq_iff_eq, decide_eq_true_eq] at h3 ⊢
    unfold mayS at h1 h2
    unfold aft at h3 ⊢
    split at h3 <;> split <;> omega
  simp only [inB, Bool.and_eq_true] at h ⊢
  obtain ⟨⟨i0, i1⟩, i2⟩ := h
  obtain ⟨a0, a1, a2⟩ := ha
  obtain ⟨c0, c1, c2⟩ := hc
  rw [← e0] at i0 c0 ⊢
  rw [← e1] at i1 c1 ⊢
  rw [← e2] at i2 c2 ⊢
  exact ⟨⟨key _ _ _ _ a0 c0 i0, key _ _ _ _ a1 c1 i1⟩, key _ _ _ _ a2 c2 i2⟩

/-- One step along an axis: one more, at the end (false) or at the beginning (true); canonical. -/
def backS (r b : Int) (back : Bool) : Int := if back then (if b = 0 then r - 1 else b - 1) else b
def putB (b : Bx) (k : Fin 3) (x s : Int) : Bx := match k with | 0 => ⟨x, b.y, b.z, s, b.b, b.c⟩ | 1 => ⟨b.x, x, b.z, b.a, s, b.c⟩ | 2 => ⟨b.x, b.y, x, b.a, b.b, s⟩
def stepB (d0 d1 d2 : Int) (b : Bx) (k : Fin 3) (back : Bool) : Bx := canonB d0 d1 d2 (putB b k (backS (dimAt d0 d1 d2 k) (bAt b k) back) (sAt b k + 1))
theorem step_side {r b s b' s' : Int} (h : mayS r b s) (h' : mayS r b' s') (hi : inS r b s b' s' = true) (hl : s < s') : ∃ back, mayS r (backS r b back) (s + 1) ∧ inS r (backS r b back) (s + 1) b' s' = true := by
  obtain ⟨⟨h1, h2⟩, h3, h4⟩ := h
  obtain ⟨⟨g1, g2⟩, g3, g4⟩ := h'
  simp only [inS, Bool.or_eq_true, beq_iff_eq, decide_eq_true_eq] at hi ⊢
  by_cases e : s' = r
  · exact ⟨false, ⟨⟨by omega, by omega⟩, by simp only [backS, Bool.false_eq_true, if_false]; exact ⟨h3, h4⟩⟩, .inl e⟩
  · by_cases q : aft r b' b + (s + 1) ≤ s'
    · exact ⟨false, ⟨⟨by omega, by omega⟩, by simp only [backS, Bool.false_eq_true, if_false]; exact ⟨h3, h4⟩⟩, .inr (by simpa [backS] using q)⟩
    · refine ⟨true, ⟨⟨by omega, by omega⟩, ?_⟩, .inr ?_⟩
      · simp only [backS, if_true]; split <;> omega
      · simp only [backS, if_true]
        unfold aft at q hi ⊢
        split at hi <;> split <;> split <;> omega
theorem back_inS {r b s : Int} (h : mayS r b s) (hs : s + 1 ≤ r) (back : Bool) : mayS r (backS r b back) (s + 1) ∧ inS r b s (backS r b back) (s + 1) = true := by
  obtain ⟨⟨h1, h2⟩, h3, h4⟩ := h
  cases back
  · refine ⟨⟨⟨by omega, hs⟩, by simp only [backS, Bool.false_eq_true, if_false]; exact ⟨h3, h4⟩⟩, ?_⟩
    simp only [inS, backS, Bool.false_eq_true, if_false, Bool.or_eq_true, beq_iff_eq, decide_eq_true_eq]
    unfold aft; split <;> omega
  · refine ⟨⟨⟨by omega, hs⟩, by simp only [backS, if_true]; split <;> omega⟩, ?_⟩
    simp only [inS, backS, if_true, Bool.or_eq_true, beq_iff_eq, decide_eq_true_eq]
    unfold aft; split <;> split <;> omega
theorem canon_in {d0 d1 d2 : Int} {a : Bx} (ha : mayB d0 d1 d2 a) : inB d0 d1 d2 a (canonB d0 d1 d2 a) = true ∧ inB d0 d1 d2 (canonB d0 d1 d2 a) a = true :=
  (same_canon ha (canon_may ha)).2 (canon_canon d0 d1 d2 a).symm
theorem put_may {d0 d1 d2 : Int} {b : Bx} (hb : mayB d0 d1 d2 b) {k : Fin 3} {x s : Int} (hs : mayS (dimAt d0 d1 d2 k) x s) : mayB d0 d1 d2 (putB b k x s) := by
  obtain ⟨b0, b1, b2⟩ := hb
  match k with
  | 0 => exact ⟨hs, b1, b2⟩
  | 1 => exact ⟨b0, hs, b2⟩
  | 2 => exact ⟨b0, b1, hs⟩
theorem put_in {d0 d1 d2 : Int} {b c : Bx} {k : Fin 3} {x s : Int} (hb : inB d0 d1 d2 b c = true) (hs : inS (dimAt d0 d1 d2 k) x s (bAt c k) (sAt c k) = true) : inB d0 d1 d2 (putB b k x s) c = true := by
  simp only [inB, Bool.and_eq_true] at hb ⊢
  match k with
  | 0 => exact ⟨⟨hs, hb.1.2⟩, hb.2⟩
  | 1 => exact ⟨⟨hb.1.1, hs⟩, hb.2⟩
  | 2 => exact ⟨hb.1, hs⟩
theorem in_put {d0 d1 d2 : Int} (h : mayD d0 d1 d2) {b : Bx} (hb : mayB d0 d1 d2 b) {k : Fin 3} {x s : Int} (hs : inS (dimAt d0 d1 d2 k) (bAt b k) (sAt b k) x s = true) : inB d0 d1 d2 b (putB b k x s) = true := by
  have hi := in_self h hb
  simp only [inB, Bool.and_eq_true] at hi ⊢
  match k with
  | 0 => exact ⟨⟨hs, hi.1.2⟩, hi.2⟩
  | 1 => exact ⟨⟨hi.1.1, hs⟩, hi.2⟩
  | 2 => exact ⟨hi.1, hs⟩
theorem put_sz (b : Bx) (k : Fin 3) (x : Int) : szB (putB b k x (sAt b k + 1)) = szB b + 1 := by
  match k with
  | 0 => show b.a + 1 + b.b + b.c = b.a + b.b + b.c + 1; omega
  | 1 => show b.a + (b.b + 1) + b.c = b.a + b.b + b.c + 1; omega
  | 2 => show b.a + b.b + (b.c + 1) = b.a + b.b + b.c + 1; omega
theorem canon_sz (d0 d1 d2 : Int) (b : Bx) : szB (canonB d0 d1 d2 b) = szB b := rfl
/-- A step that may be: the box lies in it, and it is one greater. -/
theorem step_is {d0 d1 d2 : Int} (h : mayD d0 d1 d2) {b : Bx} (hb : mayB d0 d1 d2 b) {k : Fin 3} (hk : sAt b k + 1 ≤ dimAt d0 d1 d2 k) (back : Bool) :
    mayB d0 d1 d2 (stepB d0 d1 d2 b k back) ∧ canonB d0 d1 d2 (stepB d0 d1 d2 b k back) = stepB d0 d1 d2 b k back ∧ inB d0 d1 d2 b (stepB d0 d1 d2 b k back) = true ∧ szB (stepB d0 d1 d2 b k back) = szB b + 1 := by
  obtain ⟨s1, s2⟩ := back_inS (mayB_at hb k) hk back
  have hp := put_may hb s1
  refine ⟨canon_may hp, canon_canon _ _ _ _, in_trans h hb hp (canon_may hp) (in_put h hb s2) (canon_in hp).1, ?_⟩
  unfold stepB
  rw [canon_sz, put_sz]
/-- A canonical box that lies in another free one can grow a step and stay free. -/
theorem can_grow {d0 d1 d2 : Int} (h : mayD d0 d1 d2) {q : Int → Bool} {b c : Bx} (hb : freeG d0 d1 d2 q b) (hc : freeG d0 d1 d2 q c) (hi : inB d0 d1 d2 b c = true) (hne : b ≠ c) :
    ∃ k back, sAt b k + 1 ≤ dimAt d0 d1 d2 k ∧ freeG d0 d1 d2 q (stepB d0 d1 d2 b k back) := by
  obtain ⟨mb, cb, _⟩ := hb
  obtain ⟨mc, cc, fc⟩ := hc
  obtain ⟨l0, l1, l2⟩ := in_sizes mb mc hi
  have hk : ∃ k : Fin 3, sAt b k < sAt c k := by
    by_cases e0 : b.a = c.a
    · by_cases e1 : b.b = c.b
      · by_cases e2 : b.c = c.c
        · exact absurd (by rw [← cb, ← cc]; exact in_same mb mc hi e0 e1 e2) hne
        · exact ⟨2, show b.c < c.c by omega⟩
      · exact ⟨1, show b.b < c.b by omega⟩
    · exact ⟨0, show b.a < c.a by omega⟩
  obtain ⟨k, hlt⟩ := hk
  have hik : inS (dimAt d0 d1 d2 k) (bAt b k) (sAt b k) (bAt c k) (sAt c k) = true := by
    simp only [inB, Bool.and_eq_true] at hi
    match k with
    | 0 => exact hi.1.1
    | 1 => exact hi.1.2
    | 2 => exact hi.2
  obtain ⟨back, s1, s2⟩ := step_side (mayB_at mb k) (mayB_at mc k) hik hlt
  have hp := put_may mb s1
  have hpc : inB d0 d1 d2 (stepB d0 d1 d2 b k back) c = true := in_trans h (canon_may hp) hp mc (canon_in hp).2 (put_in hi s2)
  exact ⟨k, back, s1.1.2, canon_may hp, canon_canon _ _ _ _, fun m hm hx => fc m hm ((inB_iff h (canon_may hp) mc).1 hpc m hm hx)⟩

/-- Lies in no other free one. -/
def loneG (d0 d1 d2 : Int) (q : Int → Bool) (b : Bx) : Prop := ∀ c, freeG d0 d1 d2 q c → inB d0 d1 d2 b c = true → c = b
theorem sz_bd {d0 d1 d2 : Int} (h : mayD d0 d1 d2) {b : Bx} (hb : mayB d0 d1 d2 b) : szB b ≤ 48 := by
  obtain ⟨⟨_, u0⟩, ⟨_, u1⟩, _, u2⟩ := h
  have q0 := hb.1.1
  have q1 := hb.2.1.1
  have q2 := hb.2.2.1
  unfold szB
  omega
/-- Each free box lies in a free one that lies in no other. -/
theorem in_lone {d0 d1 d2 : Int} (h : mayD d0 d1 d2) {q : Int → Bool} : ∀ (n : Nat) {b : Bx}, freeG d0 d1 d2 q b → 48 - szB b ≤ n → ∃ c, freeG d0 d1 d2 q c ∧ loneG d0 d1 d2 q c ∧ inB d0 d1 d2 b c = true
  | n, b, hb, hn => by
    by_cases hl : loneG d0 d1 d2 q b
    · exact ⟨b, hb, hl, in_self h hb.1⟩
    · unfold loneG at hl
      obtain ⟨c, hc⟩ := Classical.not_forall.1 hl
      obtain ⟨fc, hc⟩ := Classical.not_imp.1 hc
      obtain ⟨hi, hne⟩ := Classical.not_imp.1 hc
      obtain ⟨k, back, hk, hf⟩ := can_grow h hb fc hi (fun e => hne e.symm)
      obtain ⟨s1, _, s3, s4⟩ := step_is h hb.1 hk back
      have hz := sz_bd h s1
      match n with
      | 0 => omega
      | n + 1 =>
        obtain ⟨e, fe, le, ie⟩ := in_lone h n hf (by omega)
        exact ⟨e, fe, le, in_trans h hb.1 s1 fe.1 s3 ie⟩
/-- Where no step leads to a free box it lies in no other one. -/
theorem lone_of {d0 d1 d2 : Int} (h : mayD d0 d1 d2) {q : Int → Bool} {b : Bx} (hb : freeG d0 d1 d2 q b) (hno : ∀ k back, sAt b k + 1 ≤ dimAt d0 d1 d2 k → ¬ freeG d0 d1 d2 q (stepB d0 d1 d2 b k back)) : loneG d0 d1 d2 q b := by
  intro c fc hi
  by_cases e : c = b
  · exact e
  · obtain ⟨k, back, hk, hf⟩ := can_grow h hb fc hi (fun e' => e e'.symm)
    exact absurd hf (hno k back hk)

end Go.Proofs.Ytjmfdpilmljppaa

/-
  grow.sizes as a range asks of it: all sizes that a box may have, rising.
-/
namespace Go.Proofs.Ytjmfdpilmljppaa
open Go Go.RowKit Go.Shelf

attribute [local go_sem] Oper.semAt_some ext_const

theorem preG_append {α : Type} {a b c : List α} (h : b <+: c) : a ++ b <+: a ++ c := (List.prefix_append_right_inj a).2 h
theorem rangeG_pre {k n : Nat} (h : k ≤ n) : List.range k <+: List.range n := by
  rw [show n = k + (n - k) from by omega, List.range_add]
  exact List.prefix_append _ _
theorem flatG_pre {α β : Type} {a b : List α} (f : α → List β) (h : a <+: b) : a.flatMap f <+: b.flatMap f := by
  obtain ⟨t, rfl⟩ := h
  rw [List.flatMap_append]
  exact List.prefix_append _ _
theorem mapG_pre {α β : Type} {a b : List α} (f : α → β) (h : a <+: b) : a.map f <+: b.map f := by
  obtain ⟨t, rfl⟩ := h
  rw [List.map_append]
  exact List.prefix_append _ _
theorem filterG_pre {α : Type} {a b : List α} (f : α → Bool) (h : a <+: b) : a.filter f <+: b.filter f := by
  obtain ⟨t, rfl⟩ := h
  rw [List.filter_append]
  exact List.prefix_append _ _

abbrev Tz := Int × Int × Int
def rowZ (x y j : Nat) : List Tz := (List.range j).map fun (z : Nat) => ((x : Int) + 1, (y : Int) + 1, (z : Int) + 1)
def planeZ (c x i : Nat) : List Tz := (List.range i).flatMap fun (y : Nat) => rowZ x y c
def cubeZ (b c k : Nat) : List Tz := (List.range k).flatMap fun (x : Nat) => planeZ c x b
/-- All sizes. -/
def sizesZ (a b c : Nat) : List Tz := cubeZ b c a
theorem rowZ_succ (x y j : Nat) : rowZ x y (j + 1) = rowZ x y j ++ [((x : Int) + 1, (y : Int) + 1, (j : Int) + 1)] := by simp [rowZ, List.range_succ]
theorem planeZ_succ (c x i : Nat) : planeZ c x (i + 1) = planeZ c x i ++ rowZ x i c := by simp [planeZ, List.range_succ]
theorem cubeZ_succ (b c k : Nat) : cubeZ b c (k + 1) = cubeZ b c k ++ planeZ c k b := by simp [cubeZ, List.range_succ]
theorem sizesZ_next {a b c k i j : Nat} (hk : k < a) (hi : i < b) (hj : j < c) : (cubeZ b c k ++ (planeZ c k i ++ rowZ k i j)) ++ [((k : Int) + 1, (i : Int) + 1, (j : Int) + 1)] <+: sizesZ a b c := by
  rw [List.append_assoc, List.append_assoc, ← rowZ_succ]
  have h1 : rowZ k i (j + 1) <+: rowZ k i c := mapG_pre _ (rangeG_pre hj)
  have h2 : planeZ c k (i + 1) <+: planeZ c k b := flatG_pre _ (rangeG_pre hi)
  have h3 : cubeZ b c (k + 1) <+: cubeZ b c a := flatG_pre _ (rangeG_pre hk)
  rw [planeZ_succ] at h2
  rw [cubeZ_succ] at h3
  exact ((preG_append ((preG_append h1).trans h2)).trans h3)
theorem sizesZ_mem {a b c : Nat} {s : Tz} : s ∈ sizesZ a b c ↔ (1 ≤ s.1 ∧ s.1 ≤ a) ∧ (1 ≤ s.2.1 ∧ s.2.1 ≤ b) ∧ (1 ≤ s.2.2 ∧ s.2.2 ≤ c) := by
  obtain ⟨x, y, z⟩ := s
  simp only [sizesZ, cubeZ, planeZ, rowZ, List.mem_flatMap, List.mem_map, List.mem_range, Prod.mk.injEq]
  constructor
  · rintro ⟨x', hx, y', hy, z', hz, rfl, rfl, rfl⟩
    omega
  · rintro ⟨⟨h1, h2⟩, ⟨h3, h4⟩, h5, h6⟩
    exact ⟨(x - 1).toNat, by omega, (y - 1).toNat, by omega, (z - 1).toNat, by omega, by omega, by omega, by omega⟩

theorem KeepT.blkG {ok : TypeId → Bool} {W W' : World} {B : Nat} {t : TypeId} {vs : Array Value} (h : KeepT ok W W') (hB : Blk W B t vs) (ht : ok t = true) : Blk W' B t vs := h.2 B vs t _ hB ht

set_option maxRecDepth 100000 in
theorem sizesZ_calls (a b c : Int) (w : World) : Calls Try.prog 60 #[A3 a b c] w fun e W' => e = .returned (.func (.func 86) #[] #[.pointer (some ⟨w.heap.size, 0, none⟩)]) ∧ W' = w.alloc (.cells #[I a, I b, I c] 26) := by
  go_enter Try.func60, Try.ntmps60
  go_wp2
  go_ret
  exact ⟨rfl, rfl⟩

abbrev encZ (t : Tz) : Array Value := #[A3 t.1 t.2.1 t.2.2]

set_option maxRecDepth 100000 in
set_option maxHeartbeats 4000000 in
/-- What grow.sizes hands back, as a range over it asks. -/
theorem sizesZ_seq {a b c : Nat} (ok : TypeId → Bool) (hok : ok 26 = true) {Bo : Nat} (w : World) (hB : Blk w Bo 26 #[I a, I b, I c]) (ha : a ≤ 16) (hb : b ≤ 16) (hc : c ≤ 16) :
    SeqO Try.prog 86 #[.pointer (some ⟨Bo, 0, none⟩)] encZ ok (sizesZ a b c) w := fun l J Jx W hW hJ hJx hY h0 => by
  have HY : Hid (∀ (pre : List Tz) (x : Tz) (W1 : World), pre ++ [x] <+: sizesZ a b c → J pre W1 → YieldAt Fence.wide 0 Try.prog l (encZ x) W1 fun e W' => (e = .returned (.bool true) ∧ J (pre ++ [x]) W' ∧ KeepT ok W1 W' ∧ KeepsFrom W.heap.size W1 W') ∨ (e = .returned (.bool false) ∧ Jx (pre ++ [x]) W' ∧ KeepsFrom W.heap.size W1 W')) := hY
  have hB0 := hB.later hW
  have HO : Hid (ok 26 = true) := hok
  have HN : Hid (∀ k i j : Nat, k < a → i < b → j < c → (cubeZ b c k ++ (planeZ c k i ++ rowZ k i j)) ++ [((k : Int) + 1, (i : Int) + 1, (j : Int) + 1)] <+: sizesZ a b c) := fun k i j h1 h2 h3 => sizesZ_next h1 h2 h3
  have HE : Hid (cubeZ b c a = sizesZ a b c) := rfl
  clear hY hB hok hJ hJx
  generalize sizesZ a b c = L at *
  refine (callsIn_wide (n := 3)).1 ?_
  refine callsIn_of_wp Try.func86 rfl trivial ?_ rfl
  simp only [Try.ntmps86, List.size_toArray, List.length_cons, List.length_nil, Nat.reduceAdd, Nat.reduceSub, Array.replicate_succ, Array.replicate_zero, List.push_toArray, List.append_toArray, List.nil_append, List.cons_append]
  obtain ⟨c0, c1, c2, hz⟩ := hB0.three (Below.refl _ _)
  gi_wp2
  gi_loopw [8] (fun i wr => ∃ (k : Nat), k ≤ a ∧ i = .int .i64 k ∧ J (cubeZ b c k) wr ∧ Blk wr Bo 26 #[I a, I b, I c]) (fun i _ => a - (RowKit.intOf i).toNat)
  case atStart => exact ⟨0, by omega, rfl, h0, hB0⟩
  case round =>
    clear c0 c1 c2 hz h0 hB0
    obtain ⟨k, hk, rfl, hJ1, hB1⟩ := hrel
    by_cases hltk : (k : Int) < (a : Int)
    · obtain ⟨c0, c1, c2, hz⟩ := hB1.three (Below.refl _ _)
      have hJ1' : Hid (J (cubeZ b c k ++ (planeZ c k 0)) wr) := by show J _ _; simpa [planeZ] using hJ1
      clear hJ1
      gi_wp2
      gi_loopw [13] (fun i wr2 => ∃ (m : Nat), m ≤ b ∧ i = .int .i64 m ∧ Hid (J (cubeZ b c k ++ planeZ c k m) wr2) ∧ Blk wr2 Bo 26 #[I a, I b, I c]) (fun i _ => b - (RowKit.intOf i).toNat)
      case atStart => exact ⟨0, by omega, rfl, hJ1', hB1⟩
      case round =>
        clear c0 c1 c2 hz hJ1' hB1
        rename World => wr2
        obtain ⟨m, hm, rfl, hJ2, hB2⟩ := hrel
        by_cases hltm : (m : Int) < (b : Int)
        · obtain ⟨c0, c1, c2, hz⟩ := hB2.three (Below.refl _ _)
          have hJ2' : Hid (J (cubeZ b c k ++ (planeZ c k m ++ rowZ k m 0)) wr2) := by show J _ _; simpa [rowZ] using hJ2.out
          clear hJ2
          gi_wp2
          gi_loopw [18] (fun i wr3 => ∃ (n : Nat), n ≤ c ∧ i = .int .i64 n ∧ Hid (J (cubeZ b c k ++ (planeZ c k m ++ rowZ k m n)) wr3) ∧ Blk wr3 Bo 26 #[I a, I b, I c]) (fun i _ => c - (RowKit.intOf i).toNat)
          case atStart => exact ⟨0, by omega, rfl, hJ2', hB2⟩
          case round =>
            clear c0 c1 c2 hz hJ2' hB2
            rename World => wr3
            obtain ⟨n, hn, rfl, hJ3, hB3⟩ := hrel
            by_cases hltn : (n : Int) < (c : Int)
            · obtain ⟨f1, t1, as1, bo1, hy1, hR1⟩ := HY.out _ ((k : Int) + 1, (m : Int) + 1, (n : Int) + 1) wr3 (HN.out k m n (by omega) (by omega) (by omega)) hJ3.out
              have hR1 := roundIn_any (m := 3 - 1) hR1
              clear hJ3
              gi_wp2
              refine hR1.mono ?_
              rintro e W3 (⟨rfl, hJ4, hk3, _⟩ | ⟨rfl, hJx3, _⟩)
              · have hJ4' : Hid (J (cubeZ b c k ++ (planeZ c k m ++ rowZ k m (n + 1))) W3) := by show J _ _; rw [rowZ_succ]; simpa using hJ4
                have hB4 := hk3.blkG hB3 HO.out
                clear hJ4 hk3 hB3
                gi_wp2
                go_roundw
                case rel => exact ⟨n + 1, by omega, by go_num, hJ4', hB4⟩
                case measure => simp [RowKit.intOf]; omega
              · gi_wp2
                refine bodyPost_ret (results_none rfl _ _ _) rfl ?_
                exact ⟨⟨_, rfl⟩, .inr ⟨_, HN.out k m n (by omega) (by omega) (by omega), hJx3⟩⟩
            · obtain rfl : n = c := by omega
              have hJ4 : Hid (J (cubeZ b n k ++ planeZ n k (m + 1)) wr3) := by show J _ _; rw [planeZ_succ]; exact hJ3.out
              clear hJ3
              gi_wp2
              go_roundw
              case rel => exact ⟨m + 1, by omega, by go_num, hJ4, hB3⟩
              case measure => simp [RowKit.intOf]; omega
        · obtain rfl : m = b := by omega
          have hJ3 : J (cubeZ m c (k + 1)) wr2 := by rw [cubeZ_succ]; exact hJ2.out
          clear hJ2
          gi_wp2
          go_roundw
          case rel => exact ⟨k + 1, by omega, by go_num, hJ3, hB2⟩
          case measure => simp [RowKit.intOf]; omega
    · obtain rfl : k = a := by omega
      have HF : Hid (J L wr) := by show J _ _; rw [← HE.out]; exact hJ1
      clear hJ1
      gi_wp2
      go_end0
      exact ⟨⟨_, rfl⟩, .inl HF.out⟩

end Go.Proofs.Ytjmfdpilmljppaa

/-
  box.along and the four closures that it is handed; box.check, of one box and of two.
-/
namespace Go.Proofs.Ytjmfdpilmljppaa
open Go.RowKit Go.Shelf

attribute [local go_sem] Oper.semAt_some ext_const

/-- A closure answers p of each axis, in every world that keeps what lay in w. -/
def Answers (f : FuncId) (caps : Array Value) (w : World) (p : Fin 3 → Bool) : Prop :=
  ∀ (x : Ext w) (k : Fin 3), Calls Try.prog f (#[I (axI k)] ++ caps) x.wd fun e W' => e = .returned (.bool (p k)) ∧ Below x.wd.heap.size x.wd W'

set_option maxRecDepth 100000 in
set_option maxHeartbeats 2000000 in
theorem along_ck {f : FuncId} {caps : Array Value} {p : Fin 3 → Bool} (w : World) (hf : f = 72 ∧ ∃ a b, caps = #[a, b]) (h : Answers f caps w p) :
    Calls Try.prog 68 #[.func (.func f) #[] caps] w fun e W' => e = .returned (.bool (p 0 && p 1 && p 2)) ∧ Below w.heap.size w W' := by
  have H : Hid (Answers f caps w p) := h
  clear h
  obtain ⟨rfl, a, b, rfl⟩ := hf
  all_goals
    go_enter Try.func68, Try.ntmps68
    go_wp2
    go_loopw [4] (fun i wr => ((i = .int .i64 0 ∧ True) ∨ (i = .int .i64 1 ∧ p 0 = true) ∨ (i = .int .i64 2 ∧ p 0 = true ∧ p 1 = true) ∨ (i = .int .i64 3 ∧ p 0 = true ∧ p 1 = true ∧ p 2 = true)) ∧ Below w.heap.size w wr) (fun i _ => 3 - (RowKit.intOf i).toNat)
    case atStart => exact ⟨.inl ⟨rfl, trivial⟩, Below.refl _ _⟩
    case round =>
      obtain ⟨hi, hT⟩ := hrel
      rcases hi with ⟨rfl, _⟩ | ⟨rfl, h0⟩ | ⟨rfl, h0, h1⟩ | ⟨rfl, h0, h1, h2⟩
      · go_wp2_with fail
        refine (H.out ⟨wr, hT⟩ 0).mono ?_
        rintro e w1 ⟨rfl, hB⟩
        cases hp : p 0
        · go_wp2
          go_ret
          exact ⟨by simp [hp], then_below hT hB⟩
        · go_wp2
          go_roundw
          case rel => exact ⟨.inr (.inl ⟨rfl, hp⟩), then_below hT hB⟩
          case measure => simp [RowKit.intOf]
      · go_wp2_with fail
        refine (H.out ⟨wr, hT⟩ 1).mono ?_
        rintro e w1 ⟨rfl, hB⟩
        cases hp : p 1
        · go_wp2
          go_ret
          exact ⟨by simp [hp], then_below hT hB⟩
        · go_wp2
          go_roundw
          case rel => exact ⟨.inr (.inr (.inl ⟨rfl, h0, hp⟩)), then_below hT hB⟩
          case measure => simp [RowKit.intOf]
      · go_wp2_with fail
        refine (H.out ⟨wr, hT⟩ 2).mono ?_
        rintro e w1 ⟨rfl, hB⟩
        cases hp : p 2
        · go_wp2
          go_ret
          exact ⟨by simp [hp], then_below hT hB⟩
        · go_wp2
          go_roundw
          case rel => exact ⟨.inr (.inr (.inr ⟨rfl, h0, h1, hp⟩)), then_below hT hB⟩
          case measure => simp [RowKit.intOf]
      · go_wp2
        go_ret
        exact ⟨by simp [h0, h1, h2], hT⟩

set_option maxRecDepth 100000 in
set_option maxHeartbeats 2000000 in
theorem along_wi {f : FuncId} {caps : Array Value} {p : Fin 3 → Bool} (w : World) (hf : f = 69 ∧ ∃ a b c, caps = #[a, b, c]) (h : Answers f caps w p) :
    Calls Try.prog 68 #[.func (.func f) #[] caps] w fun e W' => e = .returned (.bool (p 0 && p 1 && p 2)) ∧ Below w.heap.size w W' := by
  have H : Hid (Answers f caps w p) := h
  clear h
  obtain ⟨rfl, a, b, c, rfl⟩ := hf
  all_goals
    go_enter Try.func68, Try.ntmps68
    go_wp2
    go_loopw [4] (fun i wr => ((i = .int .i64 0 ∧ True) ∨ (i = .int .i64 1 ∧ p 0 = true) ∨ (i = .int .i64 2 ∧ p 0 = true ∧ p 1 = true) ∨ (i = .int .i64 3 ∧ p 0 = true ∧ p 1 = true ∧ p 2 = true)) ∧ Below w.heap.size w wr) (fun i _ => 3 - (RowKit.intOf i).toNat)
    case atStart => exact ⟨.inl ⟨rfl, trivial⟩, Below.refl _ _⟩
    case round =>
      obtain ⟨hi, hT⟩ := hrel
      rcases hi with ⟨rfl, _⟩ | ⟨rfl, h0⟩ | ⟨rfl, h0, h1⟩ | ⟨rfl, h0, h1, h2⟩
      · go_wp2_with fail
        refine (H.out ⟨wr, hT⟩ 0).mono ?_
        rintro e w1 ⟨rfl, hB⟩
        cases hp : p 0
        · go_wp2
          go_ret
          exact ⟨by simp [hp], then_below hT hB⟩
        · go_wp2
          go_roundw
          case rel => exact ⟨.inr (.inl ⟨rfl, hp⟩), then_below hT hB⟩
          case measure => simp [RowKit.intOf]
      · go_wp2_with fail
        refine (H.out ⟨wr, hT⟩ 1).mono ?_
        rintro e w1 ⟨rfl, hB⟩
        cases hp : p 1
        · go_wp2
          go_ret
          exact ⟨by simp [hp], then_below hT hB⟩
        · go_wp2
          go_roundw
          case rel => exact ⟨.inr (.inr (.inl ⟨rfl, h0, hp⟩)), then_below hT hB⟩
          case measure => simp [RowKit.intOf]
      · go_wp2_with fail
        refine (H.out ⟨wr, hT⟩ 2).mono ?_
        rintro e w1 ⟨rfl, hB⟩
        cases hp : p 2
        · go_wp2
          go_ret
          exact ⟨by simp [hp], then_below hT hB⟩
        · go_wp2
          go_roundw
          case rel => exact ⟨.inr (.inr (.inr ⟨rfl, h0, h1, hp⟩)), then_below hT hB⟩
          case measure => simp [RowKit.intOf]
      · go_wp2
        go_ret
        exact ⟨by simp [h0, h1, h2], hT⟩

theorem ans_check {w : World} {D B : Nat} {d0 d1 d2 : Int} {b : Bx} (hd : Blk w D 26 #[I d0, I d1, I d2]) (hb : Blk w B 32 #[I b.x, I b.y, I b.z, I b.a, I b.b, I b.c]) :
    Answers 72 #[.pointer (some ⟨D, 0, none⟩), .pointer (some ⟨B, 0, none⟩)] w (fun k => maySB (dimAt d0 d1 d2 k) (bAt b k) (sAt b k)) := by
  intro x k
  obtain ⟨c0, c1, c2, hz⟩ := hd.three x.le
  obtain ⟨⟨k0, k1, k2⟩, ⟨k3, k4, k5⟩, hz1⟩ := hb.six x.le
  simp only [List.append_toArray, List.cons_append, List.nil_append]
  go_enter Try.func72, Try.ntmps72
  go_wp2_with fail
  refine (side_calls d0 d1 d2 b k _).mono ?_
  rintro e w1 ⟨rfl, hB1⟩
  go_wp2_with fail
  refine (maybe_calls _ _ _ _).mono ?_
  rintro e w2 ⟨rfl, hB2⟩
  go_wp2
  go_ret
  exact ⟨rfl, then_below hB1 hB2⟩

theorem ans_within {w : World} {D A B : Nat} {d0 d1 d2 : Int} {a b : Bx} (hd : Blk w D 26 #[I d0, I d1, I d2]) (ha : Blk w A 32 #[I a.x, I a.y, I a.z, I a.a, I a.b, I a.c]) (hb : Blk w B 32 #[I b.x, I b.y, I b.z, I b.a, I b.b, I b.c])
    (hm : mayD d0 d1 d2) (hma : mayB d0 d1 d2 a) (hmb : mayB d0 d1 d2 b) :
    Answers 69 #[.pointer (some ⟨D, 0, none⟩), .pointer (some ⟨A, 0, none⟩), .pointer (some ⟨B, 0, none⟩)] w (fun k => inS (dimAt d0 d1 d2 k) (bAt a k) (sAt a k) (bAt b k) (sAt b k)) := by
  intro x k
  have hmx : Try.prog.follows .mixedOrders = true := by kernel_rfl
  have x0 := Ext.cell (hd.later x.le) 0
  have x1 := Ext.cell (hd.later x.le) 1
  have x2 := Ext.cell (hd.later x.le) 2
  have y0 := Ext.cell (ha.later x.le) 0
  have y1 := Ext.cell (ha.later x.le) 1
  have y2 := Ext.cell (ha.later x.le) 2
  have y3 := Ext.cell (ha.later x.le) 3
  have y4 := Ext.cell (ha.later x.le) 4
  have y5 := Ext.cell (ha.later x.le) 5
  have z0 := Ext.cell (hb.later x.le) 0
  have z1 := Ext.cell (hb.later x.le) 1
  have z2 := Ext.cell (hb.later x.le) 2
  have z3 := Ext.cell (hb.later x.le) 3
  have z4 := Ext.cell (hb.later x.le) 4
  have z5 := Ext.cell (hb.later x.le) 5
  simp at x0 x1 x2 y0 y1 y2 y3 y4 y5 z0 z1 z2 z3 z4 z5
  simp only [List.append_toArray, List.cons_append, List.nil_append]
  go_enter Try.func69, Try.ntmps69
  go_wp2
  refine wp_region_look hmx (by kernel_rfl) ?_
  repeat (go_big_quiet_step (first | (go_at_call 46; exact calls_ext (side_any _ _ _ _ _ _ _ _ _ k _)) | (go_at_call 70; exact calls_ext (within_calls _ (dimAt_ok hm k).2 (mayB_at hma k) (mayB_at hmb k)))))
  refine wpQuiet_nil ?_
  intro v
  go_wp2
  go_ret
  exact ⟨rfl, v.le⟩

end Go.Proofs.Ytjmfdpilmljppaa

/-
  box.check, of one box and of two; box.Check: what each call answers.
-/
namespace Go.Proofs.Ytjmfdpilmljppaa
open Go.RowKit Go.Shelf

attribute [local go_sem] Oper.semAt_some ext_const

def codeOf (b : Bool) : Int := if b then 0 else 2

theorem chk_bad {d0 d1 d2 : Int} (v : Value) (w : World) (hm : ¬ mayD d0 d1 d2) :
    Calls Try.prog 44 #[A3 d0 d1 d2, v] w fun e W' => e = .returned (I 8) ∧ Below w.heap.size w W' := by
  go_enter Try.func44, Try.ntmps44
  go_wp2_with fail
  refine (check_no _ hm).mono ?_
  rintro e w1 ⟨rfl, hB⟩
  go_wp2
  go_ret
  exact ⟨rfl, then_below ((Below.refl _ w).alloc (Nat.le_refl _) _) hB⟩

/-- The calls of box.along in box.check. -/
theorem along_check {w : World} {D B : Nat} {d0 d1 d2 : Int} {b : Bx} (hd : Blk w D 26 #[I d0, I d1, I d2]) (hb : Blk w B 32 #[I b.x, I b.y, I b.z, I b.a, I b.b, I b.c]) :
    Calls Try.prog 68 #[.func (.func 72) #[] #[.pointer (some ⟨D, 0, none⟩), .pointer (some ⟨B, 0, none⟩)]] w fun e W' => e = .returned (.bool (mayBB d0 d1 d2 b)) ∧ Below w.heap.size w W' :=
  along_ck w ⟨rfl, _, _, rfl⟩ (ans_check hd hb)

set_option maxRecDepth 100000 in
set_option maxHeartbeats 2000000 in
theorem chk_one {d0 d1 d2 : Int} {b : Bx} (S : Nat) (w : World) (hm : mayD d0 d1 d2) (hS : Blk w S 32 #[I b.x, I b.y, I b.z, I b.a, I b.b, I b.c]) :
    Calls Try.prog 44 #[A3 d0 d1 d2, .slice (some ⟨S, 0, none⟩) 1 1] w fun e W' => e = .returned (I (codeOf (mayBB d0 d1 d2 b))) ∧ Below w.heap.size w W' := by
  go_enter Try.func44, Try.ntmps44
  go_wp2_with fail
  have hB0 : Below w.heap.size w (w.alloc (.cells #[I d0, I d1, I d2] 26)) := (Below.refl _ w).alloc (Nat.le_refl _) _
  have b0 := Blk.new w 26 #[I d0, I d1, I d2]
  have b1 := hS.later hB0
  generalize w.alloc (.cells #[I d0, I d1, I d2] 26) = W at *
  refine (check_yes _ hm).mono ?_
  rintro e w1 ⟨rfl, hT⟩
  go_wp2_with fail
  go_loopw [16] (fun i wr => ((i = .int .i64 0) ∨ (i = .int .i64 1 ∧ mayBB d0 d1 d2 b = true)) ∧ Below W.heap.size W wr) (fun i _ => 1 - (RowKit.intOf i).toNat)
  case atStart => exact ⟨.inl rfl, hT⟩
  case round =>
    obtain ⟨hi, hT⟩ := hrel
    rcases hi with rfl | ⟨rfl, h0⟩
    · obtain ⟨⟨k0, k1, k2⟩, ⟨k3, k4, k5⟩, hz1⟩ := b1.six hT
      go_wp2_with fail
      have q0 := (b0.later hT).alloc (.cells #[I b.x, I b.y, I b.z, I b.a, I b.b, I b.c] 32)
      have q1 := Blk.new wr 32 #[I b.x, I b.y, I b.z, I b.a, I b.b, I b.c]
      have hT := then_alloc hT (.cells #[I b.x, I b.y, I b.z, I b.a, I b.b, I b.c] 32)
      refine (along_check q0 q1).mono ?_
      rintro e w2 ⟨rfl, hB⟩
      cases hp : mayBB d0 d1 d2 b
      · go_wp2
        go_ret
        exact ⟨by simp [codeOf, hp], then_below hB0 (then_below hT hB)⟩
      · go_wp2
        go_roundw
        case rel => exact ⟨.inr ⟨rfl, hp⟩, then_below hT hB⟩
        case measure => simp [RowKit.intOf]
    · go_wp2
      go_ret
      exact ⟨by simp [codeOf, h0], then_below hB0 hT⟩

set_option maxRecDepth 100000 in
set_option maxHeartbeats 2000000 in
theorem chk_two {d0 d1 d2 : Int} {a b : Bx} (S : Nat) (w : World) (hm : mayD d0 d1 d2) (hS : Blk w S 32 #[I a.x, I a.y, I a.z, I a.a, I a.b, I a.c, I b.x, I b.y, I b.z, I b.a, I b.b, I b.c]) :
    Calls Try.prog 44 #[A3 d0 d1 d2, .slice (some ⟨S, 0, none⟩) 2 2] w fun e W' => e = .returned (I (codeOf (mayBB d0 d1 d2 a && mayBB d0 d1 d2 b))) ∧ Below w.heap.size w W' := by
  go_enter Try.func44, Try.ntmps44
  go_wp2_with fail
  have hB0 : Below w.heap.size w (w.alloc (.cells #[I d0, I d1, I d2] 26)) := (Below.refl _ w).alloc (Nat.le_refl _) _
  have b0 := Blk.new w 26 #[I d0, I d1, I d2]
  have b1 := hS.later hB0
  generalize w.alloc (.cells #[I d0, I d1, I d2] 26) = W at *
  refine (check_yes _ hm).mono ?_
  rintro e w1 ⟨rfl, hT⟩
  go_wp2_with fail
  go_loopw [16] (fun i wr => ((i = .int .i64 0) ∨ (i = .int .i64 1 ∧ mayBB d0 d1 d2 a = true) ∨ (i = .int .i64 2 ∧ mayBB d0 d1 d2 a = true ∧ mayBB d0 d1 d2 b = true)) ∧ Below W.heap.size W wr) (fun i _ => 2 - (RowKit.intOf i).toNat)
  case atStart => exact ⟨.inl rfl, hT⟩
  case round =>
    obtain ⟨hi, hT⟩ := hrel
    have r1 := b1.later hT
    rcases hi with rfl | ⟨rfl, h0⟩ | ⟨rfl, h0, h1⟩
    · have k0 := r1.cell 0
      have k1 := r1.cell 1
      have k2 := r1.cell 2
      have k3 := r1.cell 3
      have k4 := r1.cell 4
      have k5 := r1.cell 5
      simp at k0 k1 k2 k3 k4 k5
      go_wp2_with fail
      have q0 := (b0.later hT).alloc (.cells #[I a.x, I a.y, I a.z, I a.a, I a.b, I a.c] 32)
      have q1 := Blk.new wr 32 #[I a.x, I a.y, I a.z, I a.a, I a.b, I a.c]
      have hT := then_alloc hT (.cells #[I a.x, I a.y, I a.z, I a.a, I a.b, I a.c] 32)
      refine (along_check q0 q1).mono ?_
      rintro e w2 ⟨rfl, hB⟩
      cases hp : mayBB d0 d1 d2 a
      · go_wp2
        go_ret
        exact ⟨by simp [codeOf, hp], then_below hB0 (then_below hT hB)⟩
      · go_wp2
        go_roundw
        case rel => exact ⟨.inr (.inl ⟨rfl, hp⟩), then_below hT hB⟩
        case measure => simp [RowKit.intOf]
    · have k0 := r1.cell 6
      have k1 := r1.cell 7
      have k2 := r1.cell 8
      have k3 := r1.cell 9
      have k4 := r1.cell 10
      have k5 := r1.cell 11
      simp at k0 k1 k2 k3 k4 k5
      go_wp2_with fail
      have q0 := (b0.later hT).alloc (.cells #[I b.x, I b.y, I b.z, I b.a, I b.b, I b.c] 32)
      have q1 := Blk.new wr 32 #[I b.x, I b.y, I b.z, I b.a, I b.b, I b.c]
      have hT := then_alloc hT (.cells #[I b.x, I b.y, I b.z, I b.a, I b.b, I b.c] 32)
      refine (along_check q0 q1).mono ?_
      rintro e w2 ⟨rfl, hB⟩
      cases hp : mayBB d0 d1 d2 b
      · go_wp2
        go_ret
        exact ⟨by simp [codeOf, hp], then_below hB0 (then_below hT hB)⟩
      · go_wp2
        go_roundw
        case rel => exact ⟨.inr (.inr ⟨rfl, h0, hp⟩), then_below hT hB⟩
        case measure => simp [RowKit.intOf]
    · go_wp2
      go_ret
      exact ⟨by simp [codeOf, h0, h1], then_below hB0 hT⟩

/-- The error of a box. -/
def errB (d0 d1 d2 : Int) (b : Bx) : Int := if okDB d0 d1 d2 then codeOf (mayBB d0 d1 d2 b) else 8
def errB2 (d0 d1 d2 : Int) (a b : Bx) : Int := if okDB d0 d1 d2 then codeOf (mayBB d0 d1 d2 a && mayBB d0 d1 d2 b) else 8

theorem chk1 {d0 d1 d2 : Int} {b : Bx} (S : Nat) (w : World) (hS : Blk w S 32 #[I b.x, I b.y, I b.z, I b.a, I b.b, I b.c]) :
    Calls Try.prog 44 #[A3 d0 d1 d2, .slice (some ⟨S, 0, none⟩) 1 1] w fun e W' => e = .returned (I (errB d0 d1 d2 b)) ∧ Below w.heap.size w W' := by
  by_cases hm : mayD d0 d1 d2
  · rw [errB, if_pos ((okDB_iff _ _ _).2 hm)]; exact chk_one S w hm hS
  · rw [errB, if_neg (by rw [okDB_iff]; exact hm)]; exact chk_bad _ w hm
theorem chk2 {d0 d1 d2 : Int} {a b : Bx} (S : Nat) (w : World) (hS : Blk w S 32 #[I a.x, I a.y, I a.z, I a.a, I a.b, I a.c, I b.x, I b.y, I b.z, I b.a, I b.b, I b.c]) :
    Calls Try.prog 44 #[A3 d0 d1 d2, .slice (some ⟨S, 0, none⟩) 2 2] w fun e W' => e = .returned (I (errB2 d0 d1 d2 a b)) ∧ Below w.heap.size w W' := by
  by_cases hm : mayD d0 d1 d2
  · rw [errB2, if_pos ((okDB_iff _ _ _).2 hm)]; exact chk_two S w hm hS
  · rw [errB2, if_neg (by rw [okDB_iff]; exact hm)]; exact chk_bad _ w hm

end Go.Proofs.Ytjmfdpilmljppaa
