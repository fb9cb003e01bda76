/-
  Sets of numbers, 64 to a word, as plain arithmetic: which numbers a row of words has, and that they tell it.
-/
import Derived.Test.YtikjgfjahjlbaaaKit
namespace Go.Proofs.Ytikjgfjahjlbaaa

/-- The number k is in the set of these words. -/
def hasW (ws : List Nat) (k : Nat) : Bool := (ws.getD (k / 64) 0).testBit (k % 64)
/-- A set below n may be: as many words as are needed, each a word, no bit at n or beyond. -/
structure MayW (n : Nat) (ws : List Nat) : Prop where
  len : ws.length = (n + 63) / 64
  word : ∀ w ∈ ws, w < 2 ^ 64
  none : ∀ k, n ≤ k → hasW ws k = false

theorem hasW_at (ws : List Nat) (i j : Nat) (hj : j < 64) : hasW ws (64 * i + j) = (ws.getD i 0).testBit j := by
  unfold hasW
  rw [show (64 * i + j) / 64 = i by omega, show (64 * i + j) % 64 = j by omega]
theorem word_ext {a b : Nat} (ha : a < 2 ^ 64) (hb : b < 2 ^ 64) (h : ∀ j, j < 64 → a.testBit j = b.testBit j) : a = b := by
  apply Nat.eq_of_testBit_eq
  intro j
  by_cases hj : j < 64
  · exact h j hj
  · rw [Nat.testBit_lt_two_pow (Nat.lt_of_lt_of_le ha (Nat.pow_le_pow_right (by omega) (by omega))), Nat.testBit_lt_two_pow (Nat.lt_of_lt_of_le hb (Nat.pow_le_pow_right (by omega) (by omega)))]
/-- A set is told by its numbers. -/
theorem set_ext {n : Nat} {a b : List Nat} (ha : MayW n a) (hb : MayW n b) (h : ∀ k, k < n → hasW a k = hasW b k) : a = b := by
  apply List.ext_getElem
  · rw [ha.len, hb.len]
  · intro i h1 h2
    refine word_ext (ha.word _ (List.getElem_mem h1)) (hb.word _ (List.getElem_mem h2)) fun j hj => ?_
    have e : hasW a (64 * i + j) = hasW b (64 * i + j) := by
      by_cases hk : 64 * i + j < n
      · exact h _ hk
      · rw [ha.none _ (by omega), hb.none _ (by omega)]
    rw [hasW_at _ _ _ hj, hasW_at _ _ _ hj] at e
    simpa [h1, h2] using e

/-- The numbers of a set below k, rising. -/
def listTo (ws : List Nat) (k : Nat) : List Nat := (List.range k).filter fun m => hasW ws m
theorem listTo_mem {ws : List Nat} {k m : Nat} : m ∈ listTo ws k ↔ m < k ∧ hasW ws m = true := by simp [listTo, List.mem_filter, List.mem_range]
theorem listTo_yes {ws : List Nat} {k : Nat} (h : hasW ws k = true) : listTo ws (k + 1) = listTo ws k ++ [k] := by simp [listTo, List.range_succ, List.filter_append, h]
theorem listTo_no {ws : List Nat} {k : Nat} (h : hasW ws k = false) : listTo ws (k + 1) = listTo ws k := by simp [listTo, List.range_succ, List.filter_append, h]
theorem listTo_rise (ws : List Nat) (k : Nat) : (listTo ws k).Pairwise (· < ·) := List.Pairwise.filter _ List.pairwise_lt_range
theorem listTo_len (ws : List Nat) (k : Nat) : (listTo ws k).length ≤ k := by
  have := List.length_filter_le (fun m => hasW ws m) (List.range k)
  simpa [listTo] using this
/-- Beyond the bound there is nothing to list. -/
theorem listTo_past {n : Nat} {ws : List Nat} (h : MayW n ws) : ∀ j, listTo ws (n + j) = listTo ws n
  | 0 => rfl
  | j + 1 => by rw [← Nat.add_assoc, listTo_no (h.none _ (by omega)), listTo_past h j]
/-- What is in both and what is in either are together as many as both have. -/
theorem count_both {a b x y : List Nat} (hx : ∀ k, hasW x k = (hasW a k && hasW b k)) (hy : ∀ k, hasW y k = (hasW a k || hasW b k)) : ∀ k, (listTo x k).length + (listTo y k).length = (listTo a k).length + (listTo b k).length
  | 0 => rfl
  | k + 1 => by
    have ih := count_both hx hy k
    have h1 := hx k
    have h2 := hy k
    cases ha : hasW a k <;> cases hb : hasW b k <;> rw [ha, hb] at h1 h2 <;> simp only [Bool.and_self, Bool.or_self, Bool.and_true, Bool.and_false, Bool.or_true, Bool.or_false] at h1 h2 <;>
      simp only [listTo, List.range_succ, List.filter_append, List.length_append, List.filter_cons, List.filter_nil, h1, h2, ha, hb] at ih ⊢ <;> simp <;> omega

/-- Words joined bit by bit. -/
theorem hasW_zip {f : Nat → Nat → Nat} {g : Bool → Bool → Bool} (hf : ∀ x y j, j < 64 → (f x y).testBit j = g (x.testBit j) (y.testBit j)) (h0 : g false false = false) {a b : List Nat} (hl : a.length = b.length) (k : Nat) : hasW (List.zipWith f a b) k = g (hasW a k) (hasW b k) := by
  unfold hasW
  simp only [List.getD_eq_getElem?_getD, List.getElem?_zipWith]
  by_cases hi : k / 64 < a.length
  · have hi' : k / 64 < b.length := by omega
    rw [List.getElem?_eq_getElem hi, List.getElem?_eq_getElem hi']
    exact hf _ _ _ (Nat.mod_lt k (by omega))
  · rw [List.getElem?_eq_none (Nat.not_lt.1 hi), List.getElem?_eq_none (by omega : b.length ≤ k / 64)]
    simp [h0]

end Go.Proofs.Ytikjgfjahjlbaaa
