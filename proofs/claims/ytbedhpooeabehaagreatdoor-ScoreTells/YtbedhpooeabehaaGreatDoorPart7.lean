/-
  What sets of two come to, as plain arithmetic: whether they may be, what they have, how many numbers.
-/
import Derived.Test.YtbedhpooeabehaaGreatDoorPart5
import Derived.Test.YtbedhpooeabehaaGreatDoorPart6
import Derived.Test.YtbedhpooeabehaaGreatDoorPart3
import Derived.Test.YtbedhpooeabehaaGreatDoorPart2
import Derived.Test.YtbedhpooeabehaaGreatDoorPart4
namespace Go.Proofs.YtbedhpooeabehaaGreatDoor
open Go Go.RowKit

theorem errAll_both {n : Int} {a b : List Nat} (ha : errAll n [a] = 0) (hb : errAll n [b] = 0) : errAll n [a, b] = 0 := (errAll_second ha).trans hb
theorem errAll_split {n : Int} {a b : List Nat} (h : errAll n [a, b] = 0) : errAll n [a] = 0 ∧ errAll n [b] = 0 := by
  by_cases ha : errAll n [a] = 0
  · exact ⟨ha, (errAll_second ha).symm.trans h⟩
  · exact absurd ((errAll_first ha).symm.trans h) ha
theorem errAll_may {n : Int} {a : List Nat} (h1 : 1 ≤ n) (h2 : n ≤ 12288) (h : maySet n.toNat a = true) : errAll n [a] = 0 := by
  have : okN n = true := by simp [okN]; omega
  simp [errAll, this, h]

/-- A set below n whose numbers are told by those of two that may be. -/
theorem zip_may {n : Int} {a b z : List Nat} {g : Bool → Bool → Bool} (he : errAll n [a, b] = 0) (h0 : g false false = false) (hz : IsSet ((n.toNat + 63) / 64) z (fun j => g (hasW a j) (hasW b j))) : errAll n [z] = 0 := by
  obtain ⟨h1, h2, hma, hmb⟩ := err_two he
  refine errAll_may h1 h2 (mayS_iff.2 ⟨hz.len, fun k hk => ?_⟩)
  rw [hz.has, (mayS_iff.1 hma).2 k hk, (mayS_iff.1 hmb).2 k hk, h0]

/-- The three sets of two that may be. -/
structure Three (n : Int) (a b z1 z2 z3 : List Nat) : Prop where
  i1 : IsSet ((n.toNat + 63) / 64) z1 (fun j => hasW a j && hasW b j)
  i2 : IsSet ((n.toNat + 63) / 64) z2 (fun j => hasW a j || hasW b j)
  i3 : IsSet ((n.toNat + 63) / 64) z3 (fun j => hasW a j && !hasW b j)
  e1 : errAll n [z1] = 0
  e2 : errAll n [z2] = 0
  e3 : errAll n [z3] = 0
theorem three_of {n : Int} {a b : List Nat} (wa : ∀ x ∈ a, x < 18446744073709551616) (wb : ∀ x ∈ b, x < 18446744073709551616) (he : errAll n [a, b] = 0) : Three n a b (joinW andW n a b) (joinW orW n a b) (joinW notW n a b) := by
  obtain ⟨h1, h2, hma, hmb⟩ := err_two he
  have la := (mayS_iff.1 hma).1
  have lb := (mayS_iff.1 hmb).1
  unfold joinW
  simp only [if_pos he]
  have i1 := zip_and la lb wa wb
  have i2 := zip_or la lb wa wb
  have i3 := zip_not la lb wa wb
  exact ⟨i1, i2, i3, zip_may (g := fun x y => x && y) he rfl i1, zip_may (g := fun x y => x || y) he rfl i2, zip_may (g := fun x y => x && !y) he rfl i3⟩

theorem has_set {n : Int} {z : List Nat} {l : Nat} {p : Nat → Bool} (he : errAll n [z] = 0) (hz : IsSet l z p) (k : Int) : hasR n z k = (decide (0 ≤ k) && p k.toNat) := by
  unfold hasR
  rw [decide_eq_true he, Bool.true_and, hz.has]
theorem has_own {n : Int} {z : List Nat} (he : errAll n [z] = 0) (k : Int) : hasR n z k = (decide (0 ≤ k) && hasW z k.toNat) := by
  unfold hasR
  rw [decide_eq_true he, Bool.true_and]
theorem has_in {n : Int} {z : List Nat} {k : Int} (h : hasR n z k = true) : 0 ≤ k ∧ k < n := by
  constructor
  · apply Int.not_lt.1; intro hk; rw [hasR_neg hk] at h; cases h
  · apply Int.not_le.1; intro hk; rw [hasR_far hk] at h; cases h
theorem Three.has {n : Int} {a b z1 z2 z3 : List Nat} (h : Three n a b z1 z2 z3) (he : errAll n [a, b] = 0) (k : Int) :
    hasR n z1 k = (hasR n a k && hasR n b k) ∧ hasR n z2 k = (hasR n a k || hasR n b k) ∧ hasR n z3 k = (hasR n a k && !hasR n b k) := by
  obtain ⟨ha, hb⟩ := errAll_split he
  rw [has_set h.e1 h.i1, has_set h.e2 h.i2, has_set h.e3 h.i3, has_own ha, has_own hb]
  cases decide (0 ≤ k) <;> simp

theorem manyS_to {ws : List Nat} {l : Nat} (h : ws.length = l) : manyS ws = (listTo ws (64 * l)).length := by
  subst h
  exact (list_cnt ws ws.length).symm
theorem manyR_in {n : Int} {ws : List Nat} (h : errAll n [ws] = 0) : manyR n ws = manyS ws := by rw [manyR, if_pos h]
theorem manyS_le (ws : List Nat) : manyS ws ≤ 64 * ws.length := cnt_le ws ws.length

/-- How many there are in both, in either. -/
theorem Three.count {n : Int} {a b z1 z2 z3 : List Nat} (h : Three n a b z1 z2 z3) (he : errAll n [a, b] = 0) : manyS z1 + manyS z2 = manyS a + manyS b := by
  obtain ⟨h1, h2, hma, hmb⟩ := err_two he
  rw [manyS_to h.i1.len, manyS_to h.i2.len, manyS_to (mayS_iff.1 hma).1, manyS_to (mayS_iff.1 hmb).1]
  exact count_both h.i1.has h.i2.has _
theorem Three.whole {n : Int} {a b z1 z2 z3 : List Nat} (h : Three n a b z1 z2 z3) (he : errAll n [a, b] = 0) (wa : ∀ x ∈ a, x < 18446744073709551616) : joinW orW n z3 z1 = a := by
  obtain ⟨h1, h2, hma, hmb⟩ := err_two he
  have e31 := errAll_both h.e3 h.e1
  unfold joinW
  rw [if_pos e31]
  have hz := zip_or h.i3.len h.i1.len h.i3.word h.i1.word
  refine hz.ext ⟨(mayS_iff.1 hma).1, wa, fun k => ?_⟩
  rw [h.i3.has, h.i1.has]
  cases hasW a k <;> cases hasW b k <;> rfl
theorem Three.apart {n : Int} {a b z1 z2 z3 : List Nat} (h : Three n a b z1 z2 z3) : meetSB n z3 z1 = false := by
  unfold meetSB
  rw [Bool.and_eq_false_iff]
  right
  rw [Bool.eq_false_iff]
  intro hc
  obtain ⟨j, _, hj⟩ := List.any_eq_true.1 hc
  rw [h.i3.has, h.i1.has] at hj
  cases ha : hasW a j <;> cases hb : hasW b j <;> simp [ha, hb] at hj

end Go.Proofs.YtbedhpooeabehaaGreatDoor

/-
  A set and its numbers are each other's way back, as plain arithmetic.
-/
namespace Go.Proofs.YtbedhpooeabehaaGreatDoor
open Go Go.RowKit

theorem inL_ofN (l : List Nat) (j : Nat) : inL (ofN l) j = l.contains j := by
  unfold inL ofN
  rw [Bool.eq_iff_iff]
  simp only [List.contains_iff_mem, List.mem_map]
  constructor
  · rintro ⟨m, hm, e⟩
    have : m = j := Int.ofNat_inj.1 e
    exact this ▸ hm
  · intro h
    exact ⟨j, h, rfl⟩
theorem nums_has {ws : List Nat} {j : Nat} : (numsW ws).contains j = hasW ws j := by
  rw [Bool.eq_iff_iff, List.contains_iff_mem]
  unfold numsW
  rw [listTo_mem]
  constructor
  · rintro ⟨_, h⟩; exact h
  · intro h
    refine ⟨?_, h⟩
    apply Nat.lt_of_not_le
    intro hle
    rw [hasW_past hle] at h; cases h
theorem nums_ok {n : Int} {s : List Nat} (h : errAll n [s] = 0) : ofOk n (ofN (numsW s)) = true := by
  obtain ⟨h1, h2, hm⟩ := err_one h
  unfold ofOk
  rw [show okN n = true by simp [okN]; omega, Bool.true_and, List.all_eq_true]
  intro x hx
  unfold ofN at hx
  obtain ⟨m, hm', rfl⟩ := List.mem_map.1 hx
  have hh : hasW s m = true := (listTo_mem.1 hm').2
  have : m < n.toNat := by
    apply Nat.lt_of_not_le
    intro hle
    rw [(mayS_iff.1 hm).2 m hle] at hh; cases hh
  rw [decide_eq_true_eq]
  omega
/-- From a set to its numbers, and back. -/
theorem back_set {n : Int} {s ws : List Nat} (wsx : ∀ x ∈ s, x < 18446744073709551616) (h : errAll n [s] = 0) (ho : OfIs n (ofN (numsW s)) ws) : ws = s := by
  obtain ⟨h1, h2, hm⟩ := err_one h
  refine (ho.yes (nums_ok h)).ext ⟨(mayS_iff.1 hm).1, wsx, fun k => ?_⟩
  rw [inL_ofN, nums_has]
theorem rise {ws : List Nat} {j : Nat} (h : j + 1 < (numsW ws).length) : (numsW ws).getD j 0 < (numsW ws).getD (j + 1) 0 := by
  have hp := List.pairwise_iff_getElem.1 (listTo_rise ws (64 * ws.length)) j (j + 1) (by unfold numsW at h; omega) (by unfold numsW at h; omega) (by omega)
  have hj : j < (numsW ws).length := by omega
  simp only [List.getD_eq_getElem?_getD, List.getElem?_eq_getElem h, List.getElem?_eq_getElem hj, Option.getD_some]
  exact hp
theorem ofErr_zero {n : Int} {l : List Int} (h : ofErr n l = 0) : ofOk n l = true := by
  unfold ofErr at h
  cases e : ofOk n l
  · rw [e] at h; cases h
  · rfl
theorem ofErr_not {n : Int} {l : List Int} (h : ofErr n l ≠ 0) : ofOk n l = false := by
  cases e : ofOk n l
  · rfl
  · exact absurd (by rw [ofErr, e]; rfl) h
theorem ofOk_parts {n : Int} {l : List Int} (h : ofOk n l = true) : 1 ≤ n ∧ n ≤ 12288 ∧ ∀ x ∈ l, 0 ≤ x ∧ x < n := by
  unfold ofOk okN at h
  rw [Bool.and_eq_true] at h
  have h1 := of_decide_eq_true h.1
  exact ⟨h1.1, h1.2, fun x hx => of_decide_eq_true (List.all_eq_true.1 h.2 x hx)⟩
theorem back_may {n : Int} {l : List Int} {ws : List Nat} (hk : ofOk n l = true) (ho : OfIs n l ws) : errAll n [ws] = 0 := by
  obtain ⟨h1, h2, hall⟩ := ofOk_parts hk
  have hI := ho.yes hk
  refine errAll_may h1 h2 (mayS_iff.2 ⟨hI.len, fun k hk' => ?_⟩)
  rw [hI.has, Bool.eq_false_iff]
  intro hc
  unfold inL at hc
  have := hall _ (List.contains_iff_mem.1 hc)
  omega
theorem back_has {n : Int} {l : List Int} {ws : List Nat} (hk : ofOk n l = true) (ho : OfIs n l ws) {i : Nat} (hi : i < l.length) : hasR n ws (l.getD i 0) = true := by
  obtain ⟨h1, h2, hall⟩ := ofOk_parts hk
  have hm : l[i] ∈ l := List.getElem_mem hi
  have hb := hall _ hm
  rw [has_set (back_may hk ho) (ho.yes hk)]
  have e : l.getD i 0 = l[i] := by simp [hi]
  rw [e, decide_eq_true hb.1, Bool.true_and]
  unfold inL
  rw [List.contains_iff_mem, Int.toNat_of_nonneg hb.1]
  exact hm
theorem back_in {n : Int} {l : List Int} {ws : List Nat} (hk : ofOk n l = true) (ho : OfIs n l ws) {i : Nat} (hi : i < (numsW ws).length) : inL l ((numsW ws).getD i 0) = true := by
  have hm : (numsW ws)[i] ∈ numsW ws := List.getElem_mem hi
  have e : (numsW ws).getD i 0 = (numsW ws)[i] := by simp [hi]
  rw [e, ← (ho.yes hk).has]
  exact (listTo_mem.1 hm).2
theorem few : ∀ (xs : List Nat) (l : List Int), xs.Nodup → (∀ x ∈ xs, (x : Int) ∈ l) → xs.length ≤ l.length
  | [], l, _, _ => Nat.zero_le _
  | x :: xs, l, hn, hs => by
    have hx := hs x (by simp)
    have ih := few xs (l.erase (x : Int)) (List.nodup_cons.1 hn).2 fun y hy => by
      have hne : (y : Int) ≠ (x : Int) := fun e => by
        have : y = x := Int.ofNat_inj.1 e
        exact (List.nodup_cons.1 hn).1 (this ▸ hy)
      exact (List.mem_erase_of_ne hne).2 (hs y (by simp [hy]))
    rw [List.length_erase_of_mem hx] at ih
    have : 0 < l.length := List.length_pos_of_mem hx
    simp only [List.length_cons]
    omega
theorem back_few {n : Int} {l : List Int} {ws : List Nat} (hk : ofOk n l = true) (ho : OfIs n l ws) : (numsW ws).length ≤ l.length := by
  refine few _ _ ?_ fun x hx => ?_
  · have := listTo_rise ws (64 * ws.length)
    exact this.imp (fun h => Nat.ne_of_lt h)
  · have h := (listTo_mem.1 hx).2
    rw [(ho.yes hk).has] at h
    exact List.contains_iff_mem.1 h
theorem take_in {l : List Int} {i : Nat} (hi : i < l.length) (y : Nat) : inL (l.take (i + 1)) y = (inL (l.take i) y || (l.getD i 0 == (y : Int))) := by
  unfold inL
  rw [List.take_succ_eq_append_getElem hi, Bool.eq_iff_iff]
  simp only [List.contains_iff_mem, List.mem_append, List.mem_singleton, Bool.or_eq_true, beq_iff_eq]
  have e : l.getD i 0 = l[i] := by simp [hi]
  rw [e]
  constructor
  · rintro (h | h)
    · exact .inl h
    · exact .inr h.symm
  · rintro (h | h)
    · exact .inl h
    · exact .inr h.symm

end Go.Proofs.YtbedhpooeabehaaGreatDoor

/-
  Whether two sets meet, and whether one is in the other one, as the document tells it: tidehallref03.Meets, Meet, Inside, In.
-/
namespace Go.Proofs.YtbedhpooeabehaaGreatDoor
open Go Go.RowKit Go.Shelf

def anyB (a b : List Nat) : Bool := (List.range (64 * a.length)).any fun j => hasW a j && hasW b j
def allB (a b : List Nat) : Bool := (List.range (64 * a.length)).all fun j => !hasW a j || hasW b j
theorem anyB_eq (a b : List Nat) : anyB a b = (numsW a).any fun j => hasW b j := by
  unfold anyB numsW listTo
  rw [List.any_filter]
theorem allB_eq (a b : List Nat) : allB a b = (numsW a).all fun j => hasW b j := by
  unfold allB numsW listTo
  rw [List.all_filter]
theorem any_hit {a b : List Nat} {k : Nat} (hk : k < (numsW a).length) (h : hasW b ((numsW a).getD k 0) = true) : anyB a b = true := by
  rw [anyB_eq, List.any_eq_true]
  refine ⟨(numsW a)[k], List.getElem_mem hk, ?_⟩
  simpa [hk] using h
theorem all_hit {a b : List Nat} {k : Nat} (hk : k < (numsW a).length) (h : hasW b ((numsW a).getD k 0) = false) : allB a b = false := by
  rw [allB_eq]
  cases e : (numsW a).all fun j => hasW b j
  · rfl
  · have := List.all_eq_true.1 e ((numsW a)[k]) (List.getElem_mem hk)
    simp [hk] at h
    simp [h] at this
theorem any_none {a b : List Nat} (h : ∀ j, j < (numsW a).length → hasW b ((numsW a).getD j 0) = false) : anyB a b = false := by
  rw [anyB_eq]
  cases e : (numsW a).any fun j => hasW b j
  · rfl
  · obtain ⟨x, hx, hb⟩ := List.any_eq_true.1 e
    obtain ⟨k, hk, rfl⟩ := List.mem_iff_getElem.1 hx
    have := h k hk
    simp [hk] at this
    rw [this] at hb; cases hb
theorem all_all {a b : List Nat} (h : ∀ j, j < (numsW a).length → hasW b ((numsW a).getD j 0) = true) : allB a b = true := by
  rw [allB_eq, List.all_eq_true]
  intro x hx
  obtain ⟨k, hk, rfl⟩ := List.mem_iff_getElem.1 hx
  have := h k hk
  simpa [hk] using this
theorem numsW_lt {a : List Nat} {k : Nat} : (numsW a).getD k 0 ≤ 64 * a.length := by
  by_cases hk : k < (numsW a).length
  · have := (listTo_mem.1 (List.getElem_mem hk)).1
    simp [hk]
    exact Nat.le_of_lt this
  · simp [Nat.not_lt.1 hk]
theorem numsW_len (a : List Nat) : (numsW a).length ≤ 64 * a.length := listTo_len a _

end Go.Proofs.YtbedhpooeabehaaGreatDoor

/-
  The set of the numbers below n that something is told of: as a row of words, and what set's calls make of it. No program is walked here.
-/
namespace Go.Proofs.YtbedhpooeabehaaGreatDoor
open Go Go.RowKit

/-- The words of the numbers below k that are asked for. -/
def wordsTo (l : Nat) (p : Nat → Bool) : Nat → List Nat
  | 0 => List.replicate l 0
  | k + 1 => if p k = true then putW (wordsTo l p k) k else wordsTo l p k
theorem words_is (l : Nat) (p : Nat → Bool) : ∀ k, k ≤ 64 * l → IsSet l (wordsTo l p k) (fun j => decide (j < k) && p j)
  | 0, _ => (IsSet.none l).congr (fun j => by simp)
  | k + 1, h => by
    have ih := words_is l p k (by omega)
    unfold wordsTo
    cases hp : p k
    · rw [if_neg (by simp)]
      exact ih.congr (fun j => upto_no hp j)
    · rw [if_pos rfl]
      exact ih.put (by omega) (fun j => upto_yes hp j)
/-- The set of the numbers below n that are asked for. -/
def setOf (n : Int) (p : Nat → Bool) : List Nat := wordsTo ((n.toNat + 63) / 64) p n.toNat
theorem setOf_is (n : Int) (p : Nat → Bool) : IsSet ((n.toNat + 63) / 64) (setOf n p) (fun j => decide (j < n.toNat) && p j) := words_is _ _ _ (by omega)
theorem setOf_err {n : Int} (h1 : 1 ≤ n) (h2 : n ≤ 12288) (p : Nat → Bool) : errAll n [setOf n p] = 0 :=
  errAll_may h1 h2 (mayS_iff.2 ⟨(setOf_is n p).len, fun k hk => by rw [(setOf_is n p).has]; simp [Nat.not_lt.2 hk]⟩)
theorem setOf_of {n : Int} {l : List Int} {ws : List Nat} {p : Nat → Bool} (h : OfIs n l ws) (hk : ofOk n l = true) (hp : ∀ j : Nat, inL l j = (decide (j < n.toNat) && p j)) : ws = setOf n p :=
  (h.yes hk).ext ((setOf_is n p).congr hp)
theorem range_past {n : Nat} {p : Nat → Bool} : ∀ t, (List.range (n + t)).filter (fun j => decide (j < n) && p j) = (List.range n).filter p
  | 0 => List.filter_congr fun j hj => by rw [decide_eq_true (show j < n from List.mem_range.1 hj), Bool.true_and]
  | t + 1 => by
    rw [← Nat.add_assoc, List.range_succ, List.filter_append, range_past t]
    simp only [List.filter_cons, List.filter_nil, decide_eq_false (show ¬ n + t < n by omega), Bool.false_and, Bool.false_eq_true, if_false, List.append_nil]
theorem setOf_nums (n : Int) (p : Nat → Bool) : numsW (setOf n p) = (List.range n.toNat).filter p := by
  have hl := (setOf_is n p).len
  have hh := (setOf_is n p).has
  unfold numsW listTo
  rw [hl, show 64 * ((n.toNat + 63) / 64) = n.toNat + (64 * ((n.toNat + 63) / 64) - n.toNat) by omega, ← range_past (p := p) (64 * ((n.toNat + 63) / 64) - n.toNat)]
  exact List.filter_congr fun j _ => hh j
theorem setOf_list {n : Int} (h1 : 1 ≤ n) (h2 : n ≤ 12288) (p : Nat → Bool) : listR n (setOf n p) = ofN ((List.range n.toNat).filter p) := by
  unfold listR
  rw [if_pos (setOf_err h1 h2 p), setOf_nums]
theorem setOf_has {n : Int} (h1 : 1 ≤ n) (h2 : n ≤ 12288) (p : Nat → Bool) {k : Int} (hk : 0 ≤ k ∧ k < n) : hasR n (setOf n p) k = p k.toNat := by
  rw [has_set (setOf_err h1 h2 p) (setOf_is n p), show decide (0 ≤ k) = true from decide_eq_true hk.1, show decide (k.toNat < n.toNat) = true from decide_eq_true (by omega), Bool.true_and, Bool.true_and]
theorem setOf_less {n : Int} (h1 : 1 ≤ n) (h2 : n ≤ 12288) (p q : Nat → Bool) : joinW notW n (setOf n p) (setOf n q) = setOf n (fun j => p j && !q j) := by
  have T := three_of (setOf_is n p).word (setOf_is n q).word (errAll_both (setOf_err h1 h2 p) (setOf_err h1 h2 q))
  refine T.i3.ext ((setOf_is n _).congr fun j => ?_)
  rw [(setOf_is n p).has, (setOf_is n q).has]
  cases decide (j < n.toNat) <;> simp
theorem setOf_meet {n : Int} (h1 : 1 ≤ n) (h2 : n ≤ 12288) (p q : Nat → Bool) : meetSB n (setOf n p) (setOf n q) = anyB (setOf n p) (setOf n q) := by
  unfold meetSB anyB
  rw [errAll_both (setOf_err h1 h2 p) (setOf_err h1 h2 q)]
  simp
theorem setOf_any {n : Int} {p q : Nat → Bool} : anyB (setOf n p) (setOf n q) = true ↔ ∃ j : Nat, j < n.toNat ∧ p j = true ∧ q j = true := by
  unfold anyB
  rw [List.any_eq_true]
  simp only [(setOf_is n p).has, (setOf_is n q).has, List.mem_range, (setOf_is n p).len, Bool.and_eq_true, decide_eq_true_eq]
  constructor
  · rintro ⟨j, _, ⟨h, a⟩, _, b⟩; exact ⟨j, h, a, b⟩
  · rintro ⟨j, h, a, b⟩; exact ⟨j, by omega, ⟨h, a⟩, h, b⟩
theorem setOf_in {n : Int} (h1 : 1 ≤ n) (h2 : n ≤ 12288) {p q : Nat → Bool} (h : ∀ j : Nat, j < n.toNat → p j = true → q j = true) : inSB n (setOf n p) (setOf n q) = true := by
  unfold inSB
  rw [errAll_both (setOf_err h1 h2 p) (setOf_err h1 h2 q), Bool.and_eq_true]
  refine ⟨by simp, List.all_eq_true.2 fun j _ => ?_⟩
  rw [(setOf_is n p).has, (setOf_is n q).has]
  by_cases hj : j < n.toNat
  · have := h j hj
    cases hp : p j
    · simp
    · simp [hj, this hp]
  · simp [hj]
theorem setOf_len (n : Int) (p : Nat → Bool) : (setOf n p).length = (n.toNat + 63) / 64 := (setOf_is n p).len

theorem ofOk_all {n : Int} {l : List Int} (h1 : 1 ≤ n) (h2 : n ≤ 12288) (h : ∀ x ∈ l, 0 ≤ x ∧ x < n) : ofOk n l = true := by
  unfold ofOk
  rw [show okN n = true by simp [okN]; omega, Bool.true_and, List.all_eq_true]
  intro x hx
  simpa using h x hx

end Go.Proofs.YtbedhpooeabehaaGreatDoor

/-
  The sides of a midplane as a list, in the order in which they are handed out; how many of them are toward what one asks for; those of all midplanes of a set together: the open sides. No program is walked here.
-/
namespace Go.Proofs.YtbedhpooeabehaaGreatDoor
open Go Go.RowKit Go.Shelf

/-- The sides along an axis, those of all axes. -/
def twoQ (d0 d1 d2 m : Int) (k : Fin 3) : List Int := if dimAt d0 d1 d2 k = 1 then [] else [onD d0 d1 d2 m k 1, onD d0 d1 d2 m k (-1)]
def sidesL (d0 d1 d2 m : Int) : List Int := twoQ d0 d1 d2 m 0 ++ (twoQ d0 d1 d2 m 1 ++ twoQ d0 d1 d2 m 2)
/-- How many of a list are asked for. -/
def cntL (q : Int → Bool) (l : List Int) : Nat := (l.filter q).length
theorem cntL_app (q : Int → Bool) (a b : List Int) : cntL q (a ++ b) = cntL q a + cntL q b := by simp [cntL, List.filter_append]
theorem cntL_yes {q : Int → Bool} {x : Int} (h : q x = true) (l : List Int) : cntL q (l ++ [x]) = cntL q l + 1 := by rw [cntL_app]; simp [cntL, h]
theorem cntL_no {q : Int → Bool} {x : Int} (h : q x = false) (l : List Int) : cntL q (l ++ [x]) = cntL q l := by rw [cntL_app]; simp [cntL, h]
theorem cntL_le (q : Int → Bool) (l : List Int) : cntL q l ≤ l.length := List.length_filter_le _ _
theorem two_len (d0 d1 d2 m : Int) (k : Fin 3) : (twoQ d0 d1 d2 m k).length ≤ 2 := by unfold twoQ; split <;> simp
theorem sides_len (d0 d1 d2 m : Int) : (sidesL d0 d1 d2 m).length ≤ 6 := by
  have h0 := two_len d0 d1 d2 m 0
  have h1 := two_len d0 d1 d2 m 1
  have h2 := two_len d0 d1 d2 m 2
  unfold sidesL
  rw [List.length_append, List.length_append]
  omega
theorem two_cnt {d0 d1 d2 m : Int} {p q : Int → Bool} (h : mayD d0 d1 d2) (hp : p m = true) (k : Fin 3) : (cntL q (twoQ d0 d1 d2 m k) : Int) = sideK d0 d1 d2 p q k m := by
  have hk := dimAt_ok h k
  unfold okD at hk
  unfold twoQ
  split
  · rename_i h1
    rw [side_one (by omega)]; rfl
  · rw [side_in hp (by omega)]
    unfold cntL cntB
    rw [List.filter_cons, List.filter_cons]
    cases q (onD d0 d1 d2 m k 1) <;> cases q (onD d0 d1 d2 m k (-1)) <;> simp
theorem sides_cnt {d0 d1 d2 m : Int} {p q : Int → Bool} (h : mayD d0 d1 d2) (hp : p m = true) : (cntL q (sidesL d0 d1 d2 m) : Int) = sidesS d0 d1 d2 p q m := by
  unfold sidesL sidesS
  rw [cntL_app, cntL_app]
  have h0 := two_cnt (q := q) h hp 0
  have h1 := two_cnt (q := q) h hp 1
  have h2 := two_cnt (q := q) h hp 2
  omega
theorem two_in {d0 d1 d2 m : Int} (h : mayD d0 d1 d2) (hm : 0 ≤ m ∧ m < d0 * d1 * d2) (k : Fin 3) : ∀ x ∈ twoQ d0 d1 d2 m k, 0 ≤ x ∧ x < d0 * d1 * d2 := by
  intro x hx
  unfold twoQ at hx
  split at hx
  · cases hx
  · simp only [List.mem_cons, List.not_mem_nil, or_false] at hx
    rcases hx with rfl | rfl
    · exact on_node h hm k 1
    · exact on_node h hm k (-1)
theorem sides_in {d0 d1 d2 m : Int} (h : mayD d0 d1 d2) (hm : 0 ≤ m ∧ m < d0 * d1 * d2) : ∀ x ∈ sidesL d0 d1 d2 m, 0 ≤ x ∧ x < d0 * d1 * d2 := by
  intro x hx
  unfold sidesL at hx
  rw [List.mem_append, List.mem_append] at hx
  rcases hx with hx | hx | hx
  · exact two_in h hm 0 x hx
  · exact two_in h hm 1 x hx
  · exact two_in h hm 2 x hx

/-- Those of some midplanes, together. -/
def sumL (d0 d1 d2 : Int) (q : Int → Bool) (xs : List Int) : Nat := (xs.map fun m => cntL q (sidesL d0 d1 d2 m)).sum
theorem sumL_app (d0 d1 d2 : Int) (q : Int → Bool) (xs : List Int) (m : Int) : sumL d0 d1 d2 q (xs ++ [m]) = sumL d0 d1 d2 q xs + cntL q (sidesL d0 d1 d2 m) := by simp [sumL]
theorem sumL_le (d0 d1 d2 : Int) (q : Int → Bool) : ∀ xs : List Int, sumL d0 d1 d2 q xs ≤ 6 * xs.length
  | [] => by simp [sumL]
  | x :: xs => by
    have h1 := sumL_le d0 d1 d2 q xs
    have h2 := cntL_le q (sidesL d0 d1 d2 x)
    have h3 := sides_len d0 d1 d2 x
    unfold sumL at h1 ⊢
    rw [List.map_cons, List.sum_cons, List.length_cons]
    omega
/-- A set asks for its midplanes; some sets, for those of any. -/
def inN (ws : List Nat) (m : Int) : Bool := hasW ws m.toNat
def anyN (wss : List (List Nat)) (m : Int) : Bool := wss.any fun ws => hasW ws m.toNat
theorem anyN_one (ws : List Nat) : anyN [ws] = inN ws := by funext m; simp [anyN, inN]
theorem anyN_two (a b : List Nat) : anyN [a, b] = fun m => inN a m || inN b m := by funext m; simp [anyN, inN]

theorem sum_toI {d0 d1 d2 : Int} (h : mayD d0 d1 d2) (q : Int → Bool) (ws : List Nat) : ∀ k : Nat, (sumL d0 d1 d2 q (ofN (listTo ws k)) : Int) = toI (sidesS d0 d1 d2 (inN ws) q) k
  | 0 => rfl
  | k + 1 => by
    have ih := sum_toI h q ws k
    rw [toI, ← ih]
    cases hk : hasW ws k
    · rw [listTo_no hk]
      have e : ∀ j, sideK d0 d1 d2 (inN ws) q j (k : Int) = 0 := fun j => side_out (by simpa [inN] using hk)
      rw [sidesS, e, e, e]
      simp
    · rw [listTo_yes hk, ofN_app, sumL_app, ← sides_cnt (q := q) h (p := inN ws) (by simpa [inN] using hk)]
      simp
theorem list_to {N : Int} {ws : List Nat} (he : errAll N [ws] = 0) : listR N ws = ofN (listTo ws N.toNat) := by
  obtain ⟨h1, h2, hm⟩ := err_one he
  obtain ⟨hl, hm⟩ := mayS_iff.1 hm
  rw [listR, if_pos he]
  unfold numsW
  obtain ⟨j, hj⟩ : ∃ j, 64 * ws.length = N.toNat + j := ⟨64 * ws.length - N.toNat, by omega⟩
  rw [hj]
  congr 1
  clear hj
  induction j with
  | zero => rfl
  | succ j ih => rw [← Nat.add_assoc, listTo_no (hm _ (by omega)), ih]
/-- The open sides, as they are counted. -/
theorem sum_open {d0 d1 d2 : Int} {ws : List Nat} (h : mayD d0 d1 d2) (he : errAll (d0 * d1 * d2) [ws] = 0) (q : Int → Bool) : (sumL d0 d1 d2 q (listR (d0 * d1 * d2) ws) : Int) = openS d0 d1 d2 (inN ws) q := by
  rw [list_to he, sum_toI h, open_to]
theorem listR_in {N : Int} {ws : List Nat} (he : errAll N [ws] = 0) : ∀ x ∈ listR N ws, 0 ≤ x ∧ x < N := by
  rw [list_to he]
  obtain ⟨h1, h2, _⟩ := err_one he
  intro x hx
  unfold ofN at hx
  obtain ⟨j, hj, rfl⟩ := List.mem_map.1 hx
  have := (listTo_mem.1 hj).1
  omega
theorem listQ_len {N : Int} {ws : List Nat} (he : errAll N [ws] = 0) : (listR N ws).length ≤ N.toNat := by
  rw [list_to he, ofN_len]
  exact listTo_len _ _

end Go.Proofs.YtbedhpooeabehaaGreatDoor

/-
  pos.Check, pos.many, pos.Many, pos.checkNode: what each call answers, for every input; nothing that lay before is turned.
-/
namespace Go.Proofs.YtbedhpooeabehaaGreatDoor
open Go.RowKit Go.Shelf

attribute [local go_sem] Oper.semAt_some ext_const

set_option maxRecDepth 100000 in
set_option maxHeartbeats 2000000 in
theorem check_in (F : Fence) (n : Nat) (hC : F.fn 38) (hA : F.fn 59) (hF : F.fn 75) (hro : F.round = none) (hn : 3 ≤ n) (d0 d1 d2 : Int) (w : World) :
    CallsIn F n Tryz.prog 38 #[A3 d0 d1 d2] w fun e W' => ((mayD d0 d1 d2 ∧ e = .returned (I 0)) ∨ (¬ mayD d0 d1 d2 ∧ e = .returned (I 8))) ∧ Below w.heap.size w W' := by
  have h1 : 1 ≤ n := by omega
  refine callsIn_of_wp_marks Tryz.func38 rfl hC ?_ hro
  simp only [Tryz.ntmps38, List.size_toArray, List.length_cons, List.length_nil, Nat.reduceAdd, Nat.reduceSub, Array.replicate_succ, Array.replicate_zero, List.push_toArray, List.append_toArray, List.nil_append, List.cons_append]
  gi_wp2_with (gi_at_call 59; refine (axes_in F (n - 1) hA hro _ _ _ _).mono ?_; rintro e w' ⟨rfl, rfl⟩)
  have b0 := ((Blk.new w 23 #[I d0, I d1, I d2]).alloc (.cells #[I 0] 31)).alloc (.cells #[I d0, I d1, I d2] 23)
  have b1 := (Blk.new (w.alloc (.cells #[I d0, I d1, I d2] 23)) 31 #[I 0]).alloc (.cells #[I d0, I d1, I d2] 23)
  have b2 := Blk.new ((w.alloc (.cells #[I d0, I d1, I d2] 23)).alloc (.cells #[I 0] 31)) 23 #[I d0, I d1, I d2]
  simp only [World.size_alloc] at b1 b2
  have hB0 : Below w.heap.size w (((w.alloc (.cells #[I d0, I d1, I d2] 23)).alloc (.cells #[I 0] 31)).alloc (.cells #[I d0, I d1, I d2] 23)) := (((Below.refl _ w).alloc (Nat.le_refl _) _).alloc (by simp) _).alloc (by simp; omega) _
  refine wpIn_rangeFunc_ownF hro h1 (gf := 75) (lb := #[.pointer (some ⟨w.heap.size + 1 + 1, 0, none⟩)]) rfl hF (enters_of Tryz.func75 (by kernel_rfl) rfl)
    (axes_stops F (n - 1) hF hro (by omega) (w.heap.size + 1 + 1) d0 d1 d2 _ b2.lt (b2.cell 0) (b2.cell 1) (b2.cell 2)) (fun _ _ => trivial) (fun _ _ _ _ _ _ _ _ => trivial) (Below.refl _ _) (fun _ => rfl)
    (fun pre W => (((∀ k ∈ pre, okD (dimAt d0 d1 d2 k)) ∧ Blk W w.heap.size 23 #[I d0, I d1, I d2]) ∧ Blk W (w.heap.size + 1) 31 #[I 0]) ∧ Below w.heap.size w W)
    (fun c pre W => ((c = .ret ∧ (∃ k ∈ pre, ¬ okD (dimAt d0 d1 d2 k))) ∧ Blk W (w.heap.size + 1) 31 #[I 8]) ∧ Below w.heap.size w W)
    (OwnFrom.and (Own.from (own_and (own_and (own_pure _) (blk_own _ _ _)) (blk_own _ _ _)) _) (ownFrom_below (Nat.le_refl _) (by simp; omega)))
    (fun c => OwnFrom.and (Own.from (own_and (own_pure _) (blk_own _ _ _)) _) (ownFrom_below (Nat.le_refl _) (by simp; omega)))
    ⟨⟨⟨by simp, b0⟩, b1⟩, hB0⟩
    (fun x => { tmps := #[A3 d0 d1 d2, .pointer (some ⟨w.heap.size, 0, none⟩), .pointer (some ⟨w.heap.size + 1, 0, none⟩), .int .i64 (axI x), A3 d0 d1 d2, .func (.func 75) #[] #[.pointer (some ⟨w.heap.size + 1 + 1, 0, none⟩)], .int .i64 (axI x), .int .i64 (strd d0 d1 x), undef, undef, undef, undef, undef, undef, undef, undef, undef, undef], defers := [] }) ?assign ?body ?done ?stop
  case assign =>
    intro l x W K hK
    gi_wp2
    exact hK
  case body =>
    rintro l pre x W ⟨⟨⟨hp, hb0⟩, hb1⟩, hB⟩ _
    have c0 := hb0.cell 0
    have c1 := hb0.cell 1
    have c2 := hb0.cell 2
    have c3 := hb1.cell 0
    have f3 := hb1.frozen 0
    have fin : ∀ x : Fin 3, okD (dimAt d0 d1 d2 x) → ∀ k ∈ pre ++ [x], okD (dimAt d0 d1 d2 k) := fun x hx k hk => by
      rcases List.mem_append.1 hk with h | h
      · exact hp k h
      · simp at h; subst h; exact hx
    simp at c0 c1 c2 c3
    rcases fin3 x with rfl | rfl | rfl
    all_goals
      simp only [axI]
      gi_wp2
    all_goals first
      | exact ⟨KeepsOthers.refl _, trivial, ⟨⟨fin _ (by simp only [dimAt, okD]; omega), hb0⟩, hb1⟩, hB⟩
      | exact ⟨KeepsOthers.setCell _ _ _, ⟨⟨rfl, _, List.mem_append.2 (.inr (List.mem_singleton.2 rfl)), by simp only [dimAt, okD]; omega⟩, hb1.set 0 _⟩, hB.setCell (p := ⟨w.heap.size + 1, 0, none⟩) (by simp) _⟩
  case done =>
    rintro D xs W hD rfl ⟨⟨⟨hp, hb0⟩, hb1⟩, hB⟩ hK
    have c3 := hb1.cell 0
    have f3 := hb1.frozen 0
    simp at c3
    gi_wp2
    have hK' := (KeepsOthers.setCell W ⟨w.heap.size + 1, 0, none⟩ (.int .i64 0)).same D _ hK rfl
    refine ⟨by simp, .inl ⟨_, _, rfl, run_takeDeferred hK', ?_⟩⟩
    have hc5 := ((hb1.set 0 (.int .i64 0)).putObj (.deferred none) hK' rfl).cell 0
    have ho0 := hp 0 (by simp)
    have ho1 := hp 1 (by simp)
    have ho2 := hp 2 (by simp)
    simp only [dimAt, okD] at ho0 ho1 ho2
    refine ⟨.int .i64 0, ?_, .inl ⟨⟨ho0, ho1, ho2⟩, rfl⟩, below_put _ (hB.setCell (p := ⟨w.heap.size + 1, 0, none⟩) (by simp) _) (by simp at hD; omega) hK'⟩
    simp [results, Tryz.f38, go_sem, hc5]
  case stop =>
    rintro D c pre W hD hpre ⟨⟨⟨rfl, k, hk, hno⟩, hb1⟩, hB⟩ hK
    have c3 := hb1.cell 0
    simp at c3
    gi_wp2
    refine ⟨by simp, .inl ⟨_, _, rfl, run_takeDeferred hK, ?_⟩⟩
    have hc5 := (hb1.putObj (.deferred none) hK rfl).cell 0
    refine ⟨.int .i64 8, ?_, .inr ⟨fun hm => hno ?_, rfl⟩, below_put _ hB (by simp at hD; omega) hK⟩
    · simp [results, Tryz.f38, go_sem, hc5]
    · obtain ⟨m0, m1, m2⟩ := hm
      rcases fin3 k with rfl | rfl | rfl <;> simp only [dimAt, okD] <;> assumption

theorem check_yes {d0 d1 d2 : Int} (w : World) (h : mayD d0 d1 d2) : Calls Tryz.prog 38 #[A3 d0 d1 d2] w fun e W' => e = .returned (I 0) ∧ Below w.heap.size w W' := by
  refine ((callsIn_wide (n := 3)).1 (check_in Fence.wide 3 trivial trivial trivial rfl (by omega) d0 d1 d2 w)).mono ?_
  rintro e W' ⟨⟨_, rfl⟩ | ⟨hn, _⟩, hB⟩
  · exact ⟨rfl, hB⟩
  · exact absurd h hn

theorem check_no {d0 d1 d2 : Int} (w : World) (h : ¬ mayD d0 d1 d2) : Calls Tryz.prog 38 #[A3 d0 d1 d2] w fun e W' => e = .returned (I 8) ∧ Below w.heap.size w W' := by
  refine ((callsIn_wide (n := 3)).1 (check_in Fence.wide 3 trivial trivial trivial rfl (by omega) d0 d1 d2 w)).mono ?_
  rintro e W' ⟨⟨hy, _⟩ | ⟨_, rfl⟩, hB⟩
  · exact absurd hy h
  · exact ⟨rfl, hB⟩

theorem axes_calls (d0 d1 d2 : Int) (w : World) :
    Calls Tryz.prog 59 #[A3 d0 d1 d2] w fun e w' => e = .returned (.func (.func 75) #[] #[.pointer (some ⟨w.heap.size, 0, none⟩)]) ∧ w' = w.alloc (.cells #[I d0, I d1, I d2] 23) :=
  (callsIn_wide (n := 3)).1 (axes_in Fence.wide 3 trivial rfl d0 d1 d2 w)

theorem below_calls (k n : Int) (w : World) :
    Calls Tryz.prog 62 #[I k, I n] w fun e w' => e = .returned (.bool (belowB k n)) ∧ w' = w := by
  go_enter Tryz.func62, Tryz.ntmps62
  go_wp2
  all_goals
    go_ret
    first
      | exact ⟨rfl, rfl⟩
      | (refine ⟨?_, rfl⟩; simp [belowB]; omega)

set_option maxRecDepth 100000 in
set_option maxHeartbeats 2000000 in
theorem many_calls {d0 d1 d2 : Int} (w : World) (hm : mayD d0 d1 d2) :
    Calls Tryz.prog 39 #[A3 d0 d1 d2] w fun e W' => e = .returned (I (d0 * d1 * d2)) ∧ Below w.heap.size w W' := by
  refine (callsIn_wide (n := 3)).1 ?_
  have h1 : 1 ≤ 3 := by omega
  refine callsIn_of_wp_marks Tryz.func39 rfl trivial ?_ rfl
  simp only [Tryz.ntmps39, List.size_toArray, List.length_cons, List.length_nil, Nat.reduceAdd, Nat.reduceSub, Array.replicate_succ, Array.replicate_zero, List.push_toArray, List.append_toArray, List.nil_append, List.cons_append]
  gi_wp2_with (refine ⟨trivial, ?_⟩; gi_at_call 59; refine (callsIn_wide.2 (axes_calls _ _ _ _)).mono ?_; rintro e w' ⟨rfl, rfl⟩)
  have b0 := ((Blk.new w 23 #[I d0, I d1, I d2]).alloc (.cells #[I 1] 3)).alloc (.cells #[I d0, I d1, I d2] 23)
  have b1 := (Blk.new (w.alloc (.cells #[I d0, I d1, I d2] 23)) 3 #[I 1]).alloc (.cells #[I d0, I d1, I d2] 23)
  have b2 := Blk.new ((w.alloc (.cells #[I d0, I d1, I d2] 23)).alloc (.cells #[I 1] 3)) 23 #[I d0, I d1, I d2]
  simp only [World.size_alloc] at b1 b2
  have hB0 : Below w.heap.size w (((w.alloc (.cells #[I d0, I d1, I d2] 23)).alloc (.cells #[I 1] 3)).alloc (.cells #[I d0, I d1, I d2] 23)) := (((Below.refl _ w).alloc (Nat.le_refl _) _).alloc (by simp) _).alloc (by simp; omega) _
  refine wpIn_axes (w.heap.size + 1 + 1) d0 d1 d2 rfl b2 rfl
    (fun pre W => (Blk W w.heap.size 23 #[I d0, I d1, I d2] ∧ Blk W (w.heap.size + 1) 3 #[I (prodL d0 d1 d2 pre)]) ∧ Below w.heap.size w W)
    (fun _ _ _ => False)
    (OwnFrom.and (Own.from (own_and (blk_own _ _ _) (blk_own _ _ _)) _) (ownFrom_below (Nat.le_refl _) (by simp; omega)))
    (fun _ _ _ _ _ hs _ _ => hs)
    ⟨⟨b0, b1⟩, hB0⟩
    (fun x => { tmps := #[A3 d0 d1 d2, .pointer (some ⟨w.heap.size, 0, none⟩), .int .i64 0, .pointer (some ⟨w.heap.size + 1, 0, none⟩), .int .i64 (axI x), A3 d0 d1 d2, .func (.func 75) #[] #[.pointer (some ⟨w.heap.size + 1 + 1, 0, none⟩)], .int .i64 (axI x), .int .i64 (strd d0 d1 x), undef, undef, undef, undef, undef, undef], defers := [] }) ?assign ?body ?done ?stop
  case assign =>
    intro l x W K hK
    gi_wp2
    exact hK
  case body =>
    rintro l pre x W ⟨⟨hb0, hb1⟩, hB⟩ hlen
    have c0 := hb0.cell 0
    have c1 := hb0.cell 1
    have c2 := hb0.cell 2
    have c3 := hb1.cell 0
    have f3 := hb1.frozen 0
    simp at c0 c1 c2 c3
    have hw := Hid.out (prodL_snoc hm pre x hlen)
    have HW : Hid (wrap64 (prodL d0 d1 d2 pre * dimAt d0 d1 d2 x) = prodL d0 d1 d2 (pre ++ [x])) := hw
    clear hw
    have hmx : Tryz.prog.follows .mixedOrders = true := by kernel_rfl
    have e0 := Ext.cell hb0 0
    have e1 := Ext.cell hb0 1
    have e2 := Ext.cell hb0 2
    have e3 := Ext.cell hb1 0
    simp at e0 e1 e2 e3
    rcases fin3 x with rfl | rfl | rfl
    all_goals
      simp only [axI]
      gi_wp2
      refine wpIn_region_tail 5 (loose_round _ l) hmx (by kernel_rfl) ?_
      simp only [List.take_succ_cons, List.take_zero, List.drop_succ_cons, List.drop_zero]
      repeat (go_big_quiet_step (fail))
      refine wpQuiet_nil ?_
      intro x
      have g3 := Ext.frozen hb1 0 x
      gi_wp2
      refine ⟨(keeps_below x.le).trans (KeepsOthers.setCell _ _ _), trivial, ⟨(hb0.later x.le).other 0 _ (by omega), ?_⟩, (below_ext hB x).setCell (p := ⟨w.heap.size + 1, 0, none⟩) (by simp) _⟩
      rw [← HW.out]
      exact (hb1.later x.le).set 0 _
  case done =>
    rintro D W hD ⟨⟨hb0, hb1⟩, hB⟩ hK
    have c3 := hb1.cell 0
    simp at c3
    gi_wp2
    refine ⟨by simp, .inl ⟨_, _, rfl, run_takeDeferred hK, ?_⟩⟩
    exact ⟨_, results_tmp rfl _ _ _, by simp [prodL, dimAt], below_put _ hB (by simp at hD; omega) hK⟩
  case stop =>
    rintro D c pre W _ _ h _
    exact h.elim

end Go.Proofs.YtbedhpooeabehaaGreatDoor

/-
  pos.Many, pos.checkNode: what each call answers, for every input; nothing that lay before is turned.
-/
namespace Go.Proofs.YtbedhpooeabehaaGreatDoor
open Go.RowKit Go.Shelf

attribute [local go_sem] Oper.semAt_some ext_const

set_option maxHeartbeats 400000 in
theorem many_no {d0 d1 d2 : Int} (w : World) (hm : ¬ mayD d0 d1 d2) :
    Calls Tryz.prog 20 #[A3 d0 d1 d2] w fun e W' => e = .returned (.tuple #[I 0, I 8]) ∧ Below w.heap.size w W' := by
  go_enter Tryz.func20, Tryz.ntmps20
  go_wp2_with fail
  refine (check_no _ hm).mono ?_
  rintro e w1 ⟨rfl, hB⟩
  go_wp2
  go_ret2
  exact ⟨rfl, ((Below.refl _ w).alloc (Nat.le_refl _) _).trans (hB.mono (by simp))⟩

set_option maxHeartbeats 400000 in
theorem many_yes {d0 d1 d2 : Int} (w : World) (hm : mayD d0 d1 d2) :
    Calls Tryz.prog 20 #[A3 d0 d1 d2] w fun e W' => e = .returned (.tuple #[I (d0 * d1 * d2), I 0]) ∧ Below w.heap.size w W' := by
  go_enter Tryz.func20, Tryz.ntmps20
  go_wp2_with fail
  refine (check_yes _ hm).mono ?_
  rintro e w1 ⟨rfl, hB⟩
  have b0 := (Blk.new w 23 #[I d0, I d1, I d2]).later hB
  have c0 := b0.cell 0
  have c1 := b0.cell 1
  have c2 := b0.cell 2
  simp at c0 c1 c2
  go_wp2_with fail
  refine (many_calls _ hm).mono ?_
  rintro e w2 ⟨rfl, hB2⟩
  go_wp2
  go_ret2
  exact ⟨rfl, (((Below.refl _ w).alloc (Nat.le_refl _) _).trans (hB.mono (by simp))).trans (hB2.mono (by have := hB.size; simp at this; omega))⟩

set_option maxHeartbeats 400000 in
theorem node_bad {d0 d1 d2 : Int} (m : Int) (w : World) (hm : ¬ mayD d0 d1 d2) :
    Calls Tryz.prog 76 #[A3 d0 d1 d2, I m] w fun e W' => e = .returned (I 8) ∧ Below w.heap.size w W' := by
  go_enter Tryz.func76, Tryz.ntmps76
  go_wp2_with fail
  refine (many_no _ hm).mono ?_
  rintro e w1 ⟨rfl, hB⟩
  go_wp2
  go_ret
  exact ⟨rfl, ((Below.refl _ w).alloc (Nat.le_refl _) _).trans (hB.mono (by simp))⟩

set_option maxHeartbeats 400000 in
theorem node_no {d0 d1 d2 : Int} (m : Int) (w : World) (hm : mayD d0 d1 d2) (hn : belowB m (d0 * d1 * d2) = false) :
    Calls Tryz.prog 76 #[A3 d0 d1 d2, I m] w fun e W' => e = .returned (I 2) ∧ Below w.heap.size w W' := by
  go_enter Tryz.func76, Tryz.ntmps76
  go_wp2_with fail
  refine (many_yes _ hm).mono ?_
  rintro e w1 ⟨rfl, hB⟩
  go_wp2_with fail
  refine (below_calls _ _ _).mono ?_
  rintro e w2 ⟨rfl, rfl⟩
  go_wp2
  go_ret
  exact ⟨rfl, ((Below.refl _ w).alloc (Nat.le_refl _) _).trans (hB.mono (by simp))⟩

set_option maxHeartbeats 400000 in
theorem node_yes {d0 d1 d2 : Int} (m : Int) (w : World) (hm : mayD d0 d1 d2) (hn : belowB m (d0 * d1 * d2) = true) :
    Calls Tryz.prog 76 #[A3 d0 d1 d2, I m] w fun e W' => e = .returned (I 0) ∧ Below w.heap.size w W' := by
  go_enter Tryz.func76, Tryz.ntmps76
  go_wp2_with fail
  refine (many_yes _ hm).mono ?_
  rintro e w1 ⟨rfl, hB⟩
  go_wp2_with fail
  refine (below_calls _ _ _).mono ?_
  rintro e w2 ⟨rfl, rfl⟩
  go_wp2
  go_ret
  exact ⟨rfl, ((Below.refl _ w).alloc (Nat.le_refl _) _).trans (hB.mono (by simp))⟩

end Go.Proofs.YtbedhpooeabehaaGreatDoor
