/-
  A set and its numbers are each other's way back, as plain arithmetic.
-/
import Derived.Test.YtckklobbbidonaaDoorSetOf
import Derived.Test.YtckklobbbidonaaDoorSetCalls
import Derived.Test.YtckklobbbidonaaDoorJoinFacts
namespace Go.Proofs.YtckklobbbidonaaDoor
open Go Go.RowKit

theorem inL_ofN (l : List Nat) (j : Nat) : inL (ofN l) j = l.contains j := by
  unfold inL ofN
  rw [Bool.eq_iff_iff]
  simp only [List.contains_iff_mem, List.mem_map]
  constructor
  · rintro ⟨m, hm, e⟩
    have : m = j := Int.ofNat_inj.1 e
    exact this ▸ hm
  · intro h
    exact ⟨j, h, rfl⟩
theorem nums_has {ws : List Nat} {j : Nat} : (numsW ws).contains j = hasW ws j := by
  rw [Bool.eq_iff_iff, List.contains_iff_mem]
  unfold numsW
  rw [listTo_mem]
  constructor
  · rintro ⟨_, h⟩; exact h
  · intro h
    refine ⟨?_, h⟩
    apply Nat.lt_of_not_le
    intro hle
    rw [hasW_past hle] at h; cases h
theorem nums_ok {n : Int} {s : List Nat} (h : errAll n [s] = 0) : ofOk n (ofN (numsW s)) = true := by
  obtain ⟨h1, h2, hm⟩ := err_one h
  unfold ofOk
  rw [show okN n = true by simp [okN]; omega, Bool.true_and, List.all_eq_true]
  intro x hx
  unfold ofN at hx
  obtain ⟨m, hm', rfl⟩ := List.mem_map.1 hx
  have hh : hasW s m = true := (listTo_mem.1 hm').2
  have : m < n.toNat := by
    apply Nat.lt_of_not_le
    intro hle
    rw [(mayS_iff.1 hm).2 m hle] at hh; cases hh
  rw [decide_eq_true_eq]
  omega
/-- From a set to its numbers, and back. -/
theorem back_set {n : Int} {s ws : List Nat} (wsx : ∀ x ∈ s, x < 18446744073709551616) (h : errAll n [s] = 0) (ho : OfIs n (ofN (numsW s)) ws) : ws = s := by
  obtain ⟨h1, h2, hm⟩ := err_one h
  refine (ho.yes (nums_ok h)).ext ⟨(mayS_iff.1 hm).1, wsx, fun k => ?_⟩
  rw [inL_ofN, nums_has]
theorem rise {ws : List Nat} {j : Nat} (h : j + 1 < (numsW ws).length) : (numsW ws).getD j 0 < (numsW ws).getD (j + 1) 0 := by
  have hp := List.pairwise_iff_getElem.1 (listTo_rise ws (64 * ws.length)) j (j + 1) (by unfold numsW at h; omega) (by unfold numsW at h; omega) (by omega)
  have hj : j < (numsW ws).length := by omega
  simp only [List.getD_eq_getElem?_getD, List.getElem?_eq_getElem h, List.getElem?_eq_getElem hj, Option.getD_some]
  exact hp
theorem ofErr_zero {n : Int} {l : List Int} (h : ofErr n l = 0) : ofOk n l = true := by
  unfold ofErr at h
  cases e : ofOk n l
  · rw [e] at h; cases h
  · rfl
theorem ofErr_not {n : Int} {l : List Int} (h : ofErr n l ≠ 0) : ofOk n l = false := by
  cases e : ofOk n l
  · rfl
  · exact absurd (by rw [ofErr, e]; rfl) h
theorem ofOk_parts {n : Int} {l : List Int} (h : ofOk n l = true) : 1 ≤ n ∧ n ≤ 12288 ∧ ∀ x ∈ l, 0 ≤ x ∧ x < n := by
  unfold ofOk okN at h
  rw [Bool.and_eq_true] at h
  have h1 := of_decide_eq_true h.1
  exact ⟨h1.1, h1.2, fun x hx => of_decide_eq_true (List.all_eq_true.1 h.2 x hx)⟩
theorem back_may {n : Int} {l : List Int} {ws : List Nat} (hk : ofOk n l = true) (ho : OfIs n l ws) : errAll n [ws] = 0 := by
  obtain ⟨h1, h2, hall⟩ := ofOk_parts hk
  have hI := ho.yes hk
  refine errAll_may h1 h2 (mayS_iff.2 ⟨hI.len, fun k hk' => ?_⟩)
  rw [hI.has, Bool.eq_false_iff]
  intro hc
  unfold inL at hc
  have := hall _ (List.contains_iff_mem.1 hc)
  omega
theorem back_has {n : Int} {l : List Int} {ws : List Nat} (hk : ofOk n l = true) (ho : OfIs n l ws) {i : Nat} (hi : i < l.length) : hasR n ws (l.getD i 0) = true := by
  obtain ⟨h1, h2, hall⟩ := ofOk_parts hk
  have hm : l[i] ∈ l := List.getElem_mem hi
  have hb := hall _ hm
  rw [has_set (back_may hk ho) (ho.yes hk)]
  have e : l.getD i 0 = l[i] := by simp [hi]
  rw [e, decide_eq_true hb.1, Bool.true_and]
  unfold inL
  rw [List.contains_iff_mem, Int.toNat_of_nonneg hb.1]
  exact hm
theorem back_in {n : Int} {l : List Int} {ws : List Nat} (hk : ofOk n l = true) (ho : OfIs n l ws) {i : Nat} (hi : i < (numsW ws).length) : inL l ((numsW ws).getD i 0) = true := by
  have hm : (numsW ws)[i] ∈ numsW ws := List.getElem_mem hi
  have e : (numsW ws).getD i 0 = (numsW ws)[i] := by simp [hi]
  rw [e, ← (ho.yes hk).has]
  exact (listTo_mem.1 hm).2
theorem few : ∀ (xs : List Nat) (l : List Int), xs.Nodup → (∀ x ∈ xs, (x : Int) ∈ l) → xs.length ≤ l.length
  | [], l, _, _ => Nat.zero_le _
  | x :: xs, l, hn, hs => by
    have hx := hs x (by simp)
    have ih := few xs (l.erase (x : Int)) (List.nodup_cons.1 hn).2 fun y hy => by
      have hne : (y : Int) ≠ (x : Int) := fun e => by
        have : y = x := Int.ofNat_inj.1 e
        exact (List.nodup_cons.1 hn).1 (this ▸ hy)
      exact (List.mem_erase_of_ne hne).2 (hs y (by simp [hy]))
    rw [List.length_erase_of_mem hx] at ih
    have : 0 < l.length := List.length_pos_of_mem hx
    simp only [List.length_cons]
    omega
theorem back_few {n : Int} {l : List Int} {ws : List Nat} (hk : ofOk n l = true) (ho : OfIs n l ws) : (numsW ws).length ≤ l.length := by
  refine few _ _ ?_ fun x hx => ?_
  · have := listTo_rise ws (64 * ws.length)
    exact this.imp (fun h => Nat.ne_of_lt h)
  · have h := (listTo_mem.1 hx).2
    rw [(ho.yes hk).has] at h
    exact List.contains_iff_mem.1 h
theorem take_in {l : List Int} {i : Nat} (hi : i < l.length) (y : Nat) : inL (l.take (i + 1)) y = (inL (l.take i) y || (l.getD i 0 == (y : Int))) := by
  unfold inL
  rw [List.take_succ_eq_append_getElem hi, Bool.eq_iff_iff]
  simp only [List.contains_iff_mem, List.mem_append, List.mem_singleton, Bool.or_eq_true, beq_iff_eq]
  have e : l.getD i 0 = l[i] := by simp [hi]
  rw [e]
  constructor
  · rintro (h | h)
    · exact .inl h
    · exact .inr h.symm
  · rintro (h | h)
    · exact .inl h
    · exact .inr h.symm

end Go.Proofs.YtckklobbbidonaaDoor
