/-
  A set and its numbers are each other's way back, as plain arithmetic.
-/
import Derived.Test.YtldcagjnngkabaaGreatDoorPart13
import Derived.Test.YtldcagjnngkabaaGreatDoorPart14
namespace Go.Proofs.YtldcagjnngkabaaGreatDoor
open Go Go.RowKit

theorem inL_ofN (l : List Nat) (j : Nat) : inL (ofN l) j = l.contains j := by
  unfold inL ofN
  rw [Bool.eq_iff_iff]
  simp only [List.contains_iff_mem, List.mem_map]
  constructor
  · rintro ⟨m, hm, e⟩
    have : m = j := Int.ofNat_inj.1 e
    exact this ▸ hm
  · intro h
    exact ⟨j, h, rfl⟩
theorem nums_has {ws : List Nat} {j : Nat} : (numsW ws).contains j = hasW ws j := by
  rw [Bool.eq_iff_iff, List.contains_iff_mem]
  unfold numsW
  rw [listTo_mem]
  constructor
  · rintro ⟨_, h⟩; exact h
  · intro h
    refine ⟨?_, h⟩
    apply Nat.lt_of_not_le
    intro hle
    rw [hasW_past hle] at h; cases h
theorem nums_ok {n : Int} {s : List Nat} (h : errAll n [s] = 0) : ofOk n (ofN (numsW s)) = true := by
  obtain ⟨h1, h2, hm⟩ := err_one h
  unfold ofOk
  rw [show okN n = true by simp [okN]; omega, Bool.true_and, List.all_eq_true]
  intro x hx
  unfold ofN at hx
  obtain ⟨m, hm', rfl⟩ := List.mem_map.1 hx
  have hh : hasW s m = true := (listTo_mem.1 hm').2
  have : m < n.toNat := by
    apply Nat.lt_of_not_le
    intro hle
    rw [(mayS_iff.1 hm).2 m hle] at hh; cases hh
  rw [decide_eq_true_eq]
  omega
/-- From a set to its numbers, and back. -/
theorem back_set {n : Int} {s ws : List Nat} (wsx : ∀ x ∈ s, x < 18446744073709551616) (h : errAll n [s] = 0) (ho : OfIs n (ofN (numsW s)) ws) : ws = s := by
  obtain ⟨h1, h2, hm⟩ := err_one h
  refine (ho.yes (nums_ok h)).ext ⟨(mayS_iff.1 hm).1, wsx, fun k => ?_⟩
  rw [inL_ofN, nums_has]
theorem rise {ws : List Nat} {j : Nat} (h : j + 1 < (numsW ws).length) : (numsW ws).getD j 0 < (numsW ws).getD (j + 1) 0 := by
  have hp := List.pairwise_iff_getElem.1 (listTo_rise ws (64 * ws.length)) j (j + 1) (by unfold numsW at h; omega) (by unfold numsW at h; omega) (by omega)
  have hj : j < (numsW ws).length := by omega
  simp only [List.getD_eq_getElem?_getD, List.getElem?_eq_getElem h, List.getElem?_eq_getElem hj, Option.getD_some]
  exact hp
theorem ofErr_zero {n : Int} {l : List Int} (h : ofErr n l = 0) : ofOk n l = true := by
  unfold ofErr at h
  cases e : ofOk n l
  · rw [e] at h; cases h
  · rfl
theorem ofErr_not {n : Int} {l : List Int} (h : ofErr n l ≠ 0) : ofOk n l = false := by
  cases e : ofOk n l
  · rfl
  · exact absurd (by rw [ofErr, e]; rfl) h
theorem ofOk_parts {n : Int} {l : List Int} (h : ofOk n l = true) : 1 ≤ n ∧ n ≤ 12288 ∧ ∀ x ∈ l, 0 ≤ x ∧ x < n := by
  unfold ofOk okN at h
  rw [Bool.and_eq_true] at h
  have h1 := of_decide_eq_true h.1
  exact ⟨h1.1, h1.2, fun x hx => of_decide_eq_true (List.all_eq_true.1 h.2 x hx)⟩
theorem back_may {n : Int} {l : List Int} {ws : List Nat} (hk : ofOk n l = true) (ho : OfIs n l ws) : errAll n [ws] = 0 := by
  obtain ⟨h1, h2, hall⟩ := ofOk_parts hk
  have hI := ho.yes hk
  refine errAll_may h1 h2 (mayS_iff.2 ⟨hI.len, fun k hk' => ?_⟩)
  rw [hI.has, Bool.eq_false_iff]
  intro hc
  unfold inL at hc
  have := hall _ (List.contains_iff_mem.1 hc)
  omega
theorem back_has {n : Int} {l : List Int} {ws : List Nat} (hk : ofOk n l = true) (ho : OfIs n l ws) {i : Nat} (hi : i < l.length) : hasR n ws (l.getD i 0) = true := by
  obtain ⟨h1, h2, hall⟩ := ofOk_parts hk
  have hm : l[i] ∈ l := List.getElem_mem hi
  have hb := hall _ hm
  rw [has_set (back_may hk ho) (ho.yes hk)]
  have e : l.getD i 0 = l[i] := by simp [hi]
  rw [e, decide_eq_true hb.1, Bool.true_and]
  unfold inL
  rw [List.contains_iff_mem, Int.toNat_of_nonneg hb.1]
  exact hm
theorem back_in {n : Int} {l : List Int} {ws : List Nat} (hk : ofOk n l = true) (ho : OfIs n l ws) {i : Nat} (hi : i < (numsW ws).length) : inL l ((numsW ws).getD i 0) = true := by
  have hm : (numsW ws)[i] ∈ numsW ws := List.getElem_mem hi
  have e : (numsW ws).getD i 0 = (numsW ws)[i] := by simp [hi]
  rw [e, ← (ho.yes hk).has]
  exact (listTo_mem.1 hm).2
theorem few : ∀ (xs : List Nat) (l : List Int), xs.Nodup → (∀ x ∈ xs, (x : Int) ∈ l) → xs.length ≤ l.length
  | [], l, _, _ => Nat.zero_le _
  | x :: xs, l, hn, hs => by
    have hx := hs x (by simp)
    have ih := few xs (l.erase (x : Int)) (List.nodup_cons.1 hn).2 fun y hy => by
      have hne : (y : Int) ≠ (x : Int) := fun e => by
        have : y = x := Int.ofNat_inj.1 e
        exact (List.nodup_cons.1 hn).1 (this ▸ hy)
      exact (List.mem_erase_of_ne hne).2 (hs y (by simp [hy]))
    rw [List.length_erase_of_mem hx] at ih
    have : 0 < l.length := List.length_pos_of_mem hx
    simp only [List.length_cons]
    omega
theorem back_few {n : Int} {l : List Int} {ws : List Nat} (hk : ofOk n l = true) (ho : OfIs n l ws) : (numsW ws).length ≤ l.length := by
  refine few _ _ ?_ fun x hx => ?_
  · have := listTo_rise ws (64 * ws.length)
    exact this.imp (fun h => Nat.ne_of_lt h)
  · have h := (listTo_mem.1 hx).2
    rw [(ho.yes hk).has] at h
    exact List.contains_iff_mem.1 h
theorem take_in {l : List Int} {i : Nat} (hi : i < l.length) (y : Nat) : inL (l.take (i + 1)) y = (inL (l.take i) y || (l.getD i 0 == (y : Int))) := by
  unfold inL
  rw [List.take_succ_eq_append_getElem hi, Bool.eq_iff_iff]
  simp only [List.contains_iff_mem, List.mem_append, List.mem_singleton, Bool.or_eq_true, beq_iff_eq]
  have e : l.getD i 0 = l[i] := by simp [hi]
  rw [e]
  constructor
  · rintro (h | h)
    · exact .inl h
    · exact .inr h.symm
  · rintro (h | h)
    · exact .inl h
    · exact .inr h.symm

end Go.Proofs.YtldcagjnngkabaaGreatDoor

/-
  Whether two sets meet, and whether one is in the other one, as the document tells it: tidehallref03.Meets, Meet, Inside, In.
-/
namespace Go.Proofs.YtldcagjnngkabaaGreatDoor
open Go Go.RowKit Go.Shelf

def anyB (a b : List Nat) : Bool := (List.range (64 * a.length)).any fun j => hasW a j && hasW b j
def allB (a b : List Nat) : Bool := (List.range (64 * a.length)).all fun j => !hasW a j || hasW b j
theorem anyB_eq (a b : List Nat) : anyB a b = (numsW a).any fun j => hasW b j := by
  unfold anyB numsW listTo
  rw [List.any_filter]
theorem allB_eq (a b : List Nat) : allB a b = (numsW a).all fun j => hasW b j := by
  unfold allB numsW listTo
  rw [List.all_filter]
theorem any_hit {a b : List Nat} {k : Nat} (hk : k < (numsW a).length) (h : hasW b ((numsW a).getD k 0) = true) : anyB a b = true := by
  rw [anyB_eq, List.any_eq_true]
  refine ⟨(numsW a)[k], List.getElem_mem hk, ?_⟩
  simpa [hk] using h
theorem all_hit {a b : List Nat} {k : Nat} (hk : k < (numsW a).length) (h : hasW b ((numsW a).getD k 0) = false) : allB a b = false := by
  rw [allB_eq]
  cases e : (numsW a).all fun j => hasW b j
  · rfl
  · have := List.all_eq_true.1 e ((numsW a)[k]) (List.getElem_mem hk)
    simp [hk] at h
    simp [h] at this
theorem any_none {a b : List Nat} (h : ∀ j, j < (numsW a).length → hasW b ((numsW a).getD j 0) = false) : anyB a b = false := by
  rw [anyB_eq]
  cases e : (numsW a).any fun j => hasW b j
  · rfl
  · obtain ⟨x, hx, hb⟩ := List.any_eq_true.1 e
    obtain ⟨k, hk, rfl⟩ := List.mem_iff_getElem.1 hx
    have := h k hk
    simp [hk] at this
    rw [this] at hb; cases hb
theorem all_all {a b : List Nat} (h : ∀ j, j < (numsW a).length → hasW b ((numsW a).getD j 0) = true) : allB a b = true := by
  rw [allB_eq, List.all_eq_true]
  intro x hx
  obtain ⟨k, hk, rfl⟩ := List.mem_iff_getElem.1 hx
  have := h k hk
  simpa [hk] using this
theorem numsW_lt {a : List Nat} {k : Nat} : (numsW a).getD k 0 ≤ 64 * a.length := by
  by_cases hk : k < (numsW a).length
  · have := (listTo_mem.1 (List.getElem_mem hk)).1
    simp [hk]
    exact Nat.le_of_lt this
  · simp [Nat.not_lt.1 hk]
theorem numsW_len (a : List Nat) : (numsW a).length ≤ 64 * a.length := listTo_len a _

set_option maxRecDepth 100000 in
set_option maxHeartbeats 4000000 in
theorem meetsS_calls {va vb : Value} {a b : List Nat} (w : World) (ha : Wds w va a) (hb : Wds w vb b) (hs : a.length ≤ 300) :
    Calls Tryz.prog 80 #[va, vb] w fun e W' => e = .returned (.bool (anyB a b)) ∧ Below w.heap.size w W' := by
  have HB : Hid (Wds w vb b) := hb
  have C := all_calls w ha hs
  obtain ⟨ans, hans⟩ : ∃ ans, ans = anyB a b := ⟨_, rfl⟩
  rw [← hans]
  have HS : Hid (ans = anyB a b) := hans
  clear hans
  have hnl : (numsW a).length ≤ 19200 := by have := numsW_len a; omega
  go_enter Tryz.func80, Tryz.ntmps80
  go_wp2_with fail
  refine C.mono ?_
  rintro e w1 ⟨u, rfl, hL, hT⟩
  obtain ⟨ao, cap, rfl, hv⟩ := hL.its.view
  rw [ofN_len] at hv ⊢
  have HV : Hid (∀ k, k < (numsW a).length → ∃ g off, ao = some ⟨g, off, none⟩ ∧ g < w1.heap.size ∧ w1.cell? ⟨g, off + k, none⟩ = some (I ((ofN (numsW a)).getD k 0))) := hv
  clear hv hL C
  go_wp2
  go_loopw [6] (fun i wr => ∃ k : Nat, k ≤ (numsW a).length ∧ i = .int .i64 k ∧ Hid (∀ j, j < k → hasW b ((numsW a).getD j 0) = false) ∧ wr = w1) (fun i _ => (numsW a).length - (RowKit.intOf i).toNat)
  case atStart => exact ⟨0, by omega, rfl, fun j hj => by omega, rfl⟩
  case round =>
    obtain ⟨k, hk, rfl, HT, hw⟩ := hrel
    subst hw
    by_cases hlt : (k : Int) < ((numsW a).length : Int)
    · have hkl : k < (numsW a).length := by omega
      obtain ⟨g, off, rfl, hg, hc⟩ := HV.out k hkl
      rw [ofN_get] at hc
      have TH := there_calls wr (HB.out.later hT) ((numsW a).getD k 0) (by have := numsW_lt (a := a) (k := k); omega)
      have H1 : Hid (hasW b ((numsW a).getD k 0) = true → ans = true) := fun h => by rw [HS.out]; exact any_hit hkl h
      have H0 : Hid (hasW b ((numsW a).getD k 0) = false → ∀ j, j < k + 1 → hasW b ((numsW a).getD j 0) = false) := fun h j hj => by
        rcases Nat.lt_succ_iff_lt_or_eq.1 hj with hj | rfl
        · exact HT.out j hj
        · exact h
      generalize hasW b ((numsW a).getD k 0) = q at *
      generalize (numsW a).getD k 0 = x at *
      go_wp2_with fail
      refine TH.mono ?_
      rintro e w2 ⟨rfl, hw⟩
      subst hw
      cases q
      · have HE : Hid _ := H0.out rfl
        go_wp2
        go_roundw
        case rel => exact ⟨k + 1, by omega, by go_num, HE.out, by trivial⟩
        case measure => simp [RowKit.intOf]; omega
      · have E := H1.out rfl
        subst E
        go_wp2
        go_ret
        exact ⟨rfl, hT⟩
    · have E : ans = false := by rw [HS.out]; exact any_none (fun j hj => HT.out j (by omega))
      subst E
      go_wp2
      go_ret
      exact ⟨rfl, hT⟩

end Go.Proofs.YtldcagjnngkabaaGreatDoor

/-
  The set of the numbers below n that something is told of: as a row of words, and what set's calls make of it. No program is walked here.
-/
namespace Go.Proofs.YtldcagjnngkabaaGreatDoor
open Go Go.RowKit

/-- The words of the numbers below k that are asked for. -/
def wordsTo (l : Nat) (p : Nat → Bool) : Nat → List Nat
  | 0 => List.replicate l 0
  | k + 1 => if p k = true then putW (wordsTo l p k) k else wordsTo l p k
theorem words_is (l : Nat) (p : Nat → Bool) : ∀ k, k ≤ 64 * l → IsSet l (wordsTo l p k) (fun j => decide (j < k) && p j)
  | 0, _ => (IsSet.none l).congr (fun j => by simp)
  | k + 1, h => by
    have ih := words_is l p k (by omega)
    unfold wordsTo
    cases hp : p k
    · rw [if_neg (by simp)]
      exact ih.congr (fun j => upto_no hp j)
    · rw [if_pos rfl]
      exact ih.put (by omega) (fun j => upto_yes hp j)
/-- The set of the numbers below n that are asked for. -/
def setOf (n : Int) (p : Nat → Bool) : List Nat := wordsTo ((n.toNat + 63) / 64) p n.toNat
theorem setOf_is (n : Int) (p : Nat → Bool) : IsSet ((n.toNat + 63) / 64) (setOf n p) (fun j => decide (j < n.toNat) && p j) := words_is _ _ _ (by omega)
theorem setOf_err {n : Int} (h1 : 1 ≤ n) (h2 : n ≤ 12288) (p : Nat → Bool) : errAll n [setOf n p] = 0 :=
  errAll_may h1 h2 (mayS_iff.2 ⟨(setOf_is n p).len, fun k hk => by rw [(setOf_is n p).has]; simp [Nat.not_lt.2 hk]⟩)
theorem setOf_of {n : Int} {l : List Int} {ws : List Nat} {p : Nat → Bool} (h : OfIs n l ws) (hk : ofOk n l = true) (hp : ∀ j : Nat, inL l j = (decide (j < n.toNat) && p j)) : ws = setOf n p :=
  (h.yes hk).ext ((setOf_is n p).congr hp)
theorem range_past {n : Nat} {p : Nat → Bool} : ∀ t, (List.range (n + t)).filter (fun j => decide (j < n) && p j) = (List.range n).filter p
  | 0 => List.filter_congr fun j hj => by rw [decide_eq_true (show j < n from List.mem_range.1 hj), Bool.true_and]
  | t + 1 => by
    rw [← Nat.add_assoc, List.range_succ, List.filter_append, range_past t]
    simp only [List.filter_cons, List.filter_nil, decide_eq_false (show ¬ n + t < n by omega), Bool.false_and, Bool.false_eq_true, if_false, List.append_nil]
theorem setOf_nums (n : Int) (p : Nat → Bool) : numsW (setOf n p) = (List.range n.toNat).filter p := by
  have hl := (setOf_is n p).len
  have hh := (setOf_is n p).has
  unfold numsW listTo
  rw [hl, show 64 * ((n.toNat + 63) / 64) = n.toNat + (64 * ((n.toNat + 63) / 64) - n.toNat) by omega, ← range_past (p := p) (64 * ((n.toNat + 63) / 64) - n.toNat)]
  exact List.filter_congr fun j _ => hh j
theorem setOf_list {n : Int} (h1 : 1 ≤ n) (h2 : n ≤ 12288) (p : Nat → Bool) : listR n (setOf n p) = ofN ((List.range n.toNat).filter p) := by
  unfold listR
  rw [if_pos (setOf_err h1 h2 p), setOf_nums]
theorem setOf_has {n : Int} (h1 : 1 ≤ n) (h2 : n ≤ 12288) (p : Nat → Bool) {k : Int} (hk : 0 ≤ k ∧ k < n) : hasR n (setOf n p) k = p k.toNat := by
  rw [has_set (setOf_err h1 h2 p) (setOf_is n p), show decide (0 ≤ k) = true from decide_eq_true hk.1, show decide (k.toNat < n.toNat) = true from decide_eq_true (by omega), Bool.true_and, Bool.true_and]
theorem setOf_less {n : Int} (h1 : 1 ≤ n) (h2 : n ≤ 12288) (p q : Nat → Bool) : joinW notW n (setOf n p) (setOf n q) = setOf n (fun j => p j && !q j) := by
  have T := three_of (setOf_is n p).word (setOf_is n q).word (errAll_both (setOf_err h1 h2 p) (setOf_err h1 h2 q))
  refine T.i3.ext ((setOf_is n _).congr fun j => ?_)
  rw [(setOf_is n p).has, (setOf_is n q).has]
  cases decide (j < n.toNat) <;> simp
theorem setOf_meet {n : Int} (h1 : 1 ≤ n) (h2 : n ≤ 12288) (p q : Nat → Bool) : meetSB n (setOf n p) (setOf n q) = anyB (setOf n p) (setOf n q) := by
  unfold meetSB anyB
  rw [errAll_both (setOf_err h1 h2 p) (setOf_err h1 h2 q)]
  simp
theorem setOf_any {n : Int} {p q : Nat → Bool} : anyB (setOf n p) (setOf n q) = true ↔ ∃ j : Nat, j < n.toNat ∧ p j = true ∧ q j = true := by
  unfold anyB
  rw [List.any_eq_true]
  simp only [(setOf_is n p).has, (setOf_is n q).has, List.mem_range, (setOf_is n p).len, Bool.and_eq_true, decide_eq_true_eq]
  constructor
  · rintro ⟨j, _, ⟨h, a⟩, _, b⟩; exact ⟨j, h, a, b⟩
  · rintro ⟨j, h, a, b⟩; exact ⟨j, by omega, ⟨h, a⟩, h, b⟩
theorem setOf_in {n : Int} (h1 : 1 ≤ n) (h2 : n ≤ 12288) {p q : Nat → Bool} (h : ∀ j : Nat, j < n.toNat → p j = true → q j = true) : inSB n (setOf n p) (setOf n q) = true := by
  unfold inSB
  rw [errAll_both (setOf_err h1 h2 p) (setOf_err h1 h2 q), Bool.and_eq_true]
  refine ⟨by simp, List.all_eq_true.2 fun j _ => ?_⟩
  rw [(setOf_is n p).has, (setOf_is n q).has]
  by_cases hj : j < n.toNat
  · have := h j hj
    cases hp : p j
    · simp
    · simp [hj, this hp]
  · simp [hj]
theorem setOf_len (n : Int) (p : Nat → Bool) : (setOf n p).length = (n.toNat + 63) / 64 := (setOf_is n p).len

theorem ofOk_all {n : Int} {l : List Int} (h1 : 1 ≤ n) (h2 : n ≤ 12288) (h : ∀ x ∈ l, 0 ≤ x ∧ x < n) : ofOk n l = true := by
  unfold ofOk
  rw [show okN n = true by simp [okN]; omega, Bool.true_and, List.all_eq_true]
  intro x hx
  simpa using h x hx

end Go.Proofs.YtldcagjnngkabaaGreatDoor
