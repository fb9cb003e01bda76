/-
  What sets of two come to, as plain arithmetic: whether they may be, what they have, how many numbers.
-/
import Derived.Test.YtldcagjnngkabaaGreatDoorPart9
import Derived.Test.YtldcagjnngkabaaGreatDoorPart10
import Derived.Test.YtldcagjnngkabaaGreatDoorPart1
import Derived.Test.YtldcagjnngkabaaGreatDoorPart7
namespace Go.Proofs.YtldcagjnngkabaaGreatDoor
open Go Go.RowKit

theorem errAll_both {n : Int} {a b : List Nat} (ha : errAll n [a] = 0) (hb : errAll n [b] = 0) : errAll n [a, b] = 0 := (errAll_second ha).trans hb
theorem errAll_split {n : Int} {a b : List Nat} (h : errAll n [a, b] = 0) : errAll n [a] = 0 ∧ errAll n [b] = 0 := by
  by_cases ha : errAll n [a] = 0
  · exact ⟨ha, (errAll_second ha).symm.trans h⟩
  · exact absurd ((errAll_first ha).symm.trans h) ha
theorem errAll_may {n : Int} {a : List Nat} (h1 : 1 ≤ n) (h2 : n ≤ 12288) (h : maySet n.toNat a = true) : errAll n [a] = 0 := by
  have : okN n = true := by simp [okN]; omega
  simp [errAll, this, h]

/-- A set below n whose numbers are told by those of two that may be. -/
theorem zip_may {n : Int} {a b z : List Nat} {g : Bool → Bool → Bool} (he : errAll n [a, b] = 0) (h0 : g false false = false) (hz : IsSet ((n.toNat + 63) / 64) z (fun j => g (hasW a j) (hasW b j))) : errAll n [z] = 0 := by
  obtain ⟨h1, h2, hma, hmb⟩ := err_two he
  refine errAll_may h1 h2 (mayS_iff.2 ⟨hz.len, fun k hk => ?_⟩)
  rw [hz.has, (mayS_iff.1 hma).2 k hk, (mayS_iff.1 hmb).2 k hk, h0]

/-- The three sets of two that may be. -/
structure Three (n : Int) (a b z1 z2 z3 : List Nat) : Prop where
  i1 : IsSet ((n.toNat + 63) / 64) z1 (fun j => hasW a j && hasW b j)
  i2 : IsSet ((n.toNat + 63) / 64) z2 (fun j => hasW a j || hasW b j)
  i3 : IsSet ((n.toNat + 63) / 64) z3 (fun j => hasW a j && !hasW b j)
  e1 : errAll n [z1] = 0
  e2 : errAll n [z2] = 0
  e3 : errAll n [z3] = 0
theorem three_of {n : Int} {a b : List Nat} (wa : ∀ x ∈ a, x < 18446744073709551616) (wb : ∀ x ∈ b, x < 18446744073709551616) (he : errAll n [a, b] = 0) : Three n a b (joinW andW n a b) (joinW orW n a b) (joinW notW n a b) := by
  obtain ⟨h1, h2, hma, hmb⟩ := err_two he
  have la := (mayS_iff.1 hma).1
  have lb := (mayS_iff.1 hmb).1
  unfold joinW
  simp only [if_pos he]
  have i1 := zip_and la lb wa wb
  have i2 := zip_or la lb wa wb
  have i3 := zip_not la lb wa wb
  exact ⟨i1, i2, i3, zip_may (g := fun x y => x && y) he rfl i1, zip_may (g := fun x y => x || y) he rfl i2, zip_may (g := fun x y => x && !y) he rfl i3⟩

theorem has_set {n : Int} {z : List Nat} {l : Nat} {p : Nat → Bool} (he : errAll n [z] = 0) (hz : IsSet l z p) (k : Int) : hasR n z k = (decide (0 ≤ k) && p k.toNat) := by
  unfold hasR
  rw [decide_eq_true he, Bool.true_and, hz.has]
theorem has_own {n : Int} {z : List Nat} (he : errAll n [z] = 0) (k : Int) : hasR n z k = (decide (0 ≤ k) && hasW z k.toNat) := by
  unfold hasR
  rw [decide_eq_true he, Bool.true_and]
theorem has_in {n : Int} {z : List Nat} {k : Int} (h : hasR n z k = true) : 0 ≤ k ∧ k < n := by
  constructor
  · apply Int.not_lt.1; intro hk; rw [hasR_neg hk] at h; cases h
  · apply Int.not_le.1; intro hk; rw [hasR_far hk] at h; cases h
theorem Three.has {n : Int} {a b z1 z2 z3 : List Nat} (h : Three n a b z1 z2 z3) (he : errAll n [a, b] = 0) (k : Int) :
    hasR n z1 k = (hasR n a k && hasR n b k) ∧ hasR n z2 k = (hasR n a k || hasR n b k) ∧ hasR n z3 k = (hasR n a k && !hasR n b k) := by
  obtain ⟨ha, hb⟩ := errAll_split he
  rw [has_set h.e1 h.i1, has_set h.e2 h.i2, has_set h.e3 h.i3, has_own ha, has_own hb]
  cases decide (0 ≤ k) <;> simp

theorem manyS_to {ws : List Nat} {l : Nat} (h : ws.length = l) : manyS ws = (listTo ws (64 * l)).length := by
  subst h
  exact (list_cnt ws ws.length).symm
theorem manyR_in {n : Int} {ws : List Nat} (h : errAll n [ws] = 0) : manyR n ws = manyS ws := by rw [manyR, if_pos h]
theorem manyS_le (ws : List Nat) : manyS ws ≤ 64 * ws.length := cnt_le ws ws.length

/-- How many there are in both, in either. -/
theorem Three.count {n : Int} {a b z1 z2 z3 : List Nat} (h : Three n a b z1 z2 z3) (he : errAll n [a, b] = 0) : manyS z1 + manyS z2 = manyS a + manyS b := by
  obtain ⟨h1, h2, hma, hmb⟩ := err_two he
  rw [manyS_to h.i1.len, manyS_to h.i2.len, manyS_to (mayS_iff.1 hma).1, manyS_to (mayS_iff.1 hmb).1]
  exact count_both h.i1.has h.i2.has _
theorem Three.whole {n : Int} {a b z1 z2 z3 : List Nat} (h : Three n a b z1 z2 z3) (he : errAll n [a, b] = 0) (wa : ∀ x ∈ a, x < 18446744073709551616) : joinW orW n z3 z1 = a := by
  obtain ⟨h1, h2, hma, hmb⟩ := err_two he
  have e31 := errAll_both h.e3 h.e1
  unfold joinW
  rw [if_pos e31]
  have hz := zip_or h.i3.len h.i1.len h.i3.word h.i1.word
  refine hz.ext ⟨(mayS_iff.1 hma).1, wa, fun k => ?_⟩
  rw [h.i3.has, h.i1.has]
  cases hasW a k <;> cases hasW b k <;> rfl
theorem Three.apart {n : Int} {a b z1 z2 z3 : List Nat} (h : Three n a b z1 z2 z3) : meetSB n z3 z1 = false := by
  unfold meetSB
  rw [Bool.and_eq_false_iff]
  right
  rw [Bool.eq_false_iff]
  intro hc
  obtain ⟨j, _, hj⟩ := List.any_eq_true.1 hc
  rw [h.i3.has, h.i1.has] at hj
  cases ha : hasW a j <;> cases hb : hasW b j <;> simp [ha, hb] at hj

end Go.Proofs.YtldcagjnngkabaaGreatDoor

/-
  A set and its numbers are each other's way back, as plain arithmetic.
-/
namespace Go.Proofs.YtldcagjnngkabaaGreatDoor
open Go Go.RowKit

theorem inL_ofN (l : List Nat) (j : Nat) : inL (ofN l) j = l.contains j := by
  unfold inL ofN
  rw [Bool.eq_iff_iff]
  simp only [List.contains_iff_mem, List.mem_map]
  constructor
  · rintro ⟨m, hm, e⟩
    have : m = j := Int.ofNat_inj.1 e
    exact this ▸ hm
  · intro h
    exact ⟨j, h, rfl⟩
theorem nums_has {ws : List Nat} {j : Nat} : (numsW ws).contains j = hasW ws j := by
  rw [Bool.eq_iff_iff, List.contains_iff_mem]
  unfold numsW
  rw [listTo_mem]
  constructor
  · rintro ⟨_, h⟩; exact h
  · intro h
    refine ⟨?_, h⟩
    apply Nat.lt_of_not_le
    intro hle
    rw [hasW_past hle] at h; cases h
theorem nums_ok {n : Int} {s : List Nat} (h : errAll n [s] = 0) : ofOk n (ofN (numsW s)) = true := by
  obtain ⟨h1, h2, hm⟩ := err_one h
  unfold ofOk
  rw [show okN n = true by simp [okN]; omega, Bool.true_and, List.all_eq_true]
  intro x hx
  unfold ofN at hx
  obtain ⟨m, hm', rfl⟩ := List.mem_map.1 hx
  have hh : hasW s m = true := (listTo_mem.1 hm').2
  have : m < n.toNat := by
    apply Nat.lt_of_not_le
    intro hle
    rw [(mayS_iff.1 hm).2 m hle] at hh; cases hh
  rw [decide_eq_true_eq]
  omega
/-- From a set to its numbers, and back. -/
theorem back_set {n : Int} {s ws : List Nat} (wsx : ∀ x ∈ s, x < 18446744073709551616) (h : errAll n [s] = 0) (ho : OfIs n (ofN (numsW s)) ws) : ws = s := by
  obtain ⟨h1, h2, hm⟩ := err_one h
  refine (ho.yes (nums_ok h)).ext ⟨(mayS_iff.1 hm).1, wsx, fun k => ?_⟩
  rw [inL_ofN, nums_has]
theorem rise {ws : List Nat} {j : Nat} (h : j + 1 < (numsW ws).length) : (numsW ws).getD j 0 < (numsW ws).getD (j + 1) 0 := by
  have hp := List.pairwise_iff_getElem.1 (listTo_rise ws (64 * ws.length)) j (j + 1) (by unfold numsW at h; omega) (by unfold numsW at h; omega) (by omega)
  have hj : j < (numsW ws).length := by omega
  simp only [List.getD_eq_getElem?_getD, List.getElem?_eq_getElem h, List.getElem?_eq_getElem hj, Option.getD_some]
  exact hp
theorem ofErr_zero {n : Int} {l : List Int} (h : ofErr n l = 0) : ofOk n l = true := by
  unfold ofErr at h
  cases e : ofOk n l
  · rw [e] at h; cases h
  · rfl
theorem ofErr_not {n : Int} {l : List Int} (h : ofErr n l ≠ 0) : ofOk n l = false := by
  cases e : ofOk n l
  · rfl
  · exact absurd (by rw [ofErr, e]; rfl) h
theorem ofOk_parts {n : Int} {l : List Int} (h : ofOk n l = true) : 1 ≤ n ∧ n ≤ 12288 ∧ ∀ x ∈ l, 0 ≤ x ∧ x < n := by
  unfold ofOk okN at h
  rw [Bool.and_eq_true] at h
  have h1 := of_decide_eq_true h.1
  exact ⟨h1.1, h1.2, fun x hx => of_decide_eq_true (List.all_eq_true.1 h.2 x hx)⟩
theorem back_may {n : Int} {l : List Int} {ws : List Nat} (hk : ofOk n l = true) (ho : OfIs n l ws) : errAll n [ws] = 0 := by
  obtain ⟨h1, h2, hall⟩ := ofOk_parts hk
  have hI := ho.yes hk
  refine errAll_may h1 h2 (mayS_iff.2 ⟨hI.len, fun k hk' => ?_⟩)
  rw [hI.has, Bool.eq_false_iff]
  intro hc
  unfold inL at hc
  have := hall _ (List.contains_iff_mem.1 hc)
  omega
theorem back_has {n : Int} {l : List Int} {ws : List Nat} (hk : ofOk n l = true) (ho : OfIs n l ws) {i : Nat} (hi : i < l.length) : hasR n ws (l.getD i 0) = true := by
  obtain ⟨h1, h2, hall⟩ := ofOk_parts hk
  have hm : l[i] ∈ l := List.getElem_mem hi
  have hb := hall _ hm
  rw [has_set (back_may hk ho) (ho.yes hk)]
  have e : l.getD i 0 = l[i] := by simp [hi]
  rw [e, decide_eq_true hb.1, Bool.true_and]
  unfold inL
  rw [List.contains_iff_mem, Int.toNat_of_nonneg hb.1]
  exact hm
theorem back_in {n : Int} {l : List Int} {ws : List Nat} (hk : ofOk n l = true) (ho : OfIs n l ws) {i : Nat} (hi : i < (numsW ws).length) : inL l ((numsW ws).getD i 0) = true := by
  have hm : (numsW ws)[i] ∈ numsW ws := List.getElem_mem hi
  have e : (numsW ws).getD i 0 = (numsW ws)[i] := by simp [hi]
  rw [e, ← (ho.yes hk).has]
  exact (listTo_mem.1 hm).2
theorem few : ∀ (xs : List Nat) (l : List Int), xs.Nodup → (∀ x ∈ xs, (x : Int) ∈ l) → xs.length ≤ l.length
  | [], l, _, _ => Nat.zero_le _
  | x :: xs, l, hn, hs => by
    have hx := hs x (by simp)
    have ih := few xs (l.erase (x : Int)) (List.nodup_cons.1 hn).2 fun y hy => by
      have hne : (y : Int) ≠ (x : Int) := fun e => by
        have : y = x := Int.ofNat_inj.1 e
        exact (List.nodup_cons.1 hn).1 (this ▸ hy)
      exact (List.mem_erase_of_ne hne).2 (hs y (by simp [hy]))
    rw [List.length_erase_of_mem hx] at ih
    have : 0 < l.length := List.length_pos_of_mem hx
    simp only [List.length_cons]
    omega
theorem back_few {n : Int} {l : List Int} {ws : List Nat} (hk : ofOk n l = true) (ho : OfIs n l ws) : (numsW ws).length ≤ l.length := by
  refine few _ _ ?_ fun x hx => ?_
  · have := listTo_rise ws (64 * ws.length)
    exact this.imp (fun h => Nat.ne_of_lt h)
  · have h := (listTo_mem.1 hx).2
    rw [(ho.yes hk).has] at h
    exact List.contains_iff_mem.1 h
theorem take_in {l : List Int} {i : Nat} (hi : i < l.length) (y : Nat) : inL (l.take (i + 1)) y = (inL (l.take i) y || (l.getD i 0 == (y : Int))) := by
  unfold inL
  rw [List.take_succ_eq_append_getElem hi, Bool.eq_iff_iff]
  simp only [List.contains_iff_mem, List.mem_append, List.mem_singleton, Bool.or_eq_true, beq_iff_eq]
  have e : l.getD i 0 = l[i] := by simp [hi]
  rw [e]
  constructor
  · rintro (h | h)
    · exact .inl h
    · exact .inr h.symm
  · rintro (h | h)
    · exact .inl h
    · exact .inr h.symm

end Go.Proofs.YtldcagjnngkabaaGreatDoor

/-
  Whether two sets meet, and whether one is in the other one, as the document tells it: tidehallref03.Meets, Meet, Inside, In.
-/
namespace Go.Proofs.YtldcagjnngkabaaGreatDoor
open Go Go.RowKit Go.Shelf

def anyB (a b : List Nat) : Bool := (List.range (64 * a.length)).any fun j => hasW a j && hasW b j
def allB (a b : List Nat) : Bool := (List.range (64 * a.length)).all fun j => !hasW a j || hasW b j
theorem anyB_eq (a b : List Nat) : anyB a b = (numsW a).any fun j => hasW b j := by
  unfold anyB numsW listTo
  rw [List.any_filter]
theorem allB_eq (a b : List Nat) : allB a b = (numsW a).all fun j => hasW b j := by
  unfold allB numsW listTo
  rw [List.all_filter]
theorem any_hit {a b : List Nat} {k : Nat} (hk : k < (numsW a).length) (h : hasW b ((numsW a).getD k 0) = true) : anyB a b = true := by
  rw [anyB_eq, List.any_eq_true]
  refine ⟨(numsW a)[k], List.getElem_mem hk, ?_⟩
  simpa [hk] using h
theorem all_hit {a b : List Nat} {k : Nat} (hk : k < (numsW a).length) (h : hasW b ((numsW a).getD k 0) = false) : allB a b = false := by
  rw [allB_eq]
  cases e : (numsW a).all fun j => hasW b j
  · rfl
  · have := List.all_eq_true.1 e ((numsW a)[k]) (List.getElem_mem hk)
    simp [hk] at h
    simp [h] at this
theorem any_none {a b : List Nat} (h : ∀ j, j < (numsW a).length → hasW b ((numsW a).getD j 0) = false) : anyB a b = false := by
  rw [anyB_eq]
  cases e : (numsW a).any fun j => hasW b j
  · rfl
  · obtain ⟨x, hx, hb⟩ := List.any_eq_true.1 e
    obtain ⟨k, hk, rfl⟩ := List.mem_iff_getElem.1 hx
    have := h k hk
    simp [hk] at this
    rw [this] at hb; cases hb
theorem all_all {a b : List Nat} (h : ∀ j, j < (numsW a).length → hasW b ((numsW a).getD j 0) = true) : allB a b = true := by
  rw [allB_eq, List.all_eq_true]
  intro x hx
  obtain ⟨k, hk, rfl⟩ := List.mem_iff_getElem.1 hx
  have := h k hk
  simpa [hk] using this
theorem numsW_lt {a : List Nat} {k : Nat} : (numsW a).getD k 0 ≤ 64 * a.length := by
  by_cases hk : k < (numsW a).length
  · have := (listTo_mem.1 (List.getElem_mem hk)).1
    simp [hk]
    exact Nat.le_of_lt this
  · simp [Nat.not_lt.1 hk]
theorem numsW_len (a : List Nat) : (numsW a).length ≤ 64 * a.length := listTo_len a _

set_option maxRecDepth 100000 in
set_option maxHeartbeats 4000000 in
theorem meetsS_calls {va vb : Value} {a b : List Nat} (w : World) (ha : Wds w va a) (hb : Wds w vb b) (hs : a.length ≤ 300) :
    Calls Tryz.prog 80 #[va, vb] w fun e W' => e = .returned (.bool (anyB a b)) ∧ Below w.heap.size w W' := by
  have HB : Hid (Wds w vb b) := hb
  have C := all_calls w ha hs
  obtain ⟨ans, hans⟩ : ∃ ans, ans = anyB a b := ⟨_, rfl⟩
  rw [← hans]
  have HS : Hid (ans = anyB a b) := hans
  clear hans
  have hnl : (numsW a).length ≤ 19200 := by have := numsW_len a; omega
  go_enter Tryz.func80, Tryz.ntmps80
  go_wp2_with fail
  refine C.mono ?_
  rintro e w1 ⟨u, rfl, hL, hT⟩
  obtain ⟨ao, cap, rfl, hv⟩ := hL.its.view
  rw [ofN_len] at hv ⊢
  have HV : Hid (∀ k, k < (numsW a).length → ∃ g off, ao = some ⟨g, off, none⟩ ∧ g < w1.heap.size ∧ w1.cell? ⟨g, off + k, none⟩ = some (I ((ofN (numsW a)).getD k 0))) := hv
  clear hv hL C
  go_wp2
  go_loopw [6] (fun i wr => ∃ k : Nat, k ≤ (numsW a).length ∧ i = .int .i64 k ∧ Hid (∀ j, j < k → hasW b ((numsW a).getD j 0) = false) ∧ wr = w1) (fun i _ => (numsW a).length - (RowKit.intOf i).toNat)
  case atStart => exact ⟨0, by omega, rfl, fun j hj => by omega, rfl⟩
  case round =>
    obtain ⟨k, hk, rfl, HT, hw⟩ := hrel
    subst hw
    by_cases hlt : (k : Int) < ((numsW a).length : Int)
    · have hkl : k < (numsW a).length := by omega
      obtain ⟨g, off, rfl, hg, hc⟩ := HV.out k hkl
      rw [ofN_get] at hc
      have TH := there_calls wr (HB.out.later hT) ((numsW a).getD k 0) (by have := numsW_lt (a := a) (k := k); omega)
      have H1 : Hid (hasW b ((numsW a).getD k 0) = true → ans = true) := fun h => by rw [HS.out]; exact any_hit hkl h
      have H0 : Hid (hasW b ((numsW a).getD k 0) = false → ∀ j, j < k + 1 → hasW b ((numsW a).getD j 0) = false) := fun h j hj => by
        rcases Nat.lt_succ_iff_lt_or_eq.1 hj with hj | rfl
        · exact HT.out j hj
        · exact h
      generalize hasW b ((numsW a).getD k 0) = q at *
      generalize (numsW a).getD k 0 = x at *
      go_wp2_with fail
      refine TH.mono ?_
      rintro e w2 ⟨rfl, hw⟩
      subst hw
      cases q
      · have HE : Hid _ := H0.out rfl
        go_wp2
        go_roundw
        case rel => exact ⟨k + 1, by omega, by go_num, HE.out, by trivial⟩
        case measure => simp [RowKit.intOf]; omega
      · have E := H1.out rfl
        subst E
        go_wp2
        go_ret
        exact ⟨rfl, hT⟩
    · have E : ans = false := by rw [HS.out]; exact any_none (fun j hj => HT.out j (by omega))
      subst E
      go_wp2
      go_ret
      exact ⟨rfl, hT⟩

end Go.Proofs.YtldcagjnngkabaaGreatDoor

/-
  The set of the numbers below n that something is told of: as a row of words, and what set's calls make of it. No program is walked here.
-/
namespace Go.Proofs.YtldcagjnngkabaaGreatDoor
open Go Go.RowKit

/-- The words of the numbers below k that are asked for. -/
def wordsTo (l : Nat) (p : Nat → Bool) : Nat → List Nat
  | 0 => List.replicate l 0
  | k + 1 => if p k = true then putW (wordsTo l p k) k else wordsTo l p k
theorem words_is (l : Nat) (p : Nat → Bool) : ∀ k, k ≤ 64 * l → IsSet l (wordsTo l p k) (fun j => decide (j < k) && p j)
  | 0, _ => (IsSet.none l).congr (fun j => by simp)
  | k + 1, h => by
    have ih := words_is l p k (by omega)
    unfold wordsTo
    cases hp : p k
    · rw [if_neg (by simp)]
      exact ih.congr (fun j => upto_no hp j)
    · rw [if_pos rfl]
      exact ih.put (by omega) (fun j => upto_yes hp j)
/-- The set of the numbers below n that are asked for. -/
def setOf (n : Int) (p : Nat → Bool) : List Nat := wordsTo ((n.toNat + 63) / 64) p n.toNat
theorem setOf_is (n : Int) (p : Nat → Bool) : IsSet ((n.toNat + 63) / 64) (setOf n p) (fun j => decide (j < n.toNat) && p j) := words_is _ _ _ (by omega)
theorem setOf_err {n : Int} (h1 : 1 ≤ n) (h2 : n ≤ 12288) (p : Nat → Bool) : errAll n [setOf n p] = 0 :=
  errAll_may h1 h2 (mayS_iff.2 ⟨(setOf_is n p).len, fun k hk => by rw [(setOf_is n p).has]; simp [Nat.not_lt.2 hk]⟩)
theorem setOf_of {n : Int} {l : List Int} {ws : List Nat} {p : Nat → Bool} (h : OfIs n l ws) (hk : ofOk n l = true) (hp : ∀ j : Nat, inL l j = (decide (j < n.toNat) && p j)) : ws = setOf n p :=
  (h.yes hk).ext ((setOf_is n p).congr hp)
theorem range_past {n : Nat} {p : Nat → Bool} : ∀ t, (List.range (n + t)).filter (fun j => decide (j < n) && p j) = (List.range n).filter p
  | 0 => List.filter_congr fun j hj => by rw [decide_eq_true (show j < n from List.mem_range.1 hj), Bool.true_and]
  | t + 1 => by
    rw [← Nat.add_assoc, List.range_succ, List.filter_append, range_past t]
    simp only [List.filter_cons, List.filter_nil, decide_eq_false (show ¬ n + t < n by omega), Bool.false_and, Bool.false_eq_true, if_false, List.append_nil]
theorem setOf_nums (n : Int) (p : Nat → Bool) : numsW (setOf n p) = (List.range n.toNat).filter p := by
  have hl := (setOf_is n p).len
  have hh := (setOf_is n p).has
  unfold numsW listTo
  rw [hl, show 64 * ((n.toNat + 63) / 64) = n.toNat + (64 * ((n.toNat + 63) / 64) - n.toNat) by omega, ← range_past (p := p) (64 * ((n.toNat + 63) / 64) - n.toNat)]
  exact List.filter_congr fun j _ => hh j
theorem setOf_list {n : Int} (h1 : 1 ≤ n) (h2 : n ≤ 12288) (p : Nat → Bool) : listR n (setOf n p) = ofN ((List.range n.toNat).filter p) := by
  unfold listR
  rw [if_pos (setOf_err h1 h2 p), setOf_nums]
theorem setOf_has {n : Int} (h1 : 1 ≤ n) (h2 : n ≤ 12288) (p : Nat → Bool) {k : Int} (hk : 0 ≤ k ∧ k < n) : hasR n (setOf n p) k = p k.toNat := by
  rw [has_set (setOf_err h1 h2 p) (setOf_is n p), show decide (0 ≤ k) = true from decide_eq_true hk.1, show decide (k.toNat < n.toNat) = true from decide_eq_true (by omega), Bool.true_and, Bool.true_and]
theorem setOf_less {n : Int} (h1 : 1 ≤ n) (h2 : n ≤ 12288) (p q : Nat → Bool) : joinW notW n (setOf n p) (setOf n q) = setOf n (fun j => p j && !q j) := by
  have T := three_of (setOf_is n p).word (setOf_is n q).word (errAll_both (setOf_err h1 h2 p) (setOf_err h1 h2 q))
  refine T.i3.ext ((setOf_is n _).congr fun j => ?_)
  rw [(setOf_is n p).has, (setOf_is n q).has]
  cases decide (j < n.toNat) <;> simp
theorem setOf_meet {n : Int} (h1 : 1 ≤ n) (h2 : n ≤ 12288) (p q : Nat → Bool) : meetSB n (setOf n p) (setOf n q) = anyB (setOf n p) (setOf n q) := by
  unfold meetSB anyB
  rw [errAll_both (setOf_err h1 h2 p) (setOf_err h1 h2 q)]
  simp
theorem setOf_any {n : Int} {p q : Nat → Bool} : anyB (setOf n p) (setOf n q) = true ↔ ∃ j : Nat, j < n.toNat ∧ p j = true ∧ q j = true := by
  unfold anyB
  rw [List.any_eq_true]
  simp only [(setOf_is n p).has, (setOf_is n q).has, List.mem_range, (setOf_is n p).len, Bool.and_eq_true, decide_eq_true_eq]
  constructor
  · rintro ⟨j, _, ⟨h, a⟩, _, b⟩; exact ⟨j, h, a, b⟩
  · rintro ⟨j, h, a, b⟩; exact ⟨j, by omega, ⟨h, a⟩, h, b⟩
theorem setOf_in {n : Int} (h1 : 1 ≤ n) (h2 : n ≤ 12288) {p q : Nat → Bool} (h : ∀ j : Nat, j < n.toNat → p j = true → q j = true) : inSB n (setOf n p) (setOf n q) = true := by
  unfold inSB
  rw [errAll_both (setOf_err h1 h2 p) (setOf_err h1 h2 q), Bool.and_eq_true]
  refine ⟨by simp, List.all_eq_true.2 fun j _ => ?_⟩
  rw [(setOf_is n p).has, (setOf_is n q).has]
  by_cases hj : j < n.toNat
  · have := h j hj
    cases hp : p j
    · simp
    · simp [hj, this hp]
  · simp [hj]
theorem setOf_len (n : Int) (p : Nat → Bool) : (setOf n p).length = (n.toNat + 63) / 64 := (setOf_is n p).len

theorem ofOk_all {n : Int} {l : List Int} (h1 : 1 ≤ n) (h2 : n ≤ 12288) (h : ∀ x ∈ l, 0 ≤ x ∧ x < n) : ofOk n l = true := by
  unfold ofOk
  rw [show okN n = true by simp [okN]; omega, Bool.true_and, List.all_eq_true]
  intro x hx
  simpa using h x hx

end Go.Proofs.YtldcagjnngkabaaGreatDoor

/-
  Plain arithmetic of a machine's calendars: which are busy, whose, put, taken, cut. No program is walked here.
-/
namespace Go.Proofs.YtldcagjnngkabaaGreatDoor
open Go Go.RowKit Go.Shelf

/-- Calendars that may be. -/
def maysC (cs : List (List Slt)) : Bool := cs.all mayCB
theorem maysC_iff {cs : List (List Slt)} : maysC cs = true ↔ ∀ k, k < cs.length → mayC (cs.getD k []) := by
  unfold maysC
  rw [List.all_eq_true]
  constructor
  · intro h k hk
    exact mayCB_iff.1 (h _ (by simp [hk]))
  · intro h c hc
    obtain ⟨k, hk, rfl⟩ := List.mem_iff_getElem.1 hc
    have := h k hk
    simp [hk] at this
    exact mayCB_iff.2 this
theorem maysC_may {cs : List (List Slt)} (h : maysC cs = true) (k : Nat) : mayC (cs.getD k []) := by
  by_cases hk : k < cs.length
  · exact maysC_iff.1 h k hk
  · simp [Nat.not_lt.1 hk]
    exact ⟨fun _ h => (by cases h), List.Pairwise.nil, Nat.zero_le _⟩

/-- A machine's calendars may be. -/
def mayY (a b c : Int) (ns ls : List (List Slt)) : Prop := mayD a b c ∧ (ns.length : Int) = a * b * c ∧ (ls.length : Int) = 3 * (a * b * c) ∧ maysC ns = true ∧ maysC ls = true

def mayDB (a b c : Int) : Bool := decide (1 ≤ a ∧ a ≤ 16) && (decide (1 ≤ b ∧ b ≤ 16) && decide (1 ≤ c ∧ c ≤ 16))
theorem mayDB_iff {a b c : Int} : mayDB a b c = true ↔ mayD a b c := by simp [mayDB, mayD, okD]
def mayYB (a b c : Int) (ns ls : List (List Slt)) : Bool := mayDB a b c && (decide ((ns.length : Int) = a * b * c) && (decide ((ls.length : Int) = 3 * (a * b * c)) && (maysC ns && maysC ls)))
theorem mayYB_iff {a b c : Int} {ns ls : List (List Slt)} : mayYB a b c ns ls = true ↔ mayY a b c ns ls := by
  simp only [mayYB, mayY, Bool.and_eq_true, decide_eq_true_eq, mayDB_iff]
theorem mayYB_no {a b c : Int} {ns ls : List (List Slt)} (h : ¬ mayY a b c ns ls) : mayYB a b c ns ls = false := by
  cases e : mayYB a b c ns ls
  · rfl
  · exact absurd (mayYB_iff.1 e) h
/-- The error of a machine's calendars. -/
def errY (a b c : Int) (ns ls : List (List Slt)) : Int := if mayYB a b c ns ls then 0 else 8
theorem errY_ok {a b c : Int} {ns ls : List (List Slt)} (h : mayY a b c ns ls) : errY a b c ns ls = 0 := by rw [errY, if_pos (mayYB_iff.2 h)]
theorem errY_no {a b c : Int} {ns ls : List (List Slt)} (h : ¬ mayY a b c ns ls) : errY a b c ns ls = 8 := by rw [errY, mayYB_no h]; rfl
theorem mayY.bd {a b c : Int} {ns ls : List (List Slt)} (h : mayY a b c ns ls) : 1 ≤ ns.length ∧ ns.length ≤ 4096 ∧ ls.length = 3 * ns.length := by
  have := N_bd h.1
  have h1 := h.2.1
  have h2 := h.2.2.1
  generalize a * b * c = N at *
  omega
theorem firstBad {cs : List (List Slt)} : (∃ k, k < cs.length ∧ mayCB (cs.getD k []) = false) → maysC cs = false := by
  rintro ⟨k, hk, h⟩
  cases e : maysC cs
  · rfl
  · rw [mayCB_iff.2 (maysC_may e k)] at h; cases h
theorem noneBad {cs : List (List Slt)} (h : ∀ k, k < cs.length → mayCB (cs.getD k []) = true) : maysC cs = true := maysC_iff.2 fun k hk => mayCB_iff.1 (h k hk)

/-- Which numbers' calendars are not free through a span. -/
def busyP (cs : List (List Slt)) (f t : Int) (k : Nat) : Bool := !clearC (cs.getD k []) f t
/-- Which numbers an owner has at a moment. -/
def ownP (cs : List (List Slt)) (ow at' : Int) (k : Nat) : Bool := decide (atC (cs.getD k []) at' = some ow)

/-- The numbers below k that are asked for. -/
def numsTo (p : Nat → Bool) (k : Nat) : List Int := ofN ((List.range k).filter p)
theorem numsTo_yes {p : Nat → Bool} {k : Nat} (h : p k = true) : numsTo p (k + 1) = numsTo p k ++ [(k : Int)] := by
  simp [numsTo, List.range_succ, List.filter_append, h, ofN]
theorem numsTo_no {p : Nat → Bool} {k : Nat} (h : p k = false) : numsTo p (k + 1) = numsTo p k := by
  simp [numsTo, List.range_succ, List.filter_append, h]
theorem numsTo_len (p : Nat → Bool) (k : Nat) : (numsTo p k).length ≤ k := by
  unfold numsTo
  rw [ofN_len]
  exact Nat.le_trans (List.length_filter_le _ _) (by simp)
theorem numsTo_mem {p : Nat → Bool} {k : Nat} {x : Int} (h : x ∈ numsTo p k) : 0 ≤ x ∧ x < (k : Int) := by
  obtain ⟨m, hm, rfl⟩ := List.mem_map.1 h
  have := List.mem_range.1 (List.mem_filter.1 hm).1
  omega
theorem numsTo_in (p : Nat → Bool) (k j : Nat) : inL (numsTo p k) j = (decide (j < k) && p j) := by
  unfold numsTo
  rw [inL_ofN]
  rw [Bool.eq_iff_iff]
  simp [List.mem_filter]
theorem ofOk_nums {n : Nat} (p : Nat → Bool) (h1 : 1 ≤ n) (h2 : n ≤ 12288) : ofOk n (numsTo p n) = true :=
  ofOk_all (by omega) (by omega) fun _ hx => numsTo_mem hx
theorem ofErr_nums {n : Nat} (p : Nat → Bool) (h1 : 1 ≤ n) (h2 : n ≤ 12288) : ofErr n (numsTo p n) = 0 := by
  rw [ofErr, ofOk_nums p h1 h2]; rfl
theorem of_nums {n : Nat} {ws : List Nat} {p : Nat → Bool} (h1 : 1 ≤ n) (h2 : n ≤ 12288) (h : OfIs n (numsTo p n) ws) : ws = setOf n p :=
  setOf_of h (ofOk_nums p h1 h2) fun j => by rw [numsTo_in, Int.toNat_natCast]
theorem setOf_congr {n : Int} {p q : Nat → Bool} (h : ∀ k : Nat, k < n.toNat → p k = q k) : setOf n p = setOf n q :=
  (setOf_is n p).ext ((setOf_is n q).congr fun j => by
    by_cases hj : j < n.toNat
    · rw [h j hj]
    · simp [hj])
theorem setOf_words (n : Int) (p : Nat → Bool) : ∀ x ∈ setOf n p, x < 18446744073709551616 := (setOf_is n p).word

/-- Which slots are an owner's at a moment. -/
def hereS (ow a : Int) (s : Slt) : Bool := decide (s.2.2 = ow) && inT s.1 s.2.1 a
theorem here_at {c : List Slt} (h : mayC c) (ow a : Int) : c.any (hereS ow a) = decide (atC c a = some ow) := by
  rw [Bool.eq_iff_iff, List.any_eq_true, decide_eq_true_eq, atC_some h.2.1 (mayC_fine h)]
  constructor
  · rintro ⟨s, hs, hh⟩
    simp only [hereS, Bool.and_eq_true, decide_eq_true_eq, inT_iff] at hh
    exact ⟨s, hs, hh.2, hh.1⟩
  · rintro ⟨s, hs, h1, h2⟩
    exact ⟨s, hs, by simp only [hereS, Bool.and_eq_true, decide_eq_true_eq, inT_iff]; exact ⟨h2, h1⟩⟩
/-- Behind a slot that holds the moment none does. -/
theorem here_one {c : List Slt} (h : mayC c) {ow a : Int} {k : Nat} (hk : k < c.length) (hh : hereS ow a (c.getD k (0, 0, 0)) = true) : (c.take k).any (hereS ow a) = false := by
  cases e : (c.take k).any (hereS ow a)
  · rfl
  · exfalso
    obtain ⟨s, hs, h1⟩ := List.any_eq_true.1 e
    obtain ⟨i, hi, rfl⟩ := List.mem_iff_getElem.1 hs
    rw [List.length_take] at hi
    have hi' : i < k := by omega
    have hil : i < c.length := by omega
    rw [List.getElem_take] at h1
    have hr := (List.pairwise_iff_getElem.1 h.2.1) i k hil hk hi'
    simp only [List.getD_eq_getElem?_getD, hk, getElem?_pos, Option.getD_some] at hh
    simp only [hereS, Bool.and_eq_true, decide_eq_true_eq, inT_iff] at h1 hh
    omega
theorem any_snoc {q : Slt → Bool} {c : List Slt} {k : Nat} {s : Slt} (hk : k < c.length) (hs : c.getD k (0, 0, 0) = s) : (c.take (k + 1)).any q = ((c.take k).any q || q s) := by
  rw [take_snoc hk hs, List.any_append]; simp

/-- Calendars with a slot, of those that a set has. -/
def putsC (cs : List (List Slt)) (q : Nat → Bool) (s : Slt) (k : Nat) : List (List Slt) := (List.range k).map fun k => if q k then withC s (cs.getD k []) else cs.getD k []
def takenC (cs : List (List Slt)) (q : Nat → Bool) (f t : Int) (k : Nat) : Bool := (List.range k).any fun k => q k && busyP cs f t k
def fullC (cs : List (List Slt)) (q : Nat → Bool) (k : Nat) : Bool := (List.range k).any fun k => q k && decide (4096 ≤ (cs.getD k []).length)
theorem takenC_succ (cs : List (List Slt)) (q : Nat → Bool) (f t : Int) (k : Nat) : takenC cs q f t (k + 1) = (takenC cs q f t k || (q k && busyP cs f t k)) := by
  simp [takenC, List.range_succ]
theorem fullC_succ (cs : List (List Slt)) (q : Nat → Bool) (k : Nat) : fullC cs q (k + 1) = (fullC cs q k || (q k && decide (4096 ≤ (cs.getD k []).length))) := by
  simp [fullC, List.range_succ]
theorem putsC_succ (cs : List (List Slt)) (q : Nat → Bool) (s : Slt) (k : Nat) : putsC cs q s (k + 1) = putsC cs q s k ++ [if q k then withC s (cs.getD k []) else cs.getD k []] := by
  simp [putsC, List.range_succ]
theorem putsC_len (cs : List (List Slt)) (q : Nat → Bool) (s : Slt) (k : Nat) : (putsC cs q s k).length = k := by simp [putsC]
theorem putsC_get {cs : List (List Slt)} {q : Nat → Bool} {s : Slt} {n k : Nat} (h : k < n) : (putsC cs q s n).getD k [] = if q k then withC s (cs.getD k []) else cs.getD k [] := by
  simp [putsC, h]
theorem putsC_none (cs : List (List Slt)) (s : Slt) : putsC cs (fun _ => false) s cs.length = cs := by
  apply List.ext_getElem
  · simp [putsC]
  · intro i h1 h2
    simp [putsC, h2]
theorem takenC_no {cs : List (List Slt)} {q : Nat → Bool} {f t : Int} {n : Nat} (h : takenC cs q f t n = false) {k : Nat} (hk : k < n) (hq : q k = true) : clearC (cs.getD k []) f t = true := by
  unfold takenC at h
  rw [List.any_eq_false] at h
  have := h k (List.mem_range.2 hk)
  simpa [hq, busyP] using this
theorem fullC_no {cs : List (List Slt)} {q : Nat → Bool} {n : Nat} (h : fullC cs q n = false) {k : Nat} (hk : k < n) (hq : q k = true) : (cs.getD k []).length < 4096 := by
  unfold fullC at h
  rw [List.any_eq_false] at h
  have := h k (List.mem_range.2 hk)
  simpa [hq] using this

/-- The first error of those that are told one behind the other. -/
def firstE (es : Nat → Int) : Nat → Int
  | 0 => 0
  | k + 1 => if firstE es k = 0 then es k else firstE es k
theorem firstE_next {es : Nat → Int} {k : Nat} (h : firstE es k = 0) : firstE es (k + 1) = es k := by rw [firstE, if_pos h]
theorem firstE_stay {es : Nat → Int} {k : Nat} (h : firstE es k ≠ 0) : ∀ n, k ≤ n → firstE es n = firstE es k
  | 0, hn => by obtain rfl : k = 0 := by omega
                rfl
  | n + 1, hn => by
    by_cases e : k = n + 1
    · rw [e]
    · have ih := firstE_stay h n (by omega)
      rw [firstE, if_neg (by rw [ih]; exact h), ih]
theorem firstE_congr {es fs : Nat → Int} : ∀ n, (∀ k, k < n → es k = fs k) → firstE es n = firstE fs n
  | 0, _ => rfl
  | n + 1, h => by
    have ih := firstE_congr n fun k hk => h k (by omega)
    rw [firstE, firstE, ih, h n (by omega)]
theorem firstE_zero : ∀ n, firstE (fun _ => 0) n = 0
  | 0 => rfl
  | n + 1 => by rw [firstE, if_pos (firstE_zero n)]
theorem firstE_all {es : Nat → Int} {n : Nat} (h : firstE es n = 0) {k : Nat} (hk : k < n) : es k = 0 := by
  by_cases e : firstE es (k + 1) = 0
  · by_cases e2 : firstE es k = 0
    · rw [firstE_next e2] at e; exact e
    · rw [firstE, if_neg e2] at e; exact absurd e e2
  · rw [firstE_stay e n hk] at h; exact absurd h e
/-- What putting tells, where all are clear. -/
def putEs (cs : List (List Slt)) (q : Nat → Bool) (s : Slt) (k : Nat) : Int := if q k then putE (cs.getD k []) s else 0
def putTs (cs : List (List Slt)) (q : Nat → Bool) (s : Slt) (k : Nat) : List Slt := if q k then putL (cs.getD k []) s else cs.getD k []
theorem putEs_full {cs : List (List Slt)} {q : Nat → Bool} {f t o : Int} (hm : maysC cs = true) (hs : maySl (f, t, o)) {n : Nat} (hc : takenC cs q f t n = false) : ∀ k, k ≤ n → firstE (putEs cs q (f, t, o)) k = if fullC cs q k then 4 else 0
  | 0, _ => rfl
  | k + 1, hk => by
    have ih := putEs_full hm hs hc k (by omega)
    rw [fullC_succ]
    cases hf : fullC cs q k
    · rw [hf] at ih
      rw [firstE_next ih, Bool.false_or]
      unfold putEs
      cases hq : q k
      · simp
      · have hcl := takenC_no hc (show k < n by omega) hq
        have hmk := maysC_may hm k
        by_cases hl : 4096 ≤ (cs.getD k []).length
        · have : (cs.getD k []).length = 4096 := by have := hmk.2.2; omega
          rw [if_pos rfl, putE, if_pos (mayCB_iff.2 hmk), if_pos (maySlB_iff.2 hs), if_pos hcl, if_pos this, decide_eq_true hl]
          rfl
        · rw [if_pos rfl, putE_ok hmk hs hcl (by omega), decide_eq_false hl]
          simp
    · rw [hf] at ih
      rw [firstE, if_neg (by rw [ih]; decide), ih]
      simp
theorem putTs_puts {cs : List (List Slt)} {q : Nat → Bool} {f t o : Int} (hm : maysC cs = true) (hs : maySl (f, t, o)) {n : Nat} (hc : takenC cs q f t n = false) (hf : fullC cs q n = false) : (List.range n).map (putTs cs q (f, t, o)) = putsC cs q (f, t, o) n := by
  apply List.map_congr_left
  intro k hk
  have hk := List.mem_range.1 hk
  unfold putTs
  cases hq : q k
  · simp
  · rw [if_pos rfl, if_pos rfl, putL, if_pos (putE_ok (maysC_may hm k) hs (takenC_no hc hk hq) (fullC_no hf hk hq))]

/-- Calendars without an owner's slots; with these ended. -/
def takesC (cs : List (List Slt)) (ow : Int) : List (List Slt) := cs.map fun c => lessC c ow
def cutsC (cs : List (List Slt)) (ow to : Int) : List (List Slt) := cs.map fun c => endedC c ow to
theorem map_range {α : Type} {cs : List (List Slt)} {g : List Slt → α} : (List.range cs.length).map (fun k => g (cs.getD k [])) = cs.map g := by
  apply List.ext_getElem
  · simp
  · intro i h1 h2
    have hi : i < cs.length := by simpa using h1
    simp [hi]
theorem takesC_of {cs : List (List Slt)} (h : maysC cs = true) (ow : Int) : (List.range cs.length).map (fun k => takeL (cs.getD k []) ow) = takesC cs ow := by
  unfold takesC
  rw [← map_range]
  apply List.map_congr_left
  intro k hk
  rw [takeL, if_pos (mayCB_iff.2 (maysC_may h k))]
theorem cutsC_of {cs : List (List Slt)} (h : maysC cs = true) (ow to : Int) : (List.range cs.length).map (fun k => cutL (cs.getD k []) ow to) = cutsC cs ow to := by
  unfold cutsC
  rw [← map_range]
  apply List.map_congr_left
  intro k hk
  rw [cutL, if_pos (mayCB_iff.2 (maysC_may h k))]
theorem cutsC_zero {cs : List (List Slt)} (h : maysC cs = true) (ow : Int) : cutsC cs ow 0 = takesC cs ow := by
  unfold cutsC takesC
  apply List.map_congr_left
  intro c hc
  exact endedC_zero (mayCB_iff.1 (List.all_eq_true.1 h c hc)) ow (by omega)

/-- What is put may be, is its owner's, and nothing else turns. -/
structure PutOk (cs : List (List Slt)) (q : Nat → Bool) (f t o : Int) : Prop where
  may : maysC cs = true
  slot : maySl (f, t, o)
  clear : takenC cs q f t cs.length = false
  room : fullC cs q cs.length = false
theorem PutOk.may_put {cs : List (List Slt)} {q : Nat → Bool} {f t o : Int} (h : PutOk cs q f t o) : maysC (putsC cs q (f, t, o) cs.length) = true := by
  rw [maysC_iff]
  intro k hk
  rw [putsC_len] at hk
  rw [putsC_get hk]
  cases hq : q k
  · simp only [Bool.false_eq_true, if_false]; exact maysC_may h.may k
  · simp only [if_true]
    exact withC_may (maysC_may h.may k) h.slot (takenC_no h.clear hk hq) (fullC_no h.room hk hq)
theorem PutOk.own {cs : List (List Slt)} {q : Nat → Bool} {f t o : Int} (h : PutOk cs q f t o) {a : Int} (ha : f ≤ a ∧ a < t) {k : Nat} (hk : k < cs.length) : ownP (putsC cs q (f, t, o) cs.length) o a k = (ownP cs o a k || q k) := by
  unfold ownP
  rw [putsC_get hk]
  cases hq : q k
  · simp
  · have := withC_in (maysC_may h.may k) h.slot (takenC_no h.clear hk hq) (fullC_no h.room hk hq) ha
    simp only [if_true, this.1, Bool.or_true, decide_true]
theorem PutOk.out {cs : List (List Slt)} {q : Nat → Bool} {f t o : Int} (h : PutOk cs q f t o) {a : Int} (ha : ¬ (f ≤ a ∧ a < t)) (ow : Int) {k : Nat} (hk : k < cs.length) : ownP (putsC cs q (f, t, o) cs.length) ow a k = ownP cs ow a k := by
  unfold ownP
  rw [putsC_get hk]
  cases hq : q k
  · simp
  · have := withC_out (maysC_may h.may k) h.slot (takenC_no h.clear hk hq) (fullC_no h.room hk hq) ha
    simp only [if_true, this]
theorem PutOk.other {cs : List (List Slt)} {q : Nat → Bool} {f t o : Int} (h : PutOk cs q f t o) {ow : Int} (hne : ow ≠ o) (a : Int) {k : Nat} (hk : k < cs.length) : ownP (putsC cs q (f, t, o) cs.length) ow a k = ownP cs ow a k := by
  by_cases ha : f ≤ a ∧ a < t
  · unfold ownP
    rw [putsC_get hk]
    cases hq : q k
    · simp
    · have := withC_in (maysC_may h.may k) h.slot (takenC_no h.clear hk hq) (fullC_no h.room hk hq) ha
      simp only [if_true, this.1, this.2]
      have h1 : ¬ (some o = some ow) := fun e => hne (Option.some.inj e).symm
      simp [h1]
  · exact h.out ha ow hk
theorem puts_taken (cs : List (List Slt)) (q : Nat → Bool) (f t o : Int) : takesC (putsC cs q (f, t, o) cs.length) o = takesC cs o := by
  apply List.ext_getElem
  · simp [takesC, putsC]
  · intro i h1 h2
    have hi : i < cs.length := by simpa [takesC, putsC] using h1
    simp only [takesC, putsC, List.getElem_map, List.getElem_range]
    cases hq : q i
    · simp [hi]
    · simp only [if_true]
      rw [less_with]
      simp [hi]

theorem own_apart {cs : List (List Slt)} {x y a : Int} (h : x ≠ y) {k : Nat} (h1 : ownP cs x a k = true) (h2 : ownP cs y a k = true) : False := by
  simp only [ownP, decide_eq_true_eq] at h1 h2
  rw [h1] at h2
  exact h (Option.some.inj h2)
theorem own_busy {cs : List (List Slt)} (hm : maysC cs = true) {x a f t : Int} (ha : f ≤ a ∧ a < t) {k : Nat} (h1 : ownP cs x a k = true) : busyP cs f t k = true := by
  simp only [ownP, decide_eq_true_eq] at h1
  unfold busyP
  cases e : clearC (cs.getD k []) f t
  · rfl
  · have := (clearC_at (mayC_fine (maysC_may hm k)) (by omega)).1 e a ha
    rw [h1] at this
    cases this
theorem busy_within {cs : List (List Slt)} (hm : maysC cs = true) {f t f' t' : Int} (h : f < t) (h' : f' ≤ f ∧ t ≤ t') {k : Nat} (h1 : busyP cs f t k = true) : busyP cs f' t' k = true := by
  unfold busyP at h1 ⊢
  cases e : clearC (cs.getD k []) f' t'
  · rfl
  · have hf := mayC_fine (maysC_may hm k)
    have := (clearC_iff hf (show f' < t' by omega)).1 e
    have h2 : clearC (cs.getD k []) f t = true := (clearC_iff hf h).2 fun s hs => by have := this s hs; omega
    rw [h2] at h1
    cases h1
theorem busy_both {cs : List (List Slt)} (hm : maysC cs = true) {f m t : Int} (h : f < m) (h' : m < t) (k : Nat) : busyP cs f t k = (busyP cs f m k || busyP cs m t k) := by
  have hf := mayC_fine (maysC_may hm k)
  unfold busyP
  rw [← Bool.not_and, Bool.not_inj_iff, Bool.eq_iff_iff, Bool.and_eq_true, clearC_iff hf (show f < t by omega), clearC_iff hf h, clearC_iff hf h']
  constructor
  · intro hh
    exact ⟨fun s hs => by have := hh s hs; omega, fun s hs => by have := hh s hs; omega⟩
  · rintro ⟨h1, h2⟩ s hs
    have h3 := h1 s hs
    have h4 := h2 s hs
    have h5 := hf s hs
    omega

/-- A set that may be, of numbers, joined to one that is told. -/
theorem setOf_or {n : Int} (h1 : 1 ≤ n) (h2 : n ≤ 12288) (p : Nat → Bool) {ws : List Nat} (hw : ∀ x ∈ ws, x < 18446744073709551616) (he : errAll n [ws] = 0) : joinW orW n (setOf n p) ws = setOf n (fun k => p k || hasW ws k) := by
  have T := three_of (setOf_is n p).word hw (errAll_both (setOf_err h1 h2 p) he)
  obtain ⟨_, _, hm⟩ := err_one he
  refine T.i2.ext ((setOf_is n _).congr fun j => ?_)
  rw [(setOf_is n p).has]
  by_cases hj : j < n.toNat
  · simp [hj]
  · have := (mayS_iff.1 hm).2 j (by omega)
    simp [hj, this]
theorem setOf_own {n : Int} {ws : List Nat} (hw : ∀ x ∈ ws, x < 18446744073709551616) (he : errAll n [ws] = 0) : setOf n (hasW ws) = ws := by
  obtain ⟨_, _, hm⟩ := err_one he
  refine (setOf_is n _).ext ⟨(mayS_iff.1 hm).1, hw, fun j => ?_⟩
  by_cases hj : j < n.toNat
  · simp [hj]
  · simp [hj, (mayS_iff.1 hm).2 j (by omega)]
theorem setOf_or2 {n : Int} (h1 : 1 ≤ n) (h2 : n ≤ 12288) (p q : Nat → Bool) : joinW orW n (setOf n p) (setOf n q) = setOf n (fun k => p k || q k) := by
  rw [setOf_or h1 h2 p (setOf_words n q) (setOf_err h1 h2 q)]
  exact setOf_congr fun k hk => by rw [(setOf_is n q).has]; simp [hk]
theorem setOf_meets {n : Int} (h1 : 1 ≤ n) (h2 : n ≤ 12288) (p : Nat → Bool) {ws : List Nat} (he : errAll n [ws] = 0) : meetSB n (setOf n p) ws = (List.range n.toNat).any fun k => hasW ws k && p k := by
  unfold meetSB
  rw [decide_eq_true (errAll_both (setOf_err h1 h2 p) he), Bool.true_and, Bool.eq_iff_iff, List.any_eq_true, List.any_eq_true]
  constructor
  · rintro ⟨j, _, h⟩
    rw [(setOf_is n p).has] at h
    simp only [Bool.and_eq_true, decide_eq_true_eq] at h
    exact ⟨j, List.mem_range.2 h.1.1, by simp [h.1.2, h.2]⟩
  · rintro ⟨j, hj, h⟩
    have hj := List.mem_range.1 hj
    simp only [Bool.and_eq_true] at h
    refine ⟨j, List.mem_range.2 (by rw [setOf_len]; omega), ?_⟩
    rw [(setOf_is n p).has]
    simp [hj, h.1, h.2]

end Go.Proofs.YtldcagjnngkabaaGreatDoor

/-
  The document's answers of one set (tidehallref03.List, Has, Many); whether two lists are the same (tidehallref02.Ints).
-/
namespace Go.Proofs.YtldcagjnngkabaaGreatDoor
open Go Go.RowKit Go.Shelf

attribute [local go_sem] Oper.semAt_some ext_const

end Go.Proofs.YtldcagjnngkabaaGreatDoor

/-
  The chapter's first examples (the statements' 'alive').
-/
namespace Go.Proofs.YtldcagjnngkabaaGreatDoor
open Go Go.RowKit Go.Shelf

theorem alive_err : errAll 70 [[8, 32]] = 0 := by decide +kernel
theorem alive_list : listR 70 [8, 32] = [3, 69] := by decide +kernel
theorem alive_of : ofErr 70 [3, 69, 3] = 0 := by decide +kernel
theorem alive_ok : ofOk 70 [3, 69, 3] = true := by decide +kernel
theorem alive_bits : ∀ k, k < 128 → hasW [8, 32] k = inL [3, 69, 3] k := by decide +kernel
theorem alive_set {ws : List Nat} (h : OfIs 70 [3, 69, 3] ws) : ws = [8, 32] := by
  refine (h.yes alive_ok).ext ⟨rfl, fun x hx => ?_, fun k => ?_⟩
  · simp at hx
    rcases hx with rfl | rfl <;> decide
  · by_cases hk : k < 128
    · exact alive_bits k hk
    · rw [hasW_past (by simp; omega)]
      unfold inL
      symm
      rw [Bool.eq_false_iff]
      intro hc
      simp at hc
      omega

theorem its_of_blk {W : World} {g : Nat} {xs : List Int} {t : TypeId} (h : Blk W g t (xs.map I).toArray) (cap : Nat) : Its W (.slice (some ⟨g, 0, none⟩) xs.length cap) xs := by
  have := Sl.blk h cap
  rw [List.length_map] at this
  exact this
theorem wds_of_blk {W : World} {g : Nat} {ws : List Nat} {t : TypeId} (hw : ∀ x ∈ ws, x < 18446744073709551616) (h : Blk W g t (ws.map U).toArray) (cap : Nat) : Wds W (.slice (some ⟨g, 0, none⟩) ws.length cap) ws := by
  have := Sl.blk h cap
  rw [List.length_map] at this
  exact ⟨hw, this⟩

end Go.Proofs.YtldcagjnngkabaaGreatDoor
