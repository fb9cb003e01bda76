/-
  The calls of one set: set.Check, set.Has, set.Many, set.List; and the document's answers.
-/
import Derived.Test.YtjmfdpilmljppaaPart10
import Derived.Test.YtjmfdpilmljppaaPart9
import Derived.Test.YtjmfdpilmljppaaPart8
import Derived.Test.YtjmfdpilmljppaaPart6
namespace Go.Proofs.Ytjmfdpilmljppaa
open Go Go.RowKit Go.Shelf

theorem check_one {v : Value} {ws : List Nat} (w : World) (h : Wds w v ws) (n : Int) : ∀ W, Blk W w.heap.size 30 #[v] → Below w.heap.size w W →
    Calls Try.prog 49 #[I n, .slice (some ⟨w.heap.size, 0, none⟩) 1 1] W fun e W' => e = .returned (I (errAll n [ws])) ∧ W' = W := by
  intro W hW hB
  refine check_calls (vs := [v]) (wss := [ws]) W (Sl.blk hW 1) rfl (by simp) ?_ n
  intro i hi
  match i, hi with
  | 0, _ => exact h.later hB

theorem chk_calls {v : Value} {ws : List Nat} (w : World) (h : Wds w v ws) (n : Int) :
    Calls Try.prog 55 #[I n, v] w fun e W' => e = .returned (I (errAll n [ws])) ∧ Below w.heap.size w W' := by
  obtain ⟨ao, cap, rfl, hv⟩ := h.view
  have C := check_one w h n
  generalize errAll n [ws] = er at *
  go_enter Try.func55, Try.ntmps55
  go_wp2_with fail
  refine (C _ (Blk.new w _ _) ((Below.refl _ w).alloc (Nat.le_refl _) _)).mono ?_
  rintro e w1 ⟨rfl, hw⟩
  have hT := (Below.refl _ w).alloc (Nat.le_refl _) (.cells #[.slice ao ws.length cap] 30)
  rw [← hw] at hT
  clear hw C
  go_wp2
  go_ret
  exact ⟨rfl, hT⟩

/-- Whether a number is in a set. -/
def hasR (n : Int) (ws : List Nat) (k : Int) : Bool := decide (errAll n [ws] = 0) && decide (0 ≤ k) && hasW ws k.toNat
theorem hasR_err {n : Int} {ws : List Nat} (h : errAll n [ws] ≠ 0) (k : Int) : hasR n ws k = false := by simp [hasR, h]
theorem hasR_neg {n : Int} {ws : List Nat} {k : Int} (h : k < 0) : hasR n ws k = false := by
  unfold hasR
  rw [decide_eq_false (by omega : ¬ 0 ≤ k)]
  simp
theorem hasR_in {n : Int} {ws : List Nat} {k : Nat} (h : errAll n [ws] = 0) : hasR n ws k = hasW ws k := by simp [hasR, h]
theorem hasR_far {n : Int} {ws : List Nat} {k : Int} (h : n ≤ k) : hasR n ws k = false := by
  unfold hasR
  by_cases he : errAll n [ws] = 0
  · obtain ⟨h1, h2, hm⟩ := err_one he
    rw [(mayS_iff.1 hm).2 k.toNat (by omega)]
    simp
  · simp [he]

theorem hasSet_calls {v : Value} {ws : List Nat} (w : World) (h : Wds w v ws) (n k : Int) :
    Calls Try.prog 25 #[I n, v, I k] w fun e W' => e = .returned (.tuple #[.bool (hasR n ws k), I (errAll n [ws])]) ∧ Below w.heap.size w W' := by
  obtain ⟨ao, cap, rfl, hv⟩ := h.view
  have C := check_one w h n
  obtain ⟨ans, hans⟩ : ∃ ans, ans = hasR n ws k := ⟨_, rfl⟩
  obtain ⟨er, her⟩ : ∃ er, er = errAll n [ws] := ⟨_, rfl⟩
  rw [← hans]
  rw [← her] at C ⊢
  by_cases h0 : er = 0
  · have he := her.symm.trans h0
    obtain ⟨h1, h2, hm⟩ := err_one he
    by_cases hk : 0 ≤ k ∧ k < n
    · obtain ⟨hk0, hkn⟩ := hk
      obtain ⟨m, rfl⟩ : ∃ m : Nat, k = m := ⟨k.toNat, by omega⟩
      have hl := (mayS_iff.1 hm).1
      have hml : m / 64 < ws.length := by omega
      obtain ⟨g, off, rfl, hg, hc⟩ := hv _ hml
      have hx := h.word (m / 64)
      have hb := bit_of _ (m % 64) hx
      have e : ans = (ws.getD (m / 64) 0).testBit (m % 64) := by rw [hans, hasR_in he]; rfl
      have HA : Hid (ans = (bits .and .u64 ((ws.getD (m / 64) 0 : Nat) / 2 ^ (m % 64)) 1 == 1)) := by rw [e]; exact hb.symm
      have hmi : (m : Int) / 64 < (ws.length : Int) := by omega
      clear hb e hv h hans her he hl hm
      generalize ws.getD (m / 64) 0 = x at *
      subst h0
      go_enter Try.func25, Try.ntmps25
      go_wp2_with fail
      refine (C _ (Blk.new w _ _) ((Below.refl _ w).alloc (Nat.le_refl _) _)).mono ?_
      rintro e w1 ⟨rfl, hw⟩
      have hT := (Below.refl _ w).alloc (Nat.le_refl _) (.cells #[.slice (some ⟨g, off, none⟩) ws.length cap] 30)
      rw [← hw] at hT
      have hc1 := (hT.cell (p := ⟨g, off + m / 64, none⟩) hg).trans hc
      clear hw C hc
      go_wp2
      go_ret2
      exact ⟨by rw [HA.out]; rfl, hT⟩
    · have E : ans = false := by
        rw [hans]
        by_cases hk0 : k < 0
        · exact hasR_neg hk0
        · exact hasR_far (by omega)
      subst E
      clear hans her he hm
      subst h0
      by_cases hk0 : k < 0
      · go_enter Try.func25, Try.ntmps25
        go_wp2_with fail
        refine (C _ (Blk.new w _ _) ((Below.refl _ w).alloc (Nat.le_refl _) _)).mono ?_
        rintro e w1 ⟨rfl, hw⟩
        have hT := (Below.refl _ w).alloc (Nat.le_refl _) (.cells #[.slice ao ws.length cap] 30)
        rw [← hw] at hT
        clear hw C
        go_wp2
        go_ret2
        exact ⟨rfl, hT⟩
      · have hkn : n ≤ k := by omega
        clear hk
        go_enter Try.func25, Try.ntmps25
        go_wp2_with fail
        refine (C _ (Blk.new w _ _) ((Below.refl _ w).alloc (Nat.le_refl _) _)).mono ?_
        rintro e w1 ⟨rfl, hw⟩
        have hT := (Below.refl _ w).alloc (Nat.le_refl _) (.cells #[.slice ao ws.length cap] 30)
        rw [← hw] at hT
        clear hw C
        go_wp2
        go_ret2
        exact ⟨rfl, hT⟩
  · have E : ans = false := by rw [hans]; exact hasR_err (fun e => h0 (her.trans e)) k
    subst E
    clear hans her
    go_enter Try.func25, Try.ntmps25
    go_wp2_with fail
    refine (C _ (Blk.new w _ _) ((Below.refl _ w).alloc (Nat.le_refl _) _)).mono ?_
    rintro e w1 ⟨rfl, hw⟩
    have hT := (Below.refl _ w).alloc (Nat.le_refl _) (.cells #[.slice ao ws.length cap] 30)
    rw [← hw] at hT
    clear hw C
    go_wp2
    go_ret2
    exact ⟨rfl, hT⟩

/-- How many numbers a set has. -/
def manyR (n : Int) (ws : List Nat) : Nat := if errAll n [ws] = 0 then manyS ws else 0
theorem manyn_calls {v : Value} {ws : List Nat} (w : World) (h : Wds w v ws) (n : Int) :
    Calls Try.prog 28 #[I n, v] w fun e W' => e = .returned (.tuple #[I (manyR n ws), I (errAll n [ws])]) ∧ Below w.heap.size w W' := by
  obtain ⟨ao, cap, rfl, hv⟩ := h.view
  have C := check_one w h n
  obtain ⟨ans, hans⟩ : ∃ ans, ans = manyR n ws := ⟨_, rfl⟩
  obtain ⟨er, her⟩ : ∃ er, er = errAll n [ws] := ⟨_, rfl⟩
  rw [← hans]
  rw [← her] at C ⊢
  by_cases h0 : er = 0
  · have he := her.symm.trans h0
    obtain ⟨h1, h2, hm⟩ := err_one he
    have hl := (mayS_iff.1 hm).1
    have M := fun W (hB : Below w.heap.size w W) => manyS_calls W (h.later hB) (by omega)
    rw [show manyS ws = ans by rw [hans, manyR, if_pos he]] at M
    clear hans her he hm hl
    subst h0
    go_enter Try.func28, Try.ntmps28
    go_wp2_with fail
    refine (C _ (Blk.new w _ _) ((Below.refl _ w).alloc (Nat.le_refl _) _)).mono ?_
    rintro e w1 ⟨rfl, hw⟩
    have hT := (Below.refl _ w).alloc (Nat.le_refl _) (.cells #[.slice ao ws.length cap] 30)
    rw [← hw] at hT
    clear hw C
    go_wp2_with fail
    refine (M _ hT).mono ?_
    rintro e w2 ⟨rfl, hw⟩
    subst hw
    go_wp2
    go_ret2
    exact ⟨rfl, hT⟩
  · have E : ans = 0 := by rw [hans, manyR, if_neg (fun e => h0 (her.trans e))]
    subst E
    clear hans her
    go_enter Try.func28, Try.ntmps28
    go_wp2_with fail
    refine (C _ (Blk.new w _ _) ((Below.refl _ w).alloc (Nat.le_refl _) _)).mono ?_
    rintro e w1 ⟨rfl, hw⟩
    have hT := (Below.refl _ w).alloc (Nat.le_refl _) (.cells #[.slice ao ws.length cap] 30)
    rw [← hw] at hT
    clear hw C
    go_wp2
    go_ret2
    exact ⟨rfl, hT⟩

/-- A set's numbers. -/
def listR (n : Int) (ws : List Nat) : List Int := if errAll n [ws] = 0 then ofN (numsW ws) else []
end Go.Proofs.Ytjmfdpilmljppaa

/-
  What sets of two come to, as plain arithmetic: whether they may be, what they have, how many numbers.
-/
namespace Go.Proofs.Ytjmfdpilmljppaa
open Go Go.RowKit

theorem errAll_both {n : Int} {a b : List Nat} (ha : errAll n [a] = 0) (hb : errAll n [b] = 0) : errAll n [a, b] = 0 := (errAll_second ha).trans hb
theorem errAll_split {n : Int} {a b : List Nat} (h : errAll n [a, b] = 0) : errAll n [a] = 0 ∧ errAll n [b] = 0 := by
  by_cases ha : errAll n [a] = 0
  · exact ⟨ha, (errAll_second ha).symm.trans h⟩
  · exact absurd ((errAll_first ha).symm.trans h) ha
theorem errAll_may {n : Int} {a : List Nat} (h1 : 1 ≤ n) (h2 : n ≤ 12288) (h : maySet n.toNat a = true) : errAll n [a] = 0 := by
  have : okN n = true := by simp [okN]; omega
  simp [errAll, this, h]

/-- A set below n whose numbers are told by those of two that may be. -/
theorem zip_may {n : Int} {a b z : List Nat} {g : Bool → Bool → Bool} (he : errAll n [a, b] = 0) (h0 : g false false = false) (hz : IsSet ((n.toNat + 63) / 64) z (fun j => g (hasW a j) (hasW b j))) : errAll n [z] = 0 := by
  obtain ⟨h1, h2, hma, hmb⟩ := err_two he
  refine errAll_may h1 h2 (mayS_iff.2 ⟨hz.len, fun k hk => ?_⟩)
  rw [hz.has, (mayS_iff.1 hma).2 k hk, (mayS_iff.1 hmb).2 k hk, h0]

/-- The three sets of two that may be. -/
structure Three (n : Int) (a b z1 z2 z3 : List Nat) : Prop where
  i1 : IsSet ((n.toNat + 63) / 64) z1 (fun j => hasW a j && hasW b j)
  i2 : IsSet ((n.toNat + 63) / 64) z2 (fun j => hasW a j || hasW b j)
  i3 : IsSet ((n.toNat + 63) / 64) z3 (fun j => hasW a j && !hasW b j)
  e1 : errAll n [z1] = 0
  e2 : errAll n [z2] = 0
  e3 : errAll n [z3] = 0
theorem three_of {n : Int} {a b : List Nat} (wa : ∀ x ∈ a, x < 18446744073709551616) (wb : ∀ x ∈ b, x < 18446744073709551616) (he : errAll n [a, b] = 0) : Three n a b (joinW andW n a b) (joinW orW n a b) (joinW notW n a b) := by
  obtain ⟨h1, h2, hma, hmb⟩ := err_two he
  have la := (mayS_iff.1 hma).1
  have lb := (mayS_iff.1 hmb).1
  unfold joinW
  simp only [if_pos he]
  have i1 := zip_and la lb wa wb
  have i2 := zip_or la lb wa wb
  have i3 := zip_not la lb wa wb
  exact ⟨i1, i2, i3, zip_may (g := fun x y => x && y) he rfl i1, zip_may (g := fun x y => x || y) he rfl i2, zip_may (g := fun x y => x && !y) he rfl i3⟩

theorem has_set {n : Int} {z : List Nat} {l : Nat} {p : Nat → Bool} (he : errAll n [z] = 0) (hz : IsSet l z p) (k : Int) : hasR n z k = (decide (0 ≤ k) && p k.toNat) := by
  unfold hasR
  rw [decide_eq_true he, Bool.true_and, hz.has]
theorem has_own {n : Int} {z : List Nat} (he : errAll n [z] = 0) (k : Int) : hasR n z k = (decide (0 ≤ k) && hasW z k.toNat) := by
  unfold hasR
  rw [decide_eq_true he, Bool.true_and]
theorem has_in {n : Int} {z : List Nat} {k : Int} (h : hasR n z k = true) : 0 ≤ k ∧ k < n := by
  constructor
  · apply Int.not_lt.1; intro hk; rw [hasR_neg hk] at h; cases h
  · apply Int.not_le.1; intro hk; rw [hasR_far hk] at h; cases h
theorem Three.has {n : Int} {a b z1 z2 z3 : List Nat} (h : Three n a b z1 z2 z3) (he : errAll n [a, b] = 0) (k : Int) :
    hasR n z1 k = (hasR n a k && hasR n b k) ∧ hasR n z2 k = (hasR n a k || hasR n b k) ∧ hasR n z3 k = (hasR n a k && !hasR n b k) := by
  obtain ⟨ha, hb⟩ := errAll_split he
  rw [has_set h.e1 h.i1, has_set h.e2 h.i2, has_set h.e3 h.i3, has_own ha, has_own hb]
  cases decide (0 ≤ k) <;> simp

theorem manyS_to {ws : List Nat} {l : Nat} (h : ws.length = l) : manyS ws = (listTo ws (64 * l)).length := by
  subst h
  exact (list_cnt ws ws.length).symm
theorem manyR_in {n : Int} {ws : List Nat} (h : errAll n [ws] = 0) : manyR n ws = manyS ws := by rw [manyR, if_pos h]
theorem manyS_le (ws : List Nat) : manyS ws ≤ 64 * ws.length := cnt_le ws ws.length

/-- How many there are in both, in either. -/
theorem Three.count {n : Int} {a b z1 z2 z3 : List Nat} (h : Three n a b z1 z2 z3) (he : errAll n [a, b] = 0) : manyS z1 + manyS z2 = manyS a + manyS b := by
  obtain ⟨h1, h2, hma, hmb⟩ := err_two he
  rw [manyS_to h.i1.len, manyS_to h.i2.len, manyS_to (mayS_iff.1 hma).1, manyS_to (mayS_iff.1 hmb).1]
  exact count_both h.i1.has h.i2.has _
theorem Three.whole {n : Int} {a b z1 z2 z3 : List Nat} (h : Three n a b z1 z2 z3) (he : errAll n [a, b] = 0) (wa : ∀ x ∈ a, x < 18446744073709551616) : joinW orW n z3 z1 = a := by
  obtain ⟨h1, h2, hma, hmb⟩ := err_two he
  have e31 := errAll_both h.e3 h.e1
  unfold joinW
  rw [if_pos e31]
  have hz := zip_or h.i3.len h.i1.len h.i3.word h.i1.word
  refine hz.ext ⟨(mayS_iff.1 hma).1, wa, fun k => ?_⟩
  rw [h.i3.has, h.i1.has]
  cases hasW a k <;> cases hasW b k <;> rfl
theorem Three.apart {n : Int} {a b z1 z2 z3 : List Nat} (h : Three n a b z1 z2 z3) : meetSB n z3 z1 = false := by
  unfold meetSB
  rw [Bool.and_eq_false_iff]
  right
  rw [Bool.eq_false_iff]
  intro hc
  obtain ⟨j, _, hj⟩ := List.any_eq_true.1 hc
  rw [h.i3.has, h.i1.has] at hj
  cases ha : hasW a j <;> cases hb : hasW b j <;> simp [ha, hb] at hj

end Go.Proofs.Ytjmfdpilmljppaa

/-
  A set and its numbers are each other's way back, as plain arithmetic.
-/
namespace Go.Proofs.Ytjmfdpilmljppaa
open Go Go.RowKit

theorem inL_ofN (l : List Nat) (j : Nat) : inL (ofN l) j = l.contains j := by
  unfold inL ofN
  rw [Bool.eq_iff_iff]
  simp only [List.contains_iff_mem, List.mem_map]
  constructor
  · rintro ⟨m, hm, e⟩
    have : m = j := Int.ofNat_inj.1 e
    exact this ▸ hm
  · intro h
    exact ⟨j, h, rfl⟩
theorem nums_has {ws : List Nat} {j : Nat} : (numsW ws).contains j = hasW ws j := by
  rw [Bool.eq_iff_iff, List.contains_iff_mem]
  unfold numsW
  rw [listTo_mem]
  constructor
  · rintro ⟨_, h⟩; exact h
  · intro h
    refine ⟨?_, h⟩
    apply Nat.lt_of_not_le
    intro hle
    rw [hasW_past hle] at h; cases h
theorem nums_ok {n : Int} {s : List Nat} (h : errAll n [s] = 0) : ofOk n (ofN (numsW s)) = true := by
  obtain ⟨h1, h2, hm⟩ := err_one h
  unfold ofOk
  rw [show okN n = true by simp [okN]; omega, Bool.true_and, List.all_eq_true]
  intro x hx
  unfold ofN at hx
  obtain ⟨m, hm', rfl⟩ := List.mem_map.1 hx
  have hh : hasW s m = true := (listTo_mem.1 hm').2
  have : m < n.toNat := by
    apply Nat.lt_of_not_le
    intro hle
    rw [(mayS_iff.1 hm).2 m hle] at hh; cases hh
  rw [decide_eq_true_eq]
  omega
/-- From a set to its numbers, and back. -/
theorem back_set {n : Int} {s ws : List Nat} (wsx : ∀ x ∈ s, x < 18446744073709551616) (h : errAll n [s] = 0) (ho : OfIs n (ofN (numsW s)) ws) : ws = s := by
  obtain ⟨h1, h2, hm⟩ := err_one h
  refine (ho.yes (nums_ok h)).ext ⟨(mayS_iff.1 hm).1, wsx, fun k => ?_⟩
  rw [inL_ofN, nums_has]
theorem rise {ws : List Nat} {j : Nat} (h : j + 1 < (numsW ws).length) : (numsW ws).getD j 0 < (numsW ws).getD (j + 1) 0 := by
  have hp := List.pairwise_iff_getElem.1 (listTo_rise ws (64 * ws.length)) j (j + 1) (by unfold numsW at h; omega) (by unfold numsW at h; omega) (by omega)
  have hj : j < (numsW ws).length := by omega
  simp only [List.getD_eq_getElem?_getD, List.getElem?_eq_getElem h, List.getElem?_eq_getElem hj, Option.getD_some]
  exact hp
theorem ofErr_zero {n : Int} {l : List Int} (h : ofErr n l = 0) : ofOk n l = true := by
  unfold ofErr at h
  cases e : ofOk n l
  · rw [e] at h; cases h
  · rfl
theorem ofErr_not {n : Int} {l : List Int} (h : ofErr n l ≠ 0) : ofOk n l = false := by
  cases e : ofOk n l
  · rfl
  · exact absurd (by rw [ofErr, e]; rfl) h
theorem ofOk_parts {n : Int} {l : List Int} (h : ofOk n l = true) : 1 ≤ n ∧ n ≤ 12288 ∧ ∀ x ∈ l, 0 ≤ x ∧ x < n := by
  unfold ofOk okN at h
  rw [Bool.and_eq_true] at h
  have h1 := of_decide_eq_true h.1
  exact ⟨h1.1, h1.2, fun x hx => of_decide_eq_true (List.all_eq_true.1 h.2 x hx)⟩
theorem back_may {n : Int} {l : List Int} {ws : List Nat} (hk : ofOk n l = true) (ho : OfIs n l ws) : errAll n [ws] = 0 := by
  obtain ⟨h1, h2, hall⟩ := ofOk_parts hk
  have hI := ho.yes hk
  refine errAll_may h1 h2 (mayS_iff.2 ⟨hI.len, fun k hk' => ?_⟩)
  rw [hI.has, Bool.eq_false_iff]
  intro hc
  unfold inL at hc
  have := hall _ (List.contains_iff_mem.1 hc)
  omega
theorem back_has {n : Int} {l : List Int} {ws : List Nat} (hk : ofOk n l = true) (ho : OfIs n l ws) {i : Nat} (hi : i < l.length) : hasR n ws (l.getD i 0) = true := by
  obtain ⟨h1, h2, hall⟩ := ofOk_parts hk
  have hm : l[i] ∈ l := List.getElem_mem hi
  have hb := hall _ hm
  rw [has_set (back_may hk ho) (ho.yes hk)]
  have e : l.getD i 0 = l[i] := by simp [hi]
  rw [e, decide_eq_true hb.1, Bool.true_and]
  unfold inL
  rw [List.contains_iff_mem, Int.toNat_of_nonneg hb.1]
  exact hm
theorem back_in {n : Int} {l : List Int} {ws : List Nat} (hk : ofOk n l = true) (ho : OfIs n l ws) {i : Nat} (hi : i < (numsW ws).length) : inL l ((numsW ws).getD i 0) = true := by
  have hm : (numsW ws)[i] ∈ numsW ws := List.getElem_mem hi
  have e : (numsW ws).getD i 0 = (numsW ws)[i] := by simp [hi]
  rw [e, ← (ho.yes hk).has]
  exact (listTo_mem.1 hm).2
theorem few : ∀ (xs : List Nat) (l : List Int), xs.Nodup → (∀ x ∈ xs, (x : Int) ∈ l) → xs.length ≤ l.length
  | [], l, _, _ => Nat.zero_le _
  | x :: xs, l, hn, hs => by
    have hx := hs x (by simp)
    have ih := few xs (l.erase (x : Int)) (List.nodup_cons.1 hn).2 fun y hy => by
      have hne : (y : Int) ≠ (x : Int) := fun e => by
        have : y = x := Int.ofNat_inj.1 e
        exact (List.nodup_cons.1 hn).1 (this ▸ hy)
      exact (List.mem_erase_of_ne hne).2 (hs y (by simp [hy]))
    rw [List.length_erase_of_mem hx] at ih
    have : 0 < l.length := List.length_pos_of_mem hx
    simp only [List.length_cons]
    omega
theorem back_few {n : Int} {l : List Int} {ws : List Nat} (hk : ofOk n l = true) (ho : OfIs n l ws) : (numsW ws).length ≤ l.length := by
  refine few _ _ ?_ fun x hx => ?_
  · have := listTo_rise ws (64 * ws.length)
    exact this.imp (fun h => Nat.ne_of_lt h)
  · have h := (listTo_mem.1 hx).2
    rw [(ho.yes hk).has] at h
    exact List.contains_iff_mem.1 h
theorem take_in {l : List Int} {i : Nat} (hi : i < l.length) (y : Nat) : inL (l.take (i + 1)) y = (inL (l.take i) y || (l.getD i 0 == (y : Int))) := by
  unfold inL
  rw [List.take_succ_eq_append_getElem hi, Bool.eq_iff_iff]
  simp only [List.contains_iff_mem, List.mem_append, List.mem_singleton, Bool.or_eq_true, beq_iff_eq]
  have e : l.getD i 0 = l[i] := by simp [hi]
  rw [e]
  constructor
  · rintro (h | h)
    · exact .inl h
    · exact .inr h.symm
  · rintro (h | h)
    · exact .inl h
    · exact .inr h.symm

end Go.Proofs.Ytjmfdpilmljppaa

/-
  Whether two sets meet, and whether one is in the other one, as the document tells it: tidehallref03.Meets, Meet, Inside, In.
-/
namespace Go.Proofs.Ytjmfdpilmljppaa
open Go Go.RowKit Go.Shelf

def anyB (a b : List Nat) : Bool := (List.range (64 * a.length)).any fun j => hasW a j && hasW b j
def allB (a b : List Nat) : Bool := (List.range (64 * a.length)).all fun j => !hasW a j || hasW b j
theorem anyB_eq (a b : List Nat) : anyB a b = (numsW a).any fun j => hasW b j := by
  unfold anyB numsW listTo
  rw [List.any_filter]
theorem allB_eq (a b : List Nat) : allB a b = (numsW a).all fun j => hasW b j := by
  unfold allB numsW listTo
  rw [List.all_filter]
theorem any_hit {a b : List Nat} {k : Nat} (hk : k < (numsW a).length) (h : hasW b ((numsW a).getD k 0) = true) : anyB a b = true := by
  rw [anyB_eq, List.any_eq_true]
  refine ⟨(numsW a)[k], List.getElem_mem hk, ?_⟩
  simpa [hk] using h
theorem all_hit {a b : List Nat} {k : Nat} (hk : k < (numsW a).length) (h : hasW b ((numsW a).getD k 0) = false) : allB a b = false := by
  rw [allB_eq]
  cases e : (numsW a).all fun j => hasW b j
  · rfl
  · have := List.all_eq_true.1 e ((numsW a)[k]) (List.getElem_mem hk)
    simp [hk] at h
    simp [h] at this
theorem any_none {a b : List Nat} (h : ∀ j, j < (numsW a).length → hasW b ((numsW a).getD j 0) = false) : anyB a b = false := by
  rw [anyB_eq]
  cases e : (numsW a).any fun j => hasW b j
  · rfl
  · obtain ⟨x, hx, hb⟩ := List.any_eq_true.1 e
    obtain ⟨k, hk, rfl⟩ := List.mem_iff_getElem.1 hx
    have := h k hk
    simp [hk] at this
    rw [this] at hb; cases hb
theorem all_all {a b : List Nat} (h : ∀ j, j < (numsW a).length → hasW b ((numsW a).getD j 0) = true) : allB a b = true := by
  rw [allB_eq, List.all_eq_true]
  intro x hx
  obtain ⟨k, hk, rfl⟩ := List.mem_iff_getElem.1 hx
  have := h k hk
  simpa [hk] using this
theorem numsW_lt {a : List Nat} {k : Nat} : (numsW a).getD k 0 ≤ 64 * a.length := by
  by_cases hk : k < (numsW a).length
  · have := (listTo_mem.1 (List.getElem_mem hk)).1
    simp [hk]
    exact Nat.le_of_lt this
  · simp [Nat.not_lt.1 hk]
theorem numsW_len (a : List Nat) : (numsW a).length ≤ 64 * a.length := listTo_len a _

end Go.Proofs.Ytjmfdpilmljppaa

/-
  The set of the numbers below n that something is told of: as a row of words, and what set's calls make of it. No program is walked here.
-/
namespace Go.Proofs.Ytjmfdpilmljppaa
open Go Go.RowKit

/-- The words of the numbers below k that are asked for. -/
def wordsTo (l : Nat) (p : Nat → Bool) : Nat → List Nat
  | 0 => List.replicate l 0
  | k + 1 => if p k = true then putW (wordsTo l p k) k else wordsTo l p k
theorem words_is (l : Nat) (p : Nat → Bool) : ∀ k, k ≤ 64 * l → IsSet l (wordsTo l p k) (fun j => decide (j < k) && p j)
  | 0, _ => (IsSet.none l).congr (fun j => by simp)
  | k + 1, h => by
    have ih := words_is l p k (by omega)
    unfold wordsTo
    cases hp : p k
    · rw [if_neg (by simp)]
      exact ih.congr (fun j => upto_no hp j)
    · rw [if_pos rfl]
      exact ih.put (by omega) (fun j => upto_yes hp j)
/-- The set of the numbers below n that are asked for. -/
def setOf (n : Int) (p : Nat → Bool) : List Nat := wordsTo ((n.toNat + 63) / 64) p n.toNat
theorem setOf_is (n : Int) (p : Nat → Bool) : IsSet ((n.toNat + 63) / 64) (setOf n p) (fun j => decide (j < n.toNat) && p j) := words_is _ _ _ (by omega)
theorem setOf_err {n : Int} (h1 : 1 ≤ n) (h2 : n ≤ 12288) (p : Nat → Bool) : errAll n [setOf n p] = 0 :=
  errAll_may h1 h2 (mayS_iff.2 ⟨(setOf_is n p).len, fun k hk => by rw [(setOf_is n p).has]; simp [Nat.not_lt.2 hk]⟩)
theorem setOf_of {n : Int} {l : List Int} {ws : List Nat} {p : Nat → Bool} (h : OfIs n l ws) (hk : ofOk n l = true) (hp : ∀ j : Nat, inL l j = (decide (j < n.toNat) && p j)) : ws = setOf n p :=
  (h.yes hk).ext ((setOf_is n p).congr hp)
theorem range_past {n : Nat} {p : Nat → Bool} : ∀ t, (List.range (n + t)).filter (fun j => decide (j < n) && p j) = (List.range n).filter p
  | 0 => List.filter_congr fun j hj => by rw [decide_eq_true (show j < n from List.mem_range.1 hj), Bool.true_and]
  | t + 1 => by
    rw [← Nat.add_assoc, List.range_succ, List.filter_append, range_past t]
    simp only [List.filter_cons, List.filter_nil, decide_eq_false (show ¬ n + t < n by omega), Bool.false_and, Bool.false_eq_true, if_false, List.append_nil]
theorem setOf_nums (n : Int) (p : Nat → Bool) : numsW (setOf n p) = (List.range n.toNat).filter p := by
  have hl := (setOf_is n p).len
  have hh := (setOf_is n p).has
  unfold numsW listTo
  rw [hl, show 64 * ((n.toNat + 63) / 64) = n.toNat + (64 * ((n.toNat + 63) / 64) - n.toNat) by omega, ← range_past (p := p) (64 * ((n.toNat + 63) / 64) - n.toNat)]
  exact List.filter_congr fun j _ => hh j
theorem setOf_list {n : Int} (h1 : 1 ≤ n) (h2 : n ≤ 12288) (p : Nat → Bool) : listR n (setOf n p) = ofN ((List.range n.toNat).filter p) := by
  unfold listR
  rw [if_pos (setOf_err h1 h2 p), setOf_nums]
theorem setOf_has {n : Int} (h1 : 1 ≤ n) (h2 : n ≤ 12288) (p : Nat → Bool) {k : Int} (hk : 0 ≤ k ∧ k < n) : hasR n (setOf n p) k = p k.toNat := by
  rw [has_set (setOf_err h1 h2 p) (setOf_is n p), show decide (0 ≤ k) = true from decide_eq_true hk.1, show decide (k.toNat < n.toNat) = true from decide_eq_true (by omega), Bool.true_and, Bool.true_and]
theorem setOf_less {n : Int} (h1 : 1 ≤ n) (h2 : n ≤ 12288) (p q : Nat → Bool) : joinW notW n (setOf n p) (setOf n q) = setOf n (fun j => p j && !q j) := by
  have T := three_of (setOf_is n p).word (setOf_is n q).word (errAll_both (setOf_err h1 h2 p) (setOf_err h1 h2 q))
  refine T.i3.ext ((setOf_is n _).congr fun j => ?_)
  rw [(setOf_is n p).has, (setOf_is n q).has]
  cases decide (j < n.toNat) <;> simp
theorem setOf_meet {n : Int} (h1 : 1 ≤ n) (h2 : n ≤ 12288) (p q : Nat → Bool) : meetSB n (setOf n p) (setOf n q) = anyB (setOf n p) (setOf n q) := by
  unfold meetSB anyB
  rw [errAll_both (setOf_err h1 h2 p) (setOf_err h1 h2 q)]
  simp
theorem setOf_any {n : Int} {p q : Nat → Bool} : anyB (setOf n p) (setOf n q) = true ↔ ∃ j : Nat, j < n.toNat ∧ p j = true ∧ q j = true := by
  unfold anyB
  rw [List.any_eq_true]
  simp only [(setOf_is n p).has, (setOf_is n q).has, List.mem_range, (setOf_is n p).len, Bool.and_eq_true, decide_eq_true_eq]
  constructor
  · rintro ⟨j, _, ⟨h, a⟩, _, b⟩; exact ⟨j, h, a, b⟩
  · rintro ⟨j, h, a, b⟩; exact ⟨j, by omega, ⟨h, a⟩, h, b⟩
theorem setOf_in {n : Int} (h1 : 1 ≤ n) (h2 : n ≤ 12288) {p q : Nat → Bool} (h : ∀ j : Nat, j < n.toNat → p j = true → q j = true) : inSB n (setOf n p) (setOf n q) = true := by
  unfold inSB
  rw [errAll_both (setOf_err h1 h2 p) (setOf_err h1 h2 q), Bool.and_eq_true]
  refine ⟨by simp, List.all_eq_true.2 fun j _ => ?_⟩
  rw [(setOf_is n p).has, (setOf_is n q).has]
  by_cases hj : j < n.toNat
  · have := h j hj
    cases hp : p j
    · simp
    · simp [hj, this hp]
  · simp [hj]
theorem setOf_len (n : Int) (p : Nat → Bool) : (setOf n p).length = (n.toNat + 63) / 64 := (setOf_is n p).len

theorem ofOk_all {n : Int} {l : List Int} (h1 : 1 ≤ n) (h2 : n ≤ 12288) (h : ∀ x ∈ l, 0 ≤ x ∧ x < n) : ofOk n l = true := by
  unfold ofOk
  rw [show okN n = true by simp [okN]; omega, Bool.true_and, List.all_eq_true]
  intro x hx
  simpa using h x hx

end Go.Proofs.Ytjmfdpilmljppaa

/-
  Plain arithmetic: a box's midplanes as a set, as rows of words. No program is walked here.
-/
namespace Go.Proofs.Ytjmfdpilmljppaa
open Go Go.RowKit

/-- The midplanes of a place, as a set. -/
def midW (d0 d1 d2 : Int) (b : Bx) : List Nat := setOf (d0 * d1 * d2) (fun j : Nat => hasB d0 d1 d2 b (j : Int))
theorem nodes_in (d0 d1 d2 : Int) (b : Bx) (j : Nat) : inL (nodesB d0 d1 d2 b) j = (decide (j < (d0 * d1 * d2).toNat) && hasB d0 d1 d2 b (j : Int)) := by
  have := inL_ofN ((List.range (d0 * d1 * d2).toNat).filter (fun m : Nat => hasB d0 d1 d2 b m)) j
  unfold nodesB nodesTo
  unfold ofN at this
  rw [this, Bool.eq_iff_iff, List.contains_iff_mem, List.mem_filter, List.mem_range, Bool.and_eq_true, decide_eq_true_eq]
theorem nodesP_mem {d0 d1 d2 : Int} {b : Bx} {x : Int} : x ∈ nodesB d0 d1 d2 b ↔ (0 ≤ x ∧ x < d0 * d1 * d2) ∧ hasB d0 d1 d2 b x = true := by
  unfold nodesB nodesTo
  rw [List.mem_map]
  constructor
  · rintro ⟨m, hm, rfl⟩
    rw [List.mem_filter, List.mem_range] at hm
    exact ⟨by omega, hm.2⟩
  · rintro ⟨h1, h2⟩
    refine ⟨x.toNat, ?_, by omega⟩
    rw [List.mem_filter, List.mem_range, Int.toNat_of_nonneg h1.1]
    exact ⟨by omega, h2⟩
theorem nodes_ok {d0 d1 d2 : Int} (h : mayD d0 d1 d2) (b : Bx) : ofOk (d0 * d1 * d2) (nodesB d0 d1 d2 b) = true := by
  have := N_bd h
  exact ofOk_all (by omega) (by omega) fun x hx => (nodesP_mem.1 hx).1
theorem mid_of {d0 d1 d2 : Int} {b : Bx} {ws : List Nat} (h : mayD d0 d1 d2) (ho : OfIs (d0 * d1 * d2) (nodesB d0 d1 d2 b) ws) : ws = midW d0 d1 d2 b :=
  setOf_of ho (nodes_ok h b) (nodes_in d0 d1 d2 b)
theorem mid_list {d0 d1 d2 : Int} (h : mayD d0 d1 d2) (b : Bx) : listR (d0 * d1 * d2) (midW d0 d1 d2 b) = nodesB d0 d1 d2 b := by
  have := N_bd h
  unfold midW
  rw [setOf_list (by omega) (by omega)]
  rfl

end Go.Proofs.Ytjmfdpilmljppaa

/-
  Sets of the numbers that are asked for: the same ones; joined; met.
-/
namespace Go.Proofs.Ytjmfdpilmljppaa
open Go Go.RowKit Go.Shelf

theorem setOf_congr {n : Int} {p q : Nat → Bool} (h : ∀ k : Nat, k < n.toNat → p k = q k) : setOf n p = setOf n q :=
  (setOf_is n p).ext ((setOf_is n q).congr fun j => by
    by_cases hj : j < n.toNat
    · rw [h j hj]
    · simp [hj])
theorem setOf_words (n : Int) (p : Nat → Bool) : ∀ x ∈ setOf n p, x < 18446744073709551616 := (setOf_is n p).word

/-- A set that may be, of numbers, joined to one that is told. -/
theorem setOf_or {n : Int} (h1 : 1 ≤ n) (h2 : n ≤ 12288) (p : Nat → Bool) {ws : List Nat} (hw : ∀ x ∈ ws, x < 18446744073709551616) (he : errAll n [ws] = 0) : joinW orW n (setOf n p) ws = setOf n (fun k => p k || hasW ws k) := by
  have T := three_of (setOf_is n p).word hw (errAll_both (setOf_err h1 h2 p) he)
  obtain ⟨_, _, hm⟩ := err_one he
  refine T.i2.ext ((setOf_is n _).congr fun j => ?_)
  rw [(setOf_is n p).has]
  by_cases hj : j < n.toNat
  · simp [hj]
  · have := (mayS_iff.1 hm).2 j (by omega)
    simp [hj, this]
theorem setOf_own {n : Int} {ws : List Nat} (hw : ∀ x ∈ ws, x < 18446744073709551616) (he : errAll n [ws] = 0) : setOf n (hasW ws) = ws := by
  obtain ⟨_, _, hm⟩ := err_one he
  refine (setOf_is n _).ext ⟨(mayS_iff.1 hm).1, hw, fun j => ?_⟩
  by_cases hj : j < n.toNat
  · simp [hj]
  · simp [hj, (mayS_iff.1 hm).2 j (by omega)]
theorem setOf_or2 {n : Int} (h1 : 1 ≤ n) (h2 : n ≤ 12288) (p q : Nat → Bool) : joinW orW n (setOf n p) (setOf n q) = setOf n (fun k => p k || q k) := by
  rw [setOf_or h1 h2 p (setOf_words n q) (setOf_err h1 h2 q)]
  exact setOf_congr fun k hk => by rw [(setOf_is n q).has]; simp [hk]
theorem setOf_meets {n : Int} (h1 : 1 ≤ n) (h2 : n ≤ 12288) (p : Nat → Bool) {ws : List Nat} (he : errAll n [ws] = 0) : meetSB n (setOf n p) ws = (List.range n.toNat).any fun k => hasW ws k && p k := by
  unfold meetSB
  rw [decide_eq_true (errAll_both (setOf_err h1 h2 p) he), Bool.true_and, Bool.eq_iff_iff, List.any_eq_true, List.any_eq_true]
  constructor
  · rintro ⟨j, _, h⟩
    rw [(setOf_is n p).has] at h
    simp only [Bool.and_eq_true, decide_eq_true_eq] at h
    exact ⟨j, List.mem_range.2 h.1.1, by simp [h.1.2, h.2]⟩
  · rintro ⟨j, hj, h⟩
    have hj := List.mem_range.1 hj
    simp only [Bool.and_eq_true] at h
    refine ⟨j, List.mem_range.2 (by rw [setOf_len]; omega), ?_⟩
    rw [(setOf_is n p).has]
    simp [hj, h.1, h.2]

end Go.Proofs.Ytjmfdpilmljppaa

/-
  grow.newMachine and (grow.machine).isFree.
-/
namespace Go.Proofs.Ytjmfdpilmljppaa
open Go Go.RowKit Go.Shelf

attribute [local go_sem] Oper.semAt_some ext_const

/-- A machine's value. -/
abbrev M5 (d0 d1 d2 n : Int) (v : Value) : Value := .agg #[I d0, I d1, I d2, I n, v]
/-- A box has nothing of a set. -/
def clearX (d0 d1 d2 : Int) (ws : List Nat) (b : Bx) : Bool := !((List.range (d0 * d1 * d2).toNat).any fun k : Nat => hasW ws k && hasB d0 d1 d2 b (k : Int))
theorem clearX_iff {d0 d1 d2 : Int} {ws : List Nat} {b : Bx} : clearX d0 d1 d2 ws b = true ↔ ∀ k : Nat, k < (d0 * d1 * d2).toNat → hasB d0 d1 d2 b (k : Int) = true → hasW ws k = false := by
  unfold clearX
  rw [Bool.not_eq_true', List.any_eq_false]
  constructor
  · intro h k hk hb
    have := h k (List.mem_range.2 hk)
    rw [hb] at this
    simpa using this
  · intro h k hk
    have := h k (List.mem_range.1 hk)
    cases hb : hasB d0 d1 d2 b (k : Int)
    · simp
    · simp [this hb]

set_option maxRecDepth 100000 in
set_option maxHeartbeats 4000000 in
theorem isFree_calls {d0 d1 d2 : Int} {b : Bx} {v : Value} {ws : List Nat} (w : World) (hd : mayD d0 d1 d2) (hb : mayB d0 d1 d2 b) (hv : Wds w v ws) (he : errAll (d0 * d1 * d2) [ws] = 0) :
    Calls Try.prog 30 #[M5 d0 d1 d2 (d0 * d1 * d2) v, B6 b] w fun e W' => e = .returned (.bool (clearX d0 d1 d2 ws b)) ∧ Below w.heap.size w W' := by
  have hn := N_bd hd
  have HB : Hid (∀ w, Calls Try.prog 24 #[A3 d0 d1 d2, B6 b] w fun e W' => ∃ v, e = .returned (.tuple #[v, I 0]) ∧ Lst W' w.heap.size v (nodesB d0 d1 d2 b) ∧ Below w.heap.size w W') := fun w => bnodes_ok w hd hb
  have HO : Hid (∀ w v base, Lst w base v (nodesB d0 d1 d2 b) → Calls Try.prog 26 #[I (d0 * d1 * d2), v] w fun e W' => ∃ u, e = .returned (.tuple #[u, I 0]) ∧ SetR W' w.heap.size u (midW d0 d1 d2 b) ∧ Below w.heap.size w W') := fun w v base hv => by
    refine (of_calls w hv.its (by have := nodesB_len hd b; omega) (d0 * d1 * d2)).mono ?_
    rintro e w1 ⟨u, ws, rfl, hu, ho, hB⟩
    rw [show ofErr (d0 * d1 * d2) (nodesB d0 d1 d2 b) = 0 by simp [ofErr, nodes_ok hd b], ← mid_of hd ho]
    exact ⟨u, rfl, hu, hB⟩
  have HM : Hid (∀ w1 u, Below w.heap.size w w1 → Wds w1 u (midW d0 d1 d2 b) → Calls Try.prog 56 #[I (d0 * d1 * d2), u, v] w1 fun e W' => e = .returned (.tuple #[.bool (!clearX d0 d1 d2 ws b), I 0]) ∧ Below w1.heap.size w1 W') := fun w1 u h1 hu => by
    have := meet_calls w1 hu (hv.later h1) (d0 * d1 * d2)
    rw [show errAll (d0 * d1 * d2) [midW d0 d1 d2 b, ws] = 0 from errAll_both (setOf_err (by omega) (by omega) _) he, show meetSB (d0 * d1 * d2) (midW d0 d1 d2 b) ws = !clearX d0 d1 d2 ws b by unfold clearX midW; rw [setOf_meets (by omega) (by omega) _ he, Bool.not_not]] at this
    exact this
  obtain ⟨ao, cap, rfl, _⟩ := hv.view
  clear hd hb he hn hv
  generalize clearX d0 d1 d2 ws b = ans at *
  generalize nodesB d0 d1 d2 b = X at *
  generalize midW d0 d1 d2 b = S at *
  generalize d0 * d1 * d2 = N at *
  generalize ws.length = n at *
  go_enter Try.func30, Try.ntmps30
  go_wp2_with fail
  obtain ⟨W, hW, hB0, b0, b1⟩ := two_start w #[I d0, I d1, I d2, I N, .slice ao n cap] (C6 b) 63 32
  rw [hW]
  clear hW
  refine (HB.out _).mono ?_
  rintro e w1 ⟨u, rfl, hu, hT⟩
  have hB := then_below hB0 hT
  have k0 := b0.later hT
  clear hT b0 b1 hB0 HB
  have c3 := k0.cell 3
  have c4 := k0.cell 4
  have hz := k0.lt
  simp at c3 c4
  go_wp2_with fail
  refine (HO.out _ _ _ hu).mono ?_
  rintro e w2 ⟨s, rfl, hs, hT⟩
  have k2 := k0.later hT
  have hB := then_below hB hT
  clear hT hu c3 c4 hz k0 HO
  have c3 := k2.cell 3
  have c4 := k2.cell 4
  have hz := k2.lt
  simp at c3 c4
  go_wp2_with fail
  refine (HM.out _ _ hB hs.wds).mono ?_
  rintro e w3 ⟨rfl, hT⟩
  have hB := then_below hB hT
  clear hT hs c3 c4 hz k2 HM
  cases ans
  · go_wp2
    go_ret
    exact ⟨rfl, hB⟩
  · go_wp2
    go_ret
    exact ⟨rfl, hB⟩

/-- The error of dimensions and a set. -/
def errG (d0 d1 d2 : Int) (ws : List Nat) : Int := if okDB d0 d1 d2 && maySet (d0 * d1 * d2).toNat ws then 0 else 8
theorem okDB_no {d0 d1 d2 : Int} (h : ¬ mayD d0 d1 d2) : okDB d0 d1 d2 = false := by
  cases hk : okDB d0 d1 d2
  · rfl
  · exact absurd ((okDB_iff _ _ _).1 hk) h
theorem errG_cases (d0 d1 d2 : Int) (ws : List Nat) : (mayD d0 d1 d2 ∧ errAll (d0 * d1 * d2) [ws] = 0 ∧ errG d0 d1 d2 ws = 0) ∨ (¬ mayD d0 d1 d2 ∧ errG d0 d1 d2 ws = 8) ∨ (mayD d0 d1 d2 ∧ errAll (d0 * d1 * d2) [ws] = 8 ∧ errG d0 d1 d2 ws = 8) := by
  by_cases hd : mayD d0 d1 d2
  · have hn := N_bd hd
    have hk : okN (d0 * d1 * d2) = true := by simp [okN]; omega
    cases hs : maySet (d0 * d1 * d2).toNat ws
    · exact .inr (.inr ⟨hd, by simp [errAll, hk, hs], by simp [errG, hs]⟩)
    · exact .inl ⟨hd, by simp [errAll, hk, hs], by simp [errG, hs, (okDB_iff _ _ _).2 hd]⟩
  · exact .inr (.inl ⟨hd, by simp [errG, okDB_no hd]⟩)

theorem Blk.set5G {W : World} {B : Nat} {t : TypeId} {x0 x1 x2 x3 x4 : Value} (h : Blk W B t #[x0, x1, x2, x3, x4]) (a b c d e : Value) :
    Blk (((((W.setCell ⟨B, 0, none⟩ a).setCell ⟨B, 1, none⟩ b).setCell ⟨B, 2, none⟩ c).setCell ⟨B, 3, none⟩ d).setCell ⟨B, 4, none⟩ e) B t #[a, b, c, d, e] := ((((h.set 0 a).set 1 b).set 2 c).set 3 d).set 4 e
theorem below_set5G {n : Nat} {w W : World} {B : Nat} (h : Below n w W) (hn : n ≤ B) (a b c d e : Value) :
    Below n w (((((W.setCell ⟨B, 0, none⟩ a).setCell ⟨B, 1, none⟩ b).setCell ⟨B, 2, none⟩ c).setCell ⟨B, 3, none⟩ d).setCell ⟨B, 4, none⟩ e) :=
  ((((h.setCell (p := ⟨B, 0, none⟩) hn a).setCell (p := ⟨B, 1, none⟩) hn b).setCell (p := ⟨B, 2, none⟩) hn c).setCell (p := ⟨B, 3, none⟩) hn d).setCell (p := ⟨B, 4, none⟩) hn e
theorem Blk.row5G {W : World} {B : Nat} {t : TypeId} {a b c d e : Value} (h : Blk W B t #[a, b, c, d, e]) :
    (W.cell? ⟨B, 0, none⟩ = some a ∧ W.cell? ⟨B, 1, none⟩ = some b ∧ W.cell? ⟨B, 2, none⟩ = some c ∧ W.cell? ⟨B, 3, none⟩ = some d ∧ W.cell? ⟨B, 4, none⟩ = some e) ∧
    (W.frozen? ⟨B, 0, none⟩ = false ∧ W.frozen? ⟨B, 1, none⟩ = false ∧ W.frozen? ⟨B, 2, none⟩ = false ∧ W.frozen? ⟨B, 3, none⟩ = false ∧ W.frozen? ⟨B, 4, none⟩ = false) ∧ B < W.heap.size :=
  ⟨⟨h.cell 0, h.cell 1, h.cell 2, h.cell 3, h.cell 4⟩, ⟨h.frozen 0, h.frozen 1, h.frozen 2, h.frozen 3, h.frozen 4⟩, h.lt⟩

set_option maxRecDepth 100000 in
set_option maxHeartbeats 4000000 in
theorem mach_calls {v : Value} {ws : List Nat} (d0 d1 d2 : Int) (w : World) (hv : Wds w v ws) :
    Calls Try.prog 29 #[A3 d0 d1 d2, v] w fun e W' => ((errG d0 d1 d2 ws = 0 ∧ e = .returned (.tuple #[M5 d0 d1 d2 (d0 * d1 * d2) v, I 0])) ∨ (errG d0 d1 d2 ws = 8 ∧ e = .returned (.tuple #[M5 0 0 0 0 (.slice none 0 0), I 8]))) ∧ Below w.heap.size w W' := by
  rcases errG_cases d0 d1 d2 ws with ⟨hd, he, hr⟩ | ⟨hd, hr⟩ | ⟨hd, he, hr⟩
  · have HN : Hid (∀ w, Calls Try.prog 54 #[A3 d0 d1 d2] w fun e W' => e = .returned (.tuple #[I (d0 * d1 * d2), I 0]) ∧ Below w.heap.size w W') := fun w => many_yes w hd
    have HC : Hid (∀ w1, Below w.heap.size w w1 → Calls Try.prog 55 #[I (d0 * d1 * d2), v] w1 fun e W' => e = .returned (I 0) ∧ Below w1.heap.size w1 W') := fun w1 h1 => by
      have := chk_calls w1 (hv.later h1) (d0 * d1 * d2)
      rw [he] at this
      exact this
    have HR : Hid (errG d0 d1 d2 ws = 0) := hr
    obtain ⟨ao, cap, rfl, _⟩ := hv.view
    clear hd he hr hv
    generalize errG d0 d1 d2 ws = er at *
    generalize d0 * d1 * d2 = N at *
    generalize ws.length = n at *
    obtain ⟨W, hW, hB0, b0, b1⟩ := two_start w #[I d0, I d1, I d2] #[I 0, I 0, I 0, I 0, .slice none 0 0] 26 63
    have HW : Hid ((w.alloc (.cells #[I d0, I d1, I d2] 26)).alloc (.cells #[I 0, I 0, I 0, I 0, .slice none 0 0] 63) = W) := hW
    clear hW
    go_enter Try.func29, Try.ntmps29
    go_wp2_with fail
    rw [HW.out]
    refine (HN.out _).mono ?_
    rintro e w1 ⟨rfl, hT⟩
    have hB := then_below hB0 hT
    have k0 := b0.later hT
    have k1 := b1.later hT
    clear hT b0 b1 hB0 HN HW
    go_wp2_with fail
    refine (HC.out _ hB).mono ?_
    rintro e w2 ⟨rfl, hT⟩
    have hB := then_below hB hT
    have k0 := k0.later hT
    have k1 := k1.later hT
    clear hT HC
    obtain ⟨c0, c1, c2, hz⟩ := k0.three (Below.refl _ _)
    obtain ⟨⟨j0, j1, j2, j3, j4⟩, ⟨f0, f1, f2, f3, f4⟩, z1⟩ := k1.row5G
    have HK : Hid (Blk w2 (w.heap.size + 1) 63 #[I 0, I 0, I 0, I 0, .slice none 0 0] ∧ Below w.heap.size w w2) := ⟨k1, hB⟩
    clear k0 k1 hB
    go_wp2
    have HX := HK.out.1.set5G (I d0) (I d1) (I d2) (I N) (.slice ao n cap)
    obtain ⟨⟨m0, m1, m2, m3, m4⟩, _⟩ := HX.row5G
    have hBX := below_set5G HK.out.2 (show w.heap.size ≤ w.heap.size + 1 by omega) (I d0) (I d1) (I d2) (I N) (.slice ao n cap)
    exact bodyPost_ret (v := .tuple #[M5 d0 d1 d2 N (.slice ao n cap), I 0]) (by simp [results, Try.f29, go_sem, m0, m1, m2, m3, m4]) rfl ⟨.inl ⟨HR.out, rfl⟩, hBX⟩
  · have HR : Hid (errG d0 d1 d2 ws = 8) := hr
    have HN : Hid (∀ w, Calls Try.prog 54 #[A3 d0 d1 d2] w fun e W' => e = .returned (.tuple #[I 0, I 8]) ∧ Below w.heap.size w W') := fun w => many_no w hd
    obtain ⟨ao, cap, rfl, _⟩ := hv.view
    clear hd hr hv
    generalize errG d0 d1 d2 ws = er at *
    generalize ws.length = n at *
    obtain ⟨W, hW, hB0, b0, b1⟩ := two_start w #[I d0, I d1, I d2] #[I 0, I 0, I 0, I 0, .slice none 0 0] 26 63
    have HW : Hid ((w.alloc (.cells #[I d0, I d1, I d2] 26)).alloc (.cells #[I 0, I 0, I 0, I 0, .slice none 0 0] 63) = W) := hW
    clear hW b0
    go_enter Try.func29, Try.ntmps29
    go_wp2_with fail
    rw [HW.out]
    refine (HN.out _).mono ?_
    rintro e w2 ⟨rfl, hT⟩
    have hB := then_below hB0 hT
    have k1 := b1.later hT
    clear hT b1 hB0 HN HW
    obtain ⟨⟨j0, j1, j2, j3, j4⟩, ⟨f0, f1, f2, f3, f4⟩, z1⟩ := k1.row5G
    have HK : Hid (Blk w2 (w.heap.size + 1) 63 #[I 0, I 0, I 0, I 0, .slice none 0 0] ∧ Below w.heap.size w w2) := ⟨k1, hB⟩
    clear k1 hB
    go_wp2
    have HX := HK.out.1.set5G (I 0) (I 0) (I 0) (I 0) (.slice none 0 0)
    obtain ⟨⟨m0, m1, m2, m3, m4⟩, _⟩ := HX.row5G
    have hBX := below_set5G HK.out.2 (show w.heap.size ≤ w.heap.size + 1 by omega) (I 0) (I 0) (I 0) (I 0) (.slice none 0 0)
    exact bodyPost_ret (v := .tuple #[M5 0 0 0 0 (.slice none 0 0), I 8]) (by simp [results, Try.f29, go_sem, m0, m1, m2, m3, m4]) rfl ⟨.inr ⟨HR.out, rfl⟩, hBX⟩
  · have HR : Hid (errG d0 d1 d2 ws = 8) := hr
    have HN : Hid (∀ w, Calls Try.prog 54 #[A3 d0 d1 d2] w fun e W' => e = .returned (.tuple #[I (d0 * d1 * d2), I 0]) ∧ Below w.heap.size w W') := fun w => many_yes w hd
    have HC : Hid (∀ w1, Below w.heap.size w w1 → Calls Try.prog 55 #[I (d0 * d1 * d2), v] w1 fun e W' => e = .returned (I 8) ∧ Below w1.heap.size w1 W') := fun w1 h1 => by
      have := chk_calls w1 (hv.later h1) (d0 * d1 * d2)
      rw [he] at this
      exact this
    obtain ⟨ao, cap, rfl, _⟩ := hv.view
    clear hd he hr hv
    generalize errG d0 d1 d2 ws = er at *
    generalize d0 * d1 * d2 = N at *
    generalize ws.length = n at *
    obtain ⟨W, hW, hB0, b0, b1⟩ := two_start w #[I d0, I d1, I d2] #[I 0, I 0, I 0, I 0, .slice none 0 0] 26 63
    have HW : Hid ((w.alloc (.cells #[I d0, I d1, I d2] 26)).alloc (.cells #[I 0, I 0, I 0, I 0, .slice none 0 0] 63) = W) := hW
    clear hW b0
    go_enter Try.func29, Try.ntmps29
    go_wp2_with fail
    rw [HW.out]
    refine (HN.out _).mono ?_
    rintro e w2 ⟨rfl, hT⟩
    have hB := then_below hB0 hT
    have k1 := b1.later hT
    clear hT b1 hB0 HN HW
    go_wp2_with fail
    refine (HC.out _ hB).mono ?_
    rintro e w3 ⟨rfl, hT⟩
    replace hB := then_below hB hT
    replace k1 := k1.later hT
    clear hT HC
    clear w2
    rename World => w2
    obtain ⟨⟨j0, j1, j2, j3, j4⟩, ⟨f0, f1, f2, f3, f4⟩, z1⟩ := k1.row5G
    have HK : Hid (Blk w2 (w.heap.size + 1) 63 #[I 0, I 0, I 0, I 0, .slice none 0 0] ∧ Below w.heap.size w w2) := ⟨k1, hB⟩
    clear k1 hB
    go_wp2
    have HX := HK.out.1.set5G (I 0) (I 0) (I 0) (I 0) (.slice none 0 0)
    obtain ⟨⟨m0, m1, m2, m3, m4⟩, _⟩ := HX.row5G
    have hBX := below_set5G HK.out.2 (show w.heap.size ≤ w.heap.size + 1 by omega) (I 0) (I 0) (I 0) (I 0) (.slice none 0 0)
    exact bodyPost_ret (v := .tuple #[M5 0 0 0 0 (.slice none 0 0), I 8]) (by simp [results, Try.f29, go_sem, m0, m1, m2, m3, m4]) rfl ⟨.inr ⟨HR.out, rfl⟩, hBX⟩

end Go.Proofs.Ytjmfdpilmljppaa
