/-
  Whether two sets meet, and whether one is in the other one, as the document tells it: tidehallref03.Meets, Meet, Inside, In.
-/
import Derived.Test.YtckklobbbidonaaRefList
namespace Go.Proofs.Ytckklobbbidonaa
open Go Go.RowKit Go.Shelf

def anyB (a b : List Nat) : Bool := (List.range (64 * a.length)).any fun j => hasW a j && hasW b j
def allB (a b : List Nat) : Bool := (List.range (64 * a.length)).all fun j => !hasW a j || hasW b j
theorem anyB_eq (a b : List Nat) : anyB a b = (numsW a).any fun j => hasW b j := by
  unfold anyB numsW listTo
  rw [List.any_filter]
theorem allB_eq (a b : List Nat) : allB a b = (numsW a).all fun j => hasW b j := by
  unfold allB numsW listTo
  rw [List.all_filter]
theorem any_hit {a b : List Nat} {k : Nat} (hk : k < (numsW a).length) (h : hasW b ((numsW a).getD k 0) = true) : anyB a b = true := by
  rw [anyB_eq, List.any_eq_true]
  refine ⟨(numsW a)[k], List.getElem_mem hk, ?_⟩
  simpa [hk] using h
theorem all_hit {a b : List Nat} {k : Nat} (hk : k < (numsW a).length) (h : hasW b ((numsW a).getD k 0) = false) : allB a b = false := by
  rw [allB_eq]
  cases e : (numsW a).all fun j => hasW b j
  · rfl
  · have := List.all_eq_true.1 e ((numsW a)[k]) (List.getElem_mem hk)
    simp [hk] at h
    simp [h] at this
theorem any_none {a b : List Nat} (h : ∀ j, j < (numsW a).length → hasW b ((numsW a).getD j 0) = false) : anyB a b = false := by
  rw [anyB_eq]
  cases e : (numsW a).any fun j => hasW b j
  · rfl
  · obtain ⟨x, hx, hb⟩ := List.any_eq_true.1 e
    obtain ⟨k, hk, rfl⟩ := List.mem_iff_getElem.1 hx
    have := h k hk
    simp [hk] at this
    rw [this] at hb; cases hb
theorem all_all {a b : List Nat} (h : ∀ j, j < (numsW a).length → hasW b ((numsW a).getD j 0) = true) : allB a b = true := by
  rw [allB_eq, List.all_eq_true]
  intro x hx
  obtain ⟨k, hk, rfl⟩ := List.mem_iff_getElem.1 hx
  have := h k hk
  simpa [hk] using this
theorem numsW_lt {a : List Nat} {k : Nat} : (numsW a).getD k 0 ≤ 64 * a.length := by
  by_cases hk : k < (numsW a).length
  · have := (listTo_mem.1 (List.getElem_mem hk)).1
    simp [hk]
    exact Nat.le_of_lt this
  · simp [Nat.not_lt.1 hk]
theorem numsW_len (a : List Nat) : (numsW a).length ≤ 64 * a.length := listTo_len a _

set_option maxRecDepth 100000 in
set_option maxHeartbeats 4000000 in
theorem meets_calls {va vb : Value} {a b : List Nat} (w : World) (ha : Wds w va a) (hb : Wds w vb b) (hs : a.length ≤ 300) :
    Calls Try.prog 22 #[va, vb] w fun e W' => e = .returned (.bool (anyB a b)) ∧ Below w.heap.size w W' := by
  have HB : Hid (Wds w vb b) := hb
  have C := all_calls w ha hs
  obtain ⟨ans, hans⟩ : ∃ ans, ans = anyB a b := ⟨_, rfl⟩
  rw [← hans]
  have HS : Hid (ans = anyB a b) := hans
  clear hans
  have hnl : (numsW a).length ≤ 19200 := by have := numsW_len a; omega
  go_enter Try.func22, Try.ntmps22
  go_wp2_with fail
  refine C.mono ?_
  rintro e w1 ⟨u, rfl, hL, hT⟩
  obtain ⟨ao, cap, rfl, hv⟩ := hL.its.view
  rw [ofN_len] at hv ⊢
  have HV : Hid (∀ k, k < (numsW a).length → ∃ g off, ao = some ⟨g, off, none⟩ ∧ g < w1.heap.size ∧ w1.cell? ⟨g, off + k, none⟩ = some (I ((ofN (numsW a)).getD k 0))) := hv
  clear hv hL C
  go_wp2
  go_loopw [6] (fun i wr => ∃ k : Nat, k ≤ (numsW a).length ∧ i = .int .i64 k ∧ Hid (∀ j, j < k → hasW b ((numsW a).getD j 0) = false) ∧ wr = w1) (fun i _ => (numsW a).length - (intOf i).toNat)
  case atStart => exact ⟨0, by omega, rfl, fun j hj => by omega, rfl⟩
  case round =>
    obtain ⟨k, hk, rfl, HT, hw⟩ := hrel
    subst hw
    by_cases hlt : (k : Int) < ((numsW a).length : Int)
    · have hkl : k < (numsW a).length := by omega
      obtain ⟨g, off, rfl, hg, hc⟩ := HV.out k hkl
      rw [ofN_get] at hc
      have TH := there_calls wr (HB.out.later hT) ((numsW a).getD k 0) (by have := numsW_lt (a := a) (k := k); omega)
      have H1 : Hid (hasW b ((numsW a).getD k 0) = true → ans = true) := fun h => by rw [HS.out]; exact any_hit hkl h
      have H0 : Hid (hasW b ((numsW a).getD k 0) = false → ∀ j, j < k + 1 → hasW b ((numsW a).getD j 0) = false) := fun h j hj => by
        rcases Nat.lt_succ_iff_lt_or_eq.1 hj with hj | rfl
        · exact HT.out j hj
        · exact h
      generalize hasW b ((numsW a).getD k 0) = q at *
      generalize (numsW a).getD k 0 = x at *
      go_wp2_with fail
      refine TH.mono ?_
      rintro e w2 ⟨rfl, hw⟩
      subst hw
      cases q
      · have HE : Hid _ := H0.out rfl
        go_wp2
        go_roundw
        case rel => exact ⟨k + 1, by omega, by go_num, HE.out, by trivial⟩
        case measure => simp [intOf]; omega
      · have E := H1.out rfl
        subst E
        go_wp2
        go_ret
        exact ⟨rfl, hT⟩
    · have E : ans = false := by rw [HS.out]; exact any_none (fun j hj => HT.out j (by omega))
      subst E
      go_wp2
      go_ret
      exact ⟨rfl, hT⟩

set_option maxRecDepth 100000 in
set_option maxHeartbeats 4000000 in
theorem inside_calls {va vb : Value} {a b : List Nat} (w : World) (ha : Wds w va a) (hb : Wds w vb b) (hs : a.length ≤ 300) :
    Calls Try.prog 23 #[va, vb] w fun e W' => e = .returned (.bool (allB a b)) ∧ Below w.heap.size w W' := by
  have HB : Hid (Wds w vb b) := hb
  have C := all_calls w ha hs
  obtain ⟨ans, hans⟩ : ∃ ans, ans = allB a b := ⟨_, rfl⟩
  rw [← hans]
  have HS : Hid (ans = allB a b) := hans
  clear hans
  have hnl : (numsW a).length ≤ 19200 := by have := numsW_len a; omega
  go_enter Try.func23, Try.ntmps23
  go_wp2_with fail
  refine C.mono ?_
  rintro e w1 ⟨u, rfl, hL, hT⟩
  obtain ⟨ao, cap, rfl, hv⟩ := hL.its.view
  rw [ofN_len] at hv ⊢
  have HV : Hid (∀ k, k < (numsW a).length → ∃ g off, ao = some ⟨g, off, none⟩ ∧ g < w1.heap.size ∧ w1.cell? ⟨g, off + k, none⟩ = some (I ((ofN (numsW a)).getD k 0))) := hv
  clear hv hL C
  go_wp2
  go_loopw [6] (fun i wr => ∃ k : Nat, k ≤ (numsW a).length ∧ i = .int .i64 k ∧ Hid (∀ j, j < k → hasW b ((numsW a).getD j 0) = true) ∧ wr = w1) (fun i _ => (numsW a).length - (intOf i).toNat)
  case atStart => exact ⟨0, by omega, rfl, fun j hj => by omega, rfl⟩
  case round =>
    obtain ⟨k, hk, rfl, HT, hw⟩ := hrel
    subst hw
    by_cases hlt : (k : Int) < ((numsW a).length : Int)
    · have hkl : k < (numsW a).length := by omega
      obtain ⟨g, off, rfl, hg, hc⟩ := HV.out k hkl
      rw [ofN_get] at hc
      have TH := there_calls wr (HB.out.later hT) ((numsW a).getD k 0) (by have := numsW_lt (a := a) (k := k); omega)
      have H1 : Hid (hasW b ((numsW a).getD k 0) = false → ans = false) := fun h => by rw [HS.out]; exact all_hit hkl h
      have H0 : Hid (hasW b ((numsW a).getD k 0) = true → ∀ j, j < k + 1 → hasW b ((numsW a).getD j 0) = true) := fun h j hj => by
        rcases Nat.lt_succ_iff_lt_or_eq.1 hj with hj | rfl
        · exact HT.out j hj
        · exact h
      generalize hasW b ((numsW a).getD k 0) = q at *
      generalize (numsW a).getD k 0 = x at *
      go_wp2_with fail
      refine TH.mono ?_
      rintro e w2 ⟨rfl, hw⟩
      subst hw
      cases q
      · have E := H1.out rfl
        subst E
        go_wp2
        go_ret
        exact ⟨rfl, hT⟩
      · have HE : Hid _ := H0.out rfl
        go_wp2
        go_roundw
        case rel => exact ⟨k + 1, by omega, by go_num, HE.out, by trivial⟩
        case measure => simp [intOf]; omega
    · have E : ans = true := by rw [HS.out]; exact all_all (fun j hj => HT.out j (by omega))
      subst E
      go_wp2
      go_ret
      exact ⟨rfl, hT⟩

theorem rmeet_calls {va vb : Value} {a b : List Nat} (w : World) (ha : Wds w va a) (hb : Wds w vb b) (n : Int) :
    Calls Try.prog 11 #[I n, va, vb] w fun e W' => e = .returned (.tuple #[.bool (meetB n a b), I (errAll n [a, b])]) ∧ Below w.heap.size w W' := by
  obtain ⟨er, her⟩ : ∃ er, er = errAll n [a, b] := ⟨_, rfl⟩
  have C := two_calls w ha hb n
  unfold meetB
  rw [← her] at C ⊢
  by_cases h0 : er = 0
  · obtain ⟨h1, h2, hma, hmb⟩ := err_two (her.symm.trans h0)
    have D := meets_calls w ha hb (by have := (mayS_iff.1 hma).1; omega)
    unfold anyB at D
    rw [decide_eq_true h0, Bool.true_and]
    generalize ((List.range (64 * a.length)).any fun j => hasW a j && hasW b j) = q at *
    clear her hma hmb
    subst h0
    go_enter Try.func11, Try.ntmps11
    go_wp2_with fail
    refine C.mono ?_
    rintro e w1 ⟨rfl, hw⟩
    subst hw
    go_wp2_with fail
    refine D.mono ?_
    rintro e w2 ⟨rfl, hB⟩
    go_wp2
    go_ret2
    exact ⟨rfl, hB⟩
  · rw [decide_eq_false h0, Bool.false_and]
    clear her
    go_enter Try.func11, Try.ntmps11
    go_wp2_with fail
    refine C.mono ?_
    rintro e w1 ⟨rfl, hw⟩
    subst hw
    go_wp2
    go_ret2
    exact ⟨rfl, Below.refl _ _⟩

theorem rin_calls {va vb : Value} {a b : List Nat} (w : World) (ha : Wds w va a) (hb : Wds w vb b) (n : Int) :
    Calls Try.prog 13 #[I n, va, vb] w fun e W' => e = .returned (.tuple #[.bool (inB n a b), I (errAll n [a, b])]) ∧ Below w.heap.size w W' := by
  obtain ⟨er, her⟩ : ∃ er, er = errAll n [a, b] := ⟨_, rfl⟩
  have C := two_calls w ha hb n
  unfold inB
  rw [← her] at C ⊢
  by_cases h0 : er = 0
  · obtain ⟨h1, h2, hma, hmb⟩ := err_two (her.symm.trans h0)
    have D := inside_calls w ha hb (by have := (mayS_iff.1 hma).1; omega)
    unfold allB at D
    rw [decide_eq_true h0, Bool.true_and]
    generalize ((List.range (64 * a.length)).all fun j => !hasW a j || hasW b j) = q at *
    clear her hma hmb
    subst h0
    go_enter Try.func13, Try.ntmps13
    go_wp2_with fail
    refine C.mono ?_
    rintro e w1 ⟨rfl, hw⟩
    subst hw
    go_wp2_with fail
    refine D.mono ?_
    rintro e w2 ⟨rfl, hB⟩
    go_wp2
    go_ret2
    exact ⟨rfl, hB⟩
  · rw [decide_eq_false h0, Bool.false_and]
    clear her
    go_enter Try.func13, Try.ntmps13
    go_wp2_with fail
    refine C.mono ?_
    rintro e w1 ⟨rfl, hw⟩
    subst hw
    go_wp2
    go_ret2
    exact ⟨rfl, Below.refl _ _⟩

end Go.Proofs.Ytckklobbbidonaa
