/-
  What tidehalllaw05's helpers answer: the chapter's dimensions; its first examples hold; whether a number is in a list.
-/
import Derived.Test.YtbbddolalglmnaaWireRuns
import Derived.Test.YtbbddolalglmnaaPosFar
namespace Go.Proofs.Ytbbddolalglmnaa
open Go Go.RowKit Go.Shelf

attribute [local go_sem] Oper.semAt_some ext_const

theorem may431 : mayD 4 3 1 := by unfold mayD okD; omega

theorem some5_calls (w : World) : Calls Try.prog 9 #[] w fun e W' => e = .returned (A3 4 3 1) ∧ Below w.heap.size w W' := by
  go_enter Try.func9, Try.ntmps9
  go_wp2
  exact bodyPost_ret (v := A3 4 3 1) (by simp [results, Try.f9, go_sem]) rfl ⟨rfl, (Below.refl _ w).alloc (Nat.le_refl _) _⟩

theorem many431 (w : World) : Calls Try.prog 14 #[A3 4 3 1] w fun e W' => e = .returned (.tuple #[I 36, I 0]) ∧ Below w.heap.size w W' := wmany_yes w may431
theorem link431 (w : World) : Calls Try.prog 8 #[A3 4 3 1, I 1, I 5] w fun e W' => e = .returned (.tuple #[I 17, I 0]) ∧ Below w.heap.size w W' :=
  link_yes (k := 1) (m := 5) w may431 (by omega) rfl (by decide)
theorem ends431 (w : World) : Calls Try.prog 10 #[A3 4 3 1, I 3] w fun e W' => e = .returned (.tuple #[I 0, I 3, I 0, I 0]) ∧ Below w.heap.size w W' :=
  ends_yes (m := 3) w may431 (by omega) 0 (by decide)

set_option maxHeartbeats 400000 in
theorem alive5_calls (w : World) : Calls Try.prog 12 #[] w fun e W' => e = .returned (.bool true) ∧ Below w.heap.size w W' := by
  go_enter Try.func12, Try.ntmps12
  go_wp2_with fail
  refine (some5_calls _).mono ?_
  rintro e w1 ⟨rfl, hB1⟩
  go_wp2_with fail
  refine (many431 _).mono ?_
  rintro e w2 ⟨rfl, hB2⟩
  go_wp2_with fail
  refine (some5_calls _).mono ?_
  rintro e w3 ⟨rfl, hB3⟩
  go_wp2_with fail
  refine (link431 _).mono ?_
  rintro e w4 ⟨rfl, hB4⟩
  go_wp2_with fail
  refine (some5_calls _).mono ?_
  rintro e w5 ⟨rfl, hB5⟩
  go_wp2_with fail
  refine (ends431 _).mono ?_
  rintro e w6 ⟨rfl, hB6⟩
  go_wp2
  go_ret
  exact ⟨rfl, then_below (then_below (then_below (then_below (then_below hB1 hB2) hB3) hB4) hB5) hB6⟩

/-- A number is in a list. -/
def inLi (xs : List Int) (n : Int) : Bool := decide (n ∈ xs)
theorem inLi_yes {xs : List Int} {n : Int} (h : n ∈ xs) : inLi xs n = true := decide_eq_true h
theorem inLi_no {xs : List Int} {n : Int} (h : ¬ n ∈ xs) : inLi xs n = false := decide_eq_false h

set_option maxRecDepth 100000 in
set_option maxHeartbeats 1000000 in
theorem hasl_calls {xs : List Int} {u : Value} {b1 : Nat} (n : Int) (w : World) (hu : Lst w b1 u xs) (hx : xs.length ≤ 4096) :
    Calls Try.prog 23 #[u, I n] w fun e W' => e = .returned (.bool (inLi xs n)) ∧ Below w.heap.size w W' := by
  obtain ⟨ao, cap, rfl, hA⟩ := hu.view
  have HA : Hid (∀ k : Nat, k < xs.length → ∃ g cur, ao = some ⟨g, 0, none⟩ ∧ Blk w g 3 cur ∧ cur[k]? = some (I (xs.getD k 0))) := hA
  have HY : Hid (∀ k : Nat, k < xs.length → xs.getD k 0 = n → inLi xs n = true) := fun k hk he => inLi_yes (by
    rw [List.getD_eq_getElem?_getD, List.getElem?_eq_getElem hk] at he
    simp at he
    exact he ▸ List.getElem_mem hk)
  have HN : Hid ((∀ k : Nat, k < xs.length → xs.getD k 0 ≠ n) → inLi xs n = false) := fun h => inLi_no fun hm => by
    obtain ⟨k, hk, he⟩ := List.getElem_of_mem hm
    exact h k hk (by rw [List.getD_eq_getElem?_getD, List.getElem?_eq_getElem hk]; simpa using he)
  generalize inLi xs n = ans at *
  clear hu hA
  go_enter Try.func23, Try.ntmps23
  go_wp2
  go_loopw [5] (fun i wr => (∃ k : Nat, k ≤ xs.length ∧ i = .int .i64 k ∧ Hid (∀ j : Nat, j < k → xs.getD j 0 ≠ n)) ∧ wr = w) (fun i _ => xs.length - (intOf i).toNat)
  case atStart => exact ⟨⟨0, by omega, rfl, fun j hj => by omega⟩, by trivial⟩
  case round =>
    obtain ⟨⟨k, hk, rfl, HK⟩, hw⟩ := hrel
    subst hw
    by_cases hlt : (k : Int) < (xs.length : Int)
    · obtain ⟨g, cur, rfl, hg, hc⟩ := HA.out k (by omega)
      have c0 := hg.cell k
      rw [hc] at c0
      have HE : Hid (xs.getD k 0 = n → ans = true) := HY.out k (by omega)
      have HS : Hid (xs.getD k 0 ≠ n → ∀ j : Nat, j < k + 1 → xs.getD j 0 ≠ n) := fun hne j hj => by
        rcases Nat.lt_succ_iff_lt_or_eq.1 hj with h | rfl
        · exact HK.out j h
        · exact hne
      clear hg hc
      generalize xs.getD k 0 = x at c0 HE HS
      cases hq : (x == n)
      · go_wp2
        go_roundw
        case rel => exact ⟨⟨k + 1, by omega, by go_num, HS.out (by simpa using hq)⟩, by trivial⟩
        case measure => simp [intOf]; omega
      · have E : ans = true := HE.out (by simpa using hq)
        subst E
        go_wp2
        go_ret
        exact ⟨rfl, Below.refl _ _⟩
    · have E : ans = false := HN.out fun j hj => HK.out j (by omega)
      subst E
      go_wp2
      go_ret
      exact ⟨rfl, Below.refl _ _⟩

end Go.Proofs.Ytbbddolalglmnaa
