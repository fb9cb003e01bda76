/-
  tidehalllaw05.WireLines returns true, whatever it is handed; nothing that lay before is turned.
-/
import Derived.Test.YtbbddolalglmnaaLawWireLines1
import Derived.Test.YtbbddolalglmnaaLawWireLines2
import Derived.Test.YtbbddolalglmnaaLawWireLines3
namespace Go.Proofs.Ytbbddolalglmnaa
open Go Go.RowKit Go.Shelf

theorem among_zero (d0 d1 d2 m : Int) (k : Fin 3) (o : Int) : amongW d0 d1 d2 m k 0 o = false := by simp [amongW]
theorem among_succ (d0 d1 d2 m : Int) (k : Fin 3) (j : Nat) (o : Int) : amongW d0 d1 d2 m k (j + 1) o = (amongW d0 d1 d2 m k j o || (onD d0 d1 d2 m k (j : Int) == o)) := by
  unfold amongW
  rw [List.range_succ, List.any_append, Bool.eq_iff_iff]
  simp
theorem rise_getD {xs : List Int} (h : xs.Pairwise (· < ·)) (j : Nat) (h0 : 0 < j) (hj : j < xs.length) : xs.getD (j - 1) 0 < xs.getD j 0 := by
  have := List.pairwise_iff_getElem.1 h (j - 1) j (by omega) hj (by omega)
  rw [List.getD_eq_getElem?_getD, List.getD_eq_getElem?_getD, List.getElem?_eq_getElem hj, List.getElem?_eq_getElem (by omega)]
  exact this
theorem ends_in {d0 d1 d2 m : Int} (hm : mayD d0 d1 d2) {k : Fin 3} {many : Nat} (h1 : 1 < dimAt d0 d1 d2 k) {y : Int} (hy : y ∈ cablesW d0 d1 d2 m k many) :
    ∃ p q, (∀ w : World, Calls Try.prog 10 #[A3 d0 d1 d2, I y] w fun x W' => x = .returned (.tuple #[I (axI k), I p, I q, I 0]) ∧ Below w.heap.size w W') ∧ (p = m → y = axI k * (d0 * d1 * d2) + m) := by
  obtain ⟨_, o, ho, rfl⟩ := cables_mem.1 hy
  have hN := (nodes_mem.1 ho).1
  refine ⟨(o : Int), onD d0 d1 d2 o k 1, fun w => ends_yes w hm (by omega) k h1, fun e => ?_⟩
  unfold cabW
  rw [e]
theorem prods {d0 d1 d2 : Int} (hm : mayD d0 d1 d2) : (1 ≤ d0 ∧ d0 ≤ 16) ∧ (1 ≤ d0 * d1 ∧ d0 * d1 ≤ 256) ∧ (1 ≤ d0 * d1 * d2 ∧ d0 * d1 * d2 ≤ 4096) := by
  have hN := N_bd hm
  obtain ⟨⟨a0, a1⟩, ⟨b0, b1⟩, _⟩ := hm
  have p := mul_bd (a := d0) (b := d1) (M := 16) (N := 16) (by omega) a1 (by omega) b1
  have q := Int.mul_le_mul a0 b0 (by omega) (by omega)
  exact ⟨⟨a0, a1⟩, ⟨by omega, by omega⟩, hN⟩

theorem lines_on0 {d0 d1 d2 a m o : Int} (ha : 0 ≤ a ∧ a ≤ 255) (hk : a % 3 = 0) (w : World) (hm : mayD d0 d1 d2) (hn : 0 ≤ m ∧ m < d0 * d1 * d2) (ho : 0 ≤ o ∧ o < d0 * d1 * d2) :
    Calls Try.prog 6 #[A3 d0 d1 d2, .int .u8 a, I m, I o] w fun e W' => e = .returned (.bool true) ∧ Below w.heap.size w W' := by
  have hd : 1 ≤ d0 ∧ d0 ≤ 16 := dimAt_ok hm 0
  have HA : ListsW 18 #[A3 d0 d1 d2, I 0, I m] (cablesW d0 d1 d2 m 0 d0.toNat) 0 := lists_yes fun w => wline_yes (k := 0) w hm hn rfl
  have HB : ListsW 18 #[A3 d0 d1 d2, I 0, I o] (cablesW d0 d1 d2 o 0 d0.toNat) 0 := lists_yes fun w => wline_yes (k := 0) w hm ho rfl
  have HP : ∀ (j : Nat) (w : World), Calls Try.prog 21 #[A3 d0 d1 d2, I m, I 0, I (j : Int)] w fun x W' => x = .returned (.tuple #[I (onD d0 d1 d2 m 0 (j : Int)), I 0]) ∧ Below w.heap.size w W' := fun j w => step_yes w hm hn 0
  have h0 := among_zero d0 d1 d2 m 0 o
  have hS := fun j => among_succ d0 d1 d2 m 0 j o
  by_cases h1 : 1 < d0
  · have lA : (cablesW d0 d1 d2 m 0 d0.toNat).length = d0.toNat := by rw [cables_len hm hn 0 (by show (d0.toNat : Int) ≤ d0; omega), if_pos (by exact h1)]
    have lB : (cablesW d0 d1 d2 o 0 d0.toNat).length = d0.toNat := by rw [cables_len hm ho 0 (by show (d0.toNat : Int) ≤ d0; omega), if_pos (by exact h1)]
    have hyes : amongW d0 d1 d2 m 0 d0.toNat o = true → cablesW d0 d1 d2 m 0 d0.toNat = cablesW d0 d1 d2 o 0 d0.toNat := fun h => cables_same hm hn ho 0 h
    have hno : amongW d0 d1 d2 m 0 d0.toNat o = false → ∀ y ∈ cablesW d0 d1 d2 m 0 d0.toNat, ¬ y ∈ cablesW d0 d1 d2 o 0 d0.toNat := fun h y hy hy' => cables_apart hm hn ho 0 h hy hy'
    have hrise := rise_getD (cables_rise d0 d1 d2 m 0 d0.toNat)
    have hE : ∀ y ∈ cablesW d0 d1 d2 m 0 d0.toNat, ∃ p q, (∀ w : World, Calls Try.prog 10 #[A3 d0 d1 d2, I y] w fun x W' => x = .returned (.tuple #[I 0, I p, I q, I 0]) ∧ Below w.heap.size w W') ∧ (p = m → y = m) := fun y hy => by
      obtain ⟨p, q, h, e⟩ := ends_in hm (k := 0) h1 hy
      refine ⟨p, q, h, fun ep => ?_⟩
      rw [e ep]
      simp only [axI]
      rw [Int.zero_mul, Int.zero_add]
    have hw : wrap64 m = m := by
      obtain ⟨⟨p1, p2⟩, ⟨p3, p4⟩, p5, p6⟩ := prods hm
      unfold wrap64; omega
    generalize cablesW d0 d1 d2 m 0 d0.toNat = A at *
    generalize cablesW d0 d1 d2 o 0 d0.toNat = B at *
    generalize hone : (fun j => amongW d0 d1 d2 m 0 j o) = oneB at *
    generalize hP : (fun j : Nat => onD d0 d1 d2 m 0 (j : Int)) = P at *
    have f1 : ∀ j, amongW d0 d1 d2 m 0 j o = oneB j := fun j => congrFun hone j
    have f2 : ∀ j : Nat, onD d0 d1 d2 m 0 (j : Int) = P j := fun j => congrFun hP j
    simp only [f1, f2] at h0 hS HP hyes hno
    clear hone hP f1 f2
    obtain ⟨n, hn'⟩ : ∃ n : Nat, d0.toNat = n := ⟨_, rfl⟩
    have e : d0 = (A.length : Int) := by omega
    have eA : d0.toNat = A.length := lA.symm
    rw [eA] at hyes hno lB
    clear hn' eA lA hn ho hm
    subst e
    exact lines_more0 ha hk w (by omega) lB h0 hS HA HB HP hyes hno hrise hE hw
  · have e : d0 = 1 := by omega
    have n1 : ¬ 1 < dimAt d0 d1 d2 0 := h1
    have eA : cablesW d0 d1 d2 m 0 d0.toNat = [] := by unfold cablesW; rw [if_neg n1]
    have eB : cablesW d0 d1 d2 o 0 d0.toNat = [] := by unfold cablesW; rw [if_neg n1]
    rw [eA] at HA
    rw [eB] at HB
    generalize hone : (fun j => amongW d0 d1 d2 m 0 j o) = oneB at *
    generalize hP : (fun j : Nat => onD d0 d1 d2 m 0 (j : Int)) = P at *
    have f1 : ∀ j, amongW d0 d1 d2 m 0 j o = oneB j := fun j => congrFun hone j
    have f2 : ∀ j : Nat, onD d0 d1 d2 m 0 (j : Int) = P j := fun j => congrFun hP j
    simp only [f1, f2] at h0 hS HP
    clear hone hP f1 f2 eA eB n1 hd h1 hm hn ho
    subst e
    exact lines_one0 ha hk w h0 hS HA HB HP

theorem lines_on1 {d0 d1 d2 a m o : Int} (ha : 0 ≤ a ∧ a ≤ 255) (hk : a % 3 = 1) (w : World) (hm : mayD d0 d1 d2) (hn : 0 ≤ m ∧ m < d0 * d1 * d2) (ho : 0 ≤ o ∧ o < d0 * d1 * d2) :
    Calls Try.prog 6 #[A3 d0 d1 d2, .int .u8 a, I m, I o] w fun e W' => e = .returned (.bool true) ∧ Below w.heap.size w W' := by
  have hd : 1 ≤ d1 ∧ d1 ≤ 16 := dimAt_ok hm 1
  have HA : ListsW 18 #[A3 d0 d1 d2, I 1, I m] (cablesW d0 d1 d2 m 1 d1.toNat) 0 := lists_yes fun w => wline_yes (k := 1) w hm hn rfl
  have HB : ListsW 18 #[A3 d0 d1 d2, I 1, I o] (cablesW d0 d1 d2 o 1 d1.toNat) 0 := lists_yes fun w => wline_yes (k := 1) w hm ho rfl
  have HP : ∀ (j : Nat) (w : World), Calls Try.prog 21 #[A3 d0 d1 d2, I m, I 1, I (j : Int)] w fun x W' => x = .returned (.tuple #[I (onD d0 d1 d2 m 1 (j : Int)), I 0]) ∧ Below w.heap.size w W' := fun j w => step_yes w hm hn 1
  have h0 := among_zero d0 d1 d2 m 1 o
  have hS := fun j => among_succ d0 d1 d2 m 1 j o
  by_cases h1 : 1 < d1
  · have lA : (cablesW d0 d1 d2 m 1 d1.toNat).length = d1.toNat := by rw [cables_len hm hn 1 (by show (d1.toNat : Int) ≤ d1; omega), if_pos (by exact h1)]
    have lB : (cablesW d0 d1 d2 o 1 d1.toNat).length = d1.toNat := by rw [cables_len hm ho 1 (by show (d1.toNat : Int) ≤ d1; omega), if_pos (by exact h1)]
    have hyes : amongW d0 d1 d2 m 1 d1.toNat o = true → cablesW d0 d1 d2 m 1 d1.toNat = cablesW d0 d1 d2 o 1 d1.toNat := fun h => cables_same hm hn ho 1 h
    have hno : amongW d0 d1 d2 m 1 d1.toNat o = false → ∀ y ∈ cablesW d0 d1 d2 m 1 d1.toNat, ¬ y ∈ cablesW d0 d1 d2 o 1 d1.toNat := fun h y hy hy' => cables_apart hm hn ho 1 h hy hy'
    have hrise := rise_getD (cables_rise d0 d1 d2 m 1 d1.toNat)
    have hE : ∀ y ∈ cablesW d0 d1 d2 m 1 d1.toNat, ∃ p q, (∀ w : World, Calls Try.prog 10 #[A3 d0 d1 d2, I y] w fun x W' => x = .returned (.tuple #[I 1, I p, I q, I 0]) ∧ Below w.heap.size w W') ∧ (p = m → y = d0 * d1 * d2 + m) := fun y hy => by
      obtain ⟨p, q, h, e⟩ := ends_in hm (k := 1) h1 hy
      refine ⟨p, q, h, fun ep => ?_⟩
      rw [e ep]
      simp only [axI]
      rw [Int.one_mul]
    have hw : wrap64 (d0) = d0 ∧ wrap64 (d0 * d1) = d0 * d1 ∧ wrap64 (d0 * d1 * d2) = d0 * d1 * d2 ∧ wrap64 (d0 * d1 * d2 + m) = d0 * d1 * d2 + m := by
      obtain ⟨⟨p1, p2⟩, ⟨p3, p4⟩, p5, p6⟩ := prods hm
      
      obtain ⟨n1, n2⟩ := hn
      generalize d0 * d1 * d2 = N at *
      generalize d0 * d1 = M at *
      refine ⟨?_, ?_, ?_, ?_⟩ <;> (unfold wrap64; omega)
    generalize cablesW d0 d1 d2 m 1 d1.toNat = A at *
    generalize cablesW d0 d1 d2 o 1 d1.toNat = B at *
    generalize hone : (fun j => amongW d0 d1 d2 m 1 j o) = oneB at *
    generalize hP : (fun j : Nat => onD d0 d1 d2 m 1 (j : Int)) = P at *
    have f1 : ∀ j, amongW d0 d1 d2 m 1 j o = oneB j := fun j => congrFun hone j
    have f2 : ∀ j : Nat, onD d0 d1 d2 m 1 (j : Int) = P j := fun j => congrFun hP j
    simp only [f1, f2] at h0 hS HP hyes hno
    clear hone hP f1 f2
    obtain ⟨n, hn'⟩ : ∃ n : Nat, d1.toNat = n := ⟨_, rfl⟩
    have e : d1 = (A.length : Int) := by omega
    have eA : d1.toNat = A.length := lA.symm
    rw [eA] at hyes hno lB
    clear hn' eA lA hn ho hm
    subst e
    exact lines_more1 ha hk w (by omega) lB h0 hS HA HB HP hyes hno hrise hE hw
  · have e : d1 = 1 := by omega
    have n1 : ¬ 1 < dimAt d0 d1 d2 1 := h1
    have eA : cablesW d0 d1 d2 m 1 d1.toNat = [] := by unfold cablesW; rw [if_neg n1]
    have eB : cablesW d0 d1 d2 o 1 d1.toNat = [] := by unfold cablesW; rw [if_neg n1]
    rw [eA] at HA
    rw [eB] at HB
    generalize hone : (fun j => amongW d0 d1 d2 m 1 j o) = oneB at *
    generalize hP : (fun j : Nat => onD d0 d1 d2 m 1 (j : Int)) = P at *
    have f1 : ∀ j, amongW d0 d1 d2 m 1 j o = oneB j := fun j => congrFun hone j
    have f2 : ∀ j : Nat, onD d0 d1 d2 m 1 (j : Int) = P j := fun j => congrFun hP j
    simp only [f1, f2] at h0 hS HP
    clear hone hP f1 f2 eA eB n1 hd h1 hm hn ho
    subst e
    exact lines_one1 ha hk w h0 hS HA HB HP

theorem lines_on2 {d0 d1 d2 a m o : Int} (ha : 0 ≤ a ∧ a ≤ 255) (hk : a % 3 = 2) (w : World) (hm : mayD d0 d1 d2) (hn : 0 ≤ m ∧ m < d0 * d1 * d2) (ho : 0 ≤ o ∧ o < d0 * d1 * d2) :
    Calls Try.prog 6 #[A3 d0 d1 d2, .int .u8 a, I m, I o] w fun e W' => e = .returned (.bool true) ∧ Below w.heap.size w W' := by
  have hd : 1 ≤ d2 ∧ d2 ≤ 16 := dimAt_ok hm 2
  have HA : ListsW 18 #[A3 d0 d1 d2, I 2, I m] (cablesW d0 d1 d2 m 2 d2.toNat) 0 := lists_yes fun w => wline_yes (k := 2) w hm hn rfl
  have HB : ListsW 18 #[A3 d0 d1 d2, I 2, I o] (cablesW d0 d1 d2 o 2 d2.toNat) 0 := lists_yes fun w => wline_yes (k := 2) w hm ho rfl
  have HP : ∀ (j : Nat) (w : World), Calls Try.prog 21 #[A3 d0 d1 d2, I m, I 2, I (j : Int)] w fun x W' => x = .returned (.tuple #[I (onD d0 d1 d2 m 2 (j : Int)), I 0]) ∧ Below w.heap.size w W' := fun j w => step_yes w hm hn 2
  have h0 := among_zero d0 d1 d2 m 2 o
  have hS := fun j => among_succ d0 d1 d2 m 2 j o
  by_cases h1 : 1 < d2
  · have lA : (cablesW d0 d1 d2 m 2 d2.toNat).length = d2.toNat := by rw [cables_len hm hn 2 (by show (d2.toNat : Int) ≤ d2; omega), if_pos (by exact h1)]
    have lB : (cablesW d0 d1 d2 o 2 d2.toNat).length = d2.toNat := by rw [cables_len hm ho 2 (by show (d2.toNat : Int) ≤ d2; omega), if_pos (by exact h1)]
    have hyes : amongW d0 d1 d2 m 2 d2.toNat o = true → cablesW d0 d1 d2 m 2 d2.toNat = cablesW d0 d1 d2 o 2 d2.toNat := fun h => cables_same hm hn ho 2 h
    have hno : amongW d0 d1 d2 m 2 d2.toNat o = false → ∀ y ∈ cablesW d0 d1 d2 m 2 d2.toNat, ¬ y ∈ cablesW d0 d1 d2 o 2 d2.toNat := fun h y hy hy' => cables_apart hm hn ho 2 h hy hy'
    have hrise := rise_getD (cables_rise d0 d1 d2 m 2 d2.toNat)
    have hE : ∀ y ∈ cablesW d0 d1 d2 m 2 d2.toNat, ∃ p q, (∀ w : World, Calls Try.prog 10 #[A3 d0 d1 d2, I y] w fun x W' => x = .returned (.tuple #[I 2, I p, I q, I 0]) ∧ Below w.heap.size w W') ∧ (p = m → y = 2 * d0 * d1 * d2 + m) := fun y hy => by
      obtain ⟨p, q, h, e⟩ := ends_in hm (k := 2) h1 hy
      refine ⟨p, q, h, fun ep => ?_⟩
      rw [e ep]
      simp only [axI]
      rw [← Int.mul_assoc, ← Int.mul_assoc]
    have hw : wrap64 (2 * d0) = 2 * d0 ∧ wrap64 (2 * d0 * d1) = 2 * d0 * d1 ∧ wrap64 (2 * d0 * d1 * d2) = 2 * d0 * d1 * d2 ∧ wrap64 (2 * d0 * d1 * d2 + m) = 2 * d0 * d1 * d2 + m := by
      obtain ⟨⟨p1, p2⟩, ⟨p3, p4⟩, p5, p6⟩ := prods hm
      
      rw [show 2 * d0 * d1 = 2 * (d0 * d1) from Int.mul_assoc 2 d0 d1, show 2 * (d0 * d1) * d2 = 2 * (d0 * d1 * d2) from Int.mul_assoc 2 (d0 * d1) d2]
      obtain ⟨n1, n2⟩ := hn
      generalize d0 * d1 * d2 = N at *
      generalize d0 * d1 = M at *
      refine ⟨?_, ?_, ?_, ?_⟩ <;> (unfold wrap64; omega)
    generalize cablesW d0 d1 d2 m 2 d2.toNat = A at *
    generalize cablesW d0 d1 d2 o 2 d2.toNat = B at *
    generalize hone : (fun j => amongW d0 d1 d2 m 2 j o) = oneB at *
    generalize hP : (fun j : Nat => onD d0 d1 d2 m 2 (j : Int)) = P at *
    have f1 : ∀ j, amongW d0 d1 d2 m 2 j o = oneB j := fun j => congrFun hone j
    have f2 : ∀ j : Nat, onD d0 d1 d2 m 2 (j : Int) = P j := fun j => congrFun hP j
    simp only [f1, f2] at h0 hS HP hyes hno
    clear hone hP f1 f2
    obtain ⟨n, hn'⟩ : ∃ n : Nat, d2.toNat = n := ⟨_, rfl⟩
    have e : d2 = (A.length : Int) := by omega
    have eA : d2.toNat = A.length := lA.symm
    rw [eA] at hyes hno lB
    clear hn' eA lA hn ho hm
    subst e
    exact lines_more2 ha hk w (by omega) lB h0 hS HA HB HP hyes hno hrise hE hw
  · have e : d2 = 1 := by omega
    have n1 : ¬ 1 < dimAt d0 d1 d2 2 := h1
    have eA : cablesW d0 d1 d2 m 2 d2.toNat = [] := by unfold cablesW; rw [if_neg n1]
    have eB : cablesW d0 d1 d2 o 2 d2.toNat = [] := by unfold cablesW; rw [if_neg n1]
    rw [eA] at HA
    rw [eB] at HB
    generalize hone : (fun j => amongW d0 d1 d2 m 2 j o) = oneB at *
    generalize hP : (fun j : Nat => onD d0 d1 d2 m 2 (j : Int)) = P at *
    have f1 : ∀ j, amongW d0 d1 d2 m 2 j o = oneB j := fun j => congrFun hone j
    have f2 : ∀ j : Nat, onD d0 d1 d2 m 2 (j : Int) = P j := fun j => congrFun hP j
    simp only [f1, f2] at h0 hS HP
    clear hone hP f1 f2 eA eB n1 hd h1 hm hn ho
    subst e
    exact lines_one2 ha hk w h0 hS HA HB HP

theorem wireLines_walk (d0 d1 d2 a m o : Int) (ha : 0 ≤ a ∧ a ≤ 255) (w : World) :
    Calls Try.prog 6 #[A3 d0 d1 d2, .int .u8 a, I m, I o] w fun e W' => e = .returned (.bool true) ∧ Below w.heap.size w W' := by
  rcases refused_or d0 d1 d2 (a % 3) m with ⟨e, h⟩ | ⟨hm, hn, k, hk⟩
  · obtain ⟨L, f, _, _, _, HB, _⟩ := both_wline d0 d1 d2 (a % 3) o
    exact lines_off1 ha w h.ne (lists_no fun w => wline_ref w h) HB
  · rcases refused_or d0 d1 d2 (a % 3) o with ⟨f, h⟩ | ⟨_, ho, _⟩
    · exact lines_off2 ha w h.ne (lists_yes fun w => wline_yes w hm hn hk) (lists_no fun w => wline_ref w h)
    · rcases fin3 k with rfl | rfl | rfl
      · exact lines_on0 ha hk w hm hn ho
      · exact lines_on1 ha hk w hm hn ho
      · exact lines_on2 ha hk w hm hn ho

end Go.Proofs.Ytbbddolalglmnaa
