/-
  Sets of two, whether two meet, whether one is in the other one: set.And, set.Or, set.Less, set.Meet, set.In.
-/
import Derived.Test.YtckklobbbidonaaDoorSetJoin
import Derived.Test.YtckklobbbidonaaDoorSetMany
namespace Go.Proofs.YtckklobbbidonaaDoor
open Go Go.RowKit Go.Shelf

theorem zip_set {op : Nat → Nat → Nat} {g : Bool → Bool → Bool} (hop : ∀ x y, x < 18446744073709551616 → y < 18446744073709551616 → op x y < 18446744073709551616)
    (hf : ∀ x y j, y < 18446744073709551616 → j < 64 → (op x y).testBit j = g (x.testBit j) (y.testBit j)) (h0 : g false false = false) {a b : List Nat} {l : Nat}
    (ha : a.length = l) (hb : b.length = l) (wa : ∀ x ∈ a, x < 18446744073709551616) (wb : ∀ x ∈ b, x < 18446744073709551616) : IsSet l (List.zipWith op a b) (fun j => g (hasW a j) (hasW b j)) := by
  refine ⟨by simp [ha, hb], fun x hx => ?_, fun k => ?_⟩
  · obtain ⟨i, hi, rfl⟩ := List.mem_iff_getElem.1 hx
    rw [List.getElem_zipWith]
    exact hop _ _ (wa _ (List.getElem_mem _)) (wb _ (List.getElem_mem _))
  · unfold hasW
    have hj := Nat.mod_lt k (show 0 < 64 by omega)
    simp only [List.getD_eq_getElem?_getD, List.getElem?_zipWith]
    by_cases hi : k / 64 < l
    · rw [List.getElem?_eq_getElem (by omega : k / 64 < a.length), List.getElem?_eq_getElem (by omega : k / 64 < b.length)]
      exact hf _ _ _ (wb _ (List.getElem_mem _)) hj
    · rw [List.getElem?_eq_none (by omega : a.length ≤ k / 64), List.getElem?_eq_none (by omega : b.length ≤ k / 64)]
      simp [h0]

def andW (x y : Nat) : Nat := x &&& y
def orW (x y : Nat) : Nat := x ||| y
theorem zip_and {a b : List Nat} {l : Nat} (ha : a.length = l) (hb : b.length = l) (wa : ∀ x ∈ a, x < 18446744073709551616) (wb : ∀ x ∈ b, x < 18446744073709551616) : IsSet l (List.zipWith andW a b) (fun j => hasW a j && hasW b j) :=
  zip_set (g := fun x y => x && y) (fun x y hx _ => and_lt x y hx) (fun x y j _ _ => Nat.testBit_and x y j) rfl ha hb wa wb
theorem zip_or {a b : List Nat} {l : Nat} (ha : a.length = l) (hb : b.length = l) (wa : ∀ x ∈ a, x < 18446744073709551616) (wb : ∀ x ∈ b, x < 18446744073709551616) : IsSet l (List.zipWith orW a b) (fun j => hasW a j || hasW b j) :=
  zip_set (g := fun x y => x || y) (fun x y hx hy => bits_or_lt x y hx hy) (fun x y j _ _ => Nat.testBit_or x y j) rfl ha hb wa wb
theorem zip_not {a b : List Nat} {l : Nat} (ha : a.length = l) (hb : b.length = l) (wa : ∀ x ∈ a, x < 18446744073709551616) (wb : ∀ x ∈ b, x < 18446744073709551616) : IsSet l (List.zipWith notW a b) (fun j => hasW a j && !hasW b j) :=
  zip_set (g := fun x y => x && !y) (fun x _ hx _ => and_lt x _ hx) (fun x y j hy hj => notW_bit x y j hy hj) rfl ha hb wa wb

theorem and_calls {va vb : Value} {a b : List Nat} (w : World) (ha : Wds w va a) (hb : Wds w vb b) (n : Int) :
    Calls Tryd.prog 21 #[I n, va, vb] w fun e W' => ∃ v, e = .returned (.tuple #[v, I (errAll n [a, b])]) ∧ SetR W' w.heap.size v (joinW andW n a b) ∧ Below w.heap.size w W' := by
  go_enter Tryd.func21, Tryd.ntmps21
  go_wp2_with fail
  refine (join_calls (op := andW) (.inl rfl) (fun x y hx hy w => and1_calls x y hx hy w) (fun x y hx _ => and_lt x y hx) w ha hb n).mono ?_
  rintro e w1 ⟨v, rfl, hR, hB⟩
  go_wp2
  go_ret2
  exact ⟨_, rfl, hR, hB⟩
theorem or_calls {va vb : Value} {a b : List Nat} (w : World) (ha : Wds w va a) (hb : Wds w vb b) (n : Int) :
    Calls Tryd.prog 22 #[I n, va, vb] w fun e W' => ∃ v, e = .returned (.tuple #[v, I (errAll n [a, b])]) ∧ SetR W' w.heap.size v (joinW orW n a b) ∧ Below w.heap.size w W' := by
  go_enter Tryd.func22, Tryd.ntmps22
  go_wp2_with fail
  refine (join_calls (op := orW) (.inr (.inl rfl)) (fun x y hx hy w => or1_calls x y hx hy w) (fun x y hx hy => bits_or_lt x y hx hy) w ha hb n).mono ?_
  rintro e w1 ⟨v, rfl, hR, hB⟩
  go_wp2
  go_ret2
  exact ⟨_, rfl, hR, hB⟩
theorem less_calls {va vb : Value} {a b : List Nat} (w : World) (ha : Wds w va a) (hb : Wds w vb b) (n : Int) :
    Calls Tryd.prog 23 #[I n, va, vb] w fun e W' => ∃ v, e = .returned (.tuple #[v, I (errAll n [a, b])]) ∧ SetR W' w.heap.size v (joinW notW n a b) ∧ Below w.heap.size w W' := by
  go_enter Tryd.func23, Tryd.ntmps23
  go_wp2_with fail
  refine (join_calls (op := notW) (.inr (.inr rfl)) (fun x y hx hy w => less1_calls x y hx hy w) (fun x _ hx _ => and_lt x _ hx) w ha hb n).mono ?_
  rintro e w1 ⟨v, rfl, hR, hB⟩
  go_wp2
  go_ret2
  exact ⟨_, rfl, hR, hB⟩

/-- Whether two meet; whether one is in the other one. -/
def meetB (n : Int) (a b : List Nat) : Bool := decide (errAll n [a, b] = 0) && (List.range (64 * a.length)).any fun j => hasW a j && hasW b j
def inB (n : Int) (a b : List Nat) : Bool := decide (errAll n [a, b] = 0) && (List.range (64 * a.length)).all fun j => !hasW a j || hasW b j

theorem many_zero {ws : List Nat} : manyS ws = 0 ↔ ∀ j, hasW ws j = false := by
  unfold manyS
  rw [← list_cnt, List.length_eq_zero_iff]
  constructor
  · intro h j
    by_cases hj : j < 64 * ws.length
    · cases e : hasW ws j
      · rfl
      · have := listTo_mem.2 ⟨hj, e⟩
        rw [h] at this; cases this
    · exact hasW_past (by omega)
  · intro h
    rw [List.eq_nil_iff_forall_not_mem]
    intro m hm
    rw [listTo_mem, h] at hm
    cases hm.2
theorem joinW_len {op : Nat → Nat → Nat} {n : Int} {a b : List Nat} : (joinW op n a b).length ≤ 192 := by
  unfold joinW
  split
  · rename_i h
    obtain ⟨h1, h2, hma, hmb⟩ := err_two h
    have := (mayS_iff.1 hma).1
    simp only [List.length_zipWith]
    omega
  · simp
theorem meet_eq {n : Int} {a b : List Nat} (wa : ∀ x ∈ a, x < 18446744073709551616) (wb : ∀ x ∈ b, x < 18446744073709551616) (h : errAll n [a, b] = 0) : meetB n a b = decide (0 < manyS (joinW andW n a b)) := by
  obtain ⟨h1, h2, hma, hmb⟩ := err_two h
  have hz := zip_and (mayS_iff.1 hma).1 (mayS_iff.1 hmb).1 wa wb
  unfold meetB joinW
  rw [if_pos h, decide_eq_true h, Bool.true_and, Bool.eq_iff_iff, decide_eq_true_eq, List.any_eq_true]
  have key := many_zero (ws := List.zipWith andW a b)
  constructor
  · rintro ⟨j, _, hj⟩
    have : manyS (List.zipWith andW a b) ≠ 0 := by
      intro e
      have := key.1 e j
      rw [hz.has, hj] at this; cases this
    omega
  · intro hp
    have : ¬ ∀ j, hasW (List.zipWith andW a b) j = false := fun e => by have := key.2 e; omega
    obtain ⟨j, hj⟩ := Classical.not_forall.1 this
    rw [hz.has] at hj
    have hj : (hasW a j && hasW b j) = true := by simpa using hj
    refine ⟨j, List.mem_range.2 ?_, hj⟩
    apply Nat.lt_of_not_le
    intro hle
    rw [hasW_past hle] at hj; cases hj
theorem in_eq {n : Int} {a b : List Nat} (wa : ∀ x ∈ a, x < 18446744073709551616) (wb : ∀ x ∈ b, x < 18446744073709551616) (h : errAll n [a, b] = 0) : inB n a b = (((manyS (joinW notW n a b) : Nat) : Int) == 0) := by
  obtain ⟨h1, h2, hma, hmb⟩ := err_two h
  have hz := zip_not (mayS_iff.1 hma).1 (mayS_iff.1 hmb).1 wa wb
  unfold inB joinW
  rw [if_pos h, decide_eq_true h, Bool.true_and, Bool.eq_iff_iff, beq_iff_eq, List.all_eq_true]
  have key := many_zero (ws := List.zipWith notW a b)
  constructor
  · intro hj
    have : manyS (List.zipWith notW a b) = 0 := key.2 fun j => by
      rw [hz.has]
      by_cases hl : j < 64 * a.length
      · have := hj j (List.mem_range.2 hl)
        cases ha : hasW a j <;> cases hb : hasW b j <;> simp [ha, hb] at this ⊢
      · rw [hasW_past (Nat.not_lt.1 hl)]; rfl
    omega
  · intro hp j _
    have := key.1 (by omega) j
    rw [hz.has] at this
    cases ha : hasW a j <;> cases hb : hasW b j <;> simp [ha, hb] at this ⊢

theorem meet_calls {va vb : Value} {a b : List Nat} (w : World) (ha : Wds w va a) (hb : Wds w vb b) (n : Int) :
    Calls Tryd.prog 24 #[I n, va, vb] w fun e W' => e = .returned (.tuple #[.bool (meetB n a b), I (errAll n [a, b])]) ∧ Below w.heap.size w W' := by
  obtain ⟨ans, hans⟩ : ∃ ans, ans = meetB n a b := ⟨_, rfl⟩
  obtain ⟨er, her⟩ : ∃ er, er = errAll n [a, b] := ⟨_, rfl⟩
  have C := and_calls w ha hb n
  have HL := joinW_len (op := andW) (n := n) (a := a) (b := b)
  have HM : Hid (er = 0 → ans = decide (0 < manyS (joinW andW n a b))) := fun e => by rw [hans]; exact meet_eq ha.1 hb.1 (her ▸ e)
  have HF : Hid (er ≠ 0 → ans = false) := fun e => by rw [hans, meetB, ← her, decide_eq_false e, Bool.false_and]
  rw [← her] at C ⊢
  rw [← hans]
  clear her hans
  generalize joinW andW n a b = zs at *
  go_enter Tryd.func24, Tryd.ntmps24
  go_wp2_with fail
  refine C.mono ?_
  rintro e w1 ⟨v, rfl, hR, hB⟩
  by_cases h0 : er = 0
  · subst h0
    have E := HM
    generalize hm : manyS zs = m at *
    have M := many_calls _ hR.wds (by omega)
    rw [hm] at M
    clear hm
    go_wp2_with fail
    refine M.mono ?_
    rintro e w2 ⟨rfl, rfl⟩
    go_wp2
    go_ret2
    exact ⟨by rw [E.out (by trivial)]; rfl, hB⟩
  · have E := HF.out h0
    subst E
    go_wp2
    go_ret2
    exact ⟨rfl, hB⟩

theorem in_calls {va vb : Value} {a b : List Nat} (w : World) (ha : Wds w va a) (hb : Wds w vb b) (n : Int) :
    Calls Tryd.prog 25 #[I n, va, vb] w fun e W' => e = .returned (.tuple #[.bool (inB n a b), I (errAll n [a, b])]) ∧ Below w.heap.size w W' := by
  obtain ⟨ans, hans⟩ : ∃ ans, ans = inB n a b := ⟨_, rfl⟩
  obtain ⟨er, her⟩ : ∃ er, er = errAll n [a, b] := ⟨_, rfl⟩
  have C := less_calls w ha hb n
  have HL := joinW_len (op := notW) (n := n) (a := a) (b := b)
  have HM : Hid (er = 0 → ans = (((manyS (joinW notW n a b) : Nat) : Int) == 0)) := fun e => by rw [hans]; exact in_eq ha.1 hb.1 (her ▸ e)
  have HF : Hid (er ≠ 0 → ans = false) := fun e => by rw [hans, inB, ← her, decide_eq_false e, Bool.false_and]
  rw [← her] at C ⊢
  rw [← hans]
  clear her hans
  generalize joinW notW n a b = zs at *
  go_enter Tryd.func25, Tryd.ntmps25
  go_wp2_with fail
  refine C.mono ?_
  rintro e w1 ⟨v, rfl, hR, hB⟩
  by_cases h0 : er = 0
  · subst h0
    have E := HM
    generalize hm : manyS zs = m at *
    have M := many_calls _ hR.wds (by omega)
    rw [hm] at M
    clear hm
    go_wp2_with fail
    refine M.mono ?_
    rintro e w2 ⟨rfl, rfl⟩
    go_wp2
    go_ret2
    exact ⟨by rw [E.out (by trivial)]; rfl, hB⟩
  · have E := HF.out h0
    subst E
    go_wp2
    go_ret2
    exact ⟨rfl, hB⟩

end Go.Proofs.YtckklobbbidonaaDoor
