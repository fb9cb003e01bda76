/-
  How many numbers a set has: math/bits.OnesCount64, set.many.
-/
import Derived.Test.YtbedhpooeabehaaDoorPart5
import Derived.Test.YtbedhpooeabehaaDoorPart4
import Derived.Laws.Bits128
import Derived.Test.YtbedhpooeabehaaDoorProg
import Derived.OwnWalk
import Derived.WalkMore
import Derived.ScopeJumps
namespace Go.Proofs.YtbedhpooeabehaaDoor
open Go Go.RowKit Go.Shelf

theorem and_u64 (a : Int) (x m : Nat) (ha : a = (x : Int)) (hx : x < 18446744073709551616) (hm : m < 18446744073709551616) : bits .and .u64 a (m : Int) = ((x &&& m : Nat) : Int) := by
  rw [ha]; exact u64_and_nat x m hx hm
theorem half1 (x : Nat) (hx : x < 18446744073709551616) (h : st1 8 x < 18446744073709551616) :
    IntKind.u64.wrap (bits .and .u64 ((x : Int) / 2) 6148914691236517205 + bits .and .u64 (x : Int) 6148914691236517205) = ((st1 8 x : Nat) : Int) := by
  have a := and_u64 ((x : Int) / 2) (x / 2) 6148914691236517205 (by omega) (by omega) (by decide)
  have b := and_u64 (x : Int) x 6148914691236517205 rfl hx (by decide)
  have e : rep 85 8 = 6148914691236517205 := by decide
  unfold st1 at h ⊢
  rw [e] at h ⊢
  rw [show (6148914691236517205 : Int) = ((6148914691236517205 : Nat) : Int) from rfl, a, b, IntKind.wrap_u64]
  omega
theorem half2 (x : Nat) (hx : x < 18446744073709551616) (h : st2 8 x < 18446744073709551616) :
    IntKind.u64.wrap (bits .and .u64 ((x : Int) / 4) 3689348814741910323 + bits .and .u64 (x : Int) 3689348814741910323) = ((st2 8 x : Nat) : Int) := by
  have a := and_u64 ((x : Int) / 4) (x / 4) 3689348814741910323 (by omega) (by omega) (by decide)
  have b := and_u64 (x : Int) x 3689348814741910323 rfl hx (by decide)
  have e : rep 51 8 = 3689348814741910323 := by decide
  unfold st2 at h ⊢
  rw [e] at h ⊢
  rw [show (3689348814741910323 : Int) = ((3689348814741910323 : Nat) : Int) from rfl, a, b, IntKind.wrap_u64]
  omega
theorem half3 (x : Nat) (h : x / 16 + x < 18446744073709551616) :
    bits .and .u64 (IntKind.u64.wrap ((x : Int) / 16 + (x : Int))) 1085102592571150095 = ((st3 8 x : Nat) : Int) := by
  have e : rep 15 8 = 1085102592571150095 := by decide
  unfold st3
  rw [e]
  exact and_u64 _ (x / 16 + x) 1085102592571150095 (by rw [IntKind.wrap_u64]; omega) h (by decide)
theorem half4 (x c : Nat) (hx : 2 * x < 18446744073709551616) : IntKind.u64.wrap ((x : Int) + (x : Int) / (c : Int)) = ((x + x / c : Nat) : Int) := by
  have : x / c ≤ x := Nat.div_le_self x c
  rw [IntKind.wrap_u64, show (x : Int) / (c : Int) = ((x / c : Nat) : Int) by norm_cast]
  generalize x / c = d at *
  omega

theorem last7 (t p : Nat) (ht : t < 9223372036854775808) (hp : t % 128 = p) : bits BinOp.and IntKind.i64 (wrap64 (t : Int)) 127 = (p : Int) := by
  rw [i64_and127, show wrap64 (t : Int) = (t : Int) by unfold wrap64; omega]
  omega

set_option maxRecDepth 100000 in
set_option maxHeartbeats 2000000 in
theorem ones_calls (x : Nat) (hx : x < 18446744073709551616) (w : World) :
    Calls Tryd.prog 37 #[U x] w fun e W' => e = .returned (I (popTo 64 x)) ∧ W' = w := by
  go_enter Tryd.func37, Tryd.ntmps37
  go_wp2
  go_ret
  refine ⟨?_, rfl⟩
  obtain ⟨z, hz, hz1, h1, h2, hp, hp2⟩ := ones_eq x hx
  have g4 := half4 z 256 (by omega)
  have l4 : z + z / 256 ≤ 2 * z := by have := Nat.div_le_self z 256; omega
  generalize z + z / 256 = y at *
  have g5 := half4 y 65536 (by omega)
  have l5 : y + y / 65536 ≤ 2 * y := by have := Nat.div_le_self y 65536; omega
  generalize y + y / 65536 = t at *
  have g6 := half4 t 4294967296 (by omega)
  have l6 : t + t / 4294967296 ≤ 2 * t := by have := Nat.div_le_self t 4294967296; omega
  generalize t + t / 4294967296 = u at *
  have g7 := last7 u _ (by omega) hp
  simp only [Int.cast_ofNat_Int] at g4 g5 g6
  simp only [half1 x hx h1, half2 (st1 8 x) h1 (by omega), half3 _ h2, hz, g4, g5, g6, g7]
  rfl

/-- How many numbers the first k words have. -/
def cntTo (ws : List Nat) : Nat → Nat
  | 0 => 0
  | k + 1 => cntTo ws k + popTo 64 (ws.getD k 0)
theorem pop_le : ∀ (n x : Nat), popTo n x ≤ n
  | 0, x => Nat.le_refl 0
  | n + 1, x => by rw [popTo]; have := pop_le n (x / 2); omega
theorem cnt_le (ws : List Nat) : ∀ k, cntTo ws k ≤ 64 * k
  | 0 => Nat.le_refl 0
  | k + 1 => by rw [cntTo]; have := cnt_le ws k; have := pop_le 64 (ws.getD k 0); omega
theorem pop_succ (j x : Nat) : popTo (j + 1) x = popTo j x + (if x.testBit j then 1 else 0) := by
  rw [popTo_add 1 j x, popTo, popTo, Nat.testBit_eq_decide_div_mod_eq]
  have : x / 2 ^ j % 2 = 0 ∨ x / 2 ^ j % 2 = 1 := by omega
  rcases this with h | h <;> simp [h]
theorem list_word (ws : List Nat) (k : Nat) (h : (listTo ws (64 * k)).length = cntTo ws k) : ∀ j, j ≤ 64 → (listTo ws (64 * k + j)).length = cntTo ws k + popTo j (ws.getD k 0)
  | 0, _ => by simpa [popTo] using h
  | j + 1, hj => by
    have ih := list_word ws k h j (by omega)
    have hb := hasW_at ws k j (by omega)
    rw [pop_succ, ← Nat.add_assoc]
    cases e : (ws.getD k 0).testBit j
    · rw [e] at hb
      rw [listTo_no hb, ih]; simp
    · rw [e] at hb
      rw [listTo_yes hb, List.length_append, ih]; simp; omega
theorem list_cnt (ws : List Nat) : ∀ k, (listTo ws (64 * k)).length = cntTo ws k
  | 0 => rfl
  | k + 1 => by
    have := list_word ws k (list_cnt ws k) 64 (by omega)
    rwa [show 64 * (k + 1) = 64 * k + 64 by omega, cntTo]

/-- How many numbers a set has. -/
def manyS (ws : List Nat) : Nat := cntTo ws ws.length

set_option maxRecDepth 100000 in
set_option maxHeartbeats 2000000 in
theorem manyS_calls {v : Value} {ws : List Nat} (w : World) (h : Wds w v ws) (hs : ws.length ≤ 300) :
    Calls Tryd.prog 24 #[v] w fun e W' => e = .returned (I (manyS ws)) ∧ W' = w := by
  have hw := h.word
  obtain ⟨ao, cap, rfl, hv⟩ := h.view
  have HV : Hid (∀ k, k < ws.length → ∃ g off, ao = some ⟨g, off, none⟩ ∧ g < w.heap.size ∧ w.cell? ⟨g, off + k, none⟩ = some (U (ws.getD k 0))) := hv
  have HW : Hid (∀ k, ws.getD k 0 < 18446744073709551616) := hw
  clear hv hw h
  go_enter Tryd.func24, Tryd.ntmps24
  go_wp2
  go_loopw [3, 8] (fun s i wr => ∃ k : Nat, k ≤ ws.length ∧ i = .int .i64 k ∧ s = .int .i64 (cntTo ws k : Nat) ∧ wr = w) (fun s i _ => ws.length - (RowKit.intOf i).toNat)
  case atStart => exact ⟨0, by omega, rfl, rfl, rfl⟩
  case round =>
    obtain ⟨k, hk, rfl, rfl, rfl⟩ := hrel
    by_cases hlt : (k : Int) < (ws.length : Int)
    · obtain ⟨g, off, rfl, hg, hc⟩ := HV.out k (by omega)
      have hx := HW.out k
      have hle := cnt_le ws k
      have hpl := pop_le 64 (ws.getD k 0)
      have HC : Hid (cntTo ws (k + 1) = cntTo ws k + popTo 64 (ws.getD k 0)) := show _ = _ from rfl
      have O := fun w => ones_calls _ hx w
      generalize ws.getD k 0 = x at *
      generalize hpx : popTo 64 x = p at *
      generalize hcx : cntTo ws k = c at *
      clear hcx hpx
      go_wp2_with fail
      refine (O _).mono ?_
      rintro e w1 ⟨rfl, rfl⟩
      go_wp2
      go_roundw
      case rel => exact ⟨k + 1, by omega, by go_num, by rw [HC.out]; go_num, by trivial⟩
      case measure => simp [RowKit.intOf]; omega
    · have e : k = ws.length := by omega
      subst e
      go_wp2
      go_ret
      exact ⟨rfl, rfl⟩

end Go.Proofs.YtbedhpooeabehaaDoor

/-
  Sets of two, whether two meet, whether one is in the other one: set.And, set.Or, set.Less, set.Meet, set.In.
-/
namespace Go.Proofs.YtbedhpooeabehaaDoor
open Go Go.RowKit Go.Shelf

theorem zip_set {op : Nat → Nat → Nat} {g : Bool → Bool → Bool} (hop : ∀ x y, x < 18446744073709551616 → y < 18446744073709551616 → op x y < 18446744073709551616)
    (hf : ∀ x y j, y < 18446744073709551616 → j < 64 → (op x y).testBit j = g (x.testBit j) (y.testBit j)) (h0 : g false false = false) {a b : List Nat} {l : Nat}
    (ha : a.length = l) (hb : b.length = l) (wa : ∀ x ∈ a, x < 18446744073709551616) (wb : ∀ x ∈ b, x < 18446744073709551616) : IsSet l (List.zipWith op a b) (fun j => g (hasW a j) (hasW b j)) := by
  refine ⟨by simp [ha, hb], fun x hx => ?_, fun k => ?_⟩
  · obtain ⟨i, hi, rfl⟩ := List.mem_iff_getElem.1 hx
    rw [List.getElem_zipWith]
    exact hop _ _ (wa _ (List.getElem_mem _)) (wb _ (List.getElem_mem _))
  · unfold hasW
    have hj := Nat.mod_lt k (show 0 < 64 by omega)
    simp only [List.getD_eq_getElem?_getD, List.getElem?_zipWith]
    by_cases hi : k / 64 < l
    · rw [List.getElem?_eq_getElem (by omega : k / 64 < a.length), List.getElem?_eq_getElem (by omega : k / 64 < b.length)]
      exact hf _ _ _ (wb _ (List.getElem_mem _)) hj
    · rw [List.getElem?_eq_none (by omega : a.length ≤ k / 64), List.getElem?_eq_none (by omega : b.length ≤ k / 64)]
      simp [h0]

def andW (x y : Nat) : Nat := x &&& y
def orW (x y : Nat) : Nat := x ||| y
theorem zip_and {a b : List Nat} {l : Nat} (ha : a.length = l) (hb : b.length = l) (wa : ∀ x ∈ a, x < 18446744073709551616) (wb : ∀ x ∈ b, x < 18446744073709551616) : IsSet l (List.zipWith andW a b) (fun j => hasW a j && hasW b j) :=
  zip_set (g := fun x y => x && y) (fun x y hx _ => and_lt x y hx) (fun x y j _ _ => Nat.testBit_and x y j) rfl ha hb wa wb
theorem zip_or {a b : List Nat} {l : Nat} (ha : a.length = l) (hb : b.length = l) (wa : ∀ x ∈ a, x < 18446744073709551616) (wb : ∀ x ∈ b, x < 18446744073709551616) : IsSet l (List.zipWith orW a b) (fun j => hasW a j || hasW b j) :=
  zip_set (g := fun x y => x || y) (fun x y hx hy => bits_or_lt x y hx hy) (fun x y j _ _ => Nat.testBit_or x y j) rfl ha hb wa wb
theorem zip_not {a b : List Nat} {l : Nat} (ha : a.length = l) (hb : b.length = l) (wa : ∀ x ∈ a, x < 18446744073709551616) (wb : ∀ x ∈ b, x < 18446744073709551616) : IsSet l (List.zipWith notW a b) (fun j => hasW a j && !hasW b j) :=
  zip_set (g := fun x y => x && !y) (fun x _ hx _ => and_lt x _ hx) (fun x y j hy hj => notW_bit x y j hy hj) rfl ha hb wa wb

theorem and_calls {va vb : Value} {a b : List Nat} (w : World) (ha : Wds w va a) (hb : Wds w vb b) (n : Int) :
    Calls Tryd.prog 23 #[I n, va, vb] w fun e W' => ∃ v, e = .returned (.tuple #[v, I (errAll n [a, b])]) ∧ SetR W' w.heap.size v (joinW andW n a b) ∧ Below w.heap.size w W' := by
  go_enter Tryd.func23, Tryd.ntmps23
  go_wp2_with fail
  refine (join_and (op := andW) rfl (fun x y hx hy w => and1_calls x y hx hy w) (fun x y hx _ => and_lt x y hx) w ha hb n).mono ?_
  rintro e w1 ⟨v, rfl, hR, hB⟩
  go_wp2
  go_ret2
  exact ⟨_, rfl, hR, hB⟩
theorem or_calls {va vb : Value} {a b : List Nat} (w : World) (ha : Wds w va a) (hb : Wds w vb b) (n : Int) :
    Calls Tryd.prog 13 #[I n, va, vb] w fun e W' => ∃ v, e = .returned (.tuple #[v, I (errAll n [a, b])]) ∧ SetR W' w.heap.size v (joinW orW n a b) ∧ Below w.heap.size w W' := by
  go_enter Tryd.func13, Tryd.ntmps13
  go_wp2_with fail
  refine (join_or (op := orW) rfl (fun x y hx hy w => or1_calls x y hx hy w) (fun x y hx hy => bits_or_lt x y hx hy) w ha hb n).mono ?_
  rintro e w1 ⟨v, rfl, hR, hB⟩
  go_wp2
  go_ret2
  exact ⟨_, rfl, hR, hB⟩
theorem less_calls {va vb : Value} {a b : List Nat} (w : World) (ha : Wds w va a) (hb : Wds w vb b) (n : Int) :
    Calls Tryd.prog 18 #[I n, va, vb] w fun e W' => ∃ v, e = .returned (.tuple #[v, I (errAll n [a, b])]) ∧ SetR W' w.heap.size v (joinW notW n a b) ∧ Below w.heap.size w W' := by
  go_enter Tryd.func18, Tryd.ntmps18
  go_wp2_with fail
  refine (join_less (op := notW) rfl (fun x y hx hy w => less1_calls x y hx hy w) (fun x _ hx _ => and_lt x _ hx) w ha hb n).mono ?_
  rintro e w1 ⟨v, rfl, hR, hB⟩
  go_wp2
  go_ret2
  exact ⟨_, rfl, hR, hB⟩

/-- Whether two meet; whether one is in the other one. -/
def meetSB (n : Int) (a b : List Nat) : Bool := decide (errAll n [a, b] = 0) && (List.range (64 * a.length)).any fun j => hasW a j && hasW b j
def inSB (n : Int) (a b : List Nat) : Bool := decide (errAll n [a, b] = 0) && (List.range (64 * a.length)).all fun j => !hasW a j || hasW b j

theorem many_zero {ws : List Nat} : manyS ws = 0 ↔ ∀ j, hasW ws j = false := by
  unfold manyS
  rw [← list_cnt, List.length_eq_zero_iff]
  constructor
  · intro h j
    by_cases hj : j < 64 * ws.length
    · cases e : hasW ws j
      · rfl
      · have := listTo_mem.2 ⟨hj, e⟩
        rw [h] at this; cases this
    · exact hasW_past (by omega)
  · intro h
    rw [List.eq_nil_iff_forall_not_mem]
    intro m hm
    rw [listTo_mem, h] at hm
    cases hm.2
theorem joinW_len {op : Nat → Nat → Nat} {n : Int} {a b : List Nat} : (joinW op n a b).length ≤ 192 := by
  unfold joinW
  split
  · rename_i h
    obtain ⟨h1, h2, hma, hmb⟩ := err_two h
    have := (mayS_iff.1 hma).1
    simp only [List.length_zipWith]
    omega
  · simp
theorem meet_eq {n : Int} {a b : List Nat} (wa : ∀ x ∈ a, x < 18446744073709551616) (wb : ∀ x ∈ b, x < 18446744073709551616) (h : errAll n [a, b] = 0) : meetSB n a b = decide (0 < manyS (joinW andW n a b)) := by
  obtain ⟨h1, h2, hma, hmb⟩ := err_two h
  have hz := zip_and (mayS_iff.1 hma).1 (mayS_iff.1 hmb).1 wa wb
  unfold meetSB joinW
  rw [if_pos h, decide_eq_true h, Bool.true_and, Bool.eq_iff_iff, decide_eq_true_eq, List.any_eq_true]
  have key := many_zero (ws := List.zipWith andW a b)
  constructor
  · rintro ⟨j, _, hj⟩
    have : manyS (List.zipWith andW a b) ≠ 0 := by
      intro e
      have := key.1 e j
      rw [hz.has, hj] at this; cases this
    omega
  · intro hp
    have : ¬ ∀ j, hasW (List.zipWith andW a b) j = false := fun e => by have := key.2 e; omega
    obtain ⟨j, hj⟩ := Classical.not_forall.1 this
    rw [hz.has] at hj
    have hj : (hasW a j && hasW b j) = true := by simpa using hj
    refine ⟨j, List.mem_range.2 ?_, hj⟩
    apply Nat.lt_of_not_le
    intro hle
    rw [hasW_past hle] at hj; cases hj
theorem in_eq {n : Int} {a b : List Nat} (wa : ∀ x ∈ a, x < 18446744073709551616) (wb : ∀ x ∈ b, x < 18446744073709551616) (h : errAll n [a, b] = 0) : inSB n a b = (((manyS (joinW notW n a b) : Nat) : Int) == 0) := by
  obtain ⟨h1, h2, hma, hmb⟩ := err_two h
  have hz := zip_not (mayS_iff.1 hma).1 (mayS_iff.1 hmb).1 wa wb
  unfold inSB joinW
  rw [if_pos h, decide_eq_true h, Bool.true_and, Bool.eq_iff_iff, beq_iff_eq, List.all_eq_true]
  have key := many_zero (ws := List.zipWith notW a b)
  constructor
  · intro hj
    have : manyS (List.zipWith notW a b) = 0 := key.2 fun j => by
      rw [hz.has]
      by_cases hl : j < 64 * a.length
      · have := hj j (List.mem_range.2 hl)
        cases ha : hasW a j <;> cases hb : hasW b j <;> simp [ha, hb] at this ⊢
      · rw [hasW_past (Nat.not_lt.1 hl)]; rfl
    omega
  · intro hp j _
    have := key.1 (by omega) j
    rw [hz.has] at this
    cases ha : hasW a j <;> cases hb : hasW b j <;> simp [ha, hb] at this ⊢

theorem meet_calls {va vb : Value} {a b : List Nat} (w : World) (ha : Wds w va a) (hb : Wds w vb b) (n : Int) :
    Calls Tryd.prog 14 #[I n, va, vb] w fun e W' => e = .returned (.tuple #[.bool (meetSB n a b), I (errAll n [a, b])]) ∧ Below w.heap.size w W' := by
  obtain ⟨ans, hans⟩ : ∃ ans, ans = meetSB n a b := ⟨_, rfl⟩
  obtain ⟨er, her⟩ : ∃ er, er = errAll n [a, b] := ⟨_, rfl⟩
  have C := and_calls w ha hb n
  have HL := joinW_len (op := andW) (n := n) (a := a) (b := b)
  have HM : Hid (er = 0 → ans = decide (0 < manyS (joinW andW n a b))) := fun e => by rw [hans]; exact meet_eq ha.1 hb.1 (her ▸ e)
  have HF : Hid (er ≠ 0 → ans = false) := fun e => by rw [hans, meetSB, ← her, decide_eq_false e, Bool.false_and]
  rw [← her] at C ⊢
  rw [← hans]
  clear her hans
  generalize joinW andW n a b = zs at *
  go_enter Tryd.func14, Tryd.ntmps14
  go_wp2_with fail
  refine C.mono ?_
  rintro e w1 ⟨v, rfl, hR, hB⟩
  by_cases h0 : er = 0
  · subst h0
    have E := HM
    generalize hm : manyS zs = m at *
    have M := manyS_calls _ hR.wds (by omega)
    rw [hm] at M
    clear hm
    go_wp2_with fail
    refine M.mono ?_
    rintro e w2 ⟨rfl, rfl⟩
    go_wp2
    go_ret2
    exact ⟨by rw [E.out (by trivial)]; rfl, hB⟩
  · have E := HF.out h0
    subst E
    go_wp2
    go_ret2
    exact ⟨rfl, hB⟩

end Go.Proofs.YtbedhpooeabehaaDoor

/-
  Lists of whole numbers in memory that a call made: they stay behind what leaves old memory as it lay; tidehallref02.Ints compares two of them.
-/
namespace Go.Proofs.YtbedhpooeabehaaDoor
open Go Go.RowKit Go.Shelf

attribute [local go_sem] Oper.semAt_some ext_const

/-- The slice v holds the numbers xs, in a block of its own from number base on. -/
def Lst (W : World) (base : Nat) (v : Value) (xs : List Int) : Prop := W.ownsRow base 3 1 v xs.length (xs.map (Value.int .i64))

theorem Lst.nil (W : World) (base : Nat) : Lst W base (.slice none 0 0) [] := World.ownsRow_nil _ _ _ _
theorem Lst.later {W W' : World} {base : Nat} {v : Value} {xs : List Int} (h : Lst W base v xs) (hb : Below W.heap.size W W') : Lst W' base v xs := by
  obtain ⟨h1, h2⟩ := h
  refine ⟨h1, ?_⟩
  rcases h2 with h2 | ⟨g, cap, cur, e, hg, hh, r⟩
  · exact .inl h2
  · exact .inr ⟨g, cap, cur, e, hg, (hb.block g (Array.getElem?_eq_some_iff.1 hh).1).trans hh, r⟩
theorem Lst.weak {W : World} {base base' : Nat} {v : Value} {xs : List Int} (h : Lst W base v xs) (hb : base' ≤ base) : Lst W base' v xs := by
  obtain ⟨h1, h2⟩ := h
  refine ⟨h1, ?_⟩
  rcases h2 with h2 | ⟨g, cap, cur, e, hg, r⟩
  · exact .inl h2
  · exact .inr ⟨g, cap, cur, e, Nat.le_trans hb hg, r⟩

/-- What a walk asks of a list that it reads. -/
theorem Lst.view {W : World} {base : Nat} {v : Value} {xs : List Int} (h : Lst W base v xs) :
    ∃ ao cap, v = .slice ao xs.length cap ∧ ∀ k : Nat, k < xs.length → ∃ g cur, ao = some ⟨g, 0, none⟩ ∧ Blk W g 3 cur ∧ cur[k]? = some (I (xs.getD k 0)) := by
  obtain ⟨h1, h2⟩ := h
  rcases h2 with ⟨rfl, hn⟩ | ⟨g, cap, cur, rfl, hg, hh, hc, hc2, hs, ht⟩
  · exact ⟨none, 0, by rw [hn], fun k hk => by omega⟩
  · refine ⟨_, cap, rfl, fun k hk => ⟨g, cur, rfl, hh, ?_⟩⟩
    have := congrArg (fun l => l[k]?) ht
    simp only [Nat.mul_one, List.getElem?_take_of_lt hk, List.getElem?_map, Array.getElem?_toList] at this
    rw [this, List.getElem?_eq_getElem hk]
    simp [hk]

theorem info_int : (Tryd.prog.info? 3).map (fun i => (i.zero, i.size, i.bytes)) = some (some (.int .i64 0), 1, 8) := by kernel_rfl

/-- 'list = append(list, y)', the list a call's own. -/
theorem wpList_app {ops : Array Oper} {rest : List Oper} {o : Oper} {a : Act} {Q : Exit → Act → World → Prop} {W : World} {base : Nat} {v : Value} {xs : List Int} {y : Int} (hgd : o.guard = none) (s x : Operand)
    (ho : o.op = .call { callee := .builtin .append, args := #[s, x], argTypes := #[49, 49] }) (hs : a.eval s = v) (hx : a.eval x = .slice (some ⟨W.heap.size, 0, none⟩) 1 1)
    (hown : Lst W base v xs) (hl : xs.length ≤ 100000) (hb : base ≤ W.heap.size)
    (h : ∀ v' w', Lst w' base v' (xs ++ [y]) → Below base W w' → wpList Tryd.prog ops Q rest (a.put o.dst v') w') : wpList Tryd.prog ops Q (o :: rest) a (W.alloc (.cells #[.int .i64 y] 3)) := by
  obtain ⟨i0, hi, hz0, hz1, hz2⟩ := info_parts info_int
  refine wpList_append_own (w := W.alloc (.cells #[.int .i64 y] 3)) hgd s x 49 ho base 3 i0 (.int .i64 0) 1 8 Tryd.underlying49 hi hz0 hz1 hz2 rfl (by decide) v xs.length _ hs (hown.alloc _) ⟨W.heap.size, 0, none⟩ 1 1 [.int .i64 y] hx rfl ?_ ?_ ?_ ?_ ?_ ?_
  · intro j u hj
    match j, hj with
    | 0, hj => simp at hj; subst hj; simp [Addr.add]
  · intro u hu; simp at hu; subst hu; rfl
  · unfold maxLen; omega
  · omega
  · simp; omega
  · intro v' w1 hown' hgrow _
    refine h v' w1 ?_ ?_
    · unfold Lst
      rw [List.map_append, List.length_append]
      exact hown'
    · exact ((Below.refl base W).alloc hb _).grown hgrow (by simp; omega) (fun k hk => (hown.lt k hk).1)

/-- 'make([]int, 0, n)'. -/
theorem wpList_mk {ops : Array Oper} {rest : List Oper} {o : Oper} {a : Act} {Q : Exit → Act → World → Prop} {W : World} {base : Nat} (hgd : o.guard = none) (l c : Operand) (ho : o.op = Op.makeSlice 49 l c) (n : Int)
    (hl : a.eval l = .int .i64 0) (hc : a.eval c = .int .i64 n) (h0 : 0 ≤ n) (h1 : n ≤ 100000) (hb : base ≤ W.heap.size)
    (h : ∀ v' w', Lst w' base v' [] → Below base W w' → wpList Tryd.prog ops Q rest (a.put o.dst v') w') : wpList Tryd.prog ops Q (o :: rest) a W := by
  obtain ⟨i0, hi, hz0, hz1, hz2⟩ := info_parts info_int
  refine wpList_make_own W hgd l c 49 ho base 3 i0 (.int .i64 0) 1 Tryd.underlying49 hi hz0 hz1 .i64 .i64 n n.toNat hl hc (by omega) (by rw [hz2]; omega) (by unfold maxLen; omega) hb ?_
  intro w' h1 h2
  exact h _ w' h1 ((Below.refl base W).grown h2 hb (fun k hk => by cases hk))

theorem take_eq_succ {xs ys : List Int} {k : Nat} (hx : k < xs.length) (hy : k < ys.length) (h : xs.take k = ys.take k) (he : xs.getD k 0 = ys.getD k 0) : xs.take (k + 1) = ys.take (k + 1) := by
  rw [List.take_succ_eq_append_getElem hx, List.take_succ_eq_append_getElem hy, h]
  simp [hx, hy] at he
  rw [he]

end Go.Proofs.YtbedhpooeabehaaDoor

/-
  The document's answer of sets of two (tidehallref03): Same, two, joined, And, Or, Less, All, Meets, Meet, Inside, In.
-/
namespace Go.Proofs.YtbedhpooeabehaaDoor
open Go Go.RowKit Go.Shelf

attribute [local go_sem] Oper.semAt_some ext_const

theorem take_eq_succN {xs ys : List Nat} {k : Nat} (hx : k < xs.length) (hy : k < ys.length) (h : xs.take k = ys.take k) (he : xs.getD k 0 = ys.getD k 0) : xs.take (k + 1) = ys.take (k + 1) := by
  rw [List.take_succ_eq_append_getElem hx, List.take_succ_eq_append_getElem hy, h]
  simp [hx, hy] at he
  rw [he]

theorem errAll_first {n : Int} {a b : List Nat} (h : errAll n [a] ≠ 0) : errAll n [a, b] = errAll n [a] := by
  unfold errAll at h ⊢
  cases h1 : okN n <;> cases h2 : maySet n.toNat a <;> cases h3 : maySet n.toNat b <;> simp_all
theorem errAll_second {n : Int} {a b : List Nat} (h : errAll n [a] = 0) : errAll n [a, b] = errAll n [b] := by
  unfold errAll at h ⊢
  cases h1 : okN n <;> cases h2 : maySet n.toNat a <;> cases h3 : maySet n.toNat b <;> simp_all

def pick3 (c1 c2 c3 x y : Bool) : Bool := x && y && c1 || x && !y && c2 || !x && y && c3

theorem upto_yes {p : Nat → Bool} {k : Nat} (h : p k = true) (j : Nat) : (decide (j < k + 1) && p j) = ((decide (j < k) && p j) || decide (j = k)) := by
  by_cases e : j = k
  · subst e; simp [h]
  · have : decide (j < k + 1) = decide (j < k) := by rw [decide_eq_decide]; omega
    rw [this]; simp [e]
theorem upto_no {p : Nat → Bool} {k : Nat} (h : p k = false) (j : Nat) : (decide (j < k + 1) && p j) = (decide (j < k) && p j) := by
  by_cases e : j = k
  · subst e; simp [h]
  · have : decide (j < k + 1) = decide (j < k) := by rw [decide_eq_decide]; omega
    rw [this]

/-- The bit that is put, as the program reckons it. -/
theorem shl_bit (j : Nat) (hj : j < 64) : IntKind.u64.wrap ((2 : Int) ^ j) = 2 ^ j := by
  rw [IntKind.wrap_u64]
  have : 2 ^ j < 2 ^ 64 := Nat.pow_lt_pow_right (by omega) hj
  have e : ((2 : Int) ^ j) = ((2 ^ j : Nat) : Int) := by norm_cast
  rw [e]
  generalize 2 ^ j = y at *
  omega
theorem or_bit (x j : Nat) (hx : x < 18446744073709551616) (hj : j < 64) : bits .or .u64 (x : Int) ((2 : Int) ^ j) = ((x ||| 2 ^ j : Nat) : Int) := by
  have e : ((2 : Int) ^ j) = ((2 ^ j : Nat) : Int) := by norm_cast
  rw [e]
  exact u64_or_nat x (2 ^ j) hx (show 2 ^ j < 2 ^ 64 from Nat.pow_lt_pow_right (by omega) hj)

end Go.Proofs.YtbedhpooeabehaaDoor

/-
  The set of some numbers: set.Of, tidehallref03.From, tidehallref03.Of.
-/
namespace Go.Proofs.YtbedhpooeabehaaDoor
open Go Go.RowKit Go.Shelf

attribute [local go_sem] Oper.semAt_some ext_const

/-- A number is in a list. -/
def inL (l : List Int) (j : Nat) : Bool := l.contains (j : Int)
/-- The numbers of a list are all below n, and n may be. -/
def ofOk (n : Int) (l : List Int) : Bool := okN n && l.all fun x => decide (0 ≤ x ∧ x < n)
def ofErr (n : Int) (l : List Int) : Int := if ofOk n l then 0 else 2
structure OfIs (n : Int) (l : List Int) (ws : List Nat) : Prop where
  yes : ofOk n l = true → IsSet ((n.toNat + 63) / 64) ws (fun j => inL l j)
  no : ofOk n l = false → ws = []
theorem OfIs.ext {n : Int} {l : List Int} {a b : List Nat} (ha : OfIs n l a) (hb : OfIs n l b) : a = b := by
  cases h : ofOk n l
  · rw [ha.no h, hb.no h]
  · exact (ha.yes h).ext (hb.yes h)

theorem take_has {l : List Int} {i k : Nat} (hi : i < l.length) (hk : l.getD i 0 = (k : Int)) (j : Nat) : inL (l.take (i + 1)) j = (inL (l.take i) j || decide (j = k)) := by
  unfold inL
  rw [List.take_succ_eq_append_getElem hi]
  have : l[i] = (k : Int) := by simpa [hi] using hk
  rw [this, Bool.eq_iff_iff]
  have e : ((j : Int) = (k : Int)) ↔ j = k := Int.ofNat_inj
  simp [e]
theorem ofOk_no {n : Int} {l : List Int} {i : Nat} (hi : i < l.length) (h : ¬ (0 ≤ l.getD i 0 ∧ l.getD i 0 < n)) : ofOk n l = false := by
  cases e : ofOk n l
  · rfl
  · unfold ofOk at e
    rw [Bool.and_eq_true] at e
    have := List.all_eq_true.1 e.2 (l[i]) (List.getElem_mem hi)
    simp [hi] at h
    simp at this
    omega
theorem ofOk_yes {n : Nat} {l : List Int} (hn : 1 ≤ n ∧ n ≤ 12288) (h : ∀ i, i < l.length → 0 ≤ l.getD i 0 ∧ l.getD i 0 < n) : ofOk n l = true := by
  unfold ofOk
  rw [show okN n = true by simp [okN]; omega, Bool.true_and, List.all_eq_true]
  intro x hx
  obtain ⟨i, hi, rfl⟩ := List.mem_iff_getElem.1 hx
  have := h i hi
  simp [hi] at this
  simpa using this

set_option maxRecDepth 100000 in
set_option maxHeartbeats 4000000 in
theorem of_calls {v : Value} {l : List Int} (w : World) (hv : Its w v l) (hl : l.length ≤ 65536) (n : Int) :
    Calls Tryd.prog 15 #[I n, v] w fun e W' => ∃ u ws, e = .returned (.tuple #[u, I (ofErr n l)]) ∧ SetR W' w.heap.size u ws ∧ OfIs n l ws ∧ Below w.heap.size w W' := by
  have hmx : Tryd.prog.follows .mixedOrders = true := by kernel_rfl
  obtain ⟨ao, cap, rfl, hv'⟩ := hv.view
  have HV : Hid (∀ k, k < l.length → ∃ g off, ao = some ⟨g, off, none⟩ ∧ g < w.heap.size ∧ w.cell? ⟨g, off + k, none⟩ = some (I (l.getD k 0))) := hv'
  clear hv hv'
  have C : Calls Tryd.prog 25 #[I n, .slice none 0 0] w fun e W' => e = .returned (I (errAll n [])) ∧ W' = w :=
    check_calls (vs := []) (wss := []) w (Sl.nil w) rfl (by simp) (fun i hi => by simp at hi) n
  obtain ⟨er, her⟩ : ∃ er, er = ofErr n l := ⟨_, rfl⟩
  rw [← her]
  have HE : Hid (er = ofErr n l) := her
  clear her
  by_cases hn : 1 ≤ n ∧ n ≤ 12288
  · obtain ⟨m, rfl⟩ : ∃ m : Nat, n = m := ⟨n.toNat, by omega⟩
    rw [errAll_ok (by omega) (fun k hk => by simp at hk)] at C
    have hL : ∀ k, k < m → k / 64 < (m + 63) / 64 := fun k hk => by omega
    have hl2 : (m + 63) / 64 ≤ 192 := by omega
    have WC := fun w => words_calls m w (by omega)
    have HO : Hid (∀ ws, IsSet ((m + 63) / 64) ws (fun j => inL l j) → ofOk m l = true → OfIs m l ws) := fun ws h1 h2 => ⟨fun _ => by rw [Int.toNat_natCast]; exact h1, fun h => by rw [h2] at h; cases h⟩
    have HN : Hid (ofOk m l = false → OfIs m l []) := fun h => ⟨fun h2 => (by rw [h] at h2; cases h2), fun _ => rfl⟩
    obtain ⟨h1, h2⟩ := hn
    obtain ⟨L, hLe⟩ : ∃ L, L = (m + 63) / 64 := ⟨_, rfl⟩
    rw [← hLe] at hL hl2 WC HO
    clear hLe
    have HL : Hid (∀ k, k < m → k / 64 < L) := hL
    clear hL
    go_enter Tryd.func15, Tryd.ntmps15
    go_wp2_with fail
    refine C.mono ?_
    rintro e w1 ⟨rfl, hw⟩
    subst hw
    go_wp2_with fail
    refine (WC _).mono ?_
    rintro e w2 ⟨rfl, hw⟩
    subst hw
    clear WC C
    go_wp2_with (at_make; refine wpList_mkW rfl _ _ rfl L rfl rfl (by omega) ?_; intro w3 hK hT)
    have hJ : IsSet L (List.replicate L 0) (fun j => inL (l.take 0) j) := (IsSet.none L).congr (fun j => by simp [inL])
    obtain ⟨g, hg⟩ : ∃ g, g = w2.heap.size := ⟨_, rfl⟩
    rw [← hg] at hK
    rw [← hg]
    have hg' : w2.heap.size ≤ g := by omega
    clear hg
    go_wp2
    go_loopw [23] (fun i wr => ∃ (k : Nat) (cs : List Nat), k ≤ l.length ∧ i = .int .i64 k ∧ IsSet L cs (fun j => inL (l.take k) j) ∧ Hid (∀ i, i < k → 0 ≤ l.getD i 0 ∧ l.getD i 0 < (m : Int)) ∧ Blk wr g 34 (cs.map U).toArray ∧ Below w2.heap.size w2 wr) (fun i _ => l.length - (RowKit.intOf i).toNat)
    case atStart => exact ⟨0, _, by omega, rfl, hJ, fun i hi => by omega, hK, hT⟩
    case round =>
      clear hJ hK hT
      obtain ⟨k, cs, hk, rfl, hJ, HR, hbk, hB⟩ := hrel
      by_cases hlt : (k : Int) < (l.length : Int)
      · have hkl : k < l.length := by omega
        obtain ⟨gl, ol, rfl, hgl, hcl⟩ := HV.out k hkl
        have hcl := (hB.cell (p := ⟨gl, ol + k, none⟩) hgl).trans hcl
        by_cases hin : 0 ≤ l.getD k 0 ∧ l.getD k 0 < (m : Int)
        · obtain ⟨y, hy⟩ : ∃ y : Nat, l.getD k 0 = (y : Int) := ⟨(l.getD k 0).toNat, by omega⟩
          have HR2 : Hid (∀ i, i < k + 1 → 0 ≤ l.getD i 0 ∧ l.getD i 0 < (m : Int)) := fun i hi => by
            rcases Nat.lt_succ_iff_lt_or_eq.1 hi with hi | rfl
            · exact HR.out i hi
            · exact hin
          rw [hy] at hcl hin
          obtain ⟨hin0, hin1⟩ := hin
          have hyl := HL.out y (by omega)
          have hyi : (y : Int) / 64 < (L : Int) := by omega
          have hlen := hJ.len
          have hword := getD_lt hJ.word (y / 64)
          have e0 : ∀ x : Ext wr, x.wd.cell? ⟨g, y / 64, none⟩ = some (U (cs.getD (y / 64) 0)) := fun x => blk_get (hbk.later x.le) (by rw [hlen]; exact hyl)
          have f0 : ∀ x : Ext wr, x.wd.frozen? ⟨g, y / 64, none⟩ = false := fun x => (hbk.later x.le).frozen _
          have HBK : Hid (∀ x : Ext wr, Blk (x.wd.setCell ⟨g, y / 64, none⟩ (U (cs.getD (y / 64) 0 ||| 2 ^ (y % 64)))) g 34 ((putW cs y).map U).toArray) := fun x => blk_put (hbk.later x.le) (y / 64) _
          have HPU : Hid (IsSet L (putW cs y) (fun j => inL (l.take (k + 1)) j)) := hJ.put hyl (take_has hkl hy)
          have hsb := shl_bit (y % 64) (Nat.mod_lt y (by omega))
          have hlor := or_bit _ (y % 64) hword (Nat.mod_lt y (by omega))
          clear hJ hbk hlen hy
          generalize cs.getD (y / 64) 0 ||| 2 ^ (y % 64) = z at *
          generalize cs.getD (y / 64) 0 = x0 at *
          go_wp2
          refine wp_region_tail 10 hmx (by kernel_rfl) ?_
          simp only [List.take_succ_cons, List.take_zero, List.drop_succ_cons, List.drop_zero]
          repeat (go_big_quiet_step (fail))
          refine wpQuiet_nil ?_
          intro x
          have c1 := e0 x
          have f1 := f0 x
          gi_wp2
          try rw [hsb]
          try rw [hlor]
          have hK := HBK.out x
          have hBX := (below_ext hB x).setCell (p := ⟨g, y / 64, none⟩) hg' (U z)
          generalize x.wd.setCell ⟨g, y / 64, none⟩ (U z) = W5 at *
          clear c1 f1 e0 f0
          go_wp2
          go_roundw
          case rel => exact ⟨k + 1, _, by omega, by go_num, HPU.out, HR2, hK, hBX⟩
          case measure => simp [RowKit.intOf]; omega
        · have hno := ofOk_no hkl hin
          have E : er = 2 := by rw [HE.out, ofErr, hno]; rfl
          subst E
          have HNN := HN.out hno
          clear hJ hbk hno
          generalize l.getD k 0 = y at *
          by_cases hy0 : y < 0
          · go_wp2
            go_ret2
            first | exact ⟨_, rfl, _, .inr ⟨rfl, rfl⟩, HNN, hB⟩ | exact ⟨_, _, rfl, .inr ⟨rfl, rfl⟩, HNN, hB⟩
          · have hy1 : (m : Int) ≤ y := by omega
            clear hin
            go_wp2
            go_ret2
            first | exact ⟨_, rfl, _, .inr ⟨rfl, rfl⟩, HNN, hB⟩ | exact ⟨_, _, rfl, .inr ⟨rfl, rfl⟩, HNN, hB⟩
      · have e : k = l.length := by omega
        subst e
        have hok := ofOk_yes ⟨by omega, by omega⟩ HR.out
        have E : er = 0 := by rw [HE.out, ofErr, hok]; rfl
        subst E
        rw [List.take_length] at hJ
        have hO := HO.out cs hJ hok
        have hR : SetR wr w2.heap.size (.slice (some ⟨g, 0, none⟩) L L) cs := .inl ⟨hJ.word, g, by rw [hJ.len], hg', hbk⟩
        clear hbk hJ hok
        go_wp2
        go_ret2
        first | exact ⟨_, rfl, _, hR, hO, hB⟩ | exact ⟨_, _, rfl, hR, hO, hB⟩
  · rw [errAll_bad hn] at C
    have hno : ofOk n l = false := by unfold ofOk okN; rw [decide_eq_false hn]; rfl
    have E : er = 2 := by rw [HE.out, ofErr, hno]; rfl
    subst E
    have HNN : OfIs n l [] := ⟨fun h2 => (by rw [hno] at h2; cases h2), fun _ => rfl⟩
    clear hno hn
    go_enter Tryd.func15, Tryd.ntmps15
    go_wp2_with fail
    refine C.mono ?_
    rintro e w1 ⟨rfl, hw⟩
    subst hw
    go_wp2
    go_ret2
    first | exact ⟨_, rfl, _, .inr ⟨rfl, rfl⟩, HNN, Below.refl _ _⟩ | exact ⟨_, _, rfl, .inr ⟨rfl, rfl⟩, HNN, Below.refl _ _⟩

end Go.Proofs.YtbedhpooeabehaaDoor

/-
  The numbers of a set, rising, as the document lists them: tidehallref03.All.
-/
namespace Go.Proofs.YtbedhpooeabehaaDoor
open Go Go.RowKit Go.Shelf

theorem Lst.its {W : World} {base : Nat} {v : Value} {xs : List Int} (h : Lst W base v xs) : Its W v xs := by
  obtain ⟨ao, cap, rfl, hv⟩ := h.view
  refine ⟨ao, cap, by simp, fun k hk => ?_⟩
  rw [List.length_map] at hk
  obtain ⟨g, cur, e, hb, hc⟩ := hv k hk
  exact ⟨g, 0, e, hb.lt, by rw [Nat.zero_add, hb.cell, hc]; simp [hk]⟩

/-- Numbers, as a list in memory has them. -/
def ofN (l : List Nat) : List Int := l.map fun m : Nat => (m : Int)
/-- A set's numbers, rising. -/
def numsW (ws : List Nat) : List Nat := listTo ws (64 * ws.length)
theorem ofN_len (l : List Nat) : (ofN l).length = l.length := by simp [ofN]
theorem ofN_app (l : List Nat) (m : Nat) : ofN (l ++ [m]) = ofN l ++ [(m : Int)] := by simp [ofN]
theorem ofN_get (l : List Nat) (k : Nat) : (ofN l).getD k 0 = ((l.getD k 0 : Nat) : Int) := by
  simp only [ofN, List.getD_eq_getElem?_getD, List.getElem?_map]
  cases l[k]? <;> rfl

end Go.Proofs.YtbedhpooeabehaaDoor

/-
  The numbers of one word, the least first: math/bits.TrailingZeros64, set.addNumbers.
-/
namespace Go.Proofs.YtbedhpooeabehaaDoor
open Go Go.RowKit Go.Shelf

/-- math/bits' table lies in its variable. -/
def TabOk (W : World) : Prop := ∀ j, j < 64 → W.cell? ⟨0, j, none⟩ = some (.int .u8 ((Lib.deBruijn64tab.getD j 0 : Nat) : Int))
theorem TabOk.lt {W : World} (h : TabOk W) : 0 < W.heap.size := by
  have := h 0 (by omega)
  unfold World.cell? at this
  split at this
  · rename_i hs
    exact (Array.getElem?_eq_some_iff.1 hs).1
  · cases this
theorem TabOk.below {n : Nat} {W W' : World} (h : TabOk W) (hb : Below n W W') (hn : 0 < n) : TabOk W' := fun j hj => (hb.cell (p := ⟨0, j, none⟩) hn).trans (h j hj)
theorem TabOk.later {W W' : World} (h : TabOk W) (hb : Below W.heap.size W W') : TabOk W' := h.below hb h.lt

/-- The lowest bit, as the program finds it. -/
theorem low_key (x k : Nat) (hx : x < 18446744073709551616) (h0 : x ≠ 0) (hk : x &&& (18446744073709551616 - x) = 2 ^ k) :
    IntKind.u64.wrap (bits BinOp.and IntKind.u64 (x : Int) (IntKind.u64.wrap (-(x : Int))) * 285870213051353865) / 288230376151711744 = ((2 ^ k * 285870213051353865 % 18446744073709551616 / 288230376151711744 : Nat) : Int) := by
  have e : IntKind.u64.wrap (-(x : Int)) = ((18446744073709551616 - x : Nat) : Int) := by rw [IntKind.wrap_u64]; omega
  rw [e, u64_and_nat x _ hx (by omega), hk, IntKind.wrap_u64]
  generalize 2 ^ k = y
  omega

set_option maxRecDepth 100000 in
set_option maxHeartbeats 2000000 in
theorem tz_core (x k i : Nat) (w : World) (hx0 : ((x : Int) == 0) = false)
    (key : IntKind.u64.wrap (bits BinOp.and IntKind.u64 (x : Int) (IntKind.u64.wrap (-(x : Int))) * 285870213051353865) / 288230376151711744 = (i : Int)) (hi : i < 64) (hk : k < 64)
    (hc : w.cell? ⟨0, i, none⟩ = some (.int .u8 (k : Int))) : Calls Tryd.prog 58 #[U x] w fun e W' => e = .returned (I k) ∧ W' = w := by
  go_enter Tryd.func58, Tryd.ntmps58
  go_wp2_with (simp only [key])
  go_ret
  exact ⟨rfl, rfl⟩
theorem tz_calls (x : Nat) (hx : x < 18446744073709551616) (h0 : x ≠ 0) (w : World) (hT : TabOk w) :
    Calls Tryd.prog 58 #[U x] w fun e W' => e = .returned (I (Lib.ctz 64 x : Nat)) ∧ W' = w := by
  obtain ⟨hl, hk⟩ := Lib.lowest_bit 64 x h0 hx
  obtain ⟨hi, ht⟩ := Lib.deBruijn64_at _ hk
  have hc := hT _ hi
  rw [ht] at hc
  exact tz_core x _ _ w (by simpa using h0) (low_key x _ hx h0 hl) hi hk hc

/-- The bits of a word, rising. -/
def bl (x : Nat) : List Nat := (List.range 64).filter fun j => x.testBit j
theorem bl_zero : bl 0 = [] := by simp [bl]
theorem odd_bit (m i : Nat) : (2 * m + 1).testBit (i + 1) = (2 * m).testBit (i + 1) := by
  rw [Nat.testBit_succ, Nat.testBit_succ, show (2 * m + 1) / 2 = m by omega, show 2 * m / 2 = m by omega]
theorem bl_step {x : Nat} (hx : x < 18446744073709551616) (h0 : x ≠ 0) : bl x = Lib.ctz 64 x :: bl (x &&& (x - 1)) ∧ x &&& (x - 1) < x := by
  refine ⟨?_, Nat.lt_of_le_of_lt Nat.and_le_right (by omega)⟩
  obtain ⟨m, hm, hk⟩ := Lib.ctzFrom_spec 64 x (by omega) hx
  have e : Lib.ctz 64 x = Lib.ctzFrom 64 x := by simp [Lib.ctz, h0]
  rw [e]
  generalize Lib.ctzFrom 64 x = k at *
  have hp := Nat.two_pow_pos k
  have ex : ∀ j, x.testBit j = if j < k then false else (2 * m + 1).testBit (j - k) := fun j => by
    rw [hm, show 2 ^ k * (2 * m + 1) = 2 ^ k * (2 * m + 1) + 0 from rfl, Nat.testBit_two_pow_mul_add _ hp]
    simp
  have ey : ∀ j, (x - 1).testBit j = if j < k then true else (2 * m).testBit (j - k) := fun j => by
    have e1 : x - 1 = 2 ^ k * (2 * m) + (2 ^ k - 1) := by rw [hm, Nat.mul_add, Nat.mul_one]; omega
    rw [e1, Nat.testBit_two_pow_mul_add _ (by omega)]
    by_cases hj : j < k
    · simp [hj]
    · simp [hj]
  have ez : ∀ j, (x &&& (x - 1)).testBit j = (x.testBit j && decide (j ≠ k)) := fun j => by
    rw [Nat.testBit_and, ex, ey]
    by_cases hj : j < k
    · simp [hj]
    · by_cases hjk : j = k
      · subst hjk; simp
      · obtain ⟨i, hi⟩ : ∃ i, j - k = i + 1 := ⟨j - k - 1, by omega⟩
        simp only [if_neg hj, hi, odd_bit, Bool.and_self]
        simp [hjk]
  obtain ⟨r, hr⟩ : ∃ r, 64 = k + (r + 1) := ⟨64 - k - 1, by omega⟩
  have hrange : List.range 64 = List.range k ++ k :: (List.range r).map (fun j => k + (j + 1)) := by
    rw [hr, List.range_add, List.range_succ_eq_map]
    simp [List.map_map, Function.comp_def]
  have f1 : (List.range k).filter (fun j => x.testBit j) = [] := by
    rw [List.filter_eq_nil_iff]
    intro j hj
    rw [ex, if_pos (List.mem_range.1 hj)]
    simp
  have f2 : (List.range k).filter (fun j => (x &&& (x - 1)).testBit j) = [] := by
    rw [List.filter_eq_nil_iff]
    intro j hj
    rw [ez, ex, if_pos (List.mem_range.1 hj)]
    simp
  have f3 : x.testBit k = true := by rw [ex]; simp
  have f4 : (x &&& (x - 1)).testBit k = false := by rw [ez]; simp
  unfold bl
  rw [hrange, List.filter_append, List.filter_append, f1, f2, List.filter_cons, List.filter_cons, f3, f4]
  simp only [if_true, List.nil_append, Bool.false_eq_true, if_false]
  congr 1
  apply List.filter_congr
  intro j hj
  obtain ⟨i, _, rfl⟩ := List.mem_map.1 hj
  rw [ez]
  simp
theorem bl_len (x : Nat) : (bl x).length ≤ 64 := by
  have := List.length_filter_le (fun j => x.testBit j) (List.range 64)
  simpa [bl] using this
/-- .. as numbers from bs on. -/
def sh (bs : Nat) (x : Nat) : List Int := (bl x).map fun j : Nat => ((bs + j : Nat) : Int)
theorem sh_zero (bs : Nat) : sh bs 0 = [] := by simp [sh, bl_zero]
theorem sh_step {x : Nat} (bs : Nat) (hx : x < 18446744073709551616) (h0 : x ≠ 0) : sh bs x = ((bs + Lib.ctz 64 x : Nat) : Int) :: sh bs (x &&& (x - 1)) := by
  unfold sh
  rw [(bl_step hx h0).1]
  rfl
theorem sh_len (bs x : Nat) : (sh bs x).length ≤ 64 := by simpa [sh] using bl_len x
theorem list_sh (ws : List Nat) (k : Nat) : ofN (listTo ws (64 * (k + 1))) = ofN (listTo ws (64 * k)) ++ sh (64 * k) (ws.getD k 0) := by
  unfold listTo ofN sh bl
  rw [show 64 * (k + 1) = 64 * k + 64 by omega, List.range_add, List.filter_append, List.map_append, List.filter_map, List.map_map]
  congr 1
  have : (List.range 64).filter ((fun m => hasW ws m) ∘ fun x => 64 * k + x) = (List.range 64).filter fun j => (ws.getD k 0).testBit j := by
    apply List.filter_congr
    intro j hj
    exact hasW_at ws k j (List.mem_range.1 hj)
  rw [this]
  rfl

/-- One bit less, as the program reckons it. -/
theorem less_low (x : Nat) (hx : x < 18446744073709551616) (h0 : x ≠ 0) : bits .and .u64 (x : Int) ((x : Int) - 1) = ((x &&& (x - 1) : Nat) : Int) := by
  have e : (x : Int) - 1 = ((x - 1 : Nat) : Int) := by omega
  rw [e, u64_and_nat x _ hx (by omega)]

set_option maxRecDepth 100000 in
set_option maxHeartbeats 4000000 in
theorem add_calls {xs : List Int} {v : Value} {base : Nat} (bs x : Nat) (w : World) (hL : Lst w base v xs) (hT : TabOk w) (hb : base ≤ w.heap.size) (hb0 : 0 < base) (hl : xs.length ≤ 50000) (hbs : bs ≤ 100000) (hx : x < 18446744073709551616) :
    Calls Tryd.prog 45 #[v, I bs, U x] w fun e W' => ∃ u, e = .returned u ∧ Lst W' base u (xs ++ sh bs x) ∧ Below base w W' := by
  obtain ⟨tg, htg⟩ : ∃ tg, tg = xs ++ sh bs x := ⟨_, rfl⟩
  rw [← htg]
  have HG : Hid (tg = xs ++ sh bs x) := htg
  have htl : tg.length ≤ 50064 := by rw [htg, List.length_append]; have := sh_len bs x; omega
  clear htg
  go_enter Tryd.func45, Tryd.ntmps45
  go_wp2
  refine wp_scope_jumps 0 (fun a' w' => ∃ (v' : Value) (x' : Nat) (xs' : List Int) (u7 u8 u9 u10 u11 u12 u13 u14 u15 u16 u17 u18 u19 u20 : Value), a' = { tmps := #[v', I bs, U x', undef, undef, undef, .slice none 0 0, u7, u8, u9, u10, u11, u12, u13, u14, u15, u16, u17, u18, u19, u20], defers := [] } ∧ Lst w' base v' xs' ∧ Hid (xs' ++ sh bs x' = tg) ∧ x' < 18446744073709551616 ∧ Below base w w') (fun a' _ => (RowKit.intOf (a'.tmps.getD 2 undef)).toNat) rfl ?_ ?_
  · skip
    by_cases h0 : x = 0
    · subst h0
      rw [sh_zero, List.append_nil] at HG
      go_wp2
      go_step3
      go_wp2
      simp only [Exit.jump]
      go_ret
      exact ⟨_, rfl, by rw [HG.out]; exact hL, Below.refl _ _⟩
    · have hz : ¬ ((x : Int) = 0) := by omega
      have TZ := tz_calls x hx h0 _ hT
      have hkl := (Lib.lowest_bit 64 x h0 hx).2
      have HS : Hid (sh bs x = ((bs + Lib.ctz 64 x : Nat) : Int) :: sh bs (x &&& (x - 1))) := sh_step bs hx h0
      have hlt := (bl_step hx h0).2
      have HL := less_low x hx h0
      have hbz : base ≤ w.heap.size := hb
      generalize Lib.ctz 64 x = k at *
      generalize hy : x &&& (x - 1) = y at *
      clear hy
      go_wp2_with fail
      go_step3
      go_wp2_with fail
      refine TZ.mono ?_
      rintro e w1 ⟨rfl, hw⟩
      subst hw
      go_wp2_with (at_builtin; refine wpList_app rfl _ _ rfl rfl rfl hL (by omega) hbz ?_; intro v3 w3 hL3 hT3)
      go_wp2
      go_step3
      try rw [HL]
      refine ⟨rfl, v3, y, xs ++ [(bs : Int) + (k : Int)], _, _, _, _, _, _, _, _, _, _, _, _, _, _, rfl, hL3, ?_, by omega, hT3⟩
      show _ = _
      rw [HG.out, HS.out, List.append_assoc]
      simp
  · rintro a' w' ⟨v', x', xs', u7, u8, u9, u10, u11, u12, u13, u14, u15, u16, u17, u18, u19, u20, rfl, hL, HE, hx', hB⟩
    have hxl : xs'.length ≤ 50064 := by have := congrArg List.length HE.out; rw [List.length_append] at this; omega
    by_cases h0 : x' = 0
    · subst h0
      have E : xs' = tg := by have := HE.out; rwa [sh_zero, List.append_nil] at this
      subst E
      go_wp2
      simp only [Exit.jump]
      go_ret
      exact ⟨_, rfl, hL, hB⟩
    · have hz : ¬ ((x' : Int) = 0) := by omega
      have TZ := tz_calls x' hx' h0 _ (hT.below hB hb0)
      have hkl := (Lib.lowest_bit 64 x' h0 hx').2
      have HS : Hid (sh bs x' = ((bs + Lib.ctz 64 x' : Nat) : Int) :: sh bs (x' &&& (x' - 1))) := sh_step bs hx' h0
      have hlt := (bl_step hx' h0).2
      have HL := less_low x' hx' h0
      have hbz : base ≤ w'.heap.size := Nat.le_trans hb hB.size
      generalize Lib.ctz 64 x' = k at *
      generalize hy : x' &&& (x' - 1) = y at *
      clear hy
      go_wp2_with fail
      refine TZ.mono ?_
      rintro e w1 ⟨rfl, hw⟩
      subst hw
      go_wp2_with (at_builtin; refine wpList_app rfl _ _ rfl rfl rfl hL (by omega) hbz ?_; intro v3 w3 hL3 hT3)
      go_wp2
      go_step3
      try rw [HL]
      refine ⟨rfl, ⟨v3, y, xs' ++ [(bs : Int) + (k : Int)], _, _, _, _, _, _, _, _, _, _, _, _, _, _, rfl, hL3, ?_, by omega, hB.trans hT3⟩, ?_⟩
      · show _ = _
        rw [← HE.out, HS.out, List.append_assoc]
        simp
      · simp [RowKit.intOf]
        omega

end Go.Proofs.YtbedhpooeabehaaDoor
