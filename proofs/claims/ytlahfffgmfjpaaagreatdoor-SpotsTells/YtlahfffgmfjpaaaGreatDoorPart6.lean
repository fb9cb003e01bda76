/-
  A box's midplanes, rising, are its coordinates gone through axis by axis, the first innermost.
-/
import Derived.Test.YtlahfffgmfjpaaaGreatDoorPart4
import Derived.Test.YtlahfffgmfjpaaaGreatDoorPart5
import Derived.Test.YtlahfffgmfjpaaaGreatDoorPart2
import Derived.Test.YtlahfffgmfjpaaaGreatDoorPart1
import Derived.Test.YtlahfffgmfjpaaaGreatDoorPart3
import Derived.Test.YtlahfffgmfjpaaaGreatDoorProg
import Derived.OwnWalk
import Derived.Laws.BitsAllLaws
import Derived.Laws.ShiftsVarLaws
namespace Go.Proofs.YtlahfffgmfjpaaaGreatDoor

theorem range_mul (n m : Nat) : List.range (n * m) = (List.range m).flatMap fun q => (List.range n).map fun r => r + n * q := by
  induction m with
  | zero => simp
  | succ m ih =>
    rw [Nat.mul_succ, List.range_add, ih, List.range_succ, List.flatMap_append]
    congr 1
    simp [Nat.add_comm]
theorem flatMap_if {α β : Type} (p : α → Bool) (f : α → List β) : ∀ l : List α, (l.flatMap fun a => if p a then f a else []) = (l.filter p).flatMap f
  | [] => rfl
  | a :: l => by
    have ih := flatMap_if p f l
    cases h : p a <;> simp [h, ih]
theorem flatMap_same {α β : Type} {f g : α → List β} : ∀ {l : List α}, (∀ a ∈ l, f a = g a) → l.flatMap f = l.flatMap g
  | [], _ => rfl
  | a :: l, h => by
    simp only [List.flatMap_cons]
    rw [h a (by simp), flatMap_same (fun b hb => h b (by simp [hb]))]

theorem nodesB_flat {d0 d1 d2 : Int} {b : Bx} (hm : mayD d0 d1 d2) :
    (coordsS d2 b.z b.c).flatMap (fun z => (coordsS d1 b.y b.b).flatMap fun y => (coordsS d0 b.x b.a).map fun x => numD d0 d1 x y z) = nodesB d0 d1 d2 b := by
  have hm' := hm
  obtain ⟨h0, h1, h2⟩ := hm'
  unfold okD at h0 h1 h2
  obtain ⟨D0, rfl⟩ := Int.eq_ofNat_of_zero_le (show 0 ≤ d0 by omega)
  obtain ⟨D1, rfl⟩ := Int.eq_ofNat_of_zero_le (show 0 ≤ d1 by omega)
  obtain ⟨D2, rfl⟩ := Int.eq_ofNat_of_zero_le (show 0 ≤ d2 by omega)
  have hN : ((D0 : Int) * D1 * D2).toNat = D0 * (D1 * D2) := by
    have h : ((D0 : Int) * D1 * D2) = ((D0 * (D1 * D2) : Nat) : Int) := by push_cast; rw [Int.mul_assoc]
    rw [h, Int.toNat_natCast]
  have hR : List.range (D0 * (D1 * D2)) = (List.range D2).flatMap fun z => (List.range D1).flatMap fun y => (List.range D0).map fun x => x + D0 * (y + D1 * z) := by
    rw [range_mul D0, range_mul D1, List.flatMap_assoc]
    simp only [List.flatMap_map]
  unfold nodesB nodesTo
  rw [hN, hR, List.filter_flatMap, List.map_flatMap]
  unfold coordsS coordsTo
  simp only [Int.toNat_natCast]
  rw [List.flatMap_map, ← flatMap_if]
  refine flatMap_same fun z hz => ?_
  have hz := List.mem_range.1 hz
  rw [List.filter_flatMap, List.map_flatMap]
  cases hcz : hasS D2 b.z b.c z
  · simp only [Bool.false_eq_true, if_false]
    symm
    rw [List.flatMap_eq_nil_iff]
    intro y hy
    have hy := List.mem_range.1 hy
    rw [List.map_eq_nil_iff, List.filter_eq_nil_iff]
    intro m hmm
    obtain ⟨x, hx, rfl⟩ := List.mem_map.1 hmm
    have hx := List.mem_range.1 hx
    have := hasB_num (b := b) hm (p := x) (q := y) (r := z) ⟨by omega, by omega, by omega⟩
    rw [show (((x + D0 * (y + D1 * z) : Nat)) : Int) = numD D0 D1 x y z by unfold numD; push_cast; rfl, this, hcz]
    simp
  · simp only [if_true]
    rw [List.flatMap_map, ← flatMap_if]
    refine flatMap_same fun y hy => ?_
    have hy := List.mem_range.1 hy
    have hnum : ∀ x, x < D0 → hasB D0 D1 D2 b ((x + D0 * (y + D1 * z) : Nat) : Int) = (hasS D0 b.x b.a x && hasS D1 b.y b.b y) := by
      intro x hx
      have := hasB_num (b := b) hm (p := x) (q := y) (r := z) ⟨by omega, by omega, by omega⟩
      rw [show (((x + D0 * (y + D1 * z) : Nat)) : Int) = numD D0 D1 x y z by unfold numD; push_cast; rfl, this, hcz, Bool.and_true]
    rw [List.filter_map, List.map_map, List.map_map]
    cases hcy : hasS D1 b.y b.b y
    · simp only [Bool.false_eq_true, if_false]
      symm
      rw [List.map_eq_nil_iff, List.filter_eq_nil_iff]
      intro x hx
      rw [Function.comp, hnum x (List.mem_range.1 hx), hcy]
      simp
    · simp only [if_true]
      rw [show (List.range D0).filter ((fun m : Nat => hasB D0 D1 D2 b m) ∘ fun x => x + D0 * (y + D1 * z)) = (List.range D0).filter (fun j : Nat => hasS D0 b.x b.a j) from List.filter_congr fun x hx => by
        rw [Function.comp, hnum x (List.mem_range.1 hx), hcy, Bool.and_true]]
      refine List.map_congr_left fun x _ => ?_
      simp [Function.comp, numD]

theorem coordsS_get {r b s : Int} (hr : 0 ≤ r) {k : Nat} (hk : k < (coordsS r b s).length) : 0 ≤ (coordsS r b s).getD k 0 ∧ (coordsS r b s).getD k 0 < r := by
  have hmem : (coordsS r b s).getD k 0 ∈ coordsS r b s := by
    rw [show (coordsS r b s).getD k 0 = (coordsS r b s)[k] by simp [hk]]; exact List.getElem_mem hk
  generalize (coordsS r b s).getD k 0 = x at hmem
  simp only [coordsS, coordsTo, List.mem_map, List.mem_filter, List.mem_range] at hmem
  obtain ⟨j, ⟨h1, _⟩, rfl⟩ := hmem
  omega
theorem coordsS_len {r b s : Int} (hr : r ≤ 16) : (coordsS r b s).length ≤ 16 := by
  have := coordsTo_len r b s r.toNat
  unfold coordsS
  omega

section
variable (d0 d1 : Int) (X Y Z T : List Int)
def rowG (z y : Int) : List Int := X.map fun x => numD d0 d1 x y z
def rowF (z : Int) : List Int := Y.flatMap (rowG d0 d1 X z)
/-- What is gathered, and what is still to come: in the outer loop, the middle one, the inner one. -/
def eqO (L : List Int) (i : Nat) : Prop := L ++ (Z.drop i).flatMap (rowF d0 d1 X Y) = T
def eqM (L : List Int) (i j : Nat) : Prop := L ++ ((Y.drop j).flatMap (rowG d0 d1 X (Z.getD i 0)) ++ (Z.drop (i + 1)).flatMap (rowF d0 d1 X Y)) = T
def eqI (L : List Int) (i j k : Nat) : Prop :=
  L ++ ((X.drop k).map (fun x => numD d0 d1 x (Y.getD j 0) (Z.getD i 0)) ++ ((Y.drop (j + 1)).flatMap (rowG d0 d1 X (Z.getD i 0)) ++ (Z.drop (i + 1)).flatMap (rowF d0 d1 X Y))) = T
theorem drop_at {l : List Int} {i : Nat} (h : i < l.length) : l.drop i = l.getD i 0 :: l.drop (i + 1) := by
  rw [List.drop_eq_getElem_cons h]; simp [h]
variable {d0 d1 X Y Z T} {L : List Int} {i j k : Nat}
theorem eqO_in (hi : i < Z.length) (h : eqO d0 d1 X Y Z T L i) : eqM d0 d1 X Y Z T L i 0 := by
  unfold eqO at h; unfold eqM
  rw [drop_at hi, List.flatMap_cons] at h
  rw [List.drop_zero]; exact h
theorem eqM_in (hj : j < Y.length) (h : eqM d0 d1 X Y Z T L i j) : eqI d0 d1 X Y Z T L i j 0 := by
  unfold eqM at h; unfold eqI
  rw [drop_at hj, List.flatMap_cons, List.append_assoc] at h
  rw [List.drop_zero]; exact h
theorem eqI_step (hk : k < X.length) (h : eqI d0 d1 X Y Z T L i j k) : eqI d0 d1 X Y Z T (L ++ [numD d0 d1 (X.getD k 0) (Y.getD j 0) (Z.getD i 0)]) i j (k + 1) := by
  unfold eqI at h ⊢
  rw [drop_at hk, List.map_cons] at h
  rw [← h]
  simp
theorem eqI_out (hk : X.length ≤ k) (h : eqI d0 d1 X Y Z T L i j k) : eqM d0 d1 X Y Z T L i (j + 1) := by
  unfold eqI at h; unfold eqM
  rw [List.drop_of_length_le hk] at h; exact h
theorem eqM_out (hj : Y.length ≤ j) (h : eqM d0 d1 X Y Z T L i j) : eqO d0 d1 X Y Z T L (i + 1) := by
  unfold eqM at h; unfold eqO
  rw [List.drop_of_length_le hj] at h; exact h
theorem eqO_out (hi : Z.length ≤ i) (h : eqO d0 d1 X Y Z T L i) : L = T := by
  unfold eqO at h
  rw [List.drop_of_length_le hi] at h; simpa using h
theorem eqI_len (h : eqI d0 d1 X Y Z T L i j k) : L.length ≤ T.length := by
  have := congrArg List.length h
  simp only [List.length_append] at this
  omega
end

end Go.Proofs.YtlahfffgmfjpaaaGreatDoor

/-
  Plain arithmetic of places: how many midplanes a box has, and how many cables a place takes. No program is named here.
-/
namespace Go.Proofs.YtlahfffgmfjpaaaGreatDoor
open Go.RowKit

theorem flatP_len {α β : Type} {f : α → List β} {c : Nat} : ∀ {l : List α}, (∀ a ∈ l, (f a).length = c) → (l.flatMap f).length = l.length * c
  | [], _ => by simp
  | a :: l, h => by
    rw [List.flatMap_cons, List.length_append, h a (by simp), flatP_len (fun b hb => h b (by simp [hb])), List.length_cons, Nat.add_mul, Nat.one_mul, Nat.add_comm]

theorem coords_count {r b s : Int} (hr : r ≤ 16) (hb : 0 ≤ b ∧ b < r) (hs : 0 ≤ s ∧ s ≤ r) : (coordsS r b s).length = s.toNat := by
  obtain ⟨R, rfl⟩ := Int.eq_ofNat_of_zero_le (show 0 ≤ r by omega)
  obtain ⟨B, rfl⟩ := Int.eq_ofNat_of_zero_le hb.1
  obtain ⟨S, rfl⟩ := Int.eq_ofNat_of_zero_le hs.1
  unfold coordsS coordsTo
  rw [List.length_map, Int.toNat_natCast, Int.toNat_natCast]
  exact side_count R (by omega) B (by omega) S (by omega)

/-- A side that may be, or has nothing. -/
def sideOk (r b s : Int) : Prop := (0 ≤ b ∧ b < r) ∧ (0 ≤ s ∧ s ≤ r)
theorem nodes_count {d0 d1 d2 : Int} {b : Bx} (h : mayD d0 d1 d2) (hs : ∀ k, sideOk (dimAt d0 d1 d2 k) (bAt b k) (sAt b k)) : ((nodesB d0 d1 d2 b).length : Int) = b.a * b.b * b.c := by
  have h' := h
  obtain ⟨⟨_, u0⟩, ⟨_, u1⟩, _, u2⟩ := h'
  have s0 := hs 0
  have s1 := hs 1
  have s2 := hs 2
  have c0 := coords_count (r := d0) (b := b.x) (s := b.a) u0 s0.1 s0.2
  have c1 := coords_count (r := d1) (b := b.y) (s := b.b) u1 s1.1 s1.2
  have c2 := coords_count (r := d2) (b := b.z) (s := b.c) u2 s2.1 s2.2
  rw [← nodesB_flat h, flatP_len (c := (coordsS d1 b.y b.b).length * (coordsS d0 b.x b.a).length) (fun z _ => flatP_len (fun y _ => by rw [List.length_map])), c0, c1, c2]
  have e0 : (b.a.toNat : Int) = b.a := Int.toNat_of_nonneg s0.2.1
  have e1 : (b.b.toNat : Int) = b.b := Int.toNat_of_nonneg s1.2.1
  have e2 : (b.c.toNat : Int) = b.c := Int.toNat_of_nonneg s2.2.1
  rw [Int.natCast_mul, Int.natCast_mul, e0, e1, e2, Int.mul_comm b.c, Int.mul_comm b.b]

/-- The box of those midplanes from which the cables go that a place takes along an axis. -/
def boxK (d0 d1 d2 : Int) (b : Bx) (t0 t1 t2 : Bool) (k : Fin 3) : Bx := upB b (runS (dimAt d0 d1 d2 k) (sAt b k) (tK t0 t1 t2 k)) k
/-- A cable is taken. -/
def cabB (d0 d1 d2 : Int) (b : Bx) (t0 t1 t2 : Bool) (n : Int) : Bool :=
  let N := d0 * d1 * d2
  if n < N then hasB d0 d1 d2 (boxK d0 d1 d2 b t0 t1 t2 0) n else if n < 2 * N then hasB d0 d1 d2 (boxK d0 d1 d2 b t0 t1 t2 1) (n - N) else hasB d0 d1 d2 (boxK d0 d1 d2 b t0 t1 t2 2) (n - 2 * N)
theorem cabB_at {d0 d1 d2 o : Int} {b : Bx} {t0 t1 t2 : Bool} (ho : 0 ≤ o ∧ o < d0 * d1 * d2) (k : Fin 3) : cabB d0 d1 d2 b t0 t1 t2 (cabW d0 d1 d2 k o) = hasB d0 d1 d2 (boxK d0 d1 d2 b t0 t1 t2 k) o := by
  rcases fin3 k with rfl | rfl | rfl
  · have e : cabW d0 d1 d2 0 o = o := by unfold cabW; simp only [axI]; omega
    rw [e]
    unfold cabB
    rw [if_pos ho.2]
  · have e : cabW d0 d1 d2 1 o = d0 * d1 * d2 + o := by unfold cabW; simp only [axI]; omega
    rw [e]
    unfold cabB
    rw [if_neg (by omega), if_pos (by omega), show d0 * d1 * d2 + o - d0 * d1 * d2 = o by omega]
  · have e : cabW d0 d1 d2 2 o = 2 * (d0 * d1 * d2) + o := by unfold cabW; simp only [axI]
    rw [e]
    unfold cabB
    rw [if_neg (by omega), if_neg (by omega), show 2 * (d0 * d1 * d2) + o - 2 * (d0 * d1 * d2) = o by omega]

theorem nodesB_filter (d0 d1 d2 : Int) (b : Bx) : (nodesB d0 d1 d2 b).length = ((List.range (d0 * d1 * d2).toNat).filter fun m : Nat => hasB d0 d1 d2 b (m : Int)).length := by
  unfold nodesB nodesTo
  rw [List.length_map]
end Go.Proofs.YtlahfffgmfjpaaaGreatDoor

/-
  Plain arithmetic of places: which midplanes a place passes; places whose boxes do not meet. No program is named here.
-/
namespace Go.Proofs.YtlahfffgmfjpaaaGreatDoor
open Go.RowKit

/-- A place takes the cable from a midplane along an axis. -/
def takes (d0 d1 d2 : Int) (b : Bx) (t0 t1 t2 : Bool) (k : Fin 3) (m : Int) : Bool := hasB d0 d1 d2 (boxK d0 d1 d2 b t0 t1 t2 k) m
/-- It passes a midplane. -/
def passB (d0 d1 d2 : Int) (b : Bx) (t0 t1 t2 : Bool) (m : Int) : Prop :=
  hasB d0 d1 d2 b m = false ∧ ∃ k, 1 < dimAt d0 d1 d2 k ∧ (takes d0 d1 d2 b t0 t1 t2 k m = true ∨ takes d0 d1 d2 b t0 t1 t2 k (onD d0 d1 d2 m k (-1)) = true)
/-- It is a torus along an axis and not as long as the dimension. -/
def opens (d0 d1 d2 : Int) (b : Bx) (t0 t1 t2 : Bool) (k : Fin 3) : Prop := tK t0 t1 t2 k = true ∧ sAt b k < dimAt d0 d1 d2 k

/-- The midplane at which a box begins. -/
def baseN (d0 d1 : Int) (b : Bx) : Int := numD d0 d1 b.x b.y b.z
end Go.Proofs.YtlahfffgmfjpaaaGreatDoor

/-
  '==' between two boxes: as their numbers are.
-/
namespace Go.Proofs.YtlahfffgmfjpaaaGreatDoor
open Go.RowKit

theorem eqIn_arr3_at {P : Program} (d : Nat) {t e : TypeId} {i : TypeInfo} (hu : P.underlying t = some (.array 3 e)) (he : P.underlying e = some (.int .i64)) (hi : P.info? e = some i) (hc : P.cellsOf e = 1) (hp : P.plainKey e = true)
    (a b c a' b' c' : Int) (w : World) : (Op.equalIn (d + 2) t (.agg #[.int .i64 a, .int .i64 b, .int .i64 c]) (.agg #[.int .i64 a', .int .i64 b', .int .i64 c'])).run P w = .ok (a == a' && (b == b' && c == c')) w := by
  rw [run_equalIn_array w (d + 1) _ _ hu hi, hc]
  have r3 : List.range 3 = [0, 1, 2] := rfl
  have p0 : ∀ (x y z : Value) (w : World), (part e #[x, y, z] 0).run P w = .ok x w := fun x y z w => run_part_plain w hp rfl
  have p1 : ∀ (x y z : Value) (w : World), (part e #[x, y, z] 1).run P w = .ok y w := fun x y z w => run_part_plain w hp rfl
  have p2 : ∀ (x y z : Value) (w : World), (part e #[x, y, z] 2).run P w = .ok z w := fun x y z w => run_part_plain w hp rfl
  have hq : ∀ (x y : Int) (w : World), (Op.equalIn (d + 1) e (.int .i64 x) (.int .i64 y)).run P w = .ok (x == y) w := fun x y w => run_equalIn_int w d e .i64 .i64 x y he
  rw [r3]
  by_cases h0 : a = a' <;> by_cases h1 : b = b' <;> by_cases h2 : c = c' <;> simp [Op.eqItems, p0, p1, p2, hq, h0, h1, h2]

/-- Two rows of three numbers are the same. -/
def same3 (a b c a' b' c' : Int) : Bool := a == a' && (b == b' && c == c')
theorem same3_self (a b c : Int) : same3 a b c a b c = true := by simp [same3]
def sameBx (a b : Bx) : Bool := same3 a.x a.y a.z b.x b.y b.z && same3 a.a a.b a.c b.a b.b b.c
theorem sameBx_iff (a b : Bx) : sameBx a b = true ↔ a = b := by
  cases a; cases b; simp [sameBx, same3, and_assoc]
set_option maxRecDepth 100000 in
theorem eq_arr9 (a b c a' b' c' : Int) (w : World) : (Op.equalIn 9999 22 (.agg #[.int .i64 a, .int .i64 b, .int .i64 c]) (.agg #[.int .i64 a', .int .i64 b', .int .i64 c'])).run Tryz.prog w = .ok (same3 a b c a' b' c') w := by
  obtain ⟨i, hi⟩ : ∃ i, Tryz.prog.info? 3 = some i := ⟨_, rfl⟩
  exact eqIn_arr3_at 9997 Tryz.underlying22 Tryz.underlying3 hi (by kernel_rfl) (by kernel_rfl) a b c a' b' c' w

end Go.Proofs.YtlahfffgmfjpaaaGreatDoor

/-
  Sets of numbers, 64 to a word, as plain arithmetic: which numbers a row of words has, and that they tell it.
-/
namespace Go.Proofs.YtlahfffgmfjpaaaGreatDoor

/-- The number k is in the set of these words. -/
def hasW (ws : List Nat) (k : Nat) : Bool := (ws.getD (k / 64) 0).testBit (k % 64)
/-- A set below n may be: as many words as are needed, each a word, no bit at n or beyond. -/
structure MayW (n : Nat) (ws : List Nat) : Prop where
  len : ws.length = (n + 63) / 64
  word : ∀ w ∈ ws, w < 2 ^ 64
  none : ∀ k, n ≤ k → hasW ws k = false

theorem hasW_at (ws : List Nat) (i j : Nat) (hj : j < 64) : hasW ws (64 * i + j) = (ws.getD i 0).testBit j := by
  unfold hasW
  rw [show (64 * i + j) / 64 = i by omega, show (64 * i + j) % 64 = j by omega]
theorem word_ext {a b : Nat} (ha : a < 2 ^ 64) (hb : b < 2 ^ 64) (h : ∀ j, j < 64 → a.testBit j = b.testBit j) : a = b := by
  apply Nat.eq_of_testBit_eq
  intro j
  by_cases hj : j < 64
  · exact h j hj
  · rw [Nat.testBit_lt_two_pow (Nat.lt_of_lt_of_le ha (Nat.pow_le_pow_right (by omega) (by omega))), Nat.testBit_lt_two_pow (Nat.lt_of_lt_of_le hb (Nat.pow_le_pow_right (by omega) (by omega)))]
/-- The numbers of a set below k, rising. -/
def listTo (ws : List Nat) (k : Nat) : List Nat := (List.range k).filter fun m => hasW ws m
theorem listTo_mem {ws : List Nat} {k m : Nat} : m ∈ listTo ws k ↔ m < k ∧ hasW ws m = true := by simp [listTo, List.mem_filter, List.mem_range]
theorem listTo_yes {ws : List Nat} {k : Nat} (h : hasW ws k = true) : listTo ws (k + 1) = listTo ws k ++ [k] := by simp [listTo, List.range_succ, List.filter_append, h]
theorem listTo_no {ws : List Nat} {k : Nat} (h : hasW ws k = false) : listTo ws (k + 1) = listTo ws k := by simp [listTo, List.range_succ, List.filter_append, h]
theorem listTo_rise (ws : List Nat) (k : Nat) : (listTo ws k).Pairwise (· < ·) := List.Pairwise.filter _ List.pairwise_lt_range
theorem listTo_len (ws : List Nat) (k : Nat) : (listTo ws k).length ≤ k := by
  have := List.length_filter_le (fun m => hasW ws m) (List.range k)
  simpa [listTo] using this
/-- What is in both and what is in either are together as many as both have. -/
theorem count_both {a b x y : List Nat} (hx : ∀ k, hasW x k = (hasW a k && hasW b k)) (hy : ∀ k, hasW y k = (hasW a k || hasW b k)) : ∀ k, (listTo x k).length + (listTo y k).length = (listTo a k).length + (listTo b k).length
  | 0 => rfl
  | k + 1 => by
    have ih := count_both hx hy k
    have h1 := hx k
    have h2 := hy k
    cases ha : hasW a k <;> cases hb : hasW b k <;> rw [ha, hb] at h1 h2 <;> simp only [Bool.and_self, Bool.or_self, Bool.and_true, Bool.and_false, Bool.or_true, Bool.or_false] at h1 h2 <;>
      simp only [listTo, List.range_succ, List.filter_append, List.length_append, List.filter_cons, List.filter_nil, h1, h2, ha, hb] at ih ⊢ <;> simp <;> omega

end Go.Proofs.YtlahfffgmfjpaaaGreatDoor

/-
  Rows of words and of whole numbers, wherever in memory they lie: what a walk asks of a slice that it reads.
-/
namespace Go.Proofs.YtlahfffgmfjpaaaGreatDoor
open Go Go.RowKit Go.Shelf

abbrev U (x : Nat) : Value := .int .u64 (x : Int)

/-- The slice v reads as the values vs. -/
def Sl (W : World) (v : Value) (vs : List Value) : Prop :=
  ∃ ao cap, v = .slice ao vs.length cap ∧ ∀ k, k < vs.length → ∃ g off, ao = some ⟨g, off, none⟩ ∧ g < W.heap.size ∧ W.cell? ⟨g, off + k, none⟩ = vs[k]?
theorem Sl.later {W W' : World} {v : Value} {vs : List Value} (h : Sl W v vs) (hb : Below W.heap.size W W') : Sl W' v vs := by
  obtain ⟨ao, cap, e, h⟩ := h
  refine ⟨ao, cap, e, fun k hk => ?_⟩
  obtain ⟨g, off, e, hg, hc⟩ := h k hk
  exact ⟨g, off, e, Nat.lt_of_lt_of_le hg hb.size, (hb.cell (p := ⟨g, off + k, none⟩) hg).trans hc⟩
theorem Sl.nil (W : World) : Sl W (.slice none 0 0) [] := ⟨none, 0, rfl, fun k hk => by simp at hk⟩
theorem Sl.blk {W : World} {g : Nat} {t : TypeId} {vs : List Value} (h : Blk W g t vs.toArray) (cap : Nat) : Sl W (.slice (some ⟨g, 0, none⟩) vs.length cap) vs :=
  ⟨_, _, rfl, fun k hk => ⟨g, 0, rfl, h.lt, by rw [Nat.zero_add, h.cell k]; simp⟩⟩

/-- A row of words; a row of whole numbers. -/
def Wds (W : World) (v : Value) (ws : List Nat) : Prop := (∀ x ∈ ws, x < 18446744073709551616) ∧ Sl W v (ws.map U)
def Its (W : World) (v : Value) (xs : List Int) : Prop := Sl W v (xs.map I)
theorem Wds.later {W W' : World} {v : Value} {ws : List Nat} (h : Wds W v ws) (hb : Below W.heap.size W W') : Wds W' v ws := ⟨h.1, h.2.later hb⟩
theorem Its.later {W W' : World} {v : Value} {xs : List Int} (h : Its W v xs) (hb : Below W.heap.size W W') : Its W' v xs := Sl.later h hb
theorem Wds.nil (W : World) : Wds W (.slice none 0 0) [] := ⟨fun _ h => (by cases h), Sl.nil W⟩
theorem Its.nil (W : World) : Its W (.slice none 0 0) [] := Sl.nil W
theorem Wds.view {W : World} {v : Value} {ws : List Nat} (h : Wds W v ws) :
    ∃ ao cap, v = .slice ao ws.length cap ∧ ∀ k, k < ws.length → ∃ g off, ao = some ⟨g, off, none⟩ ∧ g < W.heap.size ∧ W.cell? ⟨g, off + k, none⟩ = some (U (ws.getD k 0)) := by
  obtain ⟨_, ao, cap, e, h⟩ := h
  refine ⟨ao, cap, by simpa using e, fun k hk => ?_⟩
  obtain ⟨g, off, e, hg, hc⟩ := h k (by simpa using hk)
  exact ⟨g, off, e, hg, by rw [hc]; simp [hk]⟩
theorem Its.view {W : World} {v : Value} {xs : List Int} (h : Its W v xs) :
    ∃ ao cap, v = .slice ao xs.length cap ∧ ∀ k, k < xs.length → ∃ g off, ao = some ⟨g, off, none⟩ ∧ g < W.heap.size ∧ W.cell? ⟨g, off + k, none⟩ = some (I (xs.getD k 0)) := by
  obtain ⟨ao, cap, e, h⟩ := h
  refine ⟨ao, cap, by simpa using e, fun k hk => ?_⟩
  obtain ⟨g, off, e, hg, hc⟩ := h k (by simpa using hk)
  exact ⟨g, off, e, hg, by rw [hc]; simp [hk]⟩
theorem Wds.word {W : World} {v : Value} {ws : List Nat} (h : Wds W v ws) (k : Nat) : ws.getD k 0 < 18446744073709551616 := by
  by_cases hk : k < ws.length
  · have := h.1 (ws[k]) (List.getElem_mem hk)
    simpa [hk] using this
  · simp [Nat.not_lt.1 hk]

/-- One bit of a word, as the program asks for it. -/
theorem bit_of (x j : Nat) (hx : x < 18446744073709551616) : (bits .and .u64 ((x : Int) / 2 ^ j) 1 == 1) = x.testBit j := by
  have e : (x : Int) / 2 ^ j = ((x / 2 ^ j : Nat) : Int) := by norm_cast
  rw [e, show (1 : Int) = ((1 : Nat) : Int) from rfl, u64_and_nat _ _ (Nat.lt_of_le_of_lt (Nat.div_le_self _ _) hx) (by decide), Nat.and_one_is_mod]
  rw [Nat.testBit_eq_decide_div_mod_eq]
  have : x / 2 ^ j % 2 = 0 ∨ x / 2 ^ j % 2 = 1 := by omega
  rcases this with h | h <;> rw [h] <;> rfl

theorem hasW_out {ws : List Nat} {k : Nat} (h : ws.length ≤ k / 64) : hasW ws k = false := by
  unfold hasW
  simp [h]
theorem hasW_past {ws : List Nat} {k : Nat} (h : 64 * ws.length ≤ k) : hasW ws k = false := hasW_out (by omega)

/-- A set below n may be. -/
def maySet (n : Nat) (ws : List Nat) : Bool := decide (ws.length = (n + 63) / 64) && (List.range (64 * ws.length)).all fun k => decide (k < n) || !hasW ws k
theorem mayS_iff {n : Nat} {ws : List Nat} : maySet n ws = true ↔ ws.length = (n + 63) / 64 ∧ ∀ k, n ≤ k → hasW ws k = false := by
  unfold maySet
  rw [Bool.and_eq_true, decide_eq_true_eq, List.all_eq_true]
  constructor
  · rintro ⟨h1, h2⟩
    refine ⟨h1, fun k hk => ?_⟩
    by_cases hl : k < 64 * ws.length
    · have := h2 k (List.mem_range.2 hl)
      simpa [Nat.not_lt.2 hk] using this
    · exact hasW_past (by omega)
  · rintro ⟨h1, h2⟩
    refine ⟨h1, fun k _ => ?_⟩
    by_cases hk : k < n
    · simp [hk]
    · simp [h2 k (by omega)]
theorem mayS_len {n : Nat} {ws : List Nat} (h : ws.length ≠ (n + 63) / 64) : maySet n ws = false := by simp [maySet, h]
theorem mayS_no {n k : Nat} {ws : List Nat} (hk : n ≤ k) (h : hasW ws k = true) : maySet n ws = false := by
  cases e : maySet n ws
  · rfl
  · rw [(mayS_iff.1 e).2 k hk] at h; cases h
theorem mayS_full {n : Nat} {ws : List Nat} (hl : ws.length = (n + 63) / 64) (h0 : n % 64 = 0) : maySet n ws = true :=
  mayS_iff.2 ⟨hl, fun k hk => hasW_past (by omega)⟩
theorem mayS_last {n : Nat} {ws : List Nat} (hx : ws.getD (ws.length - 1) 0 < 18446744073709551616) (hn : 1 ≤ n) (hl : ws.length = (n + 63) / 64) (h0 : n % 64 ≠ 0) : maySet n ws = ((ws.getD (ws.length - 1) 0 : Int) / 2 ^ (n % 64) == 0) := by
  have e : ((ws.getD (ws.length - 1) 0 : Nat) : Int) / 2 ^ (n % 64) = ((ws.getD (ws.length - 1) 0 / 2 ^ (n % 64) : Nat) : Int) := by norm_cast
  rw [e, Bool.eq_iff_iff, mayS_iff]
  simp only [beq_iff_eq]
  have hp : 0 < 2 ^ (n % 64) := Nat.two_pow_pos _
  constructor
  · rintro ⟨_, h⟩
    have : ws.getD (ws.length - 1) 0 < 2 ^ (n % 64) := by
      apply Nat.lt_pow_two_of_testBit
      intro i hi
      by_cases h64 : i < 64
      · have := h (64 * (ws.length - 1) + i) (by omega)
        rwa [hasW_at _ _ _ h64] at this
      · exact Nat.testBit_lt_two_pow (Nat.lt_of_lt_of_le hx (Nat.pow_le_pow_right (n := 2) (i := 64) (by omega) (by omega)))
    rw [Nat.div_eq_of_lt this]; rfl
  · intro h
    have h : ws.getD (ws.length - 1) 0 / 2 ^ (n % 64) = 0 := by exact_mod_cast h
    refine ⟨hl, fun k hk => ?_⟩
    by_cases hk2 : k < 64 * ws.length
    · have : k = 64 * (ws.length - 1) + k % 64 := by omega
      rw [this, hasW_at _ _ _ (Nat.mod_lt k (by omega))]
      have hlt : ws.getD (ws.length - 1) 0 < 2 ^ (n % 64) := by
        rcases Nat.div_eq_zero_iff.1 h with h' | h'
        · omega
        · exact h'
      exact Nat.testBit_lt_two_pow (Nat.lt_of_lt_of_le hlt (Nat.pow_le_pow_right (by omega) (by omega)))
    · exact hasW_past (by omega)

/-- The error of some sets below n. -/
def okN (n : Int) : Bool := decide (1 ≤ n ∧ n ≤ 12288)
def errAll (n : Int) (wss : List (List Nat)) : Int := if okN n then (if wss.all (maySet n.toNat) then 0 else 8) else 2
theorem errAll_bad {n : Int} (h : ¬ (1 ≤ n ∧ n ≤ 12288)) (wss : List (List Nat)) : errAll n wss = 2 := by simp [errAll, okN, h]
theorem errAll_not {n : Nat} {wss : List (List Nat)} (h : 1 ≤ n ∧ n ≤ 12288) {k : Nat} (hk : k < wss.length) (hm : maySet n (wss.getD k []) = false) : errAll n wss = 8 := by
  have e : okN (n : Int) = true := by simp [okN]; omega
  unfold errAll
  rw [if_pos e, if_neg]
  intro ha
  have := List.all_eq_true.1 ha (wss[k]) (List.getElem_mem hk)
  simp [hk] at hm
  simp [hm] at this
theorem errAll_ok {n : Nat} {wss : List (List Nat)} (h : 1 ≤ n ∧ n ≤ 12288) (hm : ∀ k, k < wss.length → maySet n (wss.getD k []) = true) : errAll n wss = 0 := by
  have e : okN (n : Int) = true := by simp [okN]; omega
  unfold errAll
  rw [if_pos e, if_pos]
  apply List.all_eq_true.2
  intro x hx
  obtain ⟨k, hk, rfl⟩ := List.mem_iff_getElem.1 hx
  have := hm k hk
  simpa [hk] using this

end Go.Proofs.YtlahfffgmfjpaaaGreatDoor

/-
  The calls of set, and of the document's answer, that only look: whether a number is in a set, whether a set may be.
-/
namespace Go.Proofs.YtlahfffgmfjpaaaGreatDoor
open Go Go.RowKit Go.Shelf

set_option maxRecDepth 100000 in
set_option maxHeartbeats 2000000 in
theorem there_calls {v : Value} {ws : List Nat} (w : World) (h : Wds w v ws) (k : Nat) (hk : k ≤ 9223372036854775807) :
    Calls Tryz.prog 52 #[v, I k] w fun e W' => e = .returned (.bool (hasW ws k)) ∧ W' = w := by
  obtain ⟨ao, cap, rfl, hv⟩ := h.view
  have hw := h.word (k / 64)
  by_cases hlt : k / 64 < ws.length
  · obtain ⟨g, off, rfl, hg, hc⟩ := hv _ hlt
    have hb := bit_of _ (k % 64) hw
    have e : hasW ws k = (ws.getD (k / 64) 0).testBit (k % 64) := rfl
    rw [e, ← hb]
    clear hb e hv h
    generalize ws.getD (k / 64) 0 = x at *
    go_enter Tryz.func52, Tryz.ntmps52
    go_wp2
    go_ret
    exact ⟨rfl, rfl⟩
  · rw [hasW_out (Nat.not_lt.1 hlt)]
    clear hv h hw
    have hlt' : ¬ ((k : Int) / 64 < ws.length) := by omega
    go_enter Tryz.func52, Tryz.ntmps52
    go_wp2
    go_ret
    exact ⟨rfl, rfl⟩

theorem words_calls (n : Nat) (w : World) (hn : n ≤ 12288) : Calls Tryz.prog 115 #[I n] w fun e W' => e = .returned (I ((n + 63) / 64 : Nat)) ∧ W' = w := by
  go_enter Tryz.func115, Tryz.ntmps115
  go_wp2
  go_ret
  exact ⟨by go_num, rfl⟩

set_option maxRecDepth 100000 in
set_option maxHeartbeats 2000000 in
theorem mayBe_calls {v : Value} {ws : List Nat} (w : World) (h : Wds w v ws) (n : Nat) (h1 : 1 ≤ n) (h2 : n ≤ 12288) :
    Calls Tryz.prog 94 #[I n, v] w fun e W' => e = .returned (.bool (maySet n ws)) ∧ W' = w := by
  obtain ⟨ao, cap, rfl, hv⟩ := h.view
  have hwc := fun w => words_calls n w h2
  by_cases hl : ws.length = (n + 63) / 64
  · by_cases h0 : n % 64 = 0
    · rw [mayS_full hl h0]
      rw [← hl] at hwc
      clear hv h hl
      generalize ws.length = l at *
      have h0' : (n : Int) % 64 = 0 := by omega
      go_enter Tryz.func94, Tryz.ntmps94
      go_wp2_with fail
      refine (hwc _).mono ?_
      rintro e w1 ⟨rfl, rfl⟩
      go_wp2
      go_ret
      exact ⟨rfl, rfl⟩
    · rw [mayS_last (h.word _) h1 hl h0]
      have h0' : ¬ ((n : Int) % 64 = 0) := by omega
      have hlt : ws.length - 1 < ws.length := by omega
      obtain ⟨g, off, rfl, hg, hc⟩ := hv _ hlt
      have hw := h.word (ws.length - 1)
      generalize ws.getD (ws.length - 1) 0 = x at *
      have hub : ws.length ≤ 200 := by omega
      rw [← hl] at hwc
      clear hv h hl
      generalize ws.length = l at *
      have hpos : 1 ≤ l := by omega
      go_enter Tryz.func94, Tryz.ntmps94
      go_wp2_with fail
      refine (hwc _).mono ?_
      rintro e w1 ⟨rfl, rfl⟩
      go_wp2
      go_ret
      refine ⟨?_, rfl⟩
      show Ending.returned (Value.bool (((n : Int) % 64 == 0) || _)) = _
      rw [show ((n : Int) % 64 == 0) = false from by simpa using h0']
      rfl
  · rw [mayS_len hl]
    clear hv h
    generalize (n + 63) / 64 = l at *
    have hl' : ¬ ((ws.length : Int) = (l : Int)) := by omega
    go_enter Tryz.func94, Tryz.ntmps94
    go_wp2_with fail
    refine (hwc _).mono ?_
    rintro e w1 ⟨rfl, rfl⟩
    go_wp2
    go_ret
    exact ⟨rfl, rfl⟩

set_option maxRecDepth 100000 in
set_option maxHeartbeats 2000000 in
theorem check_calls {v : Value} {vs : List Value} {wss : List (List Nat)} (w : World) (hv : Sl w v vs) (hl : vs.length = wss.length) (hs : vs.length ≤ 2) (hw : ∀ i, i < vs.length → Wds w (vs.getD i undef) (wss.getD i [])) (n : Int) :
    Calls Tryz.prog 67 #[I n, v] w fun e W' => e = .returned (I (errAll n wss)) ∧ W' = w := by
  obtain ⟨ao, cap, rfl, hv⟩ := hv
  by_cases hn : 1 ≤ n ∧ n ≤ 12288
  · obtain ⟨m, rfl⟩ : ∃ m : Nat, n = m := ⟨n.toNat, by omega⟩
    obtain ⟨h1, h2⟩ := hn
    have HV : Hid (∀ k, k < vs.length → ∃ g off, ao = some ⟨g, off, none⟩ ∧ g < w.heap.size ∧ w.cell? ⟨g, off + k, none⟩ = vs[k]?) := hv
    have HW : Hid (∀ i, i < vs.length → Wds w (vs.getD i undef) (wss.getD i [])) := hw
    obtain ⟨ans, hans⟩ : ∃ ans, ans = errAll m wss := ⟨_, rfl⟩
    rw [← hans]
    have HS : Hid (ans = errAll m wss) := hans
    clear hans hv hw
    go_enter Tryz.func67, Tryz.ntmps67
    go_wp2
    go_loopw [15] (fun i wr => ∃ k : Nat, k ≤ vs.length ∧ i = .int .i64 k ∧ Hid (∀ j, j < k → maySet m (wss.getD j []) = true) ∧ wr = w) (fun i _ => vs.length - (RowKit.intOf i).toNat)
    case atStart => exact ⟨0, by omega, rfl, fun j hj => by omega, rfl⟩
    case round =>
      obtain ⟨k, hk, rfl, HT, rfl⟩ := hrel
      by_cases hlt : (k : Int) < (vs.length : Int)
      · have hkx : k < vs.length := by omega
        obtain ⟨g, off, rfl, hg, hc⟩ := HV.out k hkx
        have hW := HW.out k hkx
        rw [show vs[k]? = some (vs.getD k undef) by simp [hkx]] at hc
        have HX : Hid (Wds wr (vs.getD k undef) (wss.getD k [])) := hW
        have H8 : Hid (maySet m (wss.getD k []) = false → ans = 8) := fun hm => by rw [HS.out]; exact errAll_not ⟨by omega, by omega⟩ (by omega) hm
        have H0 : Hid (maySet m (wss.getD k []) = true → ∀ j, j < k + 1 → maySet m (wss.getD j []) = true) := fun hm j hj => by
          rcases Nat.lt_succ_iff_lt_or_eq.1 hj with hj | rfl
          · exact HT.out j hj
          · exact hm
        clear hW
        obtain ⟨u, hu⟩ : ∃ u, u = vs.getD k undef := ⟨_, rfl⟩
        rw [← hu] at hc HX
        have hone : u.oneCell' = true := by
          obtain ⟨ao', cap', e, _⟩ := HX.out.view
          rw [e]; rfl
        clear hu
        go_wp2_with fail
        refine (mayBe_calls _ HX.out m (by omega) (by omega)).mono ?_
        rintro e w1 ⟨rfl, rfl⟩
        cases hm : maySet m (wss.getD k [])
        · have E := H8.out hm
          subst E
          go_wp2
          go_ret
          exact ⟨rfl, rfl⟩
        · go_wp2
          go_roundw
          case rel => exact ⟨k + 1, by omega, by go_num, H0.out hm, by trivial⟩
          case measure => simp [RowKit.intOf]; omega
      · have E : ans = 0 := by
          rw [HS.out]
          exact errAll_ok ⟨by omega, by omega⟩ (fun j hj => HT.out j (by omega))
        subst E
        go_wp2
        go_ret
        exact ⟨rfl, rfl⟩
  · rw [errAll_bad hn]
    clear hv hw
    by_cases h1 : 1 ≤ n
    · have h2 : ¬ n ≤ 12288 := fun h => hn ⟨h1, h⟩
      clear hn
      go_enter Tryz.func67, Tryz.ntmps67
      go_wp2
      go_ret
      exact ⟨rfl, rfl⟩
    · clear hn
      go_enter Tryz.func67, Tryz.ntmps67
      go_wp2
      go_ret
      exact ⟨rfl, rfl⟩

set_option maxRecDepth 100000 in
set_option maxHeartbeats 2000000 in
theorem may_calls {v : Value} {ws : List Nat} (w : World) (h : Wds w v ws) (n : Nat) (h1 : 1 ≤ n) (h2 : n ≤ 12288) :
    Calls Tryz.prog 23 #[I n, v] w fun e W' => e = .returned (.bool (maySet n ws)) ∧ W' = w := by
  have HW : Hid (Wds w v ws) := h
  obtain ⟨ao, cap, rfl, _⟩ := h.view
  obtain ⟨ans, hans⟩ : ∃ ans, ans = maySet n ws := ⟨_, rfl⟩
  rw [← hans]
  have HS : Hid (ans = maySet n ws) := hans
  clear hans h
  go_enter Tryz.func23, Tryz.ntmps23
  go_wp2
  go_loopw [5] (fun i wr => ∃ m : Nat, m ≤ (n + 63) / 64 ∧ i = .int .i64 m ∧ wr = w) (fun i _ => (n + 63) / 64 - (RowKit.intOf i).toNat)
  case atStart => exact ⟨0, by omega, rfl, rfl⟩
  case round =>
    obtain ⟨m, hm, rfl, rfl⟩ := hrel
    by_cases hlt : (64 : Int) * (m : Int) < (n : Int)
    · go_wp2
      go_roundw
      case rel => exact ⟨m + 1, by omega, by go_num, by trivial⟩
      case measure => simp [RowKit.intOf]; omega
    · have em : m = (n + 63) / 64 := by omega
      by_cases hl : m = ws.length
      · have EM : Hid (m = (n + 63) / 64) := em
        clear em
        subst hl
        go_wp2
        go_loopw [6] (fun i wr' => ∃ k : Nat, n ≤ k ∧ k ≤ 64 * ws.length ∧ i = .int .i64 k ∧ Hid (∀ j, n ≤ j → j < k → hasW ws j = false) ∧ wr' = wr) (fun i _ => 64 * ws.length - (RowKit.intOf i).toNat)
        case atStart => exact ⟨n, by omega, by have := EM.out; omega, rfl, fun j h1 h2 => by omega, rfl⟩
        case round =>
          obtain ⟨k, hk1, hk2, rfl, HT, rfl⟩ := hrel
          by_cases hlt2 : (k : Int) < (64 : Int) * (ws.length : Int)
          · go_wp2_with fail
            refine (there_calls _ HW.out k (by omega)).mono ?_
            rintro e w1 ⟨rfl, rfl⟩
            cases hq : hasW ws k
            · have H0 : Hid (∀ j, n ≤ j → j < k + 1 → hasW ws j = false) := fun j h1 h2 => by
                rcases Nat.lt_succ_iff_lt_or_eq.1 h2 with hj | rfl
                · exact HT.out j h1 hj
                · exact hq
              go_wp2
              go_roundw
              case rel => exact ⟨k + 1, by omega, by omega, by go_num, H0, by trivial⟩
              case measure => simp [RowKit.intOf]; omega
            · have E : ans = false := by rw [HS.out]; exact mayS_no hk1 hq
              subst E
              go_wp2
              go_ret
              exact ⟨rfl, rfl⟩
          · have E : ans = true := by
              rw [HS.out]
              refine mayS_iff.2 ⟨EM.out, fun j hj => ?_⟩
              by_cases hj2 : j < k
              · exact HT.out j hj hj2
              · exact hasW_past (by omega)
            subst E
            go_wp2
            go_ret
            exact ⟨rfl, rfl⟩
      · have E : ans = false := by rw [HS.out]; exact mayS_len (by omega)
        have hl' : ¬ ((ws.length : Int) = (m : Int)) := by omega
        clear em hl
        subst E
        go_wp2
        go_ret
        exact ⟨rfl, rfl⟩

end Go.Proofs.YtlahfffgmfjpaaaGreatDoor
