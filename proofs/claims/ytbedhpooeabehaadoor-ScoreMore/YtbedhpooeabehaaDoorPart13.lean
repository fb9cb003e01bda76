/-
  A box's midplanes, rising, are its coordinates gone through axis by axis, the first innermost.
-/
import Derived.Test.YtbedhpooeabehaaDoorPart12
import Derived.Test.YtbedhpooeabehaaDoorPart3
import Derived.Test.YtbedhpooeabehaaDoorPart10
import Derived.Test.YtbedhpooeabehaaDoorPart4
import Derived.Test.YtbedhpooeabehaaDoorPart11
namespace Go.Proofs.YtbedhpooeabehaaDoor

theorem range_mul (n m : Nat) : List.range (n * m) = (List.range m).flatMap fun q => (List.range n).map fun r => r + n * q := by
  induction m with
  | zero => simp
  | succ m ih =>
    rw [Nat.mul_succ, List.range_add, ih, List.range_succ, List.flatMap_append]
    congr 1
    simp [Nat.add_comm]
theorem flatMap_if {α β : Type} (p : α → Bool) (f : α → List β) : ∀ l : List α, (l.flatMap fun a => if p a then f a else []) = (l.filter p).flatMap f
  | [] => rfl
  | a :: l => by
    have ih := flatMap_if p f l
    cases h : p a <;> simp [h, ih]
theorem flatMap_same {α β : Type} {f g : α → List β} : ∀ {l : List α}, (∀ a ∈ l, f a = g a) → l.flatMap f = l.flatMap g
  | [], _ => rfl
  | a :: l, h => by
    simp only [List.flatMap_cons]
    rw [h a (by simp), flatMap_same (fun b hb => h b (by simp [hb]))]

theorem nodesB_flat {d0 d1 d2 : Int} {b : Bx} (hm : mayD d0 d1 d2) :
    (coordsS d2 b.z b.c).flatMap (fun z => (coordsS d1 b.y b.b).flatMap fun y => (coordsS d0 b.x b.a).map fun x => numD d0 d1 x y z) = nodesB d0 d1 d2 b := by
  have hm' := hm
  obtain ⟨h0, h1, h2⟩ := hm'
  unfold okD at h0 h1 h2
  obtain ⟨D0, rfl⟩ := Int.eq_ofNat_of_zero_le (show 0 ≤ d0 by omega)
  obtain ⟨D1, rfl⟩ := Int.eq_ofNat_of_zero_le (show 0 ≤ d1 by omega)
  obtain ⟨D2, rfl⟩ := Int.eq_ofNat_of_zero_le (show 0 ≤ d2 by omega)
  have hN : ((D0 : Int) * D1 * D2).toNat = D0 * (D1 * D2) := by
    have h : ((D0 : Int) * D1 * D2) = ((D0 * (D1 * D2) : Nat) : Int) := by push_cast; rw [Int.mul_assoc]
    rw [h, Int.toNat_natCast]
  have hR : List.range (D0 * (D1 * D2)) = (List.range D2).flatMap fun z => (List.range D1).flatMap fun y => (List.range D0).map fun x => x + D0 * (y + D1 * z) := by
    rw [range_mul D0, range_mul D1, List.flatMap_assoc]
    simp only [List.flatMap_map]
  unfold nodesB nodesTo
  rw [hN, hR, List.filter_flatMap, List.map_flatMap]
  unfold coordsS coordsTo
  simp only [Int.toNat_natCast]
  rw [List.flatMap_map, ← flatMap_if]
  refine flatMap_same fun z hz => ?_
  have hz := List.mem_range.1 hz
  rw [List.filter_flatMap, List.map_flatMap]
  cases hcz : hasS D2 b.z b.c z
  · simp only [Bool.false_eq_true, if_false]
    symm
    rw [List.flatMap_eq_nil_iff]
    intro y hy
    have hy := List.mem_range.1 hy
    rw [List.map_eq_nil_iff, List.filter_eq_nil_iff]
    intro m hmm
    obtain ⟨x, hx, rfl⟩ := List.mem_map.1 hmm
    have hx := List.mem_range.1 hx
    have := hasB_num (b := b) hm (p := x) (q := y) (r := z) ⟨by omega, by omega, by omega⟩
    rw [show (((x + D0 * (y + D1 * z) : Nat)) : Int) = numD D0 D1 x y z by unfold numD; push_cast; rfl, this, hcz]
    simp
  · simp only [if_true]
    rw [List.flatMap_map, ← flatMap_if]
    refine flatMap_same fun y hy => ?_
    have hy := List.mem_range.1 hy
    have hnum : ∀ x, x < D0 → hasB D0 D1 D2 b ((x + D0 * (y + D1 * z) : Nat) : Int) = (hasS D0 b.x b.a x && hasS D1 b.y b.b y) := by
      intro x hx
      have := hasB_num (b := b) hm (p := x) (q := y) (r := z) ⟨by omega, by omega, by omega⟩
      rw [show (((x + D0 * (y + D1 * z) : Nat)) : Int) = numD D0 D1 x y z by unfold numD; push_cast; rfl, this, hcz, Bool.and_true]
    rw [List.filter_map, List.map_map, List.map_map]
    cases hcy : hasS D1 b.y b.b y
    · simp only [Bool.false_eq_true, if_false]
      symm
      rw [List.map_eq_nil_iff, List.filter_eq_nil_iff]
      intro x hx
      rw [Function.comp, hnum x (List.mem_range.1 hx), hcy]
      simp
    · simp only [if_true]
      rw [show (List.range D0).filter ((fun m : Nat => hasB D0 D1 D2 b m) ∘ fun x => x + D0 * (y + D1 * z)) = (List.range D0).filter (fun j : Nat => hasS D0 b.x b.a j) from List.filter_congr fun x hx => by
        rw [Function.comp, hnum x (List.mem_range.1 hx), hcy, Bool.and_true]]
      refine List.map_congr_left fun x _ => ?_
      simp [Function.comp, numD]

theorem coordsS_get {r b s : Int} (hr : 0 ≤ r) {k : Nat} (hk : k < (coordsS r b s).length) : 0 ≤ (coordsS r b s).getD k 0 ∧ (coordsS r b s).getD k 0 < r := by
  have hmem : (coordsS r b s).getD k 0 ∈ coordsS r b s := by
    rw [show (coordsS r b s).getD k 0 = (coordsS r b s)[k] by simp [hk]]; exact List.getElem_mem hk
  generalize (coordsS r b s).getD k 0 = x at hmem
  simp only [coordsS, coordsTo, List.mem_map, List.mem_filter, List.mem_range] at hmem
  obtain ⟨j, ⟨h1, _⟩, rfl⟩ := hmem
  omega
theorem coordsS_len {r b s : Int} (hr : r ≤ 16) : (coordsS r b s).length ≤ 16 := by
  have := coordsTo_len r b s r.toNat
  unfold coordsS
  omega

section
variable (d0 d1 : Int) (X Y Z T : List Int)
def rowG (z y : Int) : List Int := X.map fun x => numD d0 d1 x y z
def rowF (z : Int) : List Int := Y.flatMap (rowG d0 d1 X z)
/-- What is gathered, and what is still to come: in the outer loop, the middle one, the inner one. -/
def eqO (L : List Int) (i : Nat) : Prop := L ++ (Z.drop i).flatMap (rowF d0 d1 X Y) = T
def eqM (L : List Int) (i j : Nat) : Prop := L ++ ((Y.drop j).flatMap (rowG d0 d1 X (Z.getD i 0)) ++ (Z.drop (i + 1)).flatMap (rowF d0 d1 X Y)) = T
def eqI (L : List Int) (i j k : Nat) : Prop :=
  L ++ ((X.drop k).map (fun x => numD d0 d1 x (Y.getD j 0) (Z.getD i 0)) ++ ((Y.drop (j + 1)).flatMap (rowG d0 d1 X (Z.getD i 0)) ++ (Z.drop (i + 1)).flatMap (rowF d0 d1 X Y))) = T
theorem drop_at {l : List Int} {i : Nat} (h : i < l.length) : l.drop i = l.getD i 0 :: l.drop (i + 1) := by
  rw [List.drop_eq_getElem_cons h]; simp [h]
variable {d0 d1 X Y Z T} {L : List Int} {i j k : Nat}
theorem eqO_in (hi : i < Z.length) (h : eqO d0 d1 X Y Z T L i) : eqM d0 d1 X Y Z T L i 0 := by
  unfold eqO at h; unfold eqM
  rw [drop_at hi, List.flatMap_cons] at h
  rw [List.drop_zero]; exact h
theorem eqM_in (hj : j < Y.length) (h : eqM d0 d1 X Y Z T L i j) : eqI d0 d1 X Y Z T L i j 0 := by
  unfold eqM at h; unfold eqI
  rw [drop_at hj, List.flatMap_cons, List.append_assoc] at h
  rw [List.drop_zero]; exact h
theorem eqI_step (hk : k < X.length) (h : eqI d0 d1 X Y Z T L i j k) : eqI d0 d1 X Y Z T (L ++ [numD d0 d1 (X.getD k 0) (Y.getD j 0) (Z.getD i 0)]) i j (k + 1) := by
  unfold eqI at h ⊢
  rw [drop_at hk, List.map_cons] at h
  rw [← h]
  simp
theorem eqI_out (hk : X.length ≤ k) (h : eqI d0 d1 X Y Z T L i j k) : eqM d0 d1 X Y Z T L i (j + 1) := by
  unfold eqI at h; unfold eqM
  rw [List.drop_of_length_le hk] at h; exact h
theorem eqM_out (hj : Y.length ≤ j) (h : eqM d0 d1 X Y Z T L i j) : eqO d0 d1 X Y Z T L (i + 1) := by
  unfold eqM at h; unfold eqO
  rw [List.drop_of_length_le hj] at h; exact h
theorem eqO_out (hi : Z.length ≤ i) (h : eqO d0 d1 X Y Z T L i) : L = T := by
  unfold eqO at h
  rw [List.drop_of_length_le hi] at h; simpa using h
theorem eqI_len (h : eqI d0 d1 X Y Z T L i j k) : L.length ≤ T.length := by
  have := congrArg List.length h
  simp only [List.length_append] at this
  omega
end

end Go.Proofs.YtbedhpooeabehaaDoor

/-
  Plain arithmetic of places: how many midplanes a box has, and how many cables a place takes. No program is named here.
-/
namespace Go.Proofs.YtbedhpooeabehaaDoor
open Go.RowKit

theorem flatP_len {α β : Type} {f : α → List β} {c : Nat} : ∀ {l : List α}, (∀ a ∈ l, (f a).length = c) → (l.flatMap f).length = l.length * c
  | [], _ => by simp
  | a :: l, h => by
    rw [List.flatMap_cons, List.length_append, h a (by simp), flatP_len (fun b hb => h b (by simp [hb])), List.length_cons, Nat.add_mul, Nat.one_mul, Nat.add_comm]

theorem coords_count {r b s : Int} (hr : r ≤ 16) (hb : 0 ≤ b ∧ b < r) (hs : 0 ≤ s ∧ s ≤ r) : (coordsS r b s).length = s.toNat := by
  obtain ⟨R, rfl⟩ := Int.eq_ofNat_of_zero_le (show 0 ≤ r by omega)
  obtain ⟨B, rfl⟩ := Int.eq_ofNat_of_zero_le hb.1
  obtain ⟨S, rfl⟩ := Int.eq_ofNat_of_zero_le hs.1
  unfold coordsS coordsTo
  rw [List.length_map, Int.toNat_natCast, Int.toNat_natCast]
  exact side_count R (by omega) B (by omega) S (by omega)

/-- A side that may be, or has nothing. -/
def sideOk (r b s : Int) : Prop := (0 ≤ b ∧ b < r) ∧ (0 ≤ s ∧ s ≤ r)
theorem nodes_count {d0 d1 d2 : Int} {b : Bx} (h : mayD d0 d1 d2) (hs : ∀ k, sideOk (dimAt d0 d1 d2 k) (bAt b k) (sAt b k)) : ((nodesB d0 d1 d2 b).length : Int) = b.a * b.b * b.c := by
  have h' := h
  obtain ⟨⟨_, u0⟩, ⟨_, u1⟩, _, u2⟩ := h'
  have s0 := hs 0
  have s1 := hs 1
  have s2 := hs 2
  have c0 := coords_count (r := d0) (b := b.x) (s := b.a) u0 s0.1 s0.2
  have c1 := coords_count (r := d1) (b := b.y) (s := b.b) u1 s1.1 s1.2
  have c2 := coords_count (r := d2) (b := b.z) (s := b.c) u2 s2.1 s2.2
  rw [← nodesB_flat h, flatP_len (c := (coordsS d1 b.y b.b).length * (coordsS d0 b.x b.a).length) (fun z _ => flatP_len (fun y _ => by rw [List.length_map])), c0, c1, c2]
  have e0 : (b.a.toNat : Int) = b.a := Int.toNat_of_nonneg s0.2.1
  have e1 : (b.b.toNat : Int) = b.b := Int.toNat_of_nonneg s1.2.1
  have e2 : (b.c.toNat : Int) = b.c := Int.toNat_of_nonneg s2.2.1
  rw [Int.natCast_mul, Int.natCast_mul, e0, e1, e2, Int.mul_comm b.c, Int.mul_comm b.b]

/-- The box of those midplanes from which the cables go that a place takes along an axis. -/
def boxK (d0 d1 d2 : Int) (b : Bx) (t0 t1 t2 : Bool) (k : Fin 3) : Bx := upB b (runS (dimAt d0 d1 d2 k) (sAt b k) (tK t0 t1 t2 k)) k
/-- A cable is taken. -/
def cabB (d0 d1 d2 : Int) (b : Bx) (t0 t1 t2 : Bool) (n : Int) : Bool :=
  let N := d0 * d1 * d2
  if n < N then hasB d0 d1 d2 (boxK d0 d1 d2 b t0 t1 t2 0) n else if n < 2 * N then hasB d0 d1 d2 (boxK d0 d1 d2 b t0 t1 t2 1) (n - N) else hasB d0 d1 d2 (boxK d0 d1 d2 b t0 t1 t2 2) (n - 2 * N)
theorem cabB_at {d0 d1 d2 o : Int} {b : Bx} {t0 t1 t2 : Bool} (ho : 0 ≤ o ∧ o < d0 * d1 * d2) (k : Fin 3) : cabB d0 d1 d2 b t0 t1 t2 (cabW d0 d1 d2 k o) = hasB d0 d1 d2 (boxK d0 d1 d2 b t0 t1 t2 k) o := by
  rcases fin3 k with rfl | rfl | rfl
  · have e : cabW d0 d1 d2 0 o = o := by unfold cabW; simp only [axI]; omega
    rw [e]
    unfold cabB
    rw [if_pos ho.2]
  · have e : cabW d0 d1 d2 1 o = d0 * d1 * d2 + o := by unfold cabW; simp only [axI]; omega
    rw [e]
    unfold cabB
    rw [if_neg (by omega), if_pos (by omega), show d0 * d1 * d2 + o - d0 * d1 * d2 = o by omega]
  · have e : cabW d0 d1 d2 2 o = 2 * (d0 * d1 * d2) + o := by unfold cabW; simp only [axI]
    rw [e]
    unfold cabB
    rw [if_neg (by omega), if_neg (by omega), show 2 * (d0 * d1 * d2) + o - 2 * (d0 * d1 * d2) = o by omega]

theorem nodesB_filter (d0 d1 d2 : Int) (b : Bx) : (nodesB d0 d1 d2 b).length = ((List.range (d0 * d1 * d2).toNat).filter fun m : Nat => hasB d0 d1 d2 b (m : Int)).length := by
  unfold nodesB nodesTo
  rw [List.length_map]
theorem filter_shift {N a : Nat} {p q : Nat → Bool} (h : ∀ o, o < N → p (a + o) = q o) : (((List.range N).map (a + ·)).filter p).length = ((List.range N).filter q).length := by
  rw [List.filter_map, List.length_map]
  congr 1
  exact List.filter_congr fun o ho => h o (List.mem_range.1 ho)
/-- How many cables a place takes. -/
theorem cab_count {d0 d1 d2 : Int} {b : Bx} {t0 t1 t2 : Bool} (h : mayD d0 d1 d2) :
    ((List.range (3 * (d0 * d1 * d2)).toNat).filter fun n : Nat => cabB d0 d1 d2 b t0 t1 t2 (n : Int)).length =
      (nodesB d0 d1 d2 (boxK d0 d1 d2 b t0 t1 t2 0)).length + (nodesB d0 d1 d2 (boxK d0 d1 d2 b t0 t1 t2 1)).length + (nodesB d0 d1 d2 (boxK d0 d1 d2 b t0 t1 t2 2)).length := by
  have hN := N_bd h
  have key : ∀ (k : Fin 3) (o : Int), 0 ≤ o ∧ o < d0 * d1 * d2 → cabB d0 d1 d2 b t0 t1 t2 (axI k * (d0 * d1 * d2) + o) = hasB d0 d1 d2 (boxK d0 d1 d2 b t0 t1 t2 k) o := fun k o ho => cabB_at ho k
  rw [nodesB_filter, nodesB_filter, nodesB_filter]
  obtain ⟨N, hNN⟩ := Int.eq_ofNat_of_zero_le (show 0 ≤ d0 * d1 * d2 by omega)
  rw [hNN] at key ⊢
  have e3 : (3 * ((N : Nat) : Int)).toNat = N + N + N := by omega
  rw [e3, Int.toNat_natCast, List.range_add, List.range_add, List.filter_append, List.filter_append, List.length_append, List.length_append]
  congr 1
  · congr 1
    · congr 1
      refine List.filter_congr fun o ho => ?_
      have ho := List.mem_range.1 ho
      have := key 0 (o : Int) (by omega)
      simp only [axI] at this
      rw [← this]
      congr 1
      omega
    · refine filter_shift fun o ho => ?_
      have := key 1 (o : Int) (by omega)
      simp only [axI] at this
      rw [← this]
      congr 1
      push_cast
      omega
  · refine filter_shift fun o ho => ?_
    have := key 2 (o : Int) (by omega)
    simp only [axI] at this
    rw [← this]
    congr 1
    push_cast
    omega

end Go.Proofs.YtbedhpooeabehaaDoor

/-
  Plain arithmetic of places: which midplanes a place passes; places whose boxes do not meet. No program is named here.
-/
namespace Go.Proofs.YtbedhpooeabehaaDoor
open Go.RowKit

/-- A place takes the cable from a midplane along an axis. -/
def takes (d0 d1 d2 : Int) (b : Bx) (t0 t1 t2 : Bool) (k : Fin 3) (m : Int) : Bool := hasB d0 d1 d2 (boxK d0 d1 d2 b t0 t1 t2 k) m
/-- It passes a midplane. -/
def passB (d0 d1 d2 : Int) (b : Bx) (t0 t1 t2 : Bool) (m : Int) : Prop :=
  hasB d0 d1 d2 b m = false ∧ ∃ k, 1 < dimAt d0 d1 d2 k ∧ (takes d0 d1 d2 b t0 t1 t2 k m = true ∨ takes d0 d1 d2 b t0 t1 t2 k (onD d0 d1 d2 m k (-1)) = true)
/-- It is a torus along an axis and not as long as the dimension. -/
def opens (d0 d1 d2 : Int) (b : Bx) (t0 t1 t2 : Bool) (k : Fin 3) : Prop := tK t0 t1 t2 k = true ∧ sAt b k < dimAt d0 d1 d2 k

theorem hasS_whole {r b c : Int} (hb : 0 ≤ b ∧ b < r) (hc : 0 ≤ c ∧ c < r) : hasS r b r c = true := by
  have := aft_bd hb hc
  simp only [hasS, decide_eq_true_eq]
  omega

theorem torus_takes {d0 d1 d2 m : Int} {b : Bx} {t0 t1 t2 : Bool} (h : mayD d0 d1 d2) (hb : mayB d0 d1 d2 b) (hm : 0 ≤ m ∧ m < d0 * d1 * d2) {k : Fin 3} (ht : tK t0 t1 t2 k = true) :
    takes d0 d1 d2 b t0 t1 t2 k m = true ↔ ∀ j, j ≠ k → hasS (dimAt d0 d1 d2 j) (bAt b j) (sAt b j) (coK d0 d1 m j) = true := by
  unfold takes boxK
  rw [upB_has, ht]
  have e : runS (dimAt d0 d1 d2 k) (sAt b k) true = dimAt d0 d1 d2 k := by simp [runS]
  rw [e]
  exact ⟨fun h => h.2, fun h' => ⟨hasS_whole (mayB_at hb k).2 (co_bd h hm k), h'⟩⟩
theorem mesh_takes {d0 d1 d2 m : Int} {b : Bx} {t0 t1 t2 : Bool} (h : mayD d0 d1 d2) (hb : mayB d0 d1 d2 b) (hm : 0 ≤ m ∧ m < d0 * d1 * d2) {k : Fin 3} (ht : tK t0 t1 t2 k = false)
    (hu : takes d0 d1 d2 b t0 t1 t2 k m = true) : hasB d0 d1 d2 b m = true ∧ hasB d0 d1 d2 b (onD d0 d1 d2 m k 1) = true := by
  unfold takes boxK at hu
  rw [ht] at hu
  exact mesh_ends h hb hm k hu

theorem on_back {d0 d1 d2 m : Int} (h : mayD d0 d1 d2) (hm : 0 ≤ m ∧ m < d0 * d1 * d2) (k : Fin 3) : onD d0 d1 d2 (onD d0 d1 d2 m k (-1)) k 1 = m := by
  rw [on_on h hm, show (-1 : Int) + 1 = 0 by omega]
  exact on_round h hm k 0 (.inl rfl)

/-- Where each axis along which it is a torus is taken whole, it passes none. -/
theorem pass_none {d0 d1 d2 m : Int} {b : Bx} {t0 t1 t2 : Bool} (h : mayD d0 d1 d2) (hb : mayB d0 d1 d2 b) (hm : 0 ≤ m ∧ m < d0 * d1 * d2) (ho : ∀ k, ¬ opens d0 d1 d2 b t0 t1 t2 k) : ¬ passB d0 d1 d2 b t0 t1 t2 m := by
  rintro ⟨hno, k, _, ht⟩
  have hp := on_node h hm k (-1)
  have key : hasB d0 d1 d2 b m = true := by
    cases hk : tK t0 t1 t2 k
    · rcases ht with ht | ht
      · exact (mesh_takes h hb hm hk ht).1
      · have := (mesh_takes h hb hp hk ht).2
        rwa [on_back h hm k] at this
    · have hs : sAt b k = dimAt d0 d1 d2 k := by
        have h1 := (mayB_at hb k).1.2
        have h2 : ¬ sAt b k < dimAt d0 d1 d2 k := fun hlt => ho k ⟨hk, hlt⟩
        omega
      have hall : ∀ j, j ≠ k → hasS (dimAt d0 d1 d2 j) (bAt b j) (sAt b j) (coK d0 d1 m j) = true := by
        rcases ht with ht | ht
        · exact (torus_takes h hb hm hk).1 ht
        · intro j hj
          have := (torus_takes h hb hp hk).1 ht j hj
          rwa [co_on h hm k (-1) j, if_neg hj] at this
      rw [hasB_iff]
      intro j
      by_cases hj : j = k
      · subst hj
        rw [hs]
        exact hasS_whole (mayB_at hb j).2 (co_bd h hm j)
      · exact hall j hj
  rw [key] at hno
  cases hno

/-- The midplane at which a box begins. -/
def baseN (d0 d1 : Int) (b : Bx) : Int := numD d0 d1 b.x b.y b.z
theorem base_node {d0 d1 d2 : Int} {b : Bx} (h : mayD d0 d1 d2) (hb : mayB d0 d1 d2 b) : (0 ≤ baseN d0 d1 b ∧ baseN d0 d1 b < d0 * d1 * d2) ∧ ∀ k, coK d0 d1 (baseN d0 d1 b) k = bAt b k := by
  obtain ⟨b0, b1, b2⟩ := hb
  obtain ⟨hn, hx, hy, hz⟩ := node_of_in h (p0 := b.x) (p1 := b.y) (p2 := b.z) ⟨b0.2, b1.2, b2.2⟩
  refine ⟨hn, fun k => ?_⟩
  rcases fin3 k with rfl | rfl | rfl
  · exact hx
  · exact hy
  · exact hz
theorem base_has {d0 d1 d2 : Int} {b : Bx} (h : mayD d0 d1 d2) (hb : mayB d0 d1 d2 b) : hasB d0 d1 d2 b (baseN d0 d1 b) = true := by
  rw [hasB_iff]
  intro k
  rw [(base_node h hb).2 k]
  exact hasS_base (mayB_at hb k)

/-- Else it passes one. -/
theorem pass_some {d0 d1 d2 : Int} {b : Bx} {t0 t1 t2 : Bool} (h : mayD d0 d1 d2) (hb : mayB d0 d1 d2 b) {k : Fin 3} (ho : opens d0 d1 d2 b t0 t1 t2 k) : ∃ m, (0 ≤ m ∧ m < d0 * d1 * d2) ∧ passB d0 d1 d2 b t0 t1 t2 m := by
  obtain ⟨ht, hlt⟩ := ho
  obtain ⟨hn, hc⟩ := base_node h hb
  have hm := on_node h hn k (sAt b k)
  have hco := co_on h hn k (sAt b k)
  have hs := (mayB_at hb k).1
  have hbk := (mayB_at hb k).2
  refine ⟨onD d0 d1 d2 (baseN d0 d1 b) k (sAt b k), hm, ?_, k, by omega, .inl ?_⟩
  · cases hh : hasB d0 d1 d2 b (onD d0 d1 d2 (baseN d0 d1 b) k (sAt b k))
    · rfl
    · have := hasB_iff.1 hh k
      rw [hco k, if_pos rfl, hc k, on_rem hbk ⟨by omega, hlt⟩] at this
      unfold hasS at this
      have hx := of_decide_eq_true this
      clear this
      unfold aft at hx
      split at hx <;> split at hx <;> omega
  · rw [torus_takes h hb hm ht]
    intro j hj
    rw [hco j, if_neg hj, hc j]
    exact hasS_base (mayB_at hb j)

/-- Places whose boxes do not meet have, as meshes, no cable in common. -/
theorem mesh_apart {d0 d1 d2 m : Int} {a b : Bx} (h : mayD d0 d1 d2) (ha : mayB d0 d1 d2 a) (hb : mayB d0 d1 d2 b) (hm : 0 ≤ m ∧ m < d0 * d1 * d2) (k : Fin 3)
    (u : takes d0 d1 d2 a false false false k m = true) (v : takes d0 d1 d2 b false false false k m = true) : meetB d0 d1 d2 a b = true := by
  have hk : tK false false false k = false := by rcases fin3 k with rfl | rfl | rfl <;> rfl
  exact (meetB_iff h ha hb).2 ⟨m, hm, (mesh_takes h ha hm hk u).1, (mesh_takes h hb hm hk v).1⟩

end Go.Proofs.YtbedhpooeabehaaDoor

/-
  Plain lists: what wire.line hands out, sorted, are the cables of those midplanes, rising. No program is named here.
-/
namespace Go.Proofs.YtbedhpooeabehaaDoor
open Go.RowKit

theorem seqW_take (d0 d1 d2 m : Int) (k : Fin 3) {n n' : Nat} (h : n ≤ n') : (seqW d0 d1 d2 m k n').take n = seqW d0 d1 d2 m k n := by
  have := List.prefix_iff_eq_take.1 (seqW_pre d0 d1 d2 m k h)
  rw [seqW_len] at this
  exact this.symm

theorem sort_rise {l l' : List Int} (h : l.Perm l') (h' : l'.Pairwise (· < ·)) : (l.mergeSort fun x y => decide (x ≤ y)) = l' := by
  have tr : ∀ a b c : Int, decide (a ≤ b) = true → decide (b ≤ c) = true → decide (a ≤ c) = true := fun a b c h1 h2 => by simp only [decide_eq_true_eq] at *; omega
  have to : ∀ a b : Int, (decide (a ≤ b) || decide (b ≤ a)) = true := fun a b => by simp only [Bool.or_eq_true, decide_eq_true_eq]; omega
  refine List.Perm.eq_of_pairwise (le := fun a b : Int => decide (a ≤ b) = true) (fun a b _ _ h1 h2 => ?_) (List.pairwise_mergeSort tr to l) (h'.imp fun hab => ?_) ((List.mergeSort_perm l _).trans h)
  · simp only [decide_eq_true_eq] at h1 h2; omega
  · simp only [decide_eq_true_eq]; omega

theorem seq_perm {d0 d1 d2 m : Int} (h : mayD d0 d1 d2) (hm : 0 ≤ m ∧ m < d0 * d1 * d2) (k : Fin 3) {mo : Nat} (hk : (mo : Int) ≤ dimAt d0 d1 d2 k) (h1 : 1 < dimAt d0 d1 d2 k) : (seqW d0 d1 d2 m k mo).Perm (cablesW d0 d1 d2 m k mo) := by
  have hn1 : (seqW d0 d1 d2 m k mo).Nodup := by
    refine List.pairwise_map.2 ((List.pairwise_lt_range (n := mo)).imp_of_mem fun {a b} ha hb hab e => ?_)
    have ha' := List.mem_range.1 ha
    have hb' := List.mem_range.1 hb
    have := on_inj h hm k (a := (a : Int)) (b := (b : Int)) (by omega) (by omega) (cab_inj e)
    omega
  have hn2 : (cablesW d0 d1 d2 m k mo).Nodup := (cables_rise d0 d1 d2 m k mo).imp fun hab e => by omega
  refine (List.perm_ext_iff_of_nodup hn1 hn2).2 fun x => ?_
  rw [cables_mem]
  constructor
  · intro hx
    obtain ⟨i, hi, rfl⟩ := List.mem_map.1 hx
    have hi' := List.mem_range.1 hi
    have hb := on_node h hm k (i : Int)
    refine ⟨h1, (onD d0 d1 d2 m k (i : Int)).toNat, nodes_mem.2 ⟨by omega, i, hi', by omega⟩, ?_⟩
    rw [Int.toNat_of_nonneg hb.1]
  · rintro ⟨_, o, ho, rfl⟩
    obtain ⟨_, i, hi, e⟩ := nodes_mem.1 ho
    exact List.mem_map.2 ⟨i, List.mem_range.2 hi, by rw [e]⟩

/-- What is handed out, at most so many, sorted. -/
theorem sort_out {d0 d1 d2 m : Int} (h : mayD d0 d1 d2) (hm : 0 ≤ m ∧ m < d0 * d1 * d2) (k : Fin 3) {mo : Nat} (hk : (mo : Int) ≤ dimAt d0 d1 d2 k) :
    (((outW d0 d1 d2 m k).take mo).mergeSort fun x y => decide (x ≤ y)) = cablesW d0 d1 d2 m k mo := by
  unfold outW
  split
  · rename_i h1
    rw [seqW_take _ _ _ _ _ (by omega)]
    exact sort_rise (seq_perm h hm k hk h1) (cables_rise d0 d1 d2 m k mo)
  · rename_i h1
    unfold cablesW
    rw [if_neg h1]
    simp

end Go.Proofs.YtbedhpooeabehaaDoor

/-
  A statement whose order the language leaves open and whose callees make memory: each operation keeps a word of its own, which lasts in every later world; so, in whatever order, at the end all words hold.
-/
namespace Go.Proofs.YtbedhpooeabehaaDoor
open Go Go.RowKit Go.Shelf

section
variable {F : Fence} {n : Nat} {P : Program}

/-- How many are not listed yet. -/
theorem count_set : ∀ (l : List Bool) (i : Nat), l[i]? = some false → (l.set i true).count false + 1 = l.count false
  | [], _, h => by simp at h
  | b :: l, 0, h => by simp at h; subst h; simp
  | b :: l, i + 1, h => by
    simp at h
    have := count_set l i h
    simp [List.count_cons]
    omega

def dstOf (l : List Oper) (i : Nat) : Nat := match l[i]? with | some o => o.dst.getD 0 | none => 0
/-- Each operation writes a slot of its own, below number m; none is guarded; none defers. -/
def soloB (l : List Oper) (m : Nat) : Bool := (l.all fun o => o.guard.isNone && o.dst.isSome) && ((List.range l.length).all fun i => decide (dstOf l i < m) && (List.range l.length).all fun j => i == j || dstOf l i != dstOf l j) && noDefer l.toArray && beginB l l.length

/-- The frame a holds, outside the slots that the region writes, what a0 does. -/
structure Like (l : List Oper) (a0 a : Act) : Prop where
  size : a.tmps.size = a0.tmps.size
  defers : a.defers = a0.defers
  out : ∀ t, (∀ i, i < l.length → dstOf l i ≠ t) → a.tmps[t]? = a0.tmps[t]?

abbrev slot (l : List Oper) (a : Act) (i : Nat) : Value := a.tmps.getD (dstOf l i) undef

/-- What an operation comes to: a value, or a call. -/
def Comes (P : Program) (o : Oper) (a : Act) (w : World) (R : Value → World → Prop) : Prop :=
  (∃ v, (execOp a.eval o).run P w = .ok (.value v) w ∧ R v w) ∨ (∃ f args, (execOp a.eval o).run P w = .ok (.enter f args) w ∧ Calls P f args w fun e w' => ∃ v, e = .returned v ∧ Below w.heap.size w w' ∧ R v w')

theorem put_at {a : Act} {d : Nat} {v : Value} (h : d < a.tmps.size) : (a.put (some d) v).tmps.getD d undef = v := by
  simp [Act.put, Array.getD, h]
theorem put_ne {a : Act} {d t : Nat} {v : Value} (h : d ≠ t) : (a.put (some d) v).tmps[t]? = a.tmps[t]? := by
  simp [Act.put, Array.getElem?_setIfInBounds_ne h]
theorem getD_ne {a : Act} {d t : Nat} {v : Value} (h : d ≠ t) : (a.put (some d) v).tmps.getD t undef = a.tmps.getD t undef := by
  rw [Array.getD_eq_getD_getElem?, Array.getD_eq_getD_getElem?, put_ne h]

theorem solo_at {l : List Oper} {m i : Nat} {o : Oper} (h : soloB l m = true) (hi : l[i]? = some o) : o.guard = none ∧ o.dst = some (dstOf l i) ∧ dstOf l i < m ∧ ∀ j, j < l.length → j ≠ i → dstOf l i ≠ dstOf l j := by
  simp only [soloB, Bool.and_eq_true] at h
  obtain ⟨⟨⟨h1, h2⟩, _⟩, _⟩ := h
  obtain ⟨hlt, he⟩ := List.getElem?_eq_some_iff.1 hi
  have k1 := List.all_eq_true.1 h1 o (he ▸ List.getElem_mem hlt)
  simp only [Bool.and_eq_true, Option.isNone_iff_eq_none] at k1
  have k2 := List.all_eq_true.1 h2 i (List.mem_range.2 hlt)
  simp only [Bool.and_eq_true, decide_eq_true_eq] at k2
  refine ⟨k1.1, ?_, k2.1, fun j hj hne => ?_⟩
  · obtain ⟨d, hd⟩ := Option.isSome_iff_exists.1 k1.2
    simp [dstOf, hi, hd]
  · have := List.all_eq_true.1 k2.2 j (List.mem_range.2 hj)
    simp only [Bool.or_eq_true, beq_iff_eq, bne_iff_ne] at this
    rcases this with e | e
    · exact absurd e.symm hne
    · exact e

variable {l : List Oper} {a0 : Act} {w0 : World} {Q : Exit → Act → World → Prop} {S : Nat → Value → World → Prop}

theorem any_loud (hF : Loose F P) (hB : soloB l a0.tmps.size = true)
    (hS : ∀ i v w w', S i v w → Below w.heap.size w w' → S i v w')
    (hop : ∀ (i : Nat) (o : Oper), l[i]? = some o → ∀ (a : Act) (w : World), Below w0.heap.size w0 w → Like l a0 a → (∀ e ∈ o.after, Region.binds .any e = true → S e.on (slot l a e.on) w) → Comes P o a w (S i))
    (hend : ∀ (a : Act) (w : World), Below w0.heap.size w0 w → Like l a0 a → (∀ i, i < l.length → S i (slot l a i) w) → Q .normal a w) :
    ∀ (f : Nat) (L : Array Bool) (a : Act) (w : World), L.size = l.length → L.toList.count false ≤ f → Below w0.heap.size w0 w → Like l a0 a → (∀ i, L.getD i false = true → S i (slot l a i) w) → wpAnyIn F n P .any l.toArray Q f L a w := by
  have hbeg : beginB l l.length = true := (Bool.and_eq_true_iff.1 hB).2
  have hnd : noDefer l.toArray = true := (Bool.and_eq_true_iff.1 (Bool.and_eq_true_iff.1 hB).1).2
  have htake : l.take l.length = l := List.take_length
  have fin : ∀ (L : Array Bool) (a : Act) (w : World), L.size = l.length → Region.ready .any l.toArray L = [] → Below w0.heap.size w0 w → Like l a0 a → (∀ i, L.getD i false = true → S i (slot l a i) w) → Q .normal a w := by
    intro L a w hs hr hT hL hA
    have hfull := full_of_none (l := l) (m := l.length) hbeg hs (by rw [htake]; exact hr)
    refine hend a w hT hL fun i hi => hA i ?_
    rw [hfull]
    simp [Array.getD, hi]
  intro f
  induction f with
  | zero =>
    intro L a w hs hc hT hL hA
    have hall : Region.ready .any l.toArray L = [] := by
      apply List.eq_nil_iff_forall_not_mem.2
      intro i hi
      obtain ⟨h1, _⟩ := mem_ready.1 hi
      have h0 : L.toList.count false = 0 := by omega
      rw [List.count_eq_zero] at h0
      refine h0 ?_
      by_cases hlt : i < L.size
      · rw [Array.getD, dif_pos hlt] at h1
        rw [← h1]
        exact Array.getElem_mem_toList hlt
      · rw [Array.getD, dif_neg hlt] at h1; cases h1
    exact ⟨hall, fin L a w hs hall hT hL hA⟩
  | succ f ih =>
    intro L a w hs hc hT hL hA
    refine ⟨fun hr => fin L a w hs hr hT hL hA, fun i hi => ?_⟩
    obtain ⟨h1, o, ho, hall⟩ := mem_ready.1 hi
    have hol : l[i]? = some o := by simpa using ho
    have hil : i < l.length := (List.getElem?_eq_some_iff.1 hol).1
    obtain ⟨hg, hd, hlt, hne⟩ := solo_at hB hol
    have hcome := hop i o hol a w hT hL (fun e he hb => hA e.on (hall e he hb))
    have hnot : L.toList[i]? = some false := by
      have hlt' : i < L.size := by omega
      rw [Array.getD, dif_pos hlt'] at h1
      rw [Array.getElem?_toList, Array.getElem?_eq_getElem hlt']
      exact congrArg some h1
    have hnext : ∀ (v : Value) (w' : World), Below w.heap.size w w' → S i v w' → wpAnyIn F n P .any l.toArray Q f (L.setIfInBounds i true) (a.put o.dst v) w' := by
      intro v w' hB' hv
      rw [hd]
      refine ih _ _ w' (by simpa using hs) ?_ (then_below hT hB') ⟨?_, ?_, ?_⟩ ?_
      · have := count_set L.toList i hnot
        rw [Array.toList_setIfInBounds]
        omega
      · simp [Act.put]; exact hL.size
      · simp [Act.put]; exact hL.defers
      · intro t ht
        rw [put_ne (ht i hil)]
        exact hL.out t ht
      · intro j hj
        by_cases hij : j = i
        · subst hij
          show S j ((a.put (some (dstOf l j)) v).tmps.getD (dstOf l j) undef) w'
          rw [put_at (by rw [hL.size]; exact hlt)]
          exact hv
        · have hjl : L.getD j false = true := by
            rw [Array.getD_eq_getD_getElem?, Array.getElem?_setIfInBounds_ne (Ne.symm hij), ← Array.getD_eq_getD_getElem?] at hj
            exact hj
          have hjlt : j < l.length := by
            rcases Nat.lt_or_ge j L.size with h | h
            · omega
            · rw [Array.getD, dif_neg (by omega)] at hjl; cases hjl
          show S j ((a.put (some (dstOf l i)) v).tmps.getD (dstOf l j) undef) w'
          rw [getD_ne (hne j hjlt hij)]
          exact hS _ _ _ _ (hA j hjl) hB'
    have hfn : ∀ f, o.about P w a.eval = some f → F.fn f := fun f _ => hF.fn f
    simp only [wpOpIn, ho, Region.wanted, hg, if_true]
    refine ⟨hfn, ?_⟩
    rw [Oper.semAt_eq _ _ _ (noDefer_spec hnd ho)]
    rcases hcome with ⟨v, e, hv⟩ | ⟨g, args, e, hc'⟩
    · rw [e]; exact hnext v w (Below.refl _ _) hv
    · rw [e]
      refine ⟨fun hx => (hF.depth hx).elim, hF.calls _ _ _ _ _ (hc'.mono ?_)⟩
      rintro x w' ⟨v, rfl, hB', hv⟩
      exact hnext v w' hB' hv

/-- All slots of the region, put one behind the other in the text's order. -/
theorem like_puts {a : Act} (hL : Like l a0 a) : a = (List.range l.length).foldl (fun b i => b.put (some (dstOf l i)) (slot l a i)) a0 := by
  have key : ∀ k, k ≤ l.length → ∀ b, b = (List.range k).foldl (fun b i => b.put (some (dstOf l i)) (slot l a i)) a0 → b.tmps.size = a0.tmps.size ∧ b.defers = a0.defers ∧ ∀ t, t < a0.tmps.size → b.tmps[t]? = if (∃ i, i < k ∧ dstOf l i = t) then a.tmps[t]? else a0.tmps[t]? := by
    intro k
    induction k with
    | zero => rintro _ b rfl; simp
    | succ k ih =>
      rintro hk b rfl
      obtain ⟨h1, h2, h3⟩ := ih (by omega) _ rfl
      rw [List.range_succ, List.foldl_append]
      simp only [List.foldl_cons, List.foldl_nil]
      generalize (List.range k).foldl (fun b i => b.put (some (dstOf l i)) (slot l a i)) a0 = b at h1 h2 h3
      refine ⟨by simp [Act.put, h1], by simp [Act.put, h2], fun t ht => ?_⟩
      by_cases hd : dstOf l k = t
      · rw [if_pos ⟨k, by omega, hd⟩]
        subst hd
        have hlt : dstOf l k < b.tmps.size := by omega
        have hlt2 : dstOf l k < a.tmps.size := by rw [hL.size]; omega
        simp [Act.put, slot, Array.getD, hlt, hlt2]
      · rw [put_ne hd, h3 t ht]
        by_cases he : ∃ i, i < k ∧ dstOf l i = t
        · obtain ⟨i, hi, hit⟩ := he
          rw [if_pos ⟨i, hi, hit⟩, if_pos ⟨i, by omega, hit⟩]
        · rw [if_neg he, if_neg]
          rintro ⟨i, hi, hit⟩
          rcases Nat.lt_succ_iff_lt_or_eq.1 hi with h | rfl
          · exact he ⟨i, h, hit⟩
          · exact hd hit
  obtain ⟨h1, h2, h3⟩ := key l.length (Nat.le_refl _) _ rfl
  generalize (List.range l.length).foldl (fun b i => b.put (some (dstOf l i)) (slot l a i)) a0 = b at h1 h2 h3
  have ht : a.tmps = b.tmps := by
    apply Array.ext_getElem?
    intro t
    by_cases hlt : t < a0.tmps.size
    · rw [h3 t hlt]
      by_cases he : ∃ i, i < l.length ∧ dstOf l i = t
      · rw [if_pos he]
      · rw [if_neg he]
        exact hL.out t fun i hi hit => he ⟨i, hi, hit⟩
    · rw [Array.getElem?_eq_none (by rw [hL.size]; omega), Array.getElem?_eq_none (by omega)]
  have hd : a.defers = b.defers := by rw [hL.defers, h2]
  cases a; cases b; simp_all

/-- In whatever order: each operation's word holds at the end. -/
theorem wp_region_loud {id : Nat} (S : Nat → Value → World → Prop) (hm : P.follows .mixedOrders = true) (hB : soloB l a0.tmps.size = true)
    (hS : ∀ i v w w', S i v w → Below w.heap.size w w' → S i v w')
    (hop : ∀ (i : Nat) (o : Oper), l[i]? = some o → ∀ (a : Act) (w : World), Below w0.heap.size w0 w → Like l a0 a → (∀ e ∈ o.after, Region.binds .any e = true → S e.on (slot l a e.on) w) → Comes P o a w (S i))
    (hend : ∀ (v : Nat → Value) (w : World), Below w0.heap.size w0 w → (∀ i, i < l.length → S i (v i) w) → Q .normal ((List.range l.length).foldl (fun b i => b.put (some (dstOf l i)) (v i)) a0) w) :
    (Code.region id l.toArray true).wp P Q a0 w0 := by
  refine (wpIn_wide (n := 0)).1 (wpIn_region_any hm ?_)
  refine any_loud (loose_wide P) hB hS hop (fun a w hT hL hA => ?_) _ _ _ _ (by simp) (by simp) ((Below.refl _ w0).drew) ⟨rfl, rfl, fun _ _ => rfl⟩ (fun i hi => ?_)
  · rw [like_puts hL]
    exact hend (slot l a) w hT hA
  · exfalso
    rw [Array.getD_eq_getD_getElem?] at hi
    simp [Array.getElem?_replicate] at hi
    split at hi <;> simp at hi
end
end Go.Proofs.YtbedhpooeabehaaDoor

/-
  wire.Line, wire.Run: the cables of a line, and those that a run takes, rising, in new memory; for every input.
-/
namespace Go.Proofs.YtbedhpooeabehaaDoor
open Go Go.RowKit Go.Shelf

attribute [local go_sem] Oper.semAt_some ext_const

/-- A line that is handed out, wherever its three variables lie. -/
def IsLine (d0 d1 d2 axis m : Int) (v : Value) (w : World) : Prop :=
  ∃ B : Nat, v = .func (.func 73) #[] #[.pointer (some ⟨B, 0, none⟩), .pointer (some ⟨B + 1, 0, none⟩), .pointer (some ⟨B + 1 + 1, 0, none⟩)] ∧
    Blk w B 26 #[I d0, I d1, I d2] ∧ Blk w (B + 1) 3 #[I axis] ∧ Blk w (B + 1 + 1) 3 #[I m]
theorem IsLine.later {d0 d1 d2 axis m : Int} {v : Value} {w w' : World} (h : IsLine d0 d1 d2 axis m v w) (hB : Below w.heap.size w w') : IsLine d0 d1 d2 axis m v w' := by
  obtain ⟨B, e, h0, h1, h2⟩ := h
  exact ⟨B, e, h0.later hB, h1.later hB, h2.later hB⟩

theorem line_is (d0 d1 d2 axis m : Int) (w : World) :
    Calls Tryd.prog 68 #[A3 d0 d1 d2, I axis, I m] w fun e w' => ∃ v, e = .returned v ∧ Below w.heap.size w w' ∧ IsLine d0 d1 d2 axis m v w' := by
  refine (line_calls d0 d1 d2 axis m w).mono ?_
  rintro e w' ⟨rfl, rfl⟩
  refine ⟨_, rfl, (((Below.refl _ w).alloc (Nat.le_refl _) _).alloc (by simp) _).alloc (by simp; omega) _, w.heap.size, rfl, ((Blk.new w _ _).alloc _).alloc _, ?_, ?_⟩
  · have := (Blk.new (w.alloc (.cells #[I d0, I d1, I d2] 26)) 3 #[I axis]).alloc (.cells #[I m] 3)
    simpa using this
  · have := Blk.new ((w.alloc (.cells #[I d0, I d1, I d2] 26)).alloc (.cells #[I axis] 3)) 3 #[I m]
    simpa using this

/-- wire.rising over a line. -/
theorem rising_is {d0 d1 d2 m z : Int} (hm : mayD d0 d1 d2) (hn : 0 ≤ m ∧ m < d0 * d1 * d2) (k : Fin 3) (hz : 0 ≤ z ∧ z ≤ dimAt d0 d1 d2 k) {v : Value} (w : World) (hv : IsLine d0 d1 d2 (axI k) m v w) :
    Calls Tryd.prog 67 #[v, I z] w fun e W' => ∃ u, e = .returned u ∧ Lst W' w.heap.size u (cablesW d0 d1 d2 m k z.toNat) ∧ Below w.heap.size w W' := by
  obtain ⟨B, rfl, h0, h1, h2⟩ := hv
  obtain ⟨mo, rfl⟩ : ∃ mo : Nat, z = (mo : Int) := ⟨z.toNat, by omega⟩
  have hk := dimAt_ok hm k
  unfold okD at hk
  refine (rising_calls hm hn k mo (by omega) B (B + 1) (B + 1 + 1) w h0.lt h1.lt h2.lt h0 h1 h2).mono ?_
  rintro e W' ⟨u, rfl, hL, hB⟩
  rw [sort_out hm hn k (by omega)] at hL
  exact ⟨u, rfl, by rw [Int.toNat_natCast]; exact hL, hB⟩

set_option maxHeartbeats 400000 in
theorem wrun_ref {d0 d1 d2 axis m e : Int} (long : Int) (torus : Bool) (w : World) (h : Refused d0 d1 d2 axis m e) :
    Calls Tryd.prog 56 #[A3 d0 d1 d2, I axis, I m, I long, .bool torus] w fun x W' => x = .returned (.tuple #[.slice none 0 0, I e]) ∧ Below w.heap.size w W' := by
  have he := h.ne
  have H : Hid (Refused d0 d1 d2 axis m e) := h
  clear h
  go_enter Tryd.func56, Tryd.ntmps56
  go_wp2_with fail
  refine (checkl_ref _ H.out).mono ?_
  rintro x w1 ⟨rfl, hB⟩
  go_wp2
  go_ret2
  exact ⟨rfl, then_below ((Below.refl _ w).alloc (Nat.le_refl _) _) hB⟩

/-- What each operation of wire.Line's last statement keeps. -/
def wordL (d0 d1 d2 m axis dim : Int) (Bn off base : Nat) (X : List Int) (i : Nat) (v : Value) (w : World) : Prop :=
  match i with
  | 0 => v = A3 d0 d1 d2
  | 1 => v = I axis
  | 2 => v = I m
  | 3 => IsLine d0 d1 d2 axis m v w
  | 4 => v = I axis
  | 5 => v = .pointer (some ⟨Bn, off, none⟩)
  | 6 => v = I dim
  | 7 => Lst w base v X
  | 8 => Lst w base v X
  | 9 => v = I 0
  | _ => False
theorem wordL_later {d0 d1 d2 m axis dim : Int} {Bn off base : Nat} {X : List Int} (i : Nat) (v : Value) (w w' : World) (h : wordL d0 d1 d2 m axis dim Bn off base X i v w) (hB : Below w.heap.size w w') : wordL d0 d1 d2 m axis dim Bn off base X i v w' := by
  match i, h with
  | 0, h => exact h
  | 1, h => exact h
  | 2, h => exact h
  | 3, h => exact h.later hB
  | 4, h => exact h
  | 5, h => exact h
  | 6, h => exact h
  | 7, h => exact h.later hB
  | 8, h => exact h.later hB
  | 9, h => exact h
  | n + 10, h => exact h.elim

end Go.Proofs.YtbedhpooeabehaaDoor

/-
  wire.Run: the cables that a run takes, rising, in new memory; for every input.
-/
namespace Go.Proofs.YtbedhpooeabehaaDoor
open Go Go.RowKit Go.Shelf

attribute [local go_sem] Oper.semAt_some ext_const

set_option maxHeartbeats 1000000 in
theorem wrun_no {d0 d1 d2 axis m long : Int} (torus : Bool) (w : World) (hm : mayD d0 d1 d2) (hn : 0 ≤ m ∧ m < d0 * d1 * d2) {k : Fin 3} (hk : axis = axI k) (hl : ¬ (1 ≤ long ∧ long ≤ dimAt d0 d1 d2 k)) :
    Calls Tryd.prog 56 #[A3 d0 d1 d2, I axis, I m, I long, .bool torus] w fun x W' => x = .returned (.tuple #[.slice none 0 0, I 2]) ∧ Below w.heap.size w W' := by
  subst hk
  have HC : Hid (∀ w, Calls Tryd.prog 66 #[A3 d0 d1 d2, I (axI k), I m] w fun x W' => x = .returned (I 0) ∧ Below w.heap.size w W') := fun w => checkl_yes w hm hn rfl
  clear hn
  by_cases h1 : long < 1
  · clear hl
    go_enter Tryd.func56, Tryd.ntmps56
    go_wp2_with fail
    refine (HC.out _).mono ?_
    rintro x w1 ⟨rfl, hB⟩
    have hB1 := then_below ((Below.refl _ w).alloc (Nat.le_refl _) (.cells #[I d0, I d1, I d2] 26)) hB
    go_wp2
    go_ret2
    exact ⟨rfl, hB1⟩
  · have h2 : dimAt d0 d1 d2 k < long := by omega
    clear hl
    rcases fin3 k with rfl | rfl | rfl
    all_goals
      simp only [axI, dimAt] at *
      go_enter Tryd.func56, Tryd.ntmps56
      go_wp2_with fail
      refine (HC.out _).mono ?_
      rintro x w1 ⟨rfl, hB⟩
      have hB1 := then_below ((Below.refl _ w).alloc (Nat.le_refl _) (.cells #[I d0, I d1, I d2] 26)) hB
      have g0 := (Blk.new w 26 #[I d0, I d1, I d2]).later hB
      have c0 := g0.cell 0
      have c1 := g0.cell 1
      have c2 := g0.cell 2
      simp at c0 c1 c2
      go_wp2
      go_ret2
      exact ⟨rfl, hB1⟩

/-- From how many midplanes on the cables that a run takes go. -/
def mostW (dim long : Int) (torus : Bool) : Int := if torus = true ∧ 1 < long then dim else long - 1

set_option maxRecDepth 100000 in
set_option maxHeartbeats 4000000 in
theorem wrun_yes {d0 d1 d2 axis m long : Int} (torus : Bool) (w : World) (hm : mayD d0 d1 d2) (hn : 0 ≤ m ∧ m < d0 * d1 * d2) {k : Fin 3} (hk : axis = axI k) (hl : 1 ≤ long ∧ long ≤ dimAt d0 d1 d2 k) :
    Calls Tryd.prog 56 #[A3 d0 d1 d2, I axis, I m, I long, .bool torus] w fun e W' => ∃ v, e = .returned (.tuple #[v, I 0]) ∧ Lst W' w.heap.size v (cablesW d0 d1 d2 m k (mostW (dimAt d0 d1 d2 k) long torus).toNat) ∧ Below w.heap.size w W' := by
  subst hk
  have hok := dimAt_ok hm k
  unfold okD at hok
  have HC : Hid (∀ w, Calls Tryd.prog 66 #[A3 d0 d1 d2, I (axI k), I m] w fun x W' => x = .returned (I 0) ∧ Below w.heap.size w W') := fun w => checkl_yes w hm hn rfl
  have HL : Hid (∀ w, Calls Tryd.prog 68 #[A3 d0 d1 d2, I (axI k), I m] w fun e w' => ∃ v, e = .returned v ∧ Below w.heap.size w w' ∧ IsLine d0 d1 d2 (axI k) m v w') := fun w => line_is d0 d1 d2 (axI k) m w
  have hmb : 0 ≤ mostW (dimAt d0 d1 d2 k) long torus ∧ mostW (dimAt d0 d1 d2 k) long torus ≤ dimAt d0 d1 d2 k := by unfold mostW; split <;> omega
  have HR : Hid (∀ v w, IsLine d0 d1 d2 (axI k) m v w → Calls Tryd.prog 67 #[v, I (mostW (dimAt d0 d1 d2 k) long torus)] w fun e W' => ∃ u, e = .returned u ∧ Lst W' w.heap.size u (cablesW d0 d1 d2 m k (mostW (dimAt d0 d1 d2 k) long torus).toNat) ∧ Below w.heap.size w W') := fun v w hv => rising_is hm hn k hmb w hv
  have hcase : (torus = true ∧ 1 < long ∧ mostW (dimAt d0 d1 d2 k) long torus = dimAt d0 d1 d2 k) ∨ (torus = true ∧ long = 1 ∧ mostW (dimAt d0 d1 d2 k) long torus = 0) ∨ (torus = false ∧ mostW (dimAt d0 d1 d2 k) long torus = long - 1) := by
    unfold mostW
    cases torus
    · exact .inr (.inr ⟨rfl, by simp⟩)
    · by_cases h : 1 < long
      · exact .inl ⟨rfl, h, by simp [h]⟩
      · exact .inr (.inl ⟨rfl, by omega, by simp [h]; omega⟩)
  generalize mostW (dimAt d0 d1 d2 k) long torus = z at *
  generalize cablesW d0 d1 d2 m k z.toNat = X at *
  clear hn hmb
  obtain ⟨hl1, hl2⟩ := hl
  rcases hcase with ⟨rfl, h1, rfl⟩ | ⟨rfl, rfl, rfl⟩ | ⟨rfl, rfl⟩
  all_goals rcases fin3 k with rfl | rfl | rfl
  all_goals
    simp only [axI, dimAt] at *
    go_enter Tryd.func56, Tryd.ntmps56
    go_wp2_with fail
    refine (HC.out _).mono ?_
    rintro x w1 ⟨rfl, hB⟩
    have hB1 := then_below ((Below.refl _ w).alloc (Nat.le_refl _) (.cells #[I d0, I d1, I d2] 26)) hB
    have g0 := (Blk.new w 26 #[I d0, I d1, I d2]).later hB
    have c0 := g0.cell 0
    have c1 := g0.cell 1
    have c2 := g0.cell 2
    simp at c0 c1 c2
    go_wp2_with fail
    refine (HL.out _).mono ?_
    rintro x w2 ⟨v, rfl, hB2, hv⟩
    go_wp2_with fail
    refine (HR.out _ _ hv).mono ?_
    rintro x w3 ⟨u, rfl, hX, hB3⟩
    go_wp2
    go_ret2
    exact ⟨_, rfl, hX.weak (then_below hB1 hB2).size, then_below (then_below hB1 hB2) hB3⟩

end Go.Proofs.YtbedhpooeabehaaDoor
