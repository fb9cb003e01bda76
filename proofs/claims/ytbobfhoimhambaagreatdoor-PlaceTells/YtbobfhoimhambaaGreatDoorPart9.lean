/-
  A box's midplanes, rising, are its coordinates gone through axis by axis, the first innermost.
-/
import Derived.Test.YtbobfhoimhambaaGreatDoorPart6
import Derived.Test.YtbobfhoimhambaaGreatDoorPart8
import Derived.Test.YtbobfhoimhambaaGreatDoorPart5
import Derived.Test.YtbobfhoimhambaaGreatDoorPart1
namespace Go.Proofs.YtbobfhoimhambaaGreatDoor

theorem range_mul (n m : Nat) : List.range (n * m) = (List.range m).flatMap fun q => (List.range n).map fun r => r + n * q := by
  induction m with
  | zero => simp
  | succ m ih =>
    rw [Nat.mul_succ, List.range_add, ih, List.range_succ, List.flatMap_append]
    congr 1
    simp [Nat.add_comm]
theorem flatMap_if {α β : Type} (p : α → Bool) (f : α → List β) : ∀ l : List α, (l.flatMap fun a => if p a then f a else []) = (l.filter p).flatMap f
  | [] => rfl
  | a :: l => by
    have ih := flatMap_if p f l
    cases h : p a <;> simp [h, ih]
theorem flatMap_same {α β : Type} {f g : α → List β} : ∀ {l : List α}, (∀ a ∈ l, f a = g a) → l.flatMap f = l.flatMap g
  | [], _ => rfl
  | a :: l, h => by
    simp only [List.flatMap_cons]
    rw [h a (by simp), flatMap_same (fun b hb => h b (by simp [hb]))]

theorem nodesB_flat {d0 d1 d2 : Int} {b : Bx} (hm : mayD d0 d1 d2) :
    (coordsS d2 b.z b.c).flatMap (fun z => (coordsS d1 b.y b.b).flatMap fun y => (coordsS d0 b.x b.a).map fun x => numD d0 d1 x y z) = nodesB d0 d1 d2 b := by
  have hm' := hm
  obtain ⟨h0, h1, h2⟩ := hm'
  unfold okD at h0 h1 h2
  obtain ⟨D0, rfl⟩ := Int.eq_ofNat_of_zero_le (show 0 ≤ d0 by omega)
  obtain ⟨D1, rfl⟩ := Int.eq_ofNat_of_zero_le (show 0 ≤ d1 by omega)
  obtain ⟨D2, rfl⟩ := Int.eq_ofNat_of_zero_le (show 0 ≤ d2 by omega)
  have hN : ((D0 : Int) * D1 * D2).toNat = D0 * (D1 * D2) := by
    have h : ((D0 : Int) * D1 * D2) = ((D0 * (D1 * D2) : Nat) : Int) := by push_cast; rw [Int.mul_assoc]
    rw [h, Int.toNat_natCast]
  have hR : List.range (D0 * (D1 * D2)) = (List.range D2).flatMap fun z => (List.range D1).flatMap fun y => (List.range D0).map fun x => x + D0 * (y + D1 * z) := by
    rw [range_mul D0, range_mul D1, List.flatMap_assoc]
    simp only [List.flatMap_map]
  unfold nodesB nodesTo
  rw [hN, hR, List.filter_flatMap, List.map_flatMap]
  unfold coordsS coordsTo
  simp only [Int.toNat_natCast]
  rw [List.flatMap_map, ← flatMap_if]
  refine flatMap_same fun z hz => ?_
  have hz := List.mem_range.1 hz
  rw [List.filter_flatMap, List.map_flatMap]
  cases hcz : hasS D2 b.z b.c z
  · simp only [Bool.false_eq_true, if_false]
    symm
    rw [List.flatMap_eq_nil_iff]
    intro y hy
    have hy := List.mem_range.1 hy
    rw [List.map_eq_nil_iff, List.filter_eq_nil_iff]
    intro m hmm
    obtain ⟨x, hx, rfl⟩ := List.mem_map.1 hmm
    have hx := List.mem_range.1 hx
    have := hasB_num (b := b) hm (p := x) (q := y) (r := z) ⟨by omega, by omega, by omega⟩
    rw [show (((x + D0 * (y + D1 * z) : Nat)) : Int) = numD D0 D1 x y z by unfold numD; push_cast; rfl, this, hcz]
    simp
  · simp only [if_true]
    rw [List.flatMap_map, ← flatMap_if]
    refine flatMap_same fun y hy => ?_
    have hy := List.mem_range.1 hy
    have hnum : ∀ x, x < D0 → hasB D0 D1 D2 b ((x + D0 * (y + D1 * z) : Nat) : Int) = (hasS D0 b.x b.a x && hasS D1 b.y b.b y) := by
      intro x hx
      have := hasB_num (b := b) hm (p := x) (q := y) (r := z) ⟨by omega, by omega, by omega⟩
      rw [show (((x + D0 * (y + D1 * z) : Nat)) : Int) = numD D0 D1 x y z by unfold numD; push_cast; rfl, this, hcz, Bool.and_true]
    rw [List.filter_map, List.map_map, List.map_map]
    cases hcy : hasS D1 b.y b.b y
    · simp only [Bool.false_eq_true, if_false]
      symm
      rw [List.map_eq_nil_iff, List.filter_eq_nil_iff]
      intro x hx
      rw [Function.comp, hnum x (List.mem_range.1 hx), hcy]
      simp
    · simp only [if_true]
      rw [show (List.range D0).filter ((fun m : Nat => hasB D0 D1 D2 b m) ∘ fun x => x + D0 * (y + D1 * z)) = (List.range D0).filter (fun j : Nat => hasS D0 b.x b.a j) from List.filter_congr fun x hx => by
        rw [Function.comp, hnum x (List.mem_range.1 hx), hcy, Bool.and_true]]
      refine List.map_congr_left fun x _ => ?_
      simp [Function.comp, numD]

theorem coordsS_get {r b s : Int} (hr : 0 ≤ r) {k : Nat} (hk : k < (coordsS r b s).length) : 0 ≤ (coordsS r b s).getD k 0 ∧ (coordsS r b s).getD k 0 < r := by
  have hmem : (coordsS r b s).getD k 0 ∈ coordsS r b s := by
    rw [show (coordsS r b s).getD k 0 = (coordsS r b s)[k] by simp [hk]]; exact List.getElem_mem hk
  generalize (coordsS r b s).getD k 0 = x at hmem
  simp only [coordsS, coordsTo, List.mem_map, List.mem_filter, List.mem_range] at hmem
  obtain ⟨j, ⟨h1, _⟩, rfl⟩ := hmem
  omega
theorem coordsS_len {r b s : Int} (hr : r ≤ 16) : (coordsS r b s).length ≤ 16 := by
  have := coordsTo_len r b s r.toNat
  unfold coordsS
  omega

section
variable (d0 d1 : Int) (X Y Z T : List Int)
def rowG (z y : Int) : List Int := X.map fun x => numD d0 d1 x y z
def rowF (z : Int) : List Int := Y.flatMap (rowG d0 d1 X z)
/-- What is gathered, and what is still to come: in the outer loop, the middle one, the inner one. -/
def eqO (L : List Int) (i : Nat) : Prop := L ++ (Z.drop i).flatMap (rowF d0 d1 X Y) = T
def eqM (L : List Int) (i j : Nat) : Prop := L ++ ((Y.drop j).flatMap (rowG d0 d1 X (Z.getD i 0)) ++ (Z.drop (i + 1)).flatMap (rowF d0 d1 X Y)) = T
def eqI (L : List Int) (i j k : Nat) : Prop :=
  L ++ ((X.drop k).map (fun x => numD d0 d1 x (Y.getD j 0) (Z.getD i 0)) ++ ((Y.drop (j + 1)).flatMap (rowG d0 d1 X (Z.getD i 0)) ++ (Z.drop (i + 1)).flatMap (rowF d0 d1 X Y))) = T
theorem drop_at {l : List Int} {i : Nat} (h : i < l.length) : l.drop i = l.getD i 0 :: l.drop (i + 1) := by
  rw [List.drop_eq_getElem_cons h]; simp [h]
variable {d0 d1 X Y Z T} {L : List Int} {i j k : Nat}
theorem eqO_in (hi : i < Z.length) (h : eqO d0 d1 X Y Z T L i) : eqM d0 d1 X Y Z T L i 0 := by
  unfold eqO at h; unfold eqM
  rw [drop_at hi, List.flatMap_cons] at h
  rw [List.drop_zero]; exact h
theorem eqM_in (hj : j < Y.length) (h : eqM d0 d1 X Y Z T L i j) : eqI d0 d1 X Y Z T L i j 0 := by
  unfold eqM at h; unfold eqI
  rw [drop_at hj, List.flatMap_cons, List.append_assoc] at h
  rw [List.drop_zero]; exact h
theorem eqI_step (hk : k < X.length) (h : eqI d0 d1 X Y Z T L i j k) : eqI d0 d1 X Y Z T (L ++ [numD d0 d1 (X.getD k 0) (Y.getD j 0) (Z.getD i 0)]) i j (k + 1) := by
  unfold eqI at h ⊢
  rw [drop_at hk, List.map_cons] at h
  rw [← h]
  simp
theorem eqI_out (hk : X.length ≤ k) (h : eqI d0 d1 X Y Z T L i j k) : eqM d0 d1 X Y Z T L i (j + 1) := by
  unfold eqI at h; unfold eqM
  rw [List.drop_of_length_le hk] at h; exact h
theorem eqM_out (hj : Y.length ≤ j) (h : eqM d0 d1 X Y Z T L i j) : eqO d0 d1 X Y Z T L (i + 1) := by
  unfold eqM at h; unfold eqO
  rw [List.drop_of_length_le hj] at h; exact h
theorem eqO_out (hi : Z.length ≤ i) (h : eqO d0 d1 X Y Z T L i) : L = T := by
  unfold eqO at h
  rw [List.drop_of_length_le hi] at h; simpa using h
theorem eqI_len (h : eqI d0 d1 X Y Z T L i j k) : L.length ≤ T.length := by
  have := congrArg List.length h
  simp only [List.length_append] at this
  omega
end

end Go.Proofs.YtbobfhoimhambaaGreatDoor

/-
  Plain arithmetic of places: how many midplanes a box has, and how many cables a place takes. No program is named here.
-/
namespace Go.Proofs.YtbobfhoimhambaaGreatDoor
open Go.RowKit

theorem flat_len {α β : Type} {f : α → List β} {c : Nat} : ∀ {l : List α}, (∀ a ∈ l, (f a).length = c) → (l.flatMap f).length = l.length * c
  | [], _ => by simp
  | a :: l, h => by
    rw [List.flatMap_cons, List.length_append, h a (by simp), flat_len (fun b hb => h b (by simp [hb])), List.length_cons, Nat.add_mul, Nat.one_mul, Nat.add_comm]

theorem coords_count {r b s : Int} (hr : r ≤ 16) (hb : 0 ≤ b ∧ b < r) (hs : 0 ≤ s ∧ s ≤ r) : (coordsS r b s).length = s.toNat := by
  obtain ⟨R, rfl⟩ := Int.eq_ofNat_of_zero_le (show 0 ≤ r by omega)
  obtain ⟨B, rfl⟩ := Int.eq_ofNat_of_zero_le hb.1
  obtain ⟨S, rfl⟩ := Int.eq_ofNat_of_zero_le hs.1
  unfold coordsS coordsTo
  rw [List.length_map, Int.toNat_natCast, Int.toNat_natCast]
  exact side_count R (by omega) B (by omega) S (by omega)

/-- A side that may be, or has nothing. -/
def sideOk (r b s : Int) : Prop := (0 ≤ b ∧ b < r) ∧ (0 ≤ s ∧ s ≤ r)
theorem nodes_count {d0 d1 d2 : Int} {b : Bx} (h : mayD d0 d1 d2) (hs : ∀ k, sideOk (dimAt d0 d1 d2 k) (bAt b k) (sAt b k)) : ((nodesB d0 d1 d2 b).length : Int) = b.a * b.b * b.c := by
  have h' := h
  obtain ⟨⟨_, u0⟩, ⟨_, u1⟩, _, u2⟩ := h'
  have s0 := hs 0
  have s1 := hs 1
  have s2 := hs 2
  have c0 := coords_count (r := d0) (b := b.x) (s := b.a) u0 s0.1 s0.2
  have c1 := coords_count (r := d1) (b := b.y) (s := b.b) u1 s1.1 s1.2
  have c2 := coords_count (r := d2) (b := b.z) (s := b.c) u2 s2.1 s2.2
  rw [← nodesB_flat h, flat_len (c := (coordsS d1 b.y b.b).length * (coordsS d0 b.x b.a).length) (fun z _ => flat_len (fun y _ => by rw [List.length_map])), c0, c1, c2]
  have e0 : (b.a.toNat : Int) = b.a := Int.toNat_of_nonneg s0.2.1
  have e1 : (b.b.toNat : Int) = b.b := Int.toNat_of_nonneg s1.2.1
  have e2 : (b.c.toNat : Int) = b.c := Int.toNat_of_nonneg s2.2.1
  rw [Int.natCast_mul, Int.natCast_mul, e0, e1, e2, Int.mul_comm b.c, Int.mul_comm b.b]

/-- The box of those midplanes from which the cables go that a place takes along an axis. -/
def boxK (d0 d1 d2 : Int) (b : Bx) (t0 t1 t2 : Bool) (k : Fin 3) : Bx := upB b (runS (dimAt d0 d1 d2 k) (sAt b k) (tK t0 t1 t2 k)) k
/-- A cable is taken. -/
def cabB (d0 d1 d2 : Int) (b : Bx) (t0 t1 t2 : Bool) (n : Int) : Bool :=
  let N := d0 * d1 * d2
  if n < N then hasB d0 d1 d2 (boxK d0 d1 d2 b t0 t1 t2 0) n else if n < 2 * N then hasB d0 d1 d2 (boxK d0 d1 d2 b t0 t1 t2 1) (n - N) else hasB d0 d1 d2 (boxK d0 d1 d2 b t0 t1 t2 2) (n - 2 * N)
theorem cabB_at {d0 d1 d2 o : Int} {b : Bx} {t0 t1 t2 : Bool} (ho : 0 ≤ o ∧ o < d0 * d1 * d2) (k : Fin 3) : cabB d0 d1 d2 b t0 t1 t2 (cabW d0 d1 d2 k o) = hasB d0 d1 d2 (boxK d0 d1 d2 b t0 t1 t2 k) o := by
  rcases fin3 k with rfl | rfl | rfl
  · have e : cabW d0 d1 d2 0 o = o := by unfold cabW; simp only [axI]; omega
    rw [e]
    unfold cabB
    rw [if_pos ho.2]
  · have e : cabW d0 d1 d2 1 o = d0 * d1 * d2 + o := by unfold cabW; simp only [axI]; omega
    rw [e]
    unfold cabB
    rw [if_neg (by omega), if_pos (by omega), show d0 * d1 * d2 + o - d0 * d1 * d2 = o by omega]
  · have e : cabW d0 d1 d2 2 o = 2 * (d0 * d1 * d2) + o := by unfold cabW; simp only [axI]
    rw [e]
    unfold cabB
    rw [if_neg (by omega), if_neg (by omega), show 2 * (d0 * d1 * d2) + o - 2 * (d0 * d1 * d2) = o by omega]

theorem nodesB_filter (d0 d1 d2 : Int) (b : Bx) : (nodesB d0 d1 d2 b).length = ((List.range (d0 * d1 * d2).toNat).filter fun m : Nat => hasB d0 d1 d2 b (m : Int)).length := by
  unfold nodesB nodesTo
  rw [List.length_map]
theorem filter_shift {N a : Nat} {p q : Nat → Bool} (h : ∀ o, o < N → p (a + o) = q o) : (((List.range N).map (a + ·)).filter p).length = ((List.range N).filter q).length := by
  rw [List.filter_map, List.length_map]
  congr 1
  exact List.filter_congr fun o ho => h o (List.mem_range.1 ho)
/-- How many cables a place takes. -/
theorem cab_count {d0 d1 d2 : Int} {b : Bx} {t0 t1 t2 : Bool} (h : mayD d0 d1 d2) :
    ((List.range (3 * (d0 * d1 * d2)).toNat).filter fun n : Nat => cabB d0 d1 d2 b t0 t1 t2 (n : Int)).length =
      (nodesB d0 d1 d2 (boxK d0 d1 d2 b t0 t1 t2 0)).length + (nodesB d0 d1 d2 (boxK d0 d1 d2 b t0 t1 t2 1)).length + (nodesB d0 d1 d2 (boxK d0 d1 d2 b t0 t1 t2 2)).length := by
  have hN := N_bd h
  have key : ∀ (k : Fin 3) (o : Int), 0 ≤ o ∧ o < d0 * d1 * d2 → cabB d0 d1 d2 b t0 t1 t2 (axI k * (d0 * d1 * d2) + o) = hasB d0 d1 d2 (boxK d0 d1 d2 b t0 t1 t2 k) o := fun k o ho => cabB_at ho k
  rw [nodesB_filter, nodesB_filter, nodesB_filter]
  obtain ⟨N, hNN⟩ := Int.eq_ofNat_of_zero_le (show 0 ≤ d0 * d1 * d2 by omega)
  rw [hNN] at key ⊢
  have e3 : (3 * ((N : Nat) : Int)).toNat = N + N + N := by omega
  rw [e3, Int.toNat_natCast, List.range_add, List.range_add, List.filter_append, List.filter_append, List.length_append, List.length_append]
  congr 1
  · congr 1
    · congr 1
      refine List.filter_congr fun o ho => ?_
      have ho := List.mem_range.1 ho
      have := key 0 (o : Int) (by omega)
      simp only [axI] at this
      rw [← this]
      congr 1
      omega
    · refine filter_shift fun o ho => ?_
      have := key 1 (o : Int) (by omega)
      simp only [axI] at this
      rw [← this]
      congr 1
      push_cast
      omega
  · refine filter_shift fun o ho => ?_
    have := key 2 (o : Int) (by omega)
    simp only [axI] at this
    rw [← this]
    congr 1
    push_cast
    omega

end Go.Proofs.YtbobfhoimhambaaGreatDoor

/-
  Plain arithmetic of places: which midplanes a place passes; places whose boxes do not meet. No program is named here.
-/
namespace Go.Proofs.YtbobfhoimhambaaGreatDoor
open Go.RowKit

/-- A place takes the cable from a midplane along an axis. -/
def takes (d0 d1 d2 : Int) (b : Bx) (t0 t1 t2 : Bool) (k : Fin 3) (m : Int) : Bool := hasB d0 d1 d2 (boxK d0 d1 d2 b t0 t1 t2 k) m
/-- It passes a midplane. -/
def passB (d0 d1 d2 : Int) (b : Bx) (t0 t1 t2 : Bool) (m : Int) : Prop :=
  hasB d0 d1 d2 b m = false ∧ ∃ k, 1 < dimAt d0 d1 d2 k ∧ (takes d0 d1 d2 b t0 t1 t2 k m = true ∨ takes d0 d1 d2 b t0 t1 t2 k (onD d0 d1 d2 m k (-1)) = true)
/-- It is a torus along an axis and not as long as the dimension. -/
def opens (d0 d1 d2 : Int) (b : Bx) (t0 t1 t2 : Bool) (k : Fin 3) : Prop := tK t0 t1 t2 k = true ∧ sAt b k < dimAt d0 d1 d2 k

theorem hasS_whole {r b c : Int} (hb : 0 ≤ b ∧ b < r) (hc : 0 ≤ c ∧ c < r) : hasS r b r c = true := by
  have := aft_bd hb hc
  simp only [hasS, decide_eq_true_eq]
  omega

theorem torus_takes {d0 d1 d2 m : Int} {b : Bx} {t0 t1 t2 : Bool} (h : mayD d0 d1 d2) (hb : mayB d0 d1 d2 b) (hm : 0 ≤ m ∧ m < d0 * d1 * d2) {k : Fin 3} (ht : tK t0 t1 t2 k = true) :
    takes d0 d1 d2 b t0 t1 t2 k m = true ↔ ∀ j, j ≠ k → hasS (dimAt d0 d1 d2 j) (bAt b j) (sAt b j) (coK d0 d1 m j) = true := by
  unfold takes boxK
  rw [upB_has, ht]
  have e : runS (dimAt d0 d1 d2 k) (sAt b k) true = dimAt d0 d1 d2 k := by simp [runS]
  rw [e]
  exact ⟨fun h => h.2, fun h' => ⟨hasS_whole (mayB_at hb k).2 (co_bd h hm k), h'⟩⟩
theorem mesh_takes {d0 d1 d2 m : Int} {b : Bx} {t0 t1 t2 : Bool} (h : mayD d0 d1 d2) (hb : mayB d0 d1 d2 b) (hm : 0 ≤ m ∧ m < d0 * d1 * d2) {k : Fin 3} (ht : tK t0 t1 t2 k = false)
    (hu : takes d0 d1 d2 b t0 t1 t2 k m = true) : hasB d0 d1 d2 b m = true ∧ hasB d0 d1 d2 b (onD d0 d1 d2 m k 1) = true := by
  unfold takes boxK at hu
  rw [ht] at hu
  exact mesh_ends h hb hm k hu

theorem on_back {d0 d1 d2 m : Int} (h : mayD d0 d1 d2) (hm : 0 ≤ m ∧ m < d0 * d1 * d2) (k : Fin 3) : onD d0 d1 d2 (onD d0 d1 d2 m k (-1)) k 1 = m := by
  rw [on_on h hm, show (-1 : Int) + 1 = 0 by omega]
  exact on_round h hm k 0 (.inl rfl)

/-- Where each axis along which it is a torus is taken whole, it passes none. -/
theorem pass_none {d0 d1 d2 m : Int} {b : Bx} {t0 t1 t2 : Bool} (h : mayD d0 d1 d2) (hb : mayB d0 d1 d2 b) (hm : 0 ≤ m ∧ m < d0 * d1 * d2) (ho : ∀ k, ¬ opens d0 d1 d2 b t0 t1 t2 k) : ¬ passB d0 d1 d2 b t0 t1 t2 m := by
  rintro ⟨hno, k, _, ht⟩
  have hp := on_node h hm k (-1)
  have key : hasB d0 d1 d2 b m = true := by
    cases hk : tK t0 t1 t2 k
    · rcases ht with ht | ht
      · exact (mesh_takes h hb hm hk ht).1
      · have := (mesh_takes h hb hp hk ht).2
        rwa [on_back h hm k] at this
    · have hs : sAt b k = dimAt d0 d1 d2 k := by
        have h1 := (mayB_at hb k).1.2
        have h2 : ¬ sAt b k < dimAt d0 d1 d2 k := fun hlt => ho k ⟨hk, hlt⟩
        omega
      have hall : ∀ j, j ≠ k → hasS (dimAt d0 d1 d2 j) (bAt b j) (sAt b j) (coK d0 d1 m j) = true := by
        rcases ht with ht | ht
        · exact (torus_takes h hb hm hk).1 ht
        · intro j hj
          have := (torus_takes h hb hp hk).1 ht j hj
          rwa [co_on h hm k (-1) j, if_neg hj] at this
      rw [hasB_iff]
      intro j
      by_cases hj : j = k
      · subst hj
        rw [hs]
        exact hasS_whole (mayB_at hb j).2 (co_bd h hm j)
      · exact hall j hj
  rw [key] at hno
  cases hno

/-- The midplane at which a box begins. -/
def baseN (d0 d1 : Int) (b : Bx) : Int := numD d0 d1 b.x b.y b.z
theorem base_node {d0 d1 d2 : Int} {b : Bx} (h : mayD d0 d1 d2) (hb : mayB d0 d1 d2 b) : (0 ≤ baseN d0 d1 b ∧ baseN d0 d1 b < d0 * d1 * d2) ∧ ∀ k, coK d0 d1 (baseN d0 d1 b) k = bAt b k := by
  obtain ⟨b0, b1, b2⟩ := hb
  obtain ⟨hn, hx, hy, hz⟩ := node_of_in h (p0 := b.x) (p1 := b.y) (p2 := b.z) ⟨b0.2, b1.2, b2.2⟩
  refine ⟨hn, fun k => ?_⟩
  rcases fin3 k with rfl | rfl | rfl
  · exact hx
  · exact hy
  · exact hz
theorem base_has {d0 d1 d2 : Int} {b : Bx} (h : mayD d0 d1 d2) (hb : mayB d0 d1 d2 b) : hasB d0 d1 d2 b (baseN d0 d1 b) = true := by
  rw [hasB_iff]
  intro k
  rw [(base_node h hb).2 k]
  exact hasS_base (mayB_at hb k)

/-- Else it passes one. -/
theorem pass_some {d0 d1 d2 : Int} {b : Bx} {t0 t1 t2 : Bool} (h : mayD d0 d1 d2) (hb : mayB d0 d1 d2 b) {k : Fin 3} (ho : opens d0 d1 d2 b t0 t1 t2 k) : ∃ m, (0 ≤ m ∧ m < d0 * d1 * d2) ∧ passB d0 d1 d2 b t0 t1 t2 m := by
  obtain ⟨ht, hlt⟩ := ho
  obtain ⟨hn, hc⟩ := base_node h hb
  have hm := on_node h hn k (sAt b k)
  have hco := co_on h hn k (sAt b k)
  have hs := (mayB_at hb k).1
  have hbk := (mayB_at hb k).2
  refine ⟨onD d0 d1 d2 (baseN d0 d1 b) k (sAt b k), hm, ?_, k, by omega, .inl ?_⟩
  · cases hh : hasB d0 d1 d2 b (onD d0 d1 d2 (baseN d0 d1 b) k (sAt b k))
    · rfl
    · have := hasB_iff.1 hh k
      rw [hco k, if_pos rfl, hc k, on_rem hbk ⟨by omega, hlt⟩] at this
      unfold hasS at this
      have hx := of_decide_eq_true this
      clear this
      unfold aft at hx
      split at hx <;> split at hx <;> omega
  · rw [torus_takes h hb hm ht]
    intro j hj
    rw [hco j, if_neg hj, hc j]
    exact hasS_base (mayB_at hb j)

/-- Places whose boxes do not meet have, as meshes, no cable in common. -/
theorem mesh_apart {d0 d1 d2 m : Int} {a b : Bx} (h : mayD d0 d1 d2) (ha : mayB d0 d1 d2 a) (hb : mayB d0 d1 d2 b) (hm : 0 ≤ m ∧ m < d0 * d1 * d2) (k : Fin 3)
    (u : takes d0 d1 d2 a false false false k m = true) (v : takes d0 d1 d2 b false false false k m = true) : meetB d0 d1 d2 a b = true := by
  have hk : tK false false false k = false := by rcases fin3 k with rfl | rfl | rfl <;> rfl
  exact (meetB_iff h ha hb).2 ⟨m, hm, (mesh_takes h ha hm hk u).1, (mesh_takes h hb hm hk v).1⟩

end Go.Proofs.YtbobfhoimhambaaGreatDoor

/-
  Sets of numbers, 64 to a word, as plain arithmetic: which numbers a row of words has, and that they tell it.
-/
namespace Go.Proofs.YtbobfhoimhambaaGreatDoor

/-- The number k is in the set of these words. -/
def hasW (ws : List Nat) (k : Nat) : Bool := (ws.getD (k / 64) 0).testBit (k % 64)
/-- A set below n may be: as many words as are needed, each a word, no bit at n or beyond. -/
structure MayW (n : Nat) (ws : List Nat) : Prop where
  len : ws.length = (n + 63) / 64
  word : ∀ w ∈ ws, w < 2 ^ 64
  none : ∀ k, n ≤ k → hasW ws k = false

theorem hasW_at (ws : List Nat) (i j : Nat) (hj : j < 64) : hasW ws (64 * i + j) = (ws.getD i 0).testBit j := by
  unfold hasW
  rw [show (64 * i + j) / 64 = i by omega, show (64 * i + j) % 64 = j by omega]
theorem word_ext {a b : Nat} (ha : a < 2 ^ 64) (hb : b < 2 ^ 64) (h : ∀ j, j < 64 → a.testBit j = b.testBit j) : a = b := by
  apply Nat.eq_of_testBit_eq
  intro j
  by_cases hj : j < 64
  · exact h j hj
  · rw [Nat.testBit_lt_two_pow (Nat.lt_of_lt_of_le ha (Nat.pow_le_pow_right (by omega) (by omega))), Nat.testBit_lt_two_pow (Nat.lt_of_lt_of_le hb (Nat.pow_le_pow_right (by omega) (by omega)))]
/-- A set is told by its numbers. -/
theorem set_ext {n : Nat} {a b : List Nat} (ha : MayW n a) (hb : MayW n b) (h : ∀ k, k < n → hasW a k = hasW b k) : a = b := by
  apply List.ext_getElem
  · rw [ha.len, hb.len]
  · intro i h1 h2
    refine word_ext (ha.word _ (List.getElem_mem h1)) (hb.word _ (List.getElem_mem h2)) fun j hj => ?_
    have e : hasW a (64 * i + j) = hasW b (64 * i + j) := by
      by_cases hk : 64 * i + j < n
      · exact h _ hk
      · rw [ha.none _ (by omega), hb.none _ (by omega)]
    rw [hasW_at _ _ _ hj, hasW_at _ _ _ hj] at e
    simpa [h1, h2] using e

/-- The numbers of a set below k, rising. -/
def listTo (ws : List Nat) (k : Nat) : List Nat := (List.range k).filter fun m => hasW ws m
theorem listTo_mem {ws : List Nat} {k m : Nat} : m ∈ listTo ws k ↔ m < k ∧ hasW ws m = true := by simp [listTo, List.mem_filter, List.mem_range]
theorem listTo_yes {ws : List Nat} {k : Nat} (h : hasW ws k = true) : listTo ws (k + 1) = listTo ws k ++ [k] := by simp [listTo, List.range_succ, List.filter_append, h]
theorem listTo_no {ws : List Nat} {k : Nat} (h : hasW ws k = false) : listTo ws (k + 1) = listTo ws k := by simp [listTo, List.range_succ, List.filter_append, h]
theorem listTo_rise (ws : List Nat) (k : Nat) : (listTo ws k).Pairwise (· < ·) := List.Pairwise.filter _ List.pairwise_lt_range
theorem listTo_len (ws : List Nat) (k : Nat) : (listTo ws k).length ≤ k := by
  have := List.length_filter_le (fun m => hasW ws m) (List.range k)
  simpa [listTo] using this
/-- Beyond the bound there is nothing to list. -/
theorem listTo_past {n : Nat} {ws : List Nat} (h : MayW n ws) : ∀ j, listTo ws (n + j) = listTo ws n
  | 0 => rfl
  | j + 1 => by rw [← Nat.add_assoc, listTo_no (h.none _ (by omega)), listTo_past h j]
/-- What is in both and what is in either are together as many as both have. -/
theorem count_both {a b x y : List Nat} (hx : ∀ k, hasW x k = (hasW a k && hasW b k)) (hy : ∀ k, hasW y k = (hasW a k || hasW b k)) : ∀ k, (listTo x k).length + (listTo y k).length = (listTo a k).length + (listTo b k).length
  | 0 => rfl
  | k + 1 => by
    have ih := count_both hx hy k
    have h1 := hx k
    have h2 := hy k
    cases ha : hasW a k <;> cases hb : hasW b k <;> rw [ha, hb] at h1 h2 <;> simp only [Bool.and_self, Bool.or_self, Bool.and_true, Bool.and_false, Bool.or_true, Bool.or_false] at h1 h2 <;>
      simp only [listTo, List.range_succ, List.filter_append, List.length_append, List.filter_cons, List.filter_nil, h1, h2, ha, hb] at ih ⊢ <;> simp <;> omega

/-- Words joined bit by bit. -/
theorem hasW_zip {f : Nat → Nat → Nat} {g : Bool → Bool → Bool} (hf : ∀ x y j, j < 64 → (f x y).testBit j = g (x.testBit j) (y.testBit j)) (h0 : g false false = false) {a b : List Nat} (hl : a.length = b.length) (k : Nat) : hasW (List.zipWith f a b) k = g (hasW a k) (hasW b k) := by
  unfold hasW
  simp only [List.getD_eq_getElem?_getD, List.getElem?_zipWith]
  by_cases hi : k / 64 < a.length
  · have hi' : k / 64 < b.length := by omega
    rw [List.getElem?_eq_getElem hi, List.getElem?_eq_getElem hi']
    exact hf _ _ _ (Nat.mod_lt k (by omega))
  · rw [List.getElem?_eq_none (Nat.not_lt.1 hi), List.getElem?_eq_none (by omega : b.length ≤ k / 64)]
    simp [h0]

end Go.Proofs.YtbobfhoimhambaaGreatDoor
