/-
  A box's midplanes, rising, are its coordinates gone through axis by axis, the first innermost.
-/
import Derived.Test.YthakcjpipcmogaaBoxCoords
import Derived.Test.YthakcjpipcmogaaRefAll
namespace Go.Proofs.Ythakcjpipcmogaa

theorem range_mul (n m : Nat) : List.range (n * m) = (List.range m).flatMap fun q => (List.range n).map fun r => r + n * q := by
  induction m with
  | zero => simp
  | succ m ih =>
    rw [Nat.mul_succ, List.range_add, ih, List.range_succ, List.flatMap_append]
    congr 1
    simp [Nat.add_comm]
theorem flatMap_if {α β : Type} (p : α → Bool) (f : α → List β) : ∀ l : List α, (l.flatMap fun a => if p a then f a else []) = (l.filter p).flatMap f
  | [] => rfl
  | a :: l => by
    have ih := flatMap_if p f l
    cases h : p a <;> simp [h, ih]
theorem flatMap_same {α β : Type} {f g : α → List β} : ∀ {l : List α}, (∀ a ∈ l, f a = g a) → l.flatMap f = l.flatMap g
  | [], _ => rfl
  | a :: l, h => by
    simp only [List.flatMap_cons]
    rw [h a (by simp), flatMap_same (fun b hb => h b (by simp [hb]))]

theorem nodesB_flat {d0 d1 d2 : Int} {b : Bx} (hm : mayD d0 d1 d2) :
    (coordsS d2 b.z b.c).flatMap (fun z => (coordsS d1 b.y b.b).flatMap fun y => (coordsS d0 b.x b.a).map fun x => numD d0 d1 x y z) = nodesB d0 d1 d2 b := by
  have hm' := hm
  obtain ⟨h0, h1, h2⟩ := hm'
  unfold okD at h0 h1 h2
  obtain ⟨D0, rfl⟩ := Int.eq_ofNat_of_zero_le (show 0 ≤ d0 by omega)
  obtain ⟨D1, rfl⟩ := Int.eq_ofNat_of_zero_le (show 0 ≤ d1 by omega)
  obtain ⟨D2, rfl⟩ := Int.eq_ofNat_of_zero_le (show 0 ≤ d2 by omega)
  have hN : ((D0 : Int) * D1 * D2).toNat = D0 * (D1 * D2) := by
    have h : ((D0 : Int) * D1 * D2) = ((D0 * (D1 * D2) : Nat) : Int) := by push_cast; rw [Int.mul_assoc]
    rw [h, Int.toNat_natCast]
  have hR : List.range (D0 * (D1 * D2)) = (List.range D2).flatMap fun z => (List.range D1).flatMap fun y => (List.range D0).map fun x => x + D0 * (y + D1 * z) := by
    rw [range_mul D0, range_mul D1, List.flatMap_assoc]
    simp only [List.flatMap_map]
  unfold nodesB nodesTo
  rw [hN, hR, List.filter_flatMap, List.map_flatMap]
  unfold coordsS coordsTo
  simp only [Int.toNat_natCast]
  rw [List.flatMap_map, ← flatMap_if]
  refine flatMap_same fun z hz => ?_
  have hz := List.mem_range.1 hz
  rw [List.filter_flatMap, List.map_flatMap]
  cases hcz : hasS D2 b.z b.c z
  · simp only [Bool.false_eq_true, if_false]
    symm
    rw [List.flatMap_eq_nil_iff]
    intro y hy
    have hy := List.mem_range.1 hy
    rw [List.map_eq_nil_iff, List.filter_eq_nil_iff]
    intro m hmm
    obtain ⟨x, hx, rfl⟩ := List.mem_map.1 hmm
    have hx := List.mem_range.1 hx
    have := hasB_num (b := b) hm (p := x) (q := y) (r := z) ⟨by omega, by omega, by omega⟩
    rw [show (((x + D0 * (y + D1 * z) : Nat)) : Int) = numD D0 D1 x y z by unfold numD; push_cast; rfl, this, hcz]
    simp
  · simp only [if_true]
    rw [List.flatMap_map, ← flatMap_if]
    refine flatMap_same fun y hy => ?_
    have hy := List.mem_range.1 hy
    have hnum : ∀ x, x < D0 → hasB D0 D1 D2 b ((x + D0 * (y + D1 * z) : Nat) : Int) = (hasS D0 b.x b.a x && hasS D1 b.y b.b y) := by
      intro x hx
      have := hasB_num (b := b) hm (p := x) (q := y) (r := z) ⟨by omega, by omega, by omega⟩
      rw [show (((x + D0 * (y + D1 * z) : Nat)) : Int) = numD D0 D1 x y z by unfold numD; push_cast; rfl, this, hcz, Bool.and_true]
    rw [List.filter_map, List.map_map, List.map_map]
    cases hcy : hasS D1 b.y b.b y
    · simp only [Bool.false_eq_true, if_false]
      symm
      rw [List.map_eq_nil_iff, List.filter_eq_nil_iff]
      intro x hx
      rw [Function.comp, hnum x (List.mem_range.1 hx), hcy]
      simp
    · simp only [if_true]
      rw [show (List.range D0).filter ((fun m : Nat => hasB D0 D1 D2 b m) ∘ fun x => x + D0 * (y + D1 * z)) = (List.range D0).filter (fun j : Nat => hasS D0 b.x b.a j) from List.filter_congr fun x hx => by
        rw [Function.comp, hnum x (List.mem_range.1 hx), hcy, Bool.and_true]]
      refine List.map_congr_left fun x _ => ?_
      simp [Function.comp, numD]

theorem coordsS_get {r b s : Int} (hr : 0 ≤ r) {k : Nat} (hk : k < (coordsS r b s).length) : 0 ≤ (coordsS r b s).getD k 0 ∧ (coordsS r b s).getD k 0 < r := by
  have hmem : (coordsS r b s).getD k 0 ∈ coordsS r b s := by
    rw [show (coordsS r b s).getD k 0 = (coordsS r b s)[k] by simp [hk]]; exact List.getElem_mem hk
  generalize (coordsS r b s).getD k 0 = x at hmem
  simp only [coordsS, coordsTo, List.mem_map, List.mem_filter, List.mem_range] at hmem
  obtain ⟨j, ⟨h1, _⟩, rfl⟩ := hmem
  omega
theorem coordsS_len {r b s : Int} (hr : r ≤ 16) : (coordsS r b s).length ≤ 16 := by
  have := coordsTo_len r b s r.toNat
  unfold coordsS
  omega

section
variable (d0 d1 : Int) (X Y Z T : List Int)
def rowG (z y : Int) : List Int := X.map fun x => numD d0 d1 x y z
def rowF (z : Int) : List Int := Y.flatMap (rowG d0 d1 X z)
/-- What is gathered, and what is still to come: in the outer loop, the middle one, the inner one. -/
def eqO (L : List Int) (i : Nat) : Prop := L ++ (Z.drop i).flatMap (rowF d0 d1 X Y) = T
def eqM (L : List Int) (i j : Nat) : Prop := L ++ ((Y.drop j).flatMap (rowG d0 d1 X (Z.getD i 0)) ++ (Z.drop (i + 1)).flatMap (rowF d0 d1 X Y)) = T
def eqI (L : List Int) (i j k : Nat) : Prop :=
  L ++ ((X.drop k).map (fun x => numD d0 d1 x (Y.getD j 0) (Z.getD i 0)) ++ ((Y.drop (j + 1)).flatMap (rowG d0 d1 X (Z.getD i 0)) ++ (Z.drop (i + 1)).flatMap (rowF d0 d1 X Y))) = T
theorem drop_at {l : List Int} {i : Nat} (h : i < l.length) : l.drop i = l.getD i 0 :: l.drop (i + 1) := by
  rw [List.drop_eq_getElem_cons h]; simp [h]
variable {d0 d1 X Y Z T} {L : List Int} {i j k : Nat}
theorem eqO_in (hi : i < Z.length) (h : eqO d0 d1 X Y Z T L i) : eqM d0 d1 X Y Z T L i 0 := by
  unfold eqO at h; unfold eqM
  rw [drop_at hi, List.flatMap_cons] at h
  rw [List.drop_zero]; exact h
theorem eqM_in (hj : j < Y.length) (h : eqM d0 d1 X Y Z T L i j) : eqI d0 d1 X Y Z T L i j 0 := by
  unfold eqM at h; unfold eqI
  rw [drop_at hj, List.flatMap_cons, List.append_assoc] at h
  rw [List.drop_zero]; exact h
theorem eqI_step (hk : k < X.length) (h : eqI d0 d1 X Y Z T L i j k) : eqI d0 d1 X Y Z T (L ++ [numD d0 d1 (X.getD k 0) (Y.getD j 0) (Z.getD i 0)]) i j (k + 1) := by
  unfold eqI at h ⊢
  rw [drop_at hk, List.map_cons] at h
  rw [← h]
  simp
theorem eqI_out (hk : X.length ≤ k) (h : eqI d0 d1 X Y Z T L i j k) : eqM d0 d1 X Y Z T L i (j + 1) := by
  unfold eqI at h; unfold eqM
  rw [List.drop_of_length_le hk] at h; exact h
theorem eqM_out (hj : Y.length ≤ j) (h : eqM d0 d1 X Y Z T L i j) : eqO d0 d1 X Y Z T L (i + 1) := by
  unfold eqM at h; unfold eqO
  rw [List.drop_of_length_le hj] at h; exact h
theorem eqO_out (hi : Z.length ≤ i) (h : eqO d0 d1 X Y Z T L i) : L = T := by
  unfold eqO at h
  rw [List.drop_of_length_le hi] at h; simpa using h
theorem eqI_len (h : eqI d0 d1 X Y Z T L i j k) : L.length ≤ T.length := by
  have := congrArg List.length h
  simp only [List.length_append] at this
  omega
end

end Go.Proofs.Ythakcjpipcmogaa
