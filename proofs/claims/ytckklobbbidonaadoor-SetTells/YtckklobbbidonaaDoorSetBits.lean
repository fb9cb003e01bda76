/-
  The numbers of one word, the least first: math/bits.TrailingZeros64, set.addNumbers.
-/
import Derived.Test.YtckklobbbidonaaDoorSetMany
import Derived.Test.YtckklobbbidonaaDoorRefList
import Derived.WalkMore
import Derived.ScopeJumps
namespace Go.Proofs.YtckklobbbidonaaDoor
open Go Go.RowKit Go.Shelf

/-- math/bits' table lies in its variable. -/
def TabOk (W : World) : Prop := ∀ j, j < 64 → W.cell? ⟨0, j, none⟩ = some (.int .u8 ((Lib.deBruijn64tab.getD j 0 : Nat) : Int))
theorem TabOk.lt {W : World} (h : TabOk W) : 0 < W.heap.size := by
  have := h 0 (by omega)
  unfold World.cell? at this
  split at this
  · rename_i hs
    exact (Array.getElem?_eq_some_iff.1 hs).1
  · cases this
theorem TabOk.below {n : Nat} {W W' : World} (h : TabOk W) (hb : Below n W W') (hn : 0 < n) : TabOk W' := fun j hj => (hb.cell (p := ⟨0, j, none⟩) hn).trans (h j hj)
theorem TabOk.later {W W' : World} (h : TabOk W) (hb : Below W.heap.size W W') : TabOk W' := h.below hb h.lt

/-- The lowest bit, as the program finds it. -/
theorem low_key (x k : Nat) (hx : x < 18446744073709551616) (h0 : x ≠ 0) (hk : x &&& (18446744073709551616 - x) = 2 ^ k) :
    IntKind.u64.wrap (bits BinOp.and IntKind.u64 (x : Int) (IntKind.u64.wrap (-(x : Int))) * 285870213051353865) / 288230376151711744 = ((2 ^ k * 285870213051353865 % 18446744073709551616 / 288230376151711744 : Nat) : Int) := by
  have e : IntKind.u64.wrap (-(x : Int)) = ((18446744073709551616 - x : Nat) : Int) := by rw [IntKind.wrap_u64]; omega
  rw [e, u64_and_nat x _ hx (by omega), hk, IntKind.wrap_u64]
  generalize 2 ^ k = y
  omega

set_option maxRecDepth 100000 in
set_option maxHeartbeats 2000000 in
theorem tz_core (x k i : Nat) (w : World) (hx0 : ((x : Int) == 0) = false)
    (key : IntKind.u64.wrap (bits BinOp.and IntKind.u64 (x : Int) (IntKind.u64.wrap (-(x : Int))) * 285870213051353865) / 288230376151711744 = (i : Int)) (hi : i < 64) (hk : k < 64)
    (hc : w.cell? ⟨0, i, none⟩ = some (.int .u8 (k : Int))) : Calls Tryd.prog 41 #[U x] w fun e W' => e = .returned (I k) ∧ W' = w := by
  go_enter Tryd.func41, Tryd.ntmps41
  go_wp2_with (simp only [key])
  go_ret
  exact ⟨rfl, rfl⟩
theorem tz_calls (x : Nat) (hx : x < 18446744073709551616) (h0 : x ≠ 0) (w : World) (hT : TabOk w) :
    Calls Tryd.prog 41 #[U x] w fun e W' => e = .returned (I (Lib.ctz 64 x : Nat)) ∧ W' = w := by
  obtain ⟨hl, hk⟩ := Lib.lowest_bit 64 x h0 hx
  obtain ⟨hi, ht⟩ := Lib.deBruijn64_at _ hk
  have hc := hT _ hi
  rw [ht] at hc
  exact tz_core x _ _ w (by simpa using h0) (low_key x _ hx h0 hl) hi hk hc

/-- The bits of a word, rising. -/
def bl (x : Nat) : List Nat := (List.range 64).filter fun j => x.testBit j
theorem bl_zero : bl 0 = [] := by simp [bl]
theorem odd_bit (m i : Nat) : (2 * m + 1).testBit (i + 1) = (2 * m).testBit (i + 1) := by
  rw [Nat.testBit_succ, Nat.testBit_succ, show (2 * m + 1) / 2 = m by omega, show 2 * m / 2 = m by omega]
theorem bl_step {x : Nat} (hx : x < 18446744073709551616) (h0 : x ≠ 0) : bl x = Lib.ctz 64 x :: bl (x &&& (x - 1)) ∧ x &&& (x - 1) < x := by
  refine ⟨?_, Nat.lt_of_le_of_lt Nat.and_le_right (by omega)⟩
  obtain ⟨m, hm, hk⟩ := Lib.ctzFrom_spec 64 x (by omega) hx
  have e : Lib.ctz 64 x = Lib.ctzFrom 64 x := by simp [Lib.ctz, h0]
  rw [e]
  generalize Lib.ctzFrom 64 x = k at *
  have hp := Nat.two_pow_pos k
  have ex : ∀ j, x.testBit j = if j < k then false else (2 * m + 1).testBit (j - k) := fun j => by
    rw [hm, show 2 ^ k * (2 * m + 1) = 2 ^ k * (2 * m + 1) + 0 from rfl, Nat.testBit_two_pow_mul_add _ hp]
    simp
  have ey : ∀ j, (x - 1).testBit j = if j < k then true else (2 * m).testBit (j - k) := fun j => by
    have e1 : x - 1 = 2 ^ k * (2 * m) + (2 ^ k - 1) := by rw [hm, Nat.mul_add, Nat.mul_one]; omega
    rw [e1, Nat.testBit_two_pow_mul_add _ (by omega)]
    by_cases hj : j < k
    · simp [hj]
    · simp [hj]
  have ez : ∀ j, (x &&& (x - 1)).testBit j = (x.testBit j && decide (j ≠ k)) := fun j => by
    rw [Nat.testBit_and, ex, ey]
    by_cases hj : j < k
    · simp [hj]
    · by_cases hjk : j = k
      · subst hjk; simp
      · obtain ⟨i, hi⟩ : ∃ i, j - k = i + 1 := ⟨j - k - 1, by omega⟩
        simp only [if_neg hj, hi, odd_bit, Bool.and_self]
        simp [hjk]
  obtain ⟨r, hr⟩ : ∃ r, 64 = k + (r + 1) := ⟨64 - k - 1, by omega⟩
  have hrange : List.range 64 = List.range k ++ k :: (List.range r).map (fun j => k + (j + 1)) := by
    rw [hr, List.range_add, List.range_succ_eq_map]
    simp [List.map_map, Function.comp_def]
  have f1 : (List.range k).filter (fun j => x.testBit j) = [] := by
    rw [List.filter_eq_nil_iff]
    intro j hj
    rw [ex, if_pos (List.mem_range.1 hj)]
    simp
  have f2 : (List.range k).filter (fun j => (x &&& (x - 1)).testBit j) = [] := by
    rw [List.filter_eq_nil_iff]
    intro j hj
    rw [ez, ex, if_pos (List.mem_range.1 hj)]
    simp
  have f3 : x.testBit k = true := by rw [ex]; simp
  have f4 : (x &&& (x - 1)).testBit k = false := by rw [ez]; simp
  unfold bl
  rw [hrange, List.filter_append, List.filter_append, f1, f2, List.filter_cons, List.filter_cons, f3, f4]
  simp only [if_true, List.nil_append, Bool.false_eq_true, if_false]
  congr 1
  apply List.filter_congr
  intro j hj
  obtain ⟨i, _, rfl⟩ := List.mem_map.1 hj
  rw [ez]
  simp
theorem bl_len (x : Nat) : (bl x).length ≤ 64 := by
  have := List.length_filter_le (fun j => x.testBit j) (List.range 64)
  simpa [bl] using this
/-- .. as numbers from bs on. -/
def sh (bs : Nat) (x : Nat) : List Int := (bl x).map fun j : Nat => ((bs + j : Nat) : Int)
theorem sh_zero (bs : Nat) : sh bs 0 = [] := by simp [sh, bl_zero]
theorem sh_step {x : Nat} (bs : Nat) (hx : x < 18446744073709551616) (h0 : x ≠ 0) : sh bs x = ((bs + Lib.ctz 64 x : Nat) : Int) :: sh bs (x &&& (x - 1)) := by
  unfold sh
  rw [(bl_step hx h0).1]
  rfl
theorem sh_len (bs x : Nat) : (sh bs x).length ≤ 64 := by simpa [sh] using bl_len x
theorem list_sh (ws : List Nat) (k : Nat) : ofN (listTo ws (64 * (k + 1))) = ofN (listTo ws (64 * k)) ++ sh (64 * k) (ws.getD k 0) := by
  unfold listTo ofN sh bl
  rw [show 64 * (k + 1) = 64 * k + 64 by omega, List.range_add, List.filter_append, List.map_append, List.filter_map, List.map_map]
  congr 1
  have : (List.range 64).filter ((fun m => hasW ws m) ∘ fun x => 64 * k + x) = (List.range 64).filter fun j => (ws.getD k 0).testBit j := by
    apply List.filter_congr
    intro j hj
    exact hasW_at ws k j (List.mem_range.1 hj)
  rw [this]
  rfl

/-- One bit less, as the program reckons it. -/
theorem less_low (x : Nat) (hx : x < 18446744073709551616) (h0 : x ≠ 0) : bits .and .u64 (x : Int) ((x : Int) - 1) = ((x &&& (x - 1) : Nat) : Int) := by
  have e : (x : Int) - 1 = ((x - 1 : Nat) : Int) := by omega
  rw [e, u64_and_nat x _ hx (by omega)]

set_option maxRecDepth 100000 in
set_option maxHeartbeats 4000000 in
theorem add_calls {xs : List Int} {v : Value} {base : Nat} (bs x : Nat) (w : World) (hL : Lst w base v xs) (hT : TabOk w) (hb : base ≤ w.heap.size) (hb0 : 0 < base) (hl : xs.length ≤ 50000) (hbs : bs ≤ 100000) (hx : x < 18446744073709551616) :
    Calls Tryd.prog 31 #[v, I bs, U x] w fun e W' => ∃ u, e = .returned u ∧ Lst W' base u (xs ++ sh bs x) ∧ Below base w W' := by
  obtain ⟨tg, htg⟩ : ∃ tg, tg = xs ++ sh bs x := ⟨_, rfl⟩
  rw [← htg]
  have HG : Hid (tg = xs ++ sh bs x) := htg
  have htl : tg.length ≤ 50064 := by rw [htg, List.length_append]; have := sh_len bs x; omega
  clear htg
  go_enter Tryd.func31, Tryd.ntmps31
  go_wp2
  refine wp_scope_jumps 0 (fun a' w' => ∃ (v' : Value) (x' : Nat) (xs' : List Int) (u7 u8 u9 u10 u11 u12 u13 u14 u15 u16 u17 u18 u19 u20 : Value), a' = { tmps := #[v', I bs, U x', undef, undef, undef, .slice none 0 0, u7, u8, u9, u10, u11, u12, u13, u14, u15, u16, u17, u18, u19, u20], defers := [] } ∧ Lst w' base v' xs' ∧ Hid (xs' ++ sh bs x' = tg) ∧ x' < 18446744073709551616 ∧ Below base w w') (fun a' _ => (intOf (a'.tmps.getD 2 undef)).toNat) rfl ?_ ?_
  · skip
    by_cases h0 : x = 0
    · subst h0
      rw [sh_zero, List.append_nil] at HG
      go_wp2
      go_step3
      go_wp2
      simp only [Exit.jump]
      go_ret
      exact ⟨_, rfl, by rw [HG.out]; exact hL, Below.refl _ _⟩
    · have hz : ¬ ((x : Int) = 0) := by omega
      have TZ := tz_calls x hx h0 _ hT
      have hkl := (Lib.lowest_bit 64 x h0 hx).2
      have HS : Hid (sh bs x = ((bs + Lib.ctz 64 x : Nat) : Int) :: sh bs (x &&& (x - 1))) := sh_step bs hx h0
      have hlt := (bl_step hx h0).2
      have HL := less_low x hx h0
      have hbz : base ≤ w.heap.size := hb
      generalize Lib.ctz 64 x = k at *
      generalize hy : x &&& (x - 1) = y at *
      clear hy
      go_wp2_with fail
      go_step3
      go_wp2_with fail
      refine TZ.mono ?_
      rintro e w1 ⟨rfl, hw⟩
      subst hw
      go_wp2_with (at_builtin; refine wpList_app rfl _ _ rfl rfl rfl hL (by omega) hbz ?_; intro v3 w3 hL3 hT3)
      go_wp2
      go_step3
      try rw [HL]
      refine ⟨rfl, v3, y, xs ++ [(bs : Int) + (k : Int)], _, _, _, _, _, _, _, _, _, _, _, _, _, _, rfl, hL3, ?_, by omega, hT3⟩
      show _ = _
      rw [HG.out, HS.out, List.append_assoc]
      simp
  · rintro a' w' ⟨v', x', xs', u7, u8, u9, u10, u11, u12, u13, u14, u15, u16, u17, u18, u19, u20, rfl, hL, HE, hx', hB⟩
    have hxl : xs'.length ≤ 50064 := by have := congrArg List.length HE.out; rw [List.length_append] at this; omega
    by_cases h0 : x' = 0
    · subst h0
      have E : xs' = tg := by have := HE.out; rwa [sh_zero, List.append_nil] at this
      subst E
      go_wp2
      simp only [Exit.jump]
      go_ret
      exact ⟨_, rfl, hL, hB⟩
    · have hz : ¬ ((x' : Int) = 0) := by omega
      have TZ := tz_calls x' hx' h0 _ (hT.below hB hb0)
      have hkl := (Lib.lowest_bit 64 x' h0 hx').2
      have HS : Hid (sh bs x' = ((bs + Lib.ctz 64 x' : Nat) : Int) :: sh bs (x' &&& (x' - 1))) := sh_step bs hx' h0
      have hlt := (bl_step hx' h0).2
      have HL := less_low x' hx' h0
      have hbz : base ≤ w'.heap.size := Nat.le_trans hb hB.size
      generalize Lib.ctz 64 x' = k at *
      generalize hy : x' &&& (x' - 1) = y at *
      clear hy
      go_wp2_with fail
      refine TZ.mono ?_
      rintro e w1 ⟨rfl, hw⟩
      subst hw
      go_wp2_with (at_builtin; refine wpList_app rfl _ _ rfl rfl rfl hL (by omega) hbz ?_; intro v3 w3 hL3 hT3)
      go_wp2
      go_step3
      try rw [HL]
      refine ⟨rfl, ⟨v3, y, xs' ++ [(bs : Int) + (k : Int)], _, _, _, _, _, _, _, _, _, _, _, _, _, _, rfl, hL3, ?_, by omega, hB.trans hT3⟩, ?_⟩
      · show _ = _
        rw [← HE.out, HS.out, List.append_assoc]
        simp
      · simp [intOf]
        omega

end Go.Proofs.YtckklobbbidonaaDoor
