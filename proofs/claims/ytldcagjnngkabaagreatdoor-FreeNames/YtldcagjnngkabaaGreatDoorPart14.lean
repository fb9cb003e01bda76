/-
  The numbers of a set, rising, as the document lists them: tidehallref03.All.
-/
import Derived.Test.YtldcagjnngkabaaGreatDoorPart13
import Derived.Test.YtldcagjnngkabaaGreatDoorPart12
import Derived.WalkMore
import Derived.ScopeJumps
import Derived.Test.YtldcagjnngkabaaGreatDoorSetJoin
namespace Go.Proofs.YtldcagjnngkabaaGreatDoor
open Go Go.RowKit Go.Shelf

theorem Lst.its {W : World} {base : Nat} {v : Value} {xs : List Int} (h : Lst W base v xs) : Its W v xs := by
  obtain ⟨ao, cap, rfl, hv⟩ := h.view
  refine ⟨ao, cap, by simp, fun k hk => ?_⟩
  rw [List.length_map] at hk
  obtain ⟨g, cur, e, hb, hc⟩ := hv k hk
  exact ⟨g, 0, e, hb.lt, by rw [Nat.zero_add, hb.cell, hc]; simp [hk]⟩

/-- Numbers, as a list in memory has them. -/
def ofN (l : List Nat) : List Int := l.map fun m : Nat => (m : Int)
/-- A set's numbers, rising. -/
def numsW (ws : List Nat) : List Nat := listTo ws (64 * ws.length)
theorem ofN_len (l : List Nat) : (ofN l).length = l.length := by simp [ofN]
theorem ofN_app (l : List Nat) (m : Nat) : ofN (l ++ [m]) = ofN l ++ [(m : Int)] := by simp [ofN]
theorem ofN_get (l : List Nat) (k : Nat) : (ofN l).getD k 0 = ((l.getD k 0 : Nat) : Int) := by
  simp only [ofN, List.getD_eq_getElem?_getD, List.getElem?_map]
  cases l[k]? <;> rfl

set_option maxRecDepth 100000 in
set_option maxHeartbeats 4000000 in
theorem all_calls {v : Value} {ws : List Nat} (w : World) (h : Wds w v ws) (hs : ws.length ≤ 300) :
    Calls Tryz.prog 76 #[v] w fun e W' => ∃ u, e = .returned u ∧ Lst W' w.heap.size u (ofN (numsW ws)) ∧ Below w.heap.size w W' := by
  have HW : Hid (Wds w v ws) := h
  obtain ⟨ao, cap, rfl, _⟩ := h.view
  clear h
  have HN : Hid (ofN (numsW ws) = ofN (listTo ws (64 * ws.length))) := show _ = _ from rfl
  rw [HN.out]
  go_enter Tryz.func76, Tryz.ntmps76
  go_wp2
  go_loopw [3, 4] (fun s i wr => ∃ k : Nat, k ≤ 64 * ws.length ∧ i = .int .i64 k ∧ Lst wr w.heap.size s (ofN (listTo ws k)) ∧ Below w.heap.size w wr) (fun s i _ => 64 * ws.length - (RowKit.intOf i).toNat)
  case atStart => exact ⟨0, by omega, rfl, Lst.nil _ _, Below.refl _ _⟩
  case round =>
    obtain ⟨k, hk, rfl, hL, hT⟩ := hrel
    by_cases hlt : (k : Int) < (64 : Int) * (ws.length : Int)
    · have TH := there_calls wr (HW.out.later hT) k (by omega)
      have hlen : (ofN (listTo ws k)).length ≤ 100000 := by rw [ofN_len]; have := listTo_len ws k; omega
      have H1 : Hid (hasW ws k = true → ofN (listTo ws (k + 1)) = ofN (listTo ws k) ++ [(k : Int)]) := fun h => by rw [listTo_yes h, ofN_app]
      have H0 : Hid (hasW ws k = false → ofN (listTo ws (k + 1)) = ofN (listTo ws k)) := fun h => by rw [listTo_no h]
      generalize hxs : ofN (listTo ws k) = xs at *
      clear hxs
      go_wp2_with fail
      refine TH.mono ?_
      rintro e w1 ⟨rfl, hw⟩
      subst hw
      cases hq : hasW ws k
      · have HE : Hid _ := H0.out hq
        clear hq
        go_wp2
        go_roundw
        case rel => exact ⟨k + 1, by omega, by go_num, by rw [HE.out]; exact hL, hT⟩
        case measure => simp [RowKit.intOf]; omega
      · have HE : Hid _ := H1.out hq
        clear hq
        go_wp2_with (at_builtin; refine wpList_app rfl _ _ rfl rfl rfl hL hlen hT.size ?_; intro v' w3 hL3 hT3)
        go_wp2
        go_roundw
        case rel => exact ⟨k + 1, by omega, by go_num, by rw [HE.out]; exact hL3, hT.trans hT3⟩
        case measure => simp [RowKit.intOf]; omega
    · have e : k = 64 * ws.length := by omega
      subst e
      go_wp2
      go_ret
      exact ⟨_, rfl, hL, hT⟩

end Go.Proofs.YtldcagjnngkabaaGreatDoor

/-
  The numbers of one word, the least first: math/bits.TrailingZeros64, set.addNumbers.
-/
namespace Go.Proofs.YtldcagjnngkabaaGreatDoor
open Go Go.RowKit Go.Shelf

/-- math/bits' table lies in its variable. -/
def TabOk (W : World) : Prop := ∀ j, j < 64 → W.cell? ⟨0, j, none⟩ = some (.int .u8 ((Lib.deBruijn64tab.getD j 0 : Nat) : Int))
theorem TabOk.lt {W : World} (h : TabOk W) : 0 < W.heap.size := by
  have := h 0 (by omega)
  unfold World.cell? at this
  split at this
  · rename_i hs
    exact (Array.getElem?_eq_some_iff.1 hs).1
  · cases this
theorem TabOk.below {n : Nat} {W W' : World} (h : TabOk W) (hb : Below n W W') (hn : 0 < n) : TabOk W' := fun j hj => (hb.cell (p := ⟨0, j, none⟩) hn).trans (h j hj)
theorem TabOk.later {W W' : World} (h : TabOk W) (hb : Below W.heap.size W W') : TabOk W' := h.below hb h.lt

/-- The lowest bit, as the program finds it. -/
theorem low_key (x k : Nat) (hx : x < 18446744073709551616) (h0 : x ≠ 0) (hk : x &&& (18446744073709551616 - x) = 2 ^ k) :
    IntKind.u64.wrap (bits BinOp.and IntKind.u64 (x : Int) (IntKind.u64.wrap (-(x : Int))) * 285870213051353865) / 288230376151711744 = ((2 ^ k * 285870213051353865 % 18446744073709551616 / 288230376151711744 : Nat) : Int) := by
  have e : IntKind.u64.wrap (-(x : Int)) = ((18446744073709551616 - x : Nat) : Int) := by rw [IntKind.wrap_u64]; omega
  rw [e, u64_and_nat x _ hx (by omega), hk, IntKind.wrap_u64]
  generalize 2 ^ k = y
  omega

set_option maxRecDepth 100000 in
set_option maxHeartbeats 2000000 in
theorem tz_core (x k i : Nat) (w : World) (hx0 : ((x : Int) == 0) = false)
    (key : IntKind.u64.wrap (bits BinOp.and IntKind.u64 (x : Int) (IntKind.u64.wrap (-(x : Int))) * 285870213051353865) / 288230376151711744 = (i : Int)) (hi : i < 64) (hk : k < 64)
    (hc : w.cell? ⟨0, i, none⟩ = some (.int .u8 (k : Int))) : Calls Tryz.prog 167 #[U x] w fun e W' => e = .returned (I k) ∧ W' = w := by
  go_enter Tryz.func167, Tryz.ntmps167
  go_wp2_with (simp only [key])
  go_ret
  exact ⟨rfl, rfl⟩
theorem tz_calls (x : Nat) (hx : x < 18446744073709551616) (h0 : x ≠ 0) (w : World) (hT : TabOk w) :
    Calls Tryz.prog 167 #[U x] w fun e W' => e = .returned (I (Lib.ctz 64 x : Nat)) ∧ W' = w := by
  obtain ⟨hl, hk⟩ := Lib.lowest_bit 64 x h0 hx
  obtain ⟨hi, ht⟩ := Lib.deBruijn64_at _ hk
  have hc := hT _ hi
  rw [ht] at hc
  exact tz_core x _ _ w (by simpa using h0) (low_key x _ hx h0 hl) hi hk hc

/-- The bits of a word, rising. -/
def bl (x : Nat) : List Nat := (List.range 64).filter fun j => x.testBit j
theorem bl_zero : bl 0 = [] := by simp [bl]
theorem odd_bit (m i : Nat) : (2 * m + 1).testBit (i + 1) = (2 * m).testBit (i + 1) := by
  rw [Nat.testBit_succ, Nat.testBit_succ, show (2 * m + 1) / 2 = m by omega, show 2 * m / 2 = m by omega]
theorem bl_step {x : Nat} (hx : x < 18446744073709551616) (h0 : x ≠ 0) : bl x = Lib.ctz 64 x :: bl (x &&& (x - 1)) ∧ x &&& (x - 1) < x := by
  refine ⟨?_, Nat.lt_of_le_of_lt Nat.and_le_right (by omega)⟩
  obtain ⟨m, hm, hk⟩ := Lib.ctzFrom_spec 64 x (by omega) hx
  have e : Lib.ctz 64 x = Lib.ctzFrom 64 x := by simp [Lib.ctz, h0]
  rw [e]
  generalize Lib.ctzFrom 64 x = k at *
  have hp := Nat.two_pow_pos k
  have ex : ∀ j, x.testBit j = if j < k then false else (2 * m + 1).testBit (j - k) := fun j => by
    rw [hm, show 2 ^ k * (2 * m + 1) = 2 ^ k * (2 * m + 1) + 0 from rfl, Nat.testBit_two_pow_mul_add _ hp]
    simp
  have ey : ∀ j, (x - 1).testBit j = if j < k then true else (2 * m).testBit (j - k) := fun j => by
    have e1 : x - 1 = 2 ^ k * (2 * m) + (2 ^ k - 1) := by rw [hm, Nat.mul_add, Nat.mul_one]; omega
    rw [e1, Nat.testBit_two_pow_mul_add _ (by omega)]
    by_cases hj : j < k
    · simp [hj]
    · simp [hj]
  have ez : ∀ j, (x &&& (x - 1)).testBit j = (x.testBit j && decide (j ≠ k)) := fun j => by
    rw [Nat.testBit_and, ex, ey]
    by_cases hj : j < k
    · simp [hj]
    · by_cases hjk : j = k
      · subst hjk; simp
      · obtain ⟨i, hi⟩ : ∃ i, j - k = i + 1 := ⟨j - k - 1, by omega⟩
        simp only [if_neg hj, hi, odd_bit, Bool.and_self]
        simp [hjk]
  obtain ⟨r, hr⟩ : ∃ r, 64 = k + (r + 1) := ⟨64 - k - 1, by omega⟩
  have hrange : List.range 64 = List.range k ++ k :: (List.range r).map (fun j => k + (j + 1)) := by
    rw [hr, List.range_add, List.range_succ_eq_map]
    simp [List.map_map, Function.comp_def]
  have f1 : (List.range k).filter (fun j => x.testBit j) = [] := by
    rw [List.filter_eq_nil_iff]
    intro j hj
    rw [ex, if_pos (List.mem_range.1 hj)]
    simp
  have f2 : (List.range k).filter (fun j => (x &&& (x - 1)).testBit j) = [] := by
    rw [List.filter_eq_nil_iff]
    intro j hj
    rw [ez, ex, if_pos (List.mem_range.1 hj)]
    simp
  have f3 : x.testBit k = true := by rw [ex]; simp
  have f4 : (x &&& (x - 1)).testBit k = false := by rw [ez]; simp
  unfold bl
  rw [hrange, List.filter_append, List.filter_append, f1, f2, List.filter_cons, List.filter_cons, f3, f4]
  simp only [if_true, List.nil_append, Bool.false_eq_true, if_false]
  congr 1
  apply List.filter_congr
  intro j hj
  obtain ⟨i, _, rfl⟩ := List.mem_map.1 hj
  rw [ez]
  simp
theorem bl_len (x : Nat) : (bl x).length ≤ 64 := by
  have := List.length_filter_le (fun j => x.testBit j) (List.range 64)
  simpa [bl] using this
/-- .. as numbers from bs on. -/
def sh (bs : Nat) (x : Nat) : List Int := (bl x).map fun j : Nat => ((bs + j : Nat) : Int)
theorem sh_zero (bs : Nat) : sh bs 0 = [] := by simp [sh, bl_zero]
theorem sh_step {x : Nat} (bs : Nat) (hx : x < 18446744073709551616) (h0 : x ≠ 0) : sh bs x = ((bs + Lib.ctz 64 x : Nat) : Int) :: sh bs (x &&& (x - 1)) := by
  unfold sh
  rw [(bl_step hx h0).1]
  rfl
theorem sh_len (bs x : Nat) : (sh bs x).length ≤ 64 := by simpa [sh] using bl_len x
theorem list_sh (ws : List Nat) (k : Nat) : ofN (listTo ws (64 * (k + 1))) = ofN (listTo ws (64 * k)) ++ sh (64 * k) (ws.getD k 0) := by
  unfold listTo ofN sh bl
  rw [show 64 * (k + 1) = 64 * k + 64 by omega, List.range_add, List.filter_append, List.map_append, List.filter_map, List.map_map]
  congr 1
  have : (List.range 64).filter ((fun m => hasW ws m) ∘ fun x => 64 * k + x) = (List.range 64).filter fun j => (ws.getD k 0).testBit j := by
    apply List.filter_congr
    intro j hj
    exact hasW_at ws k j (List.mem_range.1 hj)
  rw [this]
  rfl

/-- One bit less, as the program reckons it. -/
theorem less_low (x : Nat) (hx : x < 18446744073709551616) (h0 : x ≠ 0) : bits .and .u64 (x : Int) ((x : Int) - 1) = ((x &&& (x - 1) : Nat) : Int) := by
  have e : (x : Int) - 1 = ((x - 1 : Nat) : Int) := by omega
  rw [e, u64_and_nat x _ hx (by omega)]

set_option maxRecDepth 100000 in
set_option maxHeartbeats 4000000 in
theorem add_calls {xs : List Int} {v : Value} {base : Nat} (bs x : Nat) (w : World) (hL : Lst w base v xs) (hT : TabOk w) (hb : base ≤ w.heap.size) (hb0 : 0 < base) (hl : xs.length ≤ 50000) (hbs : bs ≤ 100000) (hx : x < 18446744073709551616) :
    Calls Tryz.prog 137 #[v, I bs, U x] w fun e W' => ∃ u, e = .returned u ∧ Lst W' base u (xs ++ sh bs x) ∧ Below base w W' := by
  obtain ⟨tg, htg⟩ : ∃ tg, tg = xs ++ sh bs x := ⟨_, rfl⟩
  rw [← htg]
  have HG : Hid (tg = xs ++ sh bs x) := htg
  have htl : tg.length ≤ 50064 := by rw [htg, List.length_append]; have := sh_len bs x; omega
  clear htg
  go_enter Tryz.func137, Tryz.ntmps137
  go_wp2
  refine wp_scope_jumps 0 (fun a' w' => ∃ (v' : Value) (x' : Nat) (xs' : List Int) (u7 u8 u9 u10 u11 u12 u13 u14 u15 u16 u17 u18 u19 u20 : Value), a' = { tmps := #[v', I bs, U x', undef, undef, undef, .slice none 0 0, u7, u8, u9, u10, u11, u12, u13, u14, u15, u16, u17, u18, u19, u20], defers := [] } ∧ Lst w' base v' xs' ∧ Hid (xs' ++ sh bs x' = tg) ∧ x' < 18446744073709551616 ∧ Below base w w') (fun a' _ => (RowKit.intOf (a'.tmps.getD 2 undef)).toNat) rfl ?_ ?_
  · skip
    by_cases h0 : x = 0
    · subst h0
      rw [sh_zero, List.append_nil] at HG
      go_wp2
      go_step3
      go_wp2
      simp only [Exit.jump]
      go_ret
      exact ⟨_, rfl, by rw [HG.out]; exact hL, Below.refl _ _⟩
    · have hz : ¬ ((x : Int) = 0) := by omega
      have TZ := tz_calls x hx h0 _ hT
      have hkl := (Lib.lowest_bit 64 x h0 hx).2
      have HS : Hid (sh bs x = ((bs + Lib.ctz 64 x : Nat) : Int) :: sh bs (x &&& (x - 1))) := sh_step bs hx h0
      have hlt := (bl_step hx h0).2
      have HL := less_low x hx h0
      have hbz : base ≤ w.heap.size := hb
      generalize Lib.ctz 64 x = k at *
      generalize hy : x &&& (x - 1) = y at *
      clear hy
      go_wp2_with fail
      go_step3
      go_wp2_with fail
      refine TZ.mono ?_
      rintro e w1 ⟨rfl, hw⟩
      subst hw
      go_wp2_with (at_builtin; refine wpList_app rfl _ _ rfl rfl rfl hL (by omega) hbz ?_; intro v3 w3 hL3 hT3)
      go_wp2
      go_step3
      try rw [HL]
      refine ⟨rfl, v3, y, xs ++ [(bs : Int) + (k : Int)], _, _, _, _, _, _, _, _, _, _, _, _, _, _, rfl, hL3, ?_, by omega, hT3⟩
      show _ = _
      rw [HG.out, HS.out, List.append_assoc]
      simp
  · rintro a' w' ⟨v', x', xs', u7, u8, u9, u10, u11, u12, u13, u14, u15, u16, u17, u18, u19, u20, rfl, hL, HE, hx', hB⟩
    have hxl : xs'.length ≤ 50064 := by have := congrArg List.length HE.out; rw [List.length_append] at this; omega
    by_cases h0 : x' = 0
    · subst h0
      have E : xs' = tg := by have := HE.out; rwa [sh_zero, List.append_nil] at this
      subst E
      go_wp2
      simp only [Exit.jump]
      go_ret
      exact ⟨_, rfl, hL, hB⟩
    · have hz : ¬ ((x' : Int) = 0) := by omega
      have TZ := tz_calls x' hx' h0 _ (hT.below hB hb0)
      have hkl := (Lib.lowest_bit 64 x' h0 hx').2
      have HS : Hid (sh bs x' = ((bs + Lib.ctz 64 x' : Nat) : Int) :: sh bs (x' &&& (x' - 1))) := sh_step bs hx' h0
      have hlt := (bl_step hx' h0).2
      have HL := less_low x' hx' h0
      have hbz : base ≤ w'.heap.size := Nat.le_trans hb hB.size
      generalize Lib.ctz 64 x' = k at *
      generalize hy : x' &&& (x' - 1) = y at *
      clear hy
      go_wp2_with fail
      refine TZ.mono ?_
      rintro e w1 ⟨rfl, hw⟩
      subst hw
      go_wp2_with (at_builtin; refine wpList_app rfl _ _ rfl rfl rfl hL (by omega) hbz ?_; intro v3 w3 hL3 hT3)
      go_wp2
      go_step3
      try rw [HL]
      refine ⟨rfl, ⟨v3, y, xs' ++ [(bs : Int) + (k : Int)], _, _, _, _, _, _, _, _, _, _, _, _, _, _, rfl, hL3, ?_, by omega, hB.trans hT3⟩, ?_⟩
      · show _ = _
        rw [← HE.out, HS.out, List.append_assoc]
        simp
      · simp [RowKit.intOf]
        omega

end Go.Proofs.YtldcagjnngkabaaGreatDoor

/-
  The calls of one set: set.Check, set.Has, set.Many, set.List; and the document's answers.
-/
namespace Go.Proofs.YtldcagjnngkabaaGreatDoor
open Go Go.RowKit Go.Shelf

theorem check_one {v : Value} {ws : List Nat} (w : World) (h : Wds w v ws) (n : Int) : ∀ W, Blk W w.heap.size 30 #[v] → Below w.heap.size w W →
    Calls Tryz.prog 85 #[I n, .slice (some ⟨w.heap.size, 0, none⟩) 1 1] W fun e W' => e = .returned (I (errAll n [ws])) ∧ W' = W := by
  intro W hW hB
  refine check_calls (vs := [v]) (wss := [ws]) W (Sl.blk hW 1) rfl (by simp) ?_ n
  intro i hi
  match i, hi with
  | 0, _ => exact h.later hB

theorem chk_calls {v : Value} {ws : List Nat} (w : World) (h : Wds w v ws) (n : Int) :
    Calls Tryz.prog 89 #[I n, v] w fun e W' => e = .returned (I (errAll n [ws])) ∧ Below w.heap.size w W' := by
  obtain ⟨ao, cap, rfl, hv⟩ := h.view
  have C := check_one w h n
  generalize errAll n [ws] = er at *
  go_enter Tryz.func89, Tryz.ntmps89
  go_wp2_with fail
  refine (C _ (Blk.new w _ _) ((Below.refl _ w).alloc (Nat.le_refl _) _)).mono ?_
  rintro e w1 ⟨rfl, hw⟩
  have hT := (Below.refl _ w).alloc (Nat.le_refl _) (.cells #[.slice ao ws.length cap] 30)
  rw [← hw] at hT
  clear hw C
  go_wp2
  go_ret
  exact ⟨rfl, hT⟩

/-- Whether a number is in a set. -/
def hasR (n : Int) (ws : List Nat) (k : Int) : Bool := decide (errAll n [ws] = 0) && decide (0 ≤ k) && hasW ws k.toNat
theorem hasR_err {n : Int} {ws : List Nat} (h : errAll n [ws] ≠ 0) (k : Int) : hasR n ws k = false := by simp [hasR, h]
theorem hasR_neg {n : Int} {ws : List Nat} {k : Int} (h : k < 0) : hasR n ws k = false := by
  unfold hasR
  rw [decide_eq_false (by omega : ¬ 0 ≤ k)]
  simp
theorem hasR_in {n : Int} {ws : List Nat} {k : Nat} (h : errAll n [ws] = 0) : hasR n ws k = hasW ws k := by simp [hasR, h]
theorem hasR_far {n : Int} {ws : List Nat} {k : Int} (h : n ≤ k) : hasR n ws k = false := by
  unfold hasR
  by_cases he : errAll n [ws] = 0
  · obtain ⟨h1, h2, hm⟩ := err_one he
    rw [(mayS_iff.1 hm).2 k.toNat (by omega)]
    simp
  · simp [he]

theorem hasSet_calls {v : Value} {ws : List Nat} (w : World) (h : Wds w v ws) (n k : Int) :
    Calls Tryz.prog 52 #[I n, v, I k] w fun e W' => e = .returned (.tuple #[.bool (hasR n ws k), I (errAll n [ws])]) ∧ Below w.heap.size w W' := by
  obtain ⟨ao, cap, rfl, hv⟩ := h.view
  have C := check_one w h n
  obtain ⟨ans, hans⟩ : ∃ ans, ans = hasR n ws k := ⟨_, rfl⟩
  obtain ⟨er, her⟩ : ∃ er, er = errAll n [ws] := ⟨_, rfl⟩
  rw [← hans]
  rw [← her] at C ⊢
  by_cases h0 : er = 0
  · have he := her.symm.trans h0
    obtain ⟨h1, h2, hm⟩ := err_one he
    by_cases hk : 0 ≤ k ∧ k < n
    · obtain ⟨hk0, hkn⟩ := hk
      obtain ⟨m, rfl⟩ : ∃ m : Nat, k = m := ⟨k.toNat, by omega⟩
      have hl := (mayS_iff.1 hm).1
      have hml : m / 64 < ws.length := by omega
      obtain ⟨g, off, rfl, hg, hc⟩ := hv _ hml
      have hx := h.word (m / 64)
      have hb := bit_of _ (m % 64) hx
      have e : ans = (ws.getD (m / 64) 0).testBit (m % 64) := by rw [hans, hasR_in he]; rfl
      have HA : Hid (ans = (bits .and .u64 ((ws.getD (m / 64) 0 : Nat) / 2 ^ (m % 64)) 1 == 1)) := by rw [e]; exact hb.symm
      have hmi : (m : Int) / 64 < (ws.length : Int) := by omega
      clear hb e hv h hans her he hl hm
      generalize ws.getD (m / 64) 0 = x at *
      subst h0
      go_enter Tryz.func52, Tryz.ntmps52
      go_wp2_with fail
      refine (C _ (Blk.new w _ _) ((Below.refl _ w).alloc (Nat.le_refl _) _)).mono ?_
      rintro e w1 ⟨rfl, hw⟩
      have hT := (Below.refl _ w).alloc (Nat.le_refl _) (.cells #[.slice (some ⟨g, off, none⟩) ws.length cap] 30)
      rw [← hw] at hT
      have hc1 := (hT.cell (p := ⟨g, off + m / 64, none⟩) hg).trans hc
      clear hw C hc
      go_wp2
      go_ret2
      exact ⟨by rw [HA.out]; rfl, hT⟩
    · have E : ans = false := by
        rw [hans]
        by_cases hk0 : k < 0
        · exact hasR_neg hk0
        · exact hasR_far (by omega)
      subst E
      clear hans her he hm
      subst h0
      by_cases hk0 : k < 0
      · go_enter Tryz.func52, Tryz.ntmps52
        go_wp2_with fail
        refine (C _ (Blk.new w _ _) ((Below.refl _ w).alloc (Nat.le_refl _) _)).mono ?_
        rintro e w1 ⟨rfl, hw⟩
        have hT := (Below.refl _ w).alloc (Nat.le_refl _) (.cells #[.slice ao ws.length cap] 30)
        rw [← hw] at hT
        clear hw C
        go_wp2
        go_ret2
        exact ⟨rfl, hT⟩
      · have hkn : n ≤ k := by omega
        clear hk
        go_enter Tryz.func52, Tryz.ntmps52
        go_wp2_with fail
        refine (C _ (Blk.new w _ _) ((Below.refl _ w).alloc (Nat.le_refl _) _)).mono ?_
        rintro e w1 ⟨rfl, hw⟩
        have hT := (Below.refl _ w).alloc (Nat.le_refl _) (.cells #[.slice ao ws.length cap] 30)
        rw [← hw] at hT
        clear hw C
        go_wp2
        go_ret2
        exact ⟨rfl, hT⟩
  · have E : ans = false := by rw [hans]; exact hasR_err (fun e => h0 (her.trans e)) k
    subst E
    clear hans her
    go_enter Tryz.func52, Tryz.ntmps52
    go_wp2_with fail
    refine (C _ (Blk.new w _ _) ((Below.refl _ w).alloc (Nat.le_refl _) _)).mono ?_
    rintro e w1 ⟨rfl, hw⟩
    have hT := (Below.refl _ w).alloc (Nat.le_refl _) (.cells #[.slice ao ws.length cap] 30)
    rw [← hw] at hT
    clear hw C
    go_wp2
    go_ret2
    exact ⟨rfl, hT⟩

/-- How many numbers a set has. -/
def manyR (n : Int) (ws : List Nat) : Nat := if errAll n [ws] = 0 then manyS ws else 0
/-- A set's numbers. -/
def listR (n : Int) (ws : List Nat) : List Int := if errAll n [ws] = 0 then ofN (numsW ws) else []
set_option maxRecDepth 100000 in
set_option maxHeartbeats 4000000 in
theorem list_calls {v : Value} {ws : List Nat} (w : World) (hTab : TabOk w) (h : Wds w v ws) (n : Int) :
    Calls Tryz.prog 109 #[I n, v] w fun e W' => ∃ u, e = .returned (.tuple #[u, I (errAll n [ws])]) ∧ Lst W' w.heap.size u (listR n ws) ∧ Below w.heap.size w W' := by
  obtain ⟨ao, cap, rfl, hv⟩ := h.view
  have C := check_one w h n
  have HH : Hid (Wds w (.slice ao ws.length cap) ws) := h
  obtain ⟨ans, hans⟩ : ∃ ans, ans = listR n ws := ⟨_, rfl⟩
  obtain ⟨er, her⟩ : ∃ er, er = errAll n [ws] := ⟨_, rfl⟩
  rw [← hans]
  rw [← her] at C ⊢
  by_cases h0 : er = 0
  · have he := her.symm.trans h0
    obtain ⟨h1, h2, hm⟩ := err_one he
    have hl := (mayS_iff.1 hm).1
    have hl2 : ws.length ≤ 192 := by omega
    have M := fun W (hB : Below w.heap.size w W) => manyS_calls W (h.later hB) (by omega)
    have hml : manyS ws ≤ 64 * ws.length := cnt_le ws ws.length
    generalize manyS ws = mm at *
    have HA : Hid (ans = ofN (listTo ws (64 * ws.length))) := by rw [hans, listR, if_pos he]; exact rfl
    have HV : Hid (∀ k, k < ws.length → ∃ g off, ao = some ⟨g, off, none⟩ ∧ g < w.heap.size ∧ w.cell? ⟨g, off + k, none⟩ = some (U (ws.getD k 0))) := hv
    have HW : Hid (∀ k, ws.getD k 0 < 18446744073709551616) := h.word
    have hsz := hTab.lt
    clear hans her he hm hl hv h
    subst h0
    go_enter Tryz.func109, Tryz.ntmps109
    go_wp2_with fail
    refine (C _ (Blk.new w _ _) ((Below.refl _ w).alloc (Nat.le_refl _) _)).mono ?_
    rintro e w1 ⟨rfl, hw⟩
    have hT := (Below.refl _ w).alloc (Nat.le_refl _) (.cells #[.slice ao ws.length cap] 30)
    rw [← hw] at hT
    clear hw C
    go_wp2_with fail
    refine (M _ hT).mono ?_
    rintro e w2 ⟨rfl, hw⟩
    subst hw
    go_wp2_with (at_make; refine wpList_mk (base := w.heap.size) rfl _ _ rfl mm rfl rfl (by omega) (by omega) hT.size ?_; intro v3 w3 hL3 hT3)
    have hT := hT.trans hT3
    clear hT3
    go_wp2
    go_loopw [7, 22] (fun s i wr => ∃ k : Nat, k ≤ ws.length ∧ i = .int .i64 k ∧ Lst wr w.heap.size s (ofN (listTo ws (64 * k))) ∧ Below w.heap.size w wr) (fun s i _ => ws.length - (RowKit.intOf i).toNat)
    case atStart => exact ⟨0, by omega, rfl, hL3, hT⟩
    case round =>
      clear hL3 hT
      obtain ⟨k, hk, rfl, hL, hT⟩ := hrel
      by_cases hlt : (k : Int) < (ws.length : Int)
      · obtain ⟨g, off, rfl, hg, hc⟩ := HV.out k (by omega)
        have hc1 := (hT.cell (p := ⟨g, off + k, none⟩) hg).trans hc
        have hx := HW.out k
        have HS : Hid (ofN (listTo ws (64 * (k + 1))) = ofN (listTo ws (64 * k)) ++ sh (64 * k) (ws.getD k 0)) := list_sh ws k
        have AD := add_calls (64 * k) (ws.getD k 0) wr hL (hTab.below hT hsz) hT.size hsz (by rw [ofN_len]; have := listTo_len ws (64 * k); omega) (by omega) hx
        generalize ofN (listTo ws (64 * k)) = xs at *
        rw [show ((64 * k : Nat) : Int) = (k : Int) * 64 by omega] at AD
        generalize sh (64 * k) (ws.getD k 0) = ys at *
        generalize ws.getD k 0 = x at *
        clear hc
        go_wp2_with fail
        refine AD.mono ?_
        rintro e w4 ⟨u, rfl, hL4, hT4⟩
        go_wp2
        go_roundw
        case rel => exact ⟨k + 1, by omega, by go_num, by rw [HS.out]; exact hL4, hT.trans hT4⟩
        case measure => simp [RowKit.intOf]; omega
      · have e : k = ws.length := by omega
        subst e
        rw [← HA.out] at hL
        go_wp2
        go_ret2
        exact ⟨_, rfl, hL, hT⟩
  · have E : ans = [] := by rw [hans, listR, if_neg (fun e => h0 (her.trans e))]
    subst E
    clear hans her
    go_enter Tryz.func109, Tryz.ntmps109
    go_wp2_with fail
    refine (C _ (Blk.new w _ _) ((Below.refl _ w).alloc (Nat.le_refl _) _)).mono ?_
    rintro e w1 ⟨rfl, hw⟩
    have hT := (Below.refl _ w).alloc (Nat.le_refl _) (.cells #[.slice ao ws.length cap] 30)
    rw [← hw] at hT
    clear hw C
    go_wp2
    go_ret2
    exact ⟨_, rfl, Lst.nil _ _, hT⟩

end Go.Proofs.YtldcagjnngkabaaGreatDoor

/-
  What sets of two come to, as plain arithmetic: whether they may be, what they have, how many numbers.
-/
namespace Go.Proofs.YtldcagjnngkabaaGreatDoor
open Go Go.RowKit

theorem errAll_both {n : Int} {a b : List Nat} (ha : errAll n [a] = 0) (hb : errAll n [b] = 0) : errAll n [a, b] = 0 := (errAll_second ha).trans hb
theorem errAll_split {n : Int} {a b : List Nat} (h : errAll n [a, b] = 0) : errAll n [a] = 0 ∧ errAll n [b] = 0 := by
  by_cases ha : errAll n [a] = 0
  · exact ⟨ha, (errAll_second ha).symm.trans h⟩
  · exact absurd ((errAll_first ha).symm.trans h) ha
theorem errAll_may {n : Int} {a : List Nat} (h1 : 1 ≤ n) (h2 : n ≤ 12288) (h : maySet n.toNat a = true) : errAll n [a] = 0 := by
  have : okN n = true := by simp [okN]; omega
  simp [errAll, this, h]

/-- A set below n whose numbers are told by those of two that may be. -/
theorem zip_may {n : Int} {a b z : List Nat} {g : Bool → Bool → Bool} (he : errAll n [a, b] = 0) (h0 : g false false = false) (hz : IsSet ((n.toNat + 63) / 64) z (fun j => g (hasW a j) (hasW b j))) : errAll n [z] = 0 := by
  obtain ⟨h1, h2, hma, hmb⟩ := err_two he
  refine errAll_may h1 h2 (mayS_iff.2 ⟨hz.len, fun k hk => ?_⟩)
  rw [hz.has, (mayS_iff.1 hma).2 k hk, (mayS_iff.1 hmb).2 k hk, h0]

/-- The three sets of two that may be. -/
structure Three (n : Int) (a b z1 z2 z3 : List Nat) : Prop where
  i1 : IsSet ((n.toNat + 63) / 64) z1 (fun j => hasW a j && hasW b j)
  i2 : IsSet ((n.toNat + 63) / 64) z2 (fun j => hasW a j || hasW b j)
  i3 : IsSet ((n.toNat + 63) / 64) z3 (fun j => hasW a j && !hasW b j)
  e1 : errAll n [z1] = 0
  e2 : errAll n [z2] = 0
  e3 : errAll n [z3] = 0
theorem three_of {n : Int} {a b : List Nat} (wa : ∀ x ∈ a, x < 18446744073709551616) (wb : ∀ x ∈ b, x < 18446744073709551616) (he : errAll n [a, b] = 0) : Three n a b (joinW andW n a b) (joinW orW n a b) (joinW notW n a b) := by
  obtain ⟨h1, h2, hma, hmb⟩ := err_two he
  have la := (mayS_iff.1 hma).1
  have lb := (mayS_iff.1 hmb).1
  unfold joinW
  simp only [if_pos he]
  have i1 := zip_and la lb wa wb
  have i2 := zip_or la lb wa wb
  have i3 := zip_not la lb wa wb
  exact ⟨i1, i2, i3, zip_may (g := fun x y => x && y) he rfl i1, zip_may (g := fun x y => x || y) he rfl i2, zip_may (g := fun x y => x && !y) he rfl i3⟩

theorem has_set {n : Int} {z : List Nat} {l : Nat} {p : Nat → Bool} (he : errAll n [z] = 0) (hz : IsSet l z p) (k : Int) : hasR n z k = (decide (0 ≤ k) && p k.toNat) := by
  unfold hasR
  rw [decide_eq_true he, Bool.true_and, hz.has]
theorem has_own {n : Int} {z : List Nat} (he : errAll n [z] = 0) (k : Int) : hasR n z k = (decide (0 ≤ k) && hasW z k.toNat) := by
  unfold hasR
  rw [decide_eq_true he, Bool.true_and]
theorem has_in {n : Int} {z : List Nat} {k : Int} (h : hasR n z k = true) : 0 ≤ k ∧ k < n := by
  constructor
  · apply Int.not_lt.1; intro hk; rw [hasR_neg hk] at h; cases h
  · apply Int.not_le.1; intro hk; rw [hasR_far hk] at h; cases h
theorem Three.has {n : Int} {a b z1 z2 z3 : List Nat} (h : Three n a b z1 z2 z3) (he : errAll n [a, b] = 0) (k : Int) :
    hasR n z1 k = (hasR n a k && hasR n b k) ∧ hasR n z2 k = (hasR n a k || hasR n b k) ∧ hasR n z3 k = (hasR n a k && !hasR n b k) := by
  obtain ⟨ha, hb⟩ := errAll_split he
  rw [has_set h.e1 h.i1, has_set h.e2 h.i2, has_set h.e3 h.i3, has_own ha, has_own hb]
  cases decide (0 ≤ k) <;> simp

theorem manyS_to {ws : List Nat} {l : Nat} (h : ws.length = l) : manyS ws = (listTo ws (64 * l)).length := by
  subst h
  exact (list_cnt ws ws.length).symm
theorem manyR_in {n : Int} {ws : List Nat} (h : errAll n [ws] = 0) : manyR n ws = manyS ws := by rw [manyR, if_pos h]
theorem manyS_le (ws : List Nat) : manyS ws ≤ 64 * ws.length := cnt_le ws ws.length

/-- How many there are in both, in either. -/
theorem Three.count {n : Int} {a b z1 z2 z3 : List Nat} (h : Three n a b z1 z2 z3) (he : errAll n [a, b] = 0) : manyS z1 + manyS z2 = manyS a + manyS b := by
  obtain ⟨h1, h2, hma, hmb⟩ := err_two he
  rw [manyS_to h.i1.len, manyS_to h.i2.len, manyS_to (mayS_iff.1 hma).1, manyS_to (mayS_iff.1 hmb).1]
  exact count_both h.i1.has h.i2.has _
theorem Three.whole {n : Int} {a b z1 z2 z3 : List Nat} (h : Three n a b z1 z2 z3) (he : errAll n [a, b] = 0) (wa : ∀ x ∈ a, x < 18446744073709551616) : joinW orW n z3 z1 = a := by
  obtain ⟨h1, h2, hma, hmb⟩ := err_two he
  have e31 := errAll_both h.e3 h.e1
  unfold joinW
  rw [if_pos e31]
  have hz := zip_or h.i3.len h.i1.len h.i3.word h.i1.word
  refine hz.ext ⟨(mayS_iff.1 hma).1, wa, fun k => ?_⟩
  rw [h.i3.has, h.i1.has]
  cases hasW a k <;> cases hasW b k <;> rfl
theorem Three.apart {n : Int} {a b z1 z2 z3 : List Nat} (h : Three n a b z1 z2 z3) : meetSB n z3 z1 = false := by
  unfold meetSB
  rw [Bool.and_eq_false_iff]
  right
  rw [Bool.eq_false_iff]
  intro hc
  obtain ⟨j, _, hj⟩ := List.any_eq_true.1 hc
  rw [h.i3.has, h.i1.has] at hj
  cases ha : hasW a j <;> cases hb : hasW b j <;> simp [ha, hb] at hj

end Go.Proofs.YtldcagjnngkabaaGreatDoor
