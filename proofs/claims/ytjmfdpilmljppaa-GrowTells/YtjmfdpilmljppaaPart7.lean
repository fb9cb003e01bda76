/-
  box.side's coords: the coordinates of a side, rising, in new memory.
-/
import Derived.Test.YtjmfdpilmljppaaPart3
import Derived.Test.YtjmfdpilmljppaaPart6
import Derived.Test.YtjmfdpilmljppaaPart5
namespace Go.Proofs.Ytjmfdpilmljppaa
open Go.RowKit Go.Shelf

attribute [local go_sem] Oper.semAt_some ext_const

def coordsTo (r b s : Int) (k : Nat) : List Int := ((List.range k).filter (fun j : Nat => hasS r b s j)).map (fun j : Nat => (j : Int))
def coordsS (r b s : Int) : List Int := coordsTo r b s r.toNat
theorem coordsTo_len (r b s : Int) (k : Nat) : (coordsTo r b s k).length ≤ k := by
  have := List.length_filter_le (fun j : Nat => hasS r b s j) (List.range k)
  simpa [coordsTo] using this
theorem coordsTo_yes {r b s : Int} {k : Nat} (h : hasS r b s k = true) : coordsTo r b s (k + 1) = coordsTo r b s k ++ [(k : Int)] := by
  simp [coordsTo, List.range_succ, List.filter_append, h]
theorem coordsTo_no {r b s : Int} {k : Nat} (h : hasS r b s k = false) : coordsTo r b s (k + 1) = coordsTo r b s k := by
  simp [coordsTo, List.range_succ, List.filter_append, h]

set_option maxRecDepth 100000 in
set_option maxHeartbeats 2000000 in
theorem coords_calls {r b s : Int} (w : World) (hr : r ≤ 16) (h : mayS r b s) :
    Calls Try.prog 47 #[A3 r b s] w fun e W' => ∃ v, e = .returned v ∧ Lst W' w.heap.size v (coordsS r b s) ∧ Below w.heap.size w W' := by
  have HH : Hid (∀ (w : World) (k : Int), 0 ≤ k → k < r → Calls Try.prog 74 #[A3 r b s, I k] w fun e W' => e = .returned (.bool (hasS r b s k)) ∧ Below w.heap.size w W') :=
    fun w k h0 h1 => has_calls s w hr h.2 ⟨h0, h1⟩
  obtain ⟨⟨s0, s1⟩, b0', b1'⟩ := h
  unfold coordsS
  go_enter Try.func47, Try.ntmps47
  have hB0 : Below w.heap.size w (w.alloc (.cells #[I r, I b, I s] 84)) := (Below.refl _ w).alloc (Nat.le_refl _) _
  have b0 := Blk.new w 84 #[I r, I b, I s]
  go_wp2_with (at_make; refine wpList_mk (base := (w.alloc (.cells #[I r, I b, I s] 84)).heap.size) rfl _ _ rfl s rfl rfl (by omega) (by omega) (Nat.le_refl _) ?_; intro v1 w1 hL1 hT1; obtain ⟨c0, c1, c2, hz⟩ := b0.three hT1)
  generalize w.alloc (.cells #[I r, I b, I s] 84) = W at *
  clear c0 c1 c2 hz
  go_loopw [3, 10] (fun v i wr => ∃ k : Nat, (k : Int) ≤ r ∧ i = .int .i64 k ∧ Lst wr W.heap.size v (coordsTo r b s k) ∧ Below W.heap.size W wr) (fun _ i _ => r.toNat - (RowKit.intOf i).toNat)
  case atStart => exact ⟨0, by omega, rfl, hL1, hT1⟩
  case round =>
    clear hL1 hT1
    obtain ⟨k, hk, rfl, hL, hT⟩ := hrel
    obtain ⟨c0, c1, c2, hz⟩ := b0.three hT
    by_cases hlt : (k : Int) < r
    · go_wp2_with fail
      refine (HH.out _ k (by omega) hlt).mono ?_
      rintro e w2 ⟨rfl, hB2⟩
      have hL := hL.later hB2
      have hT := then_below hT hB2
      clear c0 c1 c2 hz hB2
      cases hq : hasS r b s k
      · go_wp2
        go_roundw
        case rel => exact ⟨k + 1, by omega, by go_num, by rw [coordsTo_no hq]; exact hL, hT⟩
        case measure => simp [RowKit.intOf]; omega
      · go_wp2_with (at_builtin; refine wpList_app rfl _ _ rfl rfl rfl hL (by have := coordsTo_len r b s k; omega) hT.size ?_; intro v' w3 hL3 hT3)
        have hT := hT.trans hT3
        rw [← coordsTo_yes hq] at hL3
        clear hT3 hL
        go_roundw
        case rel => exact ⟨k + 1, by omega, by go_num, hL3, hT⟩
        case measure => simp [RowKit.intOf]; omega
    · have E : r.toNat = k := by omega
      have hL' : Lst wr w.heap.size _ (coordsTo r b s r.toNat) := (E ▸ hL).weak hB0.size
      clear hL E
      go_wp2
      go_ret
      exact ⟨_, rfl, hL', then_below hB0 hT⟩

end Go.Proofs.Ytjmfdpilmljppaa

/-
  What the document's own answer for layer 1 (tidehallref01) gives, for every input: dimensions, how many, the midplane at coordinates, the coordinates of one.
-/
namespace Go.Proofs.Ytjmfdpilmljppaa
open Go.RowKit Go.Shelf

attribute [local go_sem] Oper.semAt_some ext_const eq_arr

set_option maxRecDepth 100000 in
set_option maxHeartbeats 1000000 in
theorem rmay_calls (d0 d1 d2 : Int) (w : World) :
    Calls Try.prog 61 #[A3 d0 d1 d2] w fun e W' => ((mayD d0 d1 d2 ∧ e = .returned (.bool true)) ∨ (¬ mayD d0 d1 d2 ∧ e = .returned (.bool false))) ∧ Below w.heap.size w W' := by
  go_enter Try.func61, Try.ntmps61
  go_wp2
  go_loop [3] (fun i => i = .int .i64 0 ∨ (i = .int .i64 1 ∧ okD d0) ∨ (i = .int .i64 2 ∧ okD d0 ∧ okD d1) ∨ (i = .int .i64 3 ∧ mayD d0 d1 d2)) (fun i => 3 - (RowKit.intOf i).toNat)
  case atStart => exact .inl rfl
  case round =>
    have hB : Below w.heap.size w (w.alloc (.cells #[I d0, I d1, I d2] 26)) := (Below.refl _ w).alloc (Nat.le_refl _) _
    rcases hrel with rfl | ⟨rfl, h0⟩ | ⟨rfl, h0, h1⟩ | ⟨rfl, hm⟩
    · by_cases hl : d0 < 1
      · go_wp2
        go_ret
        exact ⟨.inr ⟨fun h => by have := h.1; unfold okD at this; omega, rfl⟩, hB⟩
      · by_cases hg : 16 < d0
        · go_wp2
          go_ret
          exact ⟨.inr ⟨fun h => by have := h.1; unfold okD at this; omega, rfl⟩, hB⟩
        · go_wp2
          go_round
          case rel => exact .inr (.inl ⟨rfl, by unfold okD; omega⟩)
          case measure => simp [RowKit.intOf]
    · by_cases hl : d1 < 1
      · go_wp2
        go_ret
        exact ⟨.inr ⟨fun h => by have := h.2.1; unfold okD at this; omega, rfl⟩, hB⟩
      · by_cases hg : 16 < d1
        · go_wp2
          go_ret
          exact ⟨.inr ⟨fun h => by have := h.2.1; unfold okD at this; omega, rfl⟩, hB⟩
        · go_wp2
          go_round
          case rel => exact .inr (.inr (.inl ⟨rfl, h0, by unfold okD; omega⟩))
          case measure => simp [RowKit.intOf]
    · by_cases hl : d2 < 1
      · go_wp2
        go_ret
        exact ⟨.inr ⟨fun h => by have := h.2.2; unfold okD at this; omega, rfl⟩, hB⟩
      · by_cases hg : 16 < d2
        · go_wp2
          go_ret
          exact ⟨.inr ⟨fun h => by have := h.2.2; unfold okD at this; omega, rfl⟩, hB⟩
        · go_wp2
          go_round
          case rel => exact .inr (.inr (.inr ⟨rfl, h0, h1, by unfold okD; omega⟩))
          case measure => simp [RowKit.intOf]
    · go_wp2
      go_ret
      exact ⟨rfl, hB⟩

theorem rmay_yes {d0 d1 d2 : Int} (w : World) (h : mayD d0 d1 d2) : Calls Try.prog 61 #[A3 d0 d1 d2] w fun e W' => e = .returned (.bool true) ∧ Below w.heap.size w W' := by
  refine (rmay_calls d0 d1 d2 w).mono ?_
  rintro e W' ⟨⟨_, rfl⟩ | ⟨hn, _⟩, hB⟩
  · exact ⟨rfl, hB⟩
  · exact absurd h hn
theorem rmay_no {d0 d1 d2 : Int} (w : World) (h : ¬ mayD d0 d1 d2) : Calls Try.prog 61 #[A3 d0 d1 d2] w fun e W' => e = .returned (.bool false) ∧ Below w.heap.size w W' := by
  refine (rmay_calls d0 d1 d2 w).mono ?_
  rintro e W' ⟨⟨hy, _⟩ | ⟨_, rfl⟩, hB⟩
  · exact absurd hy h
  · exact ⟨rfl, hB⟩

theorem rn_calls {d0 d1 d2 : Int} (w : World) (h : mayD d0 d1 d2) : Calls Try.prog 34 #[A3 d0 d1 d2] w fun e W' => e = .returned (I (d0 * d1 * d2)) ∧ Below w.heap.size w W' := by
  have hn := N_bd h
  have h' := h
  obtain ⟨h0, h1, h2⟩ := h'
  unfold okD at h0 h1 h2
  have hp : 0 ≤ d0 * d1 ∧ d0 * d1 ≤ 16 * 16 := mul_bd (by omega) h0.2 (by omega) h1.2
  go_enter Try.func34, Try.ntmps34
  go_wp2
  go_ret
  exact ⟨rfl, (Below.refl _ w).alloc (Nat.le_refl _) _⟩

set_option maxRecDepth 100000 in
set_option maxHeartbeats 1000000 in
theorem rwhere_calls {d0 d1 d2 m : Int} (w : World) (h : mayD d0 d1 d2) (hm : 0 ≤ m ∧ m < d0 * d1 * d2) : Calls Try.prog 63 #[A3 d0 d1 d2, I m] w fun e W' => e = .returned (A3 (cx d0 m) (cy d0 d1 m) (cz d0 d1 m)) ∧ Below w.heap.size w W' := by
  have hN := N_bd h
  have hm0 : 0 ≤ m := hm.1
  have hm1 : m ≤ 4096 := by omega
  have h' := h
  obtain ⟨h0, h1, h2⟩ := h'
  unfold okD at h0 h1 h2
  have r0 : 0 ≤ m / d0 := Int.ediv_nonneg hm0 (by omega)
  have r1 : m / d0 ≤ 4096 := Int.le_trans (Int.ediv_le_self _ hm0) hm1
  unfold cx cy cz
  clear hN hm
  obtain ⟨h00, h01⟩ := h0
  obtain ⟨h10, h11⟩ := h1
  go_enter Try.func63, Try.ntmps63
  go_wp2
  obtain ⟨W, hW, hB0, b0, b1⟩ := two_start w #[I d0, I d1, I d2] #[I 0, I 0, I 0] 26 25
  rw [hW]
  clear hW
  have hmx : Try.prog.follows .mixedOrders = true := by kernel_rfl
  have e1 := Ext.cell b0 1
  simp at e1
  refine wp_region_tail 10 hmx (by kernel_rfl) ?_
  simp only [List.take_succ_cons, List.take_zero, List.drop_succ_cons, List.drop_zero]
  repeat (go_big_quiet_step (fail))
  refine wpQuiet_nil ?_
  intro x
  have q1 := b1.later x.le
  obtain ⟨c0, c1, c2, f0, f1, f2⟩ := q1.row
  gi_wp2
  have hBX := below_set3 (below_ext hB0 x) (Nat.le_succ _) (I (m % d0)) (I (m / d0 % d1)) (I (m / d0 / d1))
  have q3 := q1.set3 (I (m % d0)) (I (m / d0 % d1)) (I (m / d0 / d1))
  obtain ⟨j0, j1, j2, _, _, _⟩ := q3.row
  go_wp2
  exact bodyPost_ret (v := A3 (m % d0) (m / d0 % d1) (m / d0 / d1)) (by simp [results, Try.f63, go_sem, j0, j1, j2]) rfl ⟨rfl, hBX⟩

end Go.Proofs.Ytjmfdpilmljppaa

/-
  What the document's own answer for layer 2 (tidehallref02) gives: May, Check, Told, Canon, Many, both.
-/
namespace Go.Proofs.Ytjmfdpilmljppaa
open Go.RowKit Go.Shelf

attribute [local go_sem] Oper.semAt_some ext_const

theorem four_way (d s b : Int) : (s < 1 ∧ Hid (maySB d b s = false)) ∨ (decide (s < 1) = false ∧ d < s ∧ Hid (maySB d b s = false)) ∨ (decide (s < 1) = false ∧ decide (d < s) = false ∧ b < 0 ∧ Hid (maySB d b s = false)) ∨
    (decide (s < 1) = false ∧ decide (d < s) = false ∧ decide (b < 0) = false ∧ d ≤ b ∧ Hid (maySB d b s = false)) ∨
    (decide (s < 1) = false ∧ decide (d < s) = false ∧ decide (b < 0) = false ∧ decide (d ≤ b) = false ∧ Hid (maySB d b s = true)) := by
  have no : (s < 1 ∨ d < s ∨ b < 0 ∨ d ≤ b) → Hid (maySB d b s = false) := fun h => by
    show _ = _
    rw [← Bool.not_eq_true, maySB_iff]
    unfold mayS
    omega
  have yes : (¬ s < 1 ∧ ¬ d < s ∧ ¬ b < 0 ∧ ¬ d ≤ b) → Hid (maySB d b s = true) := fun h => (maySB_iff _ _ _).2 (by unfold mayS; omega)
  simp only [decide_eq_false_iff_not]
  by_cases h1 : s < 1
  · exact .inl ⟨h1, no (.inl h1)⟩
  · by_cases h2 : d < s
    · exact .inr (.inl ⟨h1, h2, no (.inr (.inl h2))⟩)
    · by_cases h3 : b < 0
      · exact .inr (.inr (.inl ⟨h1, h2, h3, no (.inr (.inr (.inl h3)))⟩))
      · by_cases h4 : d ≤ b
        · exact .inr (.inr (.inr (.inl ⟨h1, h2, h3, h4, no (.inr (.inr (.inr h4)))⟩)))
        · exact .inr (.inr (.inr (.inr ⟨h1, h2, h3, h4, yes ⟨h1, h2, h3, h4⟩⟩)))

set_option maxRecDepth 100000 in
set_option maxHeartbeats 8000000 in
theorem rmayb_calls (d0 d1 d2 : Int) (b : Bx) (w : World) :
    Calls Try.prog 39 #[A3 d0 d1 d2, B6 b] w fun e W' => e = .returned (.bool (mayBB d0 d1 d2 b)) ∧ Below w.heap.size w W' := by
  have hmx : Try.prog.follows .mixedOrders = true := by kernel_rfl
  go_enter Try.func39, Try.ntmps39
  go_wp2
  obtain ⟨W, hW, hB0, b0, b1⟩ := two_start w #[I d0, I d1, I d2] (C6 b) 26 32
  rw [hW]
  clear hW
  go_loopw [5] (fun i wr => (i = .int .i64 0 ∨ (i = .int .i64 1 ∧ Hid (maySB d0 b.x b.a = true)) ∨ (i = .int .i64 2 ∧ Hid (maySB d0 b.x b.a = true ∧ maySB d1 b.y b.b = true)) ∨ (i = .int .i64 3 ∧ Hid (mayBB d0 d1 d2 b = true))) ∧ Below W.heap.size W wr) (fun i _ => 3 - (RowKit.intOf i).toNat)
  case atStart => exact ⟨.inl rfl, Below.refl _ _⟩
  case round =>
    obtain ⟨hi, hT⟩ := hrel
    have q0 := b0.later hT
    have q1 := b1.later hT
    have e0 := Ext.cell q0 0
    have e1 := Ext.cell q0 1
    have e2 := Ext.cell q0 2
    have y0 := Ext.cell q1 0
    have y1 := Ext.cell q1 1
    have y2 := Ext.cell q1 2
    have y3 := Ext.cell q1 3
    have y4 := Ext.cell q1 4
    have y5 := Ext.cell q1 5
    simp at e0 e1 e2 y0 y1 y2 y3 y4 y5
    rcases hi with rfl | ⟨rfl, H⟩ | ⟨rfl, H⟩ | ⟨rfl, H⟩
    · rcases four_way d0 b.a b.x with ⟨a1, K⟩ | ⟨a1, a2, K⟩ | ⟨a1, a2, a3, K⟩ | ⟨a1, a2, a3, a4, K⟩ | ⟨a1, a2, a3, a4, K⟩
      all_goals
        go_wp2
        refine wp_region_look hmx (by kernel_rfl) ?_
        repeat (go_big_quiet_step (fail))
        refine wpQuiet_nil ?_
        intro v
        have hT := then_below hT v.le
        go_wp2
      · go_ret
        exact ⟨by rw [mayBB, K.out]; simp, then_below hB0 hT⟩
      · go_ret
        exact ⟨by rw [mayBB, K.out]; simp, then_below hB0 hT⟩
      · go_ret
        exact ⟨by rw [mayBB, K.out]; simp, then_below hB0 hT⟩
      · go_ret
        exact ⟨by rw [mayBB, K.out]; simp, then_below hB0 hT⟩
      · go_roundw
        case rel => exact ⟨.inr (.inl ⟨rfl, K.out⟩), hT⟩
        case measure => simp [RowKit.intOf]
    · rcases four_way d1 b.b b.y with ⟨a1, K⟩ | ⟨a1, a2, K⟩ | ⟨a1, a2, a3, K⟩ | ⟨a1, a2, a3, a4, K⟩ | ⟨a1, a2, a3, a4, K⟩
      all_goals
        go_wp2
        refine wp_region_look hmx (by kernel_rfl) ?_
        repeat (go_big_quiet_step (fail))
        refine wpQuiet_nil ?_
        intro v
        have hT := then_below hT v.le
        go_wp2
      · go_ret
        exact ⟨by rw [mayBB, K.out]; simp, then_below hB0 hT⟩
      · go_ret
        exact ⟨by rw [mayBB, K.out]; simp, then_below hB0 hT⟩
      · go_ret
        exact ⟨by rw [mayBB, K.out]; simp, then_below hB0 hT⟩
      · go_ret
        exact ⟨by rw [mayBB, K.out]; simp, then_below hB0 hT⟩
      · go_roundw
        case rel => exact ⟨.inr (.inr (.inl ⟨rfl, H.out, K.out⟩)), hT⟩
        case measure => simp [RowKit.intOf]
    · rcases four_way d2 b.c b.z with ⟨a1, K⟩ | ⟨a1, a2, K⟩ | ⟨a1, a2, a3, K⟩ | ⟨a1, a2, a3, a4, K⟩ | ⟨a1, a2, a3, a4, K⟩
      all_goals
        go_wp2
        refine wp_region_look hmx (by kernel_rfl) ?_
        repeat (go_big_quiet_step (fail))
        refine wpQuiet_nil ?_
        intro v
        have hT := then_below hT v.le
        go_wp2
      · go_ret
        exact ⟨by rw [mayBB, K.out]; simp, then_below hB0 hT⟩
      · go_ret
        exact ⟨by rw [mayBB, K.out]; simp, then_below hB0 hT⟩
      · go_ret
        exact ⟨by rw [mayBB, K.out]; simp, then_below hB0 hT⟩
      · go_ret
        exact ⟨by rw [mayBB, K.out]; simp, then_below hB0 hT⟩
      · go_roundw
        case rel => exact ⟨.inr (.inr (.inr ⟨rfl, by show _ = _; rw [mayBB, H.out.1, H.out.2, K.out]; rfl⟩)), hT⟩
        case measure => simp [RowKit.intOf]
    · go_wp2
      go_ret
      exact ⟨by simp [H.out], then_below hB0 hT⟩

theorem errB2_eq (d0 d1 d2 : Int) (a b : Bx) : (errB d0 d1 d2 a = 0 ∧ errB2 d0 d1 d2 a b = errB d0 d1 d2 b) ∨ ((errB d0 d1 d2 a != 0) = true ∧ errB2 d0 d1 d2 a b = errB d0 d1 d2 a) := by
  unfold errB errB2 codeOf
  cases okDB d0 d1 d2 <;> cases mayBB d0 d1 d2 a <;> cases mayBB d0 d1 d2 b <;> simp

end Go.Proofs.Ytjmfdpilmljppaa

/-
  What the document's own answer for layer 2 (tidehallref02) gives: Told, Canon, Many.
-/
namespace Go.Proofs.Ytjmfdpilmljppaa
open Go.RowKit Go.Shelf

attribute [local go_sem] Oper.semAt_some ext_const

set_option maxRecDepth 100000 in
set_option maxHeartbeats 4000000 in
theorem rtold_calls (d0 d1 d2 : Int) (b : Bx) (w : World) :
    Calls Try.prog 41 #[A3 d0 d1 d2, B6 b] w fun e W' => e = .returned (B6 (canonB d0 d1 d2 b)) ∧ Below w.heap.size w W' := by
  have hmx : Try.prog.follows .mixedOrders = true := by kernel_rfl
  obtain ⟨X, hX⟩ : ∃ X, X = (canonB d0 d1 d2 b).x := ⟨_, rfl⟩
  obtain ⟨Y, hY⟩ : ∃ Y, Y = (canonB d0 d1 d2 b).y := ⟨_, rfl⟩
  obtain ⟨Z, hZ⟩ : ∃ Z, Z = (canonB d0 d1 d2 b).z := ⟨_, rfl⟩
  have hR : B6 (canonB d0 d1 d2 b) = .agg #[I X, I Y, I Z, I b.a, I b.b, I b.c] := by rw [hX, hY, hZ]; rfl
  rw [hR]
  have HX : Hid (X = if b.a = d0 then 0 else b.x) := hX
  have HY : Hid (Y = if b.b = d1 then 0 else b.y) := hY
  have HZ : Hid (Z = if b.c = d2 then 0 else b.z) := hZ
  clear hX hY hZ hR
  go_enter Try.func41, Try.ntmps41
  go_wp2_with fail
  obtain ⟨W, hW, hs, hB, g0, g1, g2⟩ := three_start w #[I d0, I d1, I d2] (C6 b) #[I 0, I 0, I 0, I 0, I 0, I 0] 26 32 32
  rw [hW]
  clear hW
  go_loopw [5] (fun i wr => ((i = .int .i64 0 ∧ Blk wr (w.heap.size + 1) 32 (C6 b)) ∨ (i = .int .i64 1 ∧ Blk wr (w.heap.size + 1) 32 #[I X, I b.y, I b.z, I b.a, I b.b, I b.c]) ∨
    (i = .int .i64 2 ∧ Blk wr (w.heap.size + 1) 32 #[I X, I Y, I b.z, I b.a, I b.b, I b.c]) ∨ (i = .int .i64 3 ∧ Blk wr (w.heap.size + 1) 32 #[I X, I Y, I Z, I b.a, I b.b, I b.c])) ∧
    Blk wr w.heap.size 26 #[I d0, I d1, I d2] ∧ Blk wr (w.heap.size + 1 + 1) 32 #[I 0, I 0, I 0, I 0, I 0, I 0] ∧ Below w.heap.size w wr) (fun i _ => 3 - (RowKit.intOf i).toNat)
  case atStart => exact ⟨.inl ⟨rfl, g1⟩, g0, g2, hB⟩
  case round =>
    clear g0 g1 g2 hB
    obtain ⟨hi, g0, g2, hB⟩ := hrel
    have x0 := Ext.cell g0 0
    have x1 := Ext.cell g0 1
    have x2 := Ext.cell g0 2
    simp at x0 x1 x2
    rcases hi with ⟨rfl, g1⟩ | ⟨rfl, g1⟩ | ⟨rfl, g1⟩ | ⟨rfl, g1⟩
    · have y3 := Ext.cell g1 3
      simp at y3
      cases hq : b.a == d0
      · have E : X = b.x := by rw [HX.out, if_neg (by simpa using hq)]
        subst E
        go_wp2
        refine wp_region_look hmx (by kernel_rfl) ?_
        repeat (go_big_quiet_step (fail))
        refine wpQuiet_nil ?_
        intro v
        go_wp2
        go_roundw
        case rel => exact ⟨.inr (.inl ⟨rfl, g1.later v.le⟩), g0.later v.le, g2.later v.le, then_below hB v.le⟩
        case measure => simp [RowKit.intOf]
      · have E : X = 0 := by rw [HX.out, if_pos (by simpa using hq)]
        subst E
        go_wp2
        refine wp_region_look hmx (by kernel_rfl) ?_
        repeat (go_big_quiet_step (fail))
        refine wpQuiet_nil ?_
        intro v
        have q1 := g1.later v.le
        obtain ⟨⟨c0, c1, c2, c3, c4, c5⟩, f0, f1, f2, f3, f4, f5⟩ := q1.row6
        go_wp2
        go_roundw
        case rel => exact ⟨.inr (.inl ⟨rfl, q1.set 0 (I 0)⟩), (g0.later v.le).other _ _ (by omega), (g2.later v.le).other _ _ (by omega), (then_below hB v.le).setCell (p := ⟨w.heap.size + 1, 0, none⟩) (by simp) _⟩
        case measure => simp [RowKit.intOf]
    · have y3 := Ext.cell g1 4
      simp at y3
      cases hq : b.b == d1
      · have E : Y = b.y := by rw [HY.out, if_neg (by simpa using hq)]
        subst E
        go_wp2
        refine wp_region_look hmx (by kernel_rfl) ?_
        repeat (go_big_quiet_step (fail))
        refine wpQuiet_nil ?_
        intro v
        go_wp2
        go_roundw
        case rel => exact ⟨.inr (.inr (.inl ⟨rfl, g1.later v.le⟩)), g0.later v.le, g2.later v.le, then_below hB v.le⟩
        case measure => simp [RowKit.intOf]
      · have E : Y = 0 := by rw [HY.out, if_pos (by simpa using hq)]
        subst E
        go_wp2
        refine wp_region_look hmx (by kernel_rfl) ?_
        repeat (go_big_quiet_step (fail))
        refine wpQuiet_nil ?_
        intro v
        have q1 := g1.later v.le
        obtain ⟨⟨c0, c1, c2, c3, c4, c5⟩, f0, f1, f2, f3, f4, f5⟩ := q1.row6
        go_wp2
        go_roundw
        case rel => exact ⟨.inr (.inr (.inl ⟨rfl, q1.set 1 (I 0)⟩)), (g0.later v.le).other _ _ (by omega), (g2.later v.le).other _ _ (by omega), (then_below hB v.le).setCell (p := ⟨w.heap.size + 1, 1, none⟩) (by simp) _⟩
        case measure => simp [RowKit.intOf]
    · have y3 := Ext.cell g1 5
      simp at y3
      cases hq : b.c == d2
      · have E : Z = b.z := by rw [HZ.out, if_neg (by simpa using hq)]
        subst E
        go_wp2
        refine wp_region_look hmx (by kernel_rfl) ?_
        repeat (go_big_quiet_step (fail))
        refine wpQuiet_nil ?_
        intro v
        go_wp2
        go_roundw
        case rel => exact ⟨.inr (.inr (.inr ⟨rfl, g1.later v.le⟩)), g0.later v.le, g2.later v.le, then_below hB v.le⟩
        case measure => simp [RowKit.intOf]
      · have E : Z = 0 := by rw [HZ.out, if_pos (by simpa using hq)]
        subst E
        go_wp2
        refine wp_region_look hmx (by kernel_rfl) ?_
        repeat (go_big_quiet_step (fail))
        refine wpQuiet_nil ?_
        intro v
        have q1 := g1.later v.le
        obtain ⟨⟨c0, c1, c2, c3, c4, c5⟩, f0, f1, f2, f3, f4, f5⟩ := q1.row6
        go_wp2
        go_roundw
        case rel => exact ⟨.inr (.inr (.inr ⟨rfl, q1.set 2 (I 0)⟩)), (g0.later v.le).other _ _ (by omega), (g2.later v.le).other _ _ (by omega), (then_below hB v.le).setCell (p := ⟨w.heap.size + 1, 2, none⟩) (by simp) _⟩
        case measure => simp [RowKit.intOf]
    · obtain ⟨⟨c0, c1, c2, c3, c4, c5⟩, _⟩ := g1.row6
      obtain ⟨⟨k0, k1, k2, k3, k4, k5⟩, f0, f1, f2, f3, f4, f5⟩ := g2.row6
      clear x0 x1 x2
      go_wp2
      obtain ⟨⟨j0, j1, j2, j3, j4, j5⟩, _⟩ := (g2.set6 (I X) (I Y) (I Z) (I b.a) (I b.b) (I b.c)).row6
      have hBX := below_set6 hB (show w.heap.size ≤ w.heap.size + 1 + 1 by omega) (I X) (I Y) (I Z) (I b.a) (I b.b) (I b.c)
      exact bodyPost_ret (v := .agg #[I X, I Y, I Z, I b.a, I b.b, I b.c]) (by simp [results, Try.f41, go_sem, j0, j1, j2, j3, j4, j5]) rfl ⟨rfl, hBX⟩

end Go.Proofs.Ytjmfdpilmljppaa

/-
  What the document's own answer for layer 2 (tidehallref02) gives: In, Has.
-/
namespace Go.Proofs.Ytjmfdpilmljppaa
open Go.RowKit Go.Shelf

attribute [local go_sem] Oper.semAt_some ext_const

/-- One of the first n steps on from b is p. -/
def thereS (r b p : Int) (n : Nat) : Bool := (List.range n).any fun j => (b + (j : Int)) % r == p
theorem thereS_succ (r b p : Int) (n : Nat) : thereS r b p (n + 1) = (thereS r b p n || (b + (n : Int)) % r == p) := by
  simp [thereS, List.range_succ, List.any_append]
theorem thereS_all {r b s p : Int} {n : Nat} (h : mayS r b s) (hp : 0 ≤ p ∧ p < r) (hn : (n : Int) = s) : thereS r b p n = hasS r b s p := by
  rw [Bool.eq_iff_iff, hasS_iff h hp, thereS, List.any_eq_true]
  constructor
  · rintro ⟨j, hj, he⟩
    exact ⟨j, by omega, by have := List.mem_range.1 hj; omega, by simpa using he⟩
  · rintro ⟨j, j0, j1, he⟩
    exact ⟨j.toNat, List.mem_range.2 (by omega), by rw [Int.toNat_of_nonneg j0]; simpa using he⟩

set_option maxRecDepth 100000 in
set_option maxHeartbeats 8000000 in
theorem rin_calls {d0 d1 d2 m : Int} {b : Bx} (w : World) (hm : mayD d0 d1 d2) (hb : mayB d0 d1 d2 b) (hn : 0 ≤ m ∧ m < d0 * d1 * d2) :
    Calls Try.prog 65 #[A3 d0 d1 d2, B6 b, I m] w fun e W' => e = .returned (.bool (hasB d0 d1 d2 b m)) ∧ Below w.heap.size w W' := by
  have hmx : Try.prog.follows .mixedOrders = true := by kernel_rfl
  have HN : Hid (0 ≤ m ∧ m < d0 * d1 * d2) := hn
  have HI : Hid (inD d0 d1 d2 (cx d0 m) (cy d0 d1 m) (cz d0 d1 m)) := inD_of_node hm hn
  have HB : Hid (mayB d0 d1 d2 b) := hb
  have hm' := hm
  obtain ⟨⟨g0, g1⟩, ⟨g2, g3⟩, g4, g5⟩ := hm'
  obtain ⟨⟨⟨s0, s1⟩, s2, s3⟩, ⟨⟨s4, s5⟩, s6, s7⟩, ⟨s8, s9⟩, s10, s11⟩ := hb
  have HW : Hid (∀ w : World, Calls Try.prog 63 #[A3 d0 d1 d2, I m] w fun e W' => e = .returned (A3 (cx d0 m) (cy d0 d1 m) (cz d0 d1 m)) ∧ Below w.heap.size w W') := fun w => rwhere_calls w hm hn
  clear hn
  unfold hasB
  generalize cx d0 m = p0 at HW HI ⊢
  generalize cy d0 d1 m = p1 at HW HI ⊢
  generalize cz d0 d1 m = p2 at HW HI ⊢
  go_enter Try.func65, Try.ntmps65
  go_wp2_with fail
  obtain ⟨W, hW, hB0, b0, b1⟩ := two_start w #[I d0, I d1, I d2] (C6 b) 26 32
  rw [hW]
  clear hW
  refine (HW.out _).mono ?_
  rintro e w1 ⟨rfl, hT⟩
  go_wp2_with fail
  have q0 := (b0.later hT).alloc (.cells #[I p0, I p1, I p2] 25)
  have q1 := (b1.later hT).alloc (.cells #[I p0, I p1, I p2] 25)
  have q2 := Blk.new w1 25 #[I p0, I p1, I p2]
  have hB0 := then_alloc (then_below hB0 hT) (.cells #[I p0, I p1, I p2] 25)
  generalize w1.alloc (.cells #[I p0, I p1, I p2] 25) = W1 at *
  go_loopw [8] (fun i wr => (i = .int .i64 0 ∨ (i = .int .i64 1 ∧ Hid (hasS d0 b.x b.a p0 = true)) ∨ (i = .int .i64 2 ∧ Hid (hasS d0 b.x b.a p0 = true ∧ hasS d1 b.y b.b p1 = true)) ∨ (i = .int .i64 3 ∧ Hid (hasS d0 b.x b.a p0 = true ∧ hasS d1 b.y b.b p1 = true ∧ hasS d2 b.z b.c p2 = true))) ∧ Below W1.heap.size W1 wr) (fun i _ => 3 - (RowKit.intOf i).toNat)
  case atStart => exact ⟨.inl rfl, Below.refl _ _⟩
  case round =>
    obtain ⟨hi, hT1⟩ := hrel
    rcases hi with rfl | ⟨rfl, H⟩ | ⟨rfl, H⟩ | ⟨rfl, H⟩
    · go_wp2
      go_loopw [9, 10] (fun t k wr => ∃ j : Nat, (j : Int) ≤ b.a ∧ k = .int .i64 j ∧ t = .bool (thereS d0 b.x p0 j) ∧ Below W1.heap.size W1 wr) (fun _ k _ => b.a.toNat - (RowKit.intOf k).toNat)
      case atStart => exact ⟨0, by omega, rfl, rfl, hT1⟩
      case round =>
        obtain ⟨j, hj, rfl, rfl, hT⟩ := hrel
        by_cases hlt : (j : Int) < b.a
        · have y0 := (q1.later hT).cell 3
          simp at y0
          have e0 := Ext.cell (q0.later hT) 0
          have e1 := Ext.cell (q1.later hT) 0
          have e2 := Ext.cell (q2.later hT) 0
          simp at e0 e1 e2
          cases hq : ((b.x + (j : Int)) % d0 == p0)
          · go_wp2
            refine wp_region_look hmx (by kernel_rfl) ?_
            repeat (go_big_quiet_step (fail))
            refine wpQuiet_nil ?_
            intro v
            go_wp2
            go_roundw
            case rel => exact ⟨j + 1, by omega, by go_num, by rw [thereS_succ, hq]; simp, then_below hT v.le⟩
            case measure => simp [RowKit.intOf]; omega
          · go_wp2
            refine wp_region_look hmx (by kernel_rfl) ?_
            repeat (go_big_quiet_step (fail))
            refine wpQuiet_nil ?_
            intro v
            go_wp2
            go_roundw
            case rel => exact ⟨j + 1, by omega, by go_num, by rw [thereS_succ, hq]; simp, then_below hT v.le⟩
            case measure => simp [RowKit.intOf]; omega
        · have y0 := (q1.later hT).cell 3
          simp at y0
          have E : thereS d0 b.x p0 j = hasS d0 b.x b.a p0 := thereS_all HB.out.1 HI.out.1 (by omega)
          rw [E]
          clear E
          cases hq : hasS d0 b.x b.a p0
          · go_wp2
            go_ret
            exact ⟨by simp, then_below hB0 hT⟩
          · go_wp2
            go_roundw
            case rel => exact ⟨.inr (.inl ⟨rfl, hq⟩), hT⟩
            case measure => simp [RowKit.intOf]
    · go_wp2
      go_loopw [9, 10] (fun t k wr => ∃ j : Nat, (j : Int) ≤ b.b ∧ k = .int .i64 j ∧ t = .bool (thereS d1 b.y p1 j) ∧ Below W1.heap.size W1 wr) (fun _ k _ => b.b.toNat - (RowKit.intOf k).toNat)
      case atStart => exact ⟨0, by omega, rfl, rfl, hT1⟩
      case round =>
        obtain ⟨j, hj, rfl, rfl, hT⟩ := hrel
        by_cases hlt : (j : Int) < b.b
        · have y0 := (q1.later hT).cell 4
          simp at y0
          have e0 := Ext.cell (q0.later hT) 1
          have e1 := Ext.cell (q1.later hT) 1
          have e2 := Ext.cell (q2.later hT) 1
          simp at e0 e1 e2
          cases hq : ((b.y + (j : Int)) % d1 == p1)
          · go_wp2
            refine wp_region_look hmx (by kernel_rfl) ?_
            repeat (go_big_quiet_step (fail))
            refine wpQuiet_nil ?_
            intro v
            go_wp2
            go_roundw
            case rel => exact ⟨j + 1, by omega, by go_num, by rw [thereS_succ, hq]; simp, then_below hT v.le⟩
            case measure => simp [RowKit.intOf]; omega
          · go_wp2
            refine wp_region_look hmx (by kernel_rfl) ?_
            repeat (go_big_quiet_step (fail))
            refine wpQuiet_nil ?_
            intro v
            go_wp2
            go_roundw
            case rel => exact ⟨j + 1, by omega, by go_num, by rw [thereS_succ, hq]; simp, then_below hT v.le⟩
            case measure => simp [RowKit.intOf]; omega
        · have y0 := (q1.later hT).cell 4
          simp at y0
          have E : thereS d1 b.y p1 j = hasS d1 b.y b.b p1 := thereS_all HB.out.2.1 HI.out.2.1 (by omega)
          rw [E]
          clear E
          cases hq : hasS d1 b.y b.b p1
          · go_wp2
            go_ret
            exact ⟨by simp, then_below hB0 hT⟩
          · go_wp2
            go_roundw
            case rel => exact ⟨.inr (.inr (.inl ⟨rfl, H.out, hq⟩)), hT⟩
            case measure => simp [RowKit.intOf]
    · go_wp2
      go_loopw [9, 10] (fun t k wr => ∃ j : Nat, (j : Int) ≤ b.c ∧ k = .int .i64 j ∧ t = .bool (thereS d2 b.z p2 j) ∧ Below W1.heap.size W1 wr) (fun _ k _ => b.c.toNat - (RowKit.intOf k).toNat)
      case atStart => exact ⟨0, by omega, rfl, rfl, hT1⟩
      case round =>
        obtain ⟨j, hj, rfl, rfl, hT⟩ := hrel
        by_cases hlt : (j : Int) < b.c
        · have y0 := (q1.later hT).cell 5
          simp at y0
          have e0 := Ext.cell (q0.later hT) 2
          have e1 := Ext.cell (q1.later hT) 2
          have e2 := Ext.cell (q2.later hT) 2
          simp at e0 e1 e2
          cases hq : ((b.z + (j : Int)) % d2 == p2)
          · go_wp2
            refine wp_region_look hmx (by kernel_rfl) ?_
            repeat (go_big_quiet_step (fail))
            refine wpQuiet_nil ?_
            intro v
            go_wp2
            go_roundw
            case rel => exact ⟨j + 1, by omega, by go_num, by rw [thereS_succ, hq]; simp, then_below hT v.le⟩
            case measure => simp [RowKit.intOf]; omega
          · go_wp2
            refine wp_region_look hmx (by kernel_rfl) ?_
            repeat (go_big_quiet_step (fail))
            refine wpQuiet_nil ?_
            intro v
            go_wp2
            go_roundw
            case rel => exact ⟨j + 1, by omega, by go_num, by rw [thereS_succ, hq]; simp, then_below hT v.le⟩
            case measure => simp [RowKit.intOf]; omega
        · have y0 := (q1.later hT).cell 5
          simp at y0
          have E : thereS d2 b.z p2 j = hasS d2 b.z b.c p2 := thereS_all HB.out.2.2 HI.out.2.2 (by omega)
          rw [E]
          clear E
          cases hq : hasS d2 b.z b.c p2
          · go_wp2
            go_ret
            exact ⟨by simp, then_below hB0 hT⟩
          · go_wp2
            go_roundw
            case rel => exact ⟨.inr (.inr (.inr ⟨rfl, H.out.1, H.out.2, hq⟩)), hT⟩
            case measure => simp [RowKit.intOf]
    · go_wp2
      go_ret
      exact ⟨by simp [H.out.1, H.out.2.1, H.out.2.2], then_below hB0 hT1⟩

end Go.Proofs.Ytjmfdpilmljppaa

/-
  What the document's own answer for layer 2 (tidehallref02) gives: All, Nodes: a box's midplanes, rising, in new memory.
-/
namespace Go.Proofs.Ytjmfdpilmljppaa
open Go.RowKit Go.Shelf

attribute [local go_sem] Oper.semAt_some ext_const

/-- Of the first k midplanes those of a box. -/
def nodesTo (d0 d1 d2 : Int) (b : Bx) (k : Nat) : List Int := ((List.range k).filter (fun m : Nat => hasB d0 d1 d2 b m)).map (fun m : Nat => (m : Int))
def nodesB (d0 d1 d2 : Int) (b : Bx) : List Int := nodesTo d0 d1 d2 b (d0 * d1 * d2).toNat
theorem nodesTo_len (d0 d1 d2 : Int) (b : Bx) (k : Nat) : (nodesTo d0 d1 d2 b k).length ≤ k := by
  have := List.length_filter_le (fun m : Nat => hasB d0 d1 d2 b m) (List.range k)
  simpa [nodesTo] using this
theorem nodesTo_yes {d0 d1 d2 : Int} {b : Bx} {k : Nat} (h : hasB d0 d1 d2 b k = true) : nodesTo d0 d1 d2 b (k + 1) = nodesTo d0 d1 d2 b k ++ [(k : Int)] := by
  simp [nodesTo, List.range_succ, List.filter_append, h]
theorem nodesTo_no {d0 d1 d2 : Int} {b : Bx} {k : Nat} (h : hasB d0 d1 d2 b k = false) : nodesTo d0 d1 d2 b (k + 1) = nodesTo d0 d1 d2 b k := by
  simp [nodesTo, List.range_succ, List.filter_append, h]
theorem nodesB_len {d0 d1 d2 : Int} (hm : mayD d0 d1 d2) (b : Bx) : (nodesB d0 d1 d2 b).length ≤ 4096 := by
  have h1 := nodesTo_len d0 d1 d2 b (d0 * d1 * d2).toNat
  have h2 := N_bd hm
  unfold nodesB
  omega

set_option maxRecDepth 100000 in
set_option maxHeartbeats 2000000 in
theorem rall_calls {d0 d1 d2 : Int} {b : Bx} (w : World) (hm : mayD d0 d1 d2) (hb : mayB d0 d1 d2 b) :
    Calls Try.prog 38 #[A3 d0 d1 d2, B6 b] w fun e W' => ∃ v, e = .returned v ∧ Lst W' w.heap.size v (nodesB d0 d1 d2 b) ∧ Below w.heap.size w W' := by
  obtain ⟨N, hN⟩ : ∃ N, N = d0 * d1 * d2 := ⟨_, rfl⟩
  have HI : Hid (∀ (w : World) (m : Int), 0 ≤ m → m < N → Calls Try.prog 65 #[A3 d0 d1 d2, B6 b, I m] w fun e W' => e = .returned (.bool (hasB d0 d1 d2 b m)) ∧ Below w.heap.size w W') :=
    fun w m h0 h1 => rin_calls w hm hb ⟨h0, by omega⟩
  have HN : Hid (∀ w : World, Calls Try.prog 34 #[A3 d0 d1 d2] w fun e W' => e = .returned (I N) ∧ Below w.heap.size w W') := fun w => by rw [hN]; exact rn_calls w hm
  have hbd := N_bd hm
  rw [← hN] at hbd
  obtain ⟨hbd1, hbd2⟩ := hbd
  unfold nodesB
  rw [← hN]
  clear hN
  go_enter Try.func38, Try.ntmps38
  go_wp2
  obtain ⟨W, hW, hB0, b0, b1⟩ := two_start w #[I d0, I d1, I d2] (C6 b) 26 32
  rw [hW]
  clear hW
  go_loopw [5, 6] (fun v i wr => ∃ k : Nat, (k : Int) ≤ N ∧ i = .int .i64 k ∧ Lst wr W.heap.size v (nodesTo d0 d1 d2 b k) ∧ Below W.heap.size W wr) (fun _ i _ => N.toNat - (RowKit.intOf i).toNat)
  case atStart => exact ⟨0, by omega, rfl, Lst.nil _ _, Below.refl _ _⟩
  case round =>
    obtain ⟨k, hk, rfl, hL, hT⟩ := hrel
    obtain ⟨c0, c1, c2, hz⟩ := b0.three hT
    go_wp2_with fail
    refine (HN.out _).mono ?_
    rintro e w1 ⟨rfl, hB1⟩
    have hL := hL.later hB1
    have hT := then_below hT hB1
    clear c0 c1 c2 hz hB1
    by_cases hlt : (k : Int) < N
    · obtain ⟨c0, c1, c2, hz⟩ := b0.three hT
      obtain ⟨⟨k0, k1, k2⟩, ⟨k3, k4, k5⟩, hz1⟩ := b1.six hT
      go_wp2_with fail
      refine (HI.out _ k (by omega) hlt).mono ?_
      rintro e w2 ⟨rfl, hB2⟩
      have hL := hL.later hB2
      have hT := then_below hT hB2
      clear c0 c1 c2 hz k0 k1 k2 k3 k4 k5 hz1 hB2
      cases hq : hasB d0 d1 d2 b k
      · go_wp2
        go_roundw
        case rel => exact ⟨k + 1, by omega, by go_num, by rw [nodesTo_no hq]; exact hL, hT⟩
        case measure => simp [RowKit.intOf]; omega
      · go_wp2_with (at_builtin; refine wpList_app rfl _ _ rfl rfl rfl hL (by have := nodesTo_len d0 d1 d2 b k; omega) hT.size ?_; intro v' w3 hL3 hT3)
        have hT := hT.trans hT3
        rw [← nodesTo_yes hq] at hL3
        clear hT3 hL
        go_roundw
        case rel => exact ⟨k + 1, by omega, by go_num, hL3, hT⟩
        case measure => simp [RowKit.intOf]; omega
    · have E : N.toNat = k := by omega
      have hL' : Lst w1 w.heap.size _ (nodesTo d0 d1 d2 b N.toNat) := (E ▸ hL).weak hB0.size
      clear hL E
      go_wp2
      go_ret
      exact ⟨_, rfl, hL', then_below hB0 hT⟩

end Go.Proofs.Ytjmfdpilmljppaa

/-
  A box's midplanes, rising, are its coordinates gone through axis by axis, the first innermost.
-/
namespace Go.Proofs.Ytjmfdpilmljppaa

theorem range_mul (n m : Nat) : List.range (n * m) = (List.range m).flatMap fun q => (List.range n).map fun r => r + n * q := by
  induction m with
  | zero => simp
  | succ m ih =>
    rw [Nat.mul_succ, List.range_add, ih, List.range_succ, List.flatMap_append]
    congr 1
    simp [Nat.add_comm]
theorem flatMap_if {α β : Type} (p : α → Bool) (f : α → List β) : ∀ l : List α, (l.flatMap fun a => if p a then f a else []) = (l.filter p).flatMap f
  | [] => rfl
  | a :: l => by
    have ih := flatMap_if p f l
    cases h : p a <;> simp [h, ih]
theorem flatMap_same {α β : Type} {f g : α → List β} : ∀ {l : List α}, (∀ a ∈ l, f a = g a) → l.flatMap f = l.flatMap g
  | [], _ => rfl
  | a :: l, h => by
    simp only [List.flatMap_cons]
    rw [h a (by simp), flatMap_same (fun b hb => h b (by simp [hb]))]

theorem nodesB_flat {d0 d1 d2 : Int} {b : Bx} (hm : mayD d0 d1 d2) :
    (coordsS d2 b.z b.c).flatMap (fun z => (coordsS d1 b.y b.b).flatMap fun y => (coordsS d0 b.x b.a).map fun x => numD d0 d1 x y z) = nodesB d0 d1 d2 b := by
  have hm' := hm
  obtain ⟨h0, h1, h2⟩ := hm'
  unfold okD at h0 h1 h2
  obtain ⟨D0, rfl⟩ := Int.eq_ofNat_of_zero_le (show 0 ≤ d0 by omega)
  obtain ⟨D1, rfl⟩ := Int.eq_ofNat_of_zero_le (show 0 ≤ d1 by omega)
  obtain ⟨D2, rfl⟩ := Int.eq_ofNat_of_zero_le (show 0 ≤ d2 by omega)
  have hN : ((D0 : Int) * D1 * D2).toNat = D0 * (D1 * D2) := by
    have h : ((D0 : Int) * D1 * D2) = ((D0 * (D1 * D2) : Nat) : Int) := by push_cast; rw [Int.mul_assoc]
    rw [h, Int.toNat_natCast]
  have hR : List.range (D0 * (D1 * D2)) = (List.range D2).flatMap fun z => (List.range D1).flatMap fun y => (List.range D0).map fun x => x + D0 * (y + D1 * z) := by
    rw [range_mul D0, range_mul D1, List.flatMap_assoc]
    simp only [List.flatMap_map]
  unfold nodesB nodesTo
  rw [hN, hR, List.filter_flatMap, List.map_flatMap]
  unfold coordsS coordsTo
  simp only [Int.toNat_natCast]
  rw [List.flatMap_map, ← flatMap_if]
  refine flatMap_same fun z hz => ?_
  have hz := List.mem_range.1 hz
  rw [List.filter_flatMap, List.map_flatMap]
  cases hcz : hasS D2 b.z b.c z
  · simp only [Bool.false_eq_true, if_false]
    symm
    rw [List.flatMap_eq_nil_iff]
    intro y hy
    have hy := List.mem_range.1 hy
    rw [List.map_eq_nil_iff, List.filter_eq_nil_iff]
    intro m hmm
    obtain ⟨x, hx, rfl⟩ := List.mem_map.1 hmm
    have hx := List.mem_range.1 hx
    have := hasB_num (b := b) hm (p := x) (q := y) (r := z) ⟨by omega, by omega, by omega⟩
    rw [show (((x + D0 * (y + D1 * z) : Nat)) : Int) = numD D0 D1 x y z by unfold numD; push_cast; rfl, this, hcz]
    simp
  · simp only [if_true]
    rw [List.flatMap_map, ← flatMap_if]
    refine flatMap_same fun y hy => ?_
    have hy := List.mem_range.1 hy
    have hnum : ∀ x, x < D0 → hasB D0 D1 D2 b ((x + D0 * (y + D1 * z) : Nat) : Int) = (hasS D0 b.x b.a x && hasS D1 b.y b.b y) := by
      intro x hx
      have := hasB_num (b := b) hm (p := x) (q := y) (r := z) ⟨by omega, by omega, by omega⟩
      rw [show (((x + D0 * (y + D1 * z) : Nat)) : Int) = numD D0 D1 x y z by unfold numD; push_cast; rfl, this, hcz, Bool.and_true]
    rw [List.filter_map, List.map_map, List.map_map]
    cases hcy : hasS D1 b.y b.b y
    · simp only [Bool.false_eq_true, if_false]
      symm
      rw [List.map_eq_nil_iff, List.filter_eq_nil_iff]
      intro x hx
      rw [Function.comp, hnum x (List.mem_range.1 hx), hcy]
      simp
    · simp only [if_true]
      rw [show (List.range D0).filter ((fun m : Nat => hasB D0 D1 D2 b m) ∘ fun x => x + D0 * (y + D1 * z)) = (List.range D0).filter (fun j : Nat => hasS D0 b.x b.a j) from List.filter_congr fun x hx => by
        rw [Function.comp, hnum x (List.mem_range.1 hx), hcy, Bool.and_true]]
      refine List.map_congr_left fun x _ => ?_
      simp [Function.comp, numD]

theorem coordsS_get {r b s : Int} (hr : 0 ≤ r) {k : Nat} (hk : k < (coordsS r b s).length) : 0 ≤ (coordsS r b s).getD k 0 ∧ (coordsS r b s).getD k 0 < r := by
  have hmem : (coordsS r b s).getD k 0 ∈ coordsS r b s := by
    rw [show (coordsS r b s).getD k 0 = (coordsS r b s)[k] by simp [hk]]; exact List.getElem_mem hk
  generalize (coordsS r b s).getD k 0 = x at hmem
  simp only [coordsS, coordsTo, List.mem_map, List.mem_filter, List.mem_range] at hmem
  obtain ⟨j, ⟨h1, _⟩, rfl⟩ := hmem
  omega
theorem coordsS_len {r b s : Int} (hr : r ≤ 16) : (coordsS r b s).length ≤ 16 := by
  have := coordsTo_len r b s r.toNat
  unfold coordsS
  omega

section
variable (d0 d1 : Int) (X Y Z T : List Int)
def rowG (z y : Int) : List Int := X.map fun x => numD d0 d1 x y z
def rowF (z : Int) : List Int := Y.flatMap (rowG d0 d1 X z)
/-- What is gathered, and what is still to come: in the outer loop, the middle one, the inner one. -/
def eqO (L : List Int) (i : Nat) : Prop := L ++ (Z.drop i).flatMap (rowF d0 d1 X Y) = T
def eqM (L : List Int) (i j : Nat) : Prop := L ++ ((Y.drop j).flatMap (rowG d0 d1 X (Z.getD i 0)) ++ (Z.drop (i + 1)).flatMap (rowF d0 d1 X Y)) = T
def eqI (L : List Int) (i j k : Nat) : Prop :=
  L ++ ((X.drop k).map (fun x => numD d0 d1 x (Y.getD j 0) (Z.getD i 0)) ++ ((Y.drop (j + 1)).flatMap (rowG d0 d1 X (Z.getD i 0)) ++ (Z.drop (i + 1)).flatMap (rowF d0 d1 X Y))) = T
theorem drop_at {l : List Int} {i : Nat} (h : i < l.length) : l.drop i = l.getD i 0 :: l.drop (i + 1) := by
  rw [List.drop_eq_getElem_cons h]; simp [h]
variable {d0 d1 X Y Z T} {L : List Int} {i j k : Nat}
theorem eqO_in (hi : i < Z.length) (h : eqO d0 d1 X Y Z T L i) : eqM d0 d1 X Y Z T L i 0 := by
  unfold eqO at h; unfold eqM
  rw [drop_at hi, List.flatMap_cons] at h
  rw [List.drop_zero]; exact h
theorem eqM_in (hj : j < Y.length) (h : eqM d0 d1 X Y Z T L i j) : eqI d0 d1 X Y Z T L i j 0 := by
  unfold eqM at h; unfold eqI
  rw [drop_at hj, List.flatMap_cons, List.append_assoc] at h
  rw [List.drop_zero]; exact h
theorem eqI_step (hk : k < X.length) (h : eqI d0 d1 X Y Z T L i j k) : eqI d0 d1 X Y Z T (L ++ [numD d0 d1 (X.getD k 0) (Y.getD j 0) (Z.getD i 0)]) i j (k + 1) := by
  unfold eqI at h ⊢
  rw [drop_at hk, List.map_cons] at h
  rw [← h]
  simp
theorem eqI_out (hk : X.length ≤ k) (h : eqI d0 d1 X Y Z T L i j k) : eqM d0 d1 X Y Z T L i (j + 1) := by
  unfold eqI at h; unfold eqM
  rw [List.drop_of_length_le hk] at h; exact h
theorem eqM_out (hj : Y.length ≤ j) (h : eqM d0 d1 X Y Z T L i j) : eqO d0 d1 X Y Z T L (i + 1) := by
  unfold eqM at h; unfold eqO
  rw [List.drop_of_length_le hj] at h; exact h
theorem eqO_out (hi : Z.length ≤ i) (h : eqO d0 d1 X Y Z T L i) : L = T := by
  unfold eqO at h
  rw [List.drop_of_length_le hi] at h; simpa using h
theorem eqI_len (h : eqI d0 d1 X Y Z T L i j k) : L.length ≤ T.length := by
  have := congrArg List.length h
  simp only [List.length_append] at this
  omega
end

end Go.Proofs.Ytjmfdpilmljppaa
