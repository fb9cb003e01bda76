/-
  tidehallref01.Far: the document's own answer for how far two midplanes are apart, for every input.
-/
import Derived.Test.YtfpemgaabbcbiaaRefStep
namespace Go.Proofs.Ytfpemgaabbcbiaa
open Go.RowKit Go.Shelf

attribute [local go_sem] Oper.semAt_some ext_const eq_arr

theorem ron_l0 {d0 d1 d2 m by_ : Int} (w : World) (hm : mayD d0 d1 d2) (hn : 0 ≤ m ∧ m < d0 * d1 * d2) :
    Calls Try.prog 33 #[A3 d0 d1 d2, I m, I 0, I by_] w fun x W' => x = .returned (I (onD d0 d1 d2 m 0 by_)) ∧ Below w.heap.size w W' := ron_calls w hm hn 0
theorem ron_l1 {d0 d1 d2 m by_ : Int} (w : World) (hm : mayD d0 d1 d2) (hn : 0 ≤ m ∧ m < d0 * d1 * d2) :
    Calls Try.prog 33 #[A3 d0 d1 d2, I m, I 1, I by_] w fun x W' => x = .returned (I (onD d0 d1 d2 m 1 by_)) ∧ Below w.heap.size w W' := ron_calls w hm hn 1
theorem ron_l2 {d0 d1 d2 m by_ : Int} (w : World) (hm : mayD d0 d1 d2) (hn : 0 ≤ m ∧ m < d0 * d1 * d2) :
    Calls Try.prog 33 #[A3 d0 d1 d2, I m, I 2, I by_] w fun x W' => x = .returned (I (onD d0 d1 d2 m 2 by_)) ∧ Below w.heap.size w W' := ron_calls w hm hn 2

theorem rfar_bad {d0 d1 d2 : Int} (a b : Int) (w : World) (h : ¬ mayD d0 d1 d2) :
    Calls Try.prog 22 #[A3 d0 d1 d2, I a, I b] w fun x W' => x = .returned (.tuple #[I 0, I 8]) ∧ Below w.heap.size w W' := by
  go_enter Try.func22, Try.ntmps22
  go_wp2_with fail
  refine (rmay_no _ h).mono ?_
  rintro e w1 ⟨rfl, hT⟩
  go_wp2
  go_ret2
  exact ⟨rfl, then_below ((Below.refl _ w).alloc (Nat.le_refl _) _) hT⟩

set_option maxRecDepth 100000 in
set_option maxHeartbeats 2000000 in
theorem rfar_no {d0 d1 d2 a b : Int} (w : World) (h : mayD d0 d1 d2) (hn : ¬ ((0 ≤ a ∧ a < d0 * d1 * d2) ∧ (0 ≤ b ∧ b < d0 * d1 * d2))) :
    Calls Try.prog 22 #[A3 d0 d1 d2, I a, I b] w fun x W' => x = .returned (.tuple #[I 0, I 2]) ∧ Below w.heap.size w W' := by
  by_cases h0 : a < 0
  · clear hn
    go_enter Try.func22, Try.ntmps22
    go_wp2_with fail
    refine (rmay_yes _ h).mono ?_
    rintro e w1 ⟨rfl, hT⟩
    go_wp2
    go_ret2
    exact ⟨rfl, then_below ((Below.refl _ w).alloc (Nat.le_refl _) _) hT⟩
  · have fin : (d0 * d1 * d2 ≤ a ∨ (a < d0 * d1 * d2 ∧ b < 0)) ∨ (a < d0 * d1 * d2 ∧ 0 ≤ b ∧ d0 * d1 * d2 ≤ b) := by omega
    clear hn
    rcases fin with h1 | ⟨h1, h2, h3⟩
    · rcases h1 with h1 | ⟨h1, h2⟩
      all_goals
        go_enter Try.func22, Try.ntmps22
        go_wp2_with fail
        refine (rmay_yes _ h).mono ?_
        rintro e w1 ⟨rfl, hT⟩
        obtain ⟨c0, c1, c2, hz⟩ := (Blk.new w 26 #[I d0, I d1, I d2]).three hT
        go_wp2_with fail
        refine (rn_calls _ h).mono ?_
        rintro e w2 ⟨rfl, hB2⟩
        go_wp2
        go_ret2
        exact ⟨rfl, then_below (then_below ((Below.refl _ w).alloc (Nat.le_refl _) _) hT) hB2⟩
    · go_enter Try.func22, Try.ntmps22
      go_wp2_with fail
      have b0 := Blk.new w 26 #[I d0, I d1, I d2]
      refine (rmay_yes _ h).mono ?_
      rintro e w1 ⟨rfl, hT⟩
      obtain ⟨c0, c1, c2, hz⟩ := b0.three hT
      go_wp2_with fail
      refine (rn_calls _ h).mono ?_
      rintro e w2 ⟨rfl, hB2⟩
      have hT := then_below hT hB2
      clear c0 c1 c2 hz
      obtain ⟨c0, c1, c2, hz⟩ := b0.three hT
      go_wp2_with fail
      refine (rn_calls _ h).mono ?_
      rintro e w3 ⟨rfl, hB3⟩
      go_wp2
      go_ret2
      exact ⟨rfl, then_below (then_below ((Below.refl _ w).alloc (Nat.le_refl _) _) hT) hB3⟩

set_option maxRecDepth 100000 in
set_option maxHeartbeats 8000000 in
theorem rfar_yes {d0 d1 d2 a b : Int} (w : World) (h : mayD d0 d1 d2) (ha : 0 ≤ a ∧ a < d0 * d1 * d2) (hb : 0 ≤ b ∧ b < d0 * d1 * d2) :
    Calls Try.prog 22 #[A3 d0 d1 d2, I a, I b] w fun x W' => x = .returned (.tuple #[I (farD d0 d1 d2 a b), I 0]) ∧ Below w.heap.size w W' := by
  have HA : Hid (0 ≤ a ∧ a < d0 * d1 * d2) := ha
  have HB : Hid (0 ≤ b ∧ b < d0 * d1 * d2) := hb
  have HF : Hid (farD d0 d1 d2 a b = ring d0 (cx d0 a) (cx d0 b) + ring d1 (cy d0 d1 a) (cy d0 d1 b) + ring d2 (cz d0 d1 a) (cz d0 d1 b)) := rfl
  have ia := inD_of_node h ha
  have ib := inD_of_node h hb
  have h' := h
  unfold mayD okD at h'
  have rx := ring_bd (p := cx d0 a) (q := cx d0 b) h'.1.1 h'.1.2
  have ry := ring_bd (p := cy d0 d1 a) (q := cy d0 d1 b) h'.2.1.1 h'.2.1.2
  have rz := ring_bd (p := cz d0 d1 a) (q := cz d0 d1 b) h'.2.2.1 h'.2.2.2
  have hmx : Try.prog.follows .mixedOrders = true := by kernel_rfl
  have i0 : ∀ (x y z : Int) (w : World), (Instr.index 25 (A3 x y z) (.int .i64 0)).run Try.prog w = .ok (I x) w := fun _ _ _ _ => by kernel_rfl
  have i1 : ∀ (x y z : Int) (w : World), (Instr.index 25 (A3 x y z) (.int .i64 1)).run Try.prog w = .ok (I y) w := fun _ _ _ _ => by kernel_rfl
  have i2 : ∀ (x y z : Int) (w : World), (Instr.index 25 (A3 x y z) (.int .i64 2)).run Try.prog w = .ok (I z) w := fun _ _ _ _ => by kernel_rfl
  obtain ⟨ha0, ha1⟩ := ha
  obtain ⟨hb0, hb1⟩ := hb
  go_enter Try.func22, Try.ntmps22
  go_wp2_with fail
  have b0 := Blk.new w 26 #[I d0, I d1, I d2]
  have hB0 : Below w.heap.size w (w.alloc (.cells #[I d0, I d1, I d2] 26)) := (Below.refl _ w).alloc (Nat.le_refl _) _
  generalize w.alloc (.cells #[I d0, I d1, I d2] 26) = W0 at *
  refine (rmay_yes _ h).mono ?_
  rintro e w1 ⟨rfl, hT⟩
  obtain ⟨c0, c1, c2, hz⟩ := b0.three hT
  go_wp2_with fail
  refine (rn_calls _ h).mono ?_
  rintro e w2 ⟨rfl, hB2⟩
  have hT := then_below hT hB2
  clear c0 c1 c2 hz hB2
  obtain ⟨c0, c1, c2, hz⟩ := b0.three hT
  go_wp2_with fail
  refine (rn_calls _ h).mono ?_
  rintro e w3 ⟨rfl, hB3⟩
  have hT := then_below hT hB3
  clear c0 c1 c2 hz hB3
  obtain ⟨c0, c1, c2, hz⟩ := b0.three hT
  go_wp2_with fail
  refine (rwhere_calls _ h HB.out).mono ?_
  rintro e w4 ⟨rfl, hB4⟩
  have hT := then_below hT hB4
  clear c0 c1 c2 hz hB4
  go_wp2_with fail
  have b1 := Blk.new w4 25 #[I (cx d0 b), I (cy d0 d1 b), I (cz d0 d1 b)]
  have b0' := (b0.later hT).alloc (.cells #[I (cx d0 b), I (cy d0 d1 b), I (cz d0 d1 b)] 25)
  have hBW := then_below hB0 (then_alloc hT (.cells #[I (cx d0 b), I (cy d0 d1 b), I (cz d0 d1 b)] 25))
  generalize w4.alloc (.cells #[I (cx d0 b), I (cy d0 d1 b), I (cz d0 d1 b)] 25) = W at *
  clear hT b0 hB0
  have b0 := b0'
  clear b0'
  clear ha0 ha1 hb0 hb1
  go_loopw [8, 10] (fun f i wr => ((i = .int .i64 0 ∧ f = .int .i64 0) ∨ (i = .int .i64 1 ∧ f = .int .i64 (ring d0 (cx d0 a) (cx d0 b))) ∨ (i = .int .i64 2 ∧ f = .int .i64 (ring d0 (cx d0 a) (cx d0 b) + ring d1 (cy d0 d1 a) (cy d0 d1 b))) ∨ (i = .int .i64 3 ∧ f = .int .i64 (ring d0 (cx d0 a) (cx d0 b) + ring d1 (cy d0 d1 a) (cy d0 d1 b) + ring d2 (cz d0 d1 a) (cz d0 d1 b)))) ∧ Below W.heap.size W wr) (fun _ i _ => 3 - (intOf i).toNat)
  case atStart => exact ⟨.inl ⟨rfl, rfl⟩, Below.refl _ _⟩
  case round =>
    obtain ⟨hi, hT⟩ := hrel
    rcases hi with ⟨rfl, rfl⟩ | ⟨rfl, rfl⟩ | ⟨rfl, rfl⟩ | ⟨rfl, rfl⟩
    · go_wp2
      go_loopw [11] (fun n wr => (∃ j : Int, n = .int .i64 j ∧ 0 ≤ j ∧ j ≤ ring d0 (cx d0 a) (cx d0 b)) ∧ Below W.heap.size W wr) (fun n _ => (ring d0 (cx d0 a) (cx d0 b) - intOf n).toNat)
      case atStart => exact ⟨⟨0, rfl, Int.le_refl _, rx.1⟩, hT⟩
      case round =>
        obtain ⟨⟨j, rfl, hj0, hj1⟩, hT⟩ := hrel
        have q0 := b0.later hT
        have q1 := b1.later hT
        have e0 := Ext.cell q0 0
        have e1 := Ext.cell q0 1
        have e2 := Ext.cell q0 2
        have e3 := Ext.cell q1 0
        simp at e0 e1 e2 e3
        have hit := ring_hit ia.1 ib.1 hj0 hj1
        have hx1 := (on_coords h HA.out 0 j).2.1
        have hx2 := (on_coords h HA.out 0 (-j)).2.1
        rw [if_pos rfl] at hx1 hx2
        rw [← hx1, ← hx2] at hit
        clear hx1 hx2
        have hjb : j ≤ 16 := Int.le_trans hj1 rx.2
        by_cases hj : j < ring d0 (cx d0 a) (cx d0 b)
        · have gA : (cx d0 (onD d0 d1 d2 a 0 j) != cx d0 b) = true := by rw [bne_iff_ne]; exact (hit.1 hj).1
          have gB : (cx d0 (onD d0 d1 d2 a 0 (-j)) != cx d0 b) = true := by rw [bne_iff_ne]; exact (hit.1 hj).2
          clear hit
          go_wp2
          refine wp_region_look hmx (by kernel_rfl) ?_
          repeat (go_big_quiet_step (first | (go_at_call 33; exact calls_ext (ron_l0 _ h HA.out)) | (go_at_call 32; exact calls_ext (rwhere_calls _ h (on_node h HA.out 0 _)))))
          refine wpQuiet_nil ?_
          intro x
          have hT := then_below hT x.le
          go_wp2
          go_roundw
          case rel => exact ⟨⟨j + 1, rfl, by omega, by omega⟩, hT⟩
          case measure => simp [intOf]; omega
        · have hje : ring d0 (cx d0 a) (cx d0 b) = j := by omega
          have hno : ¬ ((cx d0 (onD d0 d1 d2 a 0 j)) ≠ cx d0 b ∧ cx d0 (onD d0 d1 d2 a 0 (-j)) ≠ cx d0 b) := fun hx => hj (hit.2 hx)
          clear hit
          by_cases gA' : cx d0 (onD d0 d1 d2 a 0 j) = cx d0 b
          · have gA : (cx d0 (onD d0 d1 d2 a 0 j) != cx d0 b) = false := by rw [bne_eq_false_iff_eq]; exact gA'
            have HJ : Hid (ring d0 (cx d0 a) (cx d0 b) = j) := hje
            clear hno gA' hje hj
            go_wp2
            refine wp_region_look hmx (by kernel_rfl) ?_
            repeat (go_big_quiet_step (first | (go_at_call 33; exact calls_ext (ron_l0 _ h HA.out)) | (go_at_call 32; exact calls_ext (rwhere_calls _ h (on_node h HA.out 0 _)))))
            refine wpQuiet_nil ?_
            intro x
            have hT := then_below hT x.le
            go_wp2
            go_roundw
            case rel => exact ⟨.inr (.inl ⟨rfl, by rw [HJ.out]⟩), hT⟩
            case measure => simp [intOf]
          · have gA : (cx d0 (onD d0 d1 d2 a 0 j) != cx d0 b) = true := by rw [bne_iff_ne]; exact gA'
            have gB : (cx d0 (onD d0 d1 d2 a 0 (-j)) != cx d0 b) = false := by
              rw [bne_eq_false_iff_eq]
              exact Decidable.byContradiction fun hx => hno ⟨gA', hx⟩
            have HJ : Hid (ring d0 (cx d0 a) (cx d0 b) = j) := hje
            clear hno gA' hje hj
            go_wp2
            refine wp_region_look hmx (by kernel_rfl) ?_
            repeat (go_big_quiet_step (first | (go_at_call 33; exact calls_ext (ron_l0 _ h HA.out)) | (go_at_call 32; exact calls_ext (rwhere_calls _ h (on_node h HA.out 0 _)))))
            refine wpQuiet_nil ?_
            intro x
            have hT := then_below hT x.le
            go_wp2
            go_roundw
            case rel => exact ⟨.inr (.inl ⟨rfl, by rw [HJ.out]⟩), hT⟩
            case measure => simp [intOf]
    · go_wp2
      go_loopw [11] (fun n wr => (∃ j : Int, n = .int .i64 j ∧ 0 ≤ j ∧ j ≤ ring d1 (cy d0 d1 a) (cy d0 d1 b)) ∧ Below W.heap.size W wr) (fun n _ => (ring d1 (cy d0 d1 a) (cy d0 d1 b) - intOf n).toNat)
      case atStart => exact ⟨⟨0, rfl, Int.le_refl _, ry.1⟩, hT⟩
      case round =>
        obtain ⟨⟨j, rfl, hj0, hj1⟩, hT⟩ := hrel
        have q0 := b0.later hT
        have q1 := b1.later hT
        have e0 := Ext.cell q0 0
        have e1 := Ext.cell q0 1
        have e2 := Ext.cell q0 2
        have e3 := Ext.cell q1 1
        simp at e0 e1 e2 e3
        have hit := ring_hit ia.2.1 ib.2.1 hj0 hj1
        have hx1 := (on_coords h HA.out 1 j).2.2.1
        have hx2 := (on_coords h HA.out 1 (-j)).2.2.1
        rw [if_pos rfl] at hx1 hx2
        rw [← hx1, ← hx2] at hit
        clear hx1 hx2
        have hjb : j ≤ 16 := Int.le_trans hj1 ry.2
        by_cases hj : j < ring d1 (cy d0 d1 a) (cy d0 d1 b)
        · have gA : (cy d0 d1 (onD d0 d1 d2 a 1 j) != cy d0 d1 b) = true := by rw [bne_iff_ne]; exact (hit.1 hj).1
          have gB : (cy d0 d1 (onD d0 d1 d2 a 1 (-j)) != cy d0 d1 b) = true := by rw [bne_iff_ne]; exact (hit.1 hj).2
          clear hit
          go_wp2
          refine wp_region_look hmx (by kernel_rfl) ?_
          repeat (go_big_quiet_step (first | (go_at_call 33; exact calls_ext (ron_l1 _ h HA.out)) | (go_at_call 32; exact calls_ext (rwhere_calls _ h (on_node h HA.out 1 _)))))
          refine wpQuiet_nil ?_
          intro x
          have hT := then_below hT x.le
          go_wp2
          go_roundw
          case rel => exact ⟨⟨j + 1, rfl, by omega, by omega⟩, hT⟩
          case measure => simp [intOf]; omega
        · have hje : ring d1 (cy d0 d1 a) (cy d0 d1 b) = j := by omega
          have hno : ¬ ((cy d0 d1 (onD d0 d1 d2 a 1 j)) ≠ cy d0 d1 b ∧ cy d0 d1 (onD d0 d1 d2 a 1 (-j)) ≠ cy d0 d1 b) := fun hx => hj (hit.2 hx)
          clear hit
          by_cases gA' : cy d0 d1 (onD d0 d1 d2 a 1 j) = cy d0 d1 b
          · have gA : (cy d0 d1 (onD d0 d1 d2 a 1 j) != cy d0 d1 b) = false := by rw [bne_eq_false_iff_eq]; exact gA'
            have HJ : Hid (ring d1 (cy d0 d1 a) (cy d0 d1 b) = j) := hje
            clear hno gA' hje hj
            go_wp2
            refine wp_region_look hmx (by kernel_rfl) ?_
            repeat (go_big_quiet_step (first | (go_at_call 33; exact calls_ext (ron_l1 _ h HA.out)) | (go_at_call 32; exact calls_ext (rwhere_calls _ h (on_node h HA.out 1 _)))))
            refine wpQuiet_nil ?_
            intro x
            have hT := then_below hT x.le
            go_wp2
            go_roundw
            case rel => exact ⟨.inr (.inr (.inl ⟨rfl, by rw [HJ.out]⟩)), hT⟩
            case measure => simp [intOf]
          · have gA : (cy d0 d1 (onD d0 d1 d2 a 1 j) != cy d0 d1 b) = true := by rw [bne_iff_ne]; exact gA'
            have gB : (cy d0 d1 (onD d0 d1 d2 a 1 (-j)) != cy d0 d1 b) = false := by
              rw [bne_eq_false_iff_eq]
              exact Decidable.byContradiction fun hx => hno ⟨gA', hx⟩
            have HJ : Hid (ring d1 (cy d0 d1 a) (cy d0 d1 b) = j) := hje
            clear hno gA' hje hj
            go_wp2
            refine wp_region_look hmx (by kernel_rfl) ?_
            repeat (go_big_quiet_step (first | (go_at_call 33; exact calls_ext (ron_l1 _ h HA.out)) | (go_at_call 32; exact calls_ext (rwhere_calls _ h (on_node h HA.out 1 _)))))
            refine wpQuiet_nil ?_
            intro x
            have hT := then_below hT x.le
            go_wp2
            go_roundw
            case rel => exact ⟨.inr (.inr (.inl ⟨rfl, by rw [HJ.out]⟩)), hT⟩
            case measure => simp [intOf]
    · go_wp2
      go_loopw [11] (fun n wr => (∃ j : Int, n = .int .i64 j ∧ 0 ≤ j ∧ j ≤ ring d2 (cz d0 d1 a) (cz d0 d1 b)) ∧ Below W.heap.size W wr) (fun n _ => (ring d2 (cz d0 d1 a) (cz d0 d1 b) - intOf n).toNat)
      case atStart => exact ⟨⟨0, rfl, Int.le_refl _, rz.1⟩, hT⟩
      case round =>
        obtain ⟨⟨j, rfl, hj0, hj1⟩, hT⟩ := hrel
        have q0 := b0.later hT
        have q1 := b1.later hT
        have e0 := Ext.cell q0 0
        have e1 := Ext.cell q0 1
        have e2 := Ext.cell q0 2
        have e3 := Ext.cell q1 2
        simp at e0 e1 e2 e3
        have hit := ring_hit ia.2.2 ib.2.2 hj0 hj1
        have hx1 := (on_coords h HA.out 2 j).2.2.2
        have hx2 := (on_coords h HA.out 2 (-j)).2.2.2
        rw [if_pos rfl] at hx1 hx2
        rw [← hx1, ← hx2] at hit
        clear hx1 hx2
        have hjb : j ≤ 16 := Int.le_trans hj1 rz.2
        by_cases hj : j < ring d2 (cz d0 d1 a) (cz d0 d1 b)
        · have gA : (cz d0 d1 (onD d0 d1 d2 a 2 j) != cz d0 d1 b) = true := by rw [bne_iff_ne]; exact (hit.1 hj).1
          have gB : (cz d0 d1 (onD d0 d1 d2 a 2 (-j)) != cz d0 d1 b) = true := by rw [bne_iff_ne]; exact (hit.1 hj).2
          clear hit
          go_wp2
          refine wp_region_look hmx (by kernel_rfl) ?_
          repeat (go_big_quiet_step (first | (go_at_call 33; exact calls_ext (ron_l2 _ h HA.out)) | (go_at_call 32; exact calls_ext (rwhere_calls _ h (on_node h HA.out 2 _)))))
          refine wpQuiet_nil ?_
          intro x
          have hT := then_below hT x.le
          go_wp2
          go_roundw
          case rel => exact ⟨⟨j + 1, rfl, by omega, by omega⟩, hT⟩
          case measure => simp [intOf]; omega
        · have hje : ring d2 (cz d0 d1 a) (cz d0 d1 b) = j := by omega
          have hno : ¬ ((cz d0 d1 (onD d0 d1 d2 a 2 j)) ≠ cz d0 d1 b ∧ cz d0 d1 (onD d0 d1 d2 a 2 (-j)) ≠ cz d0 d1 b) := fun hx => hj (hit.2 hx)
          clear hit
          by_cases gA' : cz d0 d1 (onD d0 d1 d2 a 2 j) = cz d0 d1 b
          · have gA : (cz d0 d1 (onD d0 d1 d2 a 2 j) != cz d0 d1 b) = false := by rw [bne_eq_false_iff_eq]; exact gA'
            have HJ : Hid (ring d2 (cz d0 d1 a) (cz d0 d1 b) = j) := hje
            clear hno gA' hje hj
            go_wp2
            refine wp_region_look hmx (by kernel_rfl) ?_
            repeat (go_big_quiet_step (first | (go_at_call 33; exact calls_ext (ron_l2 _ h HA.out)) | (go_at_call 32; exact calls_ext (rwhere_calls _ h (on_node h HA.out 2 _)))))
            refine wpQuiet_nil ?_
            intro x
            have hT := then_below hT x.le
            go_wp2
            go_roundw
            case rel => exact ⟨.inr (.inr (.inr ⟨rfl, by rw [HJ.out]⟩)), hT⟩
            case measure => simp [intOf]
          · have gA : (cz d0 d1 (onD d0 d1 d2 a 2 j) != cz d0 d1 b) = true := by rw [bne_iff_ne]; exact gA'
            have gB : (cz d0 d1 (onD d0 d1 d2 a 2 (-j)) != cz d0 d1 b) = false := by
              rw [bne_eq_false_iff_eq]
              exact Decidable.byContradiction fun hx => hno ⟨gA', hx⟩
            have HJ : Hid (ring d2 (cz d0 d1 a) (cz d0 d1 b) = j) := hje
            clear hno gA' hje hj
            go_wp2
            refine wp_region_look hmx (by kernel_rfl) ?_
            repeat (go_big_quiet_step (first | (go_at_call 33; exact calls_ext (ron_l2 _ h HA.out)) | (go_at_call 32; exact calls_ext (rwhere_calls _ h (on_node h HA.out 2 _)))))
            refine wpQuiet_nil ?_
            intro x
            have hT := then_below hT x.le
            go_wp2
            go_roundw
            case rel => exact ⟨.inr (.inr (.inr ⟨rfl, by rw [HJ.out]⟩)), hT⟩
            case measure => simp [intOf]
    · go_wp2
      go_ret2
      rw [HF.out]
      exact ⟨rfl, then_below hBW hT⟩

end Go.Proofs.Ytfpemgaabbcbiaa
