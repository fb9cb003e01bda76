/-
  tidehallref01.At: the document's own answer for the midplane at coordinates, for every input.
-/
import Derived.Test.YtfpemgaabbcbiaaRefPos
namespace Go.Proofs.Ytfpemgaabbcbiaa
open Go.RowKit Go.Shelf

attribute [local go_sem] Oper.semAt_some ext_const eq_arr

theorem rat_bad {d0 d1 d2 : Int} (p0 p1 p2 : Int) (w : World) (h : ¬ mayD d0 d1 d2) : Calls Try.prog 17 #[A3 d0 d1 d2, A3 p0 p1 p2] w fun e W' => e = .returned (.tuple #[I 0, I 8]) ∧ Below w.heap.size w W' := by
  go_enter Try.func17, Try.ntmps17
  go_wp2_with fail
  obtain ⟨W, hW, hB0, b0, b1⟩ := two_start w #[I d0, I d1, I d2] #[I p0, I p1, I p2] 26 25
  rw [hW]
  clear hW
  refine (rmay_no _ h).mono ?_
  rintro e w1 ⟨rfl, hT⟩
  go_wp2
  go_ret2
  exact ⟨rfl, then_below hB0 hT⟩

set_option maxRecDepth 100000 in
set_option maxHeartbeats 4000000 in
theorem rat_loop {d0 d1 d2 : Int} (p0 p1 p2 : Int) (w : World) (h : mayD d0 d1 d2) : Calls Try.prog 17 #[A3 d0 d1 d2, A3 p0 p1 p2] w fun e W' =>
    ((inD d0 d1 d2 p0 p1 p2 ∧ e = .returned (.tuple #[I (numD d0 d1 p0 p1 p2), I 0])) ∨ (¬ inD d0 d1 d2 p0 p1 p2 ∧ e = .returned (.tuple #[I 0, I 2]))) ∧ Below w.heap.size w W' := by
  have hmx : Try.prog.follows .mixedOrders = true := by kernel_rfl
  go_enter Try.func17, Try.ntmps17
  go_wp2_with fail
  obtain ⟨W, hW, hB0, b0, b1⟩ := two_start w #[I d0, I d1, I d2] #[I p0, I p1, I p2] 26 25
  rw [hW]
  clear hW
  refine (rmay_yes _ h).mono ?_
  rintro e w1 ⟨rfl, hT⟩
  go_wp2_with fail
  go_loopw [6] (fun i wr => (i = .int .i64 0 ∨ (i = .int .i64 1 ∧ Hid (0 ≤ p0 ∧ p0 < d0)) ∨ (i = .int .i64 2 ∧ Hid ((0 ≤ p0 ∧ p0 < d0) ∧ (0 ≤ p1 ∧ p1 < d1))) ∨ (i = .int .i64 3 ∧ Hid (inD d0 d1 d2 p0 p1 p2))) ∧ Below W.heap.size W wr) (fun i _ => 3 - (intOf i).toNat)
  case atStart => exact ⟨.inl rfl, hT⟩
  case round =>
    obtain ⟨hi, hT⟩ := hrel
    have q0 := b0.later hT
    have q1 := b1.later hT
    have e0 := Ext.cell q0 0
    have e1 := Ext.cell q0 1
    have e2 := Ext.cell q0 2
    have e3 := Ext.cell q1 0
    have e4 := Ext.cell q1 1
    have e5 := Ext.cell q1 2
    simp at e0 e1 e2 e3 e4 e5
    rcases hi with rfl | ⟨rfl, H⟩ | ⟨rfl, H⟩ | ⟨rfl, H⟩
    · by_cases hl : p0 < 0
      · go_wp2
        refine wp_region_look hmx (by kernel_rfl) ?_
        repeat (go_big_quiet_step (fail))
        refine wpQuiet_nil ?_
        intro x
        have hT := then_below hT x.le
        go_wp2
        go_ret2
        exact ⟨.inr ⟨fun hx => by have := hx.1; omega, rfl⟩, then_below hB0 hT⟩
      · by_cases hg : d0 ≤ p0
        · have hd : decide (p0 < 0) = false := by simp; omega
          go_wp2
          refine wp_region_look hmx (by kernel_rfl) ?_
          repeat (go_big_quiet_step (fail))
          refine wpQuiet_nil ?_
          intro x
          have hT := then_below hT x.le
          go_wp2
          go_ret2
          exact ⟨.inr ⟨fun hx => by have := hx.1; omega, rfl⟩, then_below hB0 hT⟩
        · have hd : decide (p0 < 0) = false := by simp; omega
          have hd2 : decide (d0 ≤ p0) = false := by simp; omega
          go_wp2
          refine wp_region_look hmx (by kernel_rfl) ?_
          repeat (go_big_quiet_step (fail))
          refine wpQuiet_nil ?_
          intro x
          have hT := then_below hT x.le
          go_wp2
          go_roundw
          case rel => exact ⟨.inr (.inl ⟨rfl, ⟨by omega, by omega⟩⟩), hT⟩
          case measure => simp [intOf]
    · by_cases hl : p1 < 0
      · go_wp2
        refine wp_region_look hmx (by kernel_rfl) ?_
        repeat (go_big_quiet_step (fail))
        refine wpQuiet_nil ?_
        intro x
        have hT := then_below hT x.le
        go_wp2
        go_ret2
        exact ⟨.inr ⟨fun hx => by have := hx.2.1; omega, rfl⟩, then_below hB0 hT⟩
      · by_cases hg : d1 ≤ p1
        · have hd : decide (p1 < 0) = false := by simp; omega
          go_wp2
          refine wp_region_look hmx (by kernel_rfl) ?_
          repeat (go_big_quiet_step (fail))
          refine wpQuiet_nil ?_
          intro x
          have hT := then_below hT x.le
          go_wp2
          go_ret2
          exact ⟨.inr ⟨fun hx => by have := hx.2.1; omega, rfl⟩, then_below hB0 hT⟩
        · have hd : decide (p1 < 0) = false := by simp; omega
          have hd2 : decide (d1 ≤ p1) = false := by simp; omega
          go_wp2
          refine wp_region_look hmx (by kernel_rfl) ?_
          repeat (go_big_quiet_step (fail))
          refine wpQuiet_nil ?_
          intro x
          have hT := then_below hT x.le
          go_wp2
          go_roundw
          case rel => exact ⟨.inr (.inr (.inl ⟨rfl, H.out, by omega, by omega⟩)), hT⟩
          case measure => simp [intOf]
    · by_cases hl : p2 < 0
      · go_wp2
        refine wp_region_look hmx (by kernel_rfl) ?_
        repeat (go_big_quiet_step (fail))
        refine wpQuiet_nil ?_
        intro x
        have hT := then_below hT x.le
        go_wp2
        go_ret2
        exact ⟨.inr ⟨fun hx => by have := hx.2.2; omega, rfl⟩, then_below hB0 hT⟩
      · by_cases hg : d2 ≤ p2
        · have hd : decide (p2 < 0) = false := by simp; omega
          go_wp2
          refine wp_region_look hmx (by kernel_rfl) ?_
          repeat (go_big_quiet_step (fail))
          refine wpQuiet_nil ?_
          intro x
          have hT := then_below hT x.le
          go_wp2
          go_ret2
          exact ⟨.inr ⟨fun hx => by have := hx.2.2; omega, rfl⟩, then_below hB0 hT⟩
        · have hd : decide (p2 < 0) = false := by simp; omega
          have hd2 : decide (d2 ≤ p2) = false := by simp; omega
          go_wp2
          refine wp_region_look hmx (by kernel_rfl) ?_
          repeat (go_big_quiet_step (fail))
          refine wpQuiet_nil ?_
          intro x
          have hT := then_below hT x.le
          go_wp2
          go_roundw
          case rel => exact ⟨.inr (.inr (.inr ⟨rfl, H.out.1, H.out.2, by omega, by omega⟩)), hT⟩
          case measure => simp [intOf]
    · obtain ⟨c0, c1, c2, hz⟩ := b0.three hT
      obtain ⟨k0, k1, k2, hz1⟩ := b1.three hT
      go_wp2_with fail
      refine (rnum_calls _ h H.out).mono ?_
      rintro e w5 ⟨rfl, hB5⟩
      go_wp2
      go_ret2
      exact ⟨.inl ⟨H.out, rfl⟩, then_below hB0 (then_below hT hB5)⟩

theorem rat_yes {d0 d1 d2 p0 p1 p2 : Int} (w : World) (hm : mayD d0 d1 d2) (hp : inD d0 d1 d2 p0 p1 p2) :
    Calls Try.prog 17 #[A3 d0 d1 d2, A3 p0 p1 p2] w fun e W' => e = .returned (.tuple #[I (numD d0 d1 p0 p1 p2), I 0]) ∧ Below w.heap.size w W' := by
  refine (rat_loop p0 p1 p2 w hm).mono ?_
  rintro e W' ⟨⟨_, rfl⟩ | ⟨hn, _⟩, hB⟩
  · exact ⟨rfl, hB⟩
  · exact absurd hp hn
theorem rat_no {d0 d1 d2 p0 p1 p2 : Int} (w : World) (hm : mayD d0 d1 d2) (hp : ¬ inD d0 d1 d2 p0 p1 p2) :
    Calls Try.prog 17 #[A3 d0 d1 d2, A3 p0 p1 p2] w fun e W' => e = .returned (.tuple #[I 0, I 2]) ∧ Below w.heap.size w W' := by
  refine (rat_loop p0 p1 p2 w hm).mono ?_
  rintro e W' ⟨⟨hy, _⟩ | ⟨_, rfl⟩, hB⟩
  · exact absurd hy hp
  · exact ⟨rfl, hB⟩

end Go.Proofs.Ytfpemgaabbcbiaa
