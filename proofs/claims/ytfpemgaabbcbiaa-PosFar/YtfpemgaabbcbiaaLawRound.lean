/-
  tidehalllaw01.PosRound returns true, whatever it is handed; nothing that lay before is turned.
-/
import Derived.Test.YtfpemgaabbcbiaaLawBack
import Derived.Test.YtfpemgaabbcbiaaPosLaws
namespace Go.Proofs.Ytfpemgaabbcbiaa
open Go.RowKit Go.Shelf

attribute [local go_sem] Oper.semAt_some ext_const eq_arr

theorem step_ax {d0 d1 d2 m ax by_ : Int} {k : Fin 3} (w : World) (hm : mayD d0 d1 d2) (hn : 0 ≤ m ∧ m < d0 * d1 * d2) (hk : ax = axI k) :
    Calls Try.prog 9 #[A3 d0 d1 d2, I m, I ax, I by_] w fun x W' => x = .returned (.tuple #[I (onD d0 d1 d2 m k by_), I 0]) ∧ Below w.heap.size w W' := by
  subst hk; exact step_yes w hm hn k

theorem step_l0 {d0 d1 d2 m by_ : Int} (w : World) (hm : mayD d0 d1 d2) (hn : 0 ≤ m ∧ m < d0 * d1 * d2) :
    Calls Try.prog 9 #[A3 d0 d1 d2, I m, I 0, I by_] w fun x W' => x = .returned (.tuple #[I (onD d0 d1 d2 m 0 by_), I 0]) ∧ Below w.heap.size w W' := step_yes w hm hn 0
theorem step_l1 {d0 d1 d2 m by_ : Int} (w : World) (hm : mayD d0 d1 d2) (hn : 0 ≤ m ∧ m < d0 * d1 * d2) :
    Calls Try.prog 9 #[A3 d0 d1 d2, I m, I 1, I by_] w fun x W' => x = .returned (.tuple #[I (onD d0 d1 d2 m 1 by_), I 0]) ∧ Below w.heap.size w W' := step_yes w hm hn 1
theorem step_l2 {d0 d1 d2 m by_ : Int} (w : World) (hm : mayD d0 d1 d2) (hn : 0 ≤ m ∧ m < d0 * d1 * d2) :
    Calls Try.prog 9 #[A3 d0 d1 d2, I m, I 2, I by_] w fun x W' => x = .returned (.tuple #[I (onD d0 d1 d2 m 2 by_), I 0]) ∧ Below w.heap.size w W' := step_yes w hm hn 2

set_option maxRecDepth 100000 in
set_option maxHeartbeats 2000000 in
theorem round_off {d0 d1 d2 : Int} (m x y by_ more n e : Int) (w : World)
    (hM : ∀ w : World, Calls Try.prog 14 #[A3 d0 d1 d2] w fun e' W' => e' = .returned (.tuple #[I n, I e]) ∧ Below w.heap.size w W')
    (hc : (e != 0) = true ∨ ((e != 0) = false ∧ (m < 0 ∨ n ≤ m ∨ by_ < -1000000 ∨ 1000000 < by_ ∨ more < -1000000 ∨ 1000000 < more))) :
    Calls Try.prog 7 #[A3 d0 d1 d2, I m, .int .u8 x, .int .u8 y, I by_, I more] w fun e W' => e = .returned (.bool true) ∧ Below w.heap.size w W' := by
  have HM : Hid (∀ w : World, Calls Try.prog 14 #[A3 d0 d1 d2] w fun e' W' => e' = .returned (.tuple #[I n, I e]) ∧ Below w.heap.size w W') := hM
  clear hM
  have fin : (e != 0) = true ∨ ((e != 0) = false ∧ (m < 0 ∨ (0 ≤ m ∧ n ≤ m) ∨ (0 ≤ m ∧ m < n ∧ by_ < -1000000) ∨ (0 ≤ m ∧ m < n ∧ 1000000 < by_) ∨ (0 ≤ m ∧ m < n ∧ -1000000 ≤ by_ ∧ by_ ≤ 1000000 ∧ more < -1000000) ∨ (0 ≤ m ∧ m < n ∧ -1000000 ≤ by_ ∧ by_ ≤ 1000000 ∧ 1000000 < more))) := by
    rcases hc with h | ⟨h, h'⟩
    · exact .inl h
    · exact .inr ⟨h, by omega⟩
  clear hc
  rcases fin with h | ⟨h, h1 | ⟨h1, h2⟩ | ⟨h1, h2, h3⟩ | ⟨h1, h2, h3⟩ | ⟨h1, h2, h3, h4, h5⟩ | ⟨h1, h2, h3, h4, h5⟩⟩
  all_goals
    go_enter Try.func7, Try.ntmps7
    go_wp2_with fail
    refine (alive_calls _).mono ?_
    rintro e w1 ⟨rfl, hB1⟩
    obtain ⟨c0, c1, c2, hz⟩ := (Blk.new w 26 #[I d0, I d1, I d2]).three hB1
    go_wp2_with fail
    refine (HM.out _).mono ?_
    rintro e w2 ⟨rfl, hB2⟩
    go_wp2
    go_ret
    exact ⟨rfl, then_below (then_below ((Below.refl _ w).alloc (Nat.le_refl _) _) hB1) hB2⟩

set_option maxRecDepth 100000 in
set_option maxHeartbeats 4000000 in
theorem round_on {d0 d1 d2 m x y by_ more : Int} {j k : Fin 3} (w : World) (hm : mayD d0 d1 d2) (hn : 0 ≤ m ∧ m < d0 * d1 * d2) (hx : 0 ≤ x ∧ x ≤ 255) (hy : 0 ≤ y ∧ y ≤ 255) (hk : x % 3 = axI k) (hj : y % 3 = axI j)
    (hb : -1000000 ≤ by_ ∧ by_ ≤ 1000000) (hc : -1000000 ≤ more ∧ more ≤ 1000000) :
    Calls Try.prog 7 #[A3 d0 d1 d2, I m, .int .u8 x, .int .u8 y, I by_, I more] w fun e W' => e = .returned (.bool true) ∧ Below w.heap.size w W' := by
  have HN : Hid (0 ≤ m ∧ m < d0 * d1 * d2) := hn
  have HK : Hid (x % 3 = axI k) := hk
  have HJ : Hid (y % 3 = axI j) := hj
  have E1 : Hid (onD d0 d1 d2 (onD d0 d1 d2 m k by_) k (-by_) = m) := by
    show _ = _; rw [on_on hm hn, Int.add_right_neg]; exact on_round hm hn k 0 (.inl rfl)
  have E2 : Hid (onD d0 d1 d2 (onD d0 d1 d2 m k by_) k more = onD d0 d1 d2 m k (by_ + more)) := on_on hm hn k by_ more
  have E3 : Hid (onD d0 d1 d2 m k (dimAt d0 d1 d2 k) = m) := on_round hm hn k _ (.inr rfl)
  have E4 : Hid (onD d0 d1 d2 (onD d0 d1 d2 m k by_) j more = onD d0 d1 d2 (onD d0 d1 d2 m j more) k by_) := on_comm hm hn k j by_ more
  have NA : Hid (0 ≤ onD d0 d1 d2 m k by_ ∧ onD d0 d1 d2 m k by_ < d0 * d1 * d2) := on_node hm hn k by_
  have NB : Hid (0 ≤ onD d0 d1 d2 m j more ∧ onD d0 d1 d2 m j more < d0 * d1 * d2) := on_node hm hn j more
  obtain ⟨hn1, hn2⟩ := hn
  obtain ⟨hx1, hx2⟩ := hx
  obtain ⟨hy1, hy2⟩ := hy
  obtain ⟨hb1, hb2⟩ := hb
  obtain ⟨hc1, hc2⟩ := hc
  clear hk hj
  go_enter Try.func7, Try.ntmps7
  go_wp2_with fail
  have b0 := Blk.new w 26 #[I d0, I d1, I d2]
  have hB0 : Below w.heap.size w (w.alloc (.cells #[I d0, I d1, I d2] 26)) := (Below.refl _ w).alloc (Nat.le_refl _) _
  generalize w.alloc (.cells #[I d0, I d1, I d2] 26) = W at *
  refine (alive_calls _).mono ?_
  rintro e w1 ⟨rfl, hT⟩
  obtain ⟨c0, c1, c2, hz⟩ := b0.three hT
  go_wp2_with fail
  refine (many_yes _ hm).mono ?_
  rintro e w2 ⟨rfl, hB2⟩
  have hT := then_below hT hB2
  clear hB2 c0 c1 c2 hz
  obtain ⟨c0, c1, c2, hz⟩ := b0.three hT
  go_wp2_with fail
  refine (step_ax _ hm HN.out HK.out).mono ?_
  rintro e w3 ⟨rfl, hB3⟩
  have hT := then_below hT hB3
  clear hB3 c0 c1 c2 hz
  obtain ⟨c0, c1, c2, hz⟩ := b0.three hT
  go_wp2_with fail
  refine (step_ax _ hm NA.out HK.out).mono ?_
  rintro e w4 ⟨rfl, hB4⟩
  have hT := then_below hT hB4
  clear hB4 c0 c1 c2 hz
  obtain ⟨c0, c1, c2, hz⟩ := b0.three hT
  go_wp2_with fail
  refine (step_ax _ hm NA.out HK.out).mono ?_
  rintro e w5 ⟨rfl, hB5⟩
  have hT := then_below hT hB5
  clear hB5 c0 c1 c2 hz
  obtain ⟨c0, c1, c2, hz⟩ := b0.three hT
  go_wp2_with fail
  refine (step_ax _ hm HN.out HK.out).mono ?_
  rintro e w6 ⟨rfl, hB6⟩
  have hT := then_below hT hB6
  clear hB6 c0 c1 c2 hz
  obtain ⟨c0, c1, c2, hz⟩ := b0.three hT
  rw [E1.out, E2.out]
  go_wp2_with fail
  rw [HK.out]
  have b6 := b0.later hT
  have e0 := Ext.cell b6 0
  have e1 := Ext.cell b6 1
  have e2 := Ext.cell b6 2
  simp at e0 e1 e2
  have hmx : Try.prog.follows .mixedOrders = true := by kernel_rfl
  clear E1 E2
  rcases fin3 k with rfl | rfl | rfl
  · simp only [axI, dimAt] at E3 ⊢
    refine wp_region_look hmx (by kernel_rfl) ?_
    repeat (go_big_quiet_step (exact calls_ext (step_l0 _ hm HN.out)))
    refine wpQuiet_nil ?_
    intro z
    rw [E3.out]
    have hT := then_below hT z.le
    clear c0 c1 c2 hz e0 e1 e2
    obtain ⟨c0, c1, c2, hz⟩ := b0.three hT
    go_wp2_with fail
    refine (step_ax _ hm NA.out HJ.out).mono ?_
    rintro e w8 ⟨rfl, hB8⟩
    have hT := then_below hT hB8
    clear hB8 c0 c1 c2 hz
    obtain ⟨c0, c1, c2, hz⟩ := b0.three hT
    go_wp2_with fail
    refine (step_ax _ hm HN.out HJ.out).mono ?_
    rintro e w9 ⟨rfl, hB9⟩
    have hT := then_below hT hB9
    clear hB9 c0 c1 c2 hz
    obtain ⟨c0, c1, c2, hz⟩ := b0.three hT
    go_wp2_with fail
    refine (step_l0 _ hm NB.out).mono ?_
    rintro e w10 ⟨rfl, hB10⟩
    have hT := then_below hT hB10
    rw [E4.out]
    go_wp2
    go_ret
    exact ⟨rfl, then_below hB0 hT⟩
  · simp only [axI, dimAt] at E3 ⊢
    refine wp_region_look hmx (by kernel_rfl) ?_
    repeat (go_big_quiet_step (exact calls_ext (step_l1 _ hm HN.out)))
    refine wpQuiet_nil ?_
    intro z
    rw [E3.out]
    have hT := then_below hT z.le
    clear c0 c1 c2 hz e0 e1 e2
    obtain ⟨c0, c1, c2, hz⟩ := b0.three hT
    go_wp2_with fail
    refine (step_ax _ hm NA.out HJ.out).mono ?_
    rintro e w8 ⟨rfl, hB8⟩
    have hT := then_below hT hB8
    clear hB8 c0 c1 c2 hz
    obtain ⟨c0, c1, c2, hz⟩ := b0.three hT
    go_wp2_with fail
    refine (step_ax _ hm HN.out HJ.out).mono ?_
    rintro e w9 ⟨rfl, hB9⟩
    have hT := then_below hT hB9
    clear hB9 c0 c1 c2 hz
    obtain ⟨c0, c1, c2, hz⟩ := b0.three hT
    go_wp2_with fail
    refine (step_l1 _ hm NB.out).mono ?_
    rintro e w10 ⟨rfl, hB10⟩
    have hT := then_below hT hB10
    rw [E4.out]
    go_wp2
    go_ret
    exact ⟨rfl, then_below hB0 hT⟩
  · simp only [axI, dimAt] at E3 ⊢
    refine wp_region_look hmx (by kernel_rfl) ?_
    repeat (go_big_quiet_step (exact calls_ext (step_l2 _ hm HN.out)))
    refine wpQuiet_nil ?_
    intro z
    rw [E3.out]
    have hT := then_below hT z.le
    clear c0 c1 c2 hz e0 e1 e2
    obtain ⟨c0, c1, c2, hz⟩ := b0.three hT
    go_wp2_with fail
    refine (step_ax _ hm NA.out HJ.out).mono ?_
    rintro e w8 ⟨rfl, hB8⟩
    have hT := then_below hT hB8
    clear hB8 c0 c1 c2 hz
    obtain ⟨c0, c1, c2, hz⟩ := b0.three hT
    go_wp2_with fail
    refine (step_ax _ hm HN.out HJ.out).mono ?_
    rintro e w9 ⟨rfl, hB9⟩
    have hT := then_below hT hB9
    clear hB9 c0 c1 c2 hz
    obtain ⟨c0, c1, c2, hz⟩ := b0.three hT
    go_wp2_with fail
    refine (step_l2 _ hm NB.out).mono ?_
    rintro e w10 ⟨rfl, hB10⟩
    have hT := then_below hT hB10
    rw [E4.out]
    go_wp2
    go_ret
    exact ⟨rfl, then_below hB0 hT⟩

theorem mod3 (x : Int) : ∃ k : Fin 3, x % 3 = axI k := by
  have h : x % 3 = 0 ∨ x % 3 = 1 ∨ x % 3 = 2 := by omega
  rcases h with h | h | h
  · exact ⟨0, h⟩
  · exact ⟨1, h⟩
  · exact ⟨2, h⟩

theorem posRound_walk (d0 d1 d2 m x y by_ more : Int) (hx : 0 ≤ x ∧ x ≤ 255) (hy : 0 ≤ y ∧ y ≤ 255) (w : World) :
    Calls Try.prog 7 #[A3 d0 d1 d2, I m, .int .u8 x, .int .u8 y, I by_, I more] w fun e W' => e = .returned (.bool true) ∧ Below w.heap.size w W' := by
  by_cases hm : mayD d0 d1 d2
  · by_cases hg : (0 ≤ m ∧ m < d0 * d1 * d2) ∧ (-1000000 ≤ by_ ∧ by_ ≤ 1000000) ∧ (-1000000 ≤ more ∧ more ≤ 1000000)
    · obtain ⟨k, hk⟩ := mod3 x
      obtain ⟨j, hj⟩ := mod3 y
      exact round_on w hm hg.1 hx hy hk hj hg.2.1 hg.2.2
    · exact round_off m x y by_ more (d0 * d1 * d2) 0 w (fun w => many_yes w hm) (.inr ⟨rfl, by omega⟩)
  · exact round_off m x y by_ more 0 8 w (fun w => many_no w hm) (.inl rfl)

end Go.Proofs.Ytfpemgaabbcbiaa
