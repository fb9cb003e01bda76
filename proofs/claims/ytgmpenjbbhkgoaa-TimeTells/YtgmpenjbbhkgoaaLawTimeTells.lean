/-
  tidehalllaw07.TimeTells returns true, whatever it is handed; nothing that lay before is turned.
-/
import Derived.Test.YtgmpenjbbhkgoaaTimeTwo
import Derived.Test.YtgmpenjbbhkgoaaRefBothT
import Derived.Test.YtgmpenjbbhkgoaaBothOf
namespace Go.Proofs.Ytgmpenjbbhkgoaa
open Go.RowKit Go.Shelf

attribute [local go_sem] Oper.semAt_some ext_const

theorem bothT_from (m n : Int) : ∃ x y e, Both 8 13 #[I m, I n] (.tuple #[S2 x y, I e]) := by
  by_cases h : 0 ≤ m ∧ m < 1099511627776 ∧ 1 ≤ n
  · exact ⟨_, _, 0, fun w => tfrom_yes w h, fun w => rfrom_yes w h⟩
  · exact ⟨0, 0, 2, fun w => tfrom_no w h, fun w => rfrom_no w h⟩
theorem bothT_long (f t : Int) : ∃ n e, Both 14 15 #[S2 f t] (.tuple #[I n, I e]) := by
  by_cases h : maySp f t
  · exact ⟨_, 0, fun w => tlong_yes w h, fun w => rlong_yes w h⟩
  · exact ⟨0, 2, fun w => tlong_no w h, fun w => rlong_no w h⟩
theorem bothT_meet (f t f' t' : Int) : ∃ b e, Both 16 17 #[S2 f t, S2 f' t'] (.tuple #[.bool b, I e]) := by
  by_cases h : maySp f t ∧ maySp f' t'
  · exact ⟨_, 0, fun w => tmeet_yes w h.1 h.2, fun w => rmeetT_yes w h.1 h.2⟩
  · exact ⟨false, 2, fun w => tmeet_no w h, fun w => rmeetT_no w h⟩
theorem bothT_within (f t f' t' : Int) : ∃ b e, Both 18 19 #[S2 f t, S2 f' t'] (.tuple #[.bool b, I e]) := by
  by_cases h : maySp f t ∧ maySp f' t'
  · exact ⟨_, 0, fun w => twithin_yes w h.1 h.2, fun w => rwithinT_yes w h.1 h.2⟩
  · exact ⟨false, 2, fun w => twithin_no w h, fun w => rwithinT_no w h⟩
theorem bothT_both (f t f' t' : Int) : ∃ x y e, Both 9 20 #[S2 f t, S2 f' t'] (.tuple #[S2 x y, I e]) := by
  by_cases h : maySp f t ∧ maySp f' t'
  · cases hm : meetsT f t f' t'
    · exact ⟨0, 0, 6, fun w => tboth_none w h.1 h.2 hm, fun w => rbothT_none w h.1 h.2 hm⟩
    · exact ⟨_, _, 0, fun w => tboth_yes w h.1 h.2 hm, fun w => rbothT_yes w h.1 h.2 hm⟩
  · exact ⟨0, 0, 2, fun w => tboth_no w h, fun w => rbothT_no w h⟩
theorem plus_below (a b : Int) (w : World) : Calls Try.prog 11 #[I a, I b] w fun e W' => e = .returned (I (plusT a b)) ∧ Below w.heap.size w W' :=
  (plus_calls a b w).mono fun _ _ ⟨h, k⟩ => ⟨h, k ▸ Below.refl _ _⟩
theorem rplus_below (a b : Int) (w : World) : Calls Try.prog 21 #[I a, I b] w fun e W' => e = .returned (I (plusT a b)) ∧ Below w.heap.size w W' :=
  (rplus_calls a b w).mono fun _ _ ⟨h, k⟩ => ⟨h, k ▸ Below.refl _ _⟩

set_option maxRecDepth 100000 in
set_option maxHeartbeats 8000000 in
theorem timeTells_walk (m n f t f' t' : Int) (w : World) :
    Calls Try.prog 4 #[I m, I n, S2 f t, S2 f' t'] w fun e W' => e = .returned (.bool true) ∧ Below w.heap.size w W' := by
  obtain ⟨x1, y1, e1, H1⟩ := bothT_from m n
  obtain ⟨n2, e2, H2⟩ := bothT_long f t
  obtain ⟨b3, e3, H3⟩ := bothT_meet f t f' t'
  obtain ⟨b4, e4, H4⟩ := bothT_within f t f' t'
  obtain ⟨x5, y5, e5, H5⟩ := bothT_both f t f' t'
  have HP : Both 11 21 #[I m, I n] (I (plusT m n)) := ⟨plus_below m n, rplus_below m n⟩
  have HC : Both 12 22 #[S2 f t] (I (errS f t)) := ⟨tcheck_calls f t, rcheckS_calls f t⟩
  generalize plusT m n = s at *
  generalize errS f t = ec at *
  have hmx : Try.prog.follows .mixedOrders = true := by kernel_rfl
  go_enter Try.func4, Try.ntmps4
  go_wp2_with fail
  obtain ⟨W, hW, hB0, b0, b1⟩ := two_start w (C2 f t) (C2 f' t') 23 23
  rw [hW]
  clear hW
  refine (H1.1 _).mono ?_
  rintro e w1 ⟨rfl, hT⟩
  go_wp2_with fail
  have hT := then_alloc hT (.cells (C2 x1 y1) 23)
  have s0 := Blk.new w1 23 (C2 x1 y1)
  generalize w1.alloc (.cells (C2 x1 y1) 23) = W1 at *
  refine (H1.2 _).mono ?_
  rintro e w2 ⟨rfl, hB2⟩
  have hT := then_below hT hB2
  have s0 := s0.later hB2
  have s0z := s0.lt
  obtain ⟨⟨c0, c1, z0⟩, c2, c3, z1⟩ := two_pairs b0 b1 hT
  go_wp2_with fail
  clear c0 c1 z0 c2 c3 z1 s0z
  have hT := then_alloc hT (.cells (C2 x1 y1) 23)
  have s1 := Blk.new w2 23 (C2 x1 y1)
  have s0 := s0.alloc (.cells (C2 x1 y1) 23)
  generalize w2.alloc (.cells (C2 x1 y1) 23) = W2 at *
  refine (H2.1 _).mono ?_
  rintro e w3 ⟨rfl, hB3⟩
  have hT := then_below hT hB3
  have s0 := s0.later hB3
  have s1 := s1.later hB3
  obtain ⟨⟨c0, c1, z0⟩, c2, c3, z1⟩ := two_pairs b0 b1 hT
  go_wp2_with fail
  clear c0 c1 z0 c2 c3 z1
  refine (H2.2 _).mono ?_
  rintro e w4 ⟨rfl, hB4⟩
  have hT := then_below hT hB4
  have s0 := s0.later hB4
  have s1 := s1.later hB4
  obtain ⟨⟨c0, c1, z0⟩, c2, c3, z1⟩ := two_pairs b0 b1 hT
  go_wp2_with fail
  clear c0 c1 z0 c2 c3 z1
  refine (H3.1 _).mono ?_
  rintro e w5 ⟨rfl, hB5⟩
  have hT := then_below hT hB5
  have s0 := s0.later hB5
  have s1 := s1.later hB5
  obtain ⟨⟨c0, c1, z0⟩, c2, c3, z1⟩ := two_pairs b0 b1 hT
  go_wp2_with fail
  clear c0 c1 z0 c2 c3 z1
  refine (H3.2 _).mono ?_
  rintro e w6 ⟨rfl, hB6⟩
  have hT := then_below hT hB6
  have s0 := s0.later hB6
  have s1 := s1.later hB6
  obtain ⟨⟨c0, c1, z0⟩, c2, c3, z1⟩ := two_pairs b0 b1 hT
  go_wp2_with fail
  clear c0 c1 z0 c2 c3 z1
  refine (H4.1 _).mono ?_
  rintro e w7 ⟨rfl, hB7⟩
  have hT := then_below hT hB7
  have s0 := s0.later hB7
  have s1 := s1.later hB7
  obtain ⟨⟨c0, c1, z0⟩, c2, c3, z1⟩ := two_pairs b0 b1 hT
  go_wp2_with fail
  clear c0 c1 z0 c2 c3 z1
  refine (H4.2 _).mono ?_
  rintro e w8 ⟨rfl, hB8⟩
  have hT := then_below hT hB8
  have s0 := s0.later hB8
  have s1 := s1.later hB8
  obtain ⟨⟨c0, c1, z0⟩, c2, c3, z1⟩ := two_pairs b0 b1 hT
  go_wp2_with fail
  clear c0 c1 z0 c2 c3 z1
  refine (H5.1 _).mono ?_
  rintro e w9 ⟨rfl, hB9⟩
  have hT := then_below hT hB9
  have s0 := s0.later hB9
  have s1 := s1.later hB9
  obtain ⟨⟨c0, c1, z0⟩, c2, c3, z1⟩ := two_pairs b0 b1 hT
  go_wp2_with fail
  clear c0 c1 z0 c2 c3 z1
  have hT := then_alloc hT (.cells (C2 x5 y5) 23)
  have s2 := Blk.new w9 23 (C2 x5 y5)
  have s0 := s0.alloc (.cells (C2 x5 y5) 23)
  have s1 := s1.alloc (.cells (C2 x5 y5) 23)
  generalize w9.alloc (.cells (C2 x5 y5) 23) = W9 at *
  refine (H5.2 _).mono ?_
  rintro e w10 ⟨rfl, hB10⟩
  have hT := then_below hT hB10
  have s0 := s0.later hB10
  have s1 := s1.later hB10
  have s2 := s2.later hB10
  have s2z := s2.lt
  go_wp2_with fail
  have hT := then_alloc hT (.cells (C2 x5 y5) 23)
  have s3 := Blk.new w10 23 (C2 x5 y5)
  have s0 := s0.alloc (.cells (C2 x5 y5) 23)
  have s1 := s1.alloc (.cells (C2 x5 y5) 23)
  have s2 := s2.alloc (.cells (C2 x5 y5) 23)
  clear s2z
  generalize w10.alloc (.cells (C2 x5 y5) 23) = W10 at *
  have q0 := b0.later hT
  have x0 := Ext.cell q0 0
  have x1 := Ext.cell q0 1
  have x2 := Ext.cell s0 0
  have x3 := Ext.cell s0 1
  have x4 := Ext.cell s1 0
  have x5 := Ext.cell s1 1
  simp at x0 x1 x2 x3 x4 x5
  refine wp_region_look hmx (by kernel_rfl) ?_
  repeat (go_big_quiet_step (first | (go_at_call 11; exact calls_ext (HP.1 _)) | (go_at_call 21; exact calls_ext (HP.2 _)) | (go_at_call 12; exact calls_ext (HC.1 _)) | (go_at_call 22; exact calls_ext (HC.2 _))))
  refine wpQuiet_nil ?_
  intro v
  obtain ⟨⟨d0, d1, y0⟩, d2, d3, y1⟩ := two_pairs s2 s3 v.le
  go_wp2
  go_ret
  exact ⟨rfl, then_below hB0 (then_below hT v.le)⟩

end Go.Proofs.Ytgmpenjbbhkgoaa
