/-
  tidehalllaw01.PosTells returns true, whatever it is handed; nothing that lay before is turned.
-/
import Derived.Test.YtfpemgaabbcbiaaRefAt
namespace Go.Proofs.Ytfpemgaabbcbiaa
open Go.RowKit Go.Shelf

attribute [local go_sem] Oper.semAt_some ext_const eq_arr

/-- The program's call and the document's answer come to one value. -/
def Both (f g : FuncId) (args : Array Value) (v : Value) : Prop :=
  (∀ w : World, Calls Try.prog f args w fun x W' => x = .returned v ∧ Below w.heap.size w W') ∧ (∀ w : World, Calls Try.prog g args w fun x W' => x = .returned v ∧ Below w.heap.size w W')

theorem both_check (d0 d1 d2 : Int) : ∃ e, 0 ≤ e ∧ e ≤ 8 ∧ Both 13 20 #[A3 d0 d1 d2] (I e) := by
  by_cases hm : mayD d0 d1 d2
  · exact ⟨0, by omega, by omega, fun w => check_yes w hm, fun w => rcheck_yes w hm⟩
  · exact ⟨8, by omega, by omega, fun w => check_no w hm, fun w => rcheck_no w hm⟩
theorem both_many (d0 d1 d2 : Int) : ∃ n e, 0 ≤ e ∧ e ≤ 8 ∧ Both 14 15 #[A3 d0 d1 d2] (.tuple #[I n, I e]) := by
  by_cases hm : mayD d0 d1 d2
  · exact ⟨_, 0, by omega, by omega, fun w => many_yes w hm, fun w => rmany_yes w hm⟩
  · exact ⟨0, 8, by omega, by omega, fun w => many_no w hm, fun w => rmany_no w hm⟩
theorem both_at (d0 d1 d2 p0 p1 p2 : Int) : ∃ n e, 0 ≤ e ∧ e ≤ 8 ∧ Both 16 17 #[A3 d0 d1 d2, A3 p0 p1 p2] (.tuple #[I n, I e]) := by
  by_cases hm : mayD d0 d1 d2
  · by_cases hp : inD d0 d1 d2 p0 p1 p2
    · exact ⟨_, 0, by omega, by omega, fun w => at_yes w hm hp, fun w => rat_yes w hm hp⟩
    · exact ⟨0, 2, by omega, by omega, fun w => at_no w hm hp, fun w => rat_no w hm hp⟩
  · exact ⟨0, 8, by omega, by omega, fun w => at_bad p0 p1 p2 w hm, fun w => rat_bad p0 p1 p2 w hm⟩
theorem both_of (d0 d1 d2 m : Int) : ∃ a b c e, 0 ≤ e ∧ e ≤ 8 ∧ Both 18 19 #[A3 d0 d1 d2, I m] (.tuple #[A3 a b c, I e]) := by
  by_cases hm : mayD d0 d1 d2
  · by_cases hn : 0 ≤ m ∧ m < d0 * d1 * d2
    · exact ⟨_, _, _, 0, by omega, by omega, fun w => of_yes w hm hn, fun w => rof_yes w hm hn⟩
    · exact ⟨0, 0, 0, 2, by omega, by omega, fun w => of_no w hm hn, fun w => rof_no w hm hn⟩
  · exact ⟨0, 0, 0, 8, by omega, by omega, fun w => of_bad m w hm, fun w => rof_bad m w hm⟩

set_option maxRecDepth 100000 in
set_option maxHeartbeats 2000000 in
theorem posTells_walk (d0 d1 d2 p0 p1 p2 m : Int) (w : World) :
    Calls Try.prog 4 #[A3 d0 d1 d2, A3 p0 p1 p2, I m] w fun e W' => e = .returned (.bool true) ∧ Below w.heap.size w W' := by
  obtain ⟨n1, e1, l1, g1, HM⟩ := both_many d0 d1 d2
  obtain ⟨n2, e2, l2, g2, HA⟩ := both_at d0 d1 d2 p0 p1 p2
  obtain ⟨x, y, z, e3, l3, g3, HO⟩ := both_of d0 d1 d2 m
  obtain ⟨e4, l4, g4, HC⟩ := both_check d0 d1 d2
  go_enter Try.func4, Try.ntmps4
  go_wp2_with fail
  obtain ⟨W, hW, hB0, b0, b1⟩ := two_start w #[I d0, I d1, I d2] #[I p0, I p1, I p2] 26 25
  rw [hW]
  clear hW
  refine (HM.1 _).mono ?_
  rintro e w1 ⟨rfl, hT⟩
  obtain ⟨c0, c1, c2, hz⟩ := b0.three hT
  go_wp2_with fail
  refine (HM.2 _).mono ?_
  rintro e w2 ⟨rfl, hB2⟩
  have hT := then_below hT hB2
  clear hB2 c0 c1 c2 hz
  obtain ⟨c0, c1, c2, hz⟩ := b0.three hT
  obtain ⟨k0, k1, k2, hz1⟩ := b1.three hT
  go_wp2_with fail
  refine (HA.1 _).mono ?_
  rintro e w3 ⟨rfl, hB3⟩
  have hT := then_below hT hB3
  clear hB3 c0 c1 c2 hz k0 k1 k2 hz1
  obtain ⟨c0, c1, c2, hz⟩ := b0.three hT
  obtain ⟨k0, k1, k2, hz1⟩ := b1.three hT
  go_wp2_with fail
  refine (HA.2 _).mono ?_
  rintro e w4 ⟨rfl, hB4⟩
  have hT := then_below hT hB4
  clear hB4 c0 c1 c2 hz k0 k1 k2 hz1
  obtain ⟨c0, c1, c2, hz⟩ := b0.three hT
  go_wp2_with fail
  refine (HO.1 _).mono ?_
  rintro e w5 ⟨rfl, hB5⟩
  have hT := then_below hT hB5
  clear hB5 c0 c1 c2 hz
  obtain ⟨c0, c1, c2, hz⟩ := b0.three hT
  go_wp2_with fail
  have b5 := Blk.new w5 25 #[I x, I y, I z]
  have hT := then_alloc hT (.cells #[I x, I y, I z] 25)
  generalize w5.alloc (.cells #[I x, I y, I z] 25) = W5 at *
  refine (HO.2 _).mono ?_
  rintro e w6 ⟨rfl, hB6⟩
  have b5 := b5.later hB6
  have hT := then_below hT hB6
  clear hB6 c0 c1 c2 hz
  obtain ⟨c0, c1, c2, hz⟩ := b0.three hT
  have hz5 := b5.lt
  go_wp2_with fail
  have b6 := Blk.new w6 25 #[I x, I y, I z]
  have hT := then_alloc hT (.cells #[I x, I y, I z] 25)
  have b5 := b5.alloc (.cells #[I x, I y, I z] 25)
  generalize w6.alloc (.cells #[I x, I y, I z] 25) = W6 at *
  have hmx : Try.prog.follows .mixedOrders = true := by kernel_rfl
  have q0 := b0.later hT
  have x0 := Ext.cell q0 0
  have x1 := Ext.cell q0 1
  have x2 := Ext.cell q0 2
  have x3 := Ext.cell b5 0
  have x4 := Ext.cell b5 1
  have x5 := Ext.cell b5 2
  have x6 := Ext.cell b6 0
  have x7 := Ext.cell b6 1
  have x8 := Ext.cell b6 2
  simp at x0 x1 x2 x3 x4 x5 x6 x7 x8
  clear c0 c1 c2 hz
  refine wp_region_look hmx (by kernel_rfl) ?_
  repeat (go_big_quiet_step (first | (go_at_call 13; exact calls_ext (HC.1 _)) | (go_at_call 20; exact calls_ext (HC.2 _))))
  refine wpQuiet_nil ?_
  intro v
  go_wp2
  go_ret
  exact ⟨rfl, then_below hB0 (then_below hT v.le)⟩

end Go.Proofs.Ytfpemgaabbcbiaa
