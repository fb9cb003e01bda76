/-
  tidehalllaw02.BoxTwo and BoxTells return true, whatever they are handed; nothing that lay before is turned.
-/
import Derived.Test.YthakcjpipcmogaaBoxNodes
import Derived.Test.YthakcjpipcmogaaRefMeet
import Derived.Test.YthakcjpipcmogaaEqBox
import Derived.Test.YthakcjpipcmogaaBothOf
namespace Go.Proofs.Ythakcjpipcmogaa
open Go.RowKit Go.Shelf

attribute [local go_sem] Oper.semAt_some ext_const eq_arr eq_arr9 same3_self

theorem errB_bd (d0 d1 d2 : Int) (b : Bx) : 0 ≤ errB d0 d1 d2 b ∧ errB d0 d1 d2 b ≤ 8 := by
  rcases errB_cases d0 d1 d2 b with ⟨_, _, h⟩ | ⟨h | h, _⟩ <;> omega
theorem errB_ne {d0 d1 d2 : Int} {b : Bx} (h : ¬ (mayD d0 d1 d2 ∧ mayB d0 d1 d2 b)) : (errB d0 d1 d2 b != 0) = true := by
  rcases errB_cases d0 d1 d2 b with ⟨h1, h2, _⟩ | ⟨h1 | h1, _⟩
  · exact absurd ⟨h1, h2⟩ h
  · rw [h1]; rfl
  · rw [h1]; rfl
theorem errB2_ne {d0 d1 d2 : Int} {a b : Bx} (h : ¬ (mayD d0 d1 d2 ∧ mayB d0 d1 d2 a ∧ mayB d0 d1 d2 b)) : (errB2 d0 d1 d2 a b != 0) = true := by
  by_cases hm : mayD d0 d1 d2
  · rw [errB2_no hm (fun k => h ⟨hm, k⟩)]; rfl
  · rw [errB2_bad hm]; rfl
theorem errB2_bd (d0 d1 d2 : Int) (a b : Bx) : 0 ≤ errB2 d0 d1 d2 a b ∧ errB2 d0 d1 d2 a b ≤ 8 := by
  unfold errB2 codeOf
  split
  · split <;> omega
  · omega

theorem both_bcheck (d0 d1 d2 : Int) (b : Bx) : ∃ e, 0 ≤ e ∧ e ≤ 8 ∧ Both 15 23 #[A3 d0 d1 d2, B6 b] (I e) :=
  ⟨_, (errB_bd d0 d1 d2 b).1, (errB_bd d0 d1 d2 b).2, fun w => bcheck_calls d0 d1 d2 b w, fun w => rcheckb_calls d0 d1 d2 b w⟩
theorem both_bcanon (d0 d1 d2 : Int) (b : Bx) : ∃ x y z i j k e, 0 ≤ e ∧ e ≤ 8 ∧ Both 9 16 #[A3 d0 d1 d2, B6 b] (.tuple #[.agg #[I x, I y, I z, I i, I j, I k], I e]) := by
  by_cases h : mayD d0 d1 d2 ∧ mayB d0 d1 d2 b
  · exact ⟨_, _, _, _, _, _, 0, by omega, by omega, fun w => bcanon_ok w h.1 h.2, fun w => rcanon_ok w h.1 h.2⟩
  · exact ⟨_, _, _, _, _, _, _, (errB_bd d0 d1 d2 b).1, (errB_bd d0 d1 d2 b).2, fun w => bcanon_err w (errB_ne h), fun w => rcanon_err w (errB_ne h)⟩
theorem both_bmany (d0 d1 d2 : Int) (b : Bx) : ∃ n e, 0 ≤ e ∧ e ≤ 8 ∧ Both 17 18 #[A3 d0 d1 d2, B6 b] (.tuple #[I n, I e]) := by
  by_cases h : mayD d0 d1 d2 ∧ mayB d0 d1 d2 b
  · exact ⟨_, 0, by omega, by omega, fun w => bMany_ok w h.1 h.2, fun w => rmanyb_ok w h.1 h.2⟩
  · exact ⟨_, _, (errB_bd d0 d1 d2 b).1, (errB_bd d0 d1 d2 b).2, fun w => bMany_err w (errB_ne h), fun w => rmanyb_err w (errB_ne h)⟩
theorem both_bhas (d0 d1 d2 : Int) (b : Bx) (m : Int) : ∃ i e, 0 ≤ e ∧ e ≤ 8 ∧ Both 19 20 #[A3 d0 d1 d2, B6 b, I m] (.tuple #[.bool i, I e]) := by
  by_cases h : mayD d0 d1 d2 ∧ mayB d0 d1 d2 b
  · by_cases hn : 0 ≤ m ∧ m < d0 * d1 * d2
    · exact ⟨_, 0, by omega, by omega, fun w => bhas_ok w h.1 h.2 hn, fun w => rhas_ok w h.1 h.2 hn⟩
    · refine ⟨false, 2, by omega, by omega, fun w => bhas_no w h.1 h.2 hn, fun w => ?_⟩
      by_cases h0 : m < 0
      · exact rhas_neg w h.1 h.2 h0
      · exact rhas_far w h.1 h.2 (by omega) (by omega)
  · exact ⟨_, _, (errB_bd d0 d1 d2 b).1, (errB_bd d0 d1 d2 b).2, fun w => bhas_err m w (errB_ne h), fun w => rhas_err m w (errB_ne h)⟩
theorem both_bmeet (d0 d1 d2 : Int) (a b : Bx) : ∃ i e, 0 ≤ e ∧ e ≤ 8 ∧ Both 11 25 #[A3 d0 d1 d2, B6 a, B6 b] (.tuple #[.bool i, I e]) := by
  by_cases h : mayD d0 d1 d2 ∧ mayB d0 d1 d2 a ∧ mayB d0 d1 d2 b
  · exact ⟨_, 0, by omega, by omega, fun w => bmeet_ok w h.1 h.2.1 h.2.2, fun w => rmeet_ok w h.1 h.2.1 h.2.2⟩
  · exact ⟨_, _, (errB2_bd d0 d1 d2 a b).1, (errB2_bd d0 d1 d2 a b).2, fun w => bmeet_err w (errB2_ne h), fun w => rmeet_err w (errB2_ne h)⟩
theorem both_bwithin (d0 d1 d2 : Int) (a b : Bx) : ∃ i e, 0 ≤ e ∧ e ≤ 8 ∧ Both 13 26 #[A3 d0 d1 d2, B6 a, B6 b] (.tuple #[.bool i, I e]) := by
  by_cases h : mayD d0 d1 d2 ∧ mayB d0 d1 d2 a ∧ mayB d0 d1 d2 b
  · exact ⟨_, 0, by omega, by omega, fun w => bwithin_ok w h.1 h.2.1 h.2.2, fun w => rwithin_ok w h.1 h.2.1 h.2.2⟩
  · exact ⟨_, _, (errB2_bd d0 d1 d2 a b).1, (errB2_bd d0 d1 d2 a b).2, fun w => bwithin_err w (errB2_ne h), fun w => rwithin_err w (errB2_ne h)⟩
/-- A call that answers a list in new memory, and an error. -/
def Lists (f : FuncId) (args : Array Value) (L : List Int) (e : Int) : Prop :=
  ∀ w : World, Calls Try.prog f args w fun x W' => ∃ v, x = .returned (.tuple #[v, I e]) ∧ Lst W' 0 v L ∧ Below w.heap.size w W'
theorem both_bnodes (d0 d1 d2 : Int) (b : Bx) : ∃ L e, L.length ≤ 4096 ∧ 0 ≤ e ∧ e ≤ 8 ∧ Lists 21 #[A3 d0 d1 d2, B6 b] L e ∧ Lists 22 #[A3 d0 d1 d2, B6 b] L e := by
  by_cases h : mayD d0 d1 d2 ∧ mayB d0 d1 d2 b
  · exact ⟨nodesB d0 d1 d2 b, 0, nodesB_len h.1 b, by omega, by omega, fun w => (bnodes_ok w h.1 h.2).mono fun _ _ ⟨v, h1, h2, h3⟩ => ⟨v, h1, h2.weak (Nat.zero_le _), h3⟩, fun w => (rnodes_ok w h.1 h.2).mono fun _ _ ⟨v, h1, h2, h3⟩ => ⟨v, h1, h2.weak (Nat.zero_le _), h3⟩⟩
  · exact ⟨[], errB d0 d1 d2 b, by simp, (errB_bd d0 d1 d2 b).1, (errB_bd d0 d1 d2 b).2, fun w => (bnodes_err w (errB_ne h)).mono fun _ _ ⟨h1, h3⟩ => ⟨_, h1, Lst.nil _ _, h3⟩, fun w => (rnodes_err w (errB_ne h)).mono fun _ _ ⟨h1, h3⟩ => ⟨_, h1, Lst.nil _ _, h3⟩⟩

set_option maxRecDepth 100000 in
set_option maxHeartbeats 2000000 in
theorem boxTwo_walk (d0 d1 d2 : Int) (a b : Bx) (w : World) :
    Calls Try.prog 5 #[A3 d0 d1 d2, B6 a, B6 b] w fun e W' => e = .returned (.bool true) ∧ Below w.heap.size w W' := by
  obtain ⟨i1, e1, l1, g1, HM⟩ := both_bmeet d0 d1 d2 a b
  obtain ⟨i2, e2, l2, g2, HW⟩ := both_bwithin d0 d1 d2 a b
  go_enter Try.func5, Try.ntmps5
  go_wp2_with fail
  obtain ⟨W, hW, hs, hB0, b0, b1, b2⟩ := three_start w #[I d0, I d1, I d2] (C6 a) (C6 b) 28 24 24
  rw [hW]
  clear hW
  refine (HM.1 _).mono ?_
  rintro e w1 ⟨rfl, hT⟩
  obtain ⟨c0, c1, c2, hz⟩ := b0.three hT
  obtain ⟨⟨k0, k1, k2⟩, ⟨k3, k4, k5⟩, hz1⟩ := b1.six hT
  obtain ⟨⟨l0, l1, l2⟩, ⟨l3, l4, l5⟩, hz2⟩ := b2.six hT
  go_wp2_with fail
  refine (HM.2 _).mono ?_
  rintro e w2 ⟨rfl, hB⟩
  have hT := then_below hT hB
  clear hB c0 c1 c2 hz k0 k1 k2 k3 k4 k5 hz1 l0 l1 l2 l3 l4 l5 hz2
  obtain ⟨c0, c1, c2, hz⟩ := b0.three hT
  obtain ⟨⟨k0, k1, k2⟩, ⟨k3, k4, k5⟩, hz1⟩ := b1.six hT
  obtain ⟨⟨l0, l1, l2⟩, ⟨l3, l4, l5⟩, hz2⟩ := b2.six hT
  go_wp2_with fail
  refine (HW.1 _).mono ?_
  rintro e w3 ⟨rfl, hB⟩
  have hT := then_below hT hB
  clear hB c0 c1 c2 hz k0 k1 k2 k3 k4 k5 hz1 l0 l1 l2 l3 l4 l5 hz2
  obtain ⟨c0, c1, c2, hz⟩ := b0.three hT
  obtain ⟨⟨k0, k1, k2⟩, ⟨k3, k4, k5⟩, hz1⟩ := b1.six hT
  obtain ⟨⟨l0, l1, l2⟩, ⟨l3, l4, l5⟩, hz2⟩ := b2.six hT
  go_wp2_with fail
  refine (HW.2 _).mono ?_
  rintro e w4 ⟨rfl, hB⟩
  have hT := then_below hT hB
  clear hB c0 c1 c2 hz k0 k1 k2 k3 k4 k5 hz1 l0 l1 l2 l3 l4 l5 hz2
  go_wp2
  go_ret
  exact ⟨rfl, then_below hB0 hT⟩

set_option maxRecDepth 100000 in
set_option maxHeartbeats 4000000 in
theorem boxTells_walk (d0 d1 d2 : Int) (b : Bx) (m : Int) (w : World) :
    Calls Try.prog 4 #[A3 d0 d1 d2, B6 b, I m] w fun e W' => e = .returned (.bool true) ∧ Below w.heap.size w W' := by
  obtain ⟨x, y, z, i, j, k, e1, l1, g1, HC⟩ := both_bcanon d0 d1 d2 b
  obtain ⟨n, e2, l2, g2, HM⟩ := both_bmany d0 d1 d2 b
  obtain ⟨is, e3, l3, g3, HH⟩ := both_bhas d0 d1 d2 b m
  obtain ⟨L, e4, hL, l4, g4, HN1, HN2⟩ := both_bnodes d0 d1 d2 b
  obtain ⟨e5, l5, g5, HK⟩ := both_bcheck d0 d1 d2 b
  have HL : Hid (L.length ≤ 4096) := hL
  clear hL
  go_enter Try.func4, Try.ntmps4
  go_wp2_with fail
  obtain ⟨W, hW, hB0, b0, b1⟩ := two_start w #[I d0, I d1, I d2] (C6 b) 28 24
  rw [hW]
  clear hW
  refine (HC.1 _).mono ?_
  rintro e w1 ⟨rfl, hT⟩
  obtain ⟨c0, c1, c2, hz⟩ := b0.three hT
  obtain ⟨⟨k0, k1, k2⟩, ⟨k3, k4, k5⟩, hz1⟩ := b1.six hT
  go_wp2_with fail
  have b2 := Blk.new w1 24 #[I x, I y, I z, I i, I j, I k]
  have hT := then_alloc hT (.cells #[I x, I y, I z, I i, I j, I k] 24)
  generalize w1.alloc (.cells #[I x, I y, I z, I i, I j, I k] 24) = W1 at *
  clear c0 c1 c2 hz k0 k1 k2 k3 k4 k5 hz1
  refine (HC.2 _).mono ?_
  rintro e w2 ⟨rfl, hB⟩
  have b2 := b2.later hB
  have hT := then_below hT hB
  clear hB
  obtain ⟨c0, c1, c2, hz⟩ := b0.three hT
  obtain ⟨⟨k0, k1, k2⟩, ⟨k3, k4, k5⟩, hz1⟩ := b1.six hT
  go_wp2_with fail
  have b3 := Blk.new w2 24 #[I x, I y, I z, I i, I j, I k]
  have b2 := b2.alloc (.cells #[I x, I y, I z, I i, I j, I k] 24)
  have hT := then_alloc hT (.cells #[I x, I y, I z, I i, I j, I k] 24)
  generalize w2.alloc (.cells #[I x, I y, I z, I i, I j, I k] 24) = W2 at *
  clear c0 c1 c2 hz k0 k1 k2 k3 k4 k5 hz1
  refine (HM.1 _).mono ?_
  rintro e w3 ⟨rfl, hB⟩
  have b2 := b2.later hB
  have b3 := b3.later hB
  have hT := then_below hT hB
  clear hB
  obtain ⟨c0, c1, c2, hz⟩ := b0.three hT
  obtain ⟨⟨k0, k1, k2⟩, ⟨k3, k4, k5⟩, hz1⟩ := b1.six hT
  go_wp2_with fail
  refine (HM.2 _).mono ?_
  rintro e w4 ⟨rfl, hB⟩
  have b2 := b2.later hB
  have b3 := b3.later hB
  have hT := then_below hT hB
  clear hB c0 c1 c2 hz k0 k1 k2 k3 k4 k5 hz1
  obtain ⟨c0, c1, c2, hz⟩ := b0.three hT
  obtain ⟨⟨k0, k1, k2⟩, ⟨k3, k4, k5⟩, hz1⟩ := b1.six hT
  go_wp2_with fail
  refine (HH.1 _).mono ?_
  rintro e w5 ⟨rfl, hB⟩
  have b2 := b2.later hB
  have b3 := b3.later hB
  have hT := then_below hT hB
  clear hB c0 c1 c2 hz k0 k1 k2 k3 k4 k5 hz1
  obtain ⟨c0, c1, c2, hz⟩ := b0.three hT
  obtain ⟨⟨k0, k1, k2⟩, ⟨k3, k4, k5⟩, hz1⟩ := b1.six hT
  go_wp2_with fail
  refine (HH.2 _).mono ?_
  rintro e w6 ⟨rfl, hB⟩
  have b2 := b2.later hB
  have b3 := b3.later hB
  have hT := then_below hT hB
  clear hB c0 c1 c2 hz k0 k1 k2 k3 k4 k5 hz1
  obtain ⟨c0, c1, c2, hz⟩ := b0.three hT
  obtain ⟨⟨k0, k1, k2⟩, ⟨k3, k4, k5⟩, hz1⟩ := b1.six hT
  go_wp2_with fail
  refine (HN1 _).mono ?_
  rintro e w7 ⟨u, rfl, hu, hB⟩
  have b2 := b2.later hB
  have b3 := b3.later hB
  have hT := then_below hT hB
  clear hB c0 c1 c2 hz k0 k1 k2 k3 k4 k5 hz1
  obtain ⟨c0, c1, c2, hz⟩ := b0.three hT
  obtain ⟨⟨k0, k1, k2⟩, ⟨k3, k4, k5⟩, hz1⟩ := b1.six hT
  go_wp2_with fail
  refine (HN2 _).mono ?_
  rintro e w8 ⟨v, rfl, hv, hB⟩
  have b2 := b2.later hB
  have b3 := b3.later hB
  have hu := hu.later hB
  have hT := then_below hT hB
  clear hB c0 c1 c2 hz k0 k1 k2 k3 k4 k5 hz1
  have q0 := b0.later hT
  have q1 := b1.later hT
  have KI : Hid (∀ x : Ext w8, Calls Try.prog 24 #[u, v] x.wd fun e W' => e = .returned (.bool true) ∧ Below x.wd.heap.size x.wd W') := fun x => by
    have := ints_calls x.wd (hu.later x.le) (hv.later x.le) HL.out
    simpa using this
  have hmx : Try.prog.follows .mixedOrders = true := by kernel_rfl
  clear hu hv
  have p0 := Ext.cell q0 0
  have p1 := Ext.cell q0 1
  have p2 := Ext.cell q0 2
  have r0 := Ext.cell q1 0
  have r1 := Ext.cell q1 1
  have r2 := Ext.cell q1 2
  have r3 := Ext.cell q1 3
  have r4 := Ext.cell q1 4
  have r5 := Ext.cell q1 5
  have s0 := Ext.cell b2 0
  have s1 := Ext.cell b2 1
  have s2 := Ext.cell b2 2
  have s3 := Ext.cell b2 3
  have s4 := Ext.cell b2 4
  have s5 := Ext.cell b2 5
  have t0 := Ext.cell b3 0
  have t1 := Ext.cell b3 1
  have t2 := Ext.cell b3 2
  have t3 := Ext.cell b3 3
  have t4 := Ext.cell b3 4
  have t5 := Ext.cell b3 5
  simp at p0 p1 p2 r0 r1 r2 r3 r4 r5 s0 s1 s2 s3 s4 s5 t0 t1 t2 t3 t4 t5
  go_wp2_with fail
  refine wp_region_look hmx (by kernel_rfl) ?_
  repeat (go_big_quiet_step (first | (go_at_call 15; exact calls_ext (HK.1 _)) | (go_at_call 23; exact calls_ext (HK.2 _)) | (go_at_call 24; exact calls_ext (KI.out _))))
  refine wpQuiet_nil ?_
  intro v
  go_wp2
  go_ret
  exact ⟨rfl, then_below hB0 (then_below hT v.le)⟩

end Go.Proofs.Ythakcjpipcmogaa
