/-
  tidehalllaw02.BoxCanon returns true, whatever it is handed; nothing that lay before is turned.
-/
import Derived.Test.YthakcjpipcmogaaLawBox
import Derived.Test.YthakcjpipcmogaaLawBoxTells
namespace Go.Proofs.Ythakcjpipcmogaa
open Go.RowKit Go.Shelf

attribute [local go_sem] Oper.semAt_some ext_const eq_arr eq_arr9 same3_self

theorem nodes_same {d0 d1 d2 : Int} {a b : Bx} (hm : mayD d0 d1 d2) (ha : mayB d0 d1 d2 a) (hb : mayB d0 d1 d2 b) : nodesB d0 d1 d2 a = nodesB d0 d1 d2 b ↔ canonB d0 d1 d2 a = canonB d0 d1 d2 b := by
  rw [← same_canon ha hb, inB_iff hm ha hb, inB_iff hm hb ha]
  constructor
  · intro h
    refine ⟨fun m h1 h2 => ?_, fun m h1 h2 => ?_⟩
    · have := (nodesB_mem hm).2 ⟨h1, h2⟩
      rw [h] at this
      exact ((nodesB_mem hm).1 this).2
    · have := (nodesB_mem hm).2 ⟨h1, h2⟩
      rw [← h] at this
      exact ((nodesB_mem hm).1 this).2
  · rintro ⟨h1, h2⟩
    have hN := N_bd hm
    unfold nodesB nodesTo
    congr 1
    refine List.filter_congr fun m hmm => ?_
    have hmm := List.mem_range.1 hmm
    have hr : 0 ≤ (m : Int) ∧ (m : Int) < d0 * d1 * d2 := ⟨by omega, by omega⟩
    rw [Bool.eq_iff_iff]
    exact ⟨h1 m hr, h2 m hr⟩

set_option maxRecDepth 100000 in
set_option maxHeartbeats 2000000 in
theorem boxCanon_first {d0 d1 d2 : Int} {a : Bx} (b : Bx) (w : World) (he : (errB d0 d1 d2 a != 0) = true) :
    Calls Try.prog 7 #[A3 d0 d1 d2, B6 a, B6 b] w fun e W' => e = .returned (.bool true) ∧ Below w.heap.size w W' := by
  obtain ⟨x, y, z, i, j, k, e1, l1, g1, HC⟩ := both_bcanon d0 d1 d2 b
  go_enter Try.func7, Try.ntmps7
  go_wp2_with fail
  obtain ⟨W, hW, hs, hB0, b0, b1, b2⟩ := three_start w #[I d0, I d1, I d2] (C6 a) (C6 b) 28 24 24
  rw [hW]
  clear hW
  refine (alive2_calls _).mono ?_
  rintro e w1 ⟨rfl, hT⟩
  obtain ⟨c0, c1, c2, hz⟩ := b0.three hT
  obtain ⟨⟨k0, k1, k2⟩, ⟨k3, k4, k5⟩, hz1⟩ := b1.six hT
  go_wp2_with fail
  refine (bcanon_err _ he).mono ?_
  rintro e w2 ⟨rfl, hB⟩
  have hT := then_below hT hB
  clear hB c0 c1 c2 hz k0 k1 k2 k3 k4 k5 hz1
  obtain ⟨c0, c1, c2, hz⟩ := b0.three hT
  obtain ⟨⟨k0, k1, k2⟩, ⟨k3, k4, k5⟩, hz1⟩ := b2.six hT
  go_wp2_with fail
  have hT := then_alloc hT (.cells #[I 0, I 0, I 0, I 0, I 0, I 0] 24)
  generalize w2.alloc (.cells #[I 0, I 0, I 0, I 0, I 0, I 0] 24) = W2 at *
  refine (HC.1 _).mono ?_
  rintro e w3 ⟨rfl, hB⟩
  have hT := then_below hT hB
  clear hB c0 c1 c2 hz k0 k1 k2 k3 k4 k5 hz1
  go_wp2
  go_ret
  exact ⟨rfl, then_alloc (then_below hB0 hT) _⟩

set_option maxRecDepth 100000 in
set_option maxHeartbeats 2000000 in
theorem boxCanon_second {d0 d1 d2 : Int} {a b : Bx} (w : World) (hm : mayD d0 d1 d2) (ha : mayB d0 d1 d2 a) (he : (errB d0 d1 d2 b != 0) = true) :
    Calls Try.prog 7 #[A3 d0 d1 d2, B6 a, B6 b] w fun e W' => e = .returned (.bool true) ∧ Below w.heap.size w W' := by
  have KA : Hid (∀ w : World, Calls Try.prog 9 #[A3 d0 d1 d2, B6 a] w fun e W' => e = .returned (.tuple #[B6 (canonB d0 d1 d2 a), I 0]) ∧ Below w.heap.size w W') := fun w => bcanon_ok w hm ha
  generalize canonB d0 d1 d2 a = X at KA
  go_enter Try.func7, Try.ntmps7
  go_wp2_with fail
  obtain ⟨W, hW, hs, hB0, b0, b1, b2⟩ := three_start w #[I d0, I d1, I d2] (C6 a) (C6 b) 28 24 24
  rw [hW]
  clear hW
  refine (alive2_calls _).mono ?_
  rintro e w1 ⟨rfl, hT⟩
  obtain ⟨c0, c1, c2, hz⟩ := b0.three hT
  obtain ⟨⟨k0, k1, k2⟩, ⟨k3, k4, k5⟩, hz1⟩ := b1.six hT
  go_wp2_with fail
  refine (KA.out _).mono ?_
  rintro e w2 ⟨rfl, hB⟩
  have hT := then_below hT hB
  clear hB c0 c1 c2 hz k0 k1 k2 k3 k4 k5 hz1
  obtain ⟨c0, c1, c2, hz⟩ := b0.three hT
  obtain ⟨⟨k0, k1, k2⟩, ⟨k3, k4, k5⟩, hz1⟩ := b2.six hT
  go_wp2_with fail
  have hT := then_alloc hT (.cells (C6 X) 24)
  generalize w2.alloc (.cells (C6 X) 24) = W2 at *
  refine (bcanon_err _ he).mono ?_
  rintro e w3 ⟨rfl, hB⟩
  have hT := then_below hT hB
  clear hB c0 c1 c2 hz k0 k1 k2 k3 k4 k5 hz1
  go_wp2
  go_ret
  exact ⟨rfl, then_alloc (then_below hB0 hT) _⟩

set_option maxRecDepth 100000 in
set_option maxHeartbeats 4000000 in
theorem boxCanon_ok {d0 d1 d2 : Int} {a b : Bx} (w : World) (hm : mayD d0 d1 d2) (ha : mayB d0 d1 d2 a) (hb : mayB d0 d1 d2 b) :
    Calls Try.prog 7 #[A3 d0 d1 d2, B6 a, B6 b] w fun e W' => e = .returned (.bool true) ∧ Below w.heap.size w W' := by
  have hmx : Try.prog.follows .mixedOrders = true := by kernel_rfl
  have hx := canon_may ha
  have KA : Hid (∀ w : World, Calls Try.prog 9 #[A3 d0 d1 d2, B6 a] w fun e W' => e = .returned (.tuple #[B6 (canonB d0 d1 d2 a), I 0]) ∧ Below w.heap.size w W') := fun w => bcanon_ok w hm ha
  have KB : Hid (∀ w : World, Calls Try.prog 9 #[A3 d0 d1 d2, B6 b] w fun e W' => e = .returned (.tuple #[B6 (canonB d0 d1 d2 b), I 0]) ∧ Below w.heap.size w W') := fun w => bcanon_ok w hm hb
  have KX : Hid (∀ w : World, Calls Try.prog 9 #[A3 d0 d1 d2, B6 (canonB d0 d1 d2 a)] w fun e W' => e = .returned (.tuple #[B6 (canonB d0 d1 d2 a), I 0]) ∧ Below w.heap.size w W') := fun w => by
    have := bcanon_ok w hm hx
    rwa [canon_canon] at this
  have NA : Hid (Lists 21 #[A3 d0 d1 d2, B6 a] (nodesB d0 d1 d2 a) 0) := fun w => (bnodes_ok w hm ha).mono fun _ _ ⟨v, h1, h2, h3⟩ => ⟨v, h1, h2.weak (Nat.zero_le _), h3⟩
  have NB : Hid (Lists 21 #[A3 d0 d1 d2, B6 b] (nodesB d0 d1 d2 b) 0) := fun w => (bnodes_ok w hm hb).mono fun _ _ ⟨v, h1, h2, h3⟩ => ⟨v, h1, h2.weak (Nat.zero_le _), h3⟩
  have NX : Hid (Lists 21 #[A3 d0 d1 d2, B6 (canonB d0 d1 d2 a)] (nodesB d0 d1 d2 a) 0) := fun w => by
    rw [(nodes_same hm ha hx).2 (canon_canon d0 d1 d2 a).symm]
    exact (bnodes_ok w hm hx).mono fun _ _ ⟨v, h1, h2, h3⟩ => ⟨v, h1, h2.weak (Nat.zero_le _), h3⟩
  have HS : Hid (decide (nodesB d0 d1 d2 a = nodesB d0 d1 d2 b) = sameBx (canonB d0 d1 d2 a) (canonB d0 d1 d2 b)) := by
    show _ = _
    rw [Bool.eq_iff_iff, decide_eq_true_eq, sameBx_iff]
    exact nodes_same hm ha hb
  have LA : Hid ((nodesB d0 d1 d2 a).length ≤ 4096) := nodesB_len hm a
  generalize nodesB d0 d1 d2 a = L at NA NX HS LA
  generalize nodesB d0 d1 d2 b = M at NB HS
  generalize canonB d0 d1 d2 a = X at KA KX NX HS
  generalize canonB d0 d1 d2 b = Y at KB HS
  clear hx
  unfold sameBx at HS
  generalize hq1 : same3 X.x X.y X.z Y.x Y.y Y.z = q1 at HS
  generalize hq2 : same3 X.a X.b X.c Y.a Y.b Y.c = q2 at HS
  go_enter Try.func7, Try.ntmps7
  go_wp2_with fail
  obtain ⟨W, hW, hs, hB0, b0, b1, b2⟩ := three_start w #[I d0, I d1, I d2] (C6 a) (C6 b) 28 24 24
  rw [hW]
  clear hW
  refine (alive2_calls _).mono ?_
  rintro e w1 ⟨rfl, hT⟩
  obtain ⟨c0, c1, c2, hz⟩ := b0.three hT
  obtain ⟨⟨k0, k1, k2⟩, ⟨k3, k4, k5⟩, hz1⟩ := b1.six hT
  go_wp2_with fail
  refine (KA.out _).mono ?_
  rintro e w2 ⟨rfl, hB⟩
  have hT := then_below hT hB
  clear hB c0 c1 c2 hz k0 k1 k2 k3 k4 k5 hz1
  obtain ⟨c0, c1, c2, hz⟩ := b0.three hT
  obtain ⟨⟨k0, k1, k2⟩, ⟨k3, k4, k5⟩, hz1⟩ := b2.six hT
  go_wp2_with fail
  have b3 := Blk.new w2 24 (C6 X)
  have hT := then_alloc hT (.cells (C6 X) 24)
  generalize w2.alloc (.cells (C6 X) 24) = W2 at *
  refine (KB.out _).mono ?_
  rintro e w3 ⟨rfl, hB⟩
  have b3 := b3.later hB
  have hT := then_below hT hB
  clear hB c0 c1 c2 hz k0 k1 k2 k3 k4 k5 hz1
  obtain ⟨c0, c1, c2, hz⟩ := b0.three hT
  obtain ⟨⟨k0, k1, k2⟩, ⟨k3, k4, k5⟩, hz1⟩ := b1.six hT
  go_wp2_with fail
  have b4 := Blk.new w3 24 (C6 Y)
  have b3 := b3.alloc (.cells (C6 Y) 24)
  have hT := then_alloc hT (.cells (C6 Y) 24)
  generalize w3.alloc (.cells (C6 Y) 24) = W3 at *
  refine (NA.out _).mono ?_
  rintro e w4 ⟨l, rfl, hl, hB⟩
  have b3 := b3.later hB
  have b4 := b4.later hB
  have hT := then_below hT hB
  clear hB c0 c1 c2 hz k0 k1 k2 k3 k4 k5 hz1
  obtain ⟨c0, c1, c2, hz⟩ := b0.three hT
  obtain ⟨⟨k0, k1, k2⟩, ⟨k3, k4, k5⟩, hz1⟩ := b2.six hT
  go_wp2_with fail
  refine (NB.out _).mono ?_
  rintro e w5 ⟨m, rfl, hm5, hB⟩
  have b3 := b3.later hB
  have b4 := b4.later hB
  have hl := hl.later hB
  have hT := then_below hT hB
  clear hB c0 c1 c2 hz k0 k1 k2 k3 k4 k5 hz1
  obtain ⟨c0, c1, c2, hz⟩ := b0.three hT
  obtain ⟨⟨k0, k1, k2⟩, ⟨k3, k4, k5⟩, hz1⟩ := b3.six (Below.refl _ _)
  go_wp2_with fail
  refine (NX.out _).mono ?_
  rintro e w6 ⟨k, rfl, hk6, hB⟩
  have b3 := b3.later hB
  have b4 := b4.later hB
  have hl := hl.later hB
  have hm5 := hm5.later hB
  have hT := then_below hT hB
  clear hB c0 c1 c2 hz k0 k1 k2 k3 k4 k5 hz1
  obtain ⟨c0, c1, c2, hz⟩ := b0.three hT
  obtain ⟨⟨k0, k1, k2⟩, ⟨k3, k4, k5⟩, hz1⟩ := b3.six (Below.refl _ _)
  go_wp2_with fail
  refine (KX.out _).mono ?_
  rintro e w7 ⟨rfl, hB⟩
  have b3 := b3.later hB
  have b4 := b4.later hB
  have hl := hl.later hB
  have hm5 := hm5.later hB
  have hk6 := hk6.later hB
  have hT := then_below hT hB
  clear hB c0 c1 c2 hz k0 k1 k2 k3 k4 k5 hz1
  go_wp2_with fail
  have b5 := Blk.new w7 24 (C6 X)
  have b3 := b3.alloc (.cells (C6 X) 24)
  have b4 := b4.alloc (.cells (C6 X) 24)
  have hA : Below w7.heap.size w7 (w7.alloc (.cells (C6 X) 24)) := (Below.refl _ _).alloc (Nat.le_refl _) _
  have hl := hl.later hA
  have hm5 := hm5.later hA
  have hk6 := hk6.later hA
  have hT := then_below hT hA
  clear hA
  generalize w7.alloc (.cells (C6 X) 24) = W7 at *
  have KI : Hid (∀ x : Ext W7, Calls Try.prog 24 #[l, m] x.wd fun e W' => e = .returned (.bool (q1 && q2)) ∧ Below x.wd.heap.size x.wd W') := fun x => by
    have := ints_calls x.wd (hl.later x.le) (hm5.later x.le) LA.out
    rwa [HS.out] at this
  have KJ : Hid (∀ x : Ext W7, Calls Try.prog 24 #[l, k] x.wd fun e W' => e = .returned (.bool true) ∧ Below x.wd.heap.size x.wd W') := fun x => by
    have := ints_calls x.wd (hl.later x.le) (hk6.later x.le) LA.out
    simpa using this
  clear hl hm5 hk6 HS
  have r0 := Ext.cell b3 0
  have r1 := Ext.cell b3 1
  have r2 := Ext.cell b3 2
  have r3 := Ext.cell b3 3
  have r4 := Ext.cell b3 4
  have r5 := Ext.cell b3 5
  have s0 := Ext.cell b4 0
  have s1 := Ext.cell b4 1
  have s2 := Ext.cell b4 2
  have s3 := Ext.cell b4 3
  have s4 := Ext.cell b4 4
  have s5 := Ext.cell b4 5
  have t0 := Ext.cell b5 0
  have t1 := Ext.cell b5 1
  have t2 := Ext.cell b5 2
  have t3 := Ext.cell b5 3
  have t4 := Ext.cell b5 4
  have t5 := Ext.cell b5 5
  simp at r0 r1 r2 r3 r4 r5 s0 s1 s2 s3 s4 s5 t0 t1 t2 t3 t4 t5
  cases q1
  all_goals cases q2
  all_goals
    refine wp_region_look hmx (by kernel_rfl) ?_
    iterate 18 (go_big_quiet_step ((go_at_call 24; exact calls_ext (KI.out _))))
    repeat (go_big_quiet_step ((go_at_call 24; exact calls_ext (KJ.out _))))
    refine wpQuiet_nil ?_
    intro v
    go_wp2
    go_ret
    exact ⟨rfl, then_below hB0 (then_below hT v.le)⟩

theorem boxCanon_walk (d0 d1 d2 : Int) (a b : Bx) (w : World) :
    Calls Try.prog 7 #[A3 d0 d1 d2, B6 a, B6 b] w fun e W' => e = .returned (.bool true) ∧ Below w.heap.size w W' := by
  by_cases h : mayD d0 d1 d2 ∧ mayB d0 d1 d2 a
  · by_cases hb : mayB d0 d1 d2 b
    · exact boxCanon_ok w h.1 h.2 hb
    · exact boxCanon_second w h.1 h.2 (errB_ne fun k => hb k.2)
  · exact boxCanon_first b w (errB_ne h)

end Go.Proofs.Ythakcjpipcmogaa
