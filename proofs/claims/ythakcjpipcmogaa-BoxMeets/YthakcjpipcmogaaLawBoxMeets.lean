/-
  tidehalllaw02.BoxMeets returns true, whatever it is handed; nothing that lay before is turned.
-/
import Derived.Test.YthakcjpipcmogaaLawBox
import Derived.Test.YthakcjpipcmogaaLawBoxTells
namespace Go.Proofs.Ythakcjpipcmogaa
open Go.RowKit Go.Shelf

attribute [local go_sem] Oper.semAt_some ext_const eq_arr eq_arr9 same3_self

theorem flat0 {d0 d1 d2 : Int} {a b : Bx} (w : World) (hm : mayD d0 d1 d2) (ha : mayB d0 d1 d2 a) (hb : mayB d0 d1 d2 b) :
    Calls Try.prog 11 #[A3 d0 1 1, B6 ⟨a.x, 0, 0, a.a, 1, 1⟩, B6 ⟨b.x, 0, 0, b.a, 1, 1⟩] w fun e W' => e = .returned (.tuple #[.bool (meetS d0 a.x a.a b.x b.a), I 0]) ∧ Below w.heap.size w W' := by
  have h1 : mayS 1 0 1 := by unfold mayS; omega
  have ho : okD 1 := by unfold okD; omega
  have ht : meetS 1 0 1 0 1 = true := by decide
  have := bmeet_ok (a := ⟨a.x, 0, 0, a.a, 1, 1⟩) (b := ⟨b.x, 0, 0, b.a, 1, 1⟩) w (d0 := d0) (d1 := 1) (d2 := 1) (by refine ⟨?_, ?_, ?_⟩ <;> first | exact ho | exact hm.1) (by refine ⟨?_, ?_, ?_⟩ <;> first | exact h1 | exact ha.1) (by refine ⟨?_, ?_, ?_⟩ <;> first | exact h1 | exact hb.1)
  simpa only [meetB, ht, Bool.and_true, Bool.true_and] using this
theorem flat1 {d0 d1 d2 : Int} {a b : Bx} (w : World) (hm : mayD d0 d1 d2) (ha : mayB d0 d1 d2 a) (hb : mayB d0 d1 d2 b) :
    Calls Try.prog 11 #[A3 1 d1 1, B6 ⟨0, a.y, 0, 1, a.b, 1⟩, B6 ⟨0, b.y, 0, 1, b.b, 1⟩] w fun e W' => e = .returned (.tuple #[.bool (meetS d1 a.y a.b b.y b.b), I 0]) ∧ Below w.heap.size w W' := by
  have h1 : mayS 1 0 1 := by unfold mayS; omega
  have ho : okD 1 := by unfold okD; omega
  have ht : meetS 1 0 1 0 1 = true := by decide
  have := bmeet_ok (a := ⟨0, a.y, 0, 1, a.b, 1⟩) (b := ⟨0, b.y, 0, 1, b.b, 1⟩) w (d0 := 1) (d1 := d1) (d2 := 1) (by refine ⟨?_, ?_, ?_⟩ <;> first | exact ho | exact hm.2.1) (by refine ⟨?_, ?_, ?_⟩ <;> first | exact h1 | exact ha.2.1) (by refine ⟨?_, ?_, ?_⟩ <;> first | exact h1 | exact hb.2.1)
  simpa only [meetB, ht, Bool.and_true, Bool.true_and] using this
theorem flat2 {d0 d1 d2 : Int} {a b : Bx} (w : World) (hm : mayD d0 d1 d2) (ha : mayB d0 d1 d2 a) (hb : mayB d0 d1 d2 b) :
    Calls Try.prog 11 #[A3 1 1 d2, B6 ⟨0, 0, a.z, 1, 1, a.c⟩, B6 ⟨0, 0, b.z, 1, 1, b.c⟩] w fun e W' => e = .returned (.tuple #[.bool (meetS d2 a.z a.c b.z b.c), I 0]) ∧ Below w.heap.size w W' := by
  have h1 : mayS 1 0 1 := by unfold mayS; omega
  have ho : okD 1 := by unfold okD; omega
  have ht : meetS 1 0 1 0 1 = true := by decide
  have := bmeet_ok (a := ⟨0, 0, a.z, 1, 1, a.c⟩) (b := ⟨0, 0, b.z, 1, 1, b.c⟩) w (d0 := 1) (d1 := 1) (d2 := d2) (by refine ⟨?_, ?_, ?_⟩ <;> first | exact ho | exact hm.2.2) (by refine ⟨?_, ?_, ?_⟩ <;> first | exact h1 | exact ha.2.2) (by refine ⟨?_, ?_, ?_⟩ <;> first | exact h1 | exact hb.2.2)
  simpa only [meetB, ht, Bool.and_true, Bool.true_and] using this

set_option maxRecDepth 100000 in
set_option maxHeartbeats 2000000 in
theorem boxMeets_err1 {d0 d1 d2 : Int} {a b : Bx} (w : World) (he : (errB2 d0 d1 d2 a b != 0) = true) (hr : (errB2 d0 d1 d2 b a != 0) = true) (ha : (errB d0 d1 d2 a != 0) = true) :
    Calls Try.prog 8 #[A3 d0 d1 d2, B6 a, B6 b] w fun e W' => e = .returned (.bool true) ∧ Below w.heap.size w W' := by
  have KA : Hid (∀ w : World, Calls Try.prog 11 #[A3 d0 d1 d2, B6 a, B6 b] w fun e W' => e = .returned (.tuple #[.bool false, I (errB2 d0 d1 d2 a b)]) ∧ Below w.heap.size w W') := fun w => bmeet_err w he
  have KB : Hid (∀ w : World, Calls Try.prog 11 #[A3 d0 d1 d2, B6 b, B6 a] w fun e W' => e = .returned (.tuple #[.bool false, I (errB2 d0 d1 d2 b a)]) ∧ Below w.heap.size w W') := fun w => bmeet_err w hr
  go_enter Try.func8, Try.ntmps8
  go_wp2_with fail
  obtain ⟨W, hW, hs, hB0, b0, b1, b2⟩ := three_start w #[I d0, I d1, I d2] (C6 a) (C6 b) 28 24 24
  rw [hW]
  clear hW
  refine (alive2_calls _).mono ?_
  rintro e w1 ⟨rfl, hT⟩
  obtain ⟨c0, c1, c2, hz⟩ := b0.three hT
  obtain ⟨⟨k0, k1, k2⟩, ⟨k3, k4, k5⟩, hz1⟩ := b1.six hT
  obtain ⟨⟨l0, l1, l2⟩, ⟨l3, l4, l5⟩, hz2⟩ := b2.six hT
  go_wp2_with fail
  refine (KA.out _).mono ?_
  rintro e w2 ⟨rfl, hB⟩
  have hT := then_below hT hB
  clear hB c0 c1 c2 hz k0 k1 k2 k3 k4 k5 hz1 l0 l1 l2 l3 l4 l5 hz2
  obtain ⟨c0, c1, c2, hz⟩ := b0.three hT
  obtain ⟨⟨k0, k1, k2⟩, ⟨k3, k4, k5⟩, hz1⟩ := b1.six hT
  obtain ⟨⟨l0, l1, l2⟩, ⟨l3, l4, l5⟩, hz2⟩ := b2.six hT
  go_wp2_with fail
  refine (KB.out _).mono ?_
  rintro e w3 ⟨rfl, hB⟩
  have hT := then_below hT hB
  clear hB c0 c1 c2 hz k0 k1 k2 k3 k4 k5 hz1 l0 l1 l2 l3 l4 l5 hz2
  obtain ⟨c0, c1, c2, hz⟩ := b0.three hT
  obtain ⟨⟨k0, k1, k2⟩, ⟨k3, k4, k5⟩, hz1⟩ := b1.six hT
  go_wp2_with fail
  refine (bcheck_calls d0 d1 d2 a _).mono ?_
  rintro e w4 ⟨rfl, hB⟩
  have hT := then_below hT hB
  clear hB c0 c1 c2 hz k0 k1 k2 k3 k4 k5 hz1
  go_wp2
  go_ret
  exact ⟨rfl, then_below hB0 hT⟩

set_option maxRecDepth 100000 in
set_option maxHeartbeats 2000000 in
theorem boxMeets_err2 {d0 d1 d2 : Int} {a b : Bx} (w : World) (he : (errB2 d0 d1 d2 a b != 0) = true) (hr : (errB2 d0 d1 d2 b a != 0) = true) (ha : errB d0 d1 d2 a = 0) (hb : (errB d0 d1 d2 b != 0) = true) :
    Calls Try.prog 8 #[A3 d0 d1 d2, B6 a, B6 b] w fun e W' => e = .returned (.bool true) ∧ Below w.heap.size w W' := by
  have KA : Hid (∀ w : World, Calls Try.prog 11 #[A3 d0 d1 d2, B6 a, B6 b] w fun e W' => e = .returned (.tuple #[.bool false, I (errB2 d0 d1 d2 a b)]) ∧ Below w.heap.size w W') := fun w => bmeet_err w he
  have KB : Hid (∀ w : World, Calls Try.prog 11 #[A3 d0 d1 d2, B6 b, B6 a] w fun e W' => e = .returned (.tuple #[.bool false, I (errB2 d0 d1 d2 b a)]) ∧ Below w.heap.size w W') := fun w => bmeet_err w hr
  have KC : Hid (∀ w : World, Calls Try.prog 15 #[A3 d0 d1 d2, B6 a] w fun e W' => e = .returned (I 0) ∧ Below w.heap.size w W') := fun w => by rw [← ha]; exact bcheck_calls d0 d1 d2 a w
  clear ha
  go_enter Try.func8, Try.ntmps8
  go_wp2_with fail
  obtain ⟨W, hW, hs, hB0, b0, b1, b2⟩ := three_start w #[I d0, I d1, I d2] (C6 a) (C6 b) 28 24 24
  rw [hW]
  clear hW
  refine (alive2_calls _).mono ?_
  rintro e w1 ⟨rfl, hT⟩
  obtain ⟨c0, c1, c2, hz⟩ := b0.three hT
  obtain ⟨⟨k0, k1, k2⟩, ⟨k3, k4, k5⟩, hz1⟩ := b1.six hT
  obtain ⟨⟨l0, l1, l2⟩, ⟨l3, l4, l5⟩, hz2⟩ := b2.six hT
  go_wp2_with fail
  refine (KA.out _).mono ?_
  rintro e w2 ⟨rfl, hB⟩
  have hT := then_below hT hB
  clear hB c0 c1 c2 hz k0 k1 k2 k3 k4 k5 hz1 l0 l1 l2 l3 l4 l5 hz2
  obtain ⟨c0, c1, c2, hz⟩ := b0.three hT
  obtain ⟨⟨k0, k1, k2⟩, ⟨k3, k4, k5⟩, hz1⟩ := b1.six hT
  obtain ⟨⟨l0, l1, l2⟩, ⟨l3, l4, l5⟩, hz2⟩ := b2.six hT
  go_wp2_with fail
  refine (KB.out _).mono ?_
  rintro e w3 ⟨rfl, hB⟩
  have hT := then_below hT hB
  clear hB c0 c1 c2 hz k0 k1 k2 k3 k4 k5 hz1 l0 l1 l2 l3 l4 l5 hz2
  obtain ⟨c0, c1, c2, hz⟩ := b0.three hT
  obtain ⟨⟨k0, k1, k2⟩, ⟨k3, k4, k5⟩, hz1⟩ := b1.six hT
  go_wp2_with fail
  refine (KC.out _).mono ?_
  rintro e w4 ⟨rfl, hB⟩
  have hT := then_below hT hB
  clear hB c0 c1 c2 hz k0 k1 k2 k3 k4 k5 hz1
  obtain ⟨c0, c1, c2, hz⟩ := b0.three hT
  obtain ⟨⟨l0, l1, l2⟩, ⟨l3, l4, l5⟩, hz2⟩ := b2.six hT
  go_wp2_with fail
  refine (bcheck_calls d0 d1 d2 b _).mono ?_
  rintro e w5 ⟨rfl, hB⟩
  have hT := then_below hT hB
  clear hB c0 c1 c2 hz l0 l1 l2 l3 l4 l5 hz2
  go_wp2
  go_ret
  exact ⟨rfl, then_below hB0 hT⟩

set_option maxRecDepth 100000 in
set_option maxHeartbeats 8000000 in
theorem boxMeets_ok {d0 d1 d2 : Int} {a b : Bx} (w : World) (hm : mayD d0 d1 d2) (ha : mayB d0 d1 d2 a) (hb : mayB d0 d1 d2 b) :
    Calls Try.prog 8 #[A3 d0 d1 d2, B6 a, B6 b] w fun e W' => e = .returned (.bool true) ∧ Below w.heap.size w W' := by
  have KA : Hid (∀ w : World, Calls Try.prog 11 #[A3 d0 d1 d2, B6 a, B6 b] w fun e W' => e = .returned (.tuple #[.bool (meetB d0 d1 d2 a b), I 0]) ∧ Below w.heap.size w W') := fun w => bmeet_ok w hm ha hb
  have KB : Hid (∀ w : World, Calls Try.prog 11 #[A3 d0 d1 d2, B6 b, B6 a] w fun e W' => e = .returned (.tuple #[.bool (meetB d0 d1 d2 a b), I 0]) ∧ Below w.heap.size w W') := fun w => by rw [meetB_sym]; exact bmeet_ok w hm hb ha
  have KC : Hid (∀ w : World, Calls Try.prog 13 #[A3 d0 d1 d2, B6 a, B6 b] w fun e W' => e = .returned (.tuple #[.bool (inB d0 d1 d2 a b), I 0]) ∧ Below w.heap.size w W') := fun w => bwithin_ok w hm ha hb
  have KD : Hid (∀ w : World, Calls Try.prog 13 #[A3 d0 d1 d2, B6 b, B6 a] w fun e W' => e = .returned (.tuple #[.bool (inB d0 d1 d2 b a), I 0]) ∧ Below w.heap.size w W') := fun w => bwithin_ok w hm hb ha
  have KE : Hid (∀ w : World, Calls Try.prog 17 #[A3 d0 d1 d2, B6 a] w fun e W' => e = .returned (.tuple #[I (manyB a), I 0]) ∧ Below w.heap.size w W') := fun w => bMany_ok w hm ha
  have KF : Hid (∀ w : World, Calls Try.prog 17 #[A3 d0 d1 d2, B6 b] w fun e W' => e = .returned (.tuple #[I (manyB b), I 0]) ∧ Below w.heap.size w W') := fun w => bMany_ok w hm hb
  have KG : Hid (∀ w : World, Calls Try.prog 9 #[A3 d0 d1 d2, B6 a] w fun e W' => e = .returned (.tuple #[B6 (canonB d0 d1 d2 a), I 0]) ∧ Below w.heap.size w W') := fun w => bcanon_ok w hm ha
  have KH : Hid (∀ w : World, Calls Try.prog 9 #[A3 d0 d1 d2, B6 b] w fun e W' => e = .returned (.tuple #[B6 (canonB d0 d1 d2 b), I 0]) ∧ Below w.heap.size w W') := fun w => bcanon_ok w hm hb
  have L0 : Hid (∀ w : World, Calls Try.prog 11 #[A3 d0 1 1, B6 ⟨a.x, 0, 0, a.a, 1, 1⟩, B6 ⟨b.x, 0, 0, b.a, 1, 1⟩] w fun e W' => e = .returned (.tuple #[.bool (meetS d0 a.x a.a b.x b.a), I 0]) ∧ Below w.heap.size w W') := fun w => flat0 w hm ha hb
  have L1 : Hid (∀ w : World, Calls Try.prog 11 #[A3 1 d1 1, B6 ⟨0, a.y, 0, 1, a.b, 1⟩, B6 ⟨0, b.y, 0, 1, b.b, 1⟩] w fun e W' => e = .returned (.tuple #[.bool (meetS d1 a.y a.b b.y b.b), I 0]) ∧ Below w.heap.size w W') := fun w => flat1 w hm ha hb
  have L2 : Hid (∀ w : World, Calls Try.prog 11 #[A3 1 1 d2, B6 ⟨0, 0, a.z, 1, 1, a.c⟩, B6 ⟨0, 0, b.z, 1, 1, b.c⟩] w fun e W' => e = .returned (.tuple #[.bool (meetS d2 a.z a.c b.z b.c), I 0]) ∧ Below w.heap.size w W') := fun w => flat2 w hm ha hb
  have HX : Hid ((meetS d0 a.x a.a b.x b.a && meetS d1 a.y a.b b.y b.b && meetS d2 a.z a.c b.z b.c) = meetB d0 d1 d2 a b) := (rfl : _ = _)
  have HI : Hid (inB d0 d1 d2 a b = true → meetB d0 d1 d2 a b = true ∧ manyB a ≤ manyB b) := fun h => ⟨inB_meetB ha hb h, inB_many ha hb h⟩
  have HS : Hid (sameBx (canonB d0 d1 d2 a) (canonB d0 d1 d2 b) = (inB d0 d1 d2 a b && inB d0 d1 d2 b a)) := by
    show _ = _
    rw [Bool.eq_iff_iff, sameBx_iff, Bool.and_eq_true]
    exact (same_canon ha hb).symm
  generalize meetB d0 d1 d2 a b = x at KA KB HX HI
  generalize inB d0 d1 d2 a b = p at KC HI HS
  generalize inB d0 d1 d2 b a = q at KD HS
  generalize manyB a = n at KE HI
  generalize manyB b = m at KF HI
  generalize canonB d0 d1 d2 a = P at KG HS
  generalize canonB d0 d1 d2 b = Q at KH HS
  generalize meetS d0 a.x a.a b.x b.a = m0 at L0 HX
  generalize meetS d1 a.y a.b b.y b.b = m1 at L1 HX
  generalize meetS d2 a.z a.c b.z b.c = m2 at L2 HX
  go_enter Try.func8, Try.ntmps8
  go_wp2_with fail
  obtain ⟨W, hW, hs, hB0, b0, b1, b2⟩ := three_start w #[I d0, I d1, I d2] (C6 a) (C6 b) 28 24 24
  rw [hW]
  clear hW
  refine (alive2_calls _).mono ?_
  rintro e w1 ⟨rfl, hT⟩
  obtain ⟨c0, c1, c2, hz⟩ := b0.three hT
  obtain ⟨⟨k0, k1, k2⟩, ⟨k3, k4, k5⟩, hz1⟩ := b1.six hT
  obtain ⟨⟨l0, l1, l2⟩, ⟨l3, l4, l5⟩, hz2⟩ := b2.six hT
  go_wp2_with fail
  refine (KA.out _).mono ?_
  rintro e w2 ⟨rfl, hB⟩
  have hT := then_below hT hB
  clear hB c0 c1 c2 hz k0 k1 k2 k3 k4 k5 hz1 l0 l1 l2 l3 l4 l5 hz2
  obtain ⟨c0, c1, c2, hz⟩ := b0.three hT
  obtain ⟨⟨k0, k1, k2⟩, ⟨k3, k4, k5⟩, hz1⟩ := b1.six hT
  obtain ⟨⟨l0, l1, l2⟩, ⟨l3, l4, l5⟩, hz2⟩ := b2.six hT
  go_wp2_with fail
  refine (KB.out _).mono ?_
  rintro e w3 ⟨rfl, hB⟩
  have hT := then_below hT hB
  clear hB c0 c1 c2 hz k0 k1 k2 k3 k4 k5 hz1 l0 l1 l2 l3 l4 l5 hz2
  obtain ⟨c0, c1, c2, hz⟩ := b0.three hT
  obtain ⟨⟨k0, k1, k2⟩, ⟨k3, k4, k5⟩, hz1⟩ := b1.six hT
  obtain ⟨⟨l0, l1, l2⟩, ⟨l3, l4, l5⟩, hz2⟩ := b2.six hT
  go_wp2_with fail
  refine (KC.out _).mono ?_
  rintro e w4 ⟨rfl, hB⟩
  have hT := then_below hT hB
  clear hB c0 c1 c2 hz k0 k1 k2 k3 k4 k5 hz1 l0 l1 l2 l3 l4 l5 hz2
  obtain ⟨c0, c1, c2, hz⟩ := b0.three hT
  obtain ⟨⟨k0, k1, k2⟩, ⟨k3, k4, k5⟩, hz1⟩ := b1.six hT
  obtain ⟨⟨l0, l1, l2⟩, ⟨l3, l4, l5⟩, hz2⟩ := b2.six hT
  go_wp2_with fail
  refine (KD.out _).mono ?_
  rintro e w5 ⟨rfl, hB⟩
  have hT := then_below hT hB
  clear hB c0 c1 c2 hz k0 k1 k2 k3 k4 k5 hz1 l0 l1 l2 l3 l4 l5 hz2
  obtain ⟨c0, c1, c2, hz⟩ := b0.three hT
  obtain ⟨⟨k0, k1, k2⟩, ⟨k3, k4, k5⟩, hz1⟩ := b1.six hT
  go_wp2_with fail
  refine (KE.out _).mono ?_
  rintro e w6 ⟨rfl, hB⟩
  have hT := then_below hT hB
  clear hB c0 c1 c2 hz k0 k1 k2 k3 k4 k5 hz1
  obtain ⟨c0, c1, c2, hz⟩ := b0.three hT
  obtain ⟨⟨l0, l1, l2⟩, ⟨l3, l4, l5⟩, hz2⟩ := b2.six hT
  go_wp2_with fail
  refine (KF.out _).mono ?_
  rintro e w7 ⟨rfl, hB⟩
  have hT := then_below hT hB
  clear hB c0 c1 c2 hz l0 l1 l2 l3 l4 l5 hz2
  obtain ⟨c0, c1, c2, hz⟩ := b0.three hT
  obtain ⟨⟨k0, k1, k2⟩, ⟨k3, k4, k5⟩, hz1⟩ := b1.six hT
  go_wp2_with fail
  refine (KG.out _).mono ?_
  rintro e w8 ⟨rfl, hB⟩
  have hT := then_below hT hB
  clear hB c0 c1 c2 hz k0 k1 k2 k3 k4 k5 hz1
  obtain ⟨c0, c1, c2, hz⟩ := b0.three hT
  obtain ⟨⟨l0, l1, l2⟩, ⟨l3, l4, l5⟩, hz2⟩ := b2.six hT
  go_wp2_with fail
  have b3 := Blk.new w8 24 (C6 P)
  have hT := then_alloc hT (.cells (C6 P) 24)
  generalize w8.alloc (.cells (C6 P) 24) = W8 at *
  refine (KH.out _).mono ?_
  rintro e w9 ⟨rfl, hB⟩
  have b3 := b3.later hB
  have hT := then_below hT hB
  clear hB c0 c1 c2 hz l0 l1 l2 l3 l4 l5 hz2
  go_wp2_with fail
  have b4 := Blk.new w9 24 (C6 Q)
  have b3 := b3.alloc (.cells (C6 Q) 24)
  have hT := then_alloc hT (.cells (C6 Q) 24)
  generalize w9.alloc (.cells (C6 Q) 24) = W9 at *
  have b0 := b0.later hT
  have b1 := b1.later hT
  have b2 := b2.later hT
  have hB0 := then_below hB0 hT
  clear hT
  go_loopw [24, 25] (fun t i wr => ((i = .int .i64 0 ∧ t = .bool true) ∨ (i = .int .i64 1 ∧ t = .bool m0) ∨ (i = .int .i64 2 ∧ t = .bool (m0 && m1)) ∨ (i = .int .i64 3 ∧ t = .bool (m0 && m1 && m2))) ∧ Below W9.heap.size W9 wr) (fun _ i _ => 3 - (intOf i).toNat)
  case atStart => exact ⟨.inl ⟨rfl, rfl⟩, Below.refl _ _⟩
  case round =>
    obtain ⟨hi, hT⟩ := hrel
    rcases hi with ⟨rfl, rfl⟩ | ⟨rfl, rfl⟩ | ⟨rfl, rfl⟩ | ⟨rfl, rfl⟩
    · obtain ⟨c0, c1, c2, hz⟩ := b0.three hT
      obtain ⟨⟨k0, k1, k2⟩, ⟨k3, k4, k5⟩, hz1⟩ := b1.six hT
      obtain ⟨⟨l0, l1, l2⟩, ⟨l3, l4, l5⟩, hz2⟩ := b2.six hT
      go_wp2_with fail
      refine (L0.out _).mono ?_
      rintro e w10 ⟨rfl, hB⟩
      have hT := then_below (then_alloc (then_alloc (then_alloc hT _) _) _) hB
      clear hB c0 c1 c2 hz k0 k1 k2 k3 k4 k5 hz1 l0 l1 l2 l3 l4 l5 hz2
      go_wp2
      go_roundw
      case rel => exact ⟨.inr (.inl ⟨rfl, rfl⟩), hT⟩
      case measure => simp [intOf]
    · obtain ⟨c0, c1, c2, hz⟩ := b0.three hT
      obtain ⟨⟨k0, k1, k2⟩, ⟨k3, k4, k5⟩, hz1⟩ := b1.six hT
      obtain ⟨⟨l0, l1, l2⟩, ⟨l3, l4, l5⟩, hz2⟩ := b2.six hT
      go_wp2_with fail
      refine (L1.out _).mono ?_
      rintro e w10 ⟨rfl, hB⟩
      have hT := then_below (then_alloc (then_alloc (then_alloc hT _) _) _) hB
      clear hB c0 c1 c2 hz k0 k1 k2 k3 k4 k5 hz1 l0 l1 l2 l3 l4 l5 hz2
      cases hv : m0
      · go_wp2
        go_roundw
        case rel => exact ⟨.inr (.inr (.inl ⟨rfl, by simp [hv]⟩)), hT⟩
        case measure => simp [intOf]
      · go_wp2
        go_roundw
        case rel => exact ⟨.inr (.inr (.inl ⟨rfl, by simp [hv]⟩)), hT⟩
        case measure => simp [intOf]
    · obtain ⟨c0, c1, c2, hz⟩ := b0.three hT
      obtain ⟨⟨k0, k1, k2⟩, ⟨k3, k4, k5⟩, hz1⟩ := b1.six hT
      obtain ⟨⟨l0, l1, l2⟩, ⟨l3, l4, l5⟩, hz2⟩ := b2.six hT
      go_wp2_with fail
      refine (L2.out _).mono ?_
      rintro e w10 ⟨rfl, hB⟩
      have hT := then_below (then_alloc (then_alloc (then_alloc hT _) _) _) hB
      clear hB c0 c1 c2 hz k0 k1 k2 k3 k4 k5 hz1 l0 l1 l2 l3 l4 l5 hz2
      cases hv : m0 && m1
      · go_wp2
        go_roundw
        case rel => exact ⟨.inr (.inr (.inr ⟨rfl, by simp [hv]⟩)), hT⟩
        case measure => simp [intOf]
      · go_wp2
        go_roundw
        case rel => exact ⟨.inr (.inr (.inr ⟨rfl, by simp [hv]⟩)), hT⟩
        case measure => simp [intOf]
    · rw [HX.out]
      obtain ⟨⟨c0, c1, c2, c3, c4, c5⟩, _⟩ := (b3.later hT).row6
      obtain ⟨⟨k0, k1, k2, k3, k4, k5⟩, _⟩ := (b4.later hT).row6
      have HS' := HS.out
      unfold sameBx at HS'
      generalize hq1 : same3 P.x P.y P.z Q.x Q.y Q.z = q1 at HS'
      generalize hq2 : same3 P.a P.b P.c Q.a Q.b Q.c = q2 at HS'
      have HQ : Hid ((q1 && q2) = (p && q)) := HS'
      have HP : Hid (p = true → x = true ∧ n ≤ m) := HI.out
      clear HS' HS HI
      cases p
      · cases q1
        · go_wp2
          go_ret
          exact ⟨by simp, then_below hB0 hT⟩
        · cases q2
          · go_wp2
            go_ret
            exact ⟨by simp, then_below hB0 hT⟩
          · exact absurd HQ.out (by simp)
      · obtain ⟨hx, hn⟩ := HP.out rfl
        subst hx
        cases q1
        · have E : q = false := by have := HQ.out; simpa using this.symm
          subst E
          go_wp2
          go_ret
          exact ⟨by simp, then_below hB0 hT⟩
        · have E : q2 = q := by have := HQ.out; simpa using this
          subst E
          cases q2
          · go_wp2
            go_ret
            exact ⟨by simp, then_below hB0 hT⟩
          · go_wp2
            go_ret
            exact ⟨by simp, then_below hB0 hT⟩

theorem boxMeets_walk (d0 d1 d2 : Int) (a b : Bx) (w : World) :
    Calls Try.prog 8 #[A3 d0 d1 d2, B6 a, B6 b] w fun e W' => e = .returned (.bool true) ∧ Below w.heap.size w W' := by
  by_cases h : mayD d0 d1 d2 ∧ mayB d0 d1 d2 a ∧ mayB d0 d1 d2 b
  · exact boxMeets_ok w h.1 h.2.1 h.2.2
  · have h' : ¬ (mayD d0 d1 d2 ∧ mayB d0 d1 d2 b ∧ mayB d0 d1 d2 a) := fun k => h ⟨k.1, k.2.2, k.2.1⟩
    by_cases ha : mayD d0 d1 d2 ∧ mayB d0 d1 d2 a
    · exact boxMeets_err2 w (errB2_ne h) (errB2_ne h') (errB_ok ha.1 ha.2) (errB_ne fun k => h ⟨ha.1, ha.2, k.2⟩)
    · exact boxMeets_err1 w (errB2_ne h) (errB2_ne h') (errB_ne ha)

end Go.Proofs.Ythakcjpipcmogaa
