/-
  WhenTells: the walk. (Written by tools/gen/when_tells.py.)
-/
import Derived.Test.YtkbdkhohecdbhaaPart28
import Derived.Test.YtkbdkhohecdbhaaPart29
namespace Go.Proofs.Ytkbdkhohecdbhaa
open Go Go.RowKit Go.Shelf

attribute [local go_sem] Oper.semAt_some ext_const

theorem timeV_len {a b c x : Int} {ns ls : List (List Slt)} (h : (slotsY ns ls).length ≤ 10000) : (timeV a b c ns ls x).length ≤ 100000 := by
  unfold timeV
  split
  · have := times_len x (slotsY ns ls); omega
  · simp
theorem endV_len {a b c x : Int} {ns ls : List (List Slt)} (h : (slotsY ns ls).length ≤ 10000) : (endV a b c ns ls x).length ≤ 100000 := by
  unfold endV
  split
  · have := ends_len x (slotsY ns ls); omega
  · simp

set_option maxRecDepth 100000 in
set_option maxHeartbeats 32000000 in
theorem whenTells_walk (a b c x ow : Int) (w : World) {n l : Value} {ns ls : List (List Slt)} (hN : Yl w n ns) (hL : Yl w l ls) (bN : Lids ns) (bL : Lids ls) :
    Calls Try.prog 4 #[Y5 a b c n l, I x, I ow] w fun e W' => e = .returned (.bool true) ∧ Below w.heap.size w W' := by
  obtain ⟨W, hW, hB, hK⟩ := one_start w (K5 a b c n l) 26
  have HW : Hid (w.alloc (.cells (K5 a b c n l) 26) = W) := hW
  have hT0 := Below.refl W.heap.size W
  have HG : Hid (∀ w1, Below W.heap.size W w1 → Calls Try.prog 13 #[Y5 a b c n l] w1 fun e W' => e = .returned (.bool (greatB ns ls)) ∧ Below w1.heap.size w1 W') := fun w1 hb => great_calls w1 (hN.later (then_below hB hb)) (hL.later (then_below hB hb)) bN bL
  have HTw : Hid (Small ns ls → ∀ w1, Below W.heap.size W w1 → Calls Try.prog 14 #[Y5 a b c n l] w1 fun e W' => ∃ u v, e = .returned (Y5 a b c u v) ∧ Yo W' w1.heap.size u ns ∧ Yo W' w1.heap.size v ls ∧ Below w1.heap.size w1 W') := fun h w1 hb => twin_calls w1 (hN.later (then_below hB hb)) (hL.later (then_below hB hb)) h
  have HT1 : Hid ((slotsY ns ls).length ≤ 10000 → ∀ w1 u v, Yl w1 u ns → Yl w1 v ls → Calls Try.prog 10 #[Y5 a b c u v, I x] w1 fun e W' => ∃ r, e = .returned (.tuple #[r, I (timeE a b c ns ls x)]) ∧ Lst W' w1.heap.size r (timeV a b c ns ls x) ∧ Below w1.heap.size w1 W') := fun h w1 u v h1 h2 => wtimes_calls w1 h1 h2 (by omega)
  have HT2 : Hid (Small ns ls → (slotsY ns ls).length ≤ 10000 → ∀ w1, Below W.heap.size W w1 → Calls Try.prog 15 #[Y5 a b c n l, I x] w1 fun e W' => ∃ r, e = .returned (.tuple #[r, I (timeE a b c ns ls x)]) ∧ Lst W' w1.heap.size r (timeV a b c ns ls x) ∧ Below w1.heap.size w1 W') := fun h h' w1 hb => rtimes_calls w1 (hN.later (then_below hB hb)) (hL.later (then_below hB hb)) h (by omega)
  have HE1 : Hid ((slotsY ns ls).length ≤ 10000 → ∀ w1 u v, Yl w1 u ns → Yl w1 v ls → Calls Try.prog 8 #[Y5 a b c u v, I ow] w1 fun e W' => ∃ r, e = .returned (.tuple #[r, I (errY a b c ns ls)]) ∧ Lst W' w1.heap.size r (endV a b c ns ls ow) ∧ Below w1.heap.size w1 W') := fun h w1 u v h1 h2 => wends_calls w1 h1 h2 (by omega)
  have HE2 : Hid (Small ns ls → (slotsY ns ls).length ≤ 10000 → ∀ w1, Below W.heap.size W w1 → Calls Try.prog 16 #[Y5 a b c n l, I ow] w1 fun e W' => ∃ r, e = .returned (.tuple #[r, I (errY a b c ns ls)]) ∧ Lst W' w1.heap.size r (endV a b c ns ls ow) ∧ Below w1.heap.size w1 W') := fun h h' w1 hb => rends_calls w1 (hN.later (then_below hB hb)) (hL.later (then_below hB hb)) h (by omega)
  have HL1 : Hid (∀ w1 u v, Yl w1 u ns → Yl w1 v ls → Calls Try.prog 9 #[Y5 a b c u v] w1 fun e W' => e = .returned (.tuple #[I (lastV a b c ns ls), I (errY a b c ns ls)]) ∧ Below w1.heap.size w1 W') := fun w1 u v h1 h2 => wlast_calls w1 h1 h2
  have HL2 : Hid (Small ns ls → (slotsY ns ls).length ≤ 10000 → ∀ w1, Below W.heap.size W w1 → Calls Try.prog 17 #[Y5 a b c n l] w1 fun e W' => e = .returned (.tuple #[I (lastV a b c ns ls), I (errY a b c ns ls)]) ∧ Below w1.heap.size w1 W') := fun h h' w1 hb => rlast_calls w1 (hN.later (then_below hB hb)) (hL.later (then_below hB hb)) h (by omega)
  have HSm2 : Hid (Small ns ls → ∀ w1 u v, Below W.heap.size W w1 → Yl w1 u ns → Yl w1 v ls → Calls Try.prog 18 #[Y5 a b c u v, Y5 a b c n l] w1 fun e W' => e = .returned (.bool true) ∧ Below w1.heap.size w1 W') := fun h w1 u v hb h1 h2 => by
    have := rSameY_calls (a := a) (b := b) (c := c) (a' := a) (b' := b) (c' := c) w1 h1 h2 (hN.later (then_below hB hb)) (hL.later (then_below hB hb)) (by have := h.nodes; omega) (by have := h.links; omega) (fun k => by have := h.node k; omega) (fun k => by have := h.link k; omega)
    rwa [eqY_self] at this
  obtain ⟨an, cn, rfl, _⟩ := hN.form
  obtain ⟨al, cl, rfl, _⟩ := hL.form
  obtain ⟨gr, hgr⟩ : ∃ gr, gr = greatB ns ls := ⟨_, rfl⟩
  rw [← hgr] at HG
  have HSm : Hid (gr = false → Small ns ls) := fun h => small_of bN bL (hgr ▸ h)
  have HSt : Hid (gr = false → (slotsY ns ls).length ≤ 10000) := fun h => slots_small bN bL (hgr ▸ h)
  have HLt : Hid ((slotsY ns ls).length ≤ 10000 → (timeV a b c ns ls x).length ≤ 100000) := fun h => timeV_len h
  have HLe : Hid ((slotsY ns ls).length ≤ 10000 → (endV a b c ns ls ow).length ≤ 100000) := fun h => endV_len h
  clear hW hN hL bN bL hgr
  go_enter Try.func4, Try.ntmps4
  go_wp2_with fail
  rw [HW.out]
  refine (HG.out _ hT0).mono ?_
  rintro e w1 ⟨rfl, hB1⟩
  have hT1 := then_below hT0 hB1
  obtain ⟨p0, p1, p2, p3, p4, hz⟩ := hK.yard hT1
  cases gr
  · have HSM : Hid (Small ns ls) := HSm.out rfl
    have HST : Hid ((slotsY ns ls).length ≤ 10000) := HSt.out rfl
    have HLt := HLt.out HST.out
    have HLe := HLe.out HST.out
    replace HT1 := HT1.out HST.out
    replace HT2 := HT2.out HSM.out HST.out
    replace HE1 := HE1.out HST.out
    replace HE2 := HE2.out HSM.out HST.out
    replace HL2 := HL2.out HSM.out HST.out
    clear HSm HSt HST
    generalize timeV a b c ns ls x = V1 at *
    generalize endV a b c ns ls ow = V2 at *
    generalize lastV a b c ns ls = m at *
    generalize timeE a b c ns ls x = e1 at *
    generalize errY a b c ns ls = e2 at *
    have HT1 : Hid (∀ w1 u v, Yl w1 u ns → Yl w1 v ls → Calls Try.prog 10 #[Y5 a b c u v, I x] w1 fun e W' => ∃ r, e = .returned (.tuple #[r, I e1]) ∧ Lst W' w1.heap.size r V1 ∧ Below w1.heap.size w1 W') := HT1
    have HT2 : Hid (∀ w1, Below W.heap.size W w1 → Calls Try.prog 15 #[Y5 a b c (.slice an ns.length cn) (.slice al ls.length cl), I x] w1 fun e W' => ∃ r, e = .returned (.tuple #[r, I e1]) ∧ Lst W' w1.heap.size r V1 ∧ Below w1.heap.size w1 W') := HT2
    have HE1 : Hid (∀ w1 u v, Yl w1 u ns → Yl w1 v ls → Calls Try.prog 8 #[Y5 a b c u v, I ow] w1 fun e W' => ∃ r, e = .returned (.tuple #[r, I e2]) ∧ Lst W' w1.heap.size r V2 ∧ Below w1.heap.size w1 W') := HE1
    have HE2 : Hid (∀ w1, Below W.heap.size W w1 → Calls Try.prog 16 #[Y5 a b c (.slice an ns.length cn) (.slice al ls.length cl), I ow] w1 fun e W' => ∃ r, e = .returned (.tuple #[r, I e2]) ∧ Lst W' w1.heap.size r V2 ∧ Below w1.heap.size w1 W') := HE2
    have HL2 : Hid (∀ w1, Below W.heap.size W w1 → Calls Try.prog 17 #[Y5 a b c (.slice an ns.length cn) (.slice al ls.length cl)] w1 fun e W' => e = .returned (.tuple #[I m, I e2]) ∧ Below w1.heap.size w1 W') := HL2
    have HLt : Hid (V1.length ≤ 100000) := HLt
    have HLe : Hid (V2.length ≤ 100000) := HLe
    go_wp2_with fail
    refine (HTw.out HSM.out _ hT1).mono ?_
    rintro e w2 ⟨u1, v1, rfl, hu, hv, hB2⟩
    clear p0 p1 p2 p3 p4 hz
    have hT2 := then_below hT1 hB2
    obtain ⟨p0, p1, p2, p3, p4, hz⟩ := hK.yard hT2
    obtain ⟨ao1, n1, c1, rfl⟩ := hu.slice
    obtain ⟨ao2, n2, c2, rfl⟩ := hv.slice
    obtain ⟨XA, hXA, hBA, hA⟩ := one_start w2 (K5 a b c (.slice ao1 n1 c1) (.slice ao2 n2 c2)) 26
    have HXA : Hid (w2.alloc (.cells (K5 a b c (.slice ao1 n1 c1) (.slice ao2 n2 c2)) 26) = XA) := hXA
    have hTA := then_below hT2 hBA
    have hU2 := Below.refl XA.heap.size XA
    clear hXA
    have NU : Hid (Yl XA (.slice ao1 n1 c1) ns) := (hu.later hBA).yl
    have NV : Hid (Yl XA (.slice ao2 n2 c2) ls) := (hv.later hBA).yl
    clear hu hv p0 p1 p2 p3 p4 hz
    go_wp2_with fail
    rw [HXA.out]
    refine (HT1.out _ _ _ NU.out NV.out).mono ?_
    rintro e w3 ⟨r1, rfl, hr, hB3⟩
    have hT3 := then_below hTA hB3
    have hU3 := hB3
    replace NU : Hid (Yl w3 (.slice ao1 n1 c1) ns) := NU.out.later hB3
    replace NV : Hid (Yl w3 (.slice ao2 n2 c2) ls) := NV.out.later hB3
    have R1 : Hid (Lst w3 XA.heap.size r1 V1) := hr
    obtain ⟨p0, p1, p2, p3, p4, hz⟩ := hK.yard hT3
    obtain ⟨a0, a1, a2, a3, a4, hza⟩ := hA.yard hU3
    clear hr
    go_wp2_with fail
    refine (HT2.out _ hT3).mono ?_
    rintro e w4 ⟨r2, rfl, hr, hB4⟩
    clear p0 p1 p2 p3 p4 hz a0 a1 a2 a3 a4 hza
    have hT4 := then_below hT3 hB4
    have hU4 := then_below hU3 hB4
    replace NU : Hid (Yl w4 (.slice ao1 n1 c1) ns) := NU.out.later hB4
    replace NV : Hid (Yl w4 (.slice ao2 n2 c2) ls) := NV.out.later hB4
    replace R1 : Hid (Lst w4 XA.heap.size r1 V1) := R1.out.later hB4
    have R2 : Hid (Lst w4 w3.heap.size r2 V1) := hr
    obtain ⟨p0, p1, p2, p3, p4, hz⟩ := hK.yard hT4
    obtain ⟨a0, a1, a2, a3, a4, hza⟩ := hA.yard hU4
    clear hr
    go_wp2_with fail
    refine (HE1.out _ _ _ NU.out NV.out).mono ?_
    rintro e w5 ⟨r3, rfl, hr, hB5⟩
    clear p0 p1 p2 p3 p4 hz a0 a1 a2 a3 a4 hza
    have hT5 := then_below hT4 hB5
    have hU5 := then_below hU4 hB5
    replace NU : Hid (Yl w5 (.slice ao1 n1 c1) ns) := NU.out.later hB5
    replace NV : Hid (Yl w5 (.slice ao2 n2 c2) ls) := NV.out.later hB5
    replace R1 : Hid (Lst w5 XA.heap.size r1 V1) := R1.out.later hB5
    replace R2 : Hid (Lst w5 w3.heap.size r2 V1) := R2.out.later hB5
    have R3 : Hid (Lst w5 w4.heap.size r3 V2) := hr
    obtain ⟨p0, p1, p2, p3, p4, hz⟩ := hK.yard hT5
    obtain ⟨a0, a1, a2, a3, a4, hza⟩ := hA.yard hU5
    clear hr
    go_wp2_with fail
    refine (HE2.out _ hT5).mono ?_
    rintro e w6 ⟨r4, rfl, hr, hB6⟩
    clear p0 p1 p2 p3 p4 hz a0 a1 a2 a3 a4 hza
    have hT6 := then_below hT5 hB6
    have hU6 := then_below hU5 hB6
    replace NU : Hid (Yl w6 (.slice ao1 n1 c1) ns) := NU.out.later hB6
    replace NV : Hid (Yl w6 (.slice ao2 n2 c2) ls) := NV.out.later hB6
    replace R1 : Hid (Lst w6 XA.heap.size r1 V1) := R1.out.later hB6
    replace R2 : Hid (Lst w6 w3.heap.size r2 V1) := R2.out.later hB6
    replace R3 : Hid (Lst w6 w4.heap.size r3 V2) := R3.out.later hB6
    have R4 : Hid (Lst w6 w5.heap.size r4 V2) := hr
    obtain ⟨p0, p1, p2, p3, p4, hz⟩ := hK.yard hT6
    obtain ⟨a0, a1, a2, a3, a4, hza⟩ := hA.yard hU6
    clear hr
    go_wp2_with fail
    refine (HL1.out _ _ _ NU.out NV.out).mono ?_
    rintro e w7 ⟨rfl, hB7⟩
    clear p0 p1 p2 p3 p4 hz a0 a1 a2 a3 a4 hza
    have hT7 := then_below hT6 hB7
    have hU7 := then_below hU6 hB7
    replace NU : Hid (Yl w7 (.slice ao1 n1 c1) ns) := NU.out.later hB7
    replace NV : Hid (Yl w7 (.slice ao2 n2 c2) ls) := NV.out.later hB7
    replace R1 : Hid (Lst w7 XA.heap.size r1 V1) := R1.out.later hB7
    replace R2 : Hid (Lst w7 w3.heap.size r2 V1) := R2.out.later hB7
    replace R3 : Hid (Lst w7 w4.heap.size r3 V2) := R3.out.later hB7
    replace R4 : Hid (Lst w7 w5.heap.size r4 V2) := R4.out.later hB7
    obtain ⟨p0, p1, p2, p3, p4, hz⟩ := hK.yard hT7
    obtain ⟨a0, a1, a2, a3, a4, hza⟩ := hA.yard hU7
    go_wp2_with fail
    refine (HL2.out _ hT7).mono ?_
    rintro e w8 ⟨rfl, hB8⟩
    clear p0 p1 p2 p3 p4 hz a0 a1 a2 a3 a4 hza
    have hT8 := then_below hT7 hB8
    have hU8 := then_below hU7 hB8
    replace NU : Hid (Yl w8 (.slice ao1 n1 c1) ns) := NU.out.later hB8
    replace NV : Hid (Yl w8 (.slice ao2 n2 c2) ls) := NV.out.later hB8
    replace R1 : Hid (Lst w8 XA.heap.size r1 V1) := R1.out.later hB8
    replace R2 : Hid (Lst w8 w3.heap.size r2 V1) := R2.out.later hB8
    replace R3 : Hid (Lst w8 w4.heap.size r3 V2) := R3.out.later hB8
    replace R4 : Hid (Lst w8 w5.heap.size r4 V2) := R4.out.later hB8
    obtain ⟨p0, p1, p2, p3, p4, hz⟩ := hK.yard hT8
    obtain ⟨a0, a1, a2, a3, a4, hza⟩ := hA.yard hU8
    have RI : Hid (Calls Try.prog 12 #[r1, r2] w8 fun e W' => e = .returned (.bool true) ∧ Below w8.heap.size w8 W') := by
      have := intsL_calls w8 R1.out R2.out HLt.out
      rwa [decide_eq_true rfl] at this
    go_wp2_with fail
    refine (RI.out).mono ?_
    rintro e w9 ⟨rfl, hB9⟩
    clear p0 p1 p2 p3 p4 hz a0 a1 a2 a3 a4 hza
    have hT9 := then_below hT8 hB9
    have hU9 := then_below hU8 hB9
    replace NU : Hid (Yl w9 (.slice ao1 n1 c1) ns) := NU.out.later hB9
    replace NV : Hid (Yl w9 (.slice ao2 n2 c2) ls) := NV.out.later hB9
    replace R1 : Hid (Lst w9 XA.heap.size r1 V1) := R1.out.later hB9
    replace R2 : Hid (Lst w9 w3.heap.size r2 V1) := R2.out.later hB9
    replace R3 : Hid (Lst w9 w4.heap.size r3 V2) := R3.out.later hB9
    replace R4 : Hid (Lst w9 w5.heap.size r4 V2) := R4.out.later hB9
    obtain ⟨p0, p1, p2, p3, p4, hz⟩ := hK.yard hT9
    obtain ⟨a0, a1, a2, a3, a4, hza⟩ := hA.yard hU9
    clear RI
    have RI : Hid (Calls Try.prog 12 #[r3, r4] w9 fun e W' => e = .returned (.bool true) ∧ Below w9.heap.size w9 W') := by
      have := intsL_calls w9 R3.out R4.out HLe.out
      rwa [decide_eq_true rfl] at this
    go_wp2_with fail
    refine (RI.out).mono ?_
    rintro e w10 ⟨rfl, hB10⟩
    clear p0 p1 p2 p3 p4 hz a0 a1 a2 a3 a4 hza
    have hT10 := then_below hT9 hB10
    have hU10 := then_below hU9 hB10
    replace NU : Hid (Yl w10 (.slice ao1 n1 c1) ns) := NU.out.later hB10
    replace NV : Hid (Yl w10 (.slice ao2 n2 c2) ls) := NV.out.later hB10
    replace R1 : Hid (Lst w10 XA.heap.size r1 V1) := R1.out.later hB10
    replace R2 : Hid (Lst w10 w3.heap.size r2 V1) := R2.out.later hB10
    replace R3 : Hid (Lst w10 w4.heap.size r3 V2) := R3.out.later hB10
    replace R4 : Hid (Lst w10 w5.heap.size r4 V2) := R4.out.later hB10
    obtain ⟨p0, p1, p2, p3, p4, hz⟩ := hK.yard hT10
    obtain ⟨a0, a1, a2, a3, a4, hza⟩ := hA.yard hU10
    go_wp2_with fail
    refine (HSm2.out HSM.out _ _ _ hT10 NU.out NV.out).mono ?_
    rintro e w11 ⟨rfl, hB11⟩
    clear p0 p1 p2 p3 p4 hz a0 a1 a2 a3 a4 hza
    have hT11 := then_below hT10 hB11
    have hU11 := then_below hU10 hB11
    replace NU : Hid (Yl w11 (.slice ao1 n1 c1) ns) := NU.out.later hB11
    replace NV : Hid (Yl w11 (.slice ao2 n2 c2) ls) := NV.out.later hB11
    replace R1 : Hid (Lst w11 XA.heap.size r1 V1) := R1.out.later hB11
    replace R2 : Hid (Lst w11 w3.heap.size r2 V1) := R2.out.later hB11
    replace R3 : Hid (Lst w11 w4.heap.size r3 V2) := R3.out.later hB11
    replace R4 : Hid (Lst w11 w5.heap.size r4 V2) := R4.out.later hB11
    obtain ⟨p0, p1, p2, p3, p4, hz⟩ := hK.yard hT11
    obtain ⟨a0, a1, a2, a3, a4, hza⟩ := hA.yard hU11
    go_wp2
    go_ret
    exact ⟨rfl, then_below hB hT11⟩
  · go_wp2
    go_ret
    exact ⟨rfl, then_below hB hT1⟩

end Go.Proofs.Ytkbdkhohecdbhaa
