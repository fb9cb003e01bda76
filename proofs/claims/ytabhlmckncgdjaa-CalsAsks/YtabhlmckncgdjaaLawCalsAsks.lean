/-
  CalsAsks: the walk. (Written by tools/gen/lawcals_asks.py.)
-/
import Derived.Test.YtabhlmckncgdjaaPart28
import Derived.Test.YtabhlmckncgdjaaCalsRefD
namespace Go.Proofs.Ytabhlmckncgdjaa
open Go Go.RowKit Go.Shelf

attribute [local go_sem] Oper.semAt_some ext_const

set_option maxRecDepth 100000 in
set_option maxHeartbeats 32000000 in
theorem calsAsks_walk (a b c ow f t m : Int) (w : World) {n l : Value} {ns ls : List (List Slt)} (hN : Yl w n ns) (hL : Yl w l ls) (bN : Lids ns) (bL : Lids ls) :
    Calls Try.prog 5 #[Y5 a b c n l, I ow, S2 f t, I m] w fun e W' => e = .returned (.bool true) ∧ Below w.heap.size w W' := by
  obtain ⟨W, hW, hB, hK, hS⟩ := two_start w (K5 a b c n l) (C2 f t) 26 36
  have HW : Hid ((w.alloc (.cells (K5 a b c n l) 26)).alloc (.cells (C2 f t) 36) = W) := hW
  have hT0 := Below.refl W.heap.size W
  have HG : Hid (∀ w1, Below W.heap.size W w1 → Calls Try.prog 13 #[Y5 a b c n l] w1 fun e W' => e = .returned (.bool (greatB ns ls)) ∧ Below w1.heap.size w1 W') := fun w1 hb => great_calls w1 (hN.later (then_below hB hb)) (hL.later (then_below hB hb)) bN bL
  have HTw : Hid (Small ns ls → ∀ w1, Below W.heap.size W w1 → Calls Try.prog 14 #[Y5 a b c n l] w1 fun e W' => ∃ u v, e = .returned (Y5 a b c u v) ∧ Yo W' w1.heap.size u ns ∧ Yo W' w1.heap.size v ls ∧ Below w1.heap.size w1 W') := fun h w1 hb => twin_calls w1 (hN.later (then_below hB hb)) (hL.later (then_below hB hb)) h
  have HY : Hid (∀ w1 u v, Yl w1 u ns → Yl w1 v ls → Calls Try.prog 25 #[Y5 a b c u v, S2 f t] w1 fun e W' => ∃ x y, e = .returned (.tuple #[x, y, I (busyE a b c ns ls f t)]) ∧ SetR W' w1.heap.size x (wordsE (busyE a b c ns ls f t) ns.length (busyP ns f t)) ∧ SetR W' w1.heap.size y (wordsE (busyE a b c ns ls f t) ls.length (busyP ls f t)) ∧ Below w1.heap.size w1 W') := fun w1 u v h1 h2 => yBusy_calls w1 h1 h2
  have HYr : Hid (Small ns ls → ∀ w1, Below W.heap.size W w1 → Calls Try.prog 26 #[Y5 a b c n l, S2 f t] w1 fun e W' => ∃ x y, e = .returned (.tuple #[x, y, I (busyE a b c ns ls f t)]) ∧ SetR W' w1.heap.size x (wordsE (busyE a b c ns ls f t) ns.length (busyP ns f t)) ∧ SetR W' w1.heap.size y (wordsE (busyE a b c ns ls f t) ls.length (busyP ls f t)) ∧ Below w1.heap.size w1 W') := fun h w1 hb => rBusyY_calls w1 (hN.later (then_below hB hb)) (hL.later (then_below hB hb)) h
  have HO : Hid (∀ w1 u v, Yl w1 u ns → Yl w1 v ls → Calls Try.prog 27 #[Y5 a b c u v, I ow, I m] w1 fun e W' => ∃ x y, e = .returned (.tuple #[x, y, I (ownE a b c ns ls m)]) ∧ SetR W' w1.heap.size x (wordsE (ownE a b c ns ls m) ns.length (ownP ns ow m)) ∧ SetR W' w1.heap.size y (wordsE (ownE a b c ns ls m) ls.length (ownP ls ow m)) ∧ Below w1.heap.size w1 W') := fun w1 u v h1 h2 => yOwned_calls w1 h1 h2
  have HOr : Hid (Small ns ls → ∀ w1, Below W.heap.size W w1 → Calls Try.prog 28 #[Y5 a b c n l, I ow, I m] w1 fun e W' => ∃ x y, e = .returned (.tuple #[x, y, I (ownE a b c ns ls m)]) ∧ SetR W' w1.heap.size x (wordsE (ownE a b c ns ls m) ns.length (ownP ns ow m)) ∧ SetR W' w1.heap.size y (wordsE (ownE a b c ns ls m) ls.length (ownP ls ow m)) ∧ Below w1.heap.size w1 W') := fun h w1 hb => rOwnedY_calls w1 (hN.later (then_below hB hb)) (hL.later (then_below hB hb)) h
  have HSm2 : Hid (Small ns ls → ∀ w1 u v, Below W.heap.size W w1 → Yl w1 u ns → Yl w1 v ls → Calls Try.prog 22 #[Y5 a b c u v, Y5 a b c n l] w1 fun e W' => e = .returned (.bool true) ∧ Below w1.heap.size w1 W') := fun h w1 u v hb h1 h2 => by
    have := rSameY_calls (a := a) (b := b) (c := c) (a' := a) (b' := b) (c' := c) w1 h1 h2 (hN.later (then_below hB hb)) (hL.later (then_below hB hb)) (by have := h.nodes; omega) (by have := h.links; omega) (fun k => by have := h.node k; omega) (fun k => by have := h.link k; omega)
    rwa [eqY_self] at this
  obtain ⟨an, cn, rfl, _⟩ := hN.form
  obtain ⟨al, cl, rfl, _⟩ := hL.form
  obtain ⟨gr, hgr⟩ : ∃ gr, gr = greatB ns ls := ⟨_, rfl⟩
  rw [← hgr] at HG
  have HSm : Hid (gr = false → Small ns ls) := fun h => small_of bN bL (hgr ▸ h)
  clear hW hN hL bN bL hgr
  go_enter Try.func5, Try.ntmps5
  go_wp2_with fail
  rw [HW.out]
  refine (HG.out _ hT0).mono ?_
  rintro e w1 ⟨rfl, hB1⟩
  have hT1 := then_below hT0 hB1
  obtain ⟨p0, p1, p2, p3, p4, hz⟩ := hK.yard hT1
  obtain ⟨s0, s1, hz1⟩ := hS.pair hT1
  cases gr
  · have hsm := HSm.out rfl
    have L1 : (wordsE (busyE a b c ns ls f t) ns.length (busyP ns f t)).length ≤ 100000 := wordsE_len _ (by have := hsm.nodes; omega) _
    have L2 : (wordsE (busyE a b c ns ls f t) ls.length (busyP ls f t)).length ≤ 100000 := wordsE_len _ (by have := hsm.links; omega) _
    have L3 : (wordsE (ownE a b c ns ls m) ns.length (ownP ns ow m)).length ≤ 100000 := wordsE_len _ (by have := hsm.nodes; omega) _
    have L4 : (wordsE (ownE a b c ns ls m) ls.length (ownP ls ow m)).length ≤ 100000 := wordsE_len _ (by have := hsm.links; omega) _
    have HSM : Hid (Small ns ls) := hsm
    clear HSm hsm
    generalize wordsE (busyE a b c ns ls f t) ns.length (busyP ns f t) = B1 at *
    generalize wordsE (busyE a b c ns ls f t) ls.length (busyP ls f t) = B2 at *
    generalize wordsE (ownE a b c ns ls m) ns.length (ownP ns ow m) = O1 at *
    generalize wordsE (ownE a b c ns ls m) ls.length (ownP ls ow m) = O2 at *
    generalize busyE a b c ns ls f t = e1 at *
    generalize ownE a b c ns ls m = e2 at *
    go_wp2_with fail
    refine (HTw.out HSM.out _ hT1).mono ?_
    rintro e w2 ⟨u1, v1, rfl, hu, hv, hB2⟩
    clear p0 p1 p2 p3 p4 hz s0 s1 hz1
    have hT2 := then_below hT1 hB2
    obtain ⟨p0, p1, p2, p3, p4, hz⟩ := hK.yard hT2
    obtain ⟨s0, s1, hz1⟩ := hS.pair hT2
    obtain ⟨ao1, n1, c1, rfl⟩ := hu.slice
    obtain ⟨ao2, n2, c2, rfl⟩ := hv.slice
    obtain ⟨XA, hXA, hBA, hA⟩ := one_start w2 (K5 a b c (.slice ao1 n1 c1) (.slice ao2 n2 c2)) 26
    have HXA : Hid (w2.alloc (.cells (K5 a b c (.slice ao1 n1 c1) (.slice ao2 n2 c2)) 26) = XA) := hXA
    have hTA := then_below hT2 hBA
    clear hXA
    have NU : Hid (Yl XA (.slice ao1 n1 c1) ns) := (hu.later hBA).yl
    have NV : Hid (Yl XA (.slice ao2 n2 c2) ls) := (hv.later hBA).yl
    clear hu hv
    go_wp2_with fail
    rw [HXA.out]
    refine (HY.out _ _ _ NU.out NV.out).mono ?_
    rintro e w3 ⟨x1, y1, rfl, hu, hv, hB3⟩
    clear p0 p1 p2 p3 p4 hz s0 s1 hz1
    have hT3 := then_below hTA hB3
    have hU3 := hB3
    have X1 : Hid (Wds w3 x1 B1) := hu.wds
    have Y1 : Hid (Wds w3 y1 B2) := hv.wds
    obtain ⟨p0, p1, p2, p3, p4, hz⟩ := hK.yard hT3
    obtain ⟨s0, s1, hz1⟩ := hS.pair hT3
    obtain ⟨a0, a1, a2, a3, a4, hza⟩ := hA.yard hU3
    clear hu hv
    replace NU : Hid (Yl w3 (.slice ao1 n1 c1) ns) := NU.out.later hB3
    replace NV : Hid (Yl w3 (.slice ao2 n2 c2) ls) := NV.out.later hB3
    go_wp2_with fail
    refine (HYr.out HSM.out _ hT3).mono ?_
    rintro e w4 ⟨x2, y2, rfl, hu, hv, hB4⟩
    clear p0 p1 p2 p3 p4 hz s0 s1 hz1 a0 a1 a2 a3 a4 hza
    have hT4 := then_below hT3 hB4
    have hU4 := then_below hU3 hB4
    replace X1 : Hid (Wds w4 x1 B1) := X1.out.later hB4
    replace Y1 : Hid (Wds w4 y1 B2) := Y1.out.later hB4
    replace NU : Hid (Yl w4 (.slice ao1 n1 c1) ns) := NU.out.later hB4
    replace NV : Hid (Yl w4 (.slice ao2 n2 c2) ls) := NV.out.later hB4
    have X2 : Hid (Wds w4 x2 B1) := hu.wds
    have Y2 : Hid (Wds w4 y2 B2) := hv.wds
    obtain ⟨p0, p1, p2, p3, p4, hz⟩ := hK.yard hT4
    obtain ⟨s0, s1, hz1⟩ := hS.pair hT4
    obtain ⟨a0, a1, a2, a3, a4, hza⟩ := hA.yard hU4
    clear hu hv
    go_wp2_with fail
    refine (HO.out _ _ _ NU.out NV.out).mono ?_
    rintro e w5 ⟨x3, y3, rfl, hu, hv, hB5⟩
    clear p0 p1 p2 p3 p4 hz s0 s1 hz1 a0 a1 a2 a3 a4 hza
    have hT5 := then_below hT4 hB5
    have hU5 := then_below hU4 hB5
    replace X1 : Hid (Wds w5 x1 B1) := X1.out.later hB5
    replace Y1 : Hid (Wds w5 y1 B2) := Y1.out.later hB5
    replace NU : Hid (Yl w5 (.slice ao1 n1 c1) ns) := NU.out.later hB5
    replace NV : Hid (Yl w5 (.slice ao2 n2 c2) ls) := NV.out.later hB5
    replace X2 : Hid (Wds w5 x2 B1) := X2.out.later hB5
    replace Y2 : Hid (Wds w5 y2 B2) := Y2.out.later hB5
    have X3 : Hid (Wds w5 x3 O1) := hu.wds
    have Y3 : Hid (Wds w5 y3 O2) := hv.wds
    obtain ⟨p0, p1, p2, p3, p4, hz⟩ := hK.yard hT5
    obtain ⟨s0, s1, hz1⟩ := hS.pair hT5
    obtain ⟨a0, a1, a2, a3, a4, hza⟩ := hA.yard hU5
    clear hu hv
    go_wp2_with fail
    refine (HOr.out HSM.out _ hT5).mono ?_
    rintro e w6 ⟨x4, y4, rfl, hu, hv, hB6⟩
    clear p0 p1 p2 p3 p4 hz s0 s1 hz1 a0 a1 a2 a3 a4 hza
    have hT6 := then_below hT5 hB6
    have hU6 := then_below hU5 hB6
    replace X1 : Hid (Wds w6 x1 B1) := X1.out.later hB6
    replace Y1 : Hid (Wds w6 y1 B2) := Y1.out.later hB6
    replace NU : Hid (Yl w6 (.slice ao1 n1 c1) ns) := NU.out.later hB6
    replace NV : Hid (Yl w6 (.slice ao2 n2 c2) ls) := NV.out.later hB6
    replace X2 : Hid (Wds w6 x2 B1) := X2.out.later hB6
    replace Y2 : Hid (Wds w6 y2 B2) := Y2.out.later hB6
    replace X3 : Hid (Wds w6 x3 O1) := X3.out.later hB6
    replace Y3 : Hid (Wds w6 y3 O2) := Y3.out.later hB6
    have X4 : Hid (Wds w6 x4 O1) := hu.wds
    have Y4 : Hid (Wds w6 y4 O2) := hv.wds
    obtain ⟨p0, p1, p2, p3, p4, hz⟩ := hK.yard hT6
    obtain ⟨s0, s1, hz1⟩ := hS.pair hT6
    obtain ⟨a0, a1, a2, a3, a4, hza⟩ := hA.yard hU6
    clear hu hv
    have R : Hid (Calls Try.prog 29 #[x1, x2] w6 fun e W' => e = .returned (.bool true) ∧ Below w6.heap.size w6 W') := by
      have := sameS_calls w6 X1.out X2.out L1
      rwa [decide_eq_true rfl] at this
    go_wp2_with fail
    refine (R.out).mono ?_
    rintro e w7 ⟨rfl, hB7⟩
    clear p0 p1 p2 p3 p4 hz s0 s1 hz1 a0 a1 a2 a3 a4 hza
    have hT7 := then_below hT6 hB7
    have hU7 := then_below hU6 hB7
    replace X1 : Hid (Wds w7 x1 B1) := X1.out.later hB7
    replace Y1 : Hid (Wds w7 y1 B2) := Y1.out.later hB7
    replace NU : Hid (Yl w7 (.slice ao1 n1 c1) ns) := NU.out.later hB7
    replace NV : Hid (Yl w7 (.slice ao2 n2 c2) ls) := NV.out.later hB7
    replace X2 : Hid (Wds w7 x2 B1) := X2.out.later hB7
    replace Y2 : Hid (Wds w7 y2 B2) := Y2.out.later hB7
    replace X3 : Hid (Wds w7 x3 O1) := X3.out.later hB7
    replace Y3 : Hid (Wds w7 y3 O2) := Y3.out.later hB7
    replace X4 : Hid (Wds w7 x4 O1) := X4.out.later hB7
    replace Y4 : Hid (Wds w7 y4 O2) := Y4.out.later hB7
    obtain ⟨p0, p1, p2, p3, p4, hz⟩ := hK.yard hT7
    obtain ⟨s0, s1, hz1⟩ := hS.pair hT7
    obtain ⟨a0, a1, a2, a3, a4, hza⟩ := hA.yard hU7
    clear R
    have R : Hid (Calls Try.prog 29 #[y1, y2] w7 fun e W' => e = .returned (.bool true) ∧ Below w7.heap.size w7 W') := by
      have := sameS_calls w7 Y1.out Y2.out L2
      rwa [decide_eq_true rfl] at this
    go_wp2_with fail
    refine (R.out).mono ?_
    rintro e w8 ⟨rfl, hB8⟩
    clear p0 p1 p2 p3 p4 hz s0 s1 hz1 a0 a1 a2 a3 a4 hza
    have hT8 := then_below hT7 hB8
    have hU8 := then_below hU7 hB8
    replace X1 : Hid (Wds w8 x1 B1) := X1.out.later hB8
    replace Y1 : Hid (Wds w8 y1 B2) := Y1.out.later hB8
    replace NU : Hid (Yl w8 (.slice ao1 n1 c1) ns) := NU.out.later hB8
    replace NV : Hid (Yl w8 (.slice ao2 n2 c2) ls) := NV.out.later hB8
    replace X2 : Hid (Wds w8 x2 B1) := X2.out.later hB8
    replace Y2 : Hid (Wds w8 y2 B2) := Y2.out.later hB8
    replace X3 : Hid (Wds w8 x3 O1) := X3.out.later hB8
    replace Y3 : Hid (Wds w8 y3 O2) := Y3.out.later hB8
    replace X4 : Hid (Wds w8 x4 O1) := X4.out.later hB8
    replace Y4 : Hid (Wds w8 y4 O2) := Y4.out.later hB8
    obtain ⟨p0, p1, p2, p3, p4, hz⟩ := hK.yard hT8
    obtain ⟨s0, s1, hz1⟩ := hS.pair hT8
    obtain ⟨a0, a1, a2, a3, a4, hza⟩ := hA.yard hU8
    clear R
    have R : Hid (Calls Try.prog 29 #[x3, x4] w8 fun e W' => e = .returned (.bool true) ∧ Below w8.heap.size w8 W') := by
      have := sameS_calls w8 X3.out X4.out L3
      rwa [decide_eq_true rfl] at this
    go_wp2_with fail
    refine (R.out).mono ?_
    rintro e w9 ⟨rfl, hB9⟩
    clear p0 p1 p2 p3 p4 hz s0 s1 hz1 a0 a1 a2 a3 a4 hza
    have hT9 := then_below hT8 hB9
    have hU9 := then_below hU8 hB9
    replace X1 : Hid (Wds w9 x1 B1) := X1.out.later hB9
    replace Y1 : Hid (Wds w9 y1 B2) := Y1.out.later hB9
    replace NU : Hid (Yl w9 (.slice ao1 n1 c1) ns) := NU.out.later hB9
    replace NV : Hid (Yl w9 (.slice ao2 n2 c2) ls) := NV.out.later hB9
    replace X2 : Hid (Wds w9 x2 B1) := X2.out.later hB9
    replace Y2 : Hid (Wds w9 y2 B2) := Y2.out.later hB9
    replace X3 : Hid (Wds w9 x3 O1) := X3.out.later hB9
    replace Y3 : Hid (Wds w9 y3 O2) := Y3.out.later hB9
    replace X4 : Hid (Wds w9 x4 O1) := X4.out.later hB9
    replace Y4 : Hid (Wds w9 y4 O2) := Y4.out.later hB9
    obtain ⟨p0, p1, p2, p3, p4, hz⟩ := hK.yard hT9
    obtain ⟨s0, s1, hz1⟩ := hS.pair hT9
    obtain ⟨a0, a1, a2, a3, a4, hza⟩ := hA.yard hU9
    clear R
    have R : Hid (Calls Try.prog 29 #[y3, y4] w9 fun e W' => e = .returned (.bool true) ∧ Below w9.heap.size w9 W') := by
      have := sameS_calls w9 Y3.out Y4.out L4
      rwa [decide_eq_true rfl] at this
    go_wp2_with fail
    refine (R.out).mono ?_
    rintro e w10 ⟨rfl, hB10⟩
    clear p0 p1 p2 p3 p4 hz s0 s1 hz1 a0 a1 a2 a3 a4 hza
    have hT10 := then_below hT9 hB10
    have hU10 := then_below hU9 hB10
    replace X1 : Hid (Wds w10 x1 B1) := X1.out.later hB10
    replace Y1 : Hid (Wds w10 y1 B2) := Y1.out.later hB10
    replace NU : Hid (Yl w10 (.slice ao1 n1 c1) ns) := NU.out.later hB10
    replace NV : Hid (Yl w10 (.slice ao2 n2 c2) ls) := NV.out.later hB10
    replace X2 : Hid (Wds w10 x2 B1) := X2.out.later hB10
    replace Y2 : Hid (Wds w10 y2 B2) := Y2.out.later hB10
    replace X3 : Hid (Wds w10 x3 O1) := X3.out.later hB10
    replace Y3 : Hid (Wds w10 y3 O2) := Y3.out.later hB10
    replace X4 : Hid (Wds w10 x4 O1) := X4.out.later hB10
    replace Y4 : Hid (Wds w10 y4 O2) := Y4.out.later hB10
    obtain ⟨p0, p1, p2, p3, p4, hz⟩ := hK.yard hT10
    obtain ⟨s0, s1, hz1⟩ := hS.pair hT10
    obtain ⟨a0, a1, a2, a3, a4, hza⟩ := hA.yard hU10
    clear R
    go_wp2_with fail
    refine (HSm2.out HSM.out _ _ _ hT10 NU.out NV.out).mono ?_
    rintro e w11 ⟨rfl, hB11⟩
    clear p0 p1 p2 p3 p4 hz s0 s1 hz1 a0 a1 a2 a3 a4 hza
    have hT11 := then_below hT10 hB11
    have hU11 := then_below hU10 hB11
    replace X1 : Hid (Wds w11 x1 B1) := X1.out.later hB11
    replace Y1 : Hid (Wds w11 y1 B2) := Y1.out.later hB11
    replace NU : Hid (Yl w11 (.slice ao1 n1 c1) ns) := NU.out.later hB11
    replace NV : Hid (Yl w11 (.slice ao2 n2 c2) ls) := NV.out.later hB11
    replace X2 : Hid (Wds w11 x2 B1) := X2.out.later hB11
    replace Y2 : Hid (Wds w11 y2 B2) := Y2.out.later hB11
    replace X3 : Hid (Wds w11 x3 O1) := X3.out.later hB11
    replace Y3 : Hid (Wds w11 y3 O2) := Y3.out.later hB11
    replace X4 : Hid (Wds w11 x4 O1) := X4.out.later hB11
    replace Y4 : Hid (Wds w11 y4 O2) := Y4.out.later hB11
    obtain ⟨p0, p1, p2, p3, p4, hz⟩ := hK.yard hT11
    obtain ⟨s0, s1, hz1⟩ := hS.pair hT11
    obtain ⟨a0, a1, a2, a3, a4, hza⟩ := hA.yard hU11
    go_wp2
    go_ret
    exact ⟨rfl, then_below hB hT11⟩
  · go_wp2
    go_ret
    exact ⟨rfl, then_below hB hT1⟩

end Go.Proofs.Ytabhlmckncgdjaa
