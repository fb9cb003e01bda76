/-
  CalsTurns: the walk. (Written by tools/gen/lawcals_turns.py.)
-/
import Derived.Test.YtabhlmckncgdjaaPart33
namespace Go.Proofs.Ytabhlmckncgdjaa
open Go Go.RowKit Go.Shelf

attribute [local go_sem] Oper.semAt_some ext_const

set_option maxRecDepth 100000 in
set_option maxHeartbeats 64000000 in
theorem calsTurns_walk (a b c a2 b2 c2 ow f t to : Int) (w : World) {n l n2 l2 vm vk : Value} {ns ls ns2 ls2 : List (List Slt)} {mw lw : List Nat} (hN : Yl w n ns) (hL : Yl w l ls) (bN : Lids ns) (bL : Lids ls) (hN2 : Yl w n2 ns2) (hL2 : Yl w l2 ls2) (bN2 : Lids ns2) (bL2 : Lids ls2) (hM : ArgW w vm mw) (hK2 : ArgW w vk lw) :
    Calls Try.prog 4 #[Y5 a b c n l, Y5 a2 b2 c2 n2 l2, I ow, vm, vk, S2 f t, I to] w fun e W' => e = .returned (.bool true) ∧ Below w.heap.size w W' := by
  have hmx : Try.prog.follows .mixedOrders = true := by kernel_rfl
  obtain ⟨W, hW, hB, hK, hO, hS⟩ := three_boxes w (K5 a b c n l) (K5 a2 b2 c2 n2 l2) (C2 f t) 26 26 36
  have HW : Hid (((w.alloc (.cells (K5 a b c n l) 26)).alloc (.cells (K5 a2 b2 c2 n2 l2) 26)).alloc (.cells (C2 f t) 36) = W) := hW
  have hT0 := Below.refl W.heap.size W
  have hM := hM.1
  have hK2 := hK2.1
  have HG : Hid (∀ w1, Below W.heap.size W w1 → Calls Try.prog 13 #[Y5 a b c n l] w1 fun e W' => e = .returned (.bool (greatB ns ls)) ∧ Below w1.heap.size w1 W') := fun w1 hb => great_calls w1 (hN.later (then_below hB hb)) (hL.later (then_below hB hb)) bN bL
  have HG2 : Hid (∀ w1, Below W.heap.size W w1 → Calls Try.prog 13 #[Y5 a2 b2 c2 n2 l2] w1 fun e W' => e = .returned (.bool (greatB ns2 ls2)) ∧ Below w1.heap.size w1 W') := fun w1 hb => great_calls w1 (hN2.later (then_below hB hb)) (hL2.later (then_below hB hb)) bN2 bL2
  have HTw : Hid (Small ns ls → ∀ w1, Below W.heap.size W w1 → Calls Try.prog 14 #[Y5 a b c n l] w1 fun e W' => ∃ u v, e = .returned (Y5 a b c u v) ∧ Yo W' w1.heap.size u ns ∧ Yo W' w1.heap.size v ls ∧ Below w1.heap.size w1 W') := fun hs w1 hb => twin_calls w1 (hN.later (then_below hB hb)) (hL.later (then_below hB hb)) hs
  have Con1 : Hid (∀ w1 u v, Yl w1 u ns → Yl w1 v ls → Below W.heap.size W w1 → Calls Try.prog 10 #[Y5 a b c u v, I ow, vm, vk, S2 f t] w1 fun e W' => ∃ u v, e = .returned (.tuple #[Y5 (dimE (putYE a b c ns ls mw lw f t ow) a) (dimE (putYE a b c ns ls mw lw f t ow) b) (dimE (putYE a b c ns ls mw lw f t ow) c) u v, I (putYE a b c ns ls mw lw f t ow)]) ∧ Yo W' w1.heap.size u (rowsE (putYE a b c ns ls mw lw f t ow) (putsY ns mw (f, t, ow))) ∧ Yo W' w1.heap.size v (rowsE (putYE a b c ns ls mw lw f t ow) (putsY ls lw (f, t, ow))) ∧ Below w1.heap.size w1 W') := fun w1 u v h1 h2 hb => yPut_calls w1 h1 h2 (hM.later (then_below hB hb)) (hK2.later (then_below hB hb))
  have Con2 : Hid (Small ns ls → ∀ w1, Below W.heap.size W w1 → Calls Try.prog 15 #[Y5 a b c n l, I ow, vm, vk, S2 f t] w1 fun e W' => ∃ u v, e = .returned (.tuple #[Y5 (dimE (putYE a b c ns ls mw lw f t ow) a) (dimE (putYE a b c ns ls mw lw f t ow) b) (dimE (putYE a b c ns ls mw lw f t ow) c) u v, I (putYE a b c ns ls mw lw f t ow)]) ∧ Yo W' w1.heap.size u (rowsE (putYE a b c ns ls mw lw f t ow) (putsY ns mw (f, t, ow))) ∧ Yo W' w1.heap.size v (rowsE (putYE a b c ns ls mw lw f t ow) (putsY ls lw (f, t, ow))) ∧ Below w1.heap.size w1 W') := fun hs w1 hb => rPutY_calls w1 (hN.later (then_below hB hb)) (hL.later (then_below hB hb)) (hM.later (then_below hB hb)) (hK2.later (then_below hB hb)) hs
  have Con3 : Hid (∀ w1 u v, Yl w1 u ns → Yl w1 v ls → Below W.heap.size W w1 → Calls Try.prog 16 #[Y5 a b c u v, I ow, I to] w1 fun e W' => ∃ u v, e = .returned (.tuple #[Y5 (dimE (errY a b c ns ls) a) (dimE (errY a b c ns ls) b) (dimE (errY a b c ns ls) c) u v, I (errY a b c ns ls)]) ∧ Yo W' w1.heap.size u (rowsE (errY a b c ns ls) (cutsC ns ow to)) ∧ Yo W' w1.heap.size v (rowsE (errY a b c ns ls) (cutsC ls ow to)) ∧ Below w1.heap.size w1 W') := fun w1 u v h1 h2 hb => yCut_calls w1 h1 h2
  have Con4 : Hid (Small ns ls → ∀ w1, Below W.heap.size W w1 → Calls Try.prog 17 #[Y5 a b c n l, I ow, I to] w1 fun e W' => ∃ u v, e = .returned (.tuple #[Y5 (dimE (errY a b c ns ls) a) (dimE (errY a b c ns ls) b) (dimE (errY a b c ns ls) c) u v, I (errY a b c ns ls)]) ∧ Yo W' w1.heap.size u (rowsE (errY a b c ns ls) (cutsC ns ow to)) ∧ Yo W' w1.heap.size v (rowsE (errY a b c ns ls) (cutsC ls ow to)) ∧ Below w1.heap.size w1 W') := fun hs w1 hb => rCutY_calls w1 (hN.later (then_below hB hb)) (hL.later (then_below hB hb)) hs
  have Con5 : Hid (∀ w1 u v, Yl w1 u ns → Yl w1 v ls → Below W.heap.size W w1 → Calls Try.prog 18 #[Y5 a b c u v, I ow] w1 fun e W' => ∃ u v, e = .returned (.tuple #[Y5 (dimE (errY a b c ns ls) a) (dimE (errY a b c ns ls) b) (dimE (errY a b c ns ls) c) u v, I (errY a b c ns ls)]) ∧ Yo W' w1.heap.size u (rowsE (errY a b c ns ls) (takesC ns ow)) ∧ Yo W' w1.heap.size v (rowsE (errY a b c ns ls) (takesC ls ow)) ∧ Below w1.heap.size w1 W') := fun w1 u v h1 h2 hb => yTake_calls w1 h1 h2
  have Con6 : Hid (Small ns ls → ∀ w1, Below W.heap.size W w1 → Calls Try.prog 19 #[Y5 a b c n l, I ow] w1 fun e W' => ∃ u v, e = .returned (.tuple #[Y5 (dimE (errY a b c ns ls) a) (dimE (errY a b c ns ls) b) (dimE (errY a b c ns ls) c) u v, I (errY a b c ns ls)]) ∧ Yo W' w1.heap.size u (rowsE (errY a b c ns ls) (takesC ns ow)) ∧ Yo W' w1.heap.size v (rowsE (errY a b c ns ls) (takesC ls ow)) ∧ Below w1.heap.size w1 W') := fun hs w1 hb => rTakeY_calls w1 (hN.later (then_below hB hb)) (hL.later (then_below hB hb)) hs
  have Con7 : Hid (∀ w1, Calls Try.prog 20 #[A3 a b c] w1 fun e W' => ∃ u v, e = .returned (.tuple #[Y5 (dimE (newE a b c) a) (dimE (newE a b c) b) (dimE (newE a b c) c) u v, I (newE a b c)]) ∧ Yo W' w1.heap.size u (rowsE (newE a b c) (emptyC (a * b * c))) ∧ Yo W' w1.heap.size v (rowsE (newE a b c) (emptyC (3 * (a * b * c)))) ∧ Below w1.heap.size w1 W') := fun w1 => yNew_calls w1
  have Con8 : Hid (∀ w1, Calls Try.prog 21 #[A3 a b c] w1 fun e W' => ∃ u v, e = .returned (.tuple #[Y5 (dimE (newE a b c) a) (dimE (newE a b c) b) (dimE (newE a b c) c) u v, I (newE a b c)]) ∧ Yo W' w1.heap.size u (rowsE (newE a b c) (emptyC (a * b * c))) ∧ Yo W' w1.heap.size v (rowsE (newE a b c) (emptyC (3 * (a * b * c)))) ∧ Below w1.heap.size w1 W') := fun w1 => ryNew_calls w1
  have HE : Hid (∀ w1 u v, Yl w1 u ns → Yl w1 v ls → Below W.heap.size W w1 → Calls Try.prog 12 #[Y5 a b c u v] w1 fun e W' => e = .returned (I (errY a b c ns ls)) ∧ Below w1.heap.size w1 W') := fun w1 u v h1 h2 hb => ycheck_calls w1 h1 h2
  have HEr : Hid (Small ns ls → ∀ w1, Below W.heap.size W w1 → Calls Try.prog 23 #[Y5 a b c n l] w1 fun e W' => e = .returned (I (errY a b c ns ls)) ∧ Below w1.heap.size w1 W') := fun hs w1 hb => rcheckY_calls w1 (hN.later (then_below hB hb)) (hL.later (then_below hB hb)) hs
  have HS1 : Hid (Small ns ls → ∀ w1, Below W.heap.size W w1 → Calls Try.prog 24 #[Y5 a b c n l, Y5 a2 b2 c2 n2 l2] w1 fun e W' => e = .returned (.bool (eqY a b c ns ls a2 b2 c2 ns2 ls2)) ∧ Below w1.heap.size w1 W') := fun hs w1 hb => ySame_calls w1 (hN.later (then_below hB hb)) (hL.later (then_below hB hb)) (hN2.later (then_below hB hb)) (hL2.later (then_below hB hb)) (by have := hs.nodes; omega) (by have := hs.links; omega) (fun k => by have := hs.node k; omega) (fun k => by have := hs.link k; omega)
  have HS2 : Hid (Small ns ls → ∀ w1, Below W.heap.size W w1 → Calls Try.prog 22 #[Y5 a b c n l, Y5 a2 b2 c2 n2 l2] w1 fun e W' => e = .returned (.bool (eqY a b c ns ls a2 b2 c2 ns2 ls2)) ∧ Below w1.heap.size w1 W') := fun hs w1 hb => rSameY_calls w1 (hN.later (then_below hB hb)) (hL.later (then_below hB hb)) (hN2.later (then_below hB hb)) (hL2.later (then_below hB hb)) (by have := hs.nodes; omega) (by have := hs.links; omega) (fun k => by have := hs.node k; omega) (fun k => by have := hs.link k; omega)
  have HS3 : Hid (Small ns ls → ∀ w1 u v, Yl w1 u ns → Yl w1 v ls → Below W.heap.size W w1 → Calls Try.prog 22 #[Y5 a b c u v, Y5 a b c n l] w1 fun e W' => e = .returned (.bool true) ∧ Below w1.heap.size w1 W') := fun hs w1 u v h1 h2 hb => same_yards w1 ⟨by have := hs.nodes; omega, fun k => by have := hs.node k; omega⟩ ⟨by have := hs.links; omega, fun k => by have := hs.link k; omega⟩ h1 h2 (hN.later (then_below hB hb)) (hL.later (then_below hB hb))
  have HM : Hid (∀ w1 x y z u v u' v' cs ds, Few cs → Few ds → Yl w1 u cs → Yl w1 v ds → Yl w1 u' cs → Yl w1 v' ds → Calls Try.prog 22 #[Y5 x y z u v, Y5 x y z u' v'] w1 fun e W' => e = .returned (.bool true) ∧ Below w1.heap.size w1 W') := fun w1 x y z u v u' v' cs ds g1 g2 h1 h2 h3 h4 => same_yards w1 g1 g2 h1 h2 h3 h4
  have FP1 : Hid (Small ns ls → Few (rowsE (putYE a b c ns ls mw lw f t ow) (putsY ns mw (f, t, ow)))) := fun hs => few_rows _ fun _ => few_puts (by have := hs.nodes; omega) (fun k => hs.node k) _ _
  have FP2 : Hid (Small ns ls → Few (rowsE (putYE a b c ns ls mw lw f t ow) (putsY ls lw (f, t, ow)))) := fun hs => few_rows _ fun _ => few_puts (by have := hs.links; omega) (fun k => hs.link k) _ _
  have FC1 : Hid (Small ns ls → Few (rowsE (errY a b c ns ls) (cutsC ns ow to))) := fun hs => few_rows _ fun _ => few_cuts (by have := hs.nodes; omega) (fun k => hs.node k) _ _
  have FC2 : Hid (Small ns ls → Few (rowsE (errY a b c ns ls) (cutsC ls ow to))) := fun hs => few_rows _ fun _ => few_cuts (by have := hs.links; omega) (fun k => hs.link k) _ _
  have FT1 : Hid (Small ns ls → Few (rowsE (errY a b c ns ls) (takesC ns ow))) := fun hs => few_rows _ fun _ => few_takes (by have := hs.nodes; omega) (fun k => hs.node k) _
  have FT2 : Hid (Small ns ls → Few (rowsE (errY a b c ns ls) (takesC ls ow))) := fun hs => few_rows _ fun _ => few_takes (by have := hs.links; omega) (fun k => hs.link k) _
  have FN1 : Hid (Few (rowsE (newE a b c) (emptyC (a * b * c)))) := few_new.1
  have FN2 : Hid (Few (rowsE (newE a b c) (emptyC (3 * (a * b * c))))) := few_new.2
  obtain ⟨an, cn, rfl, _⟩ := hN.form
  obtain ⟨al, cl, rfl, _⟩ := hL.form
  obtain ⟨an2, cn2, rfl, _⟩ := hN2.form
  obtain ⟨al2, cl2, rfl, _⟩ := hL2.form
  obtain ⟨am, cm, rfl, _⟩ := hM.view
  obtain ⟨ak, ck, rfl, _⟩ := hK2.view
  obtain ⟨gr, hgr⟩ : ∃ gr, gr = greatB ns ls := ⟨_, rfl⟩
  rw [← hgr] at HG
  have HSm : Hid (gr = false → Small ns ls) := fun h => small_of bN bL (hgr ▸ h)
  generalize greatB ns2 ls2 = gr2 at *
  clear hW hN hL bN bL hN2 hL2 bN2 bL2 hgr hM hK2
  generalize rowsE (putYE a b c ns ls mw lw f t ow) (putsY ns mw (f, t, ow)) = A1 at *
  generalize rowsE (putYE a b c ns ls mw lw f t ow) (putsY ls lw (f, t, ow)) = A2 at *
  generalize rowsE (errY a b c ns ls) (cutsC ns ow to) = B1 at *
  generalize rowsE (errY a b c ns ls) (cutsC ls ow to) = B2 at *
  generalize rowsE (errY a b c ns ls) (takesC ns ow) = D1 at *
  generalize rowsE (errY a b c ns ls) (takesC ls ow) = D2 at *
  generalize rowsE (newE a b c) (emptyC (a * b * c)) = E1 at *
  generalize rowsE (newE a b c) (emptyC (3 * (a * b * c))) = E2 at *
  generalize dimE (putYE a b c ns ls mw lw f t ow) a = x0 at *
  generalize dimE (putYE a b c ns ls mw lw f t ow) b = x1 at *
  generalize dimE (putYE a b c ns ls mw lw f t ow) c = x2 at *
  generalize putYE a b c ns ls mw lw f t ow = qx at *
  generalize dimE (errY a b c ns ls) a = y0 at *
  generalize dimE (errY a b c ns ls) b = y1 at *
  generalize dimE (errY a b c ns ls) c = y2 at *
  generalize errY a b c ns ls = qy at *
  generalize dimE (newE a b c) a = z0 at *
  generalize dimE (newE a b c) b = z1 at *
  generalize dimE (newE a b c) c = z2 at *
  generalize newE a b c = qz at *
  generalize eqY a b c ns ls a2 b2 c2 ns2 ls2 = sm at *
  generalize mw.length = mn at *
  generalize lw.length = ln at *
  go_enter Try.func4, Try.ntmps4
  go_wp2_with fail
  rw [HW.out]
  refine (HG.out _ hT0).mono ?_
  rintro e w1 ⟨rfl, hB1⟩
  have hT1 := then_below hT0 hB1
  obtain ⟨o0, o1, o2, o3, o4, hzo⟩ := hO.yard hT1
  cases gr
  rotate_left
  · clear HTw Con1 Con2 Con3 Con4 Con5 Con6 Con7 Con8 HE HEr HS1 HS2 HS3 HM FP1 FP2 FC1 FC2 FT1 FT2 FN1 FN2 HSm
    go_wp2
    go_ret
    exact ⟨rfl, then_below hB hT1⟩
  have hsm := HSm.out rfl
  clear HSm
  go_wp2_with fail
  refine (HG2.out _ hT1).mono ?_
  rintro e w2 ⟨rfl, hB2⟩
  have hT2 := then_below hT1 hB2
  clear o0 o1 o2 o3 o4 hzo
  cases gr2
  rotate_left
  · clear HTw Con1 Con2 Con3 Con4 Con5 Con6 Con7 Con8 HE HEr HS1 HS2 HS3 HM FP1 FP2 FC1 FC2 FT1 FT2 FN1 FN2
    go_wp2
    go_ret
    exact ⟨rfl, then_below hB hT2⟩
  by_cases hl1 : 100 < (mn : Int)
  · clear HTw Con1 Con2 Con3 Con4 Con5 Con6 Con7 Con8 HE HEr HS1 HS2 HS3 HM FP1 FP2 FC1 FC2 FT1 FT2 FN1 FN2
    go_wp2
    go_ret
    exact ⟨rfl, then_below hB hT2⟩
  have hl1b : decide (100 < (mn : Int)) = false := decide_eq_false hl1
  clear hl1
  by_cases hl2 : 100 < (ln : Int)
  · clear HTw Con1 Con2 Con3 Con4 Con5 Con6 Con7 Con8 HE HEr HS1 HS2 HS3 HM FP1 FP2 FC1 FC2 FT1 FT2 FN1 FN2
    go_wp2
    go_ret
    exact ⟨rfl, then_below hB hT2⟩
  have hl2b : decide (100 < (ln : Int)) = false := decide_eq_false hl2
  clear hl2
  have HSM : Hid (Small ns ls) := hsm
  clear hsm hB1
  obtain ⟨p0, p1, p2, p3, p4, hz⟩ := hK.yard hT2
  go_wp2_with fail
  refine (HTw.out HSM.out _ hT2).mono ?_
  rintro e w3 ⟨u, v, rfl, hu, hv, hB3⟩
  have hT3 := then_below hT2 hB3
  clear hB2 p0 p1 p2 p3 p4 hz
  obtain ⟨ao, nv, cv, rfl⟩ := hu.slice
  obtain ⟨bo, mv, dv, rfl⟩ := hv.slice
  obtain ⟨X0, hX0, hBX0, hA⟩ := one_start w3 (K5 a b c (.slice ao nv cv) (.slice bo mv dv)) 26
  have HX0 : Hid (w3.alloc (.cells (K5 a b c (.slice ao nv cv) (.slice bo mv dv)) 26) = X0) := hX0
  have hTX0 := then_below hT3 hBX0
  clear hX0
  have NU : Hid (Yl X0 (.slice ao nv cv) ns) := (hu.later hBX0).yl
  have NV : Hid (Yl X0 (.slice bo mv dv) ls) := (hv.later hBX0).yl
  have NX := NU
  have NZ := NV
  have HA : Hid (Blk X0 w3.heap.size 26 (K5 a b c (.slice ao nv cv) (.slice bo mv dv))) := hA
  have HAX := HA
  clear hu hv hA
  obtain ⟨p0, p1, p2, p3, p4, hz⟩ := hK.yard hT3
  obtain ⟨s0, s1, hz1⟩ := hS.pair hT3
  go_wp2_with fail
  rw [HX0.out]
  refine (Con1.out _ _ _ NU.out NV.out hTX0).mono ?_
  rintro e w4 ⟨u1, v1, rfl, hu, hv, hB4⟩
  clear p0 p1 p2 p3 p4 hz s0 s1 hz1
  obtain ⟨ao1, nv1, cv1, rfl⟩ := hu.slice
  obtain ⟨bo1, mv1, dv1, rfl⟩ := hv.slice
  have hT4 := then_below hTX0 hB4
  have hQ4 := hB4
  replace NU : Hid (Yl w4 (.slice ao nv cv) ns) := NU.out.later hB4
  replace NV : Hid (Yl w4 (.slice bo mv dv) ls) := NV.out.later hB4
  replace HA : Hid (Blk w4 w3.heap.size 26 (K5 a b c (.slice ao nv cv) (.slice bo mv dv))) := HA.out.later hB4
  have HY : Hid (Yo w4 X0.heap.size (.slice ao1 nv1 cv1) A1) := hu
  have U1 : Hid (Yl w4 (.slice ao1 nv1 cv1) A1) := hu.yl
  have V1 : Hid (Yl w4 (.slice bo1 mv1 dv1) A2) := hv.yl
  obtain ⟨p0, p1, p2, p3, p4, hz⟩ := hK.yard hT4
  obtain ⟨s0, s1, hz1⟩ := hS.pair hT4
  obtain ⟨X1, hX1, hBX1, hk⟩ := one_start w4 (K5 x0 x1 x2 (.slice ao1 nv1 cv1) (.slice bo1 mv1 dv1)) 26
  have HX1 : Hid (w4.alloc (.cells (K5 x0 x1 x2 (.slice ao1 nv1 cv1) (.slice bo1 mv1 dv1)) 26) = X1) := hX1
  have hTX1 := then_below hT4 hBX1
  have hQX1 := then_below hQ4 hBX1
  replace NU : Hid (Yl X1 (.slice ao nv cv) ns) := NU.out.later hBX1
  replace NV : Hid (Yl X1 (.slice bo mv dv) ls) := NV.out.later hBX1
  replace HA : Hid (Blk X1 w3.heap.size 26 (K5 a b c (.slice ao nv cv) (.slice bo mv dv))) := HA.out.later hBX1
  replace HY : Hid (Yo X1 X0.heap.size (.slice ao1 nv1 cv1) A1) := HY.out.later hBX1
  replace U1 : Hid (Yl X1 (.slice ao1 nv1 cv1) A1) := U1.out.later hBX1
  replace V1 : Hid (Yl X1 (.slice bo1 mv1 dv1) A2) := V1.out.later hBX1
  have Bx1 : Hid (Blk X1 w4.heap.size 26 (K5 x0 x1 x2 (.slice ao1 nv1 cv1) (.slice bo1 mv1 dv1))) := hk
  clear hX1 hk hu hv
  go_wp2_with fail
  rw [HX1.out]
  refine (Con2.out HSM.out _ hTX1).mono ?_
  rintro e w5 ⟨u2, v2, rfl, hu, hv, hB5⟩
  clear  p0 p1 p2 p3 p4 hz s0 s1 hz1
  obtain ⟨ao2, nv2, cv2, rfl⟩ := hu.slice
  obtain ⟨bo2, mv2, dv2, rfl⟩ := hv.slice
  have hT5 := then_below hTX1 hB5
  have hQ5 := then_below hQX1 hB5
  replace NU : Hid (Yl w5 (.slice ao nv cv) ns) := NU.out.later hB5
  replace NV : Hid (Yl w5 (.slice bo mv dv) ls) := NV.out.later hB5
  replace HA : Hid (Blk w5 w3.heap.size 26 (K5 a b c (.slice ao nv cv) (.slice bo mv dv))) := HA.out.later hB5
  replace HY : Hid (Yo w5 X0.heap.size (.slice ao1 nv1 cv1) A1) := HY.out.later hB5
  replace U1 : Hid (Yl w5 (.slice ao1 nv1 cv1) A1) := U1.out.later hB5
  replace V1 : Hid (Yl w5 (.slice bo1 mv1 dv1) A2) := V1.out.later hB5
  replace Bx1 : Hid (Blk w5 w4.heap.size 26 (K5 x0 x1 x2 (.slice ao1 nv1 cv1) (.slice bo1 mv1 dv1))) := Bx1.out.later hB5
  have U2 : Hid (Yl w5 (.slice ao2 nv2 cv2) A1) := hu.yl
  have V2 : Hid (Yl w5 (.slice bo2 mv2 dv2) A2) := hv.yl
  obtain ⟨a0, a1, a2_, a3, a4, hza⟩ := HA.out.five
  obtain ⟨X2, hX2, hBX2, hk⟩ := one_start w5 (K5 x0 x1 x2 (.slice ao2 nv2 cv2) (.slice bo2 mv2 dv2)) 26
  have HX2 : Hid (w5.alloc (.cells (K5 x0 x1 x2 (.slice ao2 nv2 cv2) (.slice bo2 mv2 dv2)) 26) = X2) := hX2
  have hTX2 := then_below hT5 hBX2
  have hQX2 := then_below hQ5 hBX2
  replace NU : Hid (Yl X2 (.slice ao nv cv) ns) := NU.out.later hBX2
  replace NV : Hid (Yl X2 (.slice bo mv dv) ls) := NV.out.later hBX2
  replace HA : Hid (Blk X2 w3.heap.size 26 (K5 a b c (.slice ao nv cv) (.slice bo mv dv))) := HA.out.later hBX2
  replace HY : Hid (Yo X2 X0.heap.size (.slice ao1 nv1 cv1) A1) := HY.out.later hBX2
  replace U1 : Hid (Yl X2 (.slice ao1 nv1 cv1) A1) := U1.out.later hBX2
  replace V1 : Hid (Yl X2 (.slice bo1 mv1 dv1) A2) := V1.out.later hBX2
  replace Bx1 : Hid (Blk X2 w4.heap.size 26 (K5 x0 x1 x2 (.slice ao1 nv1 cv1) (.slice bo1 mv1 dv1))) := Bx1.out.later hBX2
  replace U2 : Hid (Yl X2 (.slice ao2 nv2 cv2) A1) := U2.out.later hBX2
  replace V2 : Hid (Yl X2 (.slice bo2 mv2 dv2) A2) := V2.out.later hBX2
  have Bx2 : Hid (Blk X2 w5.heap.size 26 (K5 x0 x1 x2 (.slice ao2 nv2 cv2) (.slice bo2 mv2 dv2))) := hk
  clear hX2 hk hu hv
  go_wp2_with fail
  rw [HX2.out]
  refine (Con3.out _ _ _ NU.out NV.out hTX2).mono ?_
  rintro e w6 ⟨u3, v3, rfl, hu, hv, hB6⟩
  clear  a0 a1 a2_ a3 a4 hza
  obtain ⟨ao3, nv3, cv3, rfl⟩ := hu.slice
  obtain ⟨bo3, mv3, dv3, rfl⟩ := hv.slice
  have hT6 := then_below hTX2 hB6
  have hQ6 := then_below hQX2 hB6
  replace NU : Hid (Yl w6 (.slice ao nv cv) ns) := NU.out.later hB6
  replace NV : Hid (Yl w6 (.slice bo mv dv) ls) := NV.out.later hB6
  replace HA : Hid (Blk w6 w3.heap.size 26 (K5 a b c (.slice ao nv cv) (.slice bo mv dv))) := HA.out.later hB6
  replace HY : Hid (Yo w6 X0.heap.size (.slice ao1 nv1 cv1) A1) := HY.out.later hB6
  replace U1 : Hid (Yl w6 (.slice ao1 nv1 cv1) A1) := U1.out.later hB6
  replace V1 : Hid (Yl w6 (.slice bo1 mv1 dv1) A2) := V1.out.later hB6
  replace Bx1 : Hid (Blk w6 w4.heap.size 26 (K5 x0 x1 x2 (.slice ao1 nv1 cv1) (.slice bo1 mv1 dv1))) := Bx1.out.later hB6
  replace U2 : Hid (Yl w6 (.slice ao2 nv2 cv2) A1) := U2.out.later hB6
  replace V2 : Hid (Yl w6 (.slice bo2 mv2 dv2) A2) := V2.out.later hB6
  replace Bx2 : Hid (Blk w6 w5.heap.size 26 (K5 x0 x1 x2 (.slice ao2 nv2 cv2) (.slice bo2 mv2 dv2))) := Bx2.out.later hB6
  have U3 : Hid (Yl w6 (.slice ao3 nv3 cv3) B1) := hu.yl
  have V3 : Hid (Yl w6 (.slice bo3 mv3 dv3) B2) := hv.yl
  obtain ⟨p0, p1, p2, p3, p4, hz⟩ := hK.yard hT6
  obtain ⟨X3, hX3, hBX3, hk⟩ := one_start w6 (K5 y0 y1 y2 (.slice ao3 nv3 cv3) (.slice bo3 mv3 dv3)) 26
  have HX3 : Hid (w6.alloc (.cells (K5 y0 y1 y2 (.slice ao3 nv3 cv3) (.slice bo3 mv3 dv3)) 26) = X3) := hX3
  have hTX3 := then_below hT6 hBX3
  have hQX3 := then_below hQ6 hBX3
  replace NU : Hid (Yl X3 (.slice ao nv cv) ns) := NU.out.later hBX3
  replace NV : Hid (Yl X3 (.slice bo mv dv) ls) := NV.out.later hBX3
  replace HA : Hid (Blk X3 w3.heap.size 26 (K5 a b c (.slice ao nv cv) (.slice bo mv dv))) := HA.out.later hBX3
  replace HY : Hid (Yo X3 X0.heap.size (.slice ao1 nv1 cv1) A1) := HY.out.later hBX3
  replace U1 : Hid (Yl X3 (.slice ao1 nv1 cv1) A1) := U1.out.later hBX3
  replace V1 : Hid (Yl X3 (.slice bo1 mv1 dv1) A2) := V1.out.later hBX3
  replace Bx1 : Hid (Blk X3 w4.heap.size 26 (K5 x0 x1 x2 (.slice ao1 nv1 cv1) (.slice bo1 mv1 dv1))) := Bx1.out.later hBX3
  replace U2 : Hid (Yl X3 (.slice ao2 nv2 cv2) A1) := U2.out.later hBX3
  replace V2 : Hid (Yl X3 (.slice bo2 mv2 dv2) A2) := V2.out.later hBX3
  replace Bx2 : Hid (Blk X3 w5.heap.size 26 (K5 x0 x1 x2 (.slice ao2 nv2 cv2) (.slice bo2 mv2 dv2))) := Bx2.out.later hBX3
  replace U3 : Hid (Yl X3 (.slice ao3 nv3 cv3) B1) := U3.out.later hBX3
  replace V3 : Hid (Yl X3 (.slice bo3 mv3 dv3) B2) := V3.out.later hBX3
  have Bx3 : Hid (Blk X3 w6.heap.size 26 (K5 y0 y1 y2 (.slice ao3 nv3 cv3) (.slice bo3 mv3 dv3))) := hk
  clear hX3 hk hu hv
  go_wp2_with fail
  rw [HX3.out]
  refine (Con4.out HSM.out _ hTX3).mono ?_
  rintro e w7 ⟨u4, v4, rfl, hu, hv, hB7⟩
  clear  p0 p1 p2 p3 p4 hz
  obtain ⟨ao4, nv4, cv4, rfl⟩ := hu.slice
  obtain ⟨bo4, mv4, dv4, rfl⟩ := hv.slice
  have hT7 := then_below hTX3 hB7
  have hQ7 := then_below hQX3 hB7
  replace NU : Hid (Yl w7 (.slice ao nv cv) ns) := NU.out.later hB7
  replace NV : Hid (Yl w7 (.slice bo mv dv) ls) := NV.out.later hB7
  replace HA : Hid (Blk w7 w3.heap.size 26 (K5 a b c (.slice ao nv cv) (.slice bo mv dv))) := HA.out.later hB7
  replace HY : Hid (Yo w7 X0.heap.size (.slice ao1 nv1 cv1) A1) := HY.out.later hB7
  replace U1 : Hid (Yl w7 (.slice ao1 nv1 cv1) A1) := U1.out.later hB7
  replace V1 : Hid (Yl w7 (.slice bo1 mv1 dv1) A2) := V1.out.later hB7
  replace Bx1 : Hid (Blk w7 w4.heap.size 26 (K5 x0 x1 x2 (.slice ao1 nv1 cv1) (.slice bo1 mv1 dv1))) := Bx1.out.later hB7
  replace U2 : Hid (Yl w7 (.slice ao2 nv2 cv2) A1) := U2.out.later hB7
  replace V2 : Hid (Yl w7 (.slice bo2 mv2 dv2) A2) := V2.out.later hB7
  replace Bx2 : Hid (Blk w7 w5.heap.size 26 (K5 x0 x1 x2 (.slice ao2 nv2 cv2) (.slice bo2 mv2 dv2))) := Bx2.out.later hB7
  replace U3 : Hid (Yl w7 (.slice ao3 nv3 cv3) B1) := U3.out.later hB7
  replace V3 : Hid (Yl w7 (.slice bo3 mv3 dv3) B2) := V3.out.later hB7
  replace Bx3 : Hid (Blk w7 w6.heap.size 26 (K5 y0 y1 y2 (.slice ao3 nv3 cv3) (.slice bo3 mv3 dv3))) := Bx3.out.later hB7
  have U4 : Hid (Yl w7 (.slice ao4 nv4 cv4) B1) := hu.yl
  have V4 : Hid (Yl w7 (.slice bo4 mv4 dv4) B2) := hv.yl
  obtain ⟨a0, a1, a2_, a3, a4, hza⟩ := HA.out.five
  obtain ⟨X4, hX4, hBX4, hk⟩ := one_start w7 (K5 y0 y1 y2 (.slice ao4 nv4 cv4) (.slice bo4 mv4 dv4)) 26
  have HX4 : Hid (w7.alloc (.cells (K5 y0 y1 y2 (.slice ao4 nv4 cv4) (.slice bo4 mv4 dv4)) 26) = X4) := hX4
  have hTX4 := then_below hT7 hBX4
  have hQX4 := then_below hQ7 hBX4
  replace NU : Hid (Yl X4 (.slice ao nv cv) ns) := NU.out.later hBX4
  replace NV : Hid (Yl X4 (.slice bo mv dv) ls) := NV.out.later hBX4
  replace HA : Hid (Blk X4 w3.heap.size 26 (K5 a b c (.slice ao nv cv) (.slice bo mv dv))) := HA.out.later hBX4
  replace HY : Hid (Yo X4 X0.heap.size (.slice ao1 nv1 cv1) A1) := HY.out.later hBX4
  replace U1 : Hid (Yl X4 (.slice ao1 nv1 cv1) A1) := U1.out.later hBX4
  replace V1 : Hid (Yl X4 (.slice bo1 mv1 dv1) A2) := V1.out.later hBX4
  replace Bx1 : Hid (Blk X4 w4.heap.size 26 (K5 x0 x1 x2 (.slice ao1 nv1 cv1) (.slice bo1 mv1 dv1))) := Bx1.out.later hBX4
  replace U2 : Hid (Yl X4 (.slice ao2 nv2 cv2) A1) := U2.out.later hBX4
  replace V2 : Hid (Yl X4 (.slice bo2 mv2 dv2) A2) := V2.out.later hBX4
  replace Bx2 : Hid (Blk X4 w5.heap.size 26 (K5 x0 x1 x2 (.slice ao2 nv2 cv2) (.slice bo2 mv2 dv2))) := Bx2.out.later hBX4
  replace U3 : Hid (Yl X4 (.slice ao3 nv3 cv3) B1) := U3.out.later hBX4
  replace V3 : Hid (Yl X4 (.slice bo3 mv3 dv3) B2) := V3.out.later hBX4
  replace Bx3 : Hid (Blk X4 w6.heap.size 26 (K5 y0 y1 y2 (.slice ao3 nv3 cv3) (.slice bo3 mv3 dv3))) := Bx3.out.later hBX4
  replace U4 : Hid (Yl X4 (.slice ao4 nv4 cv4) B1) := U4.out.later hBX4
  replace V4 : Hid (Yl X4 (.slice bo4 mv4 dv4) B2) := V4.out.later hBX4
  have Bx4 : Hid (Blk X4 w7.heap.size 26 (K5 y0 y1 y2 (.slice ao4 nv4 cv4) (.slice bo4 mv4 dv4))) := hk
  clear hX4 hk hu hv
  go_wp2_with fail
  rw [HX4.out]
  refine (Con5.out _ _ _ NU.out NV.out hTX4).mono ?_
  rintro e w8 ⟨u5, v5, rfl, hu, hv, hB8⟩
  clear  a0 a1 a2_ a3 a4 hza
  obtain ⟨ao5, nv5, cv5, rfl⟩ := hu.slice
  obtain ⟨bo5, mv5, dv5, rfl⟩ := hv.slice
  have hT8 := then_below hTX4 hB8
  have hQ8 := then_below hQX4 hB8
  replace NU : Hid (Yl w8 (.slice ao nv cv) ns) := NU.out.later hB8
  replace NV : Hid (Yl w8 (.slice bo mv dv) ls) := NV.out.later hB8
  replace HA : Hid (Blk w8 w3.heap.size 26 (K5 a b c (.slice ao nv cv) (.slice bo mv dv))) := HA.out.later hB8
  replace HY : Hid (Yo w8 X0.heap.size (.slice ao1 nv1 cv1) A1) := HY.out.later hB8
  replace U1 : Hid (Yl w8 (.slice ao1 nv1 cv1) A1) := U1.out.later hB8
  replace V1 : Hid (Yl w8 (.slice bo1 mv1 dv1) A2) := V1.out.later hB8
  replace Bx1 : Hid (Blk w8 w4.heap.size 26 (K5 x0 x1 x2 (.slice ao1 nv1 cv1) (.slice bo1 mv1 dv1))) := Bx1.out.later hB8
  replace U2 : Hid (Yl w8 (.slice ao2 nv2 cv2) A1) := U2.out.later hB8
  replace V2 : Hid (Yl w8 (.slice bo2 mv2 dv2) A2) := V2.out.later hB8
  replace Bx2 : Hid (Blk w8 w5.heap.size 26 (K5 x0 x1 x2 (.slice ao2 nv2 cv2) (.slice bo2 mv2 dv2))) := Bx2.out.later hB8
  replace U3 : Hid (Yl w8 (.slice ao3 nv3 cv3) B1) := U3.out.later hB8
  replace V3 : Hid (Yl w8 (.slice bo3 mv3 dv3) B2) := V3.out.later hB8
  replace Bx3 : Hid (Blk w8 w6.heap.size 26 (K5 y0 y1 y2 (.slice ao3 nv3 cv3) (.slice bo3 mv3 dv3))) := Bx3.out.later hB8
  replace U4 : Hid (Yl w8 (.slice ao4 nv4 cv4) B1) := U4.out.later hB8
  replace V4 : Hid (Yl w8 (.slice bo4 mv4 dv4) B2) := V4.out.later hB8
  replace Bx4 : Hid (Blk w8 w7.heap.size 26 (K5 y0 y1 y2 (.slice ao4 nv4 cv4) (.slice bo4 mv4 dv4))) := Bx4.out.later hB8
  have U5 : Hid (Yl w8 (.slice ao5 nv5 cv5) D1) := hu.yl
  have V5 : Hid (Yl w8 (.slice bo5 mv5 dv5) D2) := hv.yl
  obtain ⟨p0, p1, p2, p3, p4, hz⟩ := hK.yard hT8
  obtain ⟨X5, hX5, hBX5, hk⟩ := one_start w8 (K5 y0 y1 y2 (.slice ao5 nv5 cv5) (.slice bo5 mv5 dv5)) 26
  have HX5 : Hid (w8.alloc (.cells (K5 y0 y1 y2 (.slice ao5 nv5 cv5) (.slice bo5 mv5 dv5)) 26) = X5) := hX5
  have hTX5 := then_below hT8 hBX5
  have hQX5 := then_below hQ8 hBX5
  replace NU : Hid (Yl X5 (.slice ao nv cv) ns) := NU.out.later hBX5
  replace NV : Hid (Yl X5 (.slice bo mv dv) ls) := NV.out.later hBX5
  replace HA : Hid (Blk X5 w3.heap.size 26 (K5 a b c (.slice ao nv cv) (.slice bo mv dv))) := HA.out.later hBX5
  replace HY : Hid (Yo X5 X0.heap.size (.slice ao1 nv1 cv1) A1) := HY.out.later hBX5
  replace U1 : Hid (Yl X5 (.slice ao1 nv1 cv1) A1) := U1.out.later hBX5
  replace V1 : Hid (Yl X5 (.slice bo1 mv1 dv1) A2) := V1.out.later hBX5
  replace Bx1 : Hid (Blk X5 w4.heap.size 26 (K5 x0 x1 x2 (.slice ao1 nv1 cv1) (.slice bo1 mv1 dv1))) := Bx1.out.later hBX5
  replace U2 : Hid (Yl X5 (.slice ao2 nv2 cv2) A1) := U2.out.later hBX5
  replace V2 : Hid (Yl X5 (.slice bo2 mv2 dv2) A2) := V2.out.later hBX5
  replace Bx2 : Hid (Blk X5 w5.heap.size 26 (K5 x0 x1 x2 (.slice ao2 nv2 cv2) (.slice bo2 mv2 dv2))) := Bx2.out.later hBX5
  replace U3 : Hid (Yl X5 (.slice ao3 nv3 cv3) B1) := U3.out.later hBX5
  replace V3 : Hid (Yl X5 (.slice bo3 mv3 dv3) B2) := V3.out.later hBX5
  replace Bx3 : Hid (Blk X5 w6.heap.size 26 (K5 y0 y1 y2 (.slice ao3 nv3 cv3) (.slice bo3 mv3 dv3))) := Bx3.out.later hBX5
  replace U4 : Hid (Yl X5 (.slice ao4 nv4 cv4) B1) := U4.out.later hBX5
  replace V4 : Hid (Yl X5 (.slice bo4 mv4 dv4) B2) := V4.out.later hBX5
  replace Bx4 : Hid (Blk X5 w7.heap.size 26 (K5 y0 y1 y2 (.slice ao4 nv4 cv4) (.slice bo4 mv4 dv4))) := Bx4.out.later hBX5
  replace U5 : Hid (Yl X5 (.slice ao5 nv5 cv5) D1) := U5.out.later hBX5
  replace V5 : Hid (Yl X5 (.slice bo5 mv5 dv5) D2) := V5.out.later hBX5
  have Bx5 : Hid (Blk X5 w8.heap.size 26 (K5 y0 y1 y2 (.slice ao5 nv5 cv5) (.slice bo5 mv5 dv5))) := hk
  clear hX5 hk hu hv
  go_wp2_with fail
  rw [HX5.out]
  refine (Con6.out HSM.out _ hTX5).mono ?_
  rintro e w9 ⟨u6, v6, rfl, hu, hv, hB9⟩
  clear  p0 p1 p2 p3 p4 hz
  obtain ⟨ao6, nv6, cv6, rfl⟩ := hu.slice
  obtain ⟨bo6, mv6, dv6, rfl⟩ := hv.slice
  have hT9 := then_below hTX5 hB9
  have hQ9 := then_below hQX5 hB9
  replace NU : Hid (Yl w9 (.slice ao nv cv) ns) := NU.out.later hB9
  replace NV : Hid (Yl w9 (.slice bo mv dv) ls) := NV.out.later hB9
  replace HA : Hid (Blk w9 w3.heap.size 26 (K5 a b c (.slice ao nv cv) (.slice bo mv dv))) := HA.out.later hB9
  replace HY : Hid (Yo w9 X0.heap.size (.slice ao1 nv1 cv1) A1) := HY.out.later hB9
  replace U1 : Hid (Yl w9 (.slice ao1 nv1 cv1) A1) := U1.out.later hB9
  replace V1 : Hid (Yl w9 (.slice bo1 mv1 dv1) A2) := V1.out.later hB9
  replace Bx1 : Hid (Blk w9 w4.heap.size 26 (K5 x0 x1 x2 (.slice ao1 nv1 cv1) (.slice bo1 mv1 dv1))) := Bx1.out.later hB9
  replace U2 : Hid (Yl w9 (.slice ao2 nv2 cv2) A1) := U2.out.later hB9
  replace V2 : Hid (Yl w9 (.slice bo2 mv2 dv2) A2) := V2.out.later hB9
  replace Bx2 : Hid (Blk w9 w5.heap.size 26 (K5 x0 x1 x2 (.slice ao2 nv2 cv2) (.slice bo2 mv2 dv2))) := Bx2.out.later hB9
  replace U3 : Hid (Yl w9 (.slice ao3 nv3 cv3) B1) := U3.out.later hB9
  replace V3 : Hid (Yl w9 (.slice bo3 mv3 dv3) B2) := V3.out.later hB9
  replace Bx3 : Hid (Blk w9 w6.heap.size 26 (K5 y0 y1 y2 (.slice ao3 nv3 cv3) (.slice bo3 mv3 dv3))) := Bx3.out.later hB9
  replace U4 : Hid (Yl w9 (.slice ao4 nv4 cv4) B1) := U4.out.later hB9
  replace V4 : Hid (Yl w9 (.slice bo4 mv4 dv4) B2) := V4.out.later hB9
  replace Bx4 : Hid (Blk w9 w7.heap.size 26 (K5 y0 y1 y2 (.slice ao4 nv4 cv4) (.slice bo4 mv4 dv4))) := Bx4.out.later hB9
  replace U5 : Hid (Yl w9 (.slice ao5 nv5 cv5) D1) := U5.out.later hB9
  replace V5 : Hid (Yl w9 (.slice bo5 mv5 dv5) D2) := V5.out.later hB9
  replace Bx5 : Hid (Blk w9 w8.heap.size 26 (K5 y0 y1 y2 (.slice ao5 nv5 cv5) (.slice bo5 mv5 dv5))) := Bx5.out.later hB9
  have U6 : Hid (Yl w9 (.slice ao6 nv6 cv6) D1) := hu.yl
  have V6 : Hid (Yl w9 (.slice bo6 mv6 dv6) D2) := hv.yl
  obtain ⟨p0, p1, p2, p3, p4, hz⟩ := hK.yard hT9
  obtain ⟨X6, hX6, hBX6, hk⟩ := one_start w9 (K5 y0 y1 y2 (.slice ao6 nv6 cv6) (.slice bo6 mv6 dv6)) 26
  have HX6 : Hid (w9.alloc (.cells (K5 y0 y1 y2 (.slice ao6 nv6 cv6) (.slice bo6 mv6 dv6)) 26) = X6) := hX6
  have hTX6 := then_below hT9 hBX6
  have hQX6 := then_below hQ9 hBX6
  replace NU : Hid (Yl X6 (.slice ao nv cv) ns) := NU.out.later hBX6
  replace NV : Hid (Yl X6 (.slice bo mv dv) ls) := NV.out.later hBX6
  replace HA : Hid (Blk X6 w3.heap.size 26 (K5 a b c (.slice ao nv cv) (.slice bo mv dv))) := HA.out.later hBX6
  replace HY : Hid (Yo X6 X0.heap.size (.slice ao1 nv1 cv1) A1) := HY.out.later hBX6
  replace U1 : Hid (Yl X6 (.slice ao1 nv1 cv1) A1) := U1.out.later hBX6
  replace V1 : Hid (Yl X6 (.slice bo1 mv1 dv1) A2) := V1.out.later hBX6
  replace Bx1 : Hid (Blk X6 w4.heap.size 26 (K5 x0 x1 x2 (.slice ao1 nv1 cv1) (.slice bo1 mv1 dv1))) := Bx1.out.later hBX6
  replace U2 : Hid (Yl X6 (.slice ao2 nv2 cv2) A1) := U2.out.later hBX6
  replace V2 : Hid (Yl X6 (.slice bo2 mv2 dv2) A2) := V2.out.later hBX6
  replace Bx2 : Hid (Blk X6 w5.heap.size 26 (K5 x0 x1 x2 (.slice ao2 nv2 cv2) (.slice bo2 mv2 dv2))) := Bx2.out.later hBX6
  replace U3 : Hid (Yl X6 (.slice ao3 nv3 cv3) B1) := U3.out.later hBX6
  replace V3 : Hid (Yl X6 (.slice bo3 mv3 dv3) B2) := V3.out.later hBX6
  replace Bx3 : Hid (Blk X6 w6.heap.size 26 (K5 y0 y1 y2 (.slice ao3 nv3 cv3) (.slice bo3 mv3 dv3))) := Bx3.out.later hBX6
  replace U4 : Hid (Yl X6 (.slice ao4 nv4 cv4) B1) := U4.out.later hBX6
  replace V4 : Hid (Yl X6 (.slice bo4 mv4 dv4) B2) := V4.out.later hBX6
  replace Bx4 : Hid (Blk X6 w7.heap.size 26 (K5 y0 y1 y2 (.slice ao4 nv4 cv4) (.slice bo4 mv4 dv4))) := Bx4.out.later hBX6
  replace U5 : Hid (Yl X6 (.slice ao5 nv5 cv5) D1) := U5.out.later hBX6
  replace V5 : Hid (Yl X6 (.slice bo5 mv5 dv5) D2) := V5.out.later hBX6
  replace Bx5 : Hid (Blk X6 w8.heap.size 26 (K5 y0 y1 y2 (.slice ao5 nv5 cv5) (.slice bo5 mv5 dv5))) := Bx5.out.later hBX6
  replace U6 : Hid (Yl X6 (.slice ao6 nv6 cv6) D1) := U6.out.later hBX6
  replace V6 : Hid (Yl X6 (.slice bo6 mv6 dv6) D2) := V6.out.later hBX6
  have Bx6 : Hid (Blk X6 w9.heap.size 26 (K5 y0 y1 y2 (.slice ao6 nv6 cv6) (.slice bo6 mv6 dv6))) := hk
  clear hX6 hk hu hv
  go_wp2_with fail
  rw [HX6.out]
  refine (Con7.out _).mono ?_
  rintro e w10 ⟨u7, v7, rfl, hu, hv, hB10⟩
  clear  p0 p1 p2 p3 p4 hz
  obtain ⟨ao7, nv7, cv7, rfl⟩ := hu.slice
  obtain ⟨bo7, mv7, dv7, rfl⟩ := hv.slice
  have hT10 := then_below hTX6 hB10
  have hQ10 := then_below hQX6 hB10
  replace NU : Hid (Yl w10 (.slice ao nv cv) ns) := NU.out.later hB10
  replace NV : Hid (Yl w10 (.slice bo mv dv) ls) := NV.out.later hB10
  replace HA : Hid (Blk w10 w3.heap.size 26 (K5 a b c (.slice ao nv cv) (.slice bo mv dv))) := HA.out.later hB10
  replace HY : Hid (Yo w10 X0.heap.size (.slice ao1 nv1 cv1) A1) := HY.out.later hB10
  replace U1 : Hid (Yl w10 (.slice ao1 nv1 cv1) A1) := U1.out.later hB10
  replace V1 : Hid (Yl w10 (.slice bo1 mv1 dv1) A2) := V1.out.later hB10
  replace Bx1 : Hid (Blk w10 w4.heap.size 26 (K5 x0 x1 x2 (.slice ao1 nv1 cv1) (.slice bo1 mv1 dv1))) := Bx1.out.later hB10
  replace U2 : Hid (Yl w10 (.slice ao2 nv2 cv2) A1) := U2.out.later hB10
  replace V2 : Hid (Yl w10 (.slice bo2 mv2 dv2) A2) := V2.out.later hB10
  replace Bx2 : Hid (Blk w10 w5.heap.size 26 (K5 x0 x1 x2 (.slice ao2 nv2 cv2) (.slice bo2 mv2 dv2))) := Bx2.out.later hB10
  replace U3 : Hid (Yl w10 (.slice ao3 nv3 cv3) B1) := U3.out.later hB10
  replace V3 : Hid (Yl w10 (.slice bo3 mv3 dv3) B2) := V3.out.later hB10
  replace Bx3 : Hid (Blk w10 w6.heap.size 26 (K5 y0 y1 y2 (.slice ao3 nv3 cv3) (.slice bo3 mv3 dv3))) := Bx3.out.later hB10
  replace U4 : Hid (Yl w10 (.slice ao4 nv4 cv4) B1) := U4.out.later hB10
  replace V4 : Hid (Yl w10 (.slice bo4 mv4 dv4) B2) := V4.out.later hB10
  replace Bx4 : Hid (Blk w10 w7.heap.size 26 (K5 y0 y1 y2 (.slice ao4 nv4 cv4) (.slice bo4 mv4 dv4))) := Bx4.out.later hB10
  replace U5 : Hid (Yl w10 (.slice ao5 nv5 cv5) D1) := U5.out.later hB10
  replace V5 : Hid (Yl w10 (.slice bo5 mv5 dv5) D2) := V5.out.later hB10
  replace Bx5 : Hid (Blk w10 w8.heap.size 26 (K5 y0 y1 y2 (.slice ao5 nv5 cv5) (.slice bo5 mv5 dv5))) := Bx5.out.later hB10
  replace U6 : Hid (Yl w10 (.slice ao6 nv6 cv6) D1) := U6.out.later hB10
  replace V6 : Hid (Yl w10 (.slice bo6 mv6 dv6) D2) := V6.out.later hB10
  replace Bx6 : Hid (Blk w10 w9.heap.size 26 (K5 y0 y1 y2 (.slice ao6 nv6 cv6) (.slice bo6 mv6 dv6))) := Bx6.out.later hB10
  have U7 : Hid (Yl w10 (.slice ao7 nv7 cv7) E1) := hu.yl
  have V7 : Hid (Yl w10 (.slice bo7 mv7 dv7) E2) := hv.yl
  obtain ⟨p0, p1, p2, p3, p4, hz⟩ := hK.yard hT10
  obtain ⟨X7, hX7, hBX7, hk⟩ := one_start w10 (K5 z0 z1 z2 (.slice ao7 nv7 cv7) (.slice bo7 mv7 dv7)) 26
  have HX7 : Hid (w10.alloc (.cells (K5 z0 z1 z2 (.slice ao7 nv7 cv7) (.slice bo7 mv7 dv7)) 26) = X7) := hX7
  have hTX7 := then_below hT10 hBX7
  have hQX7 := then_below hQ10 hBX7
  replace NU : Hid (Yl X7 (.slice ao nv cv) ns) := NU.out.later hBX7
  replace NV : Hid (Yl X7 (.slice bo mv dv) ls) := NV.out.later hBX7
  replace HA : Hid (Blk X7 w3.heap.size 26 (K5 a b c (.slice ao nv cv) (.slice bo mv dv))) := HA.out.later hBX7
  replace HY : Hid (Yo X7 X0.heap.size (.slice ao1 nv1 cv1) A1) := HY.out.later hBX7
  replace U1 : Hid (Yl X7 (.slice ao1 nv1 cv1) A1) := U1.out.later hBX7
  replace V1 : Hid (Yl X7 (.slice bo1 mv1 dv1) A2) := V1.out.later hBX7
  replace Bx1 : Hid (Blk X7 w4.heap.size 26 (K5 x0 x1 x2 (.slice ao1 nv1 cv1) (.slice bo1 mv1 dv1))) := Bx1.out.later hBX7
  replace U2 : Hid (Yl X7 (.slice ao2 nv2 cv2) A1) := U2.out.later hBX7
  replace V2 : Hid (Yl X7 (.slice bo2 mv2 dv2) A2) := V2.out.later hBX7
  replace Bx2 : Hid (Blk X7 w5.heap.size 26 (K5 x0 x1 x2 (.slice ao2 nv2 cv2) (.slice bo2 mv2 dv2))) := Bx2.out.later hBX7
  replace U3 : Hid (Yl X7 (.slice ao3 nv3 cv3) B1) := U3.out.later hBX7
  replace V3 : Hid (Yl X7 (.slice bo3 mv3 dv3) B2) := V3.out.later hBX7
  replace Bx3 : Hid (Blk X7 w6.heap.size 26 (K5 y0 y1 y2 (.slice ao3 nv3 cv3) (.slice bo3 mv3 dv3))) := Bx3.out.later hBX7
  replace U4 : Hid (Yl X7 (.slice ao4 nv4 cv4) B1) := U4.out.later hBX7
  replace V4 : Hid (Yl X7 (.slice bo4 mv4 dv4) B2) := V4.out.later hBX7
  replace Bx4 : Hid (Blk X7 w7.heap.size 26 (K5 y0 y1 y2 (.slice ao4 nv4 cv4) (.slice bo4 mv4 dv4))) := Bx4.out.later hBX7
  replace U5 : Hid (Yl X7 (.slice ao5 nv5 cv5) D1) := U5.out.later hBX7
  replace V5 : Hid (Yl X7 (.slice bo5 mv5 dv5) D2) := V5.out.later hBX7
  replace Bx5 : Hid (Blk X7 w8.heap.size 26 (K5 y0 y1 y2 (.slice ao5 nv5 cv5) (.slice bo5 mv5 dv5))) := Bx5.out.later hBX7
  replace U6 : Hid (Yl X7 (.slice ao6 nv6 cv6) D1) := U6.out.later hBX7
  replace V6 : Hid (Yl X7 (.slice bo6 mv6 dv6) D2) := V6.out.later hBX7
  replace Bx6 : Hid (Blk X7 w9.heap.size 26 (K5 y0 y1 y2 (.slice ao6 nv6 cv6) (.slice bo6 mv6 dv6))) := Bx6.out.later hBX7
  replace U7 : Hid (Yl X7 (.slice ao7 nv7 cv7) E1) := U7.out.later hBX7
  replace V7 : Hid (Yl X7 (.slice bo7 mv7 dv7) E2) := V7.out.later hBX7
  have Bx7 : Hid (Blk X7 w10.heap.size 26 (K5 z0 z1 z2 (.slice ao7 nv7 cv7) (.slice bo7 mv7 dv7))) := hk
  clear hX7 hk hu hv
  go_wp2_with fail
  rw [HX7.out]
  refine (Con8.out _).mono ?_
  rintro e w11 ⟨u8, v8, rfl, hu, hv, hB11⟩
  clear  p0 p1 p2 p3 p4 hz
  obtain ⟨ao8, nv8, cv8, rfl⟩ := hu.slice
  obtain ⟨bo8, mv8, dv8, rfl⟩ := hv.slice
  have hT11 := then_below hTX7 hB11
  have hQ11 := then_below hQX7 hB11
  replace NU : Hid (Yl w11 (.slice ao nv cv) ns) := NU.out.later hB11
  replace NV : Hid (Yl w11 (.slice bo mv dv) ls) := NV.out.later hB11
  replace HA : Hid (Blk w11 w3.heap.size 26 (K5 a b c (.slice ao nv cv) (.slice bo mv dv))) := HA.out.later hB11
  replace HY : Hid (Yo w11 X0.heap.size (.slice ao1 nv1 cv1) A1) := HY.out.later hB11
  replace U1 : Hid (Yl w11 (.slice ao1 nv1 cv1) A1) := U1.out.later hB11
  replace V1 : Hid (Yl w11 (.slice bo1 mv1 dv1) A2) := V1.out.later hB11
  replace Bx1 : Hid (Blk w11 w4.heap.size 26 (K5 x0 x1 x2 (.slice ao1 nv1 cv1) (.slice bo1 mv1 dv1))) := Bx1.out.later hB11
  replace U2 : Hid (Yl w11 (.slice ao2 nv2 cv2) A1) := U2.out.later hB11
  replace V2 : Hid (Yl w11 (.slice bo2 mv2 dv2) A2) := V2.out.later hB11
  replace Bx2 : Hid (Blk w11 w5.heap.size 26 (K5 x0 x1 x2 (.slice ao2 nv2 cv2) (.slice bo2 mv2 dv2))) := Bx2.out.later hB11
  replace U3 : Hid (Yl w11 (.slice ao3 nv3 cv3) B1) := U3.out.later hB11
  replace V3 : Hid (Yl w11 (.slice bo3 mv3 dv3) B2) := V3.out.later hB11
  replace Bx3 : Hid (Blk w11 w6.heap.size 26 (K5 y0 y1 y2 (.slice ao3 nv3 cv3) (.slice bo3 mv3 dv3))) := Bx3.out.later hB11
  replace U4 : Hid (Yl w11 (.slice ao4 nv4 cv4) B1) := U4.out.later hB11
  replace V4 : Hid (Yl w11 (.slice bo4 mv4 dv4) B2) := V4.out.later hB11
  replace Bx4 : Hid (Blk w11 w7.heap.size 26 (K5 y0 y1 y2 (.slice ao4 nv4 cv4) (.slice bo4 mv4 dv4))) := Bx4.out.later hB11
  replace U5 : Hid (Yl w11 (.slice ao5 nv5 cv5) D1) := U5.out.later hB11
  replace V5 : Hid (Yl w11 (.slice bo5 mv5 dv5) D2) := V5.out.later hB11
  replace Bx5 : Hid (Blk w11 w8.heap.size 26 (K5 y0 y1 y2 (.slice ao5 nv5 cv5) (.slice bo5 mv5 dv5))) := Bx5.out.later hB11
  replace U6 : Hid (Yl w11 (.slice ao6 nv6 cv6) D1) := U6.out.later hB11
  replace V6 : Hid (Yl w11 (.slice bo6 mv6 dv6) D2) := V6.out.later hB11
  replace Bx6 : Hid (Blk w11 w9.heap.size 26 (K5 y0 y1 y2 (.slice ao6 nv6 cv6) (.slice bo6 mv6 dv6))) := Bx6.out.later hB11
  replace U7 : Hid (Yl w11 (.slice ao7 nv7 cv7) E1) := U7.out.later hB11
  replace V7 : Hid (Yl w11 (.slice bo7 mv7 dv7) E2) := V7.out.later hB11
  replace Bx7 : Hid (Blk w11 w10.heap.size 26 (K5 z0 z1 z2 (.slice ao7 nv7 cv7) (.slice bo7 mv7 dv7))) := Bx7.out.later hB11
  have U8 : Hid (Yl w11 (.slice ao8 nv8 cv8) E1) := hu.yl
  have V8 : Hid (Yl w11 (.slice bo8 mv8 dv8) E2) := hv.yl
  obtain ⟨k0, k1, k2, k3, k4, hzk⟩ := Bx1.out.five
  obtain ⟨l0, l1, l2_, l3, l4, hzl⟩ := Bx2.out.five
  obtain ⟨X8, hX8, hBX8, hk⟩ := one_start w11 (K5 z0 z1 z2 (.slice ao8 nv8 cv8) (.slice bo8 mv8 dv8)) 26
  have HX8 : Hid (w11.alloc (.cells (K5 z0 z1 z2 (.slice ao8 nv8 cv8) (.slice bo8 mv8 dv8)) 26) = X8) := hX8
  have hTX8 := then_below hT11 hBX8
  have hQX8 := then_below hQ11 hBX8
  replace NU : Hid (Yl X8 (.slice ao nv cv) ns) := NU.out.later hBX8
  replace NV : Hid (Yl X8 (.slice bo mv dv) ls) := NV.out.later hBX8
  replace HA : Hid (Blk X8 w3.heap.size 26 (K5 a b c (.slice ao nv cv) (.slice bo mv dv))) := HA.out.later hBX8
  replace HY : Hid (Yo X8 X0.heap.size (.slice ao1 nv1 cv1) A1) := HY.out.later hBX8
  replace U1 : Hid (Yl X8 (.slice ao1 nv1 cv1) A1) := U1.out.later hBX8
  replace V1 : Hid (Yl X8 (.slice bo1 mv1 dv1) A2) := V1.out.later hBX8
  replace Bx1 : Hid (Blk X8 w4.heap.size 26 (K5 x0 x1 x2 (.slice ao1 nv1 cv1) (.slice bo1 mv1 dv1))) := Bx1.out.later hBX8
  replace U2 : Hid (Yl X8 (.slice ao2 nv2 cv2) A1) := U2.out.later hBX8
  replace V2 : Hid (Yl X8 (.slice bo2 mv2 dv2) A2) := V2.out.later hBX8
  replace Bx2 : Hid (Blk X8 w5.heap.size 26 (K5 x0 x1 x2 (.slice ao2 nv2 cv2) (.slice bo2 mv2 dv2))) := Bx2.out.later hBX8
  replace U3 : Hid (Yl X8 (.slice ao3 nv3 cv3) B1) := U3.out.later hBX8
  replace V3 : Hid (Yl X8 (.slice bo3 mv3 dv3) B2) := V3.out.later hBX8
  replace Bx3 : Hid (Blk X8 w6.heap.size 26 (K5 y0 y1 y2 (.slice ao3 nv3 cv3) (.slice bo3 mv3 dv3))) := Bx3.out.later hBX8
  replace U4 : Hid (Yl X8 (.slice ao4 nv4 cv4) B1) := U4.out.later hBX8
  replace V4 : Hid (Yl X8 (.slice bo4 mv4 dv4) B2) := V4.out.later hBX8
  replace Bx4 : Hid (Blk X8 w7.heap.size 26 (K5 y0 y1 y2 (.slice ao4 nv4 cv4) (.slice bo4 mv4 dv4))) := Bx4.out.later hBX8
  replace U5 : Hid (Yl X8 (.slice ao5 nv5 cv5) D1) := U5.out.later hBX8
  replace V5 : Hid (Yl X8 (.slice bo5 mv5 dv5) D2) := V5.out.later hBX8
  replace Bx5 : Hid (Blk X8 w8.heap.size 26 (K5 y0 y1 y2 (.slice ao5 nv5 cv5) (.slice bo5 mv5 dv5))) := Bx5.out.later hBX8
  replace U6 : Hid (Yl X8 (.slice ao6 nv6 cv6) D1) := U6.out.later hBX8
  replace V6 : Hid (Yl X8 (.slice bo6 mv6 dv6) D2) := V6.out.later hBX8
  replace Bx6 : Hid (Blk X8 w9.heap.size 26 (K5 y0 y1 y2 (.slice ao6 nv6 cv6) (.slice bo6 mv6 dv6))) := Bx6.out.later hBX8
  replace U7 : Hid (Yl X8 (.slice ao7 nv7 cv7) E1) := U7.out.later hBX8
  replace V7 : Hid (Yl X8 (.slice bo7 mv7 dv7) E2) := V7.out.later hBX8
  replace Bx7 : Hid (Blk X8 w10.heap.size 26 (K5 z0 z1 z2 (.slice ao7 nv7 cv7) (.slice bo7 mv7 dv7))) := Bx7.out.later hBX8
  replace U8 : Hid (Yl X8 (.slice ao8 nv8 cv8) E1) := U8.out.later hBX8
  replace V8 : Hid (Yl X8 (.slice bo8 mv8 dv8) E2) := V8.out.later hBX8
  have Bx8 : Hid (Blk X8 w11.heap.size 26 (K5 z0 z1 z2 (.slice ao8 nv8 cv8) (.slice bo8 mv8 dv8))) := hk
  clear hX8 hk hu hv
  go_wp2_with fail
  rw [HX8.out]
  refine (HM.out _ _ _ _ _ _ _ _ _ _ (FP1.out HSM.out) (FP2.out HSM.out) U1.out V1.out U2.out V2.out).mono ?_
  rintro e w12 ⟨rfl, hB12⟩
  clear k0 k1 k2 k3 k4 hzk l0 l1 l2_ l3 l4 hzl
  have hT12 := then_below hTX8 hB12
  have hQ12 := then_below hQX8 hB12
  clear U1 V1 U2 V2 Bx2
  replace NU : Hid (Yl w12 (.slice ao nv cv) ns) := NU.out.later hB12
  replace NV : Hid (Yl w12 (.slice bo mv dv) ls) := NV.out.later hB12
  replace HA : Hid (Blk w12 w3.heap.size 26 (K5 a b c (.slice ao nv cv) (.slice bo mv dv))) := HA.out.later hB12
  replace HY : Hid (Yo w12 X0.heap.size (.slice ao1 nv1 cv1) A1) := HY.out.later hB12
  replace Bx1 : Hid (Blk w12 w4.heap.size 26 (K5 x0 x1 x2 (.slice ao1 nv1 cv1) (.slice bo1 mv1 dv1))) := Bx1.out.later hB12
  replace U3 : Hid (Yl w12 (.slice ao3 nv3 cv3) B1) := U3.out.later hB12
  replace V3 : Hid (Yl w12 (.slice bo3 mv3 dv3) B2) := V3.out.later hB12
  replace Bx3 : Hid (Blk w12 w6.heap.size 26 (K5 y0 y1 y2 (.slice ao3 nv3 cv3) (.slice bo3 mv3 dv3))) := Bx3.out.later hB12
  replace U4 : Hid (Yl w12 (.slice ao4 nv4 cv4) B1) := U4.out.later hB12
  replace V4 : Hid (Yl w12 (.slice bo4 mv4 dv4) B2) := V4.out.later hB12
  replace Bx4 : Hid (Blk w12 w7.heap.size 26 (K5 y0 y1 y2 (.slice ao4 nv4 cv4) (.slice bo4 mv4 dv4))) := Bx4.out.later hB12
  replace U5 : Hid (Yl w12 (.slice ao5 nv5 cv5) D1) := U5.out.later hB12
  replace V5 : Hid (Yl w12 (.slice bo5 mv5 dv5) D2) := V5.out.later hB12
  replace Bx5 : Hid (Blk w12 w8.heap.size 26 (K5 y0 y1 y2 (.slice ao5 nv5 cv5) (.slice bo5 mv5 dv5))) := Bx5.out.later hB12
  replace U6 : Hid (Yl w12 (.slice ao6 nv6 cv6) D1) := U6.out.later hB12
  replace V6 : Hid (Yl w12 (.slice bo6 mv6 dv6) D2) := V6.out.later hB12
  replace Bx6 : Hid (Blk w12 w9.heap.size 26 (K5 y0 y1 y2 (.slice ao6 nv6 cv6) (.slice bo6 mv6 dv6))) := Bx6.out.later hB12
  replace U7 : Hid (Yl w12 (.slice ao7 nv7 cv7) E1) := U7.out.later hB12
  replace V7 : Hid (Yl w12 (.slice bo7 mv7 dv7) E2) := V7.out.later hB12
  replace Bx7 : Hid (Blk w12 w10.heap.size 26 (K5 z0 z1 z2 (.slice ao7 nv7 cv7) (.slice bo7 mv7 dv7))) := Bx7.out.later hB12
  replace U8 : Hid (Yl w12 (.slice ao8 nv8 cv8) E1) := U8.out.later hB12
  replace V8 : Hid (Yl w12 (.slice bo8 mv8 dv8) E2) := V8.out.later hB12
  replace Bx8 : Hid (Blk w12 w11.heap.size 26 (K5 z0 z1 z2 (.slice ao8 nv8 cv8) (.slice bo8 mv8 dv8))) := Bx8.out.later hB12
  obtain ⟨k0, k1, k2, k3, k4, hzk⟩ := Bx3.out.five
  obtain ⟨l0, l1, l2_, l3, l4, hzl⟩ := Bx4.out.five
  go_wp2_with fail
  refine (HM.out _ _ _ _ _ _ _ _ _ _ (FC1.out HSM.out) (FC2.out HSM.out) U3.out V3.out U4.out V4.out).mono ?_
  rintro e w13 ⟨rfl, hB13⟩
  clear k0 k1 k2 k3 k4 hzk l0 l1 l2_ l3 l4 hzl
  have hT13 := then_below hT12 hB13
  have hQ13 := then_below hQ12 hB13
  clear U3 V3 U4 V4 Bx3 Bx4
  replace NU : Hid (Yl w13 (.slice ao nv cv) ns) := NU.out.later hB13
  replace NV : Hid (Yl w13 (.slice bo mv dv) ls) := NV.out.later hB13
  replace HA : Hid (Blk w13 w3.heap.size 26 (K5 a b c (.slice ao nv cv) (.slice bo mv dv))) := HA.out.later hB13
  replace HY : Hid (Yo w13 X0.heap.size (.slice ao1 nv1 cv1) A1) := HY.out.later hB13
  replace Bx1 : Hid (Blk w13 w4.heap.size 26 (K5 x0 x1 x2 (.slice ao1 nv1 cv1) (.slice bo1 mv1 dv1))) := Bx1.out.later hB13
  replace U5 : Hid (Yl w13 (.slice ao5 nv5 cv5) D1) := U5.out.later hB13
  replace V5 : Hid (Yl w13 (.slice bo5 mv5 dv5) D2) := V5.out.later hB13
  replace Bx5 : Hid (Blk w13 w8.heap.size 26 (K5 y0 y1 y2 (.slice ao5 nv5 cv5) (.slice bo5 mv5 dv5))) := Bx5.out.later hB13
  replace U6 : Hid (Yl w13 (.slice ao6 nv6 cv6) D1) := U6.out.later hB13
  replace V6 : Hid (Yl w13 (.slice bo6 mv6 dv6) D2) := V6.out.later hB13
  replace Bx6 : Hid (Blk w13 w9.heap.size 26 (K5 y0 y1 y2 (.slice ao6 nv6 cv6) (.slice bo6 mv6 dv6))) := Bx6.out.later hB13
  replace U7 : Hid (Yl w13 (.slice ao7 nv7 cv7) E1) := U7.out.later hB13
  replace V7 : Hid (Yl w13 (.slice bo7 mv7 dv7) E2) := V7.out.later hB13
  replace Bx7 : Hid (Blk w13 w10.heap.size 26 (K5 z0 z1 z2 (.slice ao7 nv7 cv7) (.slice bo7 mv7 dv7))) := Bx7.out.later hB13
  replace U8 : Hid (Yl w13 (.slice ao8 nv8 cv8) E1) := U8.out.later hB13
  replace V8 : Hid (Yl w13 (.slice bo8 mv8 dv8) E2) := V8.out.later hB13
  replace Bx8 : Hid (Blk w13 w11.heap.size 26 (K5 z0 z1 z2 (.slice ao8 nv8 cv8) (.slice bo8 mv8 dv8))) := Bx8.out.later hB13
  obtain ⟨k0, k1, k2, k3, k4, hzk⟩ := Bx5.out.five
  obtain ⟨l0, l1, l2_, l3, l4, hzl⟩ := Bx6.out.five
  go_wp2_with fail
  refine (HM.out _ _ _ _ _ _ _ _ _ _ (FT1.out HSM.out) (FT2.out HSM.out) U5.out V5.out U6.out V6.out).mono ?_
  rintro e w14 ⟨rfl, hB14⟩
  clear k0 k1 k2 k3 k4 hzk l0 l1 l2_ l3 l4 hzl
  have hT14 := then_below hT13 hB14
  have hQ14 := then_below hQ13 hB14
  clear U5 V5 U6 V6 Bx5 Bx6
  replace NU : Hid (Yl w14 (.slice ao nv cv) ns) := NU.out.later hB14
  replace NV : Hid (Yl w14 (.slice bo mv dv) ls) := NV.out.later hB14
  replace HA : Hid (Blk w14 w3.heap.size 26 (K5 a b c (.slice ao nv cv) (.slice bo mv dv))) := HA.out.later hB14
  replace HY : Hid (Yo w14 X0.heap.size (.slice ao1 nv1 cv1) A1) := HY.out.later hB14
  replace Bx1 : Hid (Blk w14 w4.heap.size 26 (K5 x0 x1 x2 (.slice ao1 nv1 cv1) (.slice bo1 mv1 dv1))) := Bx1.out.later hB14
  replace U7 : Hid (Yl w14 (.slice ao7 nv7 cv7) E1) := U7.out.later hB14
  replace V7 : Hid (Yl w14 (.slice bo7 mv7 dv7) E2) := V7.out.later hB14
  replace Bx7 : Hid (Blk w14 w10.heap.size 26 (K5 z0 z1 z2 (.slice ao7 nv7 cv7) (.slice bo7 mv7 dv7))) := Bx7.out.later hB14
  replace U8 : Hid (Yl w14 (.slice ao8 nv8 cv8) E1) := U8.out.later hB14
  replace V8 : Hid (Yl w14 (.slice bo8 mv8 dv8) E2) := V8.out.later hB14
  replace Bx8 : Hid (Blk w14 w11.heap.size 26 (K5 z0 z1 z2 (.slice ao8 nv8 cv8) (.slice bo8 mv8 dv8))) := Bx8.out.later hB14
  obtain ⟨k0, k1, k2, k3, k4, hzk⟩ := Bx7.out.five
  obtain ⟨l0, l1, l2_, l3, l4, hzl⟩ := Bx8.out.five
  go_wp2_with fail
  refine (HM.out _ _ _ _ _ _ _ _ _ _ FN1.out FN2.out U7.out V7.out U8.out V8.out).mono ?_
  rintro e w15 ⟨rfl, hB15⟩
  clear k0 k1 k2 k3 k4 hzk l0 l1 l2_ l3 l4 hzl
  have hT15 := then_below hT14 hB15
  have hQ15 := then_below hQ14 hB15
  clear U7 V7 U8 V8 Bx7 Bx8
  replace NU : Hid (Yl w15 (.slice ao nv cv) ns) := NU.out.later hB15
  replace NV : Hid (Yl w15 (.slice bo mv dv) ls) := NV.out.later hB15
  replace HA : Hid (Blk w15 w3.heap.size 26 (K5 a b c (.slice ao nv cv) (.slice bo mv dv))) := HA.out.later hB15
  replace HY : Hid (Yo w15 X0.heap.size (.slice ao1 nv1 cv1) A1) := HY.out.later hB15
  replace Bx1 : Hid (Blk w15 w4.heap.size 26 (K5 x0 x1 x2 (.slice ao1 nv1 cv1) (.slice bo1 mv1 dv1))) := Bx1.out.later hB15
  obtain ⟨g, cur, hnv, hao, hYw⟩ := HY.out.yw (FP1.out HSM.out)
  have hnv : nv1 ≤ 100000 := by have := (FP1.out HSM.out).len; omega
  have HYw : Hid (Yw w15 X0.heap.size g nv1 cur) := hYw
  have HT : Hid (Below W.heap.size W X0) := hTX0
  have hQ := hQ15
  clear HY hYw Con1 Con2 Con3 Con4 Con5 Con6 Con7 Con8 HM HTw HG HG2 FP1 FP2 FC1 FC2 FT1 FT2 FN1 FN2
  have NU0 : Hid (∀ wr, Below X0.heap.size X0 wr → Yl wr (.slice ao nv cv) ns) := fun wr h => NX.out.later h
  have NV0 : Hid (∀ wr, Below X0.heap.size X0 wr → Yl wr (.slice bo mv dv) ls) := fun wr h => NZ.out.later h
  have HA0 : Hid (∀ wr, Below X0.heap.size X0 wr → Blk wr w3.heap.size 26 (K5 a b c (.slice ao nv cv) (.slice bo mv dv))) := fun wr h => HAX.out.later h
  clear NU NV HA NX NZ HAX
  go_wp2
  go_loopw [33] (fun i wr => ∃ k : Nat, k ≤ nv1 ∧ i = .int .i64 k ∧ Hid (Yw wr X0.heap.size g nv1 cur) ∧ Hid (Blk wr w4.heap.size 26 (K5 x0 x1 x2 (.slice ao1 nv1 cv1) (.slice bo1 mv1 dv1))) ∧ Below X0.heap.size X0 wr) (fun i _ => nv1 - (intOf i).toNat)
  case atStart => exact ⟨0, by omega, rfl, HYw, Bx1, hQ⟩
  case round =>
    clear HYw Bx1 hQ
    obtain ⟨k, hk, rfl, HYw, Bx1, hQ⟩ := hrel
    by_cases hlt : (k : Int) < (nv1 : Int)
    · have hk' : k < nv1 := by omega
      obtain rfl := hao (by omega)
      obtain ⟨br, m, cap, hcur, hcell, hg, hm, hrow⟩ := HYw.out.get hk'
      obtain ⟨k0, k1, k2, k3, k4, hzk⟩ := Bx1.out.five
      clear hrow
      go_wp2
      clear hcell hg k0 k1 k2 k3 k4 hzk
      go_loopw [34] (fun i wx => ∃ j : Nat, j ≤ m ∧ i = .int .i64 j ∧ Hid (Yw wx X0.heap.size g nv1 cur) ∧ Hid (Blk wx w4.heap.size 26 (K5 x0 x1 x2 (.slice (some ⟨g, 0, none⟩) nv1 cv1) (.slice bo1 mv1 dv1))) ∧ Below X0.heap.size X0 wx) (fun i _ => m - (intOf i).toNat)
      case atStart => exact ⟨0, by omega, rfl, HYw, Bx1, hQ⟩
      case round =>
        rename World => wx
        clear HYw Bx1 hQ
        obtain ⟨j, hj, rfl, HYw, Bx1, hQ⟩ := hrel
        obtain ⟨br', m', cap', hcur', hcell, hg, -, hrow⟩ := HYw.out.get hk'
        rw [hcur] at hcur'
        simp only [Option.some.injEq, Value.slice.injEq] at hcur'
        obtain ⟨rfl, rfl, rfl⟩ := hcur'
        obtain ⟨k0, k1, k2, k3, k4, hzk⟩ := Bx1.out.five
        by_cases hlj : (j : Int) < (m : Int)
        · have hj' : j < m := by omega
          obtain ⟨gk, rfl, hgk, hOw⟩ := hrow j hj'
          obtain ⟨⟨z, hz⟩, hf⟩ := hOw.cell hj'
          have hgl := hOw.lt
          have HWS : Hid (∀ z, Yw (wx.setCell ⟨gk, j * 3 + 2, none⟩ (.int .i64 z)) X0.heap.size g nv1 cur) := fun z => HYw.out.set hOw _ z
          have HKS : Hid (∀ z : Int, Blk (wx.setCell ⟨gk, j * 3 + 2, none⟩ (.int .i64 z)) w4.heap.size 26 (K5 x0 x1 x2 (.slice (some ⟨g, 0, none⟩) nv1 cv1) (.slice bo1 mv1 dv1))) := fun z => Bx1.out.owner hOw (by decide) _ _
          have HTS : Hid (∀ z : Int, Below X0.heap.size X0 (wx.setCell ⟨gk, j * 3 + 2, none⟩ (.int .i64 z))) := fun z => hQ.setCell (p := ⟨gk, j * 3 + 2, none⟩) hgk (.int .i64 z)
          clear hrow hOw HYw Bx1
          go_wp2
          go_roundw
          case rel => exact ⟨j + 1, by omega, by go_num, HWS.out _, HKS.out _, HTS.out _⟩
          case measure => simp [intOf]; omega
        · clear hrow
          go_wp2
          go_roundw
          case rel => exact ⟨k + 1, by omega, by go_num, HYw, Bx1, hQ⟩
          case measure => simp [intOf]; omega
    · have hTr := then_below HT.out hQ
      obtain ⟨k0, k1, k2, k3, k4, hzk⟩ := Bx1.out.five
      have e0 := Ext.cell (hK.later hTr) 0
      have e1 := Ext.cell (hK.later hTr) 1
      have e2 := Ext.cell (hK.later hTr) 2
      have e3 := Ext.cell (hK.later hTr) 3
      have e4 := Ext.cell (hK.later hTr) 4
      have f0 := Ext.cell (hO.later hTr) 0
      have f1 := Ext.cell (hO.later hTr) 1
      have f2 := Ext.cell (hO.later hTr) 2
      have f3 := Ext.cell (hO.later hTr) 3
      have f4 := Ext.cell (hO.later hTr) 4
      have g0 := Ext.cell (HA0.out _ hQ) 0
      have g1 := Ext.cell (HA0.out _ hQ) 1
      have g2 := Ext.cell (HA0.out _ hQ) 2
      have g3 := Ext.cell (HA0.out _ hQ) 3
      have g4 := Ext.cell (HA0.out _ hQ) 4
      simp at e0 e1 e2 e3 e4 f0 f1 f2 f3 f4 g0 g1 g2 g3 g4
      have Z1 : Hid (∀ X : Ext wr, Calls Try.prog 12 #[Y5 a b c (.slice ao nv cv) (.slice bo mv dv)] X.wd fun e W' => e = .returned (I qy) ∧ Below X.wd.heap.size X.wd W') := fun X => HE.out _ _ _ (NU0.out _ (then_below hQ X.le)) (NV0.out _ (then_below hQ X.le)) (then_below hTr X.le)
      have Z2 : Hid (∀ X : Ext wr, Calls Try.prog 23 #[Y5 a b c (.slice an ns.length cn) (.slice al ls.length cl)] X.wd fun e W' => e = .returned (I qy) ∧ Below X.wd.heap.size X.wd W') := fun X => HEr.out HSM.out _ (then_below hTr X.le)
      have Z3 : Hid (∀ X : Ext wr, Calls Try.prog 24 #[Y5 a b c (.slice an ns.length cn) (.slice al ls.length cl), Y5 a2 b2 c2 (.slice an2 ns2.length cn2) (.slice al2 ls2.length cl2)] X.wd fun e W' => e = .returned (.bool sm) ∧ Below X.wd.heap.size X.wd W') := fun X => HS1.out HSM.out _ (then_below hTr X.le)
      have Z4 : Hid (∀ X : Ext wr, Calls Try.prog 22 #[Y5 a b c (.slice an ns.length cn) (.slice al ls.length cl), Y5 a2 b2 c2 (.slice an2 ns2.length cn2) (.slice al2 ls2.length cl2)] X.wd fun e W' => e = .returned (.bool sm) ∧ Below X.wd.heap.size X.wd W') := fun X => HS2.out HSM.out _ (then_below hTr X.le)
      have Z5 : Hid (∀ X : Ext wr, Calls Try.prog 22 #[Y5 a b c (.slice ao nv cv) (.slice bo mv dv), Y5 a b c (.slice an ns.length cn) (.slice al ls.length cl)] X.wd fun e W' => e = .returned (.bool true) ∧ Below X.wd.heap.size X.wd W') := fun X => HS3.out HSM.out _ _ _ (NU0.out _ (then_below hQ X.le)) (NV0.out _ (then_below hQ X.le)) (then_below hTr X.le)
      clear HE HEr HS1 HS2 HS3 HYw
      go_wp2_with fail
      refine wp_region_look hmx (by kernel_rfl) ?_
      repeat (go_big_quiet_step (first
        | (go_at_call 12; exact calls_ext (Z1.out _))
        | (go_at_call 23; exact calls_ext (Z2.out _))
        | (go_at_call 24; exact calls_ext (Z3.out _))
        | (go_at_call 22; first | with_reducible exact calls_ext (Z4.out _) | with_reducible exact calls_ext (Z5.out _))))
      refine wpQuiet_nil ?_
      intro X
      have hTz := then_below hTr X.le
      go_wp2
      go_ret
      exact ⟨by simp, then_below hB hTz⟩

end Go.Proofs.Ytabhlmckncgdjaa
