/-
  free.taken, free.Holds: what a place takes; whether it takes nothing that is in some sets.
-/
import Derived.Test.YtldcagjnngkabaaGreatDoorPart26
import Derived.Test.YtldcagjnngkabaaGreatDoorPart17
import Derived.Test.YtldcagjnngkabaaGreatDoorPart16
import Derived.Test.YtldcagjnngkabaaGreatDoorPart3
import Derived.Test.YtldcagjnngkabaaGreatDoorPart4
import Derived.Test.YtldcagjnngkabaaGreatDoorPart5
import Derived.Test.YtldcagjnngkabaaGreatDoorPart1
import Derived.Test.YtldcagjnngkabaaGreatDoorRows
import Derived.ProofKit
import Derived.OpenShut
import Derived.ChangeOld
import Derived.Below
import Derived.Laws.IdiomArrays
import Derived.ChangeSame
import Derived.ChangeSlices
namespace Go.Proofs.YtldcagjnngkabaaGreatDoor
open Go Go.RowKit Go.Shelf

attribute [local go_sem] Oper.semAt_some ext_const

theorem SetR.slice {W : World} {base : Nat} {v : Value} {ws : List Nat} (h : SetR W base v ws) : ∃ ao n c, v = .slice ao n c := h.wds.form
theorem SetR.apart {W : World} {base B : Nat} {v : Value} {ws : List Nat} (h : SetR W base v ws) (hB : B < base) (i : Nat) (x : Value) : SetR (W.setCell ⟨B, i, none⟩ x) base v ws := by
  rcases h with ⟨h1, g, e, hg, hk⟩ | h
  · exact .inl ⟨h1, g, e, hg, hk.other i x (by omega)⟩
  · exact .inr h

set_option maxRecDepth 100000 in
set_option maxHeartbeats 8000000 in
theorem taken_ok {d0 d1 d2 : Int} {b : Bx} {t0 t1 t2 : Bool} (w : World) (hm : mayD d0 d1 d2) (hp : mayP d0 d1 d2 b t0 t1 t2) :
    Calls Tryz.prog 29 #[A3 d0 d1 d2, P9 b t0 t1 t2] w fun e W' => ∃ u v, e = .returned (.tuple #[V2 u v, I 0]) ∧ SetR W' w.heap.size u (midW d0 d1 d2 b) ∧ SetR W' w.heap.size v (cabsW d0 d1 d2 b t0 t1 t2) ∧ Below w.heap.size w W' := by
  have HS : Hid (∀ w, Calls Tryz.prog 60 #[A3 d0 d1 d2, P9 b t0 t1 t2] w fun e W' => ∃ u v, e = .returned (.tuple #[u, v, I 0]) ∧ SetR W' w.heap.size u (midW d0 d1 d2 b) ∧ SetR W' w.heap.size v (cabsW d0 d1 d2 b t0 t1 t2) ∧ Below w.heap.size w W') := fun w => sets_ok w hm hp
  obtain ⟨W, hW, hB0, k0, k1, k2⟩ := three_boxes w #[I d0, I d1, I d2] (C9 b t0 t1 t2) #[.slice none 0 0, .slice none 0 0] 23 43 71
  have HW : Hid (((w.alloc (.cells #[I d0, I d1, I d2] 23)).alloc (.cells (C9 b t0 t1 t2) 43)).alloc (.cells #[.slice none 0 0, .slice none 0 0] 71) = W) := hW
  clear hm hp hW
  generalize midW d0 d1 d2 b = S at *
  generalize cabsW d0 d1 d2 b t0 t1 t2 = S' at *
  have hlt := k2.lt
  obtain ⟨c0, c1, c2, hz⟩ := k0.three (Below.refl _ _)
  obtain ⟨⟨x0, x1, x2⟩, ⟨x3, x4, x5⟩, ⟨x6, x7, x8⟩, hz1⟩ := k1.nine (Below.refl _ _)
  go_enter Tryz.func29, Tryz.ntmps29
  go_wp2_with fail
  rw [HW.out]
  refine (HS.out _).mono ?_
  rintro e w1 ⟨u, v, rfl, hu, hv, hT⟩
  obtain ⟨a1, n1, e1, rfl⟩ := hu.slice
  obtain ⟨a2, n2, e2, rfl⟩ := hv.slice
  have hu1 := (hu.apart hlt 0 (.slice a1 n1 e1)).apart hlt 1 (.slice a2 n2 e2)
  have hv1 := (hv.apart hlt 0 (.slice a1 n1 e1)).apart hlt 1 (.slice a2 n2 e2)
  have hlow := ((then_below hB0 hT).setCell (p := ⟨w.heap.size + 1 + 1, 0, none⟩) (show w.heap.size ≤ w.heap.size + 1 + 1 by omega) (.slice a1 n1 e1)).setCell (p := ⟨w.heap.size + 1 + 1, 1, none⟩) (show w.heap.size ≤ w.heap.size + 1 + 1 by omega) (.slice a2 n2 e2)
  have hb1 := k2.later hT
  have hb2 := hb1.set 0 (.slice a1 n1 e1)
  have hb3 := hb2.set 1 (.slice a2 n2 e2)
  obtain ⟨p0, p1, hzz⟩ := k2.both hT
  have f0 := hb1.frozen 0
  have f1 := hb1.frozen 1
  have g1 := hb2.frozen 1
  have q1 := hb2.cell 1
  have j0 := hb3.cell 0
  have j1 := hb3.cell 1
  simp at q1 j0 j1
  have HF : Hid (SetR ((w1.setCell ⟨w.heap.size + 1 + 1, 0, none⟩ (.slice a1 n1 e1)).setCell ⟨w.heap.size + 1 + 1, 1, none⟩ (.slice a2 n2 e2)) w.heap.size (.slice a1 n1 e1) S ∧ SetR ((w1.setCell ⟨w.heap.size + 1 + 1, 0, none⟩ (.slice a1 n1 e1)).setCell ⟨w.heap.size + 1 + 1, 1, none⟩ (.slice a2 n2 e2)) w.heap.size (.slice a2 n2 e2) S' ∧ Below w.heap.size w ((w1.setCell ⟨w.heap.size + 1 + 1, 0, none⟩ (.slice a1 n1 e1)).setCell ⟨w.heap.size + 1 + 1, 1, none⟩ (.slice a2 n2 e2))) := ⟨hu1.weak hB0.size, hv1.weak hB0.size, hlow⟩
  clear hu hv hu1 hv1 hlow hb1 hb2 hb3 c0 c1 c2 hz x0 x1 x2 x3 x4 x5 x6 x7 x8 hz1
  go_wp2
  exact bodyPost_ret (v := .tuple #[V2 (.slice a1 n1 e1) (.slice a2 n2 e2), I 0]) (by simp [results, Tryz.f29, go_sem, j0, j1]) rfl ⟨_, _, rfl, HF.out.1, HF.out.2.1, HF.out.2.2⟩

set_option maxRecDepth 100000 in
set_option maxHeartbeats 8000000 in
theorem taken_err {d0 d1 d2 : Int} {b : Bx} (t0 t1 t2 : Bool) (w : World) (he : (errP d0 d1 d2 b t0 t1 t2 != 0) = true) :
    Calls Tryz.prog 29 #[A3 d0 d1 d2, P9 b t0 t1 t2] w fun e W' => e = .returned (.tuple #[V2 (.slice none 0 0) (.slice none 0 0), I (errP d0 d1 d2 b t0 t1 t2)]) ∧ Below w.heap.size w W' := by
  have HS : Hid (∀ w, Calls Tryz.prog 60 #[A3 d0 d1 d2, P9 b t0 t1 t2] w fun e W' => e = .returned (.tuple #[.slice none 0 0, .slice none 0 0, I (errP d0 d1 d2 b t0 t1 t2)]) ∧ Below w.heap.size w W') := fun w => sets_err t0 t1 t2 w he
  generalize errP d0 d1 d2 b t0 t1 t2 = er at *
  obtain ⟨W, hW, hB0, k0, k1, k2⟩ := three_boxes w #[I d0, I d1, I d2] (C9 b t0 t1 t2) #[.slice none 0 0, .slice none 0 0] 23 43 71
  have HW : Hid (((w.alloc (.cells #[I d0, I d1, I d2] 23)).alloc (.cells (C9 b t0 t1 t2) 43)).alloc (.cells #[.slice none 0 0, .slice none 0 0] 71) = W) := hW
  clear hW he
  obtain ⟨c0, c1, c2, hz⟩ := k0.three (Below.refl _ _)
  obtain ⟨⟨x0, x1, x2⟩, ⟨x3, x4, x5⟩, ⟨x6, x7, x8⟩, hz1⟩ := k1.nine (Below.refl _ _)
  go_enter Tryz.func29, Tryz.ntmps29
  go_wp2_with fail
  rw [HW.out]
  refine (HS.out _).mono ?_
  rintro e w1 ⟨rfl, hT⟩
  have hlow := ((then_below hB0 hT).setCell (p := ⟨w.heap.size + 1 + 1, 0, none⟩) (show w.heap.size ≤ w.heap.size + 1 + 1 by omega) (.slice none 0 0)).setCell (p := ⟨w.heap.size + 1 + 1, 1, none⟩) (show w.heap.size ≤ w.heap.size + 1 + 1 by omega) (.slice none 0 0)
  have hb1 := k2.later hT
  have hb2 := hb1.set 0 (.slice none 0 0)
  have hb3 := hb2.set 1 (.slice none 0 0)
  obtain ⟨p0, p1, hzz⟩ := k2.both hT
  have f0 := hb1.frozen 0
  have f1 := hb1.frozen 1
  have g1 := hb2.frozen 1
  have q1 := hb2.cell 1
  have j0 := hb3.cell 0
  have j1 := hb3.cell 1
  simp at q1 j0 j1
  have HF : Hid (Below w.heap.size w ((w1.setCell ⟨w.heap.size + 1 + 1, 0, none⟩ (.slice none 0 0)).setCell ⟨w.heap.size + 1 + 1, 1, none⟩ (.slice none 0 0))) := hlow
  clear hlow hb1 hb2 hb3 c0 c1 c2 hz x0 x1 x2 x3 x4 x5 x6 x7 x8 hz1
  go_wp2
  exact bodyPost_ret (v := .tuple #[V2 (.slice none 0 0) (.slice none 0 0), I er]) (by simp [results, Tryz.f29, go_sem, j0, j1]) rfl ⟨rfl, HF.out⟩

/-- The error of two sets that are to be avoided; whether a place is free of them. -/
def avoE (N : Int) (S1 S2 mw lw : List Nat) : Int := pairE (errAll N [S1, mw]) (errAll (3 * N) [S2, lw])
set_option maxRecDepth 100000 in
set_option maxHeartbeats 8000000 in
theorem holds_ok {d0 d1 d2 : Int} {b : Bx} {t0 t1 t2 : Bool} {mw lw : List Nat} {vm vl : Value} (w : World) (hm : mayD d0 d1 d2) (hp : mayP d0 d1 d2 b t0 t1 t2) (hM : Wds w vm mw) (hL : Wds w vl lw) :
    Calls Tryz.prog 12 #[A3 d0 d1 d2, P9 b t0 t1 t2, vm, vl] w fun e W' => e = .returned (.tuple #[.bool (farB (d0 * d1 * d2) (midW d0 d1 d2 b) (cabsW d0 d1 d2 b t0 t1 t2) mw lw), I (avoE (d0 * d1 * d2) (midW d0 d1 d2 b) (cabsW d0 d1 d2 b t0 t1 t2) mw lw)]) ∧ Below w.heap.size w W' := by
  have HS : Hid (∀ w, Calls Tryz.prog 29 #[A3 d0 d1 d2, P9 b t0 t1 t2] w fun e W' => ∃ u v, e = .returned (.tuple #[V2 u v, I 0]) ∧ SetR W' w.heap.size u (midW d0 d1 d2 b) ∧ SetR W' w.heap.size v (cabsW d0 d1 d2 b t0 t1 t2) ∧ Below w.heap.size w W') := fun w => taken_ok w hm hp
  have HA : Hid (∀ w u v vm vl, Wds w u (midW d0 d1 d2 b) → Wds w v (cabsW d0 d1 d2 b t0 t1 t2) → Wds w vm mw → Wds w vl lw → Calls Tryz.prog 30 #[A3 d0 d1 d2, V2 u v, V2 vm vl] w fun e W' => e = .returned (.tuple #[.bool (farB (d0 * d1 * d2) (midW d0 d1 d2 b) (cabsW d0 d1 d2 b t0 t1 t2) mw lw), I (avoE (d0 * d1 * d2) (midW d0 d1 d2 b) (cabsW d0 d1 d2 b t0 t1 t2) mw lw)]) ∧ Below w.heap.size w W') := fun w u v vm vl h1 h2 h3 h4 => fapart_calls w hm h1 h2 h3 h4
  obtain ⟨W, hW, hB0, k0, k1⟩ := two_start w #[I d0, I d1, I d2] (C9 b t0 t1 t2) 23 43
  have HW : Hid ((w.alloc (.cells #[I d0, I d1, I d2] 23)).alloc (.cells (C9 b t0 t1 t2) 43) = W) := hW
  have HM : Hid (Wds W vm mw) := hM.later hB0
  have HL : Hid (Wds W vl lw) := hL.later hB0
  obtain ⟨a3, n3, e3, rfl⟩ := hM.form
  obtain ⟨a4, n4, e4, rfl⟩ := hL.form
  clear hm hp hW hM hL
  generalize midW d0 d1 d2 b = S at *
  generalize cabsW d0 d1 d2 b t0 t1 t2 = S' at *
  generalize farB (d0 * d1 * d2) S S' mw lw = r at *
  generalize avoE (d0 * d1 * d2) S S' mw lw = er at *
  obtain ⟨c0, c1, c2, hz⟩ := k0.three (Below.refl _ _)
  obtain ⟨⟨x0, x1, x2⟩, ⟨x3, x4, x5⟩, ⟨x6, x7, x8⟩, hz1⟩ := k1.nine (Below.refl _ _)
  go_enter Tryz.func12, Tryz.ntmps12
  go_wp2_with fail
  rw [HW.out]
  refine (HS.out _).mono ?_
  rintro e w1 ⟨u, v, rfl, hu, hv, hT⟩
  obtain ⟨a1, n1, e1, rfl⟩ := hu.slice
  obtain ⟨a2, n2, e2, rfl⟩ := hv.slice
  obtain ⟨W1, hW1, hB1, k2⟩ := one_start w1 #[.slice a1 n1 e1, .slice a2 n2 e2] 71
  have HW1 : Hid (w1.alloc (.cells #[.slice a1 n1 e1, .slice a2 n2 e2] 71) = W1) := hW1
  have HU : Hid (Wds W1 (.slice a1 n1 e1) S) := (hu.later hB1).wds
  have HV : Hid (Wds W1 (.slice a2 n2 e2) S') := (hv.later hB1).wds
  have HM1 : Hid (Wds W1 (.slice a3 n3 e3) mw) := HM.out.later (then_below hT hB1)
  have HL1 : Hid (Wds W1 (.slice a4 n4 e4) lw) := HL.out.later (then_below hT hB1)
  have hT1 := then_below hT hB1
  clear hu hv hW1 c0 c1 c2 hz x0 x1 x2 x3 x4 x5 x6 x7 x8 hz1
  obtain ⟨c0, c1, c2, hz⟩ := k0.three hT
  clear k2
  go_wp2_with fail
  rw [HW1.out]
  refine (HA.out _ _ _ _ _ HU.out HV.out HM1.out HL1.out).mono ?_
  rintro e w2 ⟨rfl, hT2⟩
  go_wp2
  go_ret2
  exact ⟨rfl, then_below hB0 (then_below hT1 hT2)⟩

set_option maxRecDepth 100000 in
set_option maxHeartbeats 8000000 in
theorem holds_err {d0 d1 d2 : Int} {b : Bx} (t0 t1 t2 : Bool) {vm vl : Value} (w : World) (he : (errP d0 d1 d2 b t0 t1 t2 != 0) = true) :
    Calls Tryz.prog 12 #[A3 d0 d1 d2, P9 b t0 t1 t2, vm, vl] w fun e W' => e = .returned (.tuple #[.bool false, I (errP d0 d1 d2 b t0 t1 t2)]) ∧ Below w.heap.size w W' := by
  have HS : Hid (∀ w, Calls Tryz.prog 29 #[A3 d0 d1 d2, P9 b t0 t1 t2] w fun e W' => e = .returned (.tuple #[V2 (.slice none 0 0) (.slice none 0 0), I (errP d0 d1 d2 b t0 t1 t2)]) ∧ Below w.heap.size w W') := fun w => taken_err t0 t1 t2 w he
  generalize errP d0 d1 d2 b t0 t1 t2 = er at *
  obtain ⟨W, hW, hB0, k0, k1⟩ := two_start w #[I d0, I d1, I d2] (C9 b t0 t1 t2) 23 43
  have HW : Hid ((w.alloc (.cells #[I d0, I d1, I d2] 23)).alloc (.cells (C9 b t0 t1 t2) 43) = W) := hW
  clear hW
  obtain ⟨c0, c1, c2, hz⟩ := k0.three (Below.refl _ _)
  obtain ⟨⟨x0, x1, x2⟩, ⟨x3, x4, x5⟩, ⟨x6, x7, x8⟩, hz1⟩ := k1.nine (Below.refl _ _)
  go_enter Tryz.func12, Tryz.ntmps12
  go_wp2_with fail
  rw [HW.out]
  refine (HS.out _).mono ?_
  rintro e w1 ⟨rfl, hT⟩
  clear c0 c1 c2 hz x0 x1 x2 x3 x4 x5 x6 x7 x8 hz1
  go_wp2
  go_ret2
  exact ⟨rfl, then_alloc (then_below hB0 hT) _⟩

end Go.Proofs.YtldcagjnngkabaaGreatDoor

/-
  free.slotsOf: the slots of what is asked for, in the order in which they begin.
-/
namespace Go.Proofs.YtldcagjnngkabaaGreatDoor
open Go Go.RowKit Go.Shelf

attribute [local go_sem] Oper.semAt_some ext_const

set_option maxRecDepth 100000 in
set_option maxHeartbeats 8000000 in
theorem slotsOf_calls {a b c : Int} {n l u v : Value} {ns ls : List (List Slt)} (p q : Nat → Bool) (w : World) (hTab : TabOk w) (hN : Yl w n ns) (hL : Yl w l ls) (hU : Wds w u (setOf ns.length p)) (hV : Wds w v (setOf ls.length q))
    (h1 : 1 ≤ ns.length) (h2 : ns.length ≤ 12288) (h3 : 1 ≤ ls.length) (h4 : ls.length ≤ 12288) (htot : (slotsY ns ls).length ≤ 50000) :
    Calls Tryz.prog 32 #[Y5 a b c n l, V2 u v] w fun e W' => ∃ r S, e = .returned (.tuple #[r, I 0]) ∧ So W' w.heap.size r S ∧ S.Perm (pickS ns p ++ pickS ls q) ∧ upS S ∧ Below w.heap.size w W' := by
  have hfl : (slotsY ns ls).length = ns.flatten.length + ls.flatten.length := by rw [slotsY, List.length_append]
  obtain ⟨W, hW, hB0, k0, k1⟩ := two_start w (K5 a b c n l) #[u, v] 26 71
  have HW : Hid ((w.alloc (.cells (K5 a b c n l) 26)).alloc (.cells #[u, v] 71) = W) := hW
  have H1 : Hid (Calls Tryz.prog 66 #[n, u] W fun e W' => ∃ r, e = .returned (.tuple #[r, I 0]) ∧ So W' W.heap.size r (pickS ns p) ∧ Below W.heap.size W W') := pick_calls p W (hTab.later hB0) (hN.later hB0) (hU.later hB0) h1 h2 (by omega)
  have H2 : Hid (∀ w', Below W.heap.size W w' → Calls Tryz.prog 66 #[l, v] w' fun e W' => ∃ r, e = .returned (.tuple #[r, I 0]) ∧ So W' w'.heap.size r (pickS ls q) ∧ Below w'.heap.size w' W') := fun w' hb => pick_calls q w' (hTab.later (then_below hB0 hb)) (hL.later (then_below hB0 hb)) (hV.later (then_below hB0 hb)) h3 h4 (by omega)
  have HL1 : Hid ((pickS ns p).length + (pickS ls q).length ≤ 50000) := by
    show _ ≤ _
    have := pick_le ns p
    have := pick_le ls q
    omega
  obtain ⟨_, _, rfl, _⟩ := hN.form
  obtain ⟨_, _, rfl, _⟩ := hL.form
  obtain ⟨_, _, _, rfl⟩ := hU.form
  obtain ⟨_, _, _, rfl⟩ := hV.form
  clear hW hN hL hU hV hTab htot hfl h1 h2 h3 h4
  generalize pickS ns p = X at *
  generalize pickS ls q = Y at *
  generalize ns.length = n1 at *
  generalize ls.length = n2 at *
  obtain ⟨p0, p1, p2, p3, p4, hz⟩ := k0.five
  obtain ⟨x0, x1, hz1⟩ := k1.both (Below.refl _ _)
  go_enter Tryz.func32, Tryz.ntmps32
  go_wp2_with fail
  rw [HW.out]
  refine H1.out.mono ?_
  rintro e w1 ⟨r1, rfl, hR1, hT⟩
  clear p0 p1 p2 p3 p4 hz x0 x1 hz1
  obtain ⟨p0, p1, p2, p3, p4, hz⟩ := k0.yard hT
  obtain ⟨x0, x1, hz1⟩ := k1.both hT
  go_wp2_with fail
  refine (H2.out _ hT).mono ?_
  rintro e w2 ⟨r2, rfl, hR2, hT2⟩
  have hR1 : So w2 W.heap.size r1 X := hR1.later hT2
  have hR2 : Ss w2 r2 Y := hR2.ss
  have hT := then_below hT hT2
  have hsz := hT.size
  obtain ⟨a1, c1, rfl, _⟩ := hR1.ss.form
  obtain ⟨a2, c2, rfl, _⟩ := hR2.form
  clear p0 p1 p2 p3 p4 hz x0 x1 hz1 hT2
  have hXY := HL1.out
  go_wp2_with (at_builtin; refine wpList_catS (base := W.heap.size) rfl _ _ rfl rfl rfl hR1 hR2 (by omega) hsz ?_; intro ao5 n5 cap5 w5 hS5 hT5)
  have hS := sortS_calls w5 hS5 (by rw [List.length_append]; omega) (Nat.le_trans hsz hT5.size)
  have HS : Hid (Calls Tryz.prog 67 #[.slice ao5 n5 cap5, .func (.func 68) #[] #[]] w5 fun e W' => e = .returned (.tuple #[]) ∧
      ∃ S : List Slt, So W' W.heap.size (.slice ao5 n5 cap5) S ∧ S.Perm (X ++ Y) ∧ upS S ∧ Below W.heap.size w5 W') := hS
  clear hS hR1 hR2 hS5
  go_wp2_with fail
  refine HS.out.mono ?_
  rintro e w6 ⟨rfl, S, hS6, hP6, hU6, hT6⟩
  have HS6 : Hid (So w6 W.heap.size (.slice ao5 n5 cap5) S ∧ S.Perm (X ++ Y) ∧ upS S) := ⟨hS6, hP6, hU6⟩
  clear hS6 hP6 hU6
  go_wp2
  go_ret2
  exact ⟨_, S, rfl, HS6.out.1.weak hB0.size, HS6.out.2.1, HS6.out.2.2, then_below hB0 ((hT.trans hT5).trans hT6)⟩

end Go.Proofs.YtldcagjnngkabaaGreatDoor

/-
  free.soonest: the first one of some rising moments that serves, over slots in the order in which they begin.
-/
namespace Go.Proofs.YtldcagjnngkabaaGreatDoor
open Go Go.RowKit Go.Shelf

attribute [local go_sem] Oper.semAt_some ext_const

/-- A list's tail, read as it lies. -/
theorem Ss.tail {W : World} {ao : Option Addr} {n cap : Nat} {xs : List Slt} (h : Ss W (.slice ao n cap) xs) (h0 : 0 < xs.length) :
    Ss W (.slice (if cap = 1 then ao else ao.map (·.add (1 * 3))) (n - 1) (cap - 1)) xs.tail := by
  obtain ⟨ao', cap', e, hc, hn, hv⟩ := h
  rw [Value.slice.injEq] at e
  obtain ⟨rfl, rfl, rfl⟩ := e
  refine ⟨_, _, by rw [List.length_tail], by rw [List.length_tail]; omega, fun h => ?_, fun k hk => ?_⟩
  · by_cases h1 : cap = 1
    · omega
    · rw [if_neg h1] at h
      cases ao with
      | none => have := hn rfl; omega
      | some a => simp at h
  · rw [List.length_tail] at hk
    obtain ⟨g, off, e, ha⟩ := hv (k + 1) (by omega)
    have h1 : cap ≠ 1 := by omega
    refine ⟨g, off + 3, ?_, ?_⟩
    · rw [if_neg h1, e]
      simp [Addr.add]
    · have e1 : xs.tail.getD k (0, 0, 0) = xs.getD (k + 1) (0, 0, 0) := by
        rw [List.getD_eq_getElem?_getD, List.getD_eq_getElem?_getD, List.getElem?_tail]
      rw [e1, show off + 3 + k * 3 = off + (k + 1) * 3 by omega]
      exact ha
/-- What is told of a moment that may be none. -/
def valO (o : Option Int) : Int := o.getD 0
def errO (o : Option Int) : Int := if o.isSome then 0 else 6

theorem drop_cons {l : List Int} {i : Nat} (h : i < l.length) : l.drop i = l.getD i 0 :: l.drop (i + 1) := by
  rw [List.drop_eq_getElem_cons h, List.getD_eq_getElem?_getD, List.getElem?_eq_getElem h]; rfl
theorem drop_len (S : List Slt) (k : Nat) : (S.drop k).length = S.length - k := List.length_drop
theorem drop_head (S : List Slt) (k : Nat) : (S.drop k).getD 0 (0, 0, 0) = S.getD k (0, 0, 0) := by
  rw [List.getD_eq_getElem?_getD, List.getElem?_drop, List.getD_eq_getElem?_getD, Nat.add_zero]

/-- Those that are gone past begin ahead of what is asked next, and of all later ones. -/
def pastS (S : List Slt) (k : Nat) (long : Int) (ts : List Int) : Prop := ∀ s ∈ S.take k, ∀ m ∈ ts, s.1 < m + long
theorem past_step {S : List Slt} {k : Nat} {long m : Int} {ts : List Int} (hu : UpI (m :: ts)) (h : ∀ s ∈ S.take k, s.1 < m + long) : pastS S k long ts := by
  intro s hs x hx
  have := (List.pairwise_cons.1 hu).1 x hx
  have := h s hs
  omega
def begT (S : List Slt) (k : Nat) (t : Int) : Prop := ∀ s ∈ S.take k, s.1 < t
theorem begT_succ {S : List Slt} {k : Nat} {t : Int} (hk : k < S.length) (h : begT S k t) (h2 : (S.getD k (0, 0, 0)).1 < t) : begT S (k + 1) t := by
  intro s hs
  rw [take_snoc hk rfl] at hs
  rcases List.mem_append.1 hs with hs | hs
  · exact h s hs
  · rw [List.mem_singleton] at hs; subst hs; exact h2
theorem up_drop_list {l : List Int} (h : UpI l) (i : Nat) : UpI (l.drop i) := List.Pairwise.sublist (List.drop_sublist i l) h

/-- A moment at which there is time enough: what is told there. -/
theorem fit_test {S : List Slt} (hS : upS S) {k : Nat} {m long : Int} (hb : begT S k (m + long)) (he : k < S.length → m + long ≤ (S.getD k (0, 0, 0)).1) (hm : 0 ≤ m) (hl : long ≤ 1099511627776 - m) : decide (tipS S k ≤ m) = fitS S long m := by
  rw [soon_test hS hb he hm]
  unfold fitS
  rw [decide_eq_true hl, Bool.true_and]

set_option maxRecDepth 100000 in
set_option maxHeartbeats 4000000 in
theorem soonest_calls {times : List Int} {S : List Slt} {long : Int} {vt vs : Value} (w : World) (hT : Its w vt times) (hS : Ss w vs S) (hup : UpI times) (hsort : upS S) (hl : 1 ≤ long) (hlen : times.length ≤ 1000000) (ht : ∀ m ∈ times, 0 ≤ m ∧ m < 1099511627776) :
    Calls Tryz.prog 33 #[vt, vs, I long] w fun e W' => e = .returned (.tuple #[I (valO (firstS S long times)), I (errO (firstS S long times))]) ∧ W' = w := by
  obtain ⟨ot, hot⟩ : ∃ o, o = firstS S long times := ⟨_, rfl⟩
  rw [← hot]
  obtain ⟨a1, c1, rfl, hv1⟩ := hT.view
  have HV : Hid (∀ k, k < times.length → ∃ g off, a1 = some ⟨g, off, none⟩ ∧ g < w.heap.size ∧ w.cell? ⟨g, off + k, none⟩ = some (I (times.getD k 0))) := hv1
  obtain ⟨a2, c2, rfl, hS⟩ := hS.form
  have HS0 : Hid (Ss w (.slice a2 S.length c2) (S.drop 0)) := hS
  have HO0 : Hid (ot = firstS S long (times.drop 0)) := hot
  have HP0 : Hid (pastS S 0 long (times.drop 0)) := fun s hs => by simp at hs
  have HE0 : Hid (tipS S 0 = 0) := rfl
  have HNil : Hid (ot = firstS S long (times.drop times.length) → ot = none) := fun h => by rw [h, List.drop_length]; rfl
  have HStep : Hid (∀ i, i < times.length → (0 ≤ times.getD i 0 ∧ times.getD i 0 < 1099511627776) ∧ (1099511627776 - times.getD i 0 < long → firstS S long (times.drop i) = none) ∧
      (fitS S long (times.getD i 0) = true → firstS S long (times.drop i) = some (times.getD i 0)) ∧ (fitS S long (times.getD i 0) = false → firstS S long (times.drop i) = firstS S long (times.drop (i + 1))) ∧
      (∀ k, pastS S k long (times.drop i) → begT S k (times.getD i 0 + long)) ∧ (∀ k, begT S k (times.getD i 0 + long) → pastS S k long (times.drop (i + 1)))) := fun i hi => by
    have e := drop_cons hi
    have hu := up_drop_list hup i
    rw [e] at hu
    have hm : times.getD i 0 ∈ times := by rw [List.getD_eq_getElem?_getD, List.getElem?_eq_getElem hi]; exact List.getElem_mem hi
    refine ⟨ht _ hm, fun h => ?_, fun h => ?_, fun h => ?_, fun k h s hs => ?_, fun k h => past_step hu h⟩
    · rw [e]; exact first_late hu h
    · rw [e]; exact first_yes h
    · rw [e]; exact first_no h
    · exact h s hs _ (by rw [e]; exact List.mem_cons_self)
  have HFit : Hid (∀ (k : Nat) (m : Int), begT S k (m + long) → (k < S.length → m + long ≤ (S.getD k (0, 0, 0)).1) → 0 ≤ m → long ≤ 1099511627776 - m → decide (tipS S k ≤ m) = fitS S long m) := fun k m h1 h2 h3 h4 => fit_test hsort h1 h2 h3 h4
  have HBs : Hid (∀ (k : Nat) (t : Int), k < S.length → begT S k t → (S.getD k (0, 0, 0)).1 < t → begT S (k + 1) t) := fun k t h1 h2 h3 => begT_succ h1 h2 h3
  have HEs : Hid (∀ k, k < S.length → tipS S (k + 1) = max (tipS S k) (S.getD k (0, 0, 0)).2.1) := fun k h => tipS_succ h
  clear hT hv1 hup hsort ht hot hS
  go_enter Tryz.func33, Tryz.ntmps33
  go_wp2
  go_loopw [1, 8, 13] (fun s en ix wr => ∃ (i k : Nat) (ao : Option Addr) (n cap : Nat) (E : Int), i ≤ times.length ∧ k ≤ S.length ∧ ix = .int .i64 i ∧ s = .slice ao n cap ∧ en = .int .i64 E ∧ Hid (Ss w (.slice ao n cap) (S.drop k)) ∧ Hid (tipS S k = E) ∧ Hid (pastS S k long (times.drop i)) ∧ Hid (ot = firstS S long (times.drop i)) ∧ wr = w) (fun _ _ ix _ => times.length - (RowKit.intOf ix).toNat)
  case atStart => exact ⟨0, 0, _, _, _, 0, by omega, by omega, rfl, rfl, rfl, HS0, HE0, HP0, HO0, rfl⟩
  case round =>
    obtain ⟨i, k, ao, n, cap, E, hi, hk, rfl, rfl, rfl, HS1, HE1, HP1, HO1, hwr⟩ := hrel
    obtain rfl := hwr.symm
    clear HS0 HE0 HP0 HO0
    by_cases hlt : (i : Int) < (times.length : Int)
    · have hi' : i < times.length := by omega
      obtain ⟨g, off, rfl, hg, hc⟩ := HV.out i hi'
      obtain ⟨hm, F1, F2, F3, F4, F5⟩ := HStep.out i hi'
      rw [← HO1.out] at F1 F2 F3
      have F1 : Hid (1099511627776 - times.getD i 0 < long → ot = none) := F1
      have F2 : Hid (fitS S long (times.getD i 0) = true → ot = some (times.getD i 0)) := F2
      have F3 : Hid (fitS S long (times.getD i 0) = false → ot = firstS S long (times.drop (i + 1))) := F3
      have F4 : Hid (begT S k (times.getD i 0 + long)) := F4 k HP1.out
      have F5 : Hid (∀ k, begT S k (times.getD i 0 + long) → pastS S k long (times.drop (i + 1))) := F5
      clear HStep HP1 HNil HO1
      generalize times.getD i 0 = m at *
      have hw1 : wrap64 (1099511627776 - m) = 1099511627776 - m := wrap_in _ (by omega)
      by_cases hl2 : 1099511627776 - m < long
      · obtain rfl := F1.out hl2
        clear F1 F2 F3 F4 F5 HFit HBs HEs
        go_wp2
        go_ret2
        exact ⟨rfl, by trivial⟩
      · have hw2 : wrap64 (m + long) = m + long := wrap_in _ (by omega)
        have hlong : long ≤ 1099511627776 - m := by omega
        clear F1
        go_wp2
        go_loopw [1, 8] (fun s en wx => ∃ (k : Nat) (ao : Option Addr) (n cap : Nat) (E : Int), k ≤ S.length ∧ s = .slice ao n cap ∧ en = .int .i64 E ∧ Hid (Ss w (.slice ao n cap) (S.drop k)) ∧ Hid (tipS S k = E) ∧ Hid (begT S k (m + long)) ∧ Hid (n = S.length - k) ∧ wx = w) (fun s _ _ => match s with | .slice _ n _ => n | _ => 0)
        case atStart => exact ⟨k, _, _, _, E, hk, rfl, rfl, HS1, HE1, F4, by obtain ⟨_, _, e, _⟩ := HS1.out; rw [Value.slice.injEq, drop_len] at e; exact e.2.1, rfl⟩
        case round =>
          rename World => wx
          clear HS1 HE1 F4 hk
          obtain ⟨k, ao, n, cap, E, hk, rfl, rfl, HS1, HE1, HB1, HN, hwx⟩ := hrel
          obtain rfl := hwx.symm
          by_cases hk2 : k < S.length
          · have hn0 : decide (0 < (n : Int)) = true := decide_eq_true (by have := HN.out; omega)
            have hn1 : decide (0 < n) = true := decide_eq_true (by have := HN.out; omega)
            have hd := drop_len S k
            have hn2 : 1 ≤ n := by have := HN.out; omega
            have hn3 : (1 : Int) ≤ (n : Int) := by omega
            obtain ⟨g2, off2, f, t, o, rfl, hu, hat⟩ := HS1.out.at (k := 0) (by omega)
            rw [drop_head] at hu
            simp only [Nat.zero_mul, Nat.add_zero] at hat
            obtain ⟨hg2, d0, d1, d2⟩ := hat
            have HFk := HFit.out k m HB1.out
            have HBk := HBs.out k (m + long) hk2 HB1.out
            have HEk := HEs.out k hk2
            rw [hu] at HFk HBk HEk
            by_cases hf : f < m + long
            · have HB2 : Hid (begT S (k + 1) (m + long)) := HBk hf
              have HE3 : Hid (tipS S (k + 1) = max E t) := by show _ = _; rw [HEk, HE1.out]
              have HE2 : Hid (tipS S (k + 1) = if E < t then t else E) := by show _ = _; rw [HEk, HE1.out]; show max E t = _; split <;> omega
              have HS5 : Hid (Ss w (.slice (if cap = 1 then some ⟨g2, off2, none⟩ else some ⟨g2, off2 + 3, none⟩) (n - 1) (cap - 1)) (S.drop (k + 1))) := by
                show Ss w _ _
                have h5 := HS1.out.tail (by rw [drop_len]; omega)
                rw [List.tail_drop] at h5
                simpa [Addr.add] using h5
              clear HFk HBk HEk hu hd HE1 HB1
              go_wp2
              go_roundw
              case rel => first | exact ⟨k + 1, _, _, _, _, by omega, rfl, rfl, HS5, HE2, HB2, by show _ = _; rw [HN.out]; omega, by trivial⟩ | exact ⟨k + 1, _, _, _, _, by omega, rfl, rfl, HS5, HE3, HB2, by show _ = _; rw [HN.out]; omega, by trivial⟩
              case measure => have := HN.out; simp; omega
            · have HD : Hid (decide (E ≤ m) = fitS S long m) := by
                have := HFk (fun _ => by omega) hm.1 hlong
                rw [HE1.out] at this
                exact this
              clear HFk HBk HEk hu hd

              by_cases hq : E ≤ m
              · have hq2 : decide (E ≤ m) = true := decide_eq_true hq
                obtain rfl := F2.out (HD.out.symm.trans hq2)
                clear F2 F3 F5 HFit HBs HEs HD hq
                go_wp2
                go_ret2
                exact ⟨rfl, by trivial⟩
              · have hq2 : decide (E ≤ m) = false := decide_eq_false hq
                have HO2 : Hid (ot = firstS S long (times.drop (i + 1))) := F3.out (HD.out.symm.trans hq2)
                have HP2 : Hid (pastS S k long (times.drop (i + 1))) := F5.out k HB1.out
                clear F2 F3 F5 HFit HBs HEs HD hq
                go_wp2
                go_roundw
                case rel => exact ⟨i + 1, k, _, _, _, E, by omega, hk, by go_num, rfl, rfl, HS1, HE1, HP2, HO2, by trivial⟩
                case measure => simp [RowKit.intOf]; omega
          · have hn0 : decide (0 < (n : Int)) = false := decide_eq_false (by have := HN.out; omega)
            have hn1 : decide (0 < n) = false := decide_eq_false (by have := HN.out; omega)
            have HD : Hid (decide (E ≤ m) = fitS S long m) := by
              have := HFit.out k m HB1.out (fun h => absurd h hk2) hm.1 hlong
              rw [HE1.out] at this
              exact this
            by_cases hq : E ≤ m
            · have hq2 : decide (E ≤ m) = true := decide_eq_true hq
              obtain rfl := F2.out (HD.out.symm.trans hq2)
              clear F2 F3 F5 HFit HBs HEs HD hq
              go_wp2
              go_ret2
              exact ⟨rfl, by trivial⟩
            · have hq2 : decide (E ≤ m) = false := decide_eq_false hq
              have HO2 : Hid (ot = firstS S long (times.drop (i + 1))) := F3.out (HD.out.symm.trans hq2)
              have HP2 : Hid (pastS S k long (times.drop (i + 1))) := F5.out k HB1.out
              clear F2 F3 F5 HFit HBs HEs HD hq
              go_wp2
              go_roundw
              case rel => exact ⟨i + 1, k, _, _, _, E, by omega, hk, by go_num, rfl, rfl, HS1, HE1, HP2, HO2, by trivial⟩
              case measure => simp [RowKit.intOf]; omega
    · obtain rfl : i = times.length := by omega
      obtain rfl := HNil.out HO1.out
      go_wp2
      go_ret2
      exact ⟨rfl, by trivial⟩

end Go.Proofs.YtldcagjnngkabaaGreatDoor

/-
  How the arguments of this seat's statements are opened: whole numbers, and rows of three of them.
-/
namespace Go.Proofs.YtldcagjnngkabaaGreatDoor
open Go.ChangeShapes Go.WideShapes Go.ChangeAt Go.RowKit

theorem own : ownKnob Tryz.prog.godebug = none := by kernel_rfl
theorem laidOut : laidOutB Tryz.prog = true := by kernel_rfl

theorem list3 {α : Type} (l : List α) (h : (⟨l⟩ : Array α).size = 3) : ∃ a b c, l = [a, b, c] := by
  match l, h with
  | [a, b, c], _ => exact ⟨a, b, c, rfl⟩

/-- A row of three whole numbers, by value. -/
theorem open_arr3 {P : Program} {w : World} {H : Type} {enc : TypeId × Value → H} {r : Reach} {b0 base : Nat} {spare : Nat → Bool} {held : Bool} {t e : TypeId} {v : Value} {d : DataW H} {p : List MemPlace}
    (ht : P.underlying t = some (.array 3 e)) (he : P.underlying e = some (.int .i64)) (hce : P.cellsOf e = 1) (hct : P.cellsOf t = 3)
    (hv : Value.okWide P w r b0 t v) (h : DataW.Trod enc P w base spare held t v d p) :
    ∃ a b c : Int, v = A3 a b c ∧ (Lit.int .i64 a).wf = true ∧ (Lit.int .i64 b).wf = true ∧ (Lit.int .i64 c).wf = true := by
  obtain ⟨cs, rfl, hsz, _⟩ : ∃ cs, v = .agg cs ∧ cs.size = P.cellsOf t ∧ Row.okWide P w r b0 t cs := by
    simpa [Value.okWide, ht] using hv
  rw [hct] at hsz
  obtain ⟨l⟩ := cs
  obtain ⟨c0, c1, c2, rfl⟩ := list3 l hsz
  obtain ⟨fuel, hf⟩ := h
  obtain ⟨y0, y1, y2, m, hx, hy0, hy1, hy2⟩ := trod_array3 ht hce hf
  obtain ⟨x0, e0, rfl, w0⟩ := DataW.trod_int he hy0
  obtain ⟨x1, e1, rfl, w1⟩ := DataW.trod_int he hy1
  obtain ⟨x2, e2, rfl, w2⟩ := DataW.trod_int he hy2
  simp at e0 e1 e2
  subst e0 e1 e2
  exact ⟨x0, x1, x2, rfl, w0, w1, w2⟩

theorem open_num {P : Program} {w : World} {H : Type} {enc : TypeId × Value → H} {r : Reach} {b0 base : Nat} {spare : Nat → Bool} {held : Bool} {t : TypeId} {k : IntKind} {v : Value} {d : DataW H} {p : List MemPlace}
    (ht : P.underlying t = some (.int k)) (hv : Value.okWide P w r b0 t v) (h : DataW.Trod enc P w base spare held t v d p) :
    ∃ a : Int, v = .int k a ∧ (Lit.int k a).wf = true := by
  obtain ⟨x, rfl, rfl, rfl, wx⟩ := open_int ht hv h
  exact ⟨x, rfl, wx⟩

theorem trod_lt' {H : Type} {enc : TypeId × Value → H} {P : Program} {W : World} {t : TypeId} {v : Value} {d : DataW H} {ps : List MemPlace} {sp : Nat → Bool} (h : DataW.Trod enc P W 0 sp true t v d ps) : ∀ x ∈ ps, x.block < W.heap.size := by
  obtain ⟨m, hm⟩ := h; exact DataW.trod_lt m _ _ _ hm

end Go.Proofs.YtldcagjnngkabaaGreatDoor

/-
  How a span among a statement's arguments is opened: two whole numbers.
-/
namespace Go.Proofs.YtldcagjnngkabaaGreatDoor
open Go.ChangeShapes Go.WideShapes Go.ChangeAt Go.RowKit

theorem list2 {α : Type} (l : List α) (h : (⟨l⟩ : Array α).size = 2) : ∃ a b, l = [a, b] := by
  match l, h with
  | [a, b], _ => exact ⟨a, b, rfl⟩

set_option maxRecDepth 100000 in
theorem open_span {w : World} {H : Type} {enc : TypeId × Value → H} {r : Reach} {b0 base : Nat} {spare : Nat → Bool} {held : Bool} {v : Value} {d : DataW H} {p : List MemPlace}
    (hv : Value.okWide Tryz.prog w r b0 36 v) (h : DataW.Trod enc Tryz.prog w base spare held 36 v d p) : ∃ f t : Int, v = S2 f t := by
  obtain ⟨f0, f1, hu, t0, o0, t1, o1⟩ : ∃ f0 f1, Tryz.prog.underlying 36 = some (.struct #[f0, f1]) ∧ f0.type = 3 ∧ f0.offset = 0 ∧ f1.type = 3 ∧ f1.offset = 1 := ⟨_, _, rfl, rfl, rfl, rfl, rfl⟩
  obtain ⟨cs, rfl, hsz, _⟩ : ∃ cs, v = .agg cs ∧ cs.size = Tryz.prog.cellsOf 36 ∧ Row.okWide Tryz.prog w r b0 36 cs := by
    simpa [Value.okWide, hu] using hv
  have hct : Tryz.prog.cellsOf 36 = 2 := by kernel_rfl
  rw [hct] at hsz
  obtain ⟨l⟩ := cs
  obtain ⟨c0, c1, rfl⟩ := list2 l hsz
  obtain ⟨fuel, hf⟩ := h
  obtain ⟨x, y, n, _, _, h0, h1⟩ := trod_struct2 hu hf
  have hc1 : Tryz.prog.cellsOf 3 = 1 := by kernel_rfl
  rw [t0, o0, hc1] at h0
  rw [t1, o1, hc1] at h1
  have h0 : DataW.trod enc Tryz.prog w base spare held n 3 [c0] = some x := h0
  have h1 : DataW.trod enc Tryz.prog w base spare held n 3 [c1] = some y := h1
  obtain ⟨x0, e0, _, _⟩ := DataW.trod_int Tryz.underlying3 h0
  obtain ⟨x1, e1, _, _⟩ := DataW.trod_int Tryz.underlying3 h1
  simp at e0 e1
  subst e0 e1
  exact ⟨x0, x1, rfl⟩

end Go.Proofs.YtldcagjnngkabaaGreatDoor

/-
  How a slot, and a list of slots, among a statement's arguments is opened.
-/
namespace Go.Proofs.YtldcagjnngkabaaGreatDoor
open Go.ChangeShapes Go.WideShapes Go.ChangeAt Go.RowKit

theorem listS3 {α : Type} (l : List α) (h : l.length = 3) : ∃ a b c, l = [a, b, c] := by
  match l, h with
  | [a, b, c], _ => exact ⟨a, b, c, rfl⟩

theorem spotS_none {w : World} {a : Addr} {v : Value} (h : w.cell? a = some v) : a.spot = none := by
  unfold World.cell? at h
  split at h
  · split at h
    · cases h
    · rename_i hs
      cases hq : a.spot
      · rfl
      · rw [hq] at hs; exact absurd rfl hs
  · cases h
theorem blockS_lt {w : World} {a : Addr} {v : Value} (h : w.cell? a = some v) : a.block < w.heap.size := by
  unfold World.cell? at h
  split at h
  · rename_i hs
    exact (Array.getElem?_eq_some_iff.1 hs).1
  · cases h

set_option maxRecDepth 100000 in
/-- The cells of a slot that came in. -/
theorem slot_cells {w : World} {H : Type} {enc : TypeId × Value → H} {base : Nat} {spare : Nat → Bool} {held : Bool} {fuel : Nat} {cs : List Value} {x : DataW H × List MemPlace}
    (hf : DataW.trod enc Tryz.prog w base spare held fuel 85 cs = some x) : ∃ f t o : Int, cs = [I f, I t, I o] := by
  obtain ⟨g0, g1, hu', u0, p0, u1, p1⟩ : ∃ f0 f1, Tryz.prog.underlying 36 = some (.struct #[f0, f1]) ∧ f0.type = 3 ∧ f0.offset = 0 ∧ f1.type = 3 ∧ f1.offset = 1 := ⟨_, _, rfl, rfl, rfl, rfl, rfl⟩
  obtain ⟨f0, f1, hu, t0, o0, t1, o1⟩ : ∃ f0 f1, Tryz.prog.underlying 85 = some (.struct #[f0, f1]) ∧ f0.type = 36 ∧ f0.offset = 0 ∧ f1.type = 3 ∧ f1.offset = 2 := ⟨_, _, rfl, rfl, rfl, rfl, rfl⟩
  have hct : Tryz.prog.cellsOf 85 = 3 := by kernel_rfl
  have hcs : Tryz.prog.cellsOf 36 = 2 := by kernel_rfl
  have hc1 : Tryz.prog.cellsOf 3 = 1 := by kernel_rfl
  obtain ⟨x, y, n, _, hl, h0, h1⟩ := trod_struct2 hu hf
  rw [hct] at hl
  obtain ⟨c0, c1, c2, rfl⟩ := listS3 cs hl
  rw [t0, o0, hcs] at h0
  rw [t1, o1, hc1] at h1
  have h0 : DataW.trod enc Tryz.prog w base spare held n 36 [c0, c1] = some x := h0
  have h1 : DataW.trod enc Tryz.prog w base spare held n 3 [c2] = some y := h1
  obtain ⟨x', y', n', _, _, k0, k1⟩ := trod_struct2 hu' h0
  rw [u0, p0, hc1] at k0
  rw [u1, p1, hc1] at k1
  have k0 : DataW.trod enc Tryz.prog w base spare held n' 3 [c0] = some x' := k0
  have k1 : DataW.trod enc Tryz.prog w base spare held n' 3 [c1] = some y' := k1
  obtain ⟨z0, e0, _, _⟩ := DataW.trod_int Tryz.underlying3 k0
  obtain ⟨z1, e1, _, _⟩ := DataW.trod_int Tryz.underlying3 k1
  obtain ⟨z2, e2, _, _⟩ := DataW.trod_int Tryz.underlying3 h1
  simp at e0 e1 e2
  subst e0 e1 e2
  exact ⟨z0, z1, z2, rfl⟩

set_option maxRecDepth 100000 in
theorem open_slot {w : World} {H : Type} {enc : TypeId × Value → H} {r : Reach} {b0 base : Nat} {spare : Nat → Bool} {held : Bool} {v : Value} {d : DataW H} {p : List MemPlace}
    (hv : Value.okWide Tryz.prog w r b0 85 v) (h : DataW.Trod enc Tryz.prog w base spare held 85 v d p) : ∃ f t o : Int, v = V3 f t o := by
  obtain ⟨f0, f1, hu⟩ : ∃ f0 f1, Tryz.prog.underlying 85 = some (.struct #[f0, f1]) := ⟨_, _, rfl⟩
  obtain ⟨cs, rfl, hsz, _⟩ : ∃ cs, v = .agg cs ∧ cs.size = Tryz.prog.cellsOf 85 ∧ Row.okWide Tryz.prog w r b0 85 cs := by
    simpa [Value.okWide, hu] using hv
  obtain ⟨fuel, hf⟩ := h
  obtain ⟨l⟩ := cs
  obtain ⟨f, t, o, e⟩ := slot_cells hf
  have e : l = [I f, I t, I o] := e
  subst e
  exact ⟨f, t, o, rfl⟩

set_option maxRecDepth 100000 in
theorem open_slots {w : World} {H : Type} {enc : TypeId × Value → H} {r : Reach} {b0 base : Nat} {spare : Nat → Bool} {held : Bool} {v : Value} {d : DataW H} {p : List MemPlace}
    (hv : Value.okWide Tryz.prog w r b0 79 v) (h : DataW.Trod enc Tryz.prog w base spare held 79 v d p) : ∃ xs : List Slt, Ss w v xs := by
  obtain ⟨a, len, cap, rfl⟩ := okWide_slice Tryz.underlying79 hv
  obtain ⟨fuel, hf⟩ := h
  have hct : Tryz.prog.cellsOf 85 = 3 := by kernel_rfl
  rcases DataW.trod_slice Tryz.underlying79 hf with ⟨hcs, -⟩ | ⟨a0, len0, cap0, elems, rest, n, _, hcs, _, hb, hl, hm, hlen, hel, _, _⟩
  · have e0 : Value.slice a len cap = .slice none 0 0 := by
      have : [Value.slice a len cap] = [.slice none 0 0] := hcs
      exact List.head_eq_of_cons_eq this
    rw [e0]
    exact ⟨[], Ss.nil w⟩
  · have e0 : Value.slice a len cap = .slice (some a0) len0 cap0 := by
      have : [Value.slice a len cap] = [.slice (some a0) len0 cap0] := hcs
      exact List.head_eq_of_cons_eq this
    rw [e0]
    have each : ∀ i, i < len0 → ∃ s : Slt, ∀ j, j < 3 → w.cell? ((a0.add (i * 3)).add j) = (cellsS s)[j]? := by
      intro i hi
      have h1 := hel i hi
      rw [hct, List.getElem?_eq_getElem (by omega)] at h1
      obtain ⟨cs, hc, hy⟩ := Option.bind_eq_some_iff.1 h1
      obtain ⟨f, t, o, rfl⟩ := slot_cells hy
      obtain ⟨_, _, h3⟩ := World.cells?_some hc
      refine ⟨(f, t, o), fun j hj => ?_⟩
      exact h3 j hj
    let g : Nat → Slt := fun i => if h : i < len0 then (each i h).choose else (0, 0, 0)
    have hg : ∀ i, i < len0 → ∀ j, j < 3 → w.cell? ((a0.add (i * 3)).add j) = (cellsS (g i))[j]? := by
      intro i hi
      show ∀ j, j < 3 → w.cell? ((a0.add (i * 3)).add j) = (cellsS (if h : i < len0 then (each i h).choose else (0, 0, 0)))[j]?
      rw [dif_pos hi]
      exact (each i hi).choose_spec
    refine ⟨(List.range len0).map g, some a0, cap0, by simp, by simpa using hl, fun h => (by cases h), fun k hk => ?_⟩
    have hk' : k < len0 := by simpa using hk
    have h0 := hg k hk'
    obtain ⟨b, off, sp⟩ := a0
    have hc00 := hg 0 (by omega) 0 (by omega)
    have hs : sp = none := by
      have := spotS_none (show w.cell? _ = some (I (g 0).1) from hc00)
      simpa [Addr.add] using this
    subst hs
    have hadd : ∀ (x : Nat) (m : Nat), (⟨b, x, none⟩ : Addr).add m = ⟨b, x + m, none⟩ := by
      intro x m
      unfold Addr.add
      split
      · rename_i h0; subst h0; rfl
      · rfl
    have hc0 := h0 0 (by omega)
    have e1 : ((List.range len0).map g).getD k (0, 0, 0) = g k := by simp [hk']
    rw [e1]
    have hc1 := h0 1 (by omega)
    have hc2 := h0 2 (by omega)
    rw [hadd, hadd] at hc0 hc1 hc2
    exact ⟨b, off, rfl, blockS_lt (show w.cell? ⟨b, off + k * 3 + 0, none⟩ = some (I (g k).1) from hc0), hc0, hc1, hc2⟩

end Go.Proofs.YtldcagjnngkabaaGreatDoor
