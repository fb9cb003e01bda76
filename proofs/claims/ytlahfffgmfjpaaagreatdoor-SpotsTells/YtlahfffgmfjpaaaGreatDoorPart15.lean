/-
  place.cables: the cables that a place takes, line by line.
-/
import Derived.Test.YtlahfffgmfjpaaaGreatDoorPlaceTake
import Derived.Test.YtlahfffgmfjpaaaGreatDoorPart11
import Derived.Test.YtlahfffgmfjpaaaGreatDoorPart8
import Derived.Test.YtlahfffgmfjpaaaGreatDoorPart7
import Derived.Test.YtlahfffgmfjpaaaGreatDoorPart9
namespace Go.Proofs.YtlahfffgmfjpaaaGreatDoor
open Go Go.RowKit Go.Shelf

attribute [local go_sem] Oper.semAt_some ext_const

set_option maxRecDepth 100000 in
set_option maxHeartbeats 8000000 in
theorem cables_calls {d0 d1 d2 : Int} {b : Bx} {t0 t1 t2 : Bool} (w : World) (hm : mayD d0 d1 d2) (hp : mayP d0 d1 d2 b t0 t1 t2) :
    Calls Tryz.prog 132 #[A3 d0 d1 d2, P9 b t0 t1 t2] w fun e W' => ∃ v, e = .returned (.tuple #[v, I 0]) ∧ Lst W' w.heap.size v (cabsL d0 d1 d2 b t0 t1 t2) ∧ Below w.heap.size w W' := by
  have HM : Hid (mayD d0 d1 d2) := hm
  have HP : Hid (mayP d0 d1 d2 b t0 t1 t2) := hp
  have l0 := cabK_len hm hp 0
  have l1 := cabK_len hm hp 1
  have HC : Hid (cabsL d0 d1 d2 b t0 t1 t2 = cabK d0 d1 d2 b t0 t1 t2 0 ++ cabK d0 d1 d2 b t0 t1 t2 1 ++ cabK d0 d1 d2 b t0 t1 t2 2) := rfl
  have T0 := fun (w : World) {Bd Bp Bl : Nat} {v : Value} {xs : List Int} (hD : Blk w Bd 23 #[I d0, I d1, I d2]) (hP : Blk w Bp 32 (C9 b t0 t1 t2)) (hL : Blk w Bl 158 #[v]) (hDL : Bd < Bl) (hPL : Bp < Bl) (hv : Lst w (Bl + 1) v xs) (hl : xs.length ≤ 20000) => take0 w hm hp hD hP hL hDL hPL hv hl
  have T1 := fun (w : World) {Bd Bp Bl : Nat} {v : Value} {xs : List Int} (hD : Blk w Bd 23 #[I d0, I d1, I d2]) (hP : Blk w Bp 32 (C9 b t0 t1 t2)) (hL : Blk w Bl 158 #[v]) (hDL : Bd < Bl) (hPL : Bp < Bl) (hv : Lst w (Bl + 1) v xs) (hl : xs.length ≤ 20000) => take1 w hm hp hD hP hL hDL hPL hv hl
  have T2 := fun (w : World) {Bd Bp Bl : Nat} {v : Value} {xs : List Int} (hD : Blk w Bd 23 #[I d0, I d1, I d2]) (hP : Blk w Bp 32 (C9 b t0 t1 t2)) (hL : Blk w Bl 158 #[v]) (hDL : Bd < Bl) (hPL : Bp < Bl) (hv : Lst w (Bl + 1) v xs) (hl : xs.length ≤ 20000) => take2 w hm hp hD hP hL hDL hPL hv hl
  clear hm hp
  generalize cabK d0 d1 d2 b t0 t1 t2 0 = L0 at *
  generalize cabK d0 d1 d2 b t0 t1 t2 1 = L1 at *
  generalize cabK d0 d1 d2 b t0 t1 t2 2 = L2 at *
  rw [HC.out]
  go_enter Tryz.func132, Tryz.ntmps132
  go_wp2_with fail
  obtain ⟨W, hW, hs, hB0, b0, b1, b2⟩ := three_start w #[I d0, I d1, I d2] (C9 b t0 t1 t2) #[.slice none 0 0] 23 32 158
  rw [hW]
  clear hW
  go_loopw [11] (fun i wr => ∃ u, ((i = .int .i64 0 ∧ Lst wr (w.heap.size + 1 + 1 + 1) u []) ∨ (i = .int .i64 1 ∧ Lst wr (w.heap.size + 1 + 1 + 1) u L0) ∨ (i = .int .i64 2 ∧ Lst wr (w.heap.size + 1 + 1 + 1) u (L0 ++ L1)) ∨ (i = .int .i64 3 ∧ Lst wr (w.heap.size + 1 + 1 + 1) u (L0 ++ L1 ++ L2))) ∧ Blk wr (w.heap.size + 1 + 1) 158 #[u] ∧ Below (w.heap.size + 1 + 1) W wr) (fun i _ => 3 - (RowKit.intOf i).toNat)
  case atStart => exact ⟨_, .inl ⟨rfl, Lst.nil _ _⟩, b2, Below.refl _ _⟩
  case round =>
    obtain ⟨u, hi, hL, hB⟩ := hrel
    have g0 := b0.below hB (by omega)
    have g1 := b1.below hB (by omega)
    rcases hi with ⟨rfl, hu⟩ | ⟨rfl, hu⟩ | ⟨rfl, hu⟩ | ⟨rfl, hu⟩
    · go_wp2_with fail
      refine (T0 wr g0 g1 hL (by omega) (by omega) hu (by simp)).mono ?_
      rintro e w2 ⟨u2, rfl, hL2, hu2, hB2⟩
      rw [List.nil_append] at hu2
      clear g0 g1 hL hu
      go_wp2
      go_roundw
      case rel => exact ⟨u2, .inr (.inl ⟨rfl, hu2⟩), hL2, hB.trans hB2⟩
      case measure => simp [RowKit.intOf]
    · go_wp2_with fail
      refine (T1 wr g0 g1 hL (by omega) (by omega) hu (by omega)).mono ?_
      rintro e w2 ⟨u2, rfl, hL2, hu2, hB2⟩
      skip
      clear g0 g1 hL hu
      go_wp2
      go_roundw
      case rel => exact ⟨u2, .inr (.inr (.inl ⟨rfl, hu2⟩)), hL2, hB.trans hB2⟩
      case measure => simp [RowKit.intOf]
    · go_wp2_with fail
      refine (T2 wr g0 g1 hL (by omega) (by omega) hu (by rw [List.length_append]; omega)).mono ?_
      rintro e w2 ⟨u2, rfl, hL2, hu2, hB2⟩
      skip
      clear g0 g1 hL hu
      go_wp2
      go_roundw
      case rel => exact ⟨u2, .inr (.inr (.inr ⟨rfl, hu2⟩)), hL2, hB.trans hB2⟩
      case measure => simp [RowKit.intOf]
    · have c0 := hL.cell 0
      simp at c0
      have hz := hL.lt
      go_wp2
      go_ret2
      exact ⟨_, rfl, hu.weak (by omega), hB0.trans (hB.mono (by omega))⟩

end Go.Proofs.YtlahfffgmfjpaaaGreatDoor

/-
  Plain arithmetic of places, as the statements ask for it: how many cables; a mesh; what is passed; apart. No program is walked here.
-/
namespace Go.Proofs.YtlahfffgmfjpaaaGreatDoor
open Go Go.RowKit

/-- How many cables a place takes along an axis, of n midplanes. -/
def wantK (d0 d1 d2 n : Int) (b : Bx) (t0 t1 t2 : Bool) (k : Fin 3) : Int := n / sAt b k * runS (dimAt d0 d1 d2 k) (sAt b k) (tK t0 t1 t2 k)
/-- It is a torus along some axis that it does not take whole. -/
def someK (d0 d1 d2 : Int) (b : Bx) (t0 t1 t2 : Bool) (k : Fin 3) : Bool := tK t0 t1 t2 k && decide (sAt b k < dimAt d0 d1 d2 k)
/-- Two places have nothing in common. -/
def apartB (d0 d1 d2 : Int) (a : Bx) (s0 s1 s2 : Bool) (b : Bx) (t0 t1 t2 : Bool) : Bool := !anyB (midW d0 d1 d2 a) (midW d0 d1 d2 b) && !anyB (cabsW d0 d1 d2 a s0 s1 s2) (cabsW d0 d1 d2 b t0 t1 t2)
end Go.Proofs.YtlahfffgmfjpaaaGreatDoor

/-
  place.midSet, place.linkSet, place.endSet, place.Sets, place.meet, place.Apart, place.Passes: what each call answers; nothing that lay before is turned.
-/
namespace Go.Proofs.YtlahfffgmfjpaaaGreatDoor
open Go Go.RowKit Go.Shelf

attribute [local go_sem] Oper.semAt_some ext_const

theorem ofErr_ok {n : Int} {l : List Int} (h : ofOk n l = true) : ofErr n l = 0 := by simp [ofErr, h]
theorem errP_ok {d0 d1 d2 : Int} {b : Bx} {t0 t1 t2 : Bool} (hm : mayD d0 d1 d2) (hp : mayP d0 d1 d2 b t0 t1 t2) : errP d0 d1 d2 b t0 t1 t2 = 0 := by
  rcases errP_cases d0 d1 d2 b t0 t1 t2 with ⟨_, _, h⟩ | ⟨_, h⟩
  · exact h
  · exact absurd ⟨hm, hp⟩ h
/-- set.Of, of numbers that tell a known set. -/
theorem of_set {n : Int} {l : List Int} {S : List Nat} {v : Value} {base : Nat} (w : World) (hv : Lst w base v l) (hl : l.length ≤ 65536) (hok : ofOk n l = true) (hS : ∀ ws, OfIs n l ws → ws = S) :
    Calls Tryz.prog 130 #[I n, v] w fun e W' => ∃ u, e = .returned (.tuple #[u, I 0]) ∧ SetR W' w.heap.size u S ∧ Below w.heap.size w W' := by
  refine (of_calls w hv.its hl n).mono ?_
  rintro e w1 ⟨u, ws, rfl, hu, ho, hB⟩
  rw [ofErr_ok hok, ← hS ws ho]
  exact ⟨u, rfl, hu, hB⟩

set_option maxRecDepth 100000 in
set_option maxHeartbeats 4000000 in
theorem midSet_calls {d0 d1 d2 : Int} {b : Bx} (t0 t1 t2 : Bool) (w : World) (hm : mayD d0 d1 d2) (hb : mayB d0 d1 d2 b) :
    Calls Tryz.prog 123 #[A3 d0 d1 d2, P9 b t0 t1 t2] w fun e W' => ∃ u, e = .returned (.tuple #[u, I 0]) ∧ SetR W' w.heap.size u (midW d0 d1 d2 b) ∧ Below w.heap.size w W' := by
  have HN : Hid (∀ w, Calls Tryz.prog 40 #[A3 d0 d1 d2] w fun e W' => e = .returned (.tuple #[I (d0 * d1 * d2), I 0]) ∧ Below w.heap.size w W') := fun w => many_yes w hm
  have HB : Hid (∀ w, Calls Tryz.prog 129 #[A3 d0 d1 d2, B6 b] w fun e W' => ∃ v, e = .returned (.tuple #[v, I 0]) ∧ Lst W' w.heap.size v (nodesB d0 d1 d2 b) ∧ Below w.heap.size w W') := fun w => bnodes_ok w hm hb
  have HO : Hid (∀ w v base, Lst w base v (nodesB d0 d1 d2 b) → Calls Tryz.prog 130 #[I (d0 * d1 * d2), v] w fun e W' => ∃ u, e = .returned (.tuple #[u, I 0]) ∧ SetR W' w.heap.size u (midW d0 d1 d2 b) ∧ Below w.heap.size w W') :=
    fun w v base hv => of_set w hv (by have := nodesB_len hm b; omega) (nodes_ok hm b) (fun ws ho => mid_of hm ho)
  clear hm hb
  generalize nodesB d0 d1 d2 b = X at *
  generalize midW d0 d1 d2 b = S at *
  generalize d0 * d1 * d2 = N at *
  go_enter Tryz.func123, Tryz.ntmps123
  go_wp2_with fail
  obtain ⟨W, hW, hB0, b0, b1⟩ := two_start w #[I d0, I d1, I d2] (C9 b t0 t1 t2) 23 32
  rw [hW]
  clear hW
  refine (HN.out _).mono ?_
  rintro e w1 ⟨rfl, hT⟩
  obtain ⟨c0, c1, c2, hz⟩ := b0.three hT
  obtain ⟨⟨x0, x1, x2⟩, ⟨x3, x4, x5⟩, _, hz1⟩ := b1.nine hT
  have hB := then_below hB0 hT
  clear hT b0 b1 hB0
  go_wp2_with fail
  refine (HB.out _).mono ?_
  rintro e w2 ⟨v, rfl, hv, hT⟩
  have hB := then_below hB hT
  clear hT c0 c1 c2 hz x0 x1 x2 x3 x4 x5 hz1
  go_wp2_with fail
  refine (HO.out _ _ _ hv).mono ?_
  rintro e w3 ⟨u, rfl, hu, hT⟩
  go_wp2
  go_ret2
  exact ⟨_, rfl, hu.weak hB.size, then_below hB hT⟩

set_option maxRecDepth 100000 in
set_option maxHeartbeats 4000000 in
theorem linkSet_calls {d0 d1 d2 : Int} {b : Bx} {t0 t1 t2 : Bool} (w : World) (hm : mayD d0 d1 d2) (hp : mayP d0 d1 d2 b t0 t1 t2) :
    Calls Tryz.prog 124 #[A3 d0 d1 d2, P9 b t0 t1 t2] w fun e W' => ∃ u, e = .returned (.tuple #[u, I 0]) ∧ SetR W' w.heap.size u (cabsW d0 d1 d2 b t0 t1 t2) ∧ Below w.heap.size w W' := by
  have HN : Hid (∀ w, Calls Tryz.prog 131 #[A3 d0 d1 d2] w fun e W' => e = .returned (.tuple #[I (3 * (d0 * d1 * d2)), I 0]) ∧ Below w.heap.size w W') := fun w => wmany_yes w hm
  have HB : Hid (∀ w, Calls Tryz.prog 132 #[A3 d0 d1 d2, P9 b t0 t1 t2] w fun e W' => ∃ v, e = .returned (.tuple #[v, I 0]) ∧ Lst W' w.heap.size v (cabsL d0 d1 d2 b t0 t1 t2) ∧ Below w.heap.size w W') := fun w => cables_calls w hm hp
  have HO : Hid (∀ w v base, Lst w base v (cabsL d0 d1 d2 b t0 t1 t2) → Calls Tryz.prog 130 #[I (3 * (d0 * d1 * d2)), v] w fun e W' => ∃ u, e = .returned (.tuple #[u, I 0]) ∧ SetR W' w.heap.size u (cabsW d0 d1 d2 b t0 t1 t2) ∧ Below w.heap.size w W') :=
    fun w v base hv => of_set w hv (by have := cabsL_len hm hp; omega) (cabs_ok hm hp) (fun ws ho => cabs_of hm hp ho)
  clear hm hp
  generalize cabsL d0 d1 d2 b t0 t1 t2 = X at *
  generalize cabsW d0 d1 d2 b t0 t1 t2 = S at *
  generalize 3 * (d0 * d1 * d2) = N at *
  go_enter Tryz.func124, Tryz.ntmps124
  go_wp2_with fail
  obtain ⟨W, hW, hB0, b0, b1⟩ := two_start w #[I d0, I d1, I d2] (C9 b t0 t1 t2) 23 32
  rw [hW]
  clear hW
  refine (HN.out _).mono ?_
  rintro e w1 ⟨rfl, hT⟩
  obtain ⟨c0, c1, c2, hz⟩ := b0.three hT
  obtain ⟨⟨x0, x1, x2⟩, ⟨x3, x4, x5⟩, ⟨x6, x7, x8⟩, hz1⟩ := b1.nine hT
  have hB := then_below hB0 hT
  clear hT b0 b1 hB0
  go_wp2_with fail
  refine (HB.out _).mono ?_
  rintro e w2 ⟨v, rfl, hv, hT⟩
  have hB := then_below hB hT
  clear hT c0 c1 c2 hz x0 x1 x2 x3 x4 x5 x6 x7 x8 hz1
  go_wp2_with fail
  refine (HO.out _ _ _ hv).mono ?_
  rintro e w3 ⟨u, rfl, hu, hT⟩
  go_wp2
  go_ret2
  exact ⟨_, rfl, hu.weak hB.size, then_below hB hT⟩

set_option maxRecDepth 100000 in
set_option maxHeartbeats 4000000 in
theorem sets_err {d0 d1 d2 : Int} {b : Bx} (t0 t1 t2 : Bool) (w : World) (he : (errP d0 d1 d2 b t0 t1 t2 != 0) = true) :
    Calls Tryz.prog 116 #[A3 d0 d1 d2, P9 b t0 t1 t2] w fun e W' => e = .returned (.tuple #[.slice none 0 0, .slice none 0 0, I (errP d0 d1 d2 b t0 t1 t2)]) ∧ Below w.heap.size w W' := by
  have HC : Hid (∀ w, Calls Tryz.prog 25 #[A3 d0 d1 d2, P9 b t0 t1 t2] w fun e W' => e = .returned (I (errP d0 d1 d2 b t0 t1 t2)) ∧ Below w.heap.size w W') := fun w => pcheck_calls d0 d1 d2 b t0 t1 t2 w
  generalize errP d0 d1 d2 b t0 t1 t2 = er at *
  go_enter Tryz.func116, Tryz.ntmps116
  go_wp2_with fail
  obtain ⟨W, hW, hB0, b0, b1⟩ := two_start w #[I d0, I d1, I d2] (C9 b t0 t1 t2) 23 32
  rw [hW]
  clear hW
  refine (HC.out _).mono ?_
  rintro e w1 ⟨rfl, hT⟩
  go_wp2
  exact bodyPost_ret (results_tmp3 rfl _ _ _) rfl ⟨rfl, then_below hB0 hT⟩

set_option maxRecDepth 100000 in
set_option maxHeartbeats 4000000 in
theorem sets_ok {d0 d1 d2 : Int} {b : Bx} {t0 t1 t2 : Bool} (w : World) (hm : mayD d0 d1 d2) (hp : mayP d0 d1 d2 b t0 t1 t2) :
    Calls Tryz.prog 116 #[A3 d0 d1 d2, P9 b t0 t1 t2] w fun e W' => ∃ u v, e = .returned (.tuple #[u, v, I 0]) ∧ SetR W' w.heap.size u (midW d0 d1 d2 b) ∧ SetR W' w.heap.size v (cabsW d0 d1 d2 b t0 t1 t2) ∧ Below w.heap.size w W' := by
  have HC : Hid (∀ w, Calls Tryz.prog 25 #[A3 d0 d1 d2, P9 b t0 t1 t2] w fun e W' => e = .returned (I 0) ∧ Below w.heap.size w W') := fun w => by have := pcheck_calls d0 d1 d2 b t0 t1 t2 w; rwa [errP_ok hm hp] at this
  have HA : Hid (∀ w, Calls Tryz.prog 123 #[A3 d0 d1 d2, P9 b t0 t1 t2] w fun e W' => ∃ u, e = .returned (.tuple #[u, I 0]) ∧ SetR W' w.heap.size u (midW d0 d1 d2 b) ∧ Below w.heap.size w W') := fun w => midSet_calls t0 t1 t2 w hm hp.1
  have HB : Hid (∀ w, Calls Tryz.prog 124 #[A3 d0 d1 d2, P9 b t0 t1 t2] w fun e W' => ∃ u, e = .returned (.tuple #[u, I 0]) ∧ SetR W' w.heap.size u (cabsW d0 d1 d2 b t0 t1 t2) ∧ Below w.heap.size w W') := fun w => linkSet_calls w hm hp
  clear hm hp
  generalize midW d0 d1 d2 b = S at *
  generalize cabsW d0 d1 d2 b t0 t1 t2 = S' at *
  go_enter Tryz.func116, Tryz.ntmps116
  go_wp2_with fail
  obtain ⟨W, hW, hB0, b0, b1⟩ := two_start w #[I d0, I d1, I d2] (C9 b t0 t1 t2) 23 32
  rw [hW]
  clear hW
  refine (HC.out _).mono ?_
  rintro e w1 ⟨rfl, hT⟩
  obtain ⟨c0, c1, c2, hz⟩ := b0.three hT
  obtain ⟨⟨x0, x1, x2⟩, ⟨x3, x4, x5⟩, ⟨x6, x7, x8⟩, hz1⟩ := b1.nine hT
  go_wp2_with fail
  refine (HA.out _).mono ?_
  rintro e w2 ⟨u, rfl, hu, hT2⟩
  have hu := hu.weak (then_below hB0 hT).size
  have hT := then_below hT hT2
  clear hT2 c0 c1 c2 hz x0 x1 x2 x3 x4 x5 x6 x7 x8 hz1
  obtain ⟨c0, c1, c2, hz⟩ := b0.three hT
  obtain ⟨⟨x0, x1, x2⟩, ⟨x3, x4, x5⟩, ⟨x6, x7, x8⟩, hz1⟩ := b1.nine hT
  go_wp2_with fail
  refine (HB.out _).mono ?_
  rintro e w3 ⟨v, rfl, hv, hT3⟩
  have hB := then_below hB0 hT
  have hv := hv.weak hB.size
  have hu := hu.later hT3
  go_wp2
  refine bodyPost_ret (results_tmp3 rfl _ _ _) rfl ?_
  exact ⟨_, _, rfl, hu, hv, then_below hB hT3⟩

end Go.Proofs.YtlahfffgmfjpaaaGreatDoor

/-
  Sets of the numbers that are asked for: the same ones; joined; met.
-/
namespace Go.Proofs.YtlahfffgmfjpaaaGreatDoor
open Go Go.RowKit Go.Shelf

theorem setOf_meets {n : Int} (h1 : 1 ≤ n) (h2 : n ≤ 12288) (p : Nat → Bool) {ws : List Nat} (he : errAll n [ws] = 0) : meetSB n (setOf n p) ws = (List.range n.toNat).any fun k => hasW ws k && p k := by
  unfold meetSB
  rw [decide_eq_true (errAll_both (setOf_err h1 h2 p) he), Bool.true_and, Bool.eq_iff_iff, List.any_eq_true, List.any_eq_true]
  constructor
  · rintro ⟨j, _, h⟩
    rw [(setOf_is n p).has] at h
    simp only [Bool.and_eq_true, decide_eq_true_eq] at h
    exact ⟨j, List.mem_range.2 h.1.1, by simp [h.1.2, h.2]⟩
  · rintro ⟨j, hj, h⟩
    have hj := List.mem_range.1 hj
    simp only [Bool.and_eq_true] at h
    refine ⟨j, List.mem_range.2 (by rw [setOf_len]; omega), ?_⟩
    rw [(setOf_is n p).has]
    simp [hj, h.1, h.2]

end Go.Proofs.YtlahfffgmfjpaaaGreatDoor

/-
  free.join, at sets (set.Or) and at bools (set.Meet); free.apart; free.taken.
-/
namespace Go.Proofs.YtlahfffgmfjpaaaGreatDoor
open Go Go.RowKit Go.Shelf

attribute [local go_sem] Oper.semAt_some ext_const

abbrev V2 (u v : Value) : Value := .agg #[u, v]
theorem Blk.both {W W' : World} {B : Nat} {t : TypeId} {u v : Value} (h : Blk W B t #[u, v]) (hb : Below W.heap.size W W') : W'.cell? ⟨B, 0, none⟩ = some u ∧ W'.cell? ⟨B, 1, none⟩ = some v ∧ B < W'.heap.size :=
  ⟨(h.later hb).cell 0, (h.later hb).cell 1, (h.later hb).lt⟩
/-- The first error of two. -/
def pairE (e1 e2 : Int) : Int := if e1 = 0 then e2 else e1
def pairB (e1 e2 : Int) (m : Bool) : Bool := decide (e1 = 0) && (decide (e2 = 0) && m)
def pairW (e1 e2 : Int) (ws : List Nat) : List Nat := if e1 = 0 then (if e2 = 0 then ws else []) else []
theorem pairE_0 (e2 : Int) : pairE 0 e2 = e2 := rfl
theorem pairE_1 {e1 : Int} (h : e1 ≠ 0) (e2 : Int) : pairE e1 e2 = e1 := by rw [pairE, if_neg h]
theorem pairB_0 (m : Bool) : pairB 0 0 m = m := by simp [pairB]
theorem pairB_1 {e1 : Int} (h : e1 ≠ 0) (e2 : Int) (m : Bool) : pairB e1 e2 m = false := by simp [pairB, h]
theorem pairB_2 {e2 : Int} (h : e2 ≠ 0) (e1 : Int) (m : Bool) : pairB e1 e2 m = false := by simp [pairB, h]
theorem Wds.form {W : World} {v : Value} {ws : List Nat} (h : Wds W v ws) : ∃ ao n c, v = .slice ao n c := by
  obtain ⟨ao, cap, e, _⟩ := h.view
  exact ⟨_, _, _, e⟩

set_option maxRecDepth 100000 in
set_option maxHeartbeats 8000000 in
theorem joinB_calls {d0 d1 d2 : Int} {a1 a2 b1 b2 : List Nat} {u1 u2 v1 v2 : Value} (w : World) (hm : mayD d0 d1 d2) (hu1 : Wds w u1 a1) (hu2 : Wds w u2 a2) (hv1 : Wds w v1 b1) (hv2 : Wds w v2 b2) :
    Calls Tryz.prog 117 #[A3 d0 d1 d2, V2 u1 u2, V2 v1 v2, .func (.func 118) #[] #[]] w fun e W' =>
      e = .returned (.tuple #[.bool (pairB (errAll (d0 * d1 * d2) [a1, b1]) (errAll (3 * (d0 * d1 * d2)) [a2, b2]) (meetSB (d0 * d1 * d2) a1 b1)), .bool (pairB (errAll (d0 * d1 * d2) [a1, b1]) (errAll (3 * (d0 * d1 * d2)) [a2, b2]) (meetSB (3 * (d0 * d1 * d2)) a2 b2)), I (pairE (errAll (d0 * d1 * d2) [a1, b1]) (errAll (3 * (d0 * d1 * d2)) [a2, b2]))]) ∧ Below w.heap.size w W' := by
  have HN : Hid (∀ w, Calls Tryz.prog 40 #[A3 d0 d1 d2] w fun e W' => e = .returned (.tuple #[I (d0 * d1 * d2), I 0]) ∧ Below w.heap.size w W') := fun w => many_yes w hm
  obtain ⟨W, hW, hB0, k0, k1, k2⟩ := three_boxes w #[I d0, I d1, I d2] #[u1, u2] #[v1, v2] 23 151 151
  have HW : Hid (((w.alloc (.cells #[I d0, I d1, I d2] 23)).alloc (.cells #[u1, u2] 151)).alloc (.cells #[v1, v2] 151) = W) := hW
  have H1 : Hid (∀ w', Below W.heap.size W w' → Calls Tryz.prog 118 #[I (d0 * d1 * d2), u1, v1] w' fun e W' => e = .returned (.tuple #[.bool (meetSB (d0 * d1 * d2) a1 b1), I (errAll (d0 * d1 * d2) [a1, b1])]) ∧ Below w'.heap.size w' W') := fun w' h => meet_calls w' (hu1.later (then_below hB0 h)) (hv1.later (then_below hB0 h)) _
  have H2 : Hid (∀ w', Below W.heap.size W w' → Calls Tryz.prog 118 #[I (3 * (d0 * d1 * d2)), u2, v2] w' fun e W' => e = .returned (.tuple #[.bool (meetSB (3 * (d0 * d1 * d2)) a2 b2), I (errAll (3 * (d0 * d1 * d2)) [a2, b2])]) ∧ Below w'.heap.size w' W') := fun w' h => meet_calls w' (hu2.later (then_below hB0 h)) (hv2.later (then_below hB0 h)) _
  obtain ⟨_, _, _, rfl⟩ := hu1.form
  obtain ⟨_, _, _, rfl⟩ := hu2.form
  obtain ⟨_, _, _, rfl⟩ := hv1.form
  obtain ⟨_, _, _, rfl⟩ := hv2.form
  have hbd := N_bd hm
  have hw3 : wrap64 (3 * (d0 * d1 * d2)) = 3 * (d0 * d1 * d2) := wrap_in _ (by omega)
  clear hW hu1 hu2 hv1 hv2 hm
  generalize meetSB (d0 * d1 * d2) a1 b1 = m1 at *
  generalize meetSB (3 * (d0 * d1 * d2)) a2 b2 = m2 at *
  generalize errAll (d0 * d1 * d2) [a1, b1] = e1 at *
  generalize errAll (3 * (d0 * d1 * d2)) [a2, b2] = e2 at *
  generalize d0 * d1 * d2 = N at *
  obtain ⟨c0, c1, c2, hz⟩ := k0.three (Below.refl _ _)
  by_cases h1 : e1 = 0
  · subst h1
    by_cases h2 : e2 = 0
    · subst h2
      rw [pairB_0, pairB_0, pairE_0]
      go_enter Tryz.func117, Tryz.ntmps117
      go_wp2_with fail
      rw [HW.out]
      refine (HN.out _).mono ?_
      rintro e w1 ⟨rfl, hT⟩
      obtain ⟨x0, x1, hz1⟩ := k1.both hT
      obtain ⟨y0, y1, hz2⟩ := k2.both hT
      go_wp2_with fail
      refine (H1.out _ hT).mono ?_
      rintro e w2 ⟨rfl, hT2⟩
      have hT := then_below hT hT2
      clear x0 x1 hz1 y0 y1 hz2
      obtain ⟨x0, x1, hz1⟩ := k1.both hT
      obtain ⟨y0, y1, hz2⟩ := k2.both hT
      go_wp2_with fail
      refine (H2.out _ hT).mono ?_
      rintro e w3 ⟨rfl, hT3⟩
      go_wp2
      exact bodyPost_ret (results_tmp3 rfl _ _ _) rfl ⟨rfl, then_below hB0 (then_below hT hT3)⟩
    · have hne : (e2 != 0) = true := by simpa using h2
      rw [pairB_2 h2, pairB_2 h2, pairE_0]
      clear h2
      go_enter Tryz.func117, Tryz.ntmps117
      go_wp2_with fail
      rw [HW.out]
      refine (HN.out _).mono ?_
      rintro e w1 ⟨rfl, hT⟩
      obtain ⟨x0, x1, hz1⟩ := k1.both hT
      obtain ⟨y0, y1, hz2⟩ := k2.both hT
      go_wp2_with fail
      refine (H1.out _ hT).mono ?_
      rintro e w2 ⟨rfl, hT2⟩
      have hT := then_below hT hT2
      clear x0 x1 hz1 y0 y1 hz2
      obtain ⟨x0, x1, hz1⟩ := k1.both hT
      obtain ⟨y0, y1, hz2⟩ := k2.both hT
      go_wp2_with fail
      refine (H2.out _ hT).mono ?_
      rintro e w3 ⟨rfl, hT3⟩
      go_wp2
      exact bodyPost_ret (results_tmp3 rfl _ _ _) rfl ⟨rfl, then_below hB0 (then_below hT hT3)⟩
  · have hne : (e1 != 0) = true := by simpa using h1
    rw [pairB_1 h1, pairB_1 h1, pairE_1 h1]
    clear h1
    go_enter Tryz.func117, Tryz.ntmps117
    go_wp2_with fail
    rw [HW.out]
    refine (HN.out _).mono ?_
    rintro e w1 ⟨rfl, hT⟩
    obtain ⟨x0, x1, hz1⟩ := k1.both hT
    obtain ⟨y0, y1, hz2⟩ := k2.both hT
    go_wp2_with fail
    refine (H1.out _ hT).mono ?_
    rintro e w2 ⟨rfl, hT2⟩
    go_wp2
    exact bodyPost_ret (results_tmp3 rfl _ _ _) rfl ⟨rfl, then_below hB0 (then_below hT hT2)⟩

/-- Whether two pairs of sets have nothing in common. -/
def farB (N : Int) (a1 a2 b1 b2 : List Nat) : Bool := decide (pairE (errAll N [a1, b1]) (errAll (3 * N) [a2, b2]) = 0) && (!meetSB N a1 b1 && !meetSB (3 * N) a2 b2)
theorem farB_no {N : Int} {a1 a2 b1 b2 : List Nat} (h : pairE (errAll N [a1, b1]) (errAll (3 * N) [a2, b2]) ≠ 0) : farB N a1 a2 b1 b2 = false := by simp [farB, h]
theorem pairE_ok {e1 e2 : Int} (h : pairE e1 e2 = 0) : e1 = 0 ∧ e2 = 0 := by
  unfold pairE at h
  by_cases h1 : e1 = 0
  · rw [if_pos h1] at h; exact ⟨h1, h⟩
  · rw [if_neg h1] at h; exact absurd h h1

set_option maxRecDepth 100000 in
set_option maxHeartbeats 8000000 in
theorem fapart_calls {d0 d1 d2 : Int} {a1 a2 b1 b2 : List Nat} {u1 u2 v1 v2 : Value} (w : World) (hm : mayD d0 d1 d2) (hu1 : Wds w u1 a1) (hu2 : Wds w u2 a2) (hv1 : Wds w v1 b1) (hv2 : Wds w v2 b2) :
    Calls Tryz.prog 98 #[A3 d0 d1 d2, V2 u1 u2, V2 v1 v2] w fun e W' =>
      e = .returned (.tuple #[.bool (farB (d0 * d1 * d2) a1 a2 b1 b2), I (pairE (errAll (d0 * d1 * d2) [a1, b1]) (errAll (3 * (d0 * d1 * d2)) [a2, b2]))]) ∧ Below w.heap.size w W' := by
  obtain ⟨W, hW, hB0, k0, k1, k2⟩ := three_boxes w #[I d0, I d1, I d2] #[u1, u2] #[v1, v2] 23 151 151
  have HW : Hid (((w.alloc (.cells #[I d0, I d1, I d2] 23)).alloc (.cells #[u1, u2] 151)).alloc (.cells #[v1, v2] 151) = W) := hW
  have HJ := joinB_calls W hm (hu1.later hB0) (hu2.later hB0) (hv1.later hB0) (hv2.later hB0)
  obtain ⟨_, _, _, rfl⟩ := hu1.form
  obtain ⟨_, _, _, rfl⟩ := hu2.form
  obtain ⟨_, _, _, rfl⟩ := hv1.form
  obtain ⟨_, _, _, rfl⟩ := hv2.form
  have HX : Hid (pairE (errAll (d0 * d1 * d2) [a1, b1]) (errAll (3 * (d0 * d1 * d2)) [a2, b2]) ≠ 0 → farB (d0 * d1 * d2) a1 a2 b1 b2 = false) := farB_no
  have HY : Hid (pairE (errAll (d0 * d1 * d2) [a1, b1]) (errAll (3 * (d0 * d1 * d2)) [a2, b2]) = 0 → pairB (errAll (d0 * d1 * d2) [a1, b1]) (errAll (3 * (d0 * d1 * d2)) [a2, b2]) (meetSB (d0 * d1 * d2) a1 b1) = meetSB (d0 * d1 * d2) a1 b1 ∧
      pairB (errAll (d0 * d1 * d2) [a1, b1]) (errAll (3 * (d0 * d1 * d2)) [a2, b2]) (meetSB (3 * (d0 * d1 * d2)) a2 b2) = meetSB (3 * (d0 * d1 * d2)) a2 b2 ∧ farB (d0 * d1 * d2) a1 a2 b1 b2 = (!meetSB (d0 * d1 * d2) a1 b1 && !meetSB (3 * (d0 * d1 * d2)) a2 b2)) := fun h => by
    obtain ⟨h1, h2⟩ := pairE_ok h
    refine ⟨?_, ?_, ?_⟩
    · rw [h1, h2, pairB_0]
    · rw [h1, h2, pairB_0]
    · rw [farB, h]; simp
  have HJ : Hid (Calls Tryz.prog 117 #[A3 d0 d1 d2, V2 _ _, V2 _ _, .func (.func 118) #[] #[]] W fun e W' => e = .returned (.tuple #[.bool (pairB (errAll (d0 * d1 * d2) [a1, b1]) (errAll (3 * (d0 * d1 * d2)) [a2, b2]) (meetSB (d0 * d1 * d2) a1 b1)), .bool (pairB (errAll (d0 * d1 * d2) [a1, b1]) (errAll (3 * (d0 * d1 * d2)) [a2, b2]) (meetSB (3 * (d0 * d1 * d2)) a2 b2)), I (pairE (errAll (d0 * d1 * d2) [a1, b1]) (errAll (3 * (d0 * d1 * d2)) [a2, b2]))]) ∧ Below W.heap.size W W') := HJ
  generalize pairB (errAll (d0 * d1 * d2) [a1, b1]) (errAll (3 * (d0 * d1 * d2)) [a2, b2]) (meetSB (d0 * d1 * d2) a1 b1) = q1 at *
  generalize pairB (errAll (d0 * d1 * d2) [a1, b1]) (errAll (3 * (d0 * d1 * d2)) [a2, b2]) (meetSB (3 * (d0 * d1 * d2)) a2 b2) = q2 at *
  generalize pairE (errAll (d0 * d1 * d2) [a1, b1]) (errAll (3 * (d0 * d1 * d2)) [a2, b2]) = er at *
  generalize meetSB (d0 * d1 * d2) a1 b1 = m1 at *
  generalize meetSB (3 * (d0 * d1 * d2)) a2 b2 = m2 at *
  generalize farB (d0 * d1 * d2) a1 a2 b1 b2 = r at *
  clear hW hu1 hu2 hv1 hv2 hm
  obtain ⟨c0, c1, c2, hz⟩ := k0.three (Below.refl _ _)
  obtain ⟨x0, x1, hz1⟩ := k1.both (Below.refl _ _)
  obtain ⟨y0, y1, hz2⟩ := k2.both (Below.refl _ _)
  by_cases h : er = 0
  · subst h
    obtain ⟨rfl, rfl, rfl⟩ := HY.out (by trivial)
    clear HX HY
    cases q1 <;> cases q2
    all_goals
      go_enter Tryz.func98, Tryz.ntmps98
      go_wp2_with fail
      rw [HW.out]
      refine HJ.out.mono ?_
      rintro e w1 ⟨rfl, hT⟩
      go_wp2
      go_ret2
      exact ⟨rfl, then_below hB0 hT⟩
  · obtain rfl := HX.out h
    have hne : (er != 0) = true := by simpa using h
    clear HX HY h
    go_enter Tryz.func98, Tryz.ntmps98
    go_wp2_with fail
    rw [HW.out]
    refine HJ.out.mono ?_
    rintro e w1 ⟨rfl, hT⟩
    go_wp2
    go_ret2
    exact ⟨rfl, then_below hB0 hT⟩

end Go.Proofs.YtlahfffgmfjpaaaGreatDoor
