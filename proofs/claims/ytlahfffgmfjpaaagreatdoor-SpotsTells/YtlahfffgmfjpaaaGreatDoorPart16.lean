/-
  free.taken, free.Holds: what a place takes; whether it takes nothing that is in some sets.
-/
import Derived.Test.YtlahfffgmfjpaaaGreatDoorPart15
import Derived.Test.YtlahfffgmfjpaaaGreatDoorPart12
import Derived.Test.YtlahfffgmfjpaaaGreatDoorPart3
import Derived.Test.YtlahfffgmfjpaaaGreatDoorProg
import Derived.Test.YtlahfffgmfjpaaaGreatDoorPart5
import Derived.OwnWalk
import Derived.ChangeKeysEq
import Derived.Laws.StructEq
namespace Go.Proofs.YtlahfffgmfjpaaaGreatDoor
open Go Go.RowKit Go.Shelf

attribute [local go_sem] Oper.semAt_some ext_const

theorem SetR.slice {W : World} {base : Nat} {v : Value} {ws : List Nat} (h : SetR W base v ws) : ∃ ao n c, v = .slice ao n c := h.wds.form
theorem SetR.apart {W : World} {base B : Nat} {v : Value} {ws : List Nat} (h : SetR W base v ws) (hB : B < base) (i : Nat) (x : Value) : SetR (W.setCell ⟨B, i, none⟩ x) base v ws := by
  rcases h with ⟨h1, g, e, hg, hk⟩ | h
  · exact .inl ⟨h1, g, e, hg, hk.other i x (by omega)⟩
  · exact .inr h

set_option maxRecDepth 100000 in
set_option maxHeartbeats 8000000 in
theorem taken_ok {d0 d1 d2 : Int} {b : Bx} {t0 t1 t2 : Bool} (w : World) (hm : mayD d0 d1 d2) (hp : mayP d0 d1 d2 b t0 t1 t2) :
    Calls Tryz.prog 97 #[A3 d0 d1 d2, P9 b t0 t1 t2] w fun e W' => ∃ u v, e = .returned (.tuple #[V2 u v, I 0]) ∧ SetR W' w.heap.size u (midW d0 d1 d2 b) ∧ SetR W' w.heap.size v (cabsW d0 d1 d2 b t0 t1 t2) ∧ Below w.heap.size w W' := by
  have HS : Hid (∀ w, Calls Tryz.prog 116 #[A3 d0 d1 d2, P9 b t0 t1 t2] w fun e W' => ∃ u v, e = .returned (.tuple #[u, v, I 0]) ∧ SetR W' w.heap.size u (midW d0 d1 d2 b) ∧ SetR W' w.heap.size v (cabsW d0 d1 d2 b t0 t1 t2) ∧ Below w.heap.size w W') := fun w => sets_ok w hm hp
  obtain ⟨W, hW, hB0, k0, k1, k2⟩ := three_boxes w #[I d0, I d1, I d2] (C9 b t0 t1 t2) #[.slice none 0 0, .slice none 0 0] 23 32 151
  have HW : Hid (((w.alloc (.cells #[I d0, I d1, I d2] 23)).alloc (.cells (C9 b t0 t1 t2) 32)).alloc (.cells #[.slice none 0 0, .slice none 0 0] 151) = W) := hW
  clear hm hp hW
  generalize midW d0 d1 d2 b = S at *
  generalize cabsW d0 d1 d2 b t0 t1 t2 = S' at *
  have hlt := k2.lt
  obtain ⟨c0, c1, c2, hz⟩ := k0.three (Below.refl _ _)
  obtain ⟨⟨x0, x1, x2⟩, ⟨x3, x4, x5⟩, ⟨x6, x7, x8⟩, hz1⟩ := k1.nine (Below.refl _ _)
  go_enter Tryz.func97, Tryz.ntmps97
  go_wp2_with fail
  rw [HW.out]
  refine (HS.out _).mono ?_
  rintro e w1 ⟨u, v, rfl, hu, hv, hT⟩
  obtain ⟨a1, n1, e1, rfl⟩ := hu.slice
  obtain ⟨a2, n2, e2, rfl⟩ := hv.slice
  have hu1 := (hu.apart hlt 0 (.slice a1 n1 e1)).apart hlt 1 (.slice a2 n2 e2)
  have hv1 := (hv.apart hlt 0 (.slice a1 n1 e1)).apart hlt 1 (.slice a2 n2 e2)
  have hlow := ((then_below hB0 hT).setCell (p := ⟨w.heap.size + 1 + 1, 0, none⟩) (show w.heap.size ≤ w.heap.size + 1 + 1 by omega) (.slice a1 n1 e1)).setCell (p := ⟨w.heap.size + 1 + 1, 1, none⟩) (show w.heap.size ≤ w.heap.size + 1 + 1 by omega) (.slice a2 n2 e2)
  have hb1 := k2.later hT
  have hb2 := hb1.set 0 (.slice a1 n1 e1)
  have hb3 := hb2.set 1 (.slice a2 n2 e2)
  obtain ⟨p0, p1, hzz⟩ := k2.both hT
  have f0 := hb1.frozen 0
  have f1 := hb1.frozen 1
  have g1 := hb2.frozen 1
  have q1 := hb2.cell 1
  have j0 := hb3.cell 0
  have j1 := hb3.cell 1
  simp at q1 j0 j1
  have HF : Hid (SetR ((w1.setCell ⟨w.heap.size + 1 + 1, 0, none⟩ (.slice a1 n1 e1)).setCell ⟨w.heap.size + 1 + 1, 1, none⟩ (.slice a2 n2 e2)) w.heap.size (.slice a1 n1 e1) S ∧ SetR ((w1.setCell ⟨w.heap.size + 1 + 1, 0, none⟩ (.slice a1 n1 e1)).setCell ⟨w.heap.size + 1 + 1, 1, none⟩ (.slice a2 n2 e2)) w.heap.size (.slice a2 n2 e2) S' ∧ Below w.heap.size w ((w1.setCell ⟨w.heap.size + 1 + 1, 0, none⟩ (.slice a1 n1 e1)).setCell ⟨w.heap.size + 1 + 1, 1, none⟩ (.slice a2 n2 e2))) := ⟨hu1.weak hB0.size, hv1.weak hB0.size, hlow⟩
  clear hu hv hu1 hv1 hlow hb1 hb2 hb3 c0 c1 c2 hz x0 x1 x2 x3 x4 x5 x6 x7 x8 hz1
  go_wp2
  exact bodyPost_ret (v := .tuple #[V2 (.slice a1 n1 e1) (.slice a2 n2 e2), I 0]) (by simp [results, Tryz.f97, go_sem, j0, j1]) rfl ⟨_, _, rfl, HF.out.1, HF.out.2.1, HF.out.2.2⟩

set_option maxRecDepth 100000 in
set_option maxHeartbeats 8000000 in
theorem taken_err {d0 d1 d2 : Int} {b : Bx} (t0 t1 t2 : Bool) (w : World) (he : (errP d0 d1 d2 b t0 t1 t2 != 0) = true) :
    Calls Tryz.prog 97 #[A3 d0 d1 d2, P9 b t0 t1 t2] w fun e W' => e = .returned (.tuple #[V2 (.slice none 0 0) (.slice none 0 0), I (errP d0 d1 d2 b t0 t1 t2)]) ∧ Below w.heap.size w W' := by
  have HS : Hid (∀ w, Calls Tryz.prog 116 #[A3 d0 d1 d2, P9 b t0 t1 t2] w fun e W' => e = .returned (.tuple #[.slice none 0 0, .slice none 0 0, I (errP d0 d1 d2 b t0 t1 t2)]) ∧ Below w.heap.size w W') := fun w => sets_err t0 t1 t2 w he
  generalize errP d0 d1 d2 b t0 t1 t2 = er at *
  obtain ⟨W, hW, hB0, k0, k1, k2⟩ := three_boxes w #[I d0, I d1, I d2] (C9 b t0 t1 t2) #[.slice none 0 0, .slice none 0 0] 23 32 151
  have HW : Hid (((w.alloc (.cells #[I d0, I d1, I d2] 23)).alloc (.cells (C9 b t0 t1 t2) 32)).alloc (.cells #[.slice none 0 0, .slice none 0 0] 151) = W) := hW
  clear hW he
  obtain ⟨c0, c1, c2, hz⟩ := k0.three (Below.refl _ _)
  obtain ⟨⟨x0, x1, x2⟩, ⟨x3, x4, x5⟩, ⟨x6, x7, x8⟩, hz1⟩ := k1.nine (Below.refl _ _)
  go_enter Tryz.func97, Tryz.ntmps97
  go_wp2_with fail
  rw [HW.out]
  refine (HS.out _).mono ?_
  rintro e w1 ⟨rfl, hT⟩
  have hlow := ((then_below hB0 hT).setCell (p := ⟨w.heap.size + 1 + 1, 0, none⟩) (show w.heap.size ≤ w.heap.size + 1 + 1 by omega) (.slice none 0 0)).setCell (p := ⟨w.heap.size + 1 + 1, 1, none⟩) (show w.heap.size ≤ w.heap.size + 1 + 1 by omega) (.slice none 0 0)
  have hb1 := k2.later hT
  have hb2 := hb1.set 0 (.slice none 0 0)
  have hb3 := hb2.set 1 (.slice none 0 0)
  obtain ⟨p0, p1, hzz⟩ := k2.both hT
  have f0 := hb1.frozen 0
  have f1 := hb1.frozen 1
  have g1 := hb2.frozen 1
  have q1 := hb2.cell 1
  have j0 := hb3.cell 0
  have j1 := hb3.cell 1
  simp at q1 j0 j1
  have HF : Hid (Below w.heap.size w ((w1.setCell ⟨w.heap.size + 1 + 1, 0, none⟩ (.slice none 0 0)).setCell ⟨w.heap.size + 1 + 1, 1, none⟩ (.slice none 0 0))) := hlow
  clear hlow hb1 hb2 hb3 c0 c1 c2 hz x0 x1 x2 x3 x4 x5 x6 x7 x8 hz1
  go_wp2
  exact bodyPost_ret (v := .tuple #[V2 (.slice none 0 0) (.slice none 0 0), I er]) (by simp [results, Tryz.f97, go_sem, j0, j1]) rfl ⟨rfl, HF.out⟩

/-- The error of two sets that are to be avoided; whether a place is free of them. -/
def avoE (N : Int) (S1 S2 mw lw : List Nat) : Int := pairE (errAll N [S1, mw]) (errAll (3 * N) [S2, lw])
set_option maxRecDepth 100000 in
set_option maxHeartbeats 8000000 in
theorem holds_ok {d0 d1 d2 : Int} {b : Bx} {t0 t1 t2 : Bool} {mw lw : List Nat} {vm vl : Value} (w : World) (hm : mayD d0 d1 d2) (hp : mayP d0 d1 d2 b t0 t1 t2) (hM : Wds w vm mw) (hL : Wds w vl lw) :
    Calls Tryz.prog 73 #[A3 d0 d1 d2, P9 b t0 t1 t2, vm, vl] w fun e W' => e = .returned (.tuple #[.bool (farB (d0 * d1 * d2) (midW d0 d1 d2 b) (cabsW d0 d1 d2 b t0 t1 t2) mw lw), I (avoE (d0 * d1 * d2) (midW d0 d1 d2 b) (cabsW d0 d1 d2 b t0 t1 t2) mw lw)]) ∧ Below w.heap.size w W' := by
  have HS : Hid (∀ w, Calls Tryz.prog 97 #[A3 d0 d1 d2, P9 b t0 t1 t2] w fun e W' => ∃ u v, e = .returned (.tuple #[V2 u v, I 0]) ∧ SetR W' w.heap.size u (midW d0 d1 d2 b) ∧ SetR W' w.heap.size v (cabsW d0 d1 d2 b t0 t1 t2) ∧ Below w.heap.size w W') := fun w => taken_ok w hm hp
  have HA : Hid (∀ w u v vm vl, Wds w u (midW d0 d1 d2 b) → Wds w v (cabsW d0 d1 d2 b t0 t1 t2) → Wds w vm mw → Wds w vl lw → Calls Tryz.prog 98 #[A3 d0 d1 d2, V2 u v, V2 vm vl] w fun e W' => e = .returned (.tuple #[.bool (farB (d0 * d1 * d2) (midW d0 d1 d2 b) (cabsW d0 d1 d2 b t0 t1 t2) mw lw), I (avoE (d0 * d1 * d2) (midW d0 d1 d2 b) (cabsW d0 d1 d2 b t0 t1 t2) mw lw)]) ∧ Below w.heap.size w W') := fun w u v vm vl h1 h2 h3 h4 => fapart_calls w hm h1 h2 h3 h4
  obtain ⟨W, hW, hB0, k0, k1⟩ := two_start w #[I d0, I d1, I d2] (C9 b t0 t1 t2) 23 32
  have HW : Hid ((w.alloc (.cells #[I d0, I d1, I d2] 23)).alloc (.cells (C9 b t0 t1 t2) 32) = W) := hW
  have HM : Hid (Wds W vm mw) := hM.later hB0
  have HL : Hid (Wds W vl lw) := hL.later hB0
  obtain ⟨a3, n3, e3, rfl⟩ := hM.form
  obtain ⟨a4, n4, e4, rfl⟩ := hL.form
  clear hm hp hW hM hL
  generalize midW d0 d1 d2 b = S at *
  generalize cabsW d0 d1 d2 b t0 t1 t2 = S' at *
  generalize farB (d0 * d1 * d2) S S' mw lw = r at *
  generalize avoE (d0 * d1 * d2) S S' mw lw = er at *
  obtain ⟨c0, c1, c2, hz⟩ := k0.three (Below.refl _ _)
  obtain ⟨⟨x0, x1, x2⟩, ⟨x3, x4, x5⟩, ⟨x6, x7, x8⟩, hz1⟩ := k1.nine (Below.refl _ _)
  go_enter Tryz.func73, Tryz.ntmps73
  go_wp2_with fail
  rw [HW.out]
  refine (HS.out _).mono ?_
  rintro e w1 ⟨u, v, rfl, hu, hv, hT⟩
  obtain ⟨a1, n1, e1, rfl⟩ := hu.slice
  obtain ⟨a2, n2, e2, rfl⟩ := hv.slice
  obtain ⟨W1, hW1, hB1, k2⟩ := one_start w1 #[.slice a1 n1 e1, .slice a2 n2 e2] 151
  have HW1 : Hid (w1.alloc (.cells #[.slice a1 n1 e1, .slice a2 n2 e2] 151) = W1) := hW1
  have HU : Hid (Wds W1 (.slice a1 n1 e1) S) := (hu.later hB1).wds
  have HV : Hid (Wds W1 (.slice a2 n2 e2) S') := (hv.later hB1).wds
  have HM1 : Hid (Wds W1 (.slice a3 n3 e3) mw) := HM.out.later (then_below hT hB1)
  have HL1 : Hid (Wds W1 (.slice a4 n4 e4) lw) := HL.out.later (then_below hT hB1)
  have hT1 := then_below hT hB1
  clear hu hv hW1 c0 c1 c2 hz x0 x1 x2 x3 x4 x5 x6 x7 x8 hz1
  obtain ⟨c0, c1, c2, hz⟩ := k0.three hT
  clear k2
  go_wp2_with fail
  rw [HW1.out]
  refine (HA.out _ _ _ _ _ HU.out HV.out HM1.out HL1.out).mono ?_
  rintro e w2 ⟨rfl, hT2⟩
  go_wp2
  go_ret2
  exact ⟨rfl, then_below hB0 (then_below hT1 hT2)⟩

set_option maxRecDepth 100000 in
set_option maxHeartbeats 8000000 in
theorem holds_err {d0 d1 d2 : Int} {b : Bx} (t0 t1 t2 : Bool) {vm vl : Value} (w : World) (he : (errP d0 d1 d2 b t0 t1 t2 != 0) = true) :
    Calls Tryz.prog 73 #[A3 d0 d1 d2, P9 b t0 t1 t2, vm, vl] w fun e W' => e = .returned (.tuple #[.bool false, I (errP d0 d1 d2 b t0 t1 t2)]) ∧ Below w.heap.size w W' := by
  have HS : Hid (∀ w, Calls Tryz.prog 97 #[A3 d0 d1 d2, P9 b t0 t1 t2] w fun e W' => e = .returned (.tuple #[V2 (.slice none 0 0) (.slice none 0 0), I (errP d0 d1 d2 b t0 t1 t2)]) ∧ Below w.heap.size w W') := fun w => taken_err t0 t1 t2 w he
  generalize errP d0 d1 d2 b t0 t1 t2 = er at *
  obtain ⟨W, hW, hB0, k0, k1⟩ := two_start w #[I d0, I d1, I d2] (C9 b t0 t1 t2) 23 32
  have HW : Hid ((w.alloc (.cells #[I d0, I d1, I d2] 23)).alloc (.cells (C9 b t0 t1 t2) 32) = W) := hW
  clear hW
  obtain ⟨c0, c1, c2, hz⟩ := k0.three (Below.refl _ _)
  obtain ⟨⟨x0, x1, x2⟩, ⟨x3, x4, x5⟩, ⟨x6, x7, x8⟩, hz1⟩ := k1.nine (Below.refl _ _)
  go_enter Tryz.func73, Tryz.ntmps73
  go_wp2_with fail
  rw [HW.out]
  refine (HS.out _).mono ?_
  rintro e w1 ⟨rfl, hT⟩
  clear c0 c1 c2 hz x0 x1 x2 x3 x4 x5 x6 x7 x8 hz1
  go_wp2
  go_ret2
  exact ⟨rfl, then_alloc (then_below hB0 hT) _⟩

end Go.Proofs.YtlahfffgmfjpaaaGreatDoor

/-
  free.Holds: what it answers, for every input.
-/
namespace Go.Proofs.YtlahfffgmfjpaaaGreatDoor
open Go Go.RowKit Go.Shelf

attribute [local go_sem] Oper.semAt_some ext_const

/-- Two sets may be, of so many midplanes. -/
def mayW (n : Nat) (mw lw : List Nat) : Bool := maySet n mw && maySet (3 * n) lw
theorem errAll_one {n : Nat} (h1 : 1 ≤ n) (h2 : n ≤ 12288) (ws : List Nat) : errAll n [ws] = if maySet n ws then 0 else 8 := by
  unfold errAll
  rw [show okN (n : Int) = true by simp [okN]; omega]
  simp
theorem errAll_pair {n : Nat} (h1 : 1 ≤ n) (h2 : n ≤ 12288) (p : Nat → Bool) (ws : List Nat) : errAll n [setOf n p, ws] = if maySet n ws then 0 else 8 := by
  rw [errAll_second (setOf_err (by omega) (by omega) p), errAll_one h1 h2]
theorem avoE_is {n : Nat} (h1 : 1 ≤ n) (h2 : n ≤ 4096) (p q : Nat → Bool) (mw lw : List Nat) : avoE n (setOf n p) (setOf (3 * (n : Int)) q) mw lw = if mayW n mw lw then 0 else 8 := by
  unfold avoE
  have e : (3 * (n : Int)) = ((3 * n : Nat) : Int) := by omega
  rw [e, errAll_pair h1 (by omega), errAll_pair (by omega) (by omega)]
  unfold mayW pairE
  cases maySet n mw <;> cases maySet (3 * n) lw <;> rfl
theorem mayW_err {n : Nat} (h1 : 1 ≤ n) (h2 : n ≤ 4096) {mw lw : List Nat} (h : mayW n mw lw = true) : errAll n [mw] = 0 ∧ errAll (3 * (n : Int)) [lw] = 0 := by
  unfold mayW at h
  rw [Bool.and_eq_true] at h
  have e : (3 * (n : Int)) = ((3 * n : Nat) : Int) := by omega
  rw [e, errAll_one h1 (by omega), errAll_one (by omega) (by omega), h.1, h.2]
  exact ⟨rfl, rfl⟩
/-- No number that is asked for is in a set. -/
def offW (n : Nat) (p : Nat → Bool) (ws : List Nat) : Bool := !(List.range n).any fun k => hasW ws k && p k
theorem offW_iff {n : Nat} {p : Nat → Bool} {ws : List Nat} : offW n p ws = true ↔ ∀ k, k < n → p k = true → hasW ws k = false := by
  unfold offW
  rw [Bool.not_eq_true', List.any_eq_false]
  constructor
  · intro h k hk hp
    have := h k (List.mem_range.2 hk)
    simpa [hp] using this
  · intro h k hk
    have := h k (List.mem_range.1 hk)
    cases hp : p k
    · simp
    · simp [this hp]
theorem farB_is {n : Nat} (h1 : 1 ≤ n) (h2 : n ≤ 4096) (p q : Nat → Bool) (mw lw : List Nat) : farB n (setOf n p) (setOf (3 * (n : Int)) q) mw lw = (mayW n mw lw && (offW n p mw && offW (3 * n) q lw)) := by
  have e0 := avoE_is h1 h2 p q mw lw
  unfold avoE at e0
  unfold farB
  rw [e0]
  cases hm : mayW n mw lw
  · rfl
  · obtain ⟨e1, e2⟩ := mayW_err h1 h2 hm
    rw [setOf_meets (by omega) (by omega) p e1, setOf_meets (by omega) (by omega) q e2]
    have e3 : (3 * (n : Int)).toNat = 3 * n := by omega
    rw [e3, Int.toNat_natCast]
    rfl

/-- Which numbers a place takes. -/
def midP (a b c : Int) (bx : Bx) (k : Nat) : Bool := hasB a b c bx (k : Int)
def cabP (a b c : Int) (bx : Bx) (t0 t1 t2 : Bool) (k : Nat) : Bool := cabB a b c bx t0 t1 t2 (k : Int)
/-- Whether a place is free of two sets. -/
def wellB (a b c : Int) (bx : Bx) (t0 t1 t2 : Bool) (mw lw : List Nat) : Bool := offW (a * b * c).toNat (midP a b c bx) mw && offW (3 * (a * b * c).toNat) (cabP a b c bx t0 t1 t2) lw
def hoE (a b c : Int) (bx : Bx) (t0 t1 t2 : Bool) (mw lw : List Nat) : Int := if errP a b c bx t0 t1 t2 = 0 then (if mayW (a * b * c).toNat mw lw then 0 else 8) else errP a b c bx t0 t1 t2
def hoB (a b c : Int) (bx : Bx) (t0 t1 t2 : Bool) (mw lw : List Nat) : Bool := decide (hoE a b c bx t0 t1 t2 mw lw = 0) && wellB a b c bx t0 t1 t2 mw lw

theorem avo_place {a b c : Int} (hm : mayD a b c) (bx : Bx) (t0 t1 t2 : Bool) (mw lw : List Nat) : avoE (a * b * c) (midW a b c bx) (cabsW a b c bx t0 t1 t2) mw lw = if mayW (a * b * c).toNat mw lw then 0 else 8 := by
  have hb := N_bd hm
  obtain ⟨n, hn⟩ : ∃ n : Nat, a * b * c = n := ⟨(a * b * c).toNat, by omega⟩
  unfold midW cabsW
  rw [hn, Int.toNat_natCast]
  exact avoE_is (by omega) (by omega) _ _ mw lw
theorem far_place {a b c : Int} (hm : mayD a b c) (bx : Bx) (t0 t1 t2 : Bool) (mw lw : List Nat) : farB (a * b * c) (midW a b c bx) (cabsW a b c bx t0 t1 t2) mw lw = (mayW (a * b * c).toNat mw lw && wellB a b c bx t0 t1 t2 mw lw) := by
  have hb := N_bd hm
  obtain ⟨n, hn⟩ : ∃ n : Nat, a * b * c = n := ⟨(a * b * c).toNat, by omega⟩
  unfold midW cabsW wellB
  rw [hn, Int.toNat_natCast]
  exact farB_is (by omega) (by omega) _ _ mw lw
/-- free.Holds, whatever it is handed. -/
theorem holds_calls {a b c : Int} {bx : Bx} (t0 t1 t2 : Bool) {mw lw : List Nat} {vm vl : Value} (w : World) (hM : Wds w vm mw) (hL : Wds w vl lw) :
    Calls Tryz.prog 73 #[A3 a b c, P9 bx t0 t1 t2, vm, vl] w fun e W' => e = .returned (.tuple #[.bool (hoB a b c bx t0 t1 t2 mw lw), I (hoE a b c bx t0 t1 t2 mw lw)]) ∧ Below w.heap.size w W' := by
  rcases errP_cases a b c bx t0 t1 t2 with ⟨hm, hp, he⟩ | ⟨he, _⟩
  · have := holds_ok w hm hp hM hL
    rw [avo_place hm, far_place hm] at this
    have e1 : hoE a b c bx t0 t1 t2 mw lw = if mayW (a * b * c).toNat mw lw then 0 else 8 := by rw [hoE, if_pos he]
    have e2 : hoB a b c bx t0 t1 t2 mw lw = (mayW (a * b * c).toNat mw lw && wellB a b c bx t0 t1 t2 mw lw) := by
      rw [hoB, e1]
      cases mayW (a * b * c).toNat mw lw <;> rfl
    rw [e1, e2]
    exact this
  · have h0 : errP a b c bx t0 t1 t2 ≠ 0 := by rcases he with h | h <;> rw [h] <;> decide
    have e1 : hoE a b c bx t0 t1 t2 mw lw = errP a b c bx t0 t1 t2 := by rw [hoE, if_neg h0]
    have e2 : hoB a b c bx t0 t1 t2 mw lw = false := by rw [hoB, e1, decide_eq_false h0, Bool.false_and]
    rw [e1, e2]
    exact holds_err t0 t1 t2 w (by simpa using h0)

end Go.Proofs.YtlahfffgmfjpaaaGreatDoor

/-
  What layer 12's statements ask of the places that are free of two sets (ahead of it). No program is walked here.
-/
namespace Go.Proofs.YtlahfffgmfjpaaaGreatDoor
open Go Go.RowKit Go.Shelf

/-- The places of some rotations that are free of two sets. -/
def wellL (d0 d1 d2 : Int) (mw lw : List Nat) (p : Pl) : Bool := wellB d0 d1 d2 p.1 p.2.1 p.2.2.1 p.2.2.2 mw lw
def clearT (d0 d1 d2 : Int) (l : List Wt) (mw lw : List Nat) : List Pl := (everyT d0 d1 d2 l).filter (wellL d0 d1 d2 mw lw)
theorem clear_mem {d0 d1 d2 : Int} (h : mayD d0 d1 d2) {l : List Wt} (hl : ∀ u ∈ l, mayT u) {mw lw : List Nat} {p : Pl} : p ∈ clearT d0 d1 d2 l mw lw ↔ (mayL d0 d1 d2 p = true ∧ isT l p = true) ∧ wellL d0 d1 d2 mw lw p = true := by
  unfold clearT
  rw [List.mem_filter, every_mem h hl, isT_iff]
theorem clear_up {d0 d1 d2 : Int} {l : List Wt} (hl : ∀ u ∈ l, mayT u) (mw lw : List Nat) : upF (keyP d0 d1) (clearT d0 d1 d2 l mw lw) := filter_up (every_up hl) _
theorem clear_le {d0 d1 d2 : Int} (l : List Wt) (mw lw : List Nat) : (clearT d0 d1 d2 l mw lw).length ≤ (everyT d0 d1 d2 l).length := List.length_filter_le _ _
/-- A place that may be is free of sets that may be, just as Holds tells it. -/
theorem hold_may {d0 d1 d2 : Int} (h : mayD d0 d1 d2) {p : Pl} (hp : mayL d0 d1 d2 p = true) {mw lw : List Nat} (hw : mayW (d0 * d1 * d2).toNat mw lw = true) :
    hoE d0 d1 d2 p.1 p.2.1 p.2.2.1 p.2.2.2 mw lw = 0 ∧ hoB d0 d1 d2 p.1 p.2.1 p.2.2.1 p.2.2.2 mw lw = wellL d0 d1 d2 mw lw p := by
  have e : errP d0 d1 d2 p.1 p.2.1 p.2.2.1 p.2.2.2 = 0 := errP_ok h (mayL_iff.1 hp)
  have e1 : hoE d0 d1 d2 p.1 p.2.1 p.2.2.1 p.2.2.2 mw lw = 0 := by rw [hoE, if_pos e, hw]; rfl
  exact ⟨e1, by rw [hoB, e1, decide_eq_true rfl, Bool.true_and]; rfl⟩
end Go.Proofs.YtlahfffgmfjpaaaGreatDoor

/-
  A place is free of two sets just if each of its runs is: along each axis, the places as long as it along that axis, of one midplane along the others. No program is walked here.
-/
namespace Go.Proofs.YtlahfffgmfjpaaaGreatDoor
open Go Go.RowKit Go.Shelf

/-- How far each midplane of a box lies from its base, as the program hands it out. -/
abbrev Tri := Int × Int × Int
def offsL (a b c : Nat) : List Tri := (List.range c).flatMap fun (z : Nat) => (List.range b).flatMap fun (y : Nat) => (List.range a).map fun (x : Nat) => ((x : Int), (y : Int), (z : Int))
theorem offs_mem {a b c : Nat} {t : Tri} : t ∈ offsL a b c ↔ (0 ≤ t.1 ∧ t.1 < a) ∧ (0 ≤ t.2.1 ∧ t.2.1 < b) ∧ (0 ≤ t.2.2 ∧ t.2.2 < c) := by
  obtain ⟨x, y, z⟩ := t
  simp only [offsL, List.mem_flatMap, List.mem_map, List.mem_range, Prod.mk.injEq]
  constructor
  · rintro ⟨k, hk, j, hj, i, hi, rfl, rfl, rfl⟩; omega
  · rintro ⟨h0, h1, h2⟩
    exact ⟨z.toNat, by omega, y.toNat, by omega, x.toNat, by omega, by omega, by omega, by omega⟩
def ringO (d x o : Int) : Int := (x + o) % d
/-- Axis by axis: the box across; the run at an offset. -/
def acrossL (b : Bx) (k : Nat) : List Tri := if k = 0 then offsL 1 b.b.toNat b.c.toNat else if k = 1 then offsL b.a.toNat 1 b.c.toNat else offsL b.a.toNat b.b.toNat 1
def runP (d0 d1 d2 : Int) (p : Pl) (k : Nat) (o : Tri) : Pl :=
  (⟨ringO d0 p.1.x o.1, ringO d1 p.1.y o.2.1, ringO d2 p.1.z o.2.2, if k = 0 then p.1.a else 1, if k = 1 then p.1.b else 1, if k = 2 then p.1.c else 1⟩, decide (k = 0) && p.2.1, decide (k = 1) && p.2.2.1, decide (k = 2) && p.2.2.2)
def runsK (d0 d1 d2 : Int) (p : Pl) (k : Nat) : List Pl := (acrossL p.1 k).map (runP d0 d1 d2 p k)
def runsL (d0 d1 d2 : Int) (p : Pl) : List Pl := runsK d0 d1 d2 p 0 ++ (runsK d0 d1 d2 p 1 ++ runsK d0 d1 d2 p 2)

theorem ringO_is {d x o : Int} (hx : 0 ≤ x ∧ x < d) (ho : 0 ≤ o ∧ o < d) : ringO d x o = if x + o < d then x + o else x + o - d := by
  unfold ringO
  split
  · exact Int.emod_eq_of_lt (by omega) (by omega)
  · have : (x + o) % d = (x + o - d) % d := by rw [Int.sub_emod, Int.emod_self, Int.sub_zero, Int.emod_emod_of_dvd _ (Int.dvd_refl d)]
    rw [this]
    exact Int.emod_eq_of_lt (by omega) (by omega)
theorem ringO_in {d x o : Int} (hx : 0 ≤ x ∧ x < d) (ho : 0 ≤ o ∧ o < d) : 0 ≤ ringO d x o ∧ ringO d x o < d := by
  rw [ringO_is hx ho]
  split <;> omega
theorem ringO_zero {d x : Int} (hx : 0 ≤ x ∧ x < d) : ringO d x 0 = x := by
  rw [ringO_is hx (by omega), if_pos (by omega)]
  omega
/-- One midplane so far on. -/
theorem has_on {d x o c : Int} (hx : 0 ≤ x ∧ x < d) (ho : 0 ≤ o ∧ o < d) (hc : 0 ≤ c ∧ c < d) : hasS d (ringO d x o) 1 c = decide (aft d x c = o) := by
  have h1 := ringO_is hx ho
  unfold hasS aft
  rw [h1]
  refine bool_ext ?_
  rw [decide_eq_true_eq, decide_eq_true_eq]
  split <;> split <;> split <;> omega
theorem has_aft {d x s c : Int} : hasS d x s c = true ↔ aft d x c < s := by simp [hasS]

section
variable {d0 d1 d2 : Int}
/-- Where a box of a run's make has a midplane. -/
theorem has_run0 {x y z s o1 o2 m : Int} (h : mayD d0 d1 d2) (hm : 0 ≤ m ∧ m < d0 * d1 * d2) (hx : 0 ≤ x ∧ x < d0) (hy : 0 ≤ y ∧ y < d1) (hz : 0 ≤ z ∧ z < d2) (h1 : 0 ≤ o1 ∧ o1 < d1) (h2 : 0 ≤ o2 ∧ o2 < d2) :
    hasB d0 d1 d2 ⟨ringO d0 x 0, ringO d1 y o1, ringO d2 z o2, s, 1, 1⟩ m = true ↔ aft d0 x (cx d0 m) < s ∧ aft d1 y (cy d0 d1 m) = o1 ∧ aft d2 z (cz d0 d1 m) = o2 := by
  obtain ⟨i0, i1, i2⟩ := inD_of_node h hm
  simp only [hasB, ringO_zero hx, has_on hy h1 i1, has_on hz h2 i2, Bool.and_eq_true, has_aft, decide_eq_true_eq, and_assoc]
theorem has_run1 {x y z s o0 o2 m : Int} (h : mayD d0 d1 d2) (hm : 0 ≤ m ∧ m < d0 * d1 * d2) (hx : 0 ≤ x ∧ x < d0) (hy : 0 ≤ y ∧ y < d1) (hz : 0 ≤ z ∧ z < d2) (h0 : 0 ≤ o0 ∧ o0 < d0) (h2 : 0 ≤ o2 ∧ o2 < d2) :
    hasB d0 d1 d2 ⟨ringO d0 x o0, ringO d1 y 0, ringO d2 z o2, 1, s, 1⟩ m = true ↔ aft d0 x (cx d0 m) = o0 ∧ aft d1 y (cy d0 d1 m) < s ∧ aft d2 z (cz d0 d1 m) = o2 := by
  obtain ⟨i0, i1, i2⟩ := inD_of_node h hm
  simp only [hasB, ringO_zero hy, has_on hx h0 i0, has_on hz h2 i2, Bool.and_eq_true, has_aft, decide_eq_true_eq, and_assoc]
theorem has_run2 {x y z s o0 o1 m : Int} (h : mayD d0 d1 d2) (hm : 0 ≤ m ∧ m < d0 * d1 * d2) (hx : 0 ≤ x ∧ x < d0) (hy : 0 ≤ y ∧ y < d1) (hz : 0 ≤ z ∧ z < d2) (h0 : 0 ≤ o0 ∧ o0 < d0) (h1 : 0 ≤ o1 ∧ o1 < d1) :
    hasB d0 d1 d2 ⟨ringO d0 x o0, ringO d1 y o1, ringO d2 z 0, 1, 1, s⟩ m = true ↔ aft d0 x (cx d0 m) = o0 ∧ aft d1 y (cy d0 d1 m) = o1 ∧ aft d2 z (cz d0 d1 m) < s := by
  obtain ⟨i0, i1, i2⟩ := inD_of_node h hm
  simp only [hasB, ringO_zero hz, has_on hx h0 i0, has_on hy h1 i1, Bool.and_eq_true, has_aft, decide_eq_true_eq, and_assoc]
theorem has_all {b : Bx} {m : Int} : hasB d0 d1 d2 b m = true ↔ aft d0 b.x (cx d0 m) < b.a ∧ aft d1 b.y (cy d0 d1 m) < b.b ∧ aft d2 b.z (cz d0 d1 m) < b.c := by
  simp only [hasB, Bool.and_eq_true, has_aft, and_assoc]

/-- The offsets of a place's runs. -/
theorem across_in {p : Pl} (hp : mayL d0 d1 d2 p = true) {k : Nat} (hk : k < 3) {o : Tri} : o ∈ acrossL p.1 k ↔ (0 ≤ o.1 ∧ o.1 < (if k = 0 then 1 else p.1.a)) ∧ (0 ≤ o.2.1 ∧ o.2.1 < (if k = 1 then 1 else p.1.b)) ∧ (0 ≤ o.2.2 ∧ o.2.2 < (if k = 2 then 1 else p.1.c)) := by
  obtain ⟨⟨b0, b1, b2⟩, _⟩ := mayL_iff.1 hp
  have q0 := b0.1
  have q1 := b1.1
  have q2 := b2.1
  unfold acrossL
  match k, hk with
  | 0, _ =>
    simp only [if_true]
    rw [offs_mem]
    simp only [show ((p.1.b.toNat : Nat) : Int) = p.1.b by omega, show ((p.1.c.toNat : Nat) : Int) = p.1.c by omega]
    simp
  | 1, _ =>
    simp only [show ¬ ((1 : Nat) = 0) by omega, if_false, if_true]
    rw [offs_mem]
    simp only [show ((p.1.a.toNat : Nat) : Int) = p.1.a by omega, show ((p.1.c.toNat : Nat) : Int) = p.1.c by omega]
    simp
  | 2, _ =>
    simp only [show ¬ ((2 : Nat) = 0) by omega, show ¬ ((2 : Nat) = 1) by omega, if_false]
    rw [offs_mem]
    simp only [show ((p.1.a.toNat : Nat) : Int) = p.1.a by omega, show ((p.1.b.toNat : Nat) : Int) = p.1.b by omega]
    simp
theorem runs_mem {p r : Pl} : r ∈ runsL d0 d1 d2 p ↔ ∃ k, k < 3 ∧ ∃ o ∈ acrossL p.1 k, runP d0 d1 d2 p k o = r := by
  simp only [runsL, runsK, List.mem_append, List.mem_map]
  constructor
  · rintro (⟨o, h, e⟩ | ⟨o, h, e⟩ | ⟨o, h, e⟩)
    · exact ⟨0, by omega, o, h, e⟩
    · exact ⟨1, by omega, o, h, e⟩
    · exact ⟨2, by omega, o, h, e⟩
  · rintro ⟨k, hk, o, h, e⟩
    match k, hk with
    | 0, _ => exact .inl ⟨o, h, e⟩
    | 1, _ => exact .inr (.inl ⟨o, h, e⟩)
    | 2, _ => exact .inr (.inr ⟨o, h, e⟩)

/-- A run may be. -/
theorem run_may {p : Pl} (h : mayD d0 d1 d2) (hp : mayL d0 d1 d2 p = true) {k : Nat} (hk : k < 3) {o : Tri} (ho : o ∈ acrossL p.1 k) : mayL d0 d1 d2 (runP d0 d1 d2 p k o) = true := by
  have ho := (across_in hp hk).1 ho
  obtain ⟨⟨b0, b1, b2⟩, hc, ht⟩ := mayL_iff.1 hp
  obtain ⟨⟨l0, _⟩, ⟨l1, _⟩, l2, _⟩ := h
  obtain ⟨⟨x, y, z, a, b, c⟩, t0, t1, t2⟩ := p
  obtain ⟨o0, o1, o2⟩ := o
  simp only [canonB, Bx.mk.injEq, and_true] at hc
  obtain ⟨e0, e1, e2⟩ := hc
  simp only [mayS] at b0 b1 b2
  have f0 := ht 0
  have f1 := ht 1
  have f2 := ht 2
  simp only [tK, sAt] at f0 f1 f2
  rw [mayL_iff]
  match k, hk with
  | 0, _ =>
    simp only [show ¬ ((0 : Nat) = 1) by omega, show ¬ ((0 : Nat) = 2) by omega, if_true, if_false] at ho
    obtain ⟨p0, p1, p2⟩ := ho
    obtain rfl : o0 = 0 := by omega
    have g0 : ringO d0 x 0 = x := ringO_zero b0.2
    have g1 := ringO_in (d := d1) (x := y) (o := o1) b1.2 (by omega)
    have g2 := ringO_in (d := d2) (x := z) (o := o2) b2.2 (by omega)
    refine ⟨⟨?_, ?_, ?_⟩, ?_, fun j hj => ?_⟩
    · simp only [runP, mayS]; rw [g0]; simp; omega
    · simp only [runP, mayS]; simp; omega
    · simp only [runP, mayS]; simp; omega
    · simp only [runP, canonB, Bx.mk.injEq, and_true]
      rw [g0]
      refine ⟨by simpa using e0, ?_, ?_⟩
      · simp; omega
      · simp; omega
    · match j with
      | 0 => simp [runP, tK] at hj; simp [runP, sAt]; exact f0 hj
      | 1 => simp [runP, tK] at hj
      | 2 => simp [runP, tK] at hj
  | 1, _ =>
    simp only [show ¬ ((1 : Nat) = 0) by omega, show ¬ ((1 : Nat) = 2) by omega, if_true, if_false] at ho
    obtain ⟨p0, p1, p2⟩ := ho
    obtain rfl : o1 = 0 := by omega
    have g1 : ringO d1 y 0 = y := ringO_zero b1.2
    have g0 := ringO_in (d := d0) (x := x) (o := o0) b0.2 (by omega)
    have g2 := ringO_in (d := d2) (x := z) (o := o2) b2.2 (by omega)
    refine ⟨⟨?_, ?_, ?_⟩, ?_, fun j hj => ?_⟩
    · simp only [runP, mayS]; simp; omega
    · simp only [runP, mayS]; rw [g1]; simp; omega
    · simp only [runP, mayS]; simp; omega
    · simp only [runP, canonB, Bx.mk.injEq, and_true]
      rw [g1]
      refine ⟨?_, by simpa using e1, ?_⟩
      · simp; omega
      · simp; omega
    · match j with
      | 0 => simp [runP, tK] at hj
      | 1 => simp [runP, tK] at hj; simp [runP, sAt]; exact f1 hj
      | 2 => simp [runP, tK] at hj
  | 2, _ =>
    simp only [show ¬ ((2 : Nat) = 0) by omega, show ¬ ((2 : Nat) = 1) by omega, if_true, if_false] at ho
    obtain ⟨p0, p1, p2⟩ := ho
    obtain rfl : o2 = 0 := by omega
    have g2 : ringO d2 z 0 = z := ringO_zero b2.2
    have g0 := ringO_in (d := d0) (x := x) (o := o0) b0.2 (by omega)
    have g1 := ringO_in (d := d1) (x := y) (o := o1) b1.2 (by omega)
    refine ⟨⟨?_, ?_, ?_⟩, ?_, fun j hj => ?_⟩
    · simp only [runP, mayS]; simp; omega
    · simp only [runP, mayS]; simp; omega
    · simp only [runP, mayS]; rw [g2]; simp; omega
    · simp only [runP, canonB, Bx.mk.injEq, and_true]
      rw [g2]
      refine ⟨?_, ?_, by simpa using e2⟩
      · simp; omega
      · simp; omega
    · match j with
      | 0 => simp [runP, tK] at hj
      | 1 => simp [runP, tK] at hj
      | 2 => simp [runP, tK] at hj; simp [runP, sAt]; exact f2 hj
theorem runs_may {p r : Pl} (h : mayD d0 d1 d2) (hp : mayL d0 d1 d2 p = true) (hr : r ∈ runsL d0 d1 d2 p) : mayL d0 d1 d2 r = true := by
  obtain ⟨k, hk, o, ho, rfl⟩ := runs_mem.1 hr
  exact run_may h hp hk ho

/-- A run's midplanes are its place's; its cables too. -/
theorem run_has {p : Pl} (h : mayD d0 d1 d2) (hp : mayL d0 d1 d2 p = true) {k : Nat} (hk : k < 3) {o : Tri} (ho : o ∈ acrossL p.1 k) {m : Int} (hm : 0 ≤ m ∧ m < d0 * d1 * d2) (hh : hasB d0 d1 d2 (runP d0 d1 d2 p k o).1 m = true) : hasB d0 d1 d2 p.1 m = true := by
  have ho := (across_in hp hk).1 ho
  obtain ⟨⟨b0, b1, b2⟩, _⟩ := mayL_iff.1 hp
  obtain ⟨⟨x, y, z, a, b, c⟩, t0, t1, t2⟩ := p
  obtain ⟨o0, o1, o2⟩ := o
  simp only [mayS] at b0 b1 b2
  rw [has_all]
  match k, hk with
  | 0, _ =>
    simp only [show ¬ ((0 : Nat) = 1) by omega, show ¬ ((0 : Nat) = 2) by omega, if_true, if_false] at ho
    obtain ⟨p0, p1, p2⟩ := ho
    obtain rfl : o0 = 0 := by omega
    have := (has_run0 (s := a) h hm b0.2 b1.2 b2.2 (o1 := o1) (o2 := o2) (by omega) (by omega)).1 hh
    simp only; omega
  | 1, _ =>
    simp only [show ¬ ((1 : Nat) = 0) by omega, show ¬ ((1 : Nat) = 2) by omega, if_true, if_false] at ho
    obtain ⟨p0, p1, p2⟩ := ho
    obtain rfl : o1 = 0 := by omega
    have := (has_run1 (s := b) h hm b0.2 b1.2 b2.2 (o0 := o0) (o2 := o2) (by omega) (by omega)).1 hh
    simp only; omega
  | 2, _ =>
    simp only [show ¬ ((2 : Nat) = 0) by omega, show ¬ ((2 : Nat) = 1) by omega, if_true, if_false] at ho
    obtain ⟨p0, p1, p2⟩ := ho
    obtain rfl : o2 = 0 := by omega
    have := (has_run2 (s := c) h hm b0.2 b1.2 b2.2 (o0 := o0) (o1 := o1) (by omega) (by omega)).1 hh
    simp only; omega
theorem hasS_empty {d x c : Int} (hx : 0 ≤ x ∧ x < d) (hc : 0 ≤ c ∧ c < d) : hasS d x (runS d 1 false) c = false := by
  have := aft_bd hx hc
  simp [hasS, runS]
  omega
theorem run_cab {p : Pl} (h : mayD d0 d1 d2) (hp : mayL d0 d1 d2 p = true) {k : Nat} (hk : k < 3) {o : Tri} (ho : o ∈ acrossL p.1 k) {m : Int} (hm : 0 ≤ m ∧ m < d0 * d1 * d2) (j : Fin 3)
    (hh : hasB d0 d1 d2 (boxK d0 d1 d2 (runP d0 d1 d2 p k o).1 (runP d0 d1 d2 p k o).2.1 (runP d0 d1 d2 p k o).2.2.1 (runP d0 d1 d2 p k o).2.2.2 j) m = true) : hasB d0 d1 d2 (boxK d0 d1 d2 p.1 p.2.1 p.2.2.1 p.2.2.2 j) m = true := by
  obtain ⟨⟨m0, m1, m2⟩, _⟩ := mayL_iff.1 (run_may h hp hk ho)
  have ho := (across_in hp hk).1 ho
  obtain ⟨⟨b0, b1, b2⟩, _⟩ := mayL_iff.1 hp
  obtain ⟨i0, i1, i2⟩ := inD_of_node h hm
  obtain ⟨⟨x, y, z, a, b, c⟩, t0, t1, t2⟩ := p
  obtain ⟨o0, o1, o2⟩ := o
  simp only [mayS] at b0 b1 b2
  match k, hk with
  | 0, _ =>
    simp only [show ¬ ((0 : Nat) = 1) by omega, show ¬ ((0 : Nat) = 2) by omega, if_true, if_false] at ho
    obtain ⟨p0, p1, p2⟩ := ho
    obtain rfl : o0 = 0 := by omega
    match j with
    | 0 =>
      have := (has_run0 (s := runS d0 a t0) h hm b0.2 b1.2 b2.2 (o1 := o1) (o2 := o2) (by omega) (by omega)).1 (by simpa [boxK, upB, runP, dimAt, sAt, tK] using hh)
      rw [has_all]
      simp only [boxK, upB, dimAt, sAt, tK]
      omega
    | 1 =>
      have e := hasS_empty m1.2 i1
      simp [boxK, upB, runP, dimAt, sAt, tK, hasB] at hh e
      simp [hh.1.2] at e
    | 2 =>
      have e := hasS_empty m2.2 i2
      simp [boxK, upB, runP, dimAt, sAt, tK, hasB] at hh e
      simp [hh.2] at e
  | 1, _ =>
    simp only [show ¬ ((1 : Nat) = 0) by omega, show ¬ ((1 : Nat) = 2) by omega, if_true, if_false] at ho
    obtain ⟨p0, p1, p2⟩ := ho
    obtain rfl : o1 = 0 := by omega
    match j with
    | 0 =>
      have e := hasS_empty m0.2 i0
      simp [boxK, upB, runP, dimAt, sAt, tK, hasB] at hh e
      simp [hh.1.1] at e
    | 1 =>
      have := (has_run1 (s := runS d1 b t1) h hm b0.2 b1.2 b2.2 (o0 := o0) (o2 := o2) (by omega) (by omega)).1 (by simpa [boxK, upB, runP, dimAt, sAt, tK] using hh)
      rw [has_all]
      simp only [boxK, upB, dimAt, sAt, tK]
      omega
    | 2 =>
      have e := hasS_empty m2.2 i2
      simp [boxK, upB, runP, dimAt, sAt, tK, hasB] at hh e
      simp [hh.2] at e
  | 2, _ =>
    simp only [show ¬ ((2 : Nat) = 0) by omega, show ¬ ((2 : Nat) = 1) by omega, if_true, if_false] at ho
    obtain ⟨p0, p1, p2⟩ := ho
    obtain rfl : o2 = 0 := by omega
    match j with
    | 0 =>
      have e := hasS_empty m0.2 i0
      simp [boxK, upB, runP, dimAt, sAt, tK, hasB] at hh e
      simp [hh.1.1] at e
    | 1 =>
      have e := hasS_empty m1.2 i1
      simp [boxK, upB, runP, dimAt, sAt, tK, hasB] at hh e
      simp [hh.1.2] at e
    | 2 =>
      have := (has_run2 (s := runS d2 c t2) h hm b0.2 b1.2 b2.2 (o0 := o0) (o1 := o1) (by omega) (by omega)).1 (by simpa [boxK, upB, runP, dimAt, sAt, tK] using hh)
      rw [has_all]
      simp only [boxK, upB, dimAt, sAt, tK]
      omega
/-- Each midplane of a place is one of a run's, along the first axis; each cable is one of a run's along its axis. -/
theorem has_some {p : Pl} (h : mayD d0 d1 d2) (hp : mayL d0 d1 d2 p = true) {m : Int} (hm : 0 ≤ m ∧ m < d0 * d1 * d2) (hh : hasB d0 d1 d2 p.1 m = true) : ∃ o ∈ acrossL p.1 0, hasB d0 d1 d2 (runP d0 d1 d2 p 0 o).1 m = true := by
  obtain ⟨⟨b0, b1, b2⟩, _⟩ := mayL_iff.1 hp
  obtain ⟨i0, i1, i2⟩ := inD_of_node h hm
  rw [has_all] at hh
  have a1 := aft_bd b1.2 i1
  have a2 := aft_bd b2.2 i2
  refine ⟨(0, aft d1 p.1.y (cy d0 d1 m), aft d2 p.1.z (cz d0 d1 m)), (across_in hp (by omega)).2 (by simp; omega), ?_⟩
  exact (has_run0 h hm b0.2 b1.2 b2.2 a1 a2).2 ⟨hh.1, rfl, rfl⟩
theorem cab_some {p : Pl} (h : mayD d0 d1 d2) (hp : mayL d0 d1 d2 p = true) {m : Int} (hm : 0 ≤ m ∧ m < d0 * d1 * d2) (j : Fin 3) (hh : hasB d0 d1 d2 (boxK d0 d1 d2 p.1 p.2.1 p.2.2.1 p.2.2.2 j) m = true) :
    ∃ k, k < 3 ∧ ∃ o ∈ acrossL p.1 k, hasB d0 d1 d2 (boxK d0 d1 d2 (runP d0 d1 d2 p k o).1 (runP d0 d1 d2 p k o).2.1 (runP d0 d1 d2 p k o).2.2.1 (runP d0 d1 d2 p k o).2.2.2 j) m = true := by
  obtain ⟨⟨b0, b1, b2⟩, _⟩ := mayL_iff.1 hp
  obtain ⟨i0, i1, i2⟩ := inD_of_node h hm
  rw [has_all] at hh
  have a0 := aft_bd b0.2 i0
  have a1 := aft_bd b1.2 i1
  have a2 := aft_bd b2.2 i2
  match j with
  | 0 =>
    simp only [boxK, upB, dimAt, sAt, tK] at hh
    refine ⟨0, by omega, (0, aft d1 p.1.y (cy d0 d1 m), aft d2 p.1.z (cz d0 d1 m)), (across_in hp (by omega)).2 (by simp; omega), ?_⟩
    have := (has_run0 (s := runS d0 p.1.a p.2.1) h hm b0.2 b1.2 b2.2 a1 a2).2 ⟨hh.1, rfl, rfl⟩
    simpa [boxK, upB, runP, dimAt, sAt, tK] using this
  | 1 =>
    simp only [boxK, upB, dimAt, sAt, tK] at hh
    refine ⟨1, by omega, (aft d0 p.1.x (cx d0 m), 0, aft d2 p.1.z (cz d0 d1 m)), (across_in hp (by omega)).2 (by simp; omega), ?_⟩
    have := (has_run1 (s := runS d1 p.1.b p.2.2.1) h hm b0.2 b1.2 b2.2 a0 a2).2 ⟨rfl, hh.2.1, rfl⟩
    simpa [boxK, upB, runP, dimAt, sAt, tK] using this
  | 2 =>
    simp only [boxK, upB, dimAt, sAt, tK] at hh
    refine ⟨2, by omega, (aft d0 p.1.x (cx d0 m), aft d1 p.1.y (cy d0 d1 m), 0), (across_in hp (by omega)).2 (by simp; omega), ?_⟩
    have := (has_run2 (s := runS d2 p.1.c p.2.2.2) h hm b0.2 b1.2 b2.2 a0 a1).2 ⟨rfl, rfl, hh.2.2⟩
    simpa [boxK, upB, runP, dimAt, sAt, tK] using this

/-- A place is free of two sets just if each of its runs is. -/
theorem well_runs {p : Pl} (h : mayD d0 d1 d2) (hp : mayL d0 d1 d2 p = true) (mw lw : List Nat) : wellL d0 d1 d2 mw lw p = (runsL d0 d1 d2 p).all (wellL d0 d1 d2 mw lw) := by
  have hN := N_bd h
  refine bool_ext ?_
  rw [List.all_eq_true]
  unfold wellL wellB
  simp only [Bool.and_eq_true, offW_iff, midP, cabP]
  constructor
  · rintro ⟨hM, hC⟩ r hr
    obtain ⟨k, hk, o, ho, rfl⟩ := runs_mem.1 hr
    refine ⟨fun m hm hh => hM m hm (run_has h hp hk ho (by omega) hh), fun n hn hh => hC n hn ?_⟩
    obtain ⟨j, m, hm, e⟩ := cab_of h (link := (n : Int)) (by omega)
    rw [e, cabB_at hm] at hh ⊢
    exact run_cab h hp hk ho hm j hh
  · intro hR
    refine ⟨fun m hm hh => ?_, fun n hn hh => ?_⟩
    · obtain ⟨o, ho, h1⟩ := has_some h hp (m := (m : Int)) (by omega) hh
      exact (hR _ (runs_mem.2 ⟨0, by omega, o, ho, rfl⟩)).1 m hm h1
    · obtain ⟨j, m, hm, e⟩ := cab_of h (link := (n : Int)) (by omega)
      rw [e, cabB_at hm] at hh
      obtain ⟨k, hk, o, ho, h1⟩ := cab_some h hp hm j hh
      refine (hR _ (runs_mem.2 ⟨k, hk, o, ho, rfl⟩)).2 n hn ?_
      rw [e, cabB_at hm]
      exact h1
end

end Go.Proofs.YtlahfffgmfjpaaaGreatDoor

/-
  What is asked for, as the program holds it: seven cells; '==' between two; lists of them in memory that a call made.
-/
namespace Go.Proofs.YtlahfffgmfjpaaaGreatDoor
open Go Go.RowKit Go.Shelf

abbrev V7 (x y z : Int) (p q r t : Bool) : Value := .agg #[.int .i64 x, .int .i64 y, .int .i64 z, .bool p, .bool q, .bool r, .bool t]
abbrev B3 (p q r : Bool) : Value := .agg #[.bool p, .bool q, .bool r]
def cellsW : Wt → List Value | (x, y, z, p, q, r, t) => [.int .i64 x, .int .i64 y, .int .i64 z, .bool p, .bool q, .bool r, .bool t]
theorem cellsW_len (w : Wt) : (cellsW w).length = 7 := by obtain ⟨x, y, z, p, q, r, t⟩ := w; rfl

/-- Two are the same. -/
def eqW (a b : Wt) : Bool := decide (a = b)
def eqB (p q r p' q' r' : Bool) : Bool := p == p' && (q == q' && r == r')
def eqN (a b c a' b' c' : Int) : Bool := a == a' && (b == b' && c == c')
theorem eqW_parts (x y z : Int) (p q r t : Bool) (x' y' z' : Int) (p' q' r' t' : Bool) :
    eqW (x, y, z, p, q, r, t) (x', y', z', p', q', r', t') = (eqN x y z x' y' z' && (eqB p q r p' q' r' && t == t')) := by
  rw [Bool.eq_iff_iff]
  simp only [eqW, eqN, eqB, Prod.mk.injEq, decide_eq_true_eq, Bool.and_eq_true, beq_iff_eq, and_assoc]

theorem eqIn_three {P : Program} (d : Nat) {t e : TypeId} {i : TypeInfo} (hu : P.underlying t = some (.array 3 e)) (hi : P.info? e = some i) (hc : P.cellsOf e = 1) (hp : P.plainKey e = true)
    (x y z x' y' z' : Value) (b0 b1 b2 : Bool) (h0 : ∀ w, (Op.equalIn (d + 1) e x x').run P w = .ok b0 w) (h1 : ∀ w, (Op.equalIn (d + 1) e y y').run P w = .ok b1 w) (h2 : ∀ w, (Op.equalIn (d + 1) e z z').run P w = .ok b2 w) (w : World) :
    (Op.equalIn (d + 2) t (.agg #[x, y, z]) (.agg #[x', y', z'])).run P w = .ok (b0 && (b1 && b2)) w := by
  rw [run_equalIn_array w (d + 1) _ _ hu hi, hc]
  have r3 : List.range 3 = [0, 1, 2] := rfl
  have p0 : ∀ (x y z : Value) (w : World), (part e #[x, y, z] 0).run P w = .ok x w := fun x y z w => run_part_plain w hp rfl
  have p1 : ∀ (x y z : Value) (w : World), (part e #[x, y, z] 1).run P w = .ok y w := fun x y z w => run_part_plain w hp rfl
  have p2 : ∀ (x y z : Value) (w : World), (part e #[x, y, z] 2).run P w = .ok z w := fun x y z w => run_part_plain w hp rfl
  rw [r3]
  cases b0 <;> cases b1 <;> cases b2 <;> simp [Op.eqItems, p0, p1, p2, h0, h1, h2]

set_option maxRecDepth 100000 in
theorem eq_ints (d : Nat) (a b c a' b' c' : Int) (w : World) : (Op.equalIn (d + 2) 22 (.agg #[.int .i64 a, .int .i64 b, .int .i64 c]) (.agg #[.int .i64 a', .int .i64 b', .int .i64 c'])).run Tryz.prog w = .ok (eqN a b c a' b' c') w := by
  obtain ⟨i, hi⟩ : ∃ i, Tryz.prog.info? 3 = some i := ⟨_, rfl⟩
  exact eqIn_three d Tryz.underlying22 hi (by kernel_rfl) (by kernel_rfl) _ _ _ _ _ _ _ _ _ (fun w => run_equalIn_int w d _ .i64 .i64 _ _ Tryz.underlying3) (fun w => run_equalIn_int w d _ .i64 .i64 _ _ Tryz.underlying3) (fun w => run_equalIn_int w d _ .i64 .i64 _ _ Tryz.underlying3) w
set_option maxRecDepth 100000 in
theorem eq_bools (d : Nat) (a b c a' b' c' : Bool) (w : World) : (Op.equalIn (d + 2) 24 (.agg #[.bool a, .bool b, .bool c]) (.agg #[.bool a', .bool b', .bool c'])).run Tryz.prog w = .ok (eqB a b c a' b' c') w := by
  obtain ⟨i, hi⟩ : ∃ i, Tryz.prog.info? 4 = some i := ⟨_, rfl⟩
  exact eqIn_three d Tryz.underlying24 hi (by kernel_rfl) (by kernel_rfl) _ _ _ _ _ _ _ _ _ (fun w => run_equalIn_bool w d _ _ _ Tryz.underlying4) (fun w => run_equalIn_bool w d _ _ _ Tryz.underlying4) (fun w => run_equalIn_bool w d _ _ _ Tryz.underlying4) w
theorem eq_ints_at (a b c a' b' c' : Int) (w : World) : (Op.equalIn 10000 22 (.agg #[.int .i64 a, .int .i64 b, .int .i64 c]) (.agg #[.int .i64 a', .int .i64 b', .int .i64 c'])).run Tryz.prog w = .ok (eqN a b c a' b' c') w := eq_ints 9998 a b c a' b' c' w
theorem eq_bools_at (a b c a' b' c' : Bool) (w : World) : (Op.equalIn 10000 24 (.agg #[.bool a, .bool b, .bool c]) (.agg #[.bool a', .bool b', .bool c'])).run Tryz.prog w = .ok (eqB a b c a' b' c') w := eq_bools 9998 a b c a' b' c' w

set_option maxRecDepth 100000 in
theorem eq_wants (x y z : Int) (p q r t : Bool) (x' y' z' : Int) (p' q' r' t' : Bool) (w : World) : (Op.equalIn 10000 26 (V7 x y z p q r t) (V7 x' y' z' p' q' r' t')).run Tryz.prog w = .ok (eqW (x, y, z, p, q, r, t) (x', y', z', p', q', r', t')) w := by
  have e1 := eq_ints 9997 x y z x' y' z'
  have e2 := eq_bools 9997 p q r p' q' r'
  have e3 := fun w => run_equalIn_bool (P := Tryz.prog) w 9998 4 t t' Tryz.underlying4
  rw [eqW_parts, run_equalIn_struct (P := Tryz.prog) w 9999 26 _ _ (by kernel_rfl) (by kernel_rfl)]
  generalize eqN x y z x' y' z' = b0 at *
  generalize eqB p q r p' q' r' = b1 at *
  generalize (t == t') = b2 at *
  cases b0 <;> cases b1 <;> cases b2 <;> go_simp

end Go.Proofs.YtlahfffgmfjpaaaGreatDoor
