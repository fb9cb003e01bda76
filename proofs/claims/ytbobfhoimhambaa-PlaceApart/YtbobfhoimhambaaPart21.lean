/-
  place.midSet, place.linkSet, place.endSet, place.Sets, place.meet, place.Apart, place.Passes: what each call answers; nothing that lay before is turned.
-/
import Derived.Test.YtbobfhoimhambaaPart20
import Derived.Test.YtbobfhoimhambaaPart12
import Derived.Test.YtbobfhoimhambaaPart11
import Derived.Test.YtbobfhoimhambaaPart13
namespace Go.Proofs.Ytbobfhoimhambaa
open Go Go.RowKit Go.Shelf

attribute [local go_sem] Oper.semAt_some ext_const

theorem ofErr_ok {n : Int} {l : List Int} (h : ofOk n l = true) : ofErr n l = 0 := by simp [ofErr, h]
theorem errP_ok {d0 d1 d2 : Int} {b : Bx} {t0 t1 t2 : Bool} (hm : mayD d0 d1 d2) (hp : mayP d0 d1 d2 b t0 t1 t2) : errP d0 d1 d2 b t0 t1 t2 = 0 := by
  rcases errP_cases d0 d1 d2 b t0 t1 t2 with ⟨_, _, h⟩ | ⟨_, h⟩
  · exact h
  · exact absurd ⟨hm, hp⟩ h
/-- set.Of, of numbers that tell a known set. -/
theorem of_set {n : Int} {l : List Int} {S : List Nat} {v : Value} {base : Nat} (w : World) (hv : Lst w base v l) (hl : l.length ≤ 65536) (hok : ofOk n l = true) (hS : ∀ ws, OfIs n l ws → ws = S) :
    Calls Try.prog 30 #[I n, v] w fun e W' => ∃ u, e = .returned (.tuple #[u, I 0]) ∧ SetR W' w.heap.size u S ∧ Below w.heap.size w W' := by
  refine (of_calls w hv.its hl n).mono ?_
  rintro e w1 ⟨u, ws, rfl, hu, ho, hB⟩
  rw [ofErr_ok hok, ← hS ws ho]
  exact ⟨u, rfl, hu, hB⟩

set_option maxRecDepth 100000 in
set_option maxHeartbeats 4000000 in
theorem midSet_calls {d0 d1 d2 : Int} {b : Bx} (t0 t1 t2 : Bool) (w : World) (hm : mayD d0 d1 d2) (hb : mayB d0 d1 d2 b) :
    Calls Try.prog 20 #[A3 d0 d1 d2, P9 b t0 t1 t2] w fun e W' => ∃ u, e = .returned (.tuple #[u, I 0]) ∧ SetR W' w.heap.size u (midW d0 d1 d2 b) ∧ Below w.heap.size w W' := by
  have HN : Hid (∀ w, Calls Try.prog 12 #[A3 d0 d1 d2] w fun e W' => e = .returned (.tuple #[I (d0 * d1 * d2), I 0]) ∧ Below w.heap.size w W') := fun w => many_yes w hm
  have HB : Hid (∀ w, Calls Try.prog 29 #[A3 d0 d1 d2, B6 b] w fun e W' => ∃ v, e = .returned (.tuple #[v, I 0]) ∧ Lst W' w.heap.size v (nodesB d0 d1 d2 b) ∧ Below w.heap.size w W') := fun w => bnodes_ok w hm hb
  have HO : Hid (∀ w v base, Lst w base v (nodesB d0 d1 d2 b) → Calls Try.prog 30 #[I (d0 * d1 * d2), v] w fun e W' => ∃ u, e = .returned (.tuple #[u, I 0]) ∧ SetR W' w.heap.size u (midW d0 d1 d2 b) ∧ Below w.heap.size w W') :=
    fun w v base hv => of_set w hv (by have := nodesB_len hm b; omega) (nodes_ok hm b) (fun ws ho => mid_of hm ho)
  clear hm hb
  generalize nodesB d0 d1 d2 b = X at *
  generalize midW d0 d1 d2 b = S at *
  generalize d0 * d1 * d2 = N at *
  go_enter Try.func20, Try.ntmps20
  go_wp2_with fail
  obtain ⟨W, hW, hB0, b0, b1⟩ := two_start w #[I d0, I d1, I d2] (C9 b t0 t1 t2) 23 28
  rw [hW]
  clear hW
  refine (HN.out _).mono ?_
  rintro e w1 ⟨rfl, hT⟩
  obtain ⟨c0, c1, c2, hz⟩ := b0.three hT
  obtain ⟨⟨x0, x1, x2⟩, ⟨x3, x4, x5⟩, _, hz1⟩ := b1.nine hT
  have hB := then_below hB0 hT
  clear hT b0 b1 hB0
  go_wp2_with fail
  refine (HB.out _).mono ?_
  rintro e w2 ⟨v, rfl, hv, hT⟩
  have hB := then_below hB hT
  clear hT c0 c1 c2 hz x0 x1 x2 x3 x4 x5 hz1
  go_wp2_with fail
  refine (HO.out _ _ _ hv).mono ?_
  rintro e w3 ⟨u, rfl, hu, hT⟩
  go_wp2
  go_ret2
  exact ⟨_, rfl, hu.weak hB.size, then_below hB hT⟩

set_option maxRecDepth 100000 in
set_option maxHeartbeats 4000000 in
theorem linkSet_calls {d0 d1 d2 : Int} {b : Bx} {t0 t1 t2 : Bool} (w : World) (hm : mayD d0 d1 d2) (hp : mayP d0 d1 d2 b t0 t1 t2) :
    Calls Try.prog 21 #[A3 d0 d1 d2, P9 b t0 t1 t2] w fun e W' => ∃ u, e = .returned (.tuple #[u, I 0]) ∧ SetR W' w.heap.size u (cabsW d0 d1 d2 b t0 t1 t2) ∧ Below w.heap.size w W' := by
  have HN : Hid (∀ w, Calls Try.prog 13 #[A3 d0 d1 d2] w fun e W' => e = .returned (.tuple #[I (3 * (d0 * d1 * d2)), I 0]) ∧ Below w.heap.size w W') := fun w => wmany_yes w hm
  have HB : Hid (∀ w, Calls Try.prog 31 #[A3 d0 d1 d2, P9 b t0 t1 t2] w fun e W' => ∃ v, e = .returned (.tuple #[v, I 0]) ∧ Lst W' w.heap.size v (cabsL d0 d1 d2 b t0 t1 t2) ∧ Below w.heap.size w W') := fun w => cables_calls w hm hp
  have HO : Hid (∀ w v base, Lst w base v (cabsL d0 d1 d2 b t0 t1 t2) → Calls Try.prog 30 #[I (3 * (d0 * d1 * d2)), v] w fun e W' => ∃ u, e = .returned (.tuple #[u, I 0]) ∧ SetR W' w.heap.size u (cabsW d0 d1 d2 b t0 t1 t2) ∧ Below w.heap.size w W') :=
    fun w v base hv => of_set w hv (by have := cabsL_len hm hp; omega) (cabs_ok hm hp) (fun ws ho => cabs_of hm hp ho)
  clear hm hp
  generalize cabsL d0 d1 d2 b t0 t1 t2 = X at *
  generalize cabsW d0 d1 d2 b t0 t1 t2 = S at *
  generalize 3 * (d0 * d1 * d2) = N at *
  go_enter Try.func21, Try.ntmps21
  go_wp2_with fail
  obtain ⟨W, hW, hB0, b0, b1⟩ := two_start w #[I d0, I d1, I d2] (C9 b t0 t1 t2) 23 28
  rw [hW]
  clear hW
  refine (HN.out _).mono ?_
  rintro e w1 ⟨rfl, hT⟩
  obtain ⟨c0, c1, c2, hz⟩ := b0.three hT
  obtain ⟨⟨x0, x1, x2⟩, ⟨x3, x4, x5⟩, ⟨x6, x7, x8⟩, hz1⟩ := b1.nine hT
  have hB := then_below hB0 hT
  clear hT b0 b1 hB0
  go_wp2_with fail
  refine (HB.out _).mono ?_
  rintro e w2 ⟨v, rfl, hv, hT⟩
  have hB := then_below hB hT
  clear hT c0 c1 c2 hz x0 x1 x2 x3 x4 x5 x6 x7 x8 hz1
  go_wp2_with fail
  refine (HO.out _ _ _ hv).mono ?_
  rintro e w3 ⟨u, rfl, hu, hT⟩
  go_wp2
  go_ret2
  exact ⟨_, rfl, hu.weak hB.size, then_below hB hT⟩

set_option maxRecDepth 100000 in
set_option maxHeartbeats 4000000 in
theorem sets_err {d0 d1 d2 : Int} {b : Bx} (t0 t1 t2 : Bool) (w : World) (he : (errP d0 d1 d2 b t0 t1 t2 != 0) = true) :
    Calls Try.prog 7 #[A3 d0 d1 d2, P9 b t0 t1 t2] w fun e W' => e = .returned (.tuple #[.slice none 0 0, .slice none 0 0, I (errP d0 d1 d2 b t0 t1 t2)]) ∧ Below w.heap.size w W' := by
  have HC : Hid (∀ w, Calls Try.prog 19 #[A3 d0 d1 d2, P9 b t0 t1 t2] w fun e W' => e = .returned (I (errP d0 d1 d2 b t0 t1 t2)) ∧ Below w.heap.size w W') := fun w => pcheck_calls d0 d1 d2 b t0 t1 t2 w
  generalize errP d0 d1 d2 b t0 t1 t2 = er at *
  go_enter Try.func7, Try.ntmps7
  go_wp2_with fail
  obtain ⟨W, hW, hB0, b0, b1⟩ := two_start w #[I d0, I d1, I d2] (C9 b t0 t1 t2) 23 28
  rw [hW]
  clear hW
  refine (HC.out _).mono ?_
  rintro e w1 ⟨rfl, hT⟩
  go_wp2
  exact bodyPost_ret (results_tmp3 rfl _ _ _) rfl ⟨rfl, then_below hB0 hT⟩

set_option maxRecDepth 100000 in
set_option maxHeartbeats 4000000 in
theorem sets_ok {d0 d1 d2 : Int} {b : Bx} {t0 t1 t2 : Bool} (w : World) (hm : mayD d0 d1 d2) (hp : mayP d0 d1 d2 b t0 t1 t2) :
    Calls Try.prog 7 #[A3 d0 d1 d2, P9 b t0 t1 t2] w fun e W' => ∃ u v, e = .returned (.tuple #[u, v, I 0]) ∧ SetR W' w.heap.size u (midW d0 d1 d2 b) ∧ SetR W' w.heap.size v (cabsW d0 d1 d2 b t0 t1 t2) ∧ Below w.heap.size w W' := by
  have HC : Hid (∀ w, Calls Try.prog 19 #[A3 d0 d1 d2, P9 b t0 t1 t2] w fun e W' => e = .returned (I 0) ∧ Below w.heap.size w W') := fun w => by have := pcheck_calls d0 d1 d2 b t0 t1 t2 w; rwa [errP_ok hm hp] at this
  have HA : Hid (∀ w, Calls Try.prog 20 #[A3 d0 d1 d2, P9 b t0 t1 t2] w fun e W' => ∃ u, e = .returned (.tuple #[u, I 0]) ∧ SetR W' w.heap.size u (midW d0 d1 d2 b) ∧ Below w.heap.size w W') := fun w => midSet_calls t0 t1 t2 w hm hp.1
  have HB : Hid (∀ w, Calls Try.prog 21 #[A3 d0 d1 d2, P9 b t0 t1 t2] w fun e W' => ∃ u, e = .returned (.tuple #[u, I 0]) ∧ SetR W' w.heap.size u (cabsW d0 d1 d2 b t0 t1 t2) ∧ Below w.heap.size w W') := fun w => linkSet_calls w hm hp
  clear hm hp
  generalize midW d0 d1 d2 b = S at *
  generalize cabsW d0 d1 d2 b t0 t1 t2 = S' at *
  go_enter Try.func7, Try.ntmps7
  go_wp2_with fail
  obtain ⟨W, hW, hB0, b0, b1⟩ := two_start w #[I d0, I d1, I d2] (C9 b t0 t1 t2) 23 28
  rw [hW]
  clear hW
  refine (HC.out _).mono ?_
  rintro e w1 ⟨rfl, hT⟩
  obtain ⟨c0, c1, c2, hz⟩ := b0.three hT
  obtain ⟨⟨x0, x1, x2⟩, ⟨x3, x4, x5⟩, ⟨x6, x7, x8⟩, hz1⟩ := b1.nine hT
  go_wp2_with fail
  refine (HA.out _).mono ?_
  rintro e w2 ⟨u, rfl, hu, hT2⟩
  have hu := hu.weak (then_below hB0 hT).size
  have hT := then_below hT hT2
  clear hT2 c0 c1 c2 hz x0 x1 x2 x3 x4 x5 x6 x7 x8 hz1
  obtain ⟨c0, c1, c2, hz⟩ := b0.three hT
  obtain ⟨⟨x0, x1, x2⟩, ⟨x3, x4, x5⟩, ⟨x6, x7, x8⟩, hz1⟩ := b1.nine hT
  go_wp2_with fail
  refine (HB.out _).mono ?_
  rintro e w3 ⟨v, rfl, hv, hT3⟩
  have hB := then_below hB0 hT
  have hv := hv.weak hB.size
  have hu := hu.later hT3
  go_wp2
  refine bodyPost_ret (results_tmp3 rfl _ _ _) rfl ?_
  exact ⟨_, _, rfl, hu, hv, then_below hB hT3⟩

/-- Whether two sets below the number of midplanes have anything in common. -/
theorem meetN {n : Int} (h1 : 1 ≤ n) (h2 : n ≤ 12288) (p q : Nat → Bool) {u v : Value} {b1 b2 : Nat} (w : World) (hu : SetR w b1 u (setOf n p)) (hv : SetR w b2 v (setOf n q)) :
    Calls Try.prog 22 #[I n, u, v] w fun e W' => e = .returned (.tuple #[.bool (anyB (setOf n p) (setOf n q)), I 0]) ∧ Below w.heap.size w W' := by
  have := meet_calls w hu.wds hv.wds n
  rw [setOf_meet h1 h2, errAll_both (setOf_err h1 h2 p) (setOf_err h1 h2 q)] at this
  exact this

set_option maxRecDepth 100000 in
set_option maxHeartbeats 4000000 in
theorem pmeet_mid {d0 d1 d2 : Int} (a b : Bx) {u v : Value} {b1 b2 : Nat} (w : World) (hm : mayD d0 d1 d2) (hu : SetR w b1 u (midW d0 d1 d2 a)) (hv : SetR w b2 v (midW d0 d1 d2 b)) :
    Calls Try.prog 11 #[A3 d0 d1 d2, .func (.func 12) #[] #[], u, v] w fun e W' => e = .returned (.tuple #[.bool (anyB (midW d0 d1 d2 a) (midW d0 d1 d2 b)), I 0]) ∧ Below w.heap.size w W' := by
  have hN := N_bd hm
  have HN : Hid (∀ w, Calls Try.prog 12 #[A3 d0 d1 d2] w fun e W' => e = .returned (.tuple #[I (d0 * d1 * d2), I 0]) ∧ Below w.heap.size w W') := fun w => many_yes w hm
  have HM : Hid (∀ w b1 b2, SetR w b1 u (midW d0 d1 d2 a) → SetR w b2 v (midW d0 d1 d2 b) → Calls Try.prog 22 #[I (d0 * d1 * d2), u, v] w fun e W' => e = .returned (.tuple #[.bool (anyB (midW d0 d1 d2 a) (midW d0 d1 d2 b)), I 0]) ∧ Below w.heap.size w W') := fun w b1 b2 hu hv => meetN (by omega) (by omega) _ _ w hu hv
  generalize anyB (midW d0 d1 d2 a) (midW d0 d1 d2 b) = ans at *
  generalize midW d0 d1 d2 a = S at *
  generalize midW d0 d1 d2 b = S' at *
  clear hm
  generalize d0 * d1 * d2 = N at *
  go_enter Try.func11, Try.ntmps11
  go_wp2_with fail
  have hB0 := (Below.refl w.heap.size w).alloc (Nat.le_refl _) (.cells #[I d0, I d1, I d2] 23)
  generalize w.alloc (.cells #[I d0, I d1, I d2] 23) = W at *
  refine (HN.out _).mono ?_
  rintro e w1 ⟨rfl, hT⟩
  have hB := then_below hB0 hT
  have hu := hu.later hB
  have hv := hv.later hB
  clear hT hB0
  go_wp2_with fail
  refine (HM.out _ _ _ hu hv).mono ?_
  rintro e w2 ⟨rfl, hT⟩
  go_wp2
  go_ret2
  exact ⟨rfl, then_below hB hT⟩

set_option maxRecDepth 100000 in
set_option maxHeartbeats 4000000 in
theorem pmeet_cab {d0 d1 d2 : Int} (a : Bx) (s0 s1 s2 : Bool) (b : Bx) (t0 t1 t2 : Bool) {u v : Value} {b1 b2 : Nat} (w : World) (hm : mayD d0 d1 d2) (hu : SetR w b1 u (cabsW d0 d1 d2 a s0 s1 s2)) (hv : SetR w b2 v (cabsW d0 d1 d2 b t0 t1 t2)) :
    Calls Try.prog 11 #[A3 d0 d1 d2, .func (.func 13) #[] #[], u, v] w fun e W' => e = .returned (.tuple #[.bool (anyB (cabsW d0 d1 d2 a s0 s1 s2) (cabsW d0 d1 d2 b t0 t1 t2)), I 0]) ∧ Below w.heap.size w W' := by
  have hN := N_bd hm
  have HN : Hid (∀ w, Calls Try.prog 13 #[A3 d0 d1 d2] w fun e W' => e = .returned (.tuple #[I (3 * (d0 * d1 * d2)), I 0]) ∧ Below w.heap.size w W') := fun w => wmany_yes w hm
  have HM : Hid (∀ w b1 b2, SetR w b1 u (cabsW d0 d1 d2 a s0 s1 s2) → SetR w b2 v (cabsW d0 d1 d2 b t0 t1 t2) → Calls Try.prog 22 #[I (3 * (d0 * d1 * d2)), u, v] w fun e W' => e = .returned (.tuple #[.bool (anyB (cabsW d0 d1 d2 a s0 s1 s2) (cabsW d0 d1 d2 b t0 t1 t2)), I 0]) ∧ Below w.heap.size w W') := fun w b1 b2 hu hv => meetN (by omega) (by omega) _ _ w hu hv
  generalize anyB (cabsW d0 d1 d2 a s0 s1 s2) (cabsW d0 d1 d2 b t0 t1 t2) = ans at *
  generalize cabsW d0 d1 d2 a s0 s1 s2 = S at *
  generalize cabsW d0 d1 d2 b t0 t1 t2 = S' at *
  clear hm
  generalize 3 * (d0 * d1 * d2) = N at *
  go_enter Try.func11, Try.ntmps11
  go_wp2_with fail
  have hB0 := (Below.refl w.heap.size w).alloc (Nat.le_refl _) (.cells #[I d0, I d1, I d2] 23)
  generalize w.alloc (.cells #[I d0, I d1, I d2] 23) = W at *
  refine (HN.out _).mono ?_
  rintro e w1 ⟨rfl, hT⟩
  have hB := then_below hB0 hT
  have hu := hu.later hB
  have hv := hv.later hB
  clear hT hB0
  go_wp2_with fail
  refine (HM.out _ _ _ hu hv).mono ?_
  rintro e w2 ⟨rfl, hT⟩
  go_wp2
  go_ret2
  exact ⟨rfl, then_below hB hT⟩

set_option maxRecDepth 100000 in
set_option maxHeartbeats 4000000 in
theorem apart_err1 {d0 d1 d2 : Int} {a : Bx} (s0 s1 s2 : Bool) (b : Bx) (t0 t1 t2 : Bool) (w : World) (he : (errP d0 d1 d2 a s0 s1 s2 != 0) = true) :
    Calls Try.prog 5 #[A3 d0 d1 d2, P9 a s0 s1 s2, P9 b t0 t1 t2] w fun e W' => e = .returned (.tuple #[.bool false, I (errP d0 d1 d2 a s0 s1 s2)]) ∧ Below w.heap.size w W' := by
  have HC : Hid (∀ w, Calls Try.prog 7 #[A3 d0 d1 d2, P9 a s0 s1 s2] w fun e W' => e = .returned (.tuple #[.slice none 0 0, .slice none 0 0, I (errP d0 d1 d2 a s0 s1 s2)]) ∧ Below w.heap.size w W') := fun w => sets_err s0 s1 s2 w he
  generalize errP d0 d1 d2 a s0 s1 s2 = er at *
  go_enter Try.func5, Try.ntmps5
  go_wp2_with fail
  obtain ⟨W, hW, hs, hB0, b0, b1, b2⟩ := three_start w #[I d0, I d1, I d2] (C9 a s0 s1 s2) (C9 b t0 t1 t2) 23 28 28
  rw [hW]
  clear hW
  refine (HC.out _).mono ?_
  rintro e w1 ⟨rfl, hT⟩
  go_wp2
  go_ret2
  exact ⟨rfl, then_below hB0 hT⟩

set_option maxRecDepth 100000 in
set_option maxHeartbeats 4000000 in
theorem apart_err2 {d0 d1 d2 : Int} {a : Bx} {s0 s1 s2 : Bool} {b : Bx} (t0 t1 t2 : Bool) (w : World) (hm : mayD d0 d1 d2) (ha : mayP d0 d1 d2 a s0 s1 s2) (he : (errP d0 d1 d2 b t0 t1 t2 != 0) = true) :
    Calls Try.prog 5 #[A3 d0 d1 d2, P9 a s0 s1 s2, P9 b t0 t1 t2] w fun e W' => e = .returned (.tuple #[.bool false, I (errP d0 d1 d2 b t0 t1 t2)]) ∧ Below w.heap.size w W' := by
  have HA : Hid (∀ w, Calls Try.prog 7 #[A3 d0 d1 d2, P9 a s0 s1 s2] w fun e W' => ∃ u v, e = .returned (.tuple #[u, v, I 0]) ∧ SetR W' w.heap.size u (midW d0 d1 d2 a) ∧ SetR W' w.heap.size v (cabsW d0 d1 d2 a s0 s1 s2) ∧ Below w.heap.size w W') := fun w => sets_ok w hm ha
  have HC : Hid (∀ w, Calls Try.prog 7 #[A3 d0 d1 d2, P9 b t0 t1 t2] w fun e W' => e = .returned (.tuple #[.slice none 0 0, .slice none 0 0, I (errP d0 d1 d2 b t0 t1 t2)]) ∧ Below w.heap.size w W') := fun w => sets_err t0 t1 t2 w he
  generalize errP d0 d1 d2 b t0 t1 t2 = er at *
  clear hm ha
  go_enter Try.func5, Try.ntmps5
  go_wp2_with fail
  obtain ⟨W, hW, hs, hB0, b0, b1, b2⟩ := three_start w #[I d0, I d1, I d2] (C9 a s0 s1 s2) (C9 b t0 t1 t2) 23 28 28
  rw [hW]
  clear hW
  refine (HA.out _).mono ?_
  rintro e w1 ⟨u, v, rfl, _, _, hT⟩
  obtain ⟨c0, c1, c2, hz⟩ := b0.three hT
  obtain ⟨⟨x0, x1, x2⟩, ⟨x3, x4, x5⟩, ⟨x6, x7, x8⟩, hz1⟩ := b2.nine hT
  go_wp2_with fail
  refine (HC.out _).mono ?_
  rintro e w2 ⟨rfl, hT2⟩
  go_wp2
  go_ret2
  exact ⟨rfl, then_below (then_below hB0 hT) hT2⟩

set_option maxRecDepth 100000 in
set_option maxHeartbeats 4000000 in
theorem apart_ok {d0 d1 d2 : Int} {a : Bx} {s0 s1 s2 : Bool} {b : Bx} {t0 t1 t2 : Bool} (w : World) (hm : mayD d0 d1 d2) (ha : mayP d0 d1 d2 a s0 s1 s2) (hb : mayP d0 d1 d2 b t0 t1 t2) :
    Calls Try.prog 5 #[A3 d0 d1 d2, P9 a s0 s1 s2, P9 b t0 t1 t2] w fun e W' => e = .returned (.tuple #[.bool (apartB d0 d1 d2 a s0 s1 s2 b t0 t1 t2), I 0]) ∧ Below w.heap.size w W' := by
  have HA : Hid (∀ w, Calls Try.prog 7 #[A3 d0 d1 d2, P9 a s0 s1 s2] w fun e W' => ∃ u v, e = .returned (.tuple #[u, v, I 0]) ∧ SetR W' w.heap.size u (midW d0 d1 d2 a) ∧ SetR W' w.heap.size v (cabsW d0 d1 d2 a s0 s1 s2) ∧ Below w.heap.size w W') := fun w => sets_ok w hm ha
  have HB : Hid (∀ w, Calls Try.prog 7 #[A3 d0 d1 d2, P9 b t0 t1 t2] w fun e W' => ∃ u v, e = .returned (.tuple #[u, v, I 0]) ∧ SetR W' w.heap.size u (midW d0 d1 d2 b) ∧ SetR W' w.heap.size v (cabsW d0 d1 d2 b t0 t1 t2) ∧ Below w.heap.size w W') := fun w => sets_ok w hm hb
  have HM : Hid (∀ w u v b1 b2, SetR w b1 u (midW d0 d1 d2 a) → SetR w b2 v (midW d0 d1 d2 b) → Calls Try.prog 11 #[A3 d0 d1 d2, .func (.func 12) #[] #[], u, v] w fun e W' => e = .returned (.tuple #[.bool (anyB (midW d0 d1 d2 a) (midW d0 d1 d2 b)), I 0]) ∧ Below w.heap.size w W') := fun w u v b1 b2 hu hv => pmeet_mid a b w hm hu hv
  have HL : Hid (∀ w u v b1 b2, SetR w b1 u (cabsW d0 d1 d2 a s0 s1 s2) → SetR w b2 v (cabsW d0 d1 d2 b t0 t1 t2) → Calls Try.prog 11 #[A3 d0 d1 d2, .func (.func 13) #[] #[], u, v] w fun e W' => e = .returned (.tuple #[.bool (anyB (cabsW d0 d1 d2 a s0 s1 s2) (cabsW d0 d1 d2 b t0 t1 t2)), I 0]) ∧ Below w.heap.size w W') := fun w u v b1 b2 hu hv => pmeet_cab a s0 s1 s2 b t0 t1 t2 w hm hu hv
  unfold apartB
  generalize anyB (cabsW d0 d1 d2 a s0 s1 s2) (cabsW d0 d1 d2 b t0 t1 t2) = ans2 at *
  generalize anyB (midW d0 d1 d2 a) (midW d0 d1 d2 b) = ans1 at *
  generalize midW d0 d1 d2 a = S1 at *
  generalize midW d0 d1 d2 b = S2 at *
  generalize cabsW d0 d1 d2 a s0 s1 s2 = S3 at *
  generalize cabsW d0 d1 d2 b t0 t1 t2 = S4 at *
  clear hm ha hb
  go_enter Try.func5, Try.ntmps5
  go_wp2_with fail
  obtain ⟨W, hW, hs, hB0, b0, b1, b2⟩ := three_start w #[I d0, I d1, I d2] (C9 a s0 s1 s2) (C9 b t0 t1 t2) 23 28 28
  rw [hW]
  clear hW
  refine (HA.out _).mono ?_
  rintro e w1 ⟨u, v, rfl, hu, hv, hT⟩
  obtain ⟨c0, c1, c2, hz⟩ := b0.three hT
  obtain ⟨⟨x0, x1, x2⟩, ⟨x3, x4, x5⟩, ⟨x6, x7, x8⟩, hz1⟩ := b2.nine hT
  go_wp2_with fail
  refine (HB.out _).mono ?_
  rintro e w2 ⟨u2, v2, rfl, hu2, hv2, hT2⟩
  have hu := hu.later hT2
  have hv := hv.later hT2
  have hT := then_below hT hT2
  clear hT2 c0 c1 c2 hz x0 x1 x2 x3 x4 x5 x6 x7 x8 hz1
  obtain ⟨c0, c1, c2, hz⟩ := b0.three hT
  go_wp2_with fail
  refine (HM.out _ _ _ _ _ hu hu2).mono ?_
  rintro e w3 ⟨rfl, hT3⟩
  have hv := hv.later hT3
  have hv2 := hv2.later hT3
  have hT := then_below hT hT3
  clear hT3 c0 c1 c2 hz hu hu2
  obtain ⟨c0, c1, c2, hz⟩ := b0.three hT
  go_wp2_with fail
  refine (HL.out _ _ _ _ _ hv hv2).mono ?_
  rintro e w4 ⟨rfl, hT4⟩
  have hB := then_below (then_below hB0 hT) hT4
  clear hT4 c0 c1 c2 hz hv hv2 hT b0 b1 b2 hB0
  cases ans1
  · go_wp2
    go_ret2
    exact ⟨by simp, hB⟩
  · go_wp2
    go_ret2
    exact ⟨by simp, hB⟩

end Go.Proofs.Ytbobfhoimhambaa

/-
  The document's answers of one set (tidehallref03.List, Has, Many); whether two lists are the same (tidehallref02.Ints).
-/
namespace Go.Proofs.Ytbobfhoimhambaa
open Go Go.RowKit Go.Shelf

attribute [local go_sem] Oper.semAt_some ext_const

end Go.Proofs.Ytbobfhoimhambaa

/-
  The chapter's first examples (the statements' 'alive').
-/
namespace Go.Proofs.Ytbobfhoimhambaa
open Go Go.RowKit Go.Shelf

theorem alive_err : errAll 70 [[8, 32]] = 0 := by decide +kernel
theorem alive_list : listR 70 [8, 32] = [3, 69] := by decide +kernel
theorem alive_of : ofErr 70 [3, 69, 3] = 0 := by decide +kernel
theorem alive_ok : ofOk 70 [3, 69, 3] = true := by decide +kernel
theorem alive_bits : ∀ k, k < 128 → hasW [8, 32] k = inL [3, 69, 3] k := by decide +kernel
theorem alive_set {ws : List Nat} (h : OfIs 70 [3, 69, 3] ws) : ws = [8, 32] := by
  refine (h.yes alive_ok).ext ⟨rfl, fun x hx => ?_, fun k => ?_⟩
  · simp at hx
    rcases hx with rfl | rfl <;> decide
  · by_cases hk : k < 128
    · exact alive_bits k hk
    · rw [hasW_past (by simp; omega)]
      unfold inL
      symm
      rw [Bool.eq_false_iff]
      intro hc
      simp at hc
      omega

theorem its_of_blk {W : World} {g : Nat} {xs : List Int} {t : TypeId} (h : Blk W g t (xs.map I).toArray) (cap : Nat) : Its W (.slice (some ⟨g, 0, none⟩) xs.length cap) xs := by
  have := Sl.blk h cap
  rw [List.length_map] at this
  exact this
theorem wds_of_blk {W : World} {g : Nat} {ws : List Nat} {t : TypeId} (hw : ∀ x ∈ ws, x < 18446744073709551616) (h : Blk W g t (ws.map U).toArray) (cap : Nat) : Wds W (.slice (some ⟨g, 0, none⟩) ws.length cap) ws := by
  have := Sl.blk h cap
  rw [List.length_map] at this
  exact ⟨hw, this⟩

end Go.Proofs.Ytbobfhoimhambaa

/-
  What the statements of layer 6 share: the chapter's dimensions, a place of theirs, and the chapter's first examples.
-/
namespace Go.Proofs.Ytbobfhoimhambaa
open Go Go.RowKit Go.Shelf

attribute [local go_sem] Oper.semAt_some ext_const

set_option maxRecDepth 100000 in
theorem pline_calls (w : World) : Calls Try.prog 8 #[] w fun e W' => e = .returned (A3 4 1 1) ∧ Below w.heap.size w W' := by
  go_enter Try.func8, Try.ntmps8
  go_wp2
  have b0 := Blk.new w 23 #[I 4, I 1, I 1]
  have hB := (Below.refl w.heap.size w).alloc (Nat.le_refl _) (.cells #[I 4, I 1, I 1] 23)
  obtain ⟨j0, j1, j2, _⟩ := b0.three (Below.refl _ _)
  generalize w.alloc (.cells #[I 4, I 1, I 1] 23) = W at *
  exact bodyPost_ret (v := A3 4 1 1) (by simp [results, Try.f8, go_sem, j0, j1, j2]) rfl ⟨rfl, hB⟩

/-- A place of the chapter's. -/
abbrev bOf (base size : Int) : Bx := ⟨base, 0, 0, size, 1, 1⟩
set_option maxRecDepth 100000 in
theorem pof_calls (base size : Int) (t : Bool) (w : World) : Calls Try.prog 9 #[I base, I size, .bool t] w fun e W' => e = .returned (P9 (bOf base size) t false false) ∧ Below w.heap.size w W' := by
  go_enter Try.func9, Try.ntmps9
  go_wp2
  have b0 := Blk.new w 28 (C9 (bOf base size) t false false)
  have hB := (Below.refl w.heap.size w).alloc (Nat.le_refl _) (.cells (C9 (bOf base size) t false false) 28)
  obtain ⟨⟨x0, x1, x2⟩, ⟨x3, x4, x5⟩, ⟨x6, x7, x8⟩, hz1⟩ := b0.nine (Below.refl _ _)
  generalize w.alloc (.cells (C9 (bOf base size) t false false) 28) = W at *
  exact bodyPost_ret (v := P9 (bOf base size) t false false) (by simp [results, Try.f9, go_sem, x0, x1, x2, x3, x4, x5, x6, x7, x8]) rfl ⟨rfl, hB⟩

theorem line_may : mayD 4 1 1 := (okDB_iff _ _ _).1 (by decide)
theorem mesh32 : mayP 4 1 1 (bOf 3 2) false false false := (mayPB_iff _ _ _ _ _ _ _).1 (by decide)
theorem tor32 : mayP 4 1 1 (bOf 3 2) true false false := (mayPB_iff _ _ _ _ _ _ _).1 (by decide)
theorem mesh12 : mayP 4 1 1 (bOf 1 2) false false false := (mayPB_iff _ _ _ _ _ _ _).1 (by decide)
theorem mid32 : midW 4 1 1 (bOf 3 2) = [9] := by decide +kernel
theorem cab32 : cabsW 4 1 1 (bOf 3 2) false false false = [8] := by decide +kernel
theorem cab32t : cabsW 4 1 1 (bOf 3 2) true false false = [15] := by decide +kernel

set_option maxRecDepth 100000 in
set_option maxHeartbeats 4000000 in
theorem aliveP_calls (w : World) : Calls Try.prog 4 #[] w fun e W' => e = .returned (.bool true) ∧ Below w.heap.size w W' := by
  have H1 : Hid (∀ w, Calls Try.prog 7 #[A3 4 1 1, P9 (bOf 3 2) false false false] w fun e W' => ∃ u v, e = .returned (.tuple #[u, v, I 0]) ∧ SetR W' w.heap.size u [9] ∧ SetR W' w.heap.size v [8] ∧ Below w.heap.size w W') := fun w => by
    have := sets_ok w line_may mesh32
    rwa [mid32, cab32] at this
  have H2 : Hid (∀ w, Calls Try.prog 7 #[A3 4 1 1, P9 (bOf 3 2) true false false] w fun e W' => ∃ u v, e = .returned (.tuple #[u, v, I 0]) ∧ SetR W' w.heap.size u [9] ∧ SetR W' w.heap.size v [15] ∧ Below w.heap.size w W') := fun w => by
    have := sets_ok w line_may tor32
    rwa [mid32, cab32t] at this
  go_enter Try.func4, Try.ntmps4
  go_wp2_with fail
  refine (pline_calls w).mono ?_
  rintro e w1 ⟨rfl, hT⟩
  go_wp2_with fail
  refine (pof_calls 3 2 false _).mono ?_
  rintro e w2 ⟨rfl, hT2⟩
  have hT := then_below hT hT2
  go_wp2_with fail
  refine (H1.out _).mono ?_
  rintro e w3 ⟨u, v, rfl, hu, hv, hT3⟩
  have hT := then_below hT hT3
  clear hT2 hT3
  go_wp2_with fail
  refine (pline_calls _).mono ?_
  rintro e w4 ⟨rfl, hT4⟩
  have hu := hu.later hT4
  have hv := hv.later hT4
  have hT := then_below hT hT4
  clear hT4
  go_wp2_with fail
  refine (pof_calls 3 2 true _).mono ?_
  rintro e w5 ⟨rfl, hT4⟩
  have hu := hu.later hT4
  have hv := hv.later hT4
  have hT := then_below hT hT4
  clear hT4
  go_wp2_with fail
  refine (H2.out _).mono ?_
  rintro e w6 ⟨u2, v2, rfl, hu2, hv2, hT4⟩
  have hu := hu.later hT4
  have hv := hv.later hT4
  have hT := then_below hT hT4
  clear hT4
  go_wp2_with fail
  have hT4 := (Below.refl _ w6).alloc (Nat.le_refl _) (.cells #[U 9] 42)
  have hb : Blk (w6.alloc (.cells #[U 9] 42)) w6.heap.size 42 (List.map U [9]).toArray := Blk.new w6 _ _
  have S := sameS_calls (xs := [9]) (ys := [9]) (v := .slice (some ⟨w6.heap.size, 0, none⟩) 1 1) _ (hu.wds.later hT4) (wds_of_blk (by intro x hx; simp at hx; subst hx; decide) hb 1) (by simp)
  rw [decide_eq_true rfl] at S
  refine S.mono ?_
  rintro e w7 ⟨rfl, hT5⟩
  have hT := then_below hT (then_below hT4 hT5)
  have hv := hv.later (then_below hT4 hT5)
  have hu2 := hu2.later (then_below hT4 hT5)
  have hv2 := hv2.later (then_below hT4 hT5)
  clear S hb hT4 hT5
  go_wp2_with fail
  have hT4 := (Below.refl _ w7).alloc (Nat.le_refl _) (.cells #[U 8] 42)
  have hb : Blk (w7.alloc (.cells #[U 8] 42)) w7.heap.size 42 (List.map U [8]).toArray := Blk.new w7 _ _
  have S := sameS_calls (xs := [8]) (ys := [8]) (v := .slice (some ⟨w7.heap.size, 0, none⟩) 1 1) _ (hv.wds.later hT4) (wds_of_blk (by intro x hx; simp at hx; subst hx; decide) hb 1) (by simp)
  rw [decide_eq_true rfl] at S
  refine S.mono ?_
  rintro e w8 ⟨rfl, hT5⟩
  have hT := then_below hT (then_below hT4 hT5)
  have hu2 := hu2.later (then_below hT4 hT5)
  have hv2 := hv2.later (then_below hT4 hT5)
  clear S hb hT4 hT5
  go_wp2_with fail
  have hT4 := (Below.refl _ w8).alloc (Nat.le_refl _) (.cells #[U 9] 42)
  have hb : Blk (w8.alloc (.cells #[U 9] 42)) w8.heap.size 42 (List.map U [9]).toArray := Blk.new w8 _ _
  have S := sameS_calls (xs := [9]) (ys := [9]) (v := .slice (some ⟨w8.heap.size, 0, none⟩) 1 1) _ (hu2.wds.later hT4) (wds_of_blk (by intro x hx; simp at hx; subst hx; decide) hb 1) (by simp)
  rw [decide_eq_true rfl] at S
  refine S.mono ?_
  rintro e w9 ⟨rfl, hT5⟩
  have hT := then_below hT (then_below hT4 hT5)
  have hv2 := hv2.later (then_below hT4 hT5)
  clear S hb hT4 hT5
  go_wp2_with fail
  have hT4 := (Below.refl _ w9).alloc (Nat.le_refl _) (.cells #[U 15] 42)
  have hb : Blk (w9.alloc (.cells #[U 15] 42)) w9.heap.size 42 (List.map U [15]).toArray := Blk.new w9 _ _
  have S := sameS_calls (xs := [15]) (ys := [15]) (v := .slice (some ⟨w9.heap.size, 0, none⟩) 1 1) _ (hv2.wds.later hT4) (wds_of_blk (by intro x hx; simp at hx; subst hx; decide) hb 1) (by simp)
  rw [decide_eq_true rfl] at S
  refine S.mono ?_
  rintro e w10 ⟨rfl, hT5⟩
  have hT := then_below hT (then_below hT4 hT5)
  clear S hb hT4 hT5
  go_wp2
  go_ret
  exact ⟨rfl, hT⟩

end Go.Proofs.Ytbobfhoimhambaa
