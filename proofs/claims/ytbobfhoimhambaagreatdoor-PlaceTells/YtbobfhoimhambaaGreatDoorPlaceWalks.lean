/-
  place.midSet, place.linkSet, place.endSet, place.Sets, place.meet, place.Apart, place.Passes: what each call answers; nothing that lay before is turned.
-/
import Derived.Test.YtbobfhoimhambaaGreatDoorPart23
import Derived.Test.YtbobfhoimhambaaGreatDoorPart14
import Derived.Test.YtbobfhoimhambaaGreatDoorPart12
import Derived.Test.YtbobfhoimhambaaGreatDoorPart13
import Derived.Test.YtbobfhoimhambaaGreatDoorPart16
namespace Go.Proofs.YtbobfhoimhambaaGreatDoor
open Go Go.RowKit Go.Shelf

attribute [local go_sem] Oper.semAt_some ext_const

theorem ofErr_ok {n : Int} {l : List Int} (h : ofOk n l = true) : ofErr n l = 0 := by simp [ofErr, h]
theorem errP_ok {d0 d1 d2 : Int} {b : Bx} {t0 t1 t2 : Bool} (hm : mayD d0 d1 d2) (hp : mayP d0 d1 d2 b t0 t1 t2) : errP d0 d1 d2 b t0 t1 t2 = 0 := by
  rcases errP_cases d0 d1 d2 b t0 t1 t2 with ⟨_, _, h⟩ | ⟨_, h⟩
  · exact h
  · exact absurd ⟨hm, hp⟩ h
/-- set.Of, of numbers that tell a known set. -/
theorem of_set {n : Int} {l : List Int} {S : List Nat} {v : Value} {base : Nat} (w : World) (hv : Lst w base v l) (hl : l.length ≤ 65536) (hok : ofOk n l = true) (hS : ∀ ws, OfIs n l ws → ws = S) :
    Calls Tryz.prog 31 #[I n, v] w fun e W' => ∃ u, e = .returned (.tuple #[u, I 0]) ∧ SetR W' w.heap.size u S ∧ Below w.heap.size w W' := by
  refine (of_calls w hv.its hl n).mono ?_
  rintro e w1 ⟨u, ws, rfl, hu, ho, hB⟩
  rw [ofErr_ok hok, ← hS ws ho]
  exact ⟨u, rfl, hu, hB⟩

set_option maxRecDepth 100000 in
set_option maxHeartbeats 4000000 in
theorem midSet_calls {d0 d1 d2 : Int} {b : Bx} (t0 t1 t2 : Bool) (w : World) (hm : mayD d0 d1 d2) (hb : mayB d0 d1 d2 b) :
    Calls Tryz.prog 14 #[A3 d0 d1 d2, P9 b t0 t1 t2] w fun e W' => ∃ u, e = .returned (.tuple #[u, I 0]) ∧ SetR W' w.heap.size u (midW d0 d1 d2 b) ∧ Below w.heap.size w W' := by
  have HN : Hid (∀ w, Calls Tryz.prog 18 #[A3 d0 d1 d2] w fun e W' => e = .returned (.tuple #[I (d0 * d1 * d2), I 0]) ∧ Below w.heap.size w W') := fun w => many_yes w hm
  have HB : Hid (∀ w, Calls Tryz.prog 30 #[A3 d0 d1 d2, B6 b] w fun e W' => ∃ v, e = .returned (.tuple #[v, I 0]) ∧ Lst W' w.heap.size v (nodesB d0 d1 d2 b) ∧ Below w.heap.size w W') := fun w => bnodes_ok w hm hb
  have HO : Hid (∀ w v base, Lst w base v (nodesB d0 d1 d2 b) → Calls Tryz.prog 31 #[I (d0 * d1 * d2), v] w fun e W' => ∃ u, e = .returned (.tuple #[u, I 0]) ∧ SetR W' w.heap.size u (midW d0 d1 d2 b) ∧ Below w.heap.size w W') :=
    fun w v base hv => of_set w hv (by have := nodesB_len hm b; omega) (nodes_ok hm b) (fun ws ho => mid_of hm ho)
  clear hm hb
  generalize nodesB d0 d1 d2 b = X at *
  generalize midW d0 d1 d2 b = S at *
  generalize d0 * d1 * d2 = N at *
  go_enter Tryz.func14, Tryz.ntmps14
  go_wp2_with fail
  obtain ⟨W, hW, hB0, b0, b1⟩ := two_start w #[I d0, I d1, I d2] (C9 b t0 t1 t2) 23 28
  rw [hW]
  clear hW
  refine (HN.out _).mono ?_
  rintro e w1 ⟨rfl, hT⟩
  obtain ⟨c0, c1, c2, hz⟩ := b0.three hT
  obtain ⟨⟨x0, x1, x2⟩, ⟨x3, x4, x5⟩, _, hz1⟩ := b1.nine hT
  have hB := then_below hB0 hT
  clear hT b0 b1 hB0
  go_wp2_with fail
  refine (HB.out _).mono ?_
  rintro e w2 ⟨v, rfl, hv, hT⟩
  have hB := then_below hB hT
  clear hT c0 c1 c2 hz x0 x1 x2 x3 x4 x5 hz1
  go_wp2_with fail
  refine (HO.out _ _ _ hv).mono ?_
  rintro e w3 ⟨u, rfl, hu, hT⟩
  go_wp2
  go_ret2
  exact ⟨_, rfl, hu.weak hB.size, then_below hB hT⟩

set_option maxRecDepth 100000 in
set_option maxHeartbeats 4000000 in
theorem linkSet_calls {d0 d1 d2 : Int} {b : Bx} {t0 t1 t2 : Bool} (w : World) (hm : mayD d0 d1 d2) (hp : mayP d0 d1 d2 b t0 t1 t2) :
    Calls Tryz.prog 15 #[A3 d0 d1 d2, P9 b t0 t1 t2] w fun e W' => ∃ u, e = .returned (.tuple #[u, I 0]) ∧ SetR W' w.heap.size u (cabsW d0 d1 d2 b t0 t1 t2) ∧ Below w.heap.size w W' := by
  have HN : Hid (∀ w, Calls Tryz.prog 25 #[A3 d0 d1 d2] w fun e W' => e = .returned (.tuple #[I (3 * (d0 * d1 * d2)), I 0]) ∧ Below w.heap.size w W') := fun w => wmany_yes w hm
  have HB : Hid (∀ w, Calls Tryz.prog 32 #[A3 d0 d1 d2, P9 b t0 t1 t2] w fun e W' => ∃ v, e = .returned (.tuple #[v, I 0]) ∧ Lst W' w.heap.size v (cabsL d0 d1 d2 b t0 t1 t2) ∧ Below w.heap.size w W') := fun w => cables_calls w hm hp
  have HO : Hid (∀ w v base, Lst w base v (cabsL d0 d1 d2 b t0 t1 t2) → Calls Tryz.prog 31 #[I (3 * (d0 * d1 * d2)), v] w fun e W' => ∃ u, e = .returned (.tuple #[u, I 0]) ∧ SetR W' w.heap.size u (cabsW d0 d1 d2 b t0 t1 t2) ∧ Below w.heap.size w W') :=
    fun w v base hv => of_set w hv (by have := cabsL_len hm hp; omega) (cabs_ok hm hp) (fun ws ho => cabs_of hm hp ho)
  clear hm hp
  generalize cabsL d0 d1 d2 b t0 t1 t2 = X at *
  generalize cabsW d0 d1 d2 b t0 t1 t2 = S at *
  generalize 3 * (d0 * d1 * d2) = N at *
  go_enter Tryz.func15, Tryz.ntmps15
  go_wp2_with fail
  obtain ⟨W, hW, hB0, b0, b1⟩ := two_start w #[I d0, I d1, I d2] (C9 b t0 t1 t2) 23 28
  rw [hW]
  clear hW
  refine (HN.out _).mono ?_
  rintro e w1 ⟨rfl, hT⟩
  obtain ⟨c0, c1, c2, hz⟩ := b0.three hT
  obtain ⟨⟨x0, x1, x2⟩, ⟨x3, x4, x5⟩, ⟨x6, x7, x8⟩, hz1⟩ := b1.nine hT
  have hB := then_below hB0 hT
  clear hT b0 b1 hB0
  go_wp2_with fail
  refine (HB.out _).mono ?_
  rintro e w2 ⟨v, rfl, hv, hT⟩
  have hB := then_below hB hT
  clear hT c0 c1 c2 hz x0 x1 x2 x3 x4 x5 x6 x7 x8 hz1
  go_wp2_with fail
  refine (HO.out _ _ _ hv).mono ?_
  rintro e w3 ⟨u, rfl, hu, hT⟩
  go_wp2
  go_ret2
  exact ⟨_, rfl, hu.weak hB.size, then_below hB hT⟩

set_option maxRecDepth 100000 in
set_option maxHeartbeats 4000000 in
theorem endSet_calls {d0 d1 d2 : Int} {b : Bx} {t0 t1 t2 : Bool} (w : World) (hm : mayD d0 d1 d2) (hp : mayP d0 d1 d2 b t0 t1 t2) :
    Calls Tryz.prog 17 #[A3 d0 d1 d2, P9 b t0 t1 t2] w fun e W' => ∃ u, e = .returned (.tuple #[u, I 0]) ∧ SetR W' w.heap.size u (endsW d0 d1 d2 b t0 t1 t2) ∧ Below w.heap.size w W' := by
  have HN : Hid (∀ w, Calls Tryz.prog 18 #[A3 d0 d1 d2] w fun e W' => e = .returned (.tuple #[I (d0 * d1 * d2), I 0]) ∧ Below w.heap.size w W') := fun w => many_yes w hm
  have HB : Hid (∀ w, Calls Tryz.prog 32 #[A3 d0 d1 d2, P9 b t0 t1 t2] w fun e W' => ∃ v, e = .returned (.tuple #[v, I 0]) ∧ Lst W' w.heap.size v (cabsL d0 d1 d2 b t0 t1 t2) ∧ Below w.heap.size w W') := fun w => cables_calls w hm hp
  have HO : Hid (∀ w v base, Lst w base v (endsL d0 d1 d2 (cabsL d0 d1 d2 b t0 t1 t2)) → Calls Tryz.prog 31 #[I (d0 * d1 * d2), v] w fun e W' => ∃ u, e = .returned (.tuple #[u, I 0]) ∧ SetR W' w.heap.size u (endsW d0 d1 d2 b t0 t1 t2) ∧ Below w.heap.size w W') :=
    fun w v base hv => of_set w hv (by have := cabsL_len hm hp; rw [endsL_len]; omega) (ends_ok hm hp) (fun ws ho => ends_of hm hp ho)
  have HE : Hid (∀ n ∈ cabsL d0 d1 d2 b t0 t1 t2, ∃ x y z, endP d0 d1 d2 n = [y, z] ∧ ∀ w, Calls Tryz.prog 36 #[A3 d0 d1 d2, I n] w fun e W' => e = .returned (.tuple #[I x, I y, I z, I 0]) ∧ Below w.heap.size w W') := fun n hn => by
    obtain ⟨k, o, ho, ht, rfl⟩ := (cabsL_mem hm hp).1 hn
    exact ⟨axI k, o, onD d0 d1 d2 o k 1, endP_at ho k, fun w => ends_yes w hm ho k (takes_wired hm hp ho ht)⟩
  have hlX := cabsL_len hm hp
  clear hm hp
  generalize endsW d0 d1 d2 b t0 t1 t2 = S at *
  generalize cabsL d0 d1 d2 b t0 t1 t2 = X at *
  generalize d0 * d1 * d2 = N at *
  go_enter Tryz.func17, Tryz.ntmps17
  go_wp2_with fail
  obtain ⟨W, hW, hB0, b0, b1⟩ := two_start w #[I d0, I d1, I d2] (C9 b t0 t1 t2) 23 28
  rw [hW]
  clear hW
  refine (HN.out _).mono ?_
  rintro e w1 ⟨rfl, hT⟩
  obtain ⟨c0, c1, c2, hz⟩ := b0.three hT
  obtain ⟨⟨x0, x1, x2⟩, ⟨x3, x4, x5⟩, ⟨x6, x7, x8⟩, hz1⟩ := b1.nine hT
  have g0 := b0.later hT
  have hB := then_below hB0 hT
  clear hT b0 b1 hB0
  go_wp2_with fail
  refine (HB.out _).mono ?_
  rintro e w2 ⟨v, rfl, hv, hT⟩
  have g0 := g0.later hT
  have hB := then_below hB hT
  obtain ⟨aX, cX, eX, hvw⟩ := hv.view
  subst eX
  have HV : Hid (∀ k : Nat, k < X.length → ∃ g cur, aX = some ⟨g, 0, none⟩ ∧ Blk w2 g 3 cur ∧ cur[k]? = some (I (X.getD k 0))) := hvw
  clear hT c0 c1 c2 hz x0 x1 x2 x3 x4 x5 x6 x7 x8 hz1 hv hvw
  go_wp2_with (at_make; refine wpList_mk (base := w2.heap.size) rfl _ _ rfl (2 * (X.length : Int)) rfl (by go_num) (by omega) (by omega) (Nat.le_refl _) ?_; intro v3 w3 hv3 hT3)
  go_loopw [9, 39] (fun u i wr => ∃ j : Nat, j ≤ X.length ∧ i = .int .i64 j ∧ Lst wr w2.heap.size u (endsL d0 d1 d2 (X.take j)) ∧ Below w2.heap.size w2 wr) (fun _ i _ => X.length - (intOf i).toNat)
  case atStart => exact ⟨0, by omega, rfl, by simpa [endsL] using hv3, hT3⟩
  case round =>
    clear hv3 hT3
    obtain ⟨j, hj, rfl, hL, hT⟩ := hrel
    obtain ⟨c0, c1, c2, hz⟩ := g0.three hT
    by_cases hlt : (j : Int) < (X.length : Int)
    · have hjl : j < X.length := by omega
      obtain ⟨g, cur, rfl, hg, hc⟩ := HV.out j hjl
      have cj := (hg.later hT).cell j
      rw [hc] at cj
      clear hg hc
      have hin : X.getD j 0 ∈ X := by
        rw [List.getD_eq_getElem?_getD, List.getElem?_eq_getElem hjl]
        exact List.getElem_mem hjl
      obtain ⟨x, y, z, hend, HEn⟩ := HE.out _ hin
      have HTk : Hid (endsL d0 d1 d2 (X.take (j + 1)) = endsL d0 d1 d2 (X.take j) ++ [y, z]) := by
        show _ = _
        rw [List.take_succ_eq_append_getElem hjl, endsL_app, ← hend, List.getD_eq_getElem?_getD, List.getElem?_eq_getElem hjl]
        rfl
      have hlen : (endsL d0 d1 d2 (X.take j)).length ≤ 100000 := by
        rw [endsL_len, List.length_take]
        omega
      clear hend hin
      generalize endsL d0 d1 d2 (X.take j) = ys at *
      generalize X.getD j 0 = n at *
      go_wp2_with fail
      refine (HEn _).mono ?_
      rintro e w4 ⟨rfl, hT4⟩
      have hL := hL.later hT4
      have hT := then_below hT hT4
      clear hT4 c0 c1 c2 hz cj
      go_wp2_with (at_builtin; refine wpList_app2 rfl _ _ rfl rfl rfl hL hlen hT.size ?_; intro v5 w5 hL5 hT5)
      go_roundw
      case rel => exact ⟨j + 1, by omega, by go_num, by rw [HTk.out]; exact hL5, hT.trans hT5⟩
      case measure => simp [intOf]; omega
    · have e : j = X.length := by omega
      subst e
      rw [List.take_length] at hL
      go_wp2_with fail
      refine (HO.out _ _ _ hL).mono ?_
      rintro e w6 ⟨u, rfl, hu, hT6⟩
      go_wp2
      go_ret2
      have hB := then_below hB hT
      exact ⟨_, rfl, hu.weak hB.size, then_below hB hT6⟩

set_option maxRecDepth 100000 in
set_option maxHeartbeats 4000000 in
theorem sets_err {d0 d1 d2 : Int} {b : Bx} (t0 t1 t2 : Bool) (w : World) (he : (errP d0 d1 d2 b t0 t1 t2 != 0) = true) :
    Calls Tryz.prog 4 #[A3 d0 d1 d2, P9 b t0 t1 t2] w fun e W' => e = .returned (.tuple #[.slice none 0 0, .slice none 0 0, I (errP d0 d1 d2 b t0 t1 t2)]) ∧ Below w.heap.size w W' := by
  have HC : Hid (∀ w, Calls Tryz.prog 10 #[A3 d0 d1 d2, P9 b t0 t1 t2] w fun e W' => e = .returned (I (errP d0 d1 d2 b t0 t1 t2)) ∧ Below w.heap.size w W') := fun w => pcheck_calls d0 d1 d2 b t0 t1 t2 w
  generalize errP d0 d1 d2 b t0 t1 t2 = er at *
  go_enter Tryz.func4, Tryz.ntmps4
  go_wp2_with fail
  obtain ⟨W, hW, hB0, b0, b1⟩ := two_start w #[I d0, I d1, I d2] (C9 b t0 t1 t2) 23 28
  rw [hW]
  clear hW
  refine (HC.out _).mono ?_
  rintro e w1 ⟨rfl, hT⟩
  go_wp2
  exact bodyPost_ret (results_tmp3 rfl _ _ _) rfl ⟨rfl, then_below hB0 hT⟩

set_option maxRecDepth 100000 in
set_option maxHeartbeats 4000000 in
theorem sets_ok {d0 d1 d2 : Int} {b : Bx} {t0 t1 t2 : Bool} (w : World) (hm : mayD d0 d1 d2) (hp : mayP d0 d1 d2 b t0 t1 t2) :
    Calls Tryz.prog 4 #[A3 d0 d1 d2, P9 b t0 t1 t2] w fun e W' => ∃ u v, e = .returned (.tuple #[u, v, I 0]) ∧ SetR W' w.heap.size u (midW d0 d1 d2 b) ∧ SetR W' w.heap.size v (cabsW d0 d1 d2 b t0 t1 t2) ∧ Below w.heap.size w W' := by
  have HC : Hid (∀ w, Calls Tryz.prog 10 #[A3 d0 d1 d2, P9 b t0 t1 t2] w fun e W' => e = .returned (I 0) ∧ Below w.heap.size w W') := fun w => by have := pcheck_calls d0 d1 d2 b t0 t1 t2 w; rwa [errP_ok hm hp] at this
  have HA : Hid (∀ w, Calls Tryz.prog 14 #[A3 d0 d1 d2, P9 b t0 t1 t2] w fun e W' => ∃ u, e = .returned (.tuple #[u, I 0]) ∧ SetR W' w.heap.size u (midW d0 d1 d2 b) ∧ Below w.heap.size w W') := fun w => midSet_calls t0 t1 t2 w hm hp.1
  have HB : Hid (∀ w, Calls Tryz.prog 15 #[A3 d0 d1 d2, P9 b t0 t1 t2] w fun e W' => ∃ u, e = .returned (.tuple #[u, I 0]) ∧ SetR W' w.heap.size u (cabsW d0 d1 d2 b t0 t1 t2) ∧ Below w.heap.size w W') := fun w => linkSet_calls w hm hp
  clear hm hp
  generalize midW d0 d1 d2 b = S at *
  generalize cabsW d0 d1 d2 b t0 t1 t2 = S' at *
  go_enter Tryz.func4, Tryz.ntmps4
  go_wp2_with fail
  obtain ⟨W, hW, hB0, b0, b1⟩ := two_start w #[I d0, I d1, I d2] (C9 b t0 t1 t2) 23 28
  rw [hW]
  clear hW
  refine (HC.out _).mono ?_
  rintro e w1 ⟨rfl, hT⟩
  obtain ⟨c0, c1, c2, hz⟩ := b0.three hT
  obtain ⟨⟨x0, x1, x2⟩, ⟨x3, x4, x5⟩, ⟨x6, x7, x8⟩, hz1⟩ := b1.nine hT
  go_wp2_with fail
  refine (HA.out _).mono ?_
  rintro e w2 ⟨u, rfl, hu, hT2⟩
  have hu := hu.weak (then_below hB0 hT).size
  have hT := then_below hT hT2
  clear hT2 c0 c1 c2 hz x0 x1 x2 x3 x4 x5 x6 x7 x8 hz1
  obtain ⟨c0, c1, c2, hz⟩ := b0.three hT
  obtain ⟨⟨x0, x1, x2⟩, ⟨x3, x4, x5⟩, ⟨x6, x7, x8⟩, hz1⟩ := b1.nine hT
  go_wp2_with fail
  refine (HB.out _).mono ?_
  rintro e w3 ⟨v, rfl, hv, hT3⟩
  have hB := then_below hB0 hT
  have hv := hv.weak hB.size
  have hu := hu.later hT3
  go_wp2
  refine bodyPost_ret (results_tmp3 rfl _ _ _) rfl ?_
  exact ⟨_, _, rfl, hu, hv, then_below hB hT3⟩

/-- Whether two sets below the number of midplanes have anything in common. -/
theorem meetN {n : Int} (h1 : 1 ≤ n) (h2 : n ≤ 12288) (p q : Nat → Bool) {u v : Value} {b1 b2 : Nat} (w : World) (hu : SetR w b1 u (setOf n p)) (hv : SetR w b2 v (setOf n q)) :
    Calls Tryz.prog 47 #[I n, u, v] w fun e W' => e = .returned (.tuple #[.bool (anyB (setOf n p) (setOf n q)), I 0]) ∧ Below w.heap.size w W' := by
  have := meet_calls w hu.wds hv.wds n
  rw [setOf_meet h1 h2, errAll_both (setOf_err h1 h2 p) (setOf_err h1 h2 q)] at this
  exact this

set_option maxRecDepth 100000 in
set_option maxHeartbeats 4000000 in
theorem pmeet_mid {d0 d1 d2 : Int} (a b : Bx) {u v : Value} {b1 b2 : Nat} (w : World) (hm : mayD d0 d1 d2) (hu : SetR w b1 u (midW d0 d1 d2 a)) (hv : SetR w b2 v (midW d0 d1 d2 b)) :
    Calls Tryz.prog 24 #[A3 d0 d1 d2, .func (.func 18) #[] #[], u, v] w fun e W' => e = .returned (.tuple #[.bool (anyB (midW d0 d1 d2 a) (midW d0 d1 d2 b)), I 0]) ∧ Below w.heap.size w W' := by
  have hN := N_bd hm
  have HN : Hid (∀ w, Calls Tryz.prog 18 #[A3 d0 d1 d2] w fun e W' => e = .returned (.tuple #[I (d0 * d1 * d2), I 0]) ∧ Below w.heap.size w W') := fun w => many_yes w hm
  have HM : Hid (∀ w b1 b2, SetR w b1 u (midW d0 d1 d2 a) → SetR w b2 v (midW d0 d1 d2 b) → Calls Tryz.prog 47 #[I (d0 * d1 * d2), u, v] w fun e W' => e = .returned (.tuple #[.bool (anyB (midW d0 d1 d2 a) (midW d0 d1 d2 b)), I 0]) ∧ Below w.heap.size w W') := fun w b1 b2 hu hv => meetN (by omega) (by omega) _ _ w hu hv
  generalize anyB (midW d0 d1 d2 a) (midW d0 d1 d2 b) = ans at *
  generalize midW d0 d1 d2 a = S at *
  generalize midW d0 d1 d2 b = S' at *
  clear hm
  generalize d0 * d1 * d2 = N at *
  go_enter Tryz.func24, Tryz.ntmps24
  go_wp2_with fail
  have hB0 := (Below.refl w.heap.size w).alloc (Nat.le_refl _) (.cells #[I d0, I d1, I d2] 23)
  generalize w.alloc (.cells #[I d0, I d1, I d2] 23) = W at *
  refine (HN.out _).mono ?_
  rintro e w1 ⟨rfl, hT⟩
  have hB := then_below hB0 hT
  have hu := hu.later hB
  have hv := hv.later hB
  clear hT hB0
  go_wp2_with fail
  refine (HM.out _ _ _ hu hv).mono ?_
  rintro e w2 ⟨rfl, hT⟩
  go_wp2
  go_ret2
  exact ⟨rfl, then_below hB hT⟩

set_option maxRecDepth 100000 in
set_option maxHeartbeats 4000000 in
theorem pmeet_cab {d0 d1 d2 : Int} (a : Bx) (s0 s1 s2 : Bool) (b : Bx) (t0 t1 t2 : Bool) {u v : Value} {b1 b2 : Nat} (w : World) (hm : mayD d0 d1 d2) (hu : SetR w b1 u (cabsW d0 d1 d2 a s0 s1 s2)) (hv : SetR w b2 v (cabsW d0 d1 d2 b t0 t1 t2)) :
    Calls Tryz.prog 24 #[A3 d0 d1 d2, .func (.func 25) #[] #[], u, v] w fun e W' => e = .returned (.tuple #[.bool (anyB (cabsW d0 d1 d2 a s0 s1 s2) (cabsW d0 d1 d2 b t0 t1 t2)), I 0]) ∧ Below w.heap.size w W' := by
  have hN := N_bd hm
  have HN : Hid (∀ w, Calls Tryz.prog 25 #[A3 d0 d1 d2] w fun e W' => e = .returned (.tuple #[I (3 * (d0 * d1 * d2)), I 0]) ∧ Below w.heap.size w W') := fun w => wmany_yes w hm
  have HM : Hid (∀ w b1 b2, SetR w b1 u (cabsW d0 d1 d2 a s0 s1 s2) → SetR w b2 v (cabsW d0 d1 d2 b t0 t1 t2) → Calls Tryz.prog 47 #[I (3 * (d0 * d1 * d2)), u, v] w fun e W' => e = .returned (.tuple #[.bool (anyB (cabsW d0 d1 d2 a s0 s1 s2) (cabsW d0 d1 d2 b t0 t1 t2)), I 0]) ∧ Below w.heap.size w W') := fun w b1 b2 hu hv => meetN (by omega) (by omega) _ _ w hu hv
  generalize anyB (cabsW d0 d1 d2 a s0 s1 s2) (cabsW d0 d1 d2 b t0 t1 t2) = ans at *
  generalize cabsW d0 d1 d2 a s0 s1 s2 = S at *
  generalize cabsW d0 d1 d2 b t0 t1 t2 = S' at *
  clear hm
  generalize 3 * (d0 * d1 * d2) = N at *
  go_enter Tryz.func24, Tryz.ntmps24
  go_wp2_with fail
  have hB0 := (Below.refl w.heap.size w).alloc (Nat.le_refl _) (.cells #[I d0, I d1, I d2] 23)
  generalize w.alloc (.cells #[I d0, I d1, I d2] 23) = W at *
  refine (HN.out _).mono ?_
  rintro e w1 ⟨rfl, hT⟩
  have hB := then_below hB0 hT
  have hu := hu.later hB
  have hv := hv.later hB
  clear hT hB0
  go_wp2_with fail
  refine (HM.out _ _ _ hu hv).mono ?_
  rintro e w2 ⟨rfl, hT⟩
  go_wp2
  go_ret2
  exact ⟨rfl, then_below hB hT⟩

set_option maxRecDepth 100000 in
set_option maxHeartbeats 4000000 in
theorem apart_err1 {d0 d1 d2 : Int} {a : Bx} (s0 s1 s2 : Bool) (b : Bx) (t0 t1 t2 : Bool) (w : World) (he : (errP d0 d1 d2 a s0 s1 s2 != 0) = true) :
    Calls Tryz.prog 8 #[A3 d0 d1 d2, P9 a s0 s1 s2, P9 b t0 t1 t2] w fun e W' => e = .returned (.tuple #[.bool false, I (errP d0 d1 d2 a s0 s1 s2)]) ∧ Below w.heap.size w W' := by
  have HC : Hid (∀ w, Calls Tryz.prog 4 #[A3 d0 d1 d2, P9 a s0 s1 s2] w fun e W' => e = .returned (.tuple #[.slice none 0 0, .slice none 0 0, I (errP d0 d1 d2 a s0 s1 s2)]) ∧ Below w.heap.size w W') := fun w => sets_err s0 s1 s2 w he
  generalize errP d0 d1 d2 a s0 s1 s2 = er at *
  go_enter Tryz.func8, Tryz.ntmps8
  go_wp2_with fail
  obtain ⟨W, hW, hs, hB0, b0, b1, b2⟩ := three_start w #[I d0, I d1, I d2] (C9 a s0 s1 s2) (C9 b t0 t1 t2) 23 28 28
  rw [hW]
  clear hW
  refine (HC.out _).mono ?_
  rintro e w1 ⟨rfl, hT⟩
  go_wp2
  go_ret2
  exact ⟨rfl, then_below hB0 hT⟩

set_option maxRecDepth 100000 in
set_option maxHeartbeats 4000000 in
theorem apart_err2 {d0 d1 d2 : Int} {a : Bx} {s0 s1 s2 : Bool} {b : Bx} (t0 t1 t2 : Bool) (w : World) (hm : mayD d0 d1 d2) (ha : mayP d0 d1 d2 a s0 s1 s2) (he : (errP d0 d1 d2 b t0 t1 t2 != 0) = true) :
    Calls Tryz.prog 8 #[A3 d0 d1 d2, P9 a s0 s1 s2, P9 b t0 t1 t2] w fun e W' => e = .returned (.tuple #[.bool false, I (errP d0 d1 d2 b t0 t1 t2)]) ∧ Below w.heap.size w W' := by
  have HA : Hid (∀ w, Calls Tryz.prog 4 #[A3 d0 d1 d2, P9 a s0 s1 s2] w fun e W' => ∃ u v, e = .returned (.tuple #[u, v, I 0]) ∧ SetR W' w.heap.size u (midW d0 d1 d2 a) ∧ SetR W' w.heap.size v (cabsW d0 d1 d2 a s0 s1 s2) ∧ Below w.heap.size w W') := fun w => sets_ok w hm ha
  have HC : Hid (∀ w, Calls Tryz.prog 4 #[A3 d0 d1 d2, P9 b t0 t1 t2] w fun e W' => e = .returned (.tuple #[.slice none 0 0, .slice none 0 0, I (errP d0 d1 d2 b t0 t1 t2)]) ∧ Below w.heap.size w W') := fun w => sets_err t0 t1 t2 w he
  generalize errP d0 d1 d2 b t0 t1 t2 = er at *
  clear hm ha
  go_enter Tryz.func8, Tryz.ntmps8
  go_wp2_with fail
  obtain ⟨W, hW, hs, hB0, b0, b1, b2⟩ := three_start w #[I d0, I d1, I d2] (C9 a s0 s1 s2) (C9 b t0 t1 t2) 23 28 28
  rw [hW]
  clear hW
  refine (HA.out _).mono ?_
  rintro e w1 ⟨u, v, rfl, _, _, hT⟩
  obtain ⟨c0, c1, c2, hz⟩ := b0.three hT
  obtain ⟨⟨x0, x1, x2⟩, ⟨x3, x4, x5⟩, ⟨x6, x7, x8⟩, hz1⟩ := b2.nine hT
  go_wp2_with fail
  refine (HC.out _).mono ?_
  rintro e w2 ⟨rfl, hT2⟩
  go_wp2
  go_ret2
  exact ⟨rfl, then_below (then_below hB0 hT) hT2⟩

set_option maxRecDepth 100000 in
set_option maxHeartbeats 4000000 in
theorem apart_ok {d0 d1 d2 : Int} {a : Bx} {s0 s1 s2 : Bool} {b : Bx} {t0 t1 t2 : Bool} (w : World) (hm : mayD d0 d1 d2) (ha : mayP d0 d1 d2 a s0 s1 s2) (hb : mayP d0 d1 d2 b t0 t1 t2) :
    Calls Tryz.prog 8 #[A3 d0 d1 d2, P9 a s0 s1 s2, P9 b t0 t1 t2] w fun e W' => e = .returned (.tuple #[.bool (apartB d0 d1 d2 a s0 s1 s2 b t0 t1 t2), I 0]) ∧ Below w.heap.size w W' := by
  have HA : Hid (∀ w, Calls Tryz.prog 4 #[A3 d0 d1 d2, P9 a s0 s1 s2] w fun e W' => ∃ u v, e = .returned (.tuple #[u, v, I 0]) ∧ SetR W' w.heap.size u (midW d0 d1 d2 a) ∧ SetR W' w.heap.size v (cabsW d0 d1 d2 a s0 s1 s2) ∧ Below w.heap.size w W') := fun w => sets_ok w hm ha
  have HB : Hid (∀ w, Calls Tryz.prog 4 #[A3 d0 d1 d2, P9 b t0 t1 t2] w fun e W' => ∃ u v, e = .returned (.tuple #[u, v, I 0]) ∧ SetR W' w.heap.size u (midW d0 d1 d2 b) ∧ SetR W' w.heap.size v (cabsW d0 d1 d2 b t0 t1 t2) ∧ Below w.heap.size w W') := fun w => sets_ok w hm hb
  have HM : Hid (∀ w u v b1 b2, SetR w b1 u (midW d0 d1 d2 a) → SetR w b2 v (midW d0 d1 d2 b) → Calls Tryz.prog 24 #[A3 d0 d1 d2, .func (.func 18) #[] #[], u, v] w fun e W' => e = .returned (.tuple #[.bool (anyB (midW d0 d1 d2 a) (midW d0 d1 d2 b)), I 0]) ∧ Below w.heap.size w W') := fun w u v b1 b2 hu hv => pmeet_mid a b w hm hu hv
  have HL : Hid (∀ w u v b1 b2, SetR w b1 u (cabsW d0 d1 d2 a s0 s1 s2) → SetR w b2 v (cabsW d0 d1 d2 b t0 t1 t2) → Calls Tryz.prog 24 #[A3 d0 d1 d2, .func (.func 25) #[] #[], u, v] w fun e W' => e = .returned (.tuple #[.bool (anyB (cabsW d0 d1 d2 a s0 s1 s2) (cabsW d0 d1 d2 b t0 t1 t2)), I 0]) ∧ Below w.heap.size w W') := fun w u v b1 b2 hu hv => pmeet_cab a s0 s1 s2 b t0 t1 t2 w hm hu hv
  unfold apartB
  generalize anyB (cabsW d0 d1 d2 a s0 s1 s2) (cabsW d0 d1 d2 b t0 t1 t2) = ans2 at *
  generalize anyB (midW d0 d1 d2 a) (midW d0 d1 d2 b) = ans1 at *
  generalize midW d0 d1 d2 a = S1 at *
  generalize midW d0 d1 d2 b = S2 at *
  generalize cabsW d0 d1 d2 a s0 s1 s2 = S3 at *
  generalize cabsW d0 d1 d2 b t0 t1 t2 = S4 at *
  clear hm ha hb
  go_enter Tryz.func8, Tryz.ntmps8
  go_wp2_with fail
  obtain ⟨W, hW, hs, hB0, b0, b1, b2⟩ := three_start w #[I d0, I d1, I d2] (C9 a s0 s1 s2) (C9 b t0 t1 t2) 23 28 28
  rw [hW]
  clear hW
  refine (HA.out _).mono ?_
  rintro e w1 ⟨u, v, rfl, hu, hv, hT⟩
  obtain ⟨c0, c1, c2, hz⟩ := b0.three hT
  obtain ⟨⟨x0, x1, x2⟩, ⟨x3, x4, x5⟩, ⟨x6, x7, x8⟩, hz1⟩ := b2.nine hT
  go_wp2_with fail
  refine (HB.out _).mono ?_
  rintro e w2 ⟨u2, v2, rfl, hu2, hv2, hT2⟩
  have hu := hu.later hT2
  have hv := hv.later hT2
  have hT := then_below hT hT2
  clear hT2 c0 c1 c2 hz x0 x1 x2 x3 x4 x5 x6 x7 x8 hz1
  obtain ⟨c0, c1, c2, hz⟩ := b0.three hT
  go_wp2_with fail
  refine (HM.out _ _ _ _ _ hu hu2).mono ?_
  rintro e w3 ⟨rfl, hT3⟩
  have hv := hv.later hT3
  have hv2 := hv2.later hT3
  have hT := then_below hT hT3
  clear hT3 c0 c1 c2 hz hu hu2
  obtain ⟨c0, c1, c2, hz⟩ := b0.three hT
  go_wp2_with fail
  refine (HL.out _ _ _ _ _ hv hv2).mono ?_
  rintro e w4 ⟨rfl, hT4⟩
  have hB := then_below (then_below hB0 hT) hT4
  clear hT4 c0 c1 c2 hz hv hv2 hT b0 b1 b2 hB0
  cases ans1
  · go_wp2
    go_ret2
    exact ⟨by simp, hB⟩
  · go_wp2
    go_ret2
    exact ⟨by simp, hB⟩

set_option maxRecDepth 100000 in
set_option maxHeartbeats 4000000 in
theorem passes_err {d0 d1 d2 : Int} {b : Bx} (t0 t1 t2 : Bool) (w : World) (he : (errP d0 d1 d2 b t0 t1 t2 != 0) = true) :
    Calls Tryz.prog 6 #[A3 d0 d1 d2, P9 b t0 t1 t2] w fun e W' => e = .returned (.tuple #[.slice none 0 0, I (errP d0 d1 d2 b t0 t1 t2)]) ∧ Below w.heap.size w W' := by
  have HC : Hid (∀ w, Calls Tryz.prog 10 #[A3 d0 d1 d2, P9 b t0 t1 t2] w fun e W' => e = .returned (I (errP d0 d1 d2 b t0 t1 t2)) ∧ Below w.heap.size w W') := fun w => pcheck_calls d0 d1 d2 b t0 t1 t2 w
  generalize errP d0 d1 d2 b t0 t1 t2 = er at *
  go_enter Tryz.func6, Tryz.ntmps6
  go_wp2_with fail
  obtain ⟨W, hW, hB0, b0, b1⟩ := two_start w #[I d0, I d1, I d2] (C9 b t0 t1 t2) 23 28
  rw [hW]
  clear hW
  refine (HC.out _).mono ?_
  rintro e w1 ⟨rfl, hT⟩
  go_wp2
  go_ret2
  exact ⟨rfl, then_below hB0 hT⟩

set_option maxRecDepth 100000 in
set_option maxHeartbeats 4000000 in
theorem passes_ok {d0 d1 d2 : Int} {b : Bx} {t0 t1 t2 : Bool} (w : World) (hTab : TabOk w) (hm : mayD d0 d1 d2) (hp : mayP d0 d1 d2 b t0 t1 t2) :
    Calls Tryz.prog 6 #[A3 d0 d1 d2, P9 b t0 t1 t2] w fun e W' => ∃ v, e = .returned (.tuple #[v, I 0]) ∧ Lst W' w.heap.size v (passL d0 d1 d2 b t0 t1 t2) ∧ Below w.heap.size w W' := by
  have hN := N_bd hm
  have HC : Hid (∀ w, Calls Tryz.prog 10 #[A3 d0 d1 d2, P9 b t0 t1 t2] w fun e W' => e = .returned (I 0) ∧ Below w.heap.size w W') := fun w => by have := pcheck_calls d0 d1 d2 b t0 t1 t2 w; rwa [errP_ok hm hp] at this
  have HA : Hid (∀ w, Calls Tryz.prog 14 #[A3 d0 d1 d2, P9 b t0 t1 t2] w fun e W' => ∃ u, e = .returned (.tuple #[u, I 0]) ∧ SetR W' w.heap.size u (midW d0 d1 d2 b) ∧ Below w.heap.size w W') := fun w => midSet_calls t0 t1 t2 w hm hp.1
  have HE : Hid (∀ w, Calls Tryz.prog 17 #[A3 d0 d1 d2, P9 b t0 t1 t2] w fun e W' => ∃ u, e = .returned (.tuple #[u, I 0]) ∧ SetR W' w.heap.size u (endsW d0 d1 d2 b t0 t1 t2) ∧ Below w.heap.size w W') := fun w => endSet_calls w hm hp
  have HN : Hid (∀ w, Calls Tryz.prog 18 #[A3 d0 d1 d2] w fun e W' => e = .returned (.tuple #[I (d0 * d1 * d2), I 0]) ∧ Below w.heap.size w W') := fun w => many_yes w hm
  have HL : Hid (∀ w u v b1 b2, SetR w b1 u (endsW d0 d1 d2 b t0 t1 t2) → SetR w b2 v (midW d0 d1 d2 b) → Calls Tryz.prog 19 #[I (d0 * d1 * d2), u, v] w fun e W' => ∃ v, e = .returned (.tuple #[v, I 0]) ∧ SetR W' w.heap.size v (passW d0 d1 d2 b t0 t1 t2) ∧ Below w.heap.size w W') := fun w u v b1 b2 hu hv => by
    have := less_calls w hu.wds hv.wds (d0 * d1 * d2)
    rw [pass_less hm] at this
    rw [show errAll (d0 * d1 * d2) [endsW d0 d1 d2 b t0 t1 t2, midW d0 d1 d2 b] = 0 from errAll_both (setOf_err (by omega) (by omega) _) (setOf_err (by omega) (by omega) _)] at this
    exact this
  have HI : Hid (∀ w u b1, TabOk w → SetR w b1 u (passW d0 d1 d2 b t0 t1 t2) → Calls Tryz.prog 20 #[I (d0 * d1 * d2), u] w fun e W' => ∃ v, e = .returned (.tuple #[v, I 0]) ∧ Lst W' w.heap.size v (passL d0 d1 d2 b t0 t1 t2) ∧ Below w.heap.size w W') := fun w u b1 ht hu => by
    have := list_calls w ht hu.wds (d0 * d1 * d2)
    rw [pass_list hm] at this
    rw [show errAll (d0 * d1 * d2) [passW d0 d1 d2 b t0 t1 t2] = 0 from setOf_err (by omega) (by omega) _] at this
    exact this
  clear hm hp hN
  generalize passL d0 d1 d2 b t0 t1 t2 = X at *
  generalize passW d0 d1 d2 b t0 t1 t2 = S1 at *
  generalize endsW d0 d1 d2 b t0 t1 t2 = S2 at *
  generalize midW d0 d1 d2 b = S3 at *
  generalize d0 * d1 * d2 = N at *
  go_enter Tryz.func6, Tryz.ntmps6
  go_wp2_with fail
  obtain ⟨W, hW, hB0, b0, b1⟩ := two_start w #[I d0, I d1, I d2] (C9 b t0 t1 t2) 23 28
  rw [hW]
  clear hW
  refine (HC.out _).mono ?_
  rintro e w1 ⟨rfl, hT⟩
  obtain ⟨c0, c1, c2, hz⟩ := b0.three hT
  obtain ⟨⟨x0, x1, x2⟩, ⟨x3, x4, x5⟩, ⟨x6, x7, x8⟩, hz1⟩ := b1.nine hT
  go_wp2_with fail
  refine (HA.out _).mono ?_
  rintro e w2 ⟨u, rfl, hu, hT2⟩
  have hT := then_below hT hT2
  clear hT2 c0 c1 c2 hz x0 x1 x2 x3 x4 x5 x6 x7 x8 hz1
  obtain ⟨c0, c1, c2, hz⟩ := b0.three hT
  obtain ⟨⟨x0, x1, x2⟩, ⟨x3, x4, x5⟩, ⟨x6, x7, x8⟩, hz1⟩ := b1.nine hT
  go_wp2_with fail
  refine (HE.out _).mono ?_
  rintro e w3 ⟨u2, rfl, hu2, hT2⟩
  have hu := hu.later hT2
  have hT := then_below hT hT2
  clear hT2 c0 c1 c2 hz x0 x1 x2 x3 x4 x5 x6 x7 x8 hz1
  obtain ⟨c0, c1, c2, hz⟩ := b0.three hT
  go_wp2_with fail
  refine (HN.out _).mono ?_
  rintro e w4 ⟨rfl, hT2⟩
  have hu := hu.later hT2
  have hu2 := hu2.later hT2
  have hT := then_below hT hT2
  clear hT2 c0 c1 c2 hz
  go_wp2_with fail
  refine (HL.out _ _ _ _ _ hu2 hu).mono ?_
  rintro e w5 ⟨u3, rfl, hu3, hT2⟩
  have hT := then_below hT hT2
  have hB := then_below hB0 hT
  have hTab := hTab.later hB
  clear hT2 hT hu hu2 hB0 b0 b1
  go_wp2_with fail
  refine (HI.out _ _ _ hTab hu3).mono ?_
  rintro e w6 ⟨v, rfl, hv, hT⟩
  go_wp2
  go_ret2
  exact ⟨_, rfl, hv.weak hB.size, then_below hB hT⟩

end Go.Proofs.YtbobfhoimhambaaGreatDoor
