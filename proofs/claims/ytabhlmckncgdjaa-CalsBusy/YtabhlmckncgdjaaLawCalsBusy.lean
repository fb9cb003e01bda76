/-
  CalsBusy: the walk. (Written by tools/gen/lawcals_busy.py.)
-/
import Derived.Test.YtabhlmckncgdjaaPart28
namespace Go.Proofs.Ytabhlmckncgdjaa
open Go Go.RowKit Go.Shelf

attribute [local go_sem] Oper.semAt_some ext_const

set_option maxRecDepth 100000 in
set_option maxHeartbeats 32000000 in
theorem calsBusy_walk (a b c f t f' t' : Int) (w : World) {n l : Value} {ns ls : List (List Slt)} (hN : Yl w n ns) (hL : Yl w l ls) (bN : Lids ns) (bL : Lids ls) :
    Calls Try.prog 8 #[Y5 a b c n l, S2 f t, S2 f' t'] w fun e W' => e = .returned (.bool true) ∧ Below w.heap.size w W' := by
  obtain ⟨W, hW, hB, hK, hS, hS2⟩ := three_boxes w (K5 a b c n l) (C2 f t) (C2 f' t') 26 36 36
  have HW : Hid (((w.alloc (.cells (K5 a b c n l) 26)).alloc (.cells (C2 f t) 36)).alloc (.cells (C2 f' t') 36) = W) := hW
  have hT0 := Below.refl W.heap.size W
  have HA : Hid (∀ w, Calls Try.prog 11 #[] w fun e W' => e = .returned (.bool true) ∧ Below w.heap.size w W') := aliveY_calls
  have HG : Hid (∀ w1, Below W.heap.size W w1 → Calls Try.prog 13 #[Y5 a b c n l] w1 fun e W' => e = .returned (.bool (greatB ns ls)) ∧ Below w1.heap.size w1 W') := fun w1 hb => great_calls w1 (hN.later (then_below hB hb)) (hL.later (then_below hB hb)) bN bL
  have HY : Hid (∀ x y w1, Below W.heap.size W w1 → Calls Try.prog 25 #[Y5 a b c n l, S2 x y] w1 fun e W' => ∃ u v, e = .returned (.tuple #[u, v, I (busyE a b c ns ls x y)]) ∧ SetR W' w1.heap.size u (wordsE (busyE a b c ns ls x y) ns.length (busyP ns x y)) ∧ SetR W' w1.heap.size v (wordsE (busyE a b c ns ls x y) ls.length (busyP ls x y)) ∧ Below w1.heap.size w1 W') := fun x y w1 hb => yBusy_calls w1 (hN.later (then_below hB hb)) (hL.later (then_below hB hb))
  obtain ⟨an, cn, rfl, _⟩ := hN.form
  obtain ⟨al, cl, rfl, _⟩ := hL.form
  obtain ⟨gr, hgr⟩ : ∃ gr, gr = greatB ns ls := ⟨_, rfl⟩
  rw [← hgr] at HG
  have HSm : Hid (gr = false → Small ns ls) := fun h => small_of bN bL (hgr ▸ h)
  clear hW hN hL bN bL hgr
  go_enter Try.func8, Try.ntmps8
  go_wp2_with fail
  rw [HW.out]
  refine (HA.out _).mono ?_
  rintro e w1 ⟨rfl, hB1⟩
  have hT1 := hB1
  obtain ⟨p0, p1, p2, p3, p4, hz⟩ := hK.yard hT1
  obtain ⟨s0, s1, hz1⟩ := hS.pair hT1
  obtain ⟨t0, t1, hz2⟩ := hS2.pair hT1
  go_wp2_with fail
  refine (HG.out _ hT1).mono ?_
  rintro e w2 ⟨rfl, hB2⟩
  clear p0 p1 p2 p3 p4 hz s0 s1 hz1 t0 t1 hz2
  have hT2 := then_below hT1 hB2
  obtain ⟨p0, p1, p2, p3, p4, hz⟩ := hK.yard hT2
  obtain ⟨s0, s1, hz1⟩ := hS.pair hT2
  obtain ⟨t0, t1, hz2⟩ := hS2.pair hT2
  cases gr
  · have hsm := HSm.out rfl
    have hb1 := hsm.nodes
    have hb2 := hsm.links
    clear HSm hsm
    obtain ⟨e1, he1⟩ : ∃ e1, e1 = busyE a b c ns ls f t := ⟨_, rfl⟩
    obtain ⟨e2, he2⟩ : ∃ e2, e2 = busyE a b c ns ls f' t' := ⟨_, rfl⟩
    have HY1 : Hid (∀ w1, Below W.heap.size W w1 → Calls Try.prog 25 #[Y5 a b c (.slice an ns.length cn) (.slice al ls.length cl), S2 f t] w1 fun e W' => ∃ u v, e = .returned (.tuple #[u, v, I e1]) ∧ SetR W' w1.heap.size u (wordsE e1 ns.length (busyP ns f t)) ∧ SetR W' w1.heap.size v (wordsE e1 ls.length (busyP ls f t)) ∧ Below w1.heap.size w1 W') := fun w1 hb => by rw [he1]; exact HY.out f t w1 hb
    have HY2 : Hid (∀ w1, Below W.heap.size W w1 → Calls Try.prog 25 #[Y5 a b c (.slice an ns.length cn) (.slice al ls.length cl), S2 f' t'] w1 fun e W' => ∃ u v, e = .returned (.tuple #[u, v, I e2]) ∧ SetR W' w1.heap.size u (wordsE e2 ns.length (busyP ns f' t')) ∧ SetR W' w1.heap.size v (wordsE e2 ls.length (busyP ls f' t')) ∧ Below w1.heap.size w1 W') := fun w1 hb => by rw [he2]; exact HY.out f' t' w1 hb
    have HE1 : Hid (e1 = 0 → mayY a b c ns ls ∧ maySp f t) := fun h => busyE_zero (he1 ▸ h)
    have HE2 : Hid (e2 = 0 → mayY a b c ns ls ∧ maySp f' t') := fun h => busyE_zero (he2 ▸ h)
    clear he1 he2
    go_wp2_with fail
    refine (HY1.out _ hT2).mono ?_
    rintro e w3 ⟨u1, v1, rfl, hu, hv, hB3⟩
    clear p0 p1 p2 p3 p4 hz s0 s1 hz1 t0 t1 hz2
    have hT3 := then_below hT2 hB3
    have U1 : Hid (Wds w3 u1 (wordsE e1 ns.length (busyP ns f t))) := hu.wds
    have V1 : Hid (Wds w3 v1 (wordsE e1 ls.length (busyP ls f t))) := hv.wds
    obtain ⟨p0, p1, p2, p3, p4, hz⟩ := hK.yard hT3
    obtain ⟨s0, s1, hz1⟩ := hS.pair hT3
    obtain ⟨t0, t1, hz2⟩ := hS2.pair hT3
    clear hu hv
    go_wp2_with fail
    refine (HY2.out _ hT3).mono ?_
    rintro e w4 ⟨u2, v2, rfl, hu, hv, hB4⟩
    clear p0 p1 p2 p3 p4 hz s0 s1 hz1 t0 t1 hz2
    have hT4 := then_below hT3 hB4
    replace U1 : Hid (Wds w4 u1 (wordsE e1 ns.length (busyP ns f t))) := U1.out.later hB4
    replace V1 : Hid (Wds w4 v1 (wordsE e1 ls.length (busyP ls f t))) := V1.out.later hB4
    have U2 : Hid (Wds w4 u2 (wordsE e2 ns.length (busyP ns f' t'))) := hu.wds
    have V2 : Hid (Wds w4 v2 (wordsE e2 ls.length (busyP ls f' t'))) := hv.wds
    obtain ⟨p0, p1, p2, p3, p4, hz⟩ := hK.yard hT4
    obtain ⟨s0, s1, hz1⟩ := hS.pair hT4
    obtain ⟨t0, t1, hz2⟩ := hS2.pair hT4
    clear hu hv
    by_cases h1 : e1 = 0
    · by_cases h2 : e2 = 0
      · subst h1 h2
        obtain ⟨hm, hs1⟩ := HE1.out rfl
        obtain ⟨_, hs2⟩ := HE2.out rfl
        have hbd := hm.bd
        have hmn := hm.2.2.2.1
        have hml := hm.2.2.2.2
        have hl3 : (ls.length : Int) = 3 * (ns.length : Int) := by omega
        rw [wordsE, if_pos rfl] at U1 V1 U2 V2
        have HT : Hid (∀ w, Calls Try.prog 33 #[S2 f t, S2 f' t'] w fun e W' => e = .returned (.tuple #[.bool (wiT f t f' t'), I 0]) ∧ Below w.heap.size w W') := fun w => twithin_yes w hs1 hs2
        have N1 : Hid (∀ w u v, Wds w u (setOf ns.length (busyP ns f t)) → Wds w v (setOf ns.length (busyP ns f' t')) → Calls Try.prog 32 #[I ns.length, u, v] w fun e W' => e = .returned (.tuple #[.bool (inSB ns.length (setOf ns.length (busyP ns f t)) (setOf ns.length (busyP ns f' t'))), I 0]) ∧ Below w.heap.size w W') := fun w u v h1 h2 => by
          have := in_calls w h1 h2 ns.length
          rwa [both_ok (by omega) (by omega)] at this
        have N2 : Hid (∀ w u v, Wds w u (setOf ls.length (busyP ls f t)) → Wds w v (setOf ls.length (busyP ls f' t')) → Calls Try.prog 32 #[I (3 * (ns.length : Int)), u, v] w fun e W' => e = .returned (.tuple #[.bool (inSB ls.length (setOf ls.length (busyP ls f t)) (setOf ls.length (busyP ls f' t'))), I 0]) ∧ Below w.heap.size w W') := fun w u v h1 h2 => by
          have := in_calls w h1 h2 ls.length
          rw [both_ok (by omega) (by omega)] at this
          rw [← hl3]
          exact this
        have Q1 : Hid (wiT f t f' t' = true → inSB ns.length (setOf ns.length (busyP ns f t)) (setOf ns.length (busyP ns f' t')) = true) := fun h => busy_in hmn (by omega) (by omega) hs1.2.1 ((wiT_iff hs1.2.1).1 h)
        have Q2 : Hid (wiT f t f' t' = true → inSB ls.length (setOf ls.length (busyP ls f t)) (setOf ls.length (busyP ls f' t')) = true) := fun h => busy_in hml (by omega) (by omega) hs1.2.1 ((wiT_iff hs1.2.1).1 h)
        have O1 : Hid (∀ w u v, t = f' → Wds w u (setOf ns.length (busyP ns f t)) → Wds w v (setOf ns.length (busyP ns f' t')) → Calls Try.prog 31 #[I ns.length, u, v] w fun e W' => ∃ r, e = .returned (.tuple #[r, I 0]) ∧ SetR W' w.heap.size r (setOf ns.length (busyP ns f t')) ∧ Below w.heap.size w W') := fun w u v h h1 h2 => by
          have := or_calls w h1 h2 ns.length
          rw [both_ok (by omega) (by omega)] at this
          subst h
          rwa [busy_or hmn (by omega) (by omega) hs1.2.1 hs2.2.1] at this
        have O2 : Hid (∀ w u v, t = f' → Wds w u (setOf ls.length (busyP ls f t)) → Wds w v (setOf ls.length (busyP ls f' t')) → Calls Try.prog 31 #[I (3 * (ns.length : Int)), u, v] w fun e W' => ∃ r, e = .returned (.tuple #[r, I 0]) ∧ SetR W' w.heap.size r (setOf ls.length (busyP ls f t')) ∧ Below w.heap.size w W') := fun w u v h h1 h2 => by
          have := or_calls w h1 h2 ls.length
          rw [both_ok (by omega) (by omega)] at this
          subst h
          rw [busy_or hml (by omega) (by omega) hs1.2.1 hs2.2.1] at this
          rw [← hl3]
          exact this
        have HY3 : Hid (∀ w1, t = f' → Below W.heap.size W w1 → Calls Try.prog 25 #[Y5 a b c (.slice an ns.length cn) (.slice al ls.length cl), S2 f t'] w1 fun e W' => ∃ u v, e = .returned (.tuple #[u, v, I 0]) ∧ SetR W' w1.heap.size u (setOf ns.length (busyP ns f t')) ∧ SetR W' w1.heap.size v (setOf ls.length (busyP ls f t')) ∧ Below w1.heap.size w1 W') := fun w1 h hb => by
          have := HY.out f t' w1 hb
          have hE : busyE a b c ns ls f t' = 0 := by rw [busyE, if_pos (mayYB_iff.2 hm), if_pos ((maySpB_iff f t').2 ⟨hs1.1, by have := hs1.2.1; have := hs2.2.1; omega, hs2.2.2⟩)]
          rwa [hE, wordsE, if_pos rfl, wordsE, if_pos rfl] at this
        have HL1 : (setOf ns.length (busyP ns f t')).length ≤ 100000 := by rw [setOf_len, Int.toNat_natCast]; omega
        have HL2 : (setOf ls.length (busyP ls f t')).length ≤ 100000 := by rw [setOf_len, Int.toNat_natCast]; omega
        have hnn : ns.length ≤ 200 := hb1
        clear hb1 hb2 hm hbd hmn hml hl3 HE1 HE2 hs1 hs2 HY HY1 HY2
        generalize inSB ns.length (setOf ns.length (busyP ns f t)) (setOf ns.length (busyP ns f' t')) = q1 at *
        generalize inSB ls.length (setOf ls.length (busyP ls f t)) (setOf ls.length (busyP ls f' t')) = q2 at *
        generalize setOf (ns.length : Int) (busyP ns f t) = a1 at *
        generalize setOf (ls.length : Int) (busyP ls f t) = a2 at *
        generalize setOf (ns.length : Int) (busyP ns f' t') = c1 at *
        generalize setOf (ls.length : Int) (busyP ls f' t') = c2 at *
        generalize setOf (ns.length : Int) (busyP ns f t') = d1 at *
        generalize setOf (ls.length : Int) (busyP ls f t') = d2 at *
        generalize wiT f t f' t' = wi at *
        generalize ns.length = nn at *
        generalize ls.length = ll at *
        replace U1 : Hid (Wds w4 u1 a1) := U1
        replace V1 : Hid (Wds w4 v1 a2) := V1
        replace U2 : Hid (Wds w4 u2 c1) := U2
        replace V2 : Hid (Wds w4 v2 c2) := V2
        go_wp2_with fail
        refine (HT.out _).mono ?_
        rintro e w5 ⟨rfl, hB5⟩
        clear p0 p1 p2 p3 p4 hz s0 s1 hz1 t0 t1 hz2
        have hT5 := then_below hT4 hB5
        replace U1 : Hid (Wds w5 u1 a1) := U1.out.later hB5
        replace V1 : Hid (Wds w5 v1 a2) := V1.out.later hB5
        replace U2 : Hid (Wds w5 u2 c1) := U2.out.later hB5
        replace V2 : Hid (Wds w5 v2 c2) := V2.out.later hB5
        obtain ⟨p0, p1, p2, p3, p4, hz⟩ := hK.yard hT5
        obtain ⟨s0, s1, hz1⟩ := hS.pair hT5
        obtain ⟨t0, t1, hz2⟩ := hS2.pair hT5
        go_wp2_with fail
        refine (N1.out _ _ _ U1.out U2.out).mono ?_
        rintro e w6 ⟨rfl, hB6⟩
        clear p0 p1 p2 p3 p4 hz s0 s1 hz1 t0 t1 hz2
        have hT6 := then_below hT5 hB6
        replace U1 : Hid (Wds w6 u1 a1) := U1.out.later hB6
        replace V1 : Hid (Wds w6 v1 a2) := V1.out.later hB6
        replace U2 : Hid (Wds w6 u2 c1) := U2.out.later hB6
        replace V2 : Hid (Wds w6 v2 c2) := V2.out.later hB6
        obtain ⟨p0, p1, p2, p3, p4, hz⟩ := hK.yard hT6
        obtain ⟨s0, s1, hz1⟩ := hS.pair hT6
        obtain ⟨t0, t1, hz2⟩ := hS2.pair hT6
        go_wp2_with fail
        refine (N2.out _ _ _ V1.out V2.out).mono ?_
        rintro e w7 ⟨rfl, hB7⟩
        clear p0 p1 p2 p3 p4 hz s0 s1 hz1 t0 t1 hz2
        have hT7 := then_below hT6 hB7
        replace U1 : Hid (Wds w7 u1 a1) := U1.out.later hB7
        replace V1 : Hid (Wds w7 v1 a2) := V1.out.later hB7
        replace U2 : Hid (Wds w7 u2 c1) := U2.out.later hB7
        replace V2 : Hid (Wds w7 v2 c2) := V2.out.later hB7
        obtain ⟨p0, p1, p2, p3, p4, hz⟩ := hK.yard hT7
        obtain ⟨s0, s1, hz1⟩ := hS.pair hT7
        obtain ⟨t0, t1, hz2⟩ := hS2.pair hT7
        cases wi
        · clear Q1 Q2
          by_cases h3 : t = f'
          · have h3b : (t != f') = false := by simpa using h3
            have H3 : Hid (t = f') := h3
            clear h3
            go_wp2_with fail
            refine (HY3.out _ H3.out hT7).mono ?_
            rintro e w8 ⟨u3, v3, rfl, hu, hv, hB8⟩
            clear p0 p1 p2 p3 p4 hz s0 s1 hz1 t0 t1 hz2
            have hT8 := then_below hT7 hB8
            replace U1 : Hid (Wds w8 u1 a1) := U1.out.later hB8
            replace V1 : Hid (Wds w8 v1 a2) := V1.out.later hB8
            replace U2 : Hid (Wds w8 u2 c1) := U2.out.later hB8
            replace V2 : Hid (Wds w8 v2 c2) := V2.out.later hB8
            have U3 : Hid (Wds w8 u3 d1) := hu.wds
            have V3 : Hid (Wds w8 v3 d2) := hv.wds
            obtain ⟨p0, p1, p2, p3, p4, hz⟩ := hK.yard hT8
            obtain ⟨s0, s1, hz1⟩ := hS.pair hT8
            obtain ⟨t0, t1, hz2⟩ := hS2.pair hT8
            clear hu hv
            go_wp2_with fail
            refine (O1.out _ _ _ H3.out U1.out U2.out).mono ?_
            rintro e w9 ⟨u4, rfl, hu, hB9⟩
            clear p0 p1 p2 p3 p4 hz s0 s1 hz1 t0 t1 hz2
            have hT9 := then_below hT8 hB9
            replace U1 : Hid (Wds w9 u1 a1) := U1.out.later hB9
            replace V1 : Hid (Wds w9 v1 a2) := V1.out.later hB9
            replace U2 : Hid (Wds w9 u2 c1) := U2.out.later hB9
            replace V2 : Hid (Wds w9 v2 c2) := V2.out.later hB9
            replace U3 : Hid (Wds w9 u3 d1) := U3.out.later hB9
            replace V3 : Hid (Wds w9 v3 d2) := V3.out.later hB9
            have U4 : Hid (Wds w9 u4 d1) := hu.wds
            obtain ⟨p0, p1, p2, p3, p4, hz⟩ := hK.yard hT9
            obtain ⟨s0, s1, hz1⟩ := hS.pair hT9
            obtain ⟨t0, t1, hz2⟩ := hS2.pair hT9
            clear hu
            go_wp2_with fail
            refine (O2.out _ _ _ H3.out V1.out V2.out).mono ?_
            rintro e w10 ⟨v4, rfl, hv, hB10⟩
            clear p0 p1 p2 p3 p4 hz s0 s1 hz1 t0 t1 hz2
            have hT10 := then_below hT9 hB10
            replace U1 : Hid (Wds w10 u1 a1) := U1.out.later hB10
            replace V1 : Hid (Wds w10 v1 a2) := V1.out.later hB10
            replace U2 : Hid (Wds w10 u2 c1) := U2.out.later hB10
            replace V2 : Hid (Wds w10 v2 c2) := V2.out.later hB10
            replace U3 : Hid (Wds w10 u3 d1) := U3.out.later hB10
            replace V3 : Hid (Wds w10 v3 d2) := V3.out.later hB10
            replace U4 : Hid (Wds w10 u4 d1) := U4.out.later hB10
            have V4 : Hid (Wds w10 v4 d2) := hv.wds
            obtain ⟨p0, p1, p2, p3, p4, hz⟩ := hK.yard hT10
            obtain ⟨s0, s1, hz1⟩ := hS.pair hT10
            obtain ⟨t0, t1, hz2⟩ := hS2.pair hT10
            clear hv
            have R1 : Hid (Calls Try.prog 29 #[u3, u4] w10 fun e W' => e = .returned (.bool true) ∧ Below w10.heap.size w10 W') := by
              have := sameS_calls w10 U3.out U4.out HL1
              rwa [decide_eq_true rfl] at this
            go_wp2_with fail
            refine (R1.out).mono ?_
            rintro e w11 ⟨rfl, hB11⟩
            clear p0 p1 p2 p3 p4 hz s0 s1 hz1 t0 t1 hz2
            have hT11 := then_below hT10 hB11
            replace U1 : Hid (Wds w11 u1 a1) := U1.out.later hB11
            replace V1 : Hid (Wds w11 v1 a2) := V1.out.later hB11
            replace U2 : Hid (Wds w11 u2 c1) := U2.out.later hB11
            replace V2 : Hid (Wds w11 v2 c2) := V2.out.later hB11
            replace U3 : Hid (Wds w11 u3 d1) := U3.out.later hB11
            replace V3 : Hid (Wds w11 v3 d2) := V3.out.later hB11
            replace U4 : Hid (Wds w11 u4 d1) := U4.out.later hB11
            replace V4 : Hid (Wds w11 v4 d2) := V4.out.later hB11
            obtain ⟨p0, p1, p2, p3, p4, hz⟩ := hK.yard hT11
            obtain ⟨s0, s1, hz1⟩ := hS.pair hT11
            obtain ⟨t0, t1, hz2⟩ := hS2.pair hT11
            have R2 : Hid (Calls Try.prog 29 #[v3, v4] w11 fun e W' => e = .returned (.bool true) ∧ Below w11.heap.size w11 W') := by
              have := sameS_calls w11 V3.out V4.out HL2
              rwa [decide_eq_true rfl] at this
            go_wp2_with fail
            refine (R2.out).mono ?_
            rintro e w12 ⟨rfl, hB12⟩
            clear p0 p1 p2 p3 p4 hz s0 s1 hz1 t0 t1 hz2
            have hT12 := then_below hT11 hB12
            replace U1 : Hid (Wds w12 u1 a1) := U1.out.later hB12
            replace V1 : Hid (Wds w12 v1 a2) := V1.out.later hB12
            replace U2 : Hid (Wds w12 u2 c1) := U2.out.later hB12
            replace V2 : Hid (Wds w12 v2 c2) := V2.out.later hB12
            replace U3 : Hid (Wds w12 u3 d1) := U3.out.later hB12
            replace V3 : Hid (Wds w12 v3 d2) := V3.out.later hB12
            replace U4 : Hid (Wds w12 u4 d1) := U4.out.later hB12
            replace V4 : Hid (Wds w12 v4 d2) := V4.out.later hB12
            obtain ⟨p0, p1, p2, p3, p4, hz⟩ := hK.yard hT12
            obtain ⟨s0, s1, hz1⟩ := hS.pair hT12
            obtain ⟨t0, t1, hz2⟩ := hS2.pair hT12
            go_wp2
            go_ret
            exact ⟨rfl, then_below hB hT12⟩
          · have h3b : (t != f') = true := by simpa using h3
            clear h3
            go_wp2
            go_ret
            exact ⟨rfl, then_below hB hT7⟩
        · have E1 := Q1.out rfl
          have E2 := Q2.out rfl
          subst E1 E2
          clear Q1 Q2
          by_cases h3 : t = f'
          · have h3b : (t != f') = false := by simpa using h3
            have H3 : Hid (t = f') := h3
            clear h3
            go_wp2_with fail
            refine (HY3.out _ H3.out hT7).mono ?_
            rintro e w8 ⟨u3, v3, rfl, hu, hv, hB8⟩
            clear p0 p1 p2 p3 p4 hz s0 s1 hz1 t0 t1 hz2
            have hT8 := then_below hT7 hB8
            replace U1 : Hid (Wds w8 u1 a1) := U1.out.later hB8
            replace V1 : Hid (Wds w8 v1 a2) := V1.out.later hB8
            replace U2 : Hid (Wds w8 u2 c1) := U2.out.later hB8
            replace V2 : Hid (Wds w8 v2 c2) := V2.out.later hB8
            have U3 : Hid (Wds w8 u3 d1) := hu.wds
            have V3 : Hid (Wds w8 v3 d2) := hv.wds
            obtain ⟨p0, p1, p2, p3, p4, hz⟩ := hK.yard hT8
            obtain ⟨s0, s1, hz1⟩ := hS.pair hT8
            obtain ⟨t0, t1, hz2⟩ := hS2.pair hT8
            clear hu hv
            go_wp2_with fail
            refine (O1.out _ _ _ H3.out U1.out U2.out).mono ?_
            rintro e w9 ⟨u4, rfl, hu, hB9⟩
            clear p0 p1 p2 p3 p4 hz s0 s1 hz1 t0 t1 hz2
            have hT9 := then_below hT8 hB9
            replace U1 : Hid (Wds w9 u1 a1) := U1.out.later hB9
            replace V1 : Hid (Wds w9 v1 a2) := V1.out.later hB9
            replace U2 : Hid (Wds w9 u2 c1) := U2.out.later hB9
            replace V2 : Hid (Wds w9 v2 c2) := V2.out.later hB9
            replace U3 : Hid (Wds w9 u3 d1) := U3.out.later hB9
            replace V3 : Hid (Wds w9 v3 d2) := V3.out.later hB9
            have U4 : Hid (Wds w9 u4 d1) := hu.wds
            obtain ⟨p0, p1, p2, p3, p4, hz⟩ := hK.yard hT9
            obtain ⟨s0, s1, hz1⟩ := hS.pair hT9
            obtain ⟨t0, t1, hz2⟩ := hS2.pair hT9
            clear hu
            go_wp2_with fail
            refine (O2.out _ _ _ H3.out V1.out V2.out).mono ?_
            rintro e w10 ⟨v4, rfl, hv, hB10⟩
            clear p0 p1 p2 p3 p4 hz s0 s1 hz1 t0 t1 hz2
            have hT10 := then_below hT9 hB10
            replace U1 : Hid (Wds w10 u1 a1) := U1.out.later hB10
            replace V1 : Hid (Wds w10 v1 a2) := V1.out.later hB10
            replace U2 : Hid (Wds w10 u2 c1) := U2.out.later hB10
            replace V2 : Hid (Wds w10 v2 c2) := V2.out.later hB10
            replace U3 : Hid (Wds w10 u3 d1) := U3.out.later hB10
            replace V3 : Hid (Wds w10 v3 d2) := V3.out.later hB10
            replace U4 : Hid (Wds w10 u4 d1) := U4.out.later hB10
            have V4 : Hid (Wds w10 v4 d2) := hv.wds
            obtain ⟨p0, p1, p2, p3, p4, hz⟩ := hK.yard hT10
            obtain ⟨s0, s1, hz1⟩ := hS.pair hT10
            obtain ⟨t0, t1, hz2⟩ := hS2.pair hT10
            clear hv
            have R1 : Hid (Calls Try.prog 29 #[u3, u4] w10 fun e W' => e = .returned (.bool true) ∧ Below w10.heap.size w10 W') := by
              have := sameS_calls w10 U3.out U4.out HL1
              rwa [decide_eq_true rfl] at this
            go_wp2_with fail
            refine (R1.out).mono ?_
            rintro e w11 ⟨rfl, hB11⟩
            clear p0 p1 p2 p3 p4 hz s0 s1 hz1 t0 t1 hz2
            have hT11 := then_below hT10 hB11
            replace U1 : Hid (Wds w11 u1 a1) := U1.out.later hB11
            replace V1 : Hid (Wds w11 v1 a2) := V1.out.later hB11
            replace U2 : Hid (Wds w11 u2 c1) := U2.out.later hB11
            replace V2 : Hid (Wds w11 v2 c2) := V2.out.later hB11
            replace U3 : Hid (Wds w11 u3 d1) := U3.out.later hB11
            replace V3 : Hid (Wds w11 v3 d2) := V3.out.later hB11
            replace U4 : Hid (Wds w11 u4 d1) := U4.out.later hB11
            replace V4 : Hid (Wds w11 v4 d2) := V4.out.later hB11
            obtain ⟨p0, p1, p2, p3, p4, hz⟩ := hK.yard hT11
            obtain ⟨s0, s1, hz1⟩ := hS.pair hT11
            obtain ⟨t0, t1, hz2⟩ := hS2.pair hT11
            have R2 : Hid (Calls Try.prog 29 #[v3, v4] w11 fun e W' => e = .returned (.bool true) ∧ Below w11.heap.size w11 W') := by
              have := sameS_calls w11 V3.out V4.out HL2
              rwa [decide_eq_true rfl] at this
            go_wp2_with fail
            refine (R2.out).mono ?_
            rintro e w12 ⟨rfl, hB12⟩
            clear p0 p1 p2 p3 p4 hz s0 s1 hz1 t0 t1 hz2
            have hT12 := then_below hT11 hB12
            replace U1 : Hid (Wds w12 u1 a1) := U1.out.later hB12
            replace V1 : Hid (Wds w12 v1 a2) := V1.out.later hB12
            replace U2 : Hid (Wds w12 u2 c1) := U2.out.later hB12
            replace V2 : Hid (Wds w12 v2 c2) := V2.out.later hB12
            replace U3 : Hid (Wds w12 u3 d1) := U3.out.later hB12
            replace V3 : Hid (Wds w12 v3 d2) := V3.out.later hB12
            replace U4 : Hid (Wds w12 u4 d1) := U4.out.later hB12
            replace V4 : Hid (Wds w12 v4 d2) := V4.out.later hB12
            obtain ⟨p0, p1, p2, p3, p4, hz⟩ := hK.yard hT12
            obtain ⟨s0, s1, hz1⟩ := hS.pair hT12
            obtain ⟨t0, t1, hz2⟩ := hS2.pair hT12
            go_wp2
            go_ret
            exact ⟨rfl, then_below hB hT12⟩
          · have h3b : (t != f') = true := by simpa using h3
            clear h3
            go_wp2
            go_ret
            exact ⟨rfl, then_below hB hT7⟩
      · subst h1
        have h2b : (e2 != 0) = true := by simpa using h2
        clear h2 HE1 HE2
        go_wp2
        go_ret
        exact ⟨rfl, then_below hB hT4⟩
    · have h1b : (e1 != 0) = true := by simpa using h1
      clear h1 HE1 HE2
      go_wp2
      go_ret
      exact ⟨rfl, then_below hB hT4⟩
  · go_wp2
    go_ret
    exact ⟨rfl, then_below hB hT2⟩

end Go.Proofs.Ytabhlmckncgdjaa
