/-
  CalsApart: the walk. (Written by tools/gen/lawcals_apart.py.)
-/
import Derived.Test.YtabhlmckncgdjaaPart28
namespace Go.Proofs.Ytabhlmckncgdjaa
open Go Go.RowKit Go.Shelf

attribute [local go_sem] Oper.semAt_some ext_const

set_option maxRecDepth 100000 in
set_option maxHeartbeats 32000000 in
theorem calsApart_walk (a b c x y m f t : Int) (w : World) {n l : Value} {ns ls : List (List Slt)} (hN : Yl w n ns) (hL : Yl w l ls) (bN : Lids ns) (bL : Lids ls) :
    Calls Try.prog 7 #[Y5 a b c n l, I x, I y, I m, S2 f t] w fun e W' => e = .returned (.bool true) ∧ Below w.heap.size w W' := by
  obtain ⟨W, hW, hB, hK, hS⟩ := two_start w (K5 a b c n l) (C2 f t) 26 36
  have HW : Hid ((w.alloc (.cells (K5 a b c n l) 26)).alloc (.cells (C2 f t) 36) = W) := hW
  have hT0 := Below.refl W.heap.size W
  have HA : Hid (∀ w, Calls Try.prog 11 #[] w fun e W' => e = .returned (.bool true) ∧ Below w.heap.size w W') := aliveY_calls
  have HG : Hid (∀ w1, Below W.heap.size W w1 → Calls Try.prog 13 #[Y5 a b c n l] w1 fun e W' => e = .returned (.bool (greatB ns ls)) ∧ Below w1.heap.size w1 W') := fun w1 hb => great_calls w1 (hN.later (then_below hB hb)) (hL.later (then_below hB hb)) bN bL
  have HO : Hid (∀ ow w1, Below W.heap.size W w1 → Calls Try.prog 27 #[Y5 a b c n l, I ow, I m] w1 fun e W' => ∃ u v, e = .returned (.tuple #[u, v, I (ownE a b c ns ls m)]) ∧ SetR W' w1.heap.size u (wordsE (ownE a b c ns ls m) ns.length (ownP ns ow m)) ∧ SetR W' w1.heap.size v (wordsE (ownE a b c ns ls m) ls.length (ownP ls ow m)) ∧ Below w1.heap.size w1 W') := fun ow w1 hb => yOwned_calls w1 (hN.later (then_below hB hb)) (hL.later (then_below hB hb))
  have HY : Hid (∀ w1, Below W.heap.size W w1 → Calls Try.prog 25 #[Y5 a b c n l, S2 f t] w1 fun e W' => ∃ u v, e = .returned (.tuple #[u, v, I (busyE a b c ns ls f t)]) ∧ SetR W' w1.heap.size u (wordsE (busyE a b c ns ls f t) ns.length (busyP ns f t)) ∧ SetR W' w1.heap.size v (wordsE (busyE a b c ns ls f t) ls.length (busyP ls f t)) ∧ Below w1.heap.size w1 W') := fun w1 hb => yBusy_calls w1 (hN.later (then_below hB hb)) (hL.later (then_below hB hb))
  obtain ⟨an, cn, rfl, _⟩ := hN.form
  obtain ⟨al, cl, rfl, _⟩ := hL.form
  obtain ⟨gr, hgr⟩ : ∃ gr, gr = greatB ns ls := ⟨_, rfl⟩
  rw [← hgr] at HG
  obtain ⟨er, her⟩ : ∃ er, er = ownE a b c ns ls m := ⟨_, rfl⟩
  rw [← her] at HO
  obtain ⟨e2, he2⟩ : ∃ e2, e2 = busyE a b c ns ls f t := ⟨_, rfl⟩
  rw [← he2] at HY
  have HSm : Hid (gr = false → Small ns ls) := fun h => small_of bN bL (hgr ▸ h)
  have HE : Hid (er = 0 → mayY a b c ns ls) := fun h => (ownE_zero (her ▸ h)).1
  have HE2 : Hid (e2 = 0 → maySp f t) := fun h => (busyE_zero (he2 ▸ h)).2
  clear hW hN hL bN bL hgr her he2
  go_enter Try.func7, Try.ntmps7
  go_wp2_with fail
  rw [HW.out]
  refine (HA.out _).mono ?_
  rintro e w1 ⟨rfl, hB1⟩
  have hT1 := hB1
  obtain ⟨p0, p1, p2, p3, p4, hz⟩ := hK.yard hT1
  obtain ⟨s0, s1, hz1⟩ := hS.pair hT1
  go_wp2_with fail
  refine (HG.out _ hT1).mono ?_
  rintro e w2 ⟨rfl, hB2⟩
  clear p0 p1 p2 p3 p4 hz s0 s1 hz1
  have hT2 := then_below hT1 hB2
  obtain ⟨p0, p1, p2, p3, p4, hz⟩ := hK.yard hT2
  obtain ⟨s0, s1, hz1⟩ := hS.pair hT2
  cases gr
  · have hsm := HSm.out rfl
    have hb1 := hsm.nodes
    have hb2 := hsm.links
    clear HSm hsm
    go_wp2_with fail
    refine (HO.out x _ hT2).mono ?_
    rintro e w3 ⟨u1, v1, rfl, hu, hv, hB3⟩
    clear p0 p1 p2 p3 p4 hz s0 s1 hz1
    have hT3 := then_below hT2 hB3
    have U1 : Hid (Wds w3 u1 (wordsE er ns.length (ownP ns x m))) := hu.wds
    have V1 : Hid (Wds w3 v1 (wordsE er ls.length (ownP ls x m))) := hv.wds
    obtain ⟨p0, p1, p2, p3, p4, hz⟩ := hK.yard hT3
    obtain ⟨s0, s1, hz1⟩ := hS.pair hT3
    clear hu hv
    go_wp2_with fail
    refine (HO.out y _ hT3).mono ?_
    rintro e w4 ⟨u2, v2, rfl, hu, hv, hB4⟩
    clear p0 p1 p2 p3 p4 hz s0 s1 hz1
    have hT4 := then_below hT3 hB4
    replace U1 : Hid (Wds w4 u1 (wordsE er ns.length (ownP ns x m))) := U1.out.later hB4
    replace V1 : Hid (Wds w4 v1 (wordsE er ls.length (ownP ls x m))) := V1.out.later hB4
    have U2 : Hid (Wds w4 u2 (wordsE er ns.length (ownP ns y m))) := hu.wds
    have V2 : Hid (Wds w4 v2 (wordsE er ls.length (ownP ls y m))) := hv.wds
    obtain ⟨p0, p1, p2, p3, p4, hz⟩ := hK.yard hT4
    obtain ⟨s0, s1, hz1⟩ := hS.pair hT4
    clear hu hv
    by_cases h0 : er = 0
    · subst h0
      have hm := HE.out rfl
      have hbd := hm.bd
      have hmn := hm.2.2.2.1
      have hml := hm.2.2.2.2
      have hl3 : (ls.length : Int) = 3 * (ns.length : Int) := by omega
      rw [wordsE, if_pos rfl] at U1 V1 U2 V2
      have M1 : Hid (∀ w u v, Wds w u (setOf ns.length (ownP ns x m)) → Wds w v (setOf ns.length (ownP ns y m)) → Calls Try.prog 30 #[I ns.length, u, v] w fun e W' => e = .returned (.tuple #[.bool (meetSB ns.length (setOf ns.length (ownP ns x m)) (setOf ns.length (ownP ns y m))), I 0]) ∧ Below w.heap.size w W') := fun w u v h1 h2 => by
        have := meet_calls w h1 h2 ns.length
        rwa [both_ok (by omega) (by omega)] at this
      have M2 : Hid (∀ w u v, Wds w u (setOf ls.length (ownP ls x m)) → Wds w v (setOf ls.length (ownP ls y m)) → Calls Try.prog 30 #[I (3 * (ns.length : Int)), u, v] w fun e W' => e = .returned (.tuple #[.bool (meetSB ls.length (setOf ls.length (ownP ls x m)) (setOf ls.length (ownP ls y m))), I 0]) ∧ Below w.heap.size w W') := fun w u v h1 h2 => by
        have := meet_calls w h1 h2 ls.length
        rw [both_ok (by omega) (by omega)] at this
        rw [← hl3]
        exact this
      have N1 : Hid (∀ w u v, f ≤ m ∧ m < t → Wds w u (setOf ns.length (ownP ns x m)) → Wds w v (setOf ns.length (busyP ns f t)) → Calls Try.prog 32 #[I ns.length, u, v] w fun e W' => e = .returned (.tuple #[.bool true, I 0]) ∧ Below w.heap.size w W') := fun w u v ha h1 h2 => by
        have := in_calls w h1 h2 ns.length
        rwa [both_ok (by omega) (by omega), own_in hmn (by omega) (by omega) ha] at this
      have N2 : Hid (∀ w u v, f ≤ m ∧ m < t → Wds w u (setOf ls.length (ownP ls x m)) → Wds w v (setOf ls.length (busyP ls f t)) → Calls Try.prog 32 #[I (3 * (ns.length : Int)), u, v] w fun e W' => e = .returned (.tuple #[.bool true, I 0]) ∧ Below w.heap.size w W') := fun w u v ha h1 h2 => by
        have := in_calls w h1 h2 ls.length
        rw [both_ok (by omega) (by omega), own_in hml (by omega) (by omega) ha] at this
        rw [← hl3]
        exact this
      have Q1 : Hid (x ≠ y → meetSB ns.length (setOf ns.length (ownP ns x m)) (setOf ns.length (ownP ns y m)) = false) := fun h => apart_meet (by omega) (by omega) m h
      have Q2 : Hid (x ≠ y → meetSB ls.length (setOf ls.length (ownP ls x m)) (setOf ls.length (ownP ls y m)) = false) := fun h => apart_meet (by omega) (by omega) m h
      have hnn : ns.length ≤ 200 := hb1
      clear hb1 hb2 hm hbd hmn hml hl3 HE
      generalize meetSB ns.length (setOf ns.length (ownP ns x m)) (setOf ns.length (ownP ns y m)) = q1 at *
      generalize meetSB ls.length (setOf ls.length (ownP ls x m)) (setOf ls.length (ownP ls y m)) = q2 at *
      generalize setOf (ns.length : Int) (ownP ns x m) = a1 at *
      generalize setOf (ls.length : Int) (ownP ls x m) = a2 at *
      generalize setOf (ns.length : Int) (ownP ns y m) = c1 at *
      generalize setOf (ls.length : Int) (ownP ls y m) = c2 at *
      have HY2 : Hid (e2 = 0 → wordsE e2 ns.length (busyP ns f t) = setOf ns.length (busyP ns f t) ∧ wordsE e2 ls.length (busyP ls f t) = setOf ls.length (busyP ls f t)) := fun h => by rw [h]; exact ⟨if_pos rfl, if_pos rfl⟩
      generalize wordsE e2 ns.length (busyP ns f t) = d1 at *
      generalize wordsE e2 ls.length (busyP ls f t) = d2 at *
      generalize setOf (ns.length : Int) (busyP ns f t) = g1 at *
      generalize setOf (ls.length : Int) (busyP ls f t) = g2 at *
      generalize ns.length = nn at *
      generalize ls.length = ll at *
      replace U1 : Hid (Wds w4 u1 a1) := U1
      replace V1 : Hid (Wds w4 v1 a2) := V1
      replace U2 : Hid (Wds w4 u2 c1) := U2
      replace V2 : Hid (Wds w4 v2 c2) := V2
      go_wp2_with fail
      refine (M1.out _ _ _ U1.out U2.out).mono ?_
      rintro e w5 ⟨rfl, hB5⟩
      clear p0 p1 p2 p3 p4 hz s0 s1 hz1
      have hT5 := then_below hT4 hB5
      replace U1 : Hid (Wds w5 u1 a1) := U1.out.later hB5
      replace V1 : Hid (Wds w5 v1 a2) := V1.out.later hB5
      replace U2 : Hid (Wds w5 u2 c1) := U2.out.later hB5
      replace V2 : Hid (Wds w5 v2 c2) := V2.out.later hB5
      obtain ⟨p0, p1, p2, p3, p4, hz⟩ := hK.yard hT5
      obtain ⟨s0, s1, hz1⟩ := hS.pair hT5
      go_wp2_with fail
      refine (M2.out _ _ _ V1.out V2.out).mono ?_
      rintro e w6 ⟨rfl, hB6⟩
      clear p0 p1 p2 p3 p4 hz s0 s1 hz1
      have hT6 := then_below hT5 hB6
      replace U1 : Hid (Wds w6 u1 a1) := U1.out.later hB6
      replace V1 : Hid (Wds w6 v1 a2) := V1.out.later hB6
      replace U2 : Hid (Wds w6 u2 c1) := U2.out.later hB6
      replace V2 : Hid (Wds w6 v2 c2) := V2.out.later hB6
      obtain ⟨p0, p1, p2, p3, p4, hz⟩ := hK.yard hT6
      obtain ⟨s0, s1, hz1⟩ := hS.pair hT6
      by_cases hxy : x = y
      · have hne : (x != y) = false := by simpa using hxy
        clear hxy
        go_wp2_with fail
        refine (HY.out _ hT6).mono ?_
        rintro e w7 ⟨u3, v3, rfl, hu, hv, hB7⟩
        clear p0 p1 p2 p3 p4 hz s0 s1 hz1
        have hT7 := then_below hT6 hB7
        replace U1 : Hid (Wds w7 u1 a1) := U1.out.later hB7
        replace V1 : Hid (Wds w7 v1 a2) := V1.out.later hB7
        replace U2 : Hid (Wds w7 u2 c1) := U2.out.later hB7
        replace V2 : Hid (Wds w7 v2 c2) := V2.out.later hB7
        have U3 : Hid (Wds w7 u3 d1) := hu.wds
        have V3 : Hid (Wds w7 v3 d2) := hv.wds
        obtain ⟨p0, p1, p2, p3, p4, hz⟩ := hK.yard hT7
        obtain ⟨s0, s1, hz1⟩ := hS.pair hT7
        clear hu hv
        by_cases h2 : e2 = 0
        · subst h2
          obtain ⟨E1, E2⟩ := HY2.out rfl
          subst E1 E2
          have hsp := HE2.out rfl
          clear HE2
          by_cases h3 : m < f
          · go_wp2
            go_ret
            exact ⟨rfl, then_below hB hT7⟩
          · have h3b : decide (m < f) = false := decide_eq_false h3
            by_cases h4 : t ≤ m
            · clear h3
              go_wp2
              go_ret
              exact ⟨rfl, then_below hB hT7⟩
            · have h4b : decide (t ≤ m) = false := decide_eq_false h4
              have hin : Hid (f ≤ m ∧ m < t) := ⟨by omega, by omega⟩
              clear h3 h4 hsp
              go_wp2_with fail
              refine (N1.out _ _ _ hin.out U1.out U3.out).mono ?_
              rintro e w8 ⟨rfl, hB8⟩
              clear p0 p1 p2 p3 p4 hz s0 s1 hz1
              have hT8 := then_below hT7 hB8
              replace U1 : Hid (Wds w8 u1 a1) := U1.out.later hB8
              replace V1 : Hid (Wds w8 v1 a2) := V1.out.later hB8
              replace U2 : Hid (Wds w8 u2 c1) := U2.out.later hB8
              replace V2 : Hid (Wds w8 v2 c2) := V2.out.later hB8
              replace U3 : Hid (Wds w8 u3 d1) := U3.out.later hB8
              replace V3 : Hid (Wds w8 v3 d2) := V3.out.later hB8
              obtain ⟨p0, p1, p2, p3, p4, hz⟩ := hK.yard hT8
              obtain ⟨s0, s1, hz1⟩ := hS.pair hT8
              go_wp2_with fail
              refine (N2.out _ _ _ hin.out V1.out V3.out).mono ?_
              rintro e w9 ⟨rfl, hB9⟩
              clear p0 p1 p2 p3 p4 hz s0 s1 hz1
              have hT9 := then_below hT8 hB9
              replace U1 : Hid (Wds w9 u1 a1) := U1.out.later hB9
              replace V1 : Hid (Wds w9 v1 a2) := V1.out.later hB9
              replace U2 : Hid (Wds w9 u2 c1) := U2.out.later hB9
              replace V2 : Hid (Wds w9 v2 c2) := V2.out.later hB9
              replace U3 : Hid (Wds w9 u3 d1) := U3.out.later hB9
              replace V3 : Hid (Wds w9 v3 d2) := V3.out.later hB9
              obtain ⟨p0, p1, p2, p3, p4, hz⟩ := hK.yard hT9
              obtain ⟨s0, s1, hz1⟩ := hS.pair hT9
              go_wp2
              go_ret
              exact ⟨rfl, then_below hB hT9⟩
        · have h2b : (e2 != 0) = true := by simpa using h2
          clear h2
          go_wp2
          go_ret
          exact ⟨rfl, then_below hB hT7⟩
      · have hne : (x != y) = true := by simpa using hxy
        have E1 := Q1.out hxy
        have E2 := Q2.out hxy
        subst E1 E2
        clear hxy
        go_wp2_with fail
        refine (HY.out _ hT6).mono ?_
        rintro e w7 ⟨u3, v3, rfl, hu, hv, hB7⟩
        clear p0 p1 p2 p3 p4 hz s0 s1 hz1
        have hT7 := then_below hT6 hB7
        replace U1 : Hid (Wds w7 u1 a1) := U1.out.later hB7
        replace V1 : Hid (Wds w7 v1 a2) := V1.out.later hB7
        replace U2 : Hid (Wds w7 u2 c1) := U2.out.later hB7
        replace V2 : Hid (Wds w7 v2 c2) := V2.out.later hB7
        have U3 : Hid (Wds w7 u3 d1) := hu.wds
        have V3 : Hid (Wds w7 v3 d2) := hv.wds
        obtain ⟨p0, p1, p2, p3, p4, hz⟩ := hK.yard hT7
        obtain ⟨s0, s1, hz1⟩ := hS.pair hT7
        clear hu hv
        by_cases h2 : e2 = 0
        · subst h2
          obtain ⟨E1, E2⟩ := HY2.out rfl
          subst E1 E2
          have hsp := HE2.out rfl
          clear HE2
          by_cases h3 : m < f
          · go_wp2
            go_ret
            exact ⟨rfl, then_below hB hT7⟩
          · have h3b : decide (m < f) = false := decide_eq_false h3
            by_cases h4 : t ≤ m
            · clear h3
              go_wp2
              go_ret
              exact ⟨rfl, then_below hB hT7⟩
            · have h4b : decide (t ≤ m) = false := decide_eq_false h4
              have hin : Hid (f ≤ m ∧ m < t) := ⟨by omega, by omega⟩
              clear h3 h4 hsp
              go_wp2_with fail
              refine (N1.out _ _ _ hin.out U1.out U3.out).mono ?_
              rintro e w8 ⟨rfl, hB8⟩
              clear p0 p1 p2 p3 p4 hz s0 s1 hz1
              have hT8 := then_below hT7 hB8
              replace U1 : Hid (Wds w8 u1 a1) := U1.out.later hB8
              replace V1 : Hid (Wds w8 v1 a2) := V1.out.later hB8
              replace U2 : Hid (Wds w8 u2 c1) := U2.out.later hB8
              replace V2 : Hid (Wds w8 v2 c2) := V2.out.later hB8
              replace U3 : Hid (Wds w8 u3 d1) := U3.out.later hB8
              replace V3 : Hid (Wds w8 v3 d2) := V3.out.later hB8
              obtain ⟨p0, p1, p2, p3, p4, hz⟩ := hK.yard hT8
              obtain ⟨s0, s1, hz1⟩ := hS.pair hT8
              go_wp2_with fail
              refine (N2.out _ _ _ hin.out V1.out V3.out).mono ?_
              rintro e w9 ⟨rfl, hB9⟩
              clear p0 p1 p2 p3 p4 hz s0 s1 hz1
              have hT9 := then_below hT8 hB9
              replace U1 : Hid (Wds w9 u1 a1) := U1.out.later hB9
              replace V1 : Hid (Wds w9 v1 a2) := V1.out.later hB9
              replace U2 : Hid (Wds w9 u2 c1) := U2.out.later hB9
              replace V2 : Hid (Wds w9 v2 c2) := V2.out.later hB9
              replace U3 : Hid (Wds w9 u3 d1) := U3.out.later hB9
              replace V3 : Hid (Wds w9 v3 d2) := V3.out.later hB9
              obtain ⟨p0, p1, p2, p3, p4, hz⟩ := hK.yard hT9
              obtain ⟨s0, s1, hz1⟩ := hS.pair hT9
              go_wp2
              go_ret
              exact ⟨rfl, then_below hB hT9⟩
        · have h2b : (e2 != 0) = true := by simpa using h2
          clear h2
          go_wp2
          go_ret
          exact ⟨rfl, then_below hB hT7⟩
    · have h0b : (er != 0) = true := by simpa using h0
      clear h0 HE
      go_wp2
      go_ret
      exact ⟨rfl, then_below hB hT4⟩
  · go_wp2
    go_ret
    exact ⟨rfl, then_below hB hT2⟩

end Go.Proofs.Ytabhlmckncgdjaa
