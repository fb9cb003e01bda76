/-
  free.Soon: what it answers, for every input.
-/
import Derived.Test.YtldcagjnngkabaaGreatDoorPart29
import Derived.Test.YtldcagjnngkabaaGreatDoorPart16
namespace Go.Proofs.YtldcagjnngkabaaGreatDoor
open Go Go.RowKit Go.Shelf

attribute [local go_sem] Oper.semAt_some ext_const

/-- From and long may be asked. -/
def askB (f long : Int) : Bool := decide (0 ≤ f) && (decide (f < 1099511627776) && decide (1 ≤ long))
theorem askB_iff {f long : Int} : askB f long = true ↔ (0 ≤ f ∧ f < 1099511627776) ∧ 1 ≤ long := by simp [askB, and_assoc]
/-- What is told behind the checks of calendars and place: of the sets' error, whether from and long may be, whether nothing bad is taken, and the moment. -/
def goE (ea : Int) (ask r : Bool) (o : Option Int) : Int := if ea = 0 then (if ask then (if r then errO o else 6) else 2) else ea
def goV (ea : Int) (ask r : Bool) (o : Option Int) : Int := if ea = 0 then (if ask then (if r then valO o else 0) else 0) else 0
theorem go_0 {ea : Int} (h : ea ≠ 0) (ask r : Bool) (o : Option Int) : goE ea ask r o = ea ∧ goV ea ask r o = 0 := by simp [goE, goV, h]
theorem go_1 (r : Bool) (o : Option Int) : goE 0 false r o = 2 ∧ goV 0 false r o = 0 := by simp [goE, goV]
theorem go_2 (o : Option Int) : goE 0 true false o = 6 ∧ goV 0 true false o = 0 := by simp [goE, goV]
theorem go_3 (o : Option Int) : goE 0 true true o = errO o ∧ goV 0 true true o = valO o := by simp [goE, goV]

set_option maxRecDepth 100000 in
set_option maxHeartbeats 8000000 in
theorem soon_bad {a b c f long : Int} {n l vm vl : Value} {ns ls : List (List Slt)} {bx : Bx} (t0 t1 t2 : Bool) (w : World) (hN : Yl w n ns) (hL : Yl w l ls) (hm : ¬ mayY a b c ns ls) :
    Calls Tryz.prog 10 #[Y5 a b c n l, P9 bx t0 t1 t2, vm, vl, I f, I long] w fun e W' => e = .returned (.tuple #[I 0, I 8]) ∧ Below w.heap.size w W' := by
  obtain ⟨W, hW, hB0, k0, k1⟩ := two_start w (K5 a b c n l) (C9 bx t0 t1 t2) 26 43
  have HW : Hid ((w.alloc (.cells (K5 a b c n l) 26)).alloc (.cells (C9 bx t0 t1 t2) 43) = W) := hW
  have HC : Hid (Calls Tryz.prog 28 #[Y5 a b c n l] W fun e W' => e = .returned (I 8) ∧ Below W.heap.size W W') := by
    have := ycheck_calls (a := a) (b := b) (c := c) W (hN.later hB0) (hL.later hB0)
    rwa [errY_no hm] at this
  obtain ⟨_, _, rfl, _⟩ := hN.form
  obtain ⟨_, _, rfl, _⟩ := hL.form
  clear hW hN hL hm
  generalize ns.length = n1 at *
  generalize ls.length = n2 at *
  obtain ⟨p0, p1, p2, p3, p4, hz⟩ := k0.five
  go_enter Tryz.func10, Tryz.ntmps10
  go_wp2_with fail
  rw [HW.out]
  refine HC.out.mono ?_
  rintro e w1 ⟨rfl, hT⟩
  go_wp2
  go_ret2
  exact ⟨rfl, then_below hB0 hT⟩

set_option maxRecDepth 100000 in
set_option maxHeartbeats 8000000 in
theorem soon_perr {a b c f long : Int} {n l vm vl : Value} {ns ls : List (List Slt)} {bx : Bx} (t0 t1 t2 : Bool) (w : World) (hN : Yl w n ns) (hL : Yl w l ls) (hm : mayY a b c ns ls) (he : (errP a b c bx t0 t1 t2 != 0) = true) :
    Calls Tryz.prog 10 #[Y5 a b c n l, P9 bx t0 t1 t2, vm, vl, I f, I long] w fun e W' => e = .returned (.tuple #[I 0, I (errP a b c bx t0 t1 t2)]) ∧ Below w.heap.size w W' := by
  obtain ⟨W, hW, hB0, k0, k1⟩ := two_start w (K5 a b c n l) (C9 bx t0 t1 t2) 26 43
  have HW : Hid ((w.alloc (.cells (K5 a b c n l) 26)).alloc (.cells (C9 bx t0 t1 t2) 43) = W) := hW
  have HC : Hid (Calls Tryz.prog 28 #[Y5 a b c n l] W fun e W' => e = .returned (I 0) ∧ Below W.heap.size W W') := ycheck_yes W (hN.later hB0) (hL.later hB0) hm
  have HS : Hid (∀ w, Calls Tryz.prog 29 #[A3 a b c, P9 bx t0 t1 t2] w fun e W' => e = .returned (.tuple #[V2 (.slice none 0 0) (.slice none 0 0), I (errP a b c bx t0 t1 t2)]) ∧ Below w.heap.size w W') := fun w => taken_err t0 t1 t2 w he
  obtain ⟨_, _, rfl, _⟩ := hN.form
  obtain ⟨_, _, rfl, _⟩ := hL.form
  clear hW hN hL hm
  generalize errP a b c bx t0 t1 t2 = er at *
  generalize ns.length = n1 at *
  generalize ls.length = n2 at *
  obtain ⟨p0, p1, p2, p3, p4, hz⟩ := k0.five
  go_enter Tryz.func10, Tryz.ntmps10
  go_wp2_with fail
  rw [HW.out]
  refine HC.out.mono ?_
  rintro e w1 ⟨rfl, hT⟩
  clear p0 p1 p2 p3 p4 hz
  obtain ⟨p0, p1, p2, p3, p4, hz⟩ := k0.yard hT
  obtain ⟨⟨x0, x1, x2⟩, ⟨x3, x4, x5⟩, ⟨x6, x7, x8⟩, hz1⟩ := k1.nine hT
  go_wp2_with fail
  refine (HS.out _).mono ?_
  rintro e w2 ⟨rfl, hT2⟩
  clear p0 p1 p2 p3 p4 hz x0 x1 x2 x3 x4 x5 x6 x7 x8 hz1
  go_wp2
  go_ret2
  exact ⟨rfl, then_alloc (then_below hB0 (then_below hT hT2)) _⟩

set_option maxRecDepth 100000 in
set_option maxHeartbeats 8000000 in
theorem soon_go {a b c f long : Int} {n l vm vl : Value} {ns ls : List (List Slt)} {mw lw : List Nat} {bx : Bx} {t0 t1 t2 : Bool} (w : World) (hTab : TabOk w) (hN : Yl w n ns) (hL : Yl w l ls) (hM : Wds w vm mw) (hK : Wds w vl lw) (hm : mayY a b c ns ls) (hp : mayP a b c bx t0 t1 t2) (htot : (slotsY ns ls).length ≤ 50000) :
    Calls Tryz.prog 10 #[Y5 a b c n l, P9 bx t0 t1 t2, vm, vl, I f, I long] w fun e W' => e = .returned (.tuple #[
      I (goV (avoE (a * b * c) (midW a b c bx) (cabsW a b c bx t0 t1 t2) mw lw) (askB f long) (farB (a * b * c) (midW a b c bx) (cabsW a b c bx t0 t1 t2) mw lw) (soonT ns ls (midP a b c bx) (cabP a b c bx t0 t1 t2) f long)),
      I (goE (avoE (a * b * c) (midW a b c bx) (cabsW a b c bx t0 t1 t2) mw lw) (askB f long) (farB (a * b * c) (midW a b c bx) (cabsW a b c bx t0 t1 t2) mw lw) (soonT ns ls (midP a b c bx) (cabP a b c bx t0 t1 t2) f long))]) ∧ Below w.heap.size w W' := by
  obtain ⟨h1, h2, h3⟩ := hm.bd
  have hd := hm.1
  have hNN := hm.2.1
  obtain ⟨W, hW, hB0, k0, k1⟩ := two_start w (K5 a b c n l) (C9 bx t0 t1 t2) 26 43
  have HW : Hid ((w.alloc (.cells (K5 a b c n l) 26)).alloc (.cells (C9 bx t0 t1 t2) 43) = W) := hW
  have HC : Hid (Calls Tryz.prog 28 #[Y5 a b c n l] W fun e W' => e = .returned (I 0) ∧ Below W.heap.size W W') := ycheck_yes W (hN.later hB0) (hL.later hB0) hm
  have HS : Hid (∀ w, Calls Tryz.prog 29 #[A3 a b c, P9 bx t0 t1 t2] w fun e W' => ∃ u v, e = .returned (.tuple #[V2 u v, I 0]) ∧ SetR W' w.heap.size u (midW a b c bx) ∧ SetR W' w.heap.size v (cabsW a b c bx t0 t1 t2) ∧ Below w.heap.size w W') := fun w => taken_ok w hd hp
  have HA : Hid (∀ w' u v, Below W.heap.size W w' → Wds w' u (midW a b c bx) → Wds w' v (cabsW a b c bx t0 t1 t2) → Calls Tryz.prog 30 #[A3 a b c, V2 u v, V2 vm vl] w' fun e W' => e = .returned (.tuple #[.bool (farB (a * b * c) (midW a b c bx) (cabsW a b c bx t0 t1 t2) mw lw), I (avoE (a * b * c) (midW a b c bx) (cabsW a b c bx t0 t1 t2) mw lw)]) ∧ Below w'.heap.size w' W') :=
    fun w' u v hb q1 q2 => fapart_calls w' hd q1 q2 (hM.later (then_below hB0 hb)) (hK.later (then_below hB0 hb))
  have HT : Hid (0 ≤ f ∧ f < 1099511627776 → ∀ w', Below W.heap.size W w' → Calls Tryz.prog 31 #[Y5 a b c n l, I f] w' fun e W' => ∃ v, e = .returned (.tuple #[v, I 0]) ∧ Lst W' w'.heap.size v (timesT f (slotsY ns ls)) ∧ Below w'.heap.size w' W') :=
    fun hx w' hb => wtimes_yes w' (hN.later (then_below hB0 hb)) (hL.later (then_below hB0 hb)) hm hx (by omega)
  have HO : Hid (∀ w' u v, Below W.heap.size W w' → Wds w' u (midW a b c bx) → Wds w' v (cabsW a b c bx t0 t1 t2) → Calls Tryz.prog 32 #[Y5 a b c n l, V2 u v] w' fun e W' => ∃ r S, e = .returned (.tuple #[r, I 0]) ∧ So W' w'.heap.size r S ∧ S.Perm (pickS ns (midP a b c bx) ++ pickS ls (cabP a b c bx t0 t1 t2)) ∧ upS S ∧ Below w'.heap.size w' W') := fun w' u v hb q1 q2 => by
    refine slotsOf_calls _ _ w' (hTab.later (then_below hB0 hb)) (hN.later (then_below hB0 hb)) (hL.later (then_below hB0 hb)) ?_ ?_ h1 (by omega) (by omega) (by omega) htot
    · have e : midW a b c bx = setOf ns.length (midP a b c bx) := by rw [midW, ← hNN]; rfl
      rwa [e] at q1
    · have e : cabsW a b c bx t0 t1 t2 = setOf ls.length (cabP a b c bx t0 t1 t2) := by rw [cabsW, ← hm.2.2.1]; rfl
      rwa [e] at q2
  have htl : (timesT f (slotsY ns ls)).length ≤ 60000 := by
    have := gathT_len (timeP f) (slotsY ns ls) [f]
    unfold timesT
    simp at this
    omega
  have HZ : Hid (1 ≤ long → 0 ≤ f ∧ f < 1099511627776 → ∀ w' vt vs S, Its w' vt (timesT f (slotsY ns ls)) → Ss w' vs S → S.Perm (pickS ns (midP a b c bx) ++ pickS ls (cabP a b c bx t0 t1 t2)) → upS S → Calls Tryz.prog 33 #[vt, vs, I long] w' fun e W' => e = .returned (.tuple #[I (valO (soonT ns ls (midP a b c bx) (cabP a b c bx t0 t1 t2) f long)), I (errO (soonT ns ls (midP a b c bx) (cabP a b c bx t0 t1 t2) f long))]) ∧ W' = w') :=
    fun hl hf w' vt vs S q1 q2 q3 q4 => by
      rw [← soon_first hm.2.2.2.1 hm.2.2.2.2 hl q3]
      refine soonest_calls w' q1 q2 (timesT_up _ _) q4 hl (by omega) fun m hmm => ?_
      rcases timesT_mem.1 hmm with h | h
      · omega
      · omega
  obtain ⟨_, _, rfl, _⟩ := hN.form
  obtain ⟨_, _, rfl, _⟩ := hL.form
  obtain ⟨_, _, _, rfl⟩ := hM.form
  obtain ⟨_, _, _, rfl⟩ := hK.form
  clear hW hN hL hM hK hm hp htot hTab h1 h2 h3 hd hNN htl
  generalize farB (a * b * c) (midW a b c bx) (cabsW a b c bx t0 t1 t2) mw lw = r at *
  generalize avoE (a * b * c) (midW a b c bx) (cabsW a b c bx t0 t1 t2) mw lw = ea at *
  generalize soonT ns ls (midP a b c bx) (cabP a b c bx t0 t1 t2) f long = o at *
  generalize pickS ns (midP a b c bx) ++ pickS ls (cabP a b c bx t0 t1 t2) = PS at *
  generalize midW a b c bx = S1 at *
  generalize cabsW a b c bx t0 t1 t2 = S2' at *
  generalize timesT f (slotsY ns ls) = ts at *
  generalize ns.length = n1 at *
  generalize ls.length = n2 at *
  have HAsk : Hid (askB f long = true → (0 ≤ f ∧ f < 1099511627776) ∧ 1 ≤ long) := askB_iff.1
  have HNot : Hid (askB f long = false → f < 0 ∨ (0 ≤ f ∧ 1099511627776 ≤ f) ∨ ((0 ≤ f ∧ f < 1099511627776) ∧ long < 1)) := fun h => by
    by_cases q1 : f < 0
    · exact .inl q1
    · by_cases q2 : 1099511627776 ≤ f
      · exact .inr (.inl ⟨by omega, q2⟩)
      · refine .inr (.inr ⟨by omega, ?_⟩)
        by_cases q3 : long < 1
        · exact q3
        · rw [askB_iff.2 ⟨by omega, by omega⟩] at h; cases h
  generalize askB f long = ask at *
  obtain ⟨gv, hgv⟩ : ∃ gv, gv = goV ea ask r o := ⟨_, rfl⟩
  obtain ⟨ge, hge⟩ : ∃ ge, ge = goE ea ask r o := ⟨_, rfl⟩
  have HGv : Hid (gv = goV ea ask r o) := hgv
  have HGe : Hid (ge = goE ea ask r o) := hge
  rw [← hgv, ← hge]
  clear hgv hge
  obtain ⟨p0, p1, p2, p3, p4, hz⟩ := k0.five
  go_enter Tryz.func10, Tryz.ntmps10
  go_wp2_with fail
  rw [HW.out]
  refine HC.out.mono ?_
  rintro e w1 ⟨rfl, hT⟩
  clear p0 p1 p2 p3 p4 hz
  obtain ⟨p0, p1, p2, p3, p4, hz⟩ := k0.yard hT
  obtain ⟨⟨x0, x1, x2⟩, ⟨x3, x4, x5⟩, ⟨x6, x7, x8⟩, hz1⟩ := k1.nine hT
  go_wp2_with fail
  refine (HS.out _).mono ?_
  rintro e w2 ⟨u, v, rfl, hu, hv, hT2⟩
  obtain ⟨a1, m1, e1, rfl⟩ := hu.slice
  obtain ⟨a2, m2, e2, rfl⟩ := hv.slice
  have hT := then_below hT hT2
  obtain ⟨W2, hW2, hB2, k2⟩ := one_start w2 #[.slice a1 m1 e1, .slice a2 m2 e2] 71
  have HW2 : Hid (w2.alloc (.cells #[.slice a1 m1 e1, .slice a2 m2 e2] 71) = W2) := hW2
  have HU : Hid (Wds W2 (.slice a1 m1 e1) S1) := hu.wds.later hB2
  have HV : Hid (Wds W2 (.slice a2 m2 e2) S2') := hv.wds.later hB2
  clear hu hv hW2 hT2 p0 p1 p2 p3 p4 hz x0 x1 x2 x3 x4 x5 x6 x7 x8 hz1
  obtain ⟨p0, p1, p2, p3, p4, hz⟩ := k0.yard hT
  have hT := then_below hT hB2
  go_wp2_with fail
  rw [HW2.out]
  refine (HA.out _ _ _ hT HU.out HV.out).mono ?_
  rintro e w3 ⟨rfl, hT3⟩
  have HU : Hid (Wds w3 (.slice a1 m1 e1) S1) := HU.out.later hT3
  have HV : Hid (Wds w3 (.slice a2 m2 e2) S2') := HV.out.later hT3
  have k2 := k2.later hT3
  have hT := then_below hT hT3
  clear p0 p1 p2 p3 p4 hz hT3
  by_cases h0 : ea = 0
  · subst h0
    cases ask
    · obtain ⟨q1, q2⟩ := go_1 r o
      have q1 : ge = 2 := HGe.out.trans q1
      have q2 : gv = 0 := HGv.out.trans q2
      subst q1 q2
      have hnot := HNot.out rfl
      clear HGe HGv HAsk HNot HT HZ HO
      rcases hnot with h | ⟨h, h'⟩ | ⟨⟨h, h'⟩, h''⟩
      · have d1 : decide (f < 0) = true := decide_eq_true h
        go_wp2
        go_ret2
        exact ⟨rfl, then_below hB0 hT⟩
      · have d1 : decide (f < 0) = false := decide_eq_false (by omega)
        have d2 : decide (1099511627776 ≤ f) = true := decide_eq_true h'
        go_wp2
        go_ret2
        exact ⟨rfl, then_below hB0 hT⟩
      · have d1 : decide (f < 0) = false := decide_eq_false (by omega)
        have d2 : decide (1099511627776 ≤ f) = false := decide_eq_false (by omega)
        have d3 : decide (long < 1) = true := decide_eq_true h''
        go_wp2
        go_ret2
        exact ⟨rfl, then_below hB0 hT⟩
    · obtain ⟨hf, hl⟩ := HAsk.out rfl
      have d1 : decide (f < 0) = false := decide_eq_false (by omega)
      have d2 : decide (1099511627776 ≤ f) = false := decide_eq_false (by omega)
      have d3 : decide (long < 1) = false := decide_eq_false (by omega)
      have HT : Hid (∀ w', Below W.heap.size W w' → Calls Tryz.prog 31 #[Y5 a b c _ _, I f] w' fun e W' => ∃ v, e = .returned (.tuple #[v, I 0]) ∧ Lst W' w'.heap.size v ts ∧ Below w'.heap.size w' W') := HT.out hf
      have HZ : Hid (∀ w' vt vs S, Its w' vt ts → Ss w' vs S → S.Perm PS → upS S → Calls Tryz.prog 33 #[vt, vs, I long] w' fun e W' => e = .returned (.tuple #[I (valO o), I (errO o)]) ∧ W' = w') := HZ.out hl hf
      clear HNot HAsk
      cases r
      · obtain ⟨q1, q2⟩ := go_2 o
        have q1 : ge = 6 := HGe.out.trans q1
        have q2 : gv = 0 := HGv.out.trans q2
        subst q1 q2
        clear HGe HGv HT HZ HO
        go_wp2
        go_ret2
        exact ⟨rfl, then_below hB0 hT⟩
      · obtain ⟨q1, q2⟩ := go_3 o
        have q1 : ge = errO o := HGe.out.trans q1
        have q2 : gv = valO o := HGv.out.trans q2
        rw [← q1, ← q2] at HZ
        clear q1 q2 HGe HGv hf hl
        obtain ⟨p0, p1, p2, p3, p4, hz⟩ := k0.yard hT
        go_wp2_with fail
        refine (HT.out _ hT).mono ?_
        rintro e w4 ⟨vt, rfl, ht, hT4⟩
        have HI : Hid (Its w4 vt ts) := ht.its
        obtain ⟨a3, c3, rfl, _⟩ := ht.its.view
        have HU : Hid (Wds w4 (.slice a1 m1 e1) S1) := HU.out.later hT4
        have HV : Hid (Wds w4 (.slice a2 m2 e2) S2') := HV.out.later hT4
        have k2 := k2.later hT4
        have hT := then_below hT hT4
        clear p0 p1 p2 p3 p4 hz hT4 ht
        obtain ⟨p0, p1, p2, p3, p4, hz⟩ := k0.yard hT
        obtain ⟨y0, y1, hz2⟩ := k2.both (Below.refl _ _)
        generalize ts.length = tl at *
        go_wp2_with fail
        refine (HO.out _ _ _ hT HU.out HV.out).mono ?_
        rintro e w5 ⟨vr, S, rfl, hS, hP, hup, hT5⟩
        obtain ⟨a4, c4, rfl, hSs⟩ := hS.ss.form
        have HZ1 : Hid (Calls Tryz.prog 33 #[.slice a3 tl c3, .slice a4 S.length c4, I long] w5 fun e W' => e = .returned (.tuple #[I gv, I ge]) ∧ W' = w5) := HZ.out _ _ _ S (HI.out.later hT5) hSs hP hup
        have hT := then_below hT hT5
        clear p0 p1 p2 p3 p4 hz hT5 hS hSs hP hup HZ y0 y1 hz2
        generalize S.length = sl at *
        go_wp2_with fail
        refine HZ1.out.mono ?_
        rintro e w6 ⟨rfl, hw⟩
        subst hw
        go_wp2
        go_ret2
        exact ⟨rfl, then_below hB0 hT⟩
  · obtain ⟨q1, q2⟩ := go_0 h0 ask r o
    have z1 : ge = ea := HGe.out.trans q1
    have z2 : gv = 0 := HGv.out.trans q2
    clear q1 q2 HGe HGv
    subst z1 z2
    have hne : (ge != 0) = true := by simpa using h0
    clear h0 HAsk HNot HT HZ HO
    go_wp2
    go_ret2
    exact ⟨rfl, then_below hB0 hT⟩

def soE (a b c : Int) (ns ls : List (List Slt)) (bx : Bx) (t0 t1 t2 : Bool) (mw lw : List Nat) (f long : Int) : Int :=
  if mayYB a b c ns ls then (if errP a b c bx t0 t1 t2 = 0 then goE (if mayW (a * b * c).toNat mw lw then 0 else 8) (askB f long) (wellB a b c bx t0 t1 t2 mw lw) (soonT ns ls (midP a b c bx) (cabP a b c bx t0 t1 t2) f long) else errP a b c bx t0 t1 t2) else 8
def soV (a b c : Int) (ns ls : List (List Slt)) (bx : Bx) (t0 t1 t2 : Bool) (mw lw : List Nat) (f long : Int) : Int :=
  if mayYB a b c ns ls then (if errP a b c bx t0 t1 t2 = 0 then goV (if mayW (a * b * c).toNat mw lw then 0 else 8) (askB f long) (wellB a b c bx t0 t1 t2 mw lw) (soonT ns ls (midP a b c bx) (cabP a b c bx t0 t1 t2) f long) else 0) else 0
/-- free.Soon, whatever it is handed. -/
theorem soon_calls {a b c f long : Int} {n l vm vl : Value} {ns ls : List (List Slt)} {mw lw : List Nat} {bx : Bx} (t0 t1 t2 : Bool) (w : World) (hTab : TabOk w) (hN : Yl w n ns) (hL : Yl w l ls) (hM : Wds w vm mw) (hK : Wds w vl lw) (htot : (slotsY ns ls).length ≤ 50000) :
    Calls Tryz.prog 10 #[Y5 a b c n l, P9 bx t0 t1 t2, vm, vl, I f, I long] w fun e W' => e = .returned (.tuple #[I (soV a b c ns ls bx t0 t1 t2 mw lw f long), I (soE a b c ns ls bx t0 t1 t2 mw lw f long)]) ∧ Below w.heap.size w W' := by
  by_cases hm : mayY a b c ns ls
  · rcases errP_cases a b c bx t0 t1 t2 with ⟨hd, hp, he⟩ | ⟨he, _⟩
    · have := soon_go (f := f) (long := long) w hTab hN hL hM hK hm hp htot
      rw [avo_place hd, far_place hd] at this
      rw [soE, soV, if_pos (mayYB_iff.2 hm), if_pos (mayYB_iff.2 hm), if_pos he, if_pos he]
      cases hw : mayW (a * b * c).toNat mw lw
      · rw [hw] at this
        simpa [goE, goV] using this
      · rw [hw] at this
        exact this
    · have h0 : errP a b c bx t0 t1 t2 ≠ 0 := by rcases he with h | h <;> rw [h] <;> decide
      rw [soE, soV, if_pos (mayYB_iff.2 hm), if_pos (mayYB_iff.2 hm), if_neg h0, if_neg h0]
      exact soon_perr t0 t1 t2 w hN hL hm (by simpa using h0)
  · rw [soE, soV, mayYB_no hm]
    exact soon_bad t0 t1 t2 w hN hL hm

end Go.Proofs.YtldcagjnngkabaaGreatDoor

/-
  The statements of layer 11: some, one: chapter 9's calendars, the chapter's P.
-/
namespace Go.Proofs.YtldcagjnngkabaaGreatDoor
open Go Go.RowKit Go.Shelf

attribute [local go_sem] Oper.semAt_some ext_const

set_option maxRecDepth 100000 in
set_option maxHeartbeats 8000000 in
theorem some11_calls (w : World) : Calls Tryz.prog 8 #[] w fun e W' => ∃ u v, e = .returned (.tuple #[Y5 2 1 1 u v, .bool true]) ∧ Yo W' w.heap.size u twoN ∧ Yo W' w.heap.size v twoL ∧ Below w.heap.size w W' := by
  have hmx : Tryz.prog.follows .mixedOrders = true := by kernel_rfl
  have H1 : Hid (∀ w, Calls Tryz.prog 24 #[A3 2 1 1] w fun e W' => ∃ u v, e = .returned (.tuple #[Y5 2 1 1 u v, I 0]) ∧ Yo W' w.heap.size u [[], []] ∧ Yo W' w.heap.size v [[], [], [], [], [], []] ∧ Below w.heap.size w W') := fun w => by
    have := yNew_calls (a := 2) (b := 1) (c := 1) w
    rw [two_new] at this
    simp only [dim_ok, rows_ok] at this
    rwa [show emptyC (2 * 1 * 1) = [[], []] from two_n0, show emptyC (3 * (2 * 1 * 1)) = [[], [], [], [], [], []] from two_l0] at this
  have H2 : Hid (∀ w n l vm vl, Yl w n [[], []] → Yl w l [[], [], [], [], [], []] → Wds w vm [1] → Wds w vl [1] → Calls Tryz.prog 25 #[Y5 2 1 1 n l, I 5, vm, vl, S2 0 3] w fun e W' => ∃ u v, e = .returned (.tuple #[Y5 2 1 1 u v, I 0]) ∧ Yo W' w.heap.size u twoN ∧ Yo W' w.heap.size v twoL ∧ Below w.heap.size w W') := fun w n l vm vl h1 h2 h3 h4 => by
    have := yPut_calls (a := 2) (b := 1) (c := 1) (f := 0) (t := 3) (o := 5) w h1 h2 h3 h4
    rw [two_err] at this
    simp only [dim_ok, rows_ok] at this
    rwa [two_nodes, two_links] at this
  obtain ⟨W0, hW0, hB0, hR⟩ := one_start w (K5 0 0 0 (.slice none 0 0) (.slice none 0 0)) 26
  have HW0 : Hid (w.alloc (.cells (K5 0 0 0 (.slice none 0 0) (.slice none 0 0)) 26) = W0) := hW0
  clear hW0
  go_enter Tryz.func8, Tryz.ntmps8
  go_wp2_with fail
  rw [HW0.out]
  refine (H1.out _).mono ?_
  rintro e w1 ⟨u, v, rfl, hU, hV, hT⟩
  obtain ⟨ao1, n1, c1, rfl⟩ := hU.slice
  obtain ⟨ao2, n2, c2, rfl⟩ := hV.slice
  obtain ⟨W1, hW1, hB1, hy, hm, hl⟩ := three_boxes w1 (K5 2 1 1 (.slice ao1 n1 c1) (.slice ao2 n2 c2)) #[.int .u64 1] #[.int .u64 1] 26 34 34
  have HW1 : Hid (((w1.alloc (.cells (K5 2 1 1 (.slice ao1 n1 c1) (.slice ao2 n2 c2)) 26)).alloc (.cells #[.int .u64 1] 34)).alloc (.cells #[.int .u64 1] 34) = W1) := hW1
  have HU : Hid (Yl W1 (.slice ao1 n1 c1) [[], []]) := (hU.later hB1).yl
  have HV : Hid (Yl W1 (.slice ao2 n2 c2) [[], [], [], [], [], []]) := (hV.later hB1).yl
  have HM : Hid (Wds W1 (.slice (some ⟨w1.heap.size + 1, 0, none⟩) 1 1) [1]) := wds_lit (x := 1) (by decide) hm
  have HL : Hid (Wds W1 (.slice (some ⟨w1.heap.size + 1 + 1, 0, none⟩) 1 1) [1]) := wds_lit (x := 1) (by decide) hl
  clear hU hV hW1 hm hl
  go_wp2_with fail
  rw [HW1.out]
  refine (H2.out _ _ _ _ _ HU.out HV.out HM.out HL.out).mono ?_
  rintro e w2 ⟨u, v, rfl, hU, hV, hT2⟩
  obtain ⟨ao3, c3, rfl, _⟩ := hU.yl.form
  obtain ⟨ao4, c4, rfl, _⟩ := hV.yl.form
  rw [two_n] at hU ⊢
  rw [two_l] at hV ⊢
  obtain ⟨W2, hW2, hB2, hy2⟩ := one_start w2 (K5 2 1 1 (.slice ao3 2 c3) (.slice ao4 6 c4)) 26
  have hT3 : Below w.heap.size w W2 := then_below hB0 (then_below hT (then_below hB1 (then_below hT2 hB2)))
  have hR2 : Blk W2 w.heap.size 26 (K5 0 0 0 (.slice none 0 0) (.slice none 0 0)) := hR.later (then_below hT (then_below hB1 (then_below hT2 hB2)))
  subst hW2
  obtain ⟨p0, p1, p2, p3, p4, hz⟩ := hy2.five
  have hne : w.heap.size < w2.heap.size := (hR.later (then_below hT (then_below hB1 hT2))).lt
  have HS := hR2.set5 (.int .i64 2) (.int .i64 1) (.int .i64 1) (.slice ao3 2 c3) (.slice ao4 6 c4)
  have hlow := below_set5 hT3 (Nat.le_refl _) (.int .i64 2) (.int .i64 1) (.int .i64 1) (.slice ao3 2 c3) (.slice ao4 6 c4)
  have hsz : w.heap.size < W1.heap.size := (hR.later (then_below hT hB1)).lt
  have HU2 : Hid (Yo (put5 (w2.alloc (.cells (K5 2 1 1 (.slice ao3 2 c3) (.slice ao4 6 c4)) 26)) w.heap.size (.int .i64 2) (.int .i64 1) (.int .i64 1) (.slice ao3 2 c3) (.slice ao4 6 c4)) w.heap.size (.slice ao3 2 c3) twoN) := ((hU.later hB2).put5 hsz _ _ _ _ _).weak (Nat.le_of_lt hsz)
  have HV2 : Hid (Yo (put5 (w2.alloc (.cells (K5 2 1 1 (.slice ao3 2 c3) (.slice ao4 6 c4)) 26)) w.heap.size (.int .i64 2) (.int .i64 1) (.int .i64 1) (.slice ao3 2 c3) (.slice ao4 6 c4)) w.heap.size (.slice ao4 6 c4) twoL) := ((hV.later hB2).put5 hsz _ _ _ _ _).weak (Nat.le_of_lt hsz)
  clear hU hV
  have HJ : Hid (Blk (put5 (w2.alloc (.cells (K5 2 1 1 (.slice ao3 2 c3) (.slice ao4 6 c4)) 26)) w.heap.size (.int .i64 2) (.int .i64 1) (.int .i64 1) (.slice ao3 2 c3) (.slice ao4 6 c4)) w.heap.size 26 (K5 2 1 1 (.slice ao3 2 c3) (.slice ao4 6 c4))) := HS
  have HLow : Hid (Below w.heap.size w (put5 (w2.alloc (.cells (K5 2 1 1 (.slice ao3 2 c3) (.slice ao4 6 c4)) 26)) w.heap.size (.int .i64 2) (.int .i64 1) (.int .i64 1) (.slice ao3 2 c3) (.slice ao4 6 c4))) := hlow
  clear HS hlow
  go_wp2_with (refine wpList_storeY rfl _ _ rfl rfl rfl hR2 ?_; generalize hP : (put5 (w2.alloc (.cells (K5 2 1 1 (.slice ao3 2 c3) (.slice ao4 6 c4)) 26)) w.heap.size (.int .i64 2) (.int .i64 1) (.int .i64 1) (.slice ao3 2 c3) (.slice ao4 6 c4)) = wp at *)
  obtain ⟨j0, j1, j2, j3, j4, _⟩ := HJ.out.five
  exact bodyPost_ret (v := .tuple #[Y5 2 1 1 (.slice ao3 2 c3) (.slice ao4 6 c4), .bool true]) (by simp [results, Tryz.f8, go_sem, j0, j1, j2, j3, j4]) rfl ⟨_, _, rfl, HU2.out, HV2.out, HLow.out⟩

abbrev oneB : Bx := ⟨0, 0, 0, 1, 1, 1⟩

set_option maxRecDepth 100000 in
set_option maxHeartbeats 4000000 in
theorem one11_calls (w : World) : Calls Tryz.prog 11 #[] w fun e W' => e = .returned (P9 oneB false false false) ∧ Below w.heap.size w W' := by
  go_enter Tryz.func11, Tryz.ntmps11
  go_wp2
  exact bodyPost_ret (v := P9 oneB false false false) (by simp [results, Tryz.f11, go_sem]) rfl ⟨rfl, (Below.refl _ w).alloc (Nat.le_refl _) _⟩

end Go.Proofs.YtldcagjnngkabaaGreatDoor
