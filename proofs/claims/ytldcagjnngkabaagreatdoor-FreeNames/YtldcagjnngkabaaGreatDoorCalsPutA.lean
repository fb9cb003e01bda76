/-
  cals.checkFree, cals.checkPut: whether a slot may be put; what Put hands to turn.
-/
import Derived.Test.YtldcagjnngkabaaGreatDoorCalsNum
import Derived.Test.YtldcagjnngkabaaGreatDoorPart19
namespace Go.Proofs.YtldcagjnngkabaaGreatDoor
open Go Go.RowKit Go.Shelf

attribute [local go_sem] Oper.semAt_some ext_const

theorem errAll_8 {n : Int} {wss : List (List Nat)} (h1 : 1 ≤ n) (h2 : n ≤ 12288) (h : errAll n wss ≠ 0) : errAll n wss = 8 := by
  unfold errAll at *
  rw [show okN n = true by simp [okN]; omega] at *
  simp only [if_true] at *
  split at h
  · exact absurd rfl h
  · rename_i hh
    rw [if_neg hh]
theorem putE_nil (f t o : Int) : putE [] (f, t, o) = if maySlB (f, t, o) then 0 else 2 := by
  unfold putE
  rw [if_pos (by rfl)]
  cases maySlB (f, t, o)
  · rfl
  · rfl
/-- Whether a slot may be put, but for room. -/
def takenY (ns ls : List (List Slt)) (mw lw : List Nat) (f t : Int) : Bool := takenC ns (hasW mw) f t ns.length || takenC ls (hasW lw) f t ls.length
def fullY (ns ls : List (List Slt)) (mw lw : List Nat) : Bool := fullC ns (hasW mw) ns.length || fullC ls (hasW lw) ls.length
def freeYE (ns ls : List (List Slt)) (mw lw : List Nat) (f t : Int) : Int := if takenY ns ls mw lw f t then 80 else 0
def checkE (a b c : Int) (ns ls : List (List Slt)) (mw lw : List Nat) (f t o : Int) : Int :=
  if mayYB a b c ns ls then (if errAll ns.length [mw] = 0 then (if errAll ls.length [lw] = 0 then (if maySlB (f, t, o) then freeYE ns ls mw lw f t else 2) else 8) else 8) else 8
structure CheckOk (a b c : Int) (ns ls : List (List Slt)) (mw lw : List Nat) (f t o : Int) : Prop where
  may : mayY a b c ns ls
  mids : errAll ns.length [mw] = 0
  links : errAll ls.length [lw] = 0
  slot : maySl (f, t, o)
theorem checkE_ok {a b c : Int} {ns ls : List (List Slt)} {mw lw : List Nat} {f t o : Int} (h : CheckOk a b c ns ls mw lw f t o) : checkE a b c ns ls mw lw f t o = freeYE ns ls mw lw f t := by
  rw [checkE, if_pos (mayYB_iff.2 h.may), if_pos h.mids, if_pos h.links, if_pos (maySlB_iff.2 h.slot)]
theorem checkE_zero {a b c : Int} {ns ls : List (List Slt)} {mw lw : List Nat} {f t o : Int} (h : checkE a b c ns ls mw lw f t o = 0) : CheckOk a b c ns ls mw lw f t o ∧ takenY ns ls mw lw f t = false := by
  unfold checkE at h
  split at h
  · rename_i h1
    split at h
    · rename_i h2
      split at h
      · rename_i h3
        split at h
        · rename_i h4
          refine ⟨⟨mayYB_iff.1 h1, h2, h3, maySlB_iff.1 h4⟩, ?_⟩
          unfold freeYE at h
          cases e : takenY ns ls mw lw f t
          · rfl
          · rw [e] at h; cases h
        · cases h
      · cases h
    · cases h
  · cases h

theorem taken_meets {cs : List (List Slt)} (h1 : 1 ≤ cs.length) (h2 : cs.length ≤ 12288) (f t : Int) {ws : List Nat} (he : errAll cs.length [ws] = 0) : meetSB cs.length (setOf cs.length (busyP cs f t)) ws = takenC cs (hasW ws) f t cs.length := by
  rw [setOf_meets (by omega) (by omega) _ he, Int.toNat_natCast]
  rfl

theorem Blk.slot3 {W W' : World} {B : Nat} {t : TypeId} {f x o : Int} (h : Blk W B t (C3 f x o)) (hb : Below W.heap.size W W') : W'.cell? ⟨B, 0, none⟩ = some (.int .i64 f) ∧ W'.cell? ⟨B, 1, none⟩ = some (.int .i64 x) ∧ W'.cell? ⟨B, 2, none⟩ = some (.int .i64 o) ∧ B < W'.heap.size := ⟨(h.later hb).cell 0, (h.later hb).cell 1, (h.later hb).cell 2, (h.later hb).lt⟩

set_option maxRecDepth 100000 in
set_option maxHeartbeats 8000000 in
theorem cfreeY_calls {a b c : Int} {n l vm vl : Value} {ns ls : List (List Slt)} {mw lw : List Nat} {x y : Int} (w : World) (hN : Yl w n ns) (hL : Yl w l ls) (hm : mayY a b c ns ls) (hs : maySp x y) (hM : Wds w vm mw) (hK' : Wds w vl lw) (e1 : errAll ns.length [mw] = 0) (e2 : errAll ls.length [lw] = 0) :
    Calls Tryz.prog 90 #[Y5 a b c n l, S2 x y, vm, vl] w fun e W' => e = .returned (I (freeYE ns ls mw lw x y)) ∧ Below w.heap.size w W' := by
  obtain ⟨W, hW, hB, hK, hK2⟩ := two_start w (K5 a b c n l) (C2 x y) 26 36
  have HW : Hid ((w.alloc (.cells (K5 a b c n l) 26)).alloc (.cells (C2 x y) 36) = W) := hW
  have hbd := hm.bd
  have HB : Hid (Calls Tryz.prog 56 #[Y5 a b c n l, S2 x y] W fun e W' => ∃ u v, e = .returned (.tuple #[u, v, I 0]) ∧ SetR W' W.heap.size u (setOf ns.length (busyP ns x y)) ∧ SetR W' W.heap.size v (setOf ls.length (busyP ls x y)) ∧ Below W.heap.size W W') := cbusy_calls W (hN.later hB) (hL.later hB) hm hs
  have HN : Hid (∀ (w1 : World) (u : Value) (b1 : Nat), Below W.heap.size W w1 → SetR w1 b1 u (setOf ns.length (busyP ns x y)) → Calls Tryz.prog 62 #[I ns.length, u, vm] w1 fun e W' => e = .returned (.tuple #[.bool (takenC ns (hasW mw) x y ns.length), I 0]) ∧ Below w1.heap.size w1 W') := fun w1 u b1 hb hu => by
    have := meet_calls w1 hu.wds (hM.later (then_below hB hb)) ns.length
    rwa [taken_meets (by omega) (by omega) x y e1, errAll_both (setOf_err (by omega) (by omega) _) e1] at this
  have HL : Hid (∀ (w1 : World) (u : Value) (b1 : Nat), Below W.heap.size W w1 → SetR w1 b1 u (setOf ls.length (busyP ls x y)) → Calls Tryz.prog 62 #[I ls.length, u, vl] w1 fun e W' => e = .returned (.tuple #[.bool (takenC ls (hasW lw) x y ls.length), I 0]) ∧ Below w1.heap.size w1 W') := fun w1 u b1 hb hu => by
    have := meet_calls w1 hu.wds (hK'.later (then_below hB hb)) ls.length
    rwa [taken_meets (by omega) (by omega) x y e2, errAll_both (setOf_err (by omega) (by omega) _) e2] at this
  obtain ⟨an, cn, rfl, _⟩ := hN.form
  obtain ⟨al, cl, rfl, _⟩ := hL.form
  unfold freeYE takenY
  clear hW hN hL hm hs hM hK' e1 e2 hbd
  generalize setOf (ns.length : Int) (busyP ns x y) = s1 at *
  generalize setOf (ls.length : Int) (busyP ls x y) = s2 at *
  generalize takenC ns (hasW mw) x y ns.length = q1 at *
  generalize takenC ls (hasW lw) x y ls.length = q2 at *
  generalize ns.length = nn at *
  generalize ls.length = ll at *
  cases q1
  all_goals cases q2
  all_goals
    go_enter Tryz.func90, Tryz.ntmps90
    go_wp2_with fail
    rw [HW.out]
    refine HB.out.mono ?_
    rintro e w1 ⟨u, v, rfl, hR, hR2, hT⟩
    obtain ⟨p0, p1, p2, p3, p4, hz⟩ := hK.yard hT
    go_wp2_with fail
    refine (HN.out _ _ _ hT hR).mono ?_
    rintro e w2 ⟨rfl, hB2⟩
    have hT2 := then_below hT hB2
    clear p0 p1 p2 p3 p4 hz
    obtain ⟨p0, p1, p2, p3, p4, hz⟩ := hK.yard hT2
    go_wp2_with fail
    refine (HL.out _ _ _ hT2 (hR2.later hB2)).mono ?_
    rintro e w3 ⟨rfl, hB3⟩
    go_wp2
    go_ret
    exact ⟨rfl, then_below hB (then_below hT2 hB3)⟩

set_option maxRecDepth 100000 in
set_option maxHeartbeats 8000000 in
theorem cput1_calls {n : Int} {ao : Option Addr} {len cap : Nat} {D : Nat} (w : World) : Calls Tryz.prog 50 #[I n, .slice ao len cap, .pointer (some ⟨D, 0, none⟩)] w fun e W' => e = .returned (.func (.func 51) #[] #[.pointer (some ⟨w.heap.size, 0, none⟩), .pointer (some ⟨w.heap.size + 1, 0, none⟩), .pointer (some ⟨D, 0, none⟩)]) ∧ Blk W' w.heap.size 3 #[I n] ∧ Blk W' (w.heap.size + 1) 30 #[.slice ao len cap] ∧ Below w.heap.size w W' := by
  obtain ⟨W, hW, hB, hK, hK2⟩ := two_start w #[I n] #[.slice ao len cap] 3 30
  have HW : Hid ((w.alloc (.cells #[I n] 3)).alloc (.cells #[.slice ao len cap] 30) = W) := hW
  clear hW
  go_enter Tryz.func50, Tryz.ntmps50
  go_wp2
  rw [HW.out]
  go_ret
  exact ⟨rfl, hK, hK2, hB⟩

set_option maxRecDepth 100000 in
set_option maxHeartbeats 8000000 in
theorem ccheckPut_calls {a b c : Int} {n l vm vl : Value} {ns ls : List (List Slt)} {mw lw : List Nat} {f t o : Int} (w : World) (hN : Yl w n ns) (hL : Yl w l ls) (hM : Wds w vm mw) (hK' : Wds w vl lw) :
    Calls Tryz.prog 49 #[Y5 a b c n l, V3 f t o, vm, vl] w fun e W' => e = .returned (I (checkE a b c ns ls mw lw f t o)) ∧ Below w.heap.size w W' := by
  obtain ⟨W, hW, hB, hK, hK2⟩ := two_start w (K5 a b c n l) (C3 f t o) 26 85
  have HW : Hid ((w.alloc (.cells (K5 a b c n l) 26)).alloc (.cells (C3 f t o) 85) = W) := hW
  have HC : Hid (Calls Tryz.prog 28 #[Y5 a b c n l] W fun e W' => e = .returned (I (errY a b c ns ls)) ∧ Below W.heap.size W W') := ycheck_calls W (hN.later hB) (hL.later hB)
  have H1 : Hid (∀ w1, Below W.heap.size W w1 → Calls Tryz.prog 89 #[I ns.length, vm] w1 fun e W' => e = .returned (I (errAll ns.length [mw])) ∧ Below w1.heap.size w1 W') := fun w1 hb => chk_calls w1 (hM.later (then_below hB hb)) _
  have H2 : Hid (∀ w1, Below W.heap.size W w1 → Calls Tryz.prog 89 #[I ls.length, vl] w1 fun e W' => e = .returned (I (errAll ls.length [lw])) ∧ Below w1.heap.size w1 W') := fun w1 hb => chk_calls w1 (hK'.later (then_below hB hb)) _
  have H3 : Hid (∀ w1, Calls Tryz.prog 53 #[.slice none 0 0, V3 f t o] w1 fun e W' => ∃ u, e = .returned (.tuple #[u, I (if maySlB (f, t, o) then 0 else 2)]) ∧ Below w1.heap.size w1 W') := fun w1 => by
    refine (cput_all (f := f) (t := t) (o := o) w1 (Ss.nil w1)).mono ?_
    rintro e W' ⟨u, rfl, _, hb⟩
    rw [putE_nil]
    exact ⟨_, rfl, hb⟩
  have H4 : Hid (CheckOk a b c ns ls mw lw f t o → ∀ w1, Below W.heap.size W w1 → Calls Tryz.prog 90 #[Y5 a b c n l, S2 f t, vm, vl] w1 fun e W' => e = .returned (I (freeYE ns ls mw lw f t)) ∧ Below w1.heap.size w1 W') := fun h w1 hb => cfreeY_calls w1 (hN.later (then_below hB hb)) (hL.later (then_below hB hb)) h.may h.slot.1 (hM.later (then_below hB hb)) (hK'.later (then_below hB hb)) h.mids h.links
  obtain ⟨an, cn, rfl, _⟩ := hN.form
  obtain ⟨al, cl, rfl, _⟩ := hL.form
  clear hW hN hL hM hK'
  by_cases hm : mayY a b c ns ls
  · have E := errY_ok hm
    rw [E] at HC
    have hbd := hm.bd
    by_cases h1 : errAll ns.length [mw] = 0
    · rw [h1] at H1
      by_cases h2 : errAll ls.length [lw] = 0
      · rw [h2] at H2
        cases h3 : maySlB (f, t, o)
        · rw [show checkE a b c ns ls mw lw f t o = 2 by rw [checkE, if_pos (mayYB_iff.2 hm), if_pos h1, if_pos h2, h3]; rfl]
          rw [h3] at H3
          have H3 : Hid (∀ w1, Calls Tryz.prog 53 #[.slice none 0 0, V3 f t o] w1 fun e W' => ∃ u, e = .returned (.tuple #[u, I 2]) ∧ Below w1.heap.size w1 W') := H3
          clear hm h1 h2 h3 E hbd H4
          generalize ns.length = nn at *
          generalize ls.length = ll at *
          go_enter Tryz.func49, Tryz.ntmps49
          go_wp2_with fail
          rw [HW.out]
          refine HC.out.mono ?_
          rintro e w1 ⟨rfl, hT⟩
          obtain ⟨p0, p1, p2, p3, p4, hz⟩ := hK.yard hT
          go_wp2_with fail
          refine (H1.out _ hT).mono ?_
          rintro e w2 ⟨rfl, hB2⟩
          have hT2 := then_below hT hB2
          clear p0 p1 p2 p3 p4 hz
          obtain ⟨p0, p1, p2, p3, p4, hz⟩ := hK.yard hT2
          go_wp2_with fail
          refine (H2.out _ hT2).mono ?_
          rintro e w3 ⟨rfl, hB3⟩
          have hT3 := then_below hT2 hB3
          clear p0 p1 p2 p3 p4 hz
          obtain ⟨p0, p1, p2, p3, p4, hz⟩ := hK.yard hT3
          obtain ⟨s0, s1, s2, s3⟩ := hK2.slot3 hT3
          go_wp2_with fail
          refine (H3.out _).mono ?_
          rintro e w4 ⟨u, rfl, hB4⟩
          go_wp2
          go_ret
          exact ⟨rfl, then_below hB (then_below hT3 hB4)⟩
        · have hc : CheckOk a b c ns ls mw lw f t o := ⟨hm, h1, h2, maySlB_iff.1 h3⟩
          rw [checkE_ok hc]
          rw [h3] at H3
          have H3 : Hid (∀ w1, Calls Tryz.prog 53 #[.slice none 0 0, V3 f t o] w1 fun e W' => ∃ u, e = .returned (.tuple #[u, I 0]) ∧ Below w1.heap.size w1 W') := H3
          have H5 : Hid (∀ w1, Below W.heap.size W w1 → Calls Tryz.prog 90 #[Y5 a b c (.slice an ns.length cn) (.slice al ls.length cl), S2 f t, vm, vl] w1 fun e W' => e = .returned (I (freeYE ns ls mw lw f t)) ∧ Below w1.heap.size w1 W') := H4.out hc
          clear hm h1 h2 h3 E hbd H4 hc
          generalize freeYE ns ls mw lw f t = er at *
          generalize ns.length = nn at *
          generalize ls.length = ll at *
          go_enter Tryz.func49, Tryz.ntmps49
          go_wp2_with fail
          rw [HW.out]
          refine HC.out.mono ?_
          rintro e w1 ⟨rfl, hT⟩
          obtain ⟨p0, p1, p2, p3, p4, hz⟩ := hK.yard hT
          go_wp2_with fail
          refine (H1.out _ hT).mono ?_
          rintro e w2 ⟨rfl, hB2⟩
          have hT2 := then_below hT hB2
          clear p0 p1 p2 p3 p4 hz
          obtain ⟨p0, p1, p2, p3, p4, hz⟩ := hK.yard hT2
          go_wp2_with fail
          refine (H2.out _ hT2).mono ?_
          rintro e w3 ⟨rfl, hB3⟩
          have hT3 := then_below hT2 hB3
          clear p0 p1 p2 p3 p4 hz
          obtain ⟨p0, p1, p2, p3, p4, hz⟩ := hK.yard hT3
          obtain ⟨s0, s1, s2, s3⟩ := hK2.slot3 hT3
          go_wp2_with fail
          refine (H3.out _).mono ?_
          rintro e w4 ⟨u, rfl, hB4⟩
          have hT4 := then_below hT3 hB4
          clear s0 s1 s2 s3 p0 p1 p2 p3 p4 hz
          obtain ⟨p0, p1, p2, p3, p4, hz⟩ := hK.yard hT4
          obtain ⟨s0, s1, s2, s3⟩ := hK2.slot3 hT4
          go_wp2_with fail
          refine (H5.out _ hT4).mono ?_
          rintro e w5 ⟨rfl, hB5⟩
          go_wp2
          go_ret
          exact ⟨rfl, then_below hB (then_below hT4 hB5)⟩
      · have h8 := errAll_8 (by omega) (by omega) h2
        rw [show checkE a b c ns ls mw lw f t o = 8 by rw [checkE, if_pos (mayYB_iff.2 hm), if_pos h1, if_neg h2]]
        rw [h8] at H2
        clear hm h1 h2 h8 E hbd H3 H4
        generalize ns.length = nn at *
        generalize ls.length = ll at *
        go_enter Tryz.func49, Tryz.ntmps49
        go_wp2_with fail
        rw [HW.out]
        refine HC.out.mono ?_
        rintro e w1 ⟨rfl, hT⟩
        obtain ⟨p0, p1, p2, p3, p4, hz⟩ := hK.yard hT
        go_wp2_with fail
        refine (H1.out _ hT).mono ?_
        rintro e w2 ⟨rfl, hB2⟩
        have hT2 := then_below hT hB2
        clear p0 p1 p2 p3 p4 hz
        obtain ⟨p0, p1, p2, p3, p4, hz⟩ := hK.yard hT2
        go_wp2_with fail
        refine (H2.out _ hT2).mono ?_
        rintro e w3 ⟨rfl, hB3⟩
        have hT3 := then_below hT2 hB3
        go_wp2
        go_ret
        exact ⟨rfl, then_below hB hT3⟩
    · have h8 := errAll_8 (by omega) (by omega) h1
      rw [show checkE a b c ns ls mw lw f t o = 8 by rw [checkE, if_pos (mayYB_iff.2 hm), if_neg h1]]
      rw [h8] at H1
      clear hm h1 h8 E hbd H2 H3 H4
      generalize ns.length = nn at *
      generalize ls.length = ll at *
      go_enter Tryz.func49, Tryz.ntmps49
      go_wp2_with fail
      rw [HW.out]
      refine HC.out.mono ?_
      rintro e w1 ⟨rfl, hT⟩
      obtain ⟨p0, p1, p2, p3, p4, hz⟩ := hK.yard hT
      go_wp2_with fail
      refine (H1.out _ hT).mono ?_
      rintro e w2 ⟨rfl, hB2⟩
      have hT2 := then_below hT hB2
      go_wp2
      go_ret
      exact ⟨rfl, then_below hB hT2⟩
  · have E := errY_no hm
    rw [E] at HC
    rw [show checkE a b c ns ls mw lw f t o = 8 by rw [checkE, mayYB_no hm]; rfl]
    clear hm E H1 H2 H3 H4
    generalize ns.length = nn at *
    generalize ls.length = ll at *
    go_enter Tryz.func49, Tryz.ntmps49
    go_wp2_with fail
    rw [HW.out]
    refine HC.out.mono ?_
    rintro e w1 ⟨rfl, hT⟩
    go_wp2
    go_ret
    exact ⟨rfl, then_below hB hT⟩

end Go.Proofs.YtldcagjnngkabaaGreatDoor
