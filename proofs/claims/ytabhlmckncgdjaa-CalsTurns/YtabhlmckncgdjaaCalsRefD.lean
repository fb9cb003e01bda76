/-
  The document's Put, Busy, Owned of a machine's calendars (tidehallref09). (Written by tools/gen/cals_refd.py.)
-/
import Derived.Test.YtabhlmckncgdjaaCalsRefC
namespace Go.Proofs.Ytabhlmckncgdjaa
open Go Go.RowKit Go.Shelf

attribute [local go_sem] Oper.semAt_some ext_const

theorem errAll_may2 {n : Nat} (h1 : 1 ≤ n) (h2 : n ≤ 12288) (ws : List Nat) : errAll n [ws] = if maySet n ws then 0 else 8 := by
  unfold errAll
  rw [show okN (n : Int) = true by simp [okN]; omega]
  simp
/-- Put's error, as the document looks for it. -/
def putD (q1 q2 q3 t1 t2 f1 f2 : Bool) : Int := if q1 && q2 then (if q3 then (if t1 || t2 then 80 else (if f1 || f2 then 4 else 0)) else 2) else 8
theorem putYE_D {a b c : Int} {ns ls : List (List Slt)} {mw lw : List Nat} {f t o : Int} (h : mayY a b c ns ls) : putYE a b c ns ls mw lw f t o = putD (maySet ns.length mw) (maySet ls.length lw) (maySlB (f, t, o)) (takenC ns (hasW mw) f t ns.length) (takenC ls (hasW lw) f t ls.length) (fullC ns (hasW mw) ns.length) (fullC ls (hasW lw) ls.length) := by
  have hbd := h.bd
  unfold putYE checkE putD freeYE takenY fullY
  rw [if_pos (mayYB_iff.2 h), errAll_may2 (by omega) (by omega), errAll_may2 (by omega) (by omega)]
  cases maySet ns.length mw <;> cases maySet ls.length lw <;> cases maySlB (f, t, o) <;> cases takenC ns (hasW mw) f t ns.length <;> cases takenC ls (hasW lw) f t ls.length <;> rfl

set_option maxRecDepth 100000 in
set_option maxHeartbeats 32000000 in
theorem rPutY_calls {a b c : Int} {n l vm vk : Value} {ns ls : List (List Slt)} {mw lw : List Nat} {f t o : Int} (w : World) (hN : Yl w n ns) (hL : Yl w l ls) (hM : Wds w vm mw) (hK' : Wds w vk lw) (hs : Small ns ls) :
    Calls Try.prog 15 #[Y5 a b c n l, I o, vm, vk, S2 f t] w fun e W' => ∃ u v, e = .returned (.tuple #[Y5 (dimE (putYE a b c ns ls mw lw f t o) a) (dimE (putYE a b c ns ls mw lw f t o) b) (dimE (putYE a b c ns ls mw lw f t o) c) u v, I (putYE a b c ns ls mw lw f t o)]) ∧ Yo W' w.heap.size u (rowsE (putYE a b c ns ls mw lw f t o) (putsY ns mw (f, t, o))) ∧ Yo W' w.heap.size v (rowsE (putYE a b c ns ls mw lw f t o) (putsY ls lw (f, t, o))) ∧ Below w.heap.size w W' := by
  have hmx : Try.prog.follows .mixedOrders = true := by kernel_rfl
  obtain ⟨W, hW, hB, hK, hS, hR⟩ := three_boxes w (K5 a b c n l) (C2 f t) (K5 0 0 0 (.slice none 0 0) (.slice none 0 0)) 26 36 26
  have HW : Hid (((w.alloc (.cells (K5 a b c n l) 26)).alloc (.cells (C2 f t) 36)).alloc (.cells (K5 0 0 0 (.slice none 0 0) (.slice none 0 0)) 26) = W) := hW
  have HM : Hid (Calls Try.prog 45 #[Y5 a b c n l] W fun e W' => e = .returned (.bool (mayYB a b c ns ls)) ∧ Below W.heap.size W W') := rmayY_calls W (hN.later hB) (hL.later hB) hs
  have hWs : w.heap.size + 1 + 1 < W.heap.size := hR.lt
  have h2 := hs.nodes
  have h6 := hs.links
  by_cases hm : mayY a b c ns ls
  · rw [mayYB_iff.2 hm] at HM
    have hbd := hm.bd
    have HQ1 : Hid (∀ w1, Below W.heap.size W w1 → Calls Try.prog 46 #[I ns.length, vm] w1 fun e W' => e = .returned (.bool (maySet ns.length mw)) ∧ W' = w1) := fun w1 hb => may_calls w1 (hM.later (then_below hB hb)) ns.length (by omega) (by omega)
    have HQ2 : Hid (∀ w1, Below W.heap.size W w1 → Calls Try.prog 46 #[I (3 * (ns.length : Int)), vk] w1 fun e W' => e = .returned (.bool (maySet ls.length lw)) ∧ W' = w1) := fun w1 hb => by
      have := may_calls w1 (hK'.later (then_below hB hb)) ls.length (by omega) (by omega)
      rwa [show ((ls.length : Nat) : Int) = 3 * (ns.length : Int) by omega] at this
    have HS3 : Hid (∀ w, Calls Try.prog 47 #[V3 f t o] w fun e W' => e = .returned (.bool (maySlB (f, t, o))) ∧ Below w.heap.size w W') := rmaySl_calls f t o
    have HB1 : Hid (∀ w1, Below W.heap.size W w1 → Calls Try.prog 48 #[n, vm, S2 f t] w1 fun e W' => e = .returned (.tuple #[.bool (takenC ns (hasW mw) f t ns.length), .bool (fullC ns (hasW mw) ns.length)]) ∧ Below w1.heap.size w1 W') := fun w1 hb => rblocked_calls w1 (hN.later (then_below hB hb)) (by omega) hs.node (hM.later (then_below hB hb))
    have HB2 : Hid (∀ w1, Below W.heap.size W w1 → Calls Try.prog 48 #[l, vk, S2 f t] w1 fun e W' => e = .returned (.tuple #[.bool (takenC ls (hasW lw) f t ls.length), .bool (fullC ls (hasW lw) ls.length)]) ∧ Below w1.heap.size w1 W') := fun w1 hb => rblocked_calls w1 (hL.later (then_below hB hb)) (by omega) hs.link (hK'.later (then_below hB hb))
    have HC1 : Hid (∀ w1, Below W.heap.size W w1 → Calls Try.prog 44 #[n, vm, V3 f t o] w1 fun e W' => ∃ u, e = .returned u ∧ Yo W' w1.heap.size u (putsY ns mw (f, t, o)) ∧ Below w1.heap.size w1 W') := fun w1 hb => rputs_calls w1 (hN.later (then_below hB hb)) (by omega) hs.node (hM.later (then_below hB hb))
    have HC2 : Hid (∀ w1, Below W.heap.size W w1 → Calls Try.prog 44 #[l, vk, V3 f t o] w1 fun e W' => ∃ u, e = .returned u ∧ Yo W' w1.heap.size u (putsY ls lw (f, t, o)) ∧ Below w1.heap.size w1 W') := fun w1 hb => rputs_calls w1 (hL.later (then_below hB hb)) (by omega) hs.link (hK'.later (then_below hB hb))
    rw [putYE_D hm]
    obtain ⟨an, cn, rfl, _⟩ := hN.form
    obtain ⟨al, cl, rfl, _⟩ := hL.form
    obtain ⟨am, cm, rfl, _⟩ := hM.view
    obtain ⟨ak, ck, rfl, _⟩ := hK'.view
    have hnn : ns.length ≤ 200 := h2
    clear hW hN hL hM hK' hs hm hbd h2 h6
    generalize maySet ns.length mw = q1 at *
    generalize maySet ls.length lw = q2 at *
    generalize maySlB (f, t, o) = q3 at *
    generalize takenC ns (hasW mw) f t ns.length = t1 at *
    generalize takenC ls (hasW lw) f t ls.length = t2 at *
    generalize fullC ns (hasW mw) ns.length = g1 at *
    generalize fullC ls (hasW lw) ls.length = g2 at *
    generalize putsY ns mw (f, t, o) = r1 at *
    generalize putsY ls lw (f, t, o) = r2 at *
    generalize ns.length = nn at *
    generalize ls.length = ll at *
    generalize mw.length = mn at *
    generalize lw.length = ln at *
    cases q1
    · rw [show putD false q2 q3 t1 t2 g1 g2 = 8 from rfl]
      have e8 : (8 : Int) ≠ 0 := by decide
      simp only [dim_no e8, rows_no e8]
      clear e8
      go_enter Try.func15, Try.ntmps15
      go_wp2_with fail
      rw [HW.out]
      refine HM.out.mono ?_
      rintro e w1 ⟨rfl, hT1⟩
      obtain ⟨p0, p1, p2, p3, p4, hz⟩ := hK.yard hT1
      obtain ⟨s0, s1, hz1⟩ := hS.pair hT1
      go_wp2_with fail
      refine (HQ1.out _ hT1).mono ?_
      rintro e w2 ⟨rfl, hw⟩
      subst hw
      try clear p0 p1 p2 p3 p4 hz s0 s1 hz1
      have hR2 := hR.later hT1
      have HS := hR2.set5 (.int .i64 0) (.int .i64 0) (.int .i64 0) (.slice none 0 0) (.slice none 0 0)
      have hlow := below_set5 (then_below hB hT1) (show w.heap.size ≤ w.heap.size + 1 + 1 by omega) (.int .i64 0) (.int .i64 0) (.int .i64 0) (.slice none 0 0) (.slice none 0 0)
      obtain ⟨q0, q1, q2, q3, q4, hzq⟩ := hR2.five
      obtain ⟨f0, f1, f2, f3, f4⟩ := hR2.row5
      go_wp2_with fail
      obtain ⟨j0, j1, j2, j3, j4, _⟩ := HS.five
      exact bodyPost_ret (v := .tuple #[Y5 0 0 0 (.slice none 0 0) (.slice none 0 0), I 8]) (by simp [results, Try.f15, go_sem, j0, j1, j2, j3, j4]) rfl ⟨_, _, rfl, Yo.nil _ _, Yo.nil _ _, hlow⟩
    · cases q2
      · rw [show putD true false q3 t1 t2 g1 g2 = 8 from rfl]
        have e8 : (8 : Int) ≠ 0 := by decide
        simp only [dim_no e8, rows_no e8]
        clear e8
        go_enter Try.func15, Try.ntmps15
        go_wp2_with fail
        rw [HW.out]
        refine HM.out.mono ?_
        rintro e w1 ⟨rfl, hT1⟩
        obtain ⟨p0, p1, p2, p3, p4, hz⟩ := hK.yard hT1
        obtain ⟨s0, s1, hz1⟩ := hS.pair hT1
        go_wp2_with fail
        refine (HQ1.out _ hT1).mono ?_
        rintro e w2 ⟨rfl, hw⟩
        subst hw
        go_wp2_with fail
        refine (HQ2.out _ hT1).mono ?_
        rintro e w3 ⟨rfl, hw⟩
        subst hw
        try clear p0 p1 p2 p3 p4 hz s0 s1 hz1
        have hR2 := hR.later hT1
        have HS := hR2.set5 (.int .i64 0) (.int .i64 0) (.int .i64 0) (.slice none 0 0) (.slice none 0 0)
        have hlow := below_set5 (then_below hB hT1) (show w.heap.size ≤ w.heap.size + 1 + 1 by omega) (.int .i64 0) (.int .i64 0) (.int .i64 0) (.slice none 0 0) (.slice none 0 0)
        obtain ⟨q0, q1, q2, q3, q4, hzq⟩ := hR2.five
        obtain ⟨f0, f1, f2, f3, f4⟩ := hR2.row5
        go_wp2_with fail
        obtain ⟨j0, j1, j2, j3, j4, _⟩ := HS.five
        exact bodyPost_ret (v := .tuple #[Y5 0 0 0 (.slice none 0 0) (.slice none 0 0), I 8]) (by simp [results, Try.f15, go_sem, j0, j1, j2, j3, j4]) rfl ⟨_, _, rfl, Yo.nil _ _, Yo.nil _ _, hlow⟩
      · cases q3
        · rw [show putD true true false t1 t2 g1 g2 = 2 from rfl]
          have e2 : (2 : Int) ≠ 0 := by decide
          simp only [dim_no e2, rows_no e2]
          clear e2
          go_enter Try.func15, Try.ntmps15
          go_wp2_with fail
          rw [HW.out]
          refine HM.out.mono ?_
          rintro e w1 ⟨rfl, hT1⟩
          obtain ⟨p0, p1, p2, p3, p4, hz⟩ := hK.yard hT1
          obtain ⟨s0, s1, hz1⟩ := hS.pair hT1
          go_wp2_with fail
          refine (HQ1.out _ hT1).mono ?_
          rintro e w2 ⟨rfl, hw⟩
          subst hw
          go_wp2_with fail
          refine (HQ2.out _ hT1).mono ?_
          rintro e w3 ⟨rfl, hw⟩
          subst hw
          obtain ⟨X, hX, hBX, hD⟩ := one_start w3 (C3 f t o) 52
          have HX : Hid (w3.alloc (.cells (C3 f t o) 52) = X) := hX
          have hTX := then_below hT1 hBX
          clear hX
          go_wp2_with fail
          rw [HX.out]
          refine (HS3.out _).mono ?_
          rintro e w4 ⟨rfl, hB4⟩
          have hT4 := then_below hTX hB4
          clear p0 p1 p2 p3 p4 hz s0 s1 hz1
          try clear p0 p1 p2 p3 p4 hz s0 s1 hz1
          have hR2 := hR.later hT4
          have HS := hR2.set5 (.int .i64 0) (.int .i64 0) (.int .i64 0) (.slice none 0 0) (.slice none 0 0)
          have hlow := below_set5 (then_below hB hT4) (show w.heap.size ≤ w.heap.size + 1 + 1 by omega) (.int .i64 0) (.int .i64 0) (.int .i64 0) (.slice none 0 0) (.slice none 0 0)
          obtain ⟨q0, q1, q2, q3, q4, hzq⟩ := hR2.five
          obtain ⟨f0, f1, f2, f3, f4⟩ := hR2.row5
          go_wp2_with fail
          obtain ⟨j0, j1, j2, j3, j4, _⟩ := HS.five
          exact bodyPost_ret (v := .tuple #[Y5 0 0 0 (.slice none 0 0) (.slice none 0 0), I 2]) (by simp [results, Try.f15, go_sem, j0, j1, j2, j3, j4]) rfl ⟨_, _, rfl, Yo.nil _ _, Yo.nil _ _, hlow⟩
        · cases t1
          · cases t2
            · cases g1
              · cases g2
                · rw [show putD true true true false false false false = 0 from rfl]
                  simp only [dim_ok, rows_ok]
                  go_enter Try.func15, Try.ntmps15
                  go_wp2_with fail
                  rw [HW.out]
                  refine HM.out.mono ?_
                  rintro e w1 ⟨rfl, hT1⟩
                  obtain ⟨p0, p1, p2, p3, p4, hz⟩ := hK.yard hT1
                  obtain ⟨s0, s1, hz1⟩ := hS.pair hT1
                  go_wp2_with fail
                  refine (HQ1.out _ hT1).mono ?_
                  rintro e w2 ⟨rfl, hw⟩
                  subst hw
                  go_wp2_with fail
                  refine (HQ2.out _ hT1).mono ?_
                  rintro e w3 ⟨rfl, hw⟩
                  subst hw
                  obtain ⟨X, hX, hBX, hD⟩ := one_start w3 (C3 f t o) 52
                  have HX : Hid (w3.alloc (.cells (C3 f t o) 52) = X) := hX
                  have hTX := then_below hT1 hBX
                  clear hX
                  go_wp2_with fail
                  rw [HX.out]
                  refine (HS3.out _).mono ?_
                  rintro e w4 ⟨rfl, hB4⟩
                  have hT4 := then_below hTX hB4
                  clear p0 p1 p2 p3 p4 hz s0 s1 hz1
                  obtain ⟨p0, p1, p2, p3, p4, hz⟩ := hK.yard hT4
                  obtain ⟨s0, s1, hz1⟩ := hS.pair hT4
                  go_wp2_with fail
                  refine (HB1.out _ hT4).mono ?_
                  rintro e w5 ⟨rfl, hB5⟩
                  have hT5 := then_below hT4 hB5
                  clear p0 p1 p2 p3 p4 hz s0 s1 hz1
                  obtain ⟨p0, p1, p2, p3, p4, hz⟩ := hK.yard hT5
                  obtain ⟨s0, s1, hz1⟩ := hS.pair hT5
                  go_wp2_with fail
                  refine (HB2.out _ hT5).mono ?_
                  rintro e w6 ⟨rfl, hB6⟩
                  have hT6 := then_below hT5 hB6
                  have hDX := then_below hB4 (then_below hB5 hB6)
                  clear p0 p1 p2 p3 p4 hz s0 s1 hz1
                  have q0 := hK.later hT6
                  go_wp2_with fail
                  refine wp_region_loud3 (w0 := w6) 13 (wordC a b c (.slice an nn cn) (.slice al ll cl) (.slice am mn cm) (V3 f t o) (.slice ak ln ck) (V3 f t o) w.heap.size w6.heap.size r1 r2) hmx (by kernel_rfl) wordC_later ?_ ?_
                  · intro i op hi act w' hTT hL hpre
                    have sb : act.tmps.getD 5 undef = .pointer (some ⟨w.heap.size, 0, none⟩) := by
                      rw [Array.getD_eq_getD_getElem?, hL.out 5 (of_decide_eq_true (by kernel_rfl))]; rfl
                    have s2 : act.tmps.getD 2 undef = .slice am mn cm := by
                      rw [Array.getD_eq_getD_getElem?, hL.out 2 (of_decide_eq_true (by kernel_rfl))]; rfl
                    have s3 : act.tmps.getD 3 undef = .slice ak ln ck := by
                      rw [Array.getD_eq_getD_getElem?, hL.out 3 (of_decide_eq_true (by kernel_rfl))]; rfl
                    have s13 : act.tmps.getD 13 undef = .pointer (some ⟨w3.heap.size, 0, none⟩) := by
                      rw [Array.getD_eq_getD_getElem?, hL.out 13 (of_decide_eq_true (by kernel_rfl))]; rfl
                    obtain ⟨d0, d1, d2, hzd⟩ := hD.slot3 (then_below hDX hTT)
                    obtain ⟨p0, p1, p2, p3, p4, hz⟩ := q0.yard hTT
                    clear hL
                    match i, hi with
                    | 0, hi =>
                      obtain rfl := Option.some.inj hi
                      refine .inl ⟨.pointer (some ⟨w.heap.size, 0, none⟩), ?_, rfl⟩
                      simp [execOp, go_sem, Act.eval, sb]
                    | 1, hi =>
                      obtain rfl := Option.some.inj hi
                      have x0 : act.tmps.getD 70 undef = .pointer (some ⟨w.heap.size, 0, none⟩) := hpre ⟨0, .data⟩ (by simp) rfl
                      refine .inl ⟨A3 a b c, ?_, rfl⟩
                      simp [execOp, go_sem, Act.eval, x0, p0, p1, p2]
                    | 2, hi =>
                      obtain rfl := Option.some.inj hi
                      refine .inl ⟨.pointer (some ⟨w.heap.size, 3, none⟩), ?_, rfl⟩
                      simp [execOp, go_sem, Act.eval, sb]
                    | 3, hi =>
                      obtain rfl := Option.some.inj hi
                      have x0 : act.tmps.getD 72 undef = .pointer (some ⟨w.heap.size, 3, none⟩) := hpre ⟨2, .data⟩ (by simp) rfl
                      refine .inl ⟨.slice an nn cn, ?_, rfl⟩
                      simp [execOp, go_sem, Act.eval, x0, p3]
                    | 4, hi =>
                      obtain rfl := Option.some.inj hi
                      refine .inl ⟨(.slice am mn cm), ?_, rfl⟩
                      simp [execOp, go_sem, Act.eval, s2]
                    | 5, hi =>
                      obtain rfl := Option.some.inj hi
                      refine .inl ⟨(V3 f t o), ?_, rfl⟩
                      simp [execOp, go_sem, Act.eval, s13, d0, d1, d2]
                    | 6, hi =>
                      obtain rfl := Option.some.inj hi
                      have x0 : act.tmps.getD 73 undef = .slice an nn cn := hpre ⟨3, .data⟩ (by simp) rfl
                      have x1 : act.tmps.getD 74 undef = (.slice am mn cm) := hpre ⟨4, .data⟩ (by simp) rfl
                      have x2 : act.tmps.getD 75 undef = (V3 f t o) := hpre ⟨5, .data⟩ (by simp) rfl
                      refine .inr ⟨44, #[.slice an nn cn, (.slice am mn cm), (V3 f t o)], ?_, ?_⟩
                      · simp [go_sem, Act.eval, x0, x1, x2]
                      · refine (HC1.out w' (then_below hT6 hTT)).mono ?_
                        rintro e w'' ⟨u, rfl, hU, hb⟩
                        obtain ⟨ao1, n1, c1, rfl⟩ := hU.slice
                        exact ⟨_, rfl, hb, ao1, n1, c1, rfl, hU.weak hTT.size⟩
                    | 7, hi =>
                      obtain rfl := Option.some.inj hi
                      refine .inl ⟨.pointer (some ⟨w.heap.size, 4, none⟩), ?_, rfl⟩
                      simp [execOp, go_sem, Act.eval, sb]
                    | 8, hi =>
                      obtain rfl := Option.some.inj hi
                      have x0 : act.tmps.getD 77 undef = .pointer (some ⟨w.heap.size, 4, none⟩) := hpre ⟨7, .data⟩ (by simp) rfl
                      refine .inl ⟨.slice al ll cl, ?_, rfl⟩
                      simp [execOp, go_sem, Act.eval, x0, p4]
                    | 9, hi =>
                      obtain rfl := Option.some.inj hi
                      refine .inl ⟨(.slice ak ln ck), ?_, rfl⟩
                      simp [execOp, go_sem, Act.eval, s3]
                    | 10, hi =>
                      obtain rfl := Option.some.inj hi
                      refine .inl ⟨(V3 f t o), ?_, rfl⟩
                      simp [execOp, go_sem, Act.eval, s13, d0, d1, d2]
                    | 11, hi =>
                      obtain rfl := Option.some.inj hi
                      have x0 : act.tmps.getD 78 undef = .slice al ll cl := hpre ⟨8, .data⟩ (by simp) rfl
                      have x1 : act.tmps.getD 79 undef = (.slice ak ln ck) := hpre ⟨9, .data⟩ (by simp) rfl
                      have x2 : act.tmps.getD 80 undef = (V3 f t o) := hpre ⟨10, .data⟩ (by simp) rfl
                      refine .inr ⟨44, #[.slice al ll cl, (.slice ak ln ck), (V3 f t o)], ?_, ?_⟩
                      · simp [go_sem, Act.eval, x0, x1, x2]
                      · refine (HC2.out w' (then_below hT6 hTT)).mono ?_
                        rintro e w'' ⟨u, rfl, hU, hb⟩
                        obtain ⟨ao1, n1, c1, rfl⟩ := hU.slice
                        exact ⟨_, rfl, hb, ao1, n1, c1, rfl, hU.weak hTT.size⟩
                    | 12, hi =>
                      obtain rfl := Option.some.inj hi
                      have x0 : act.tmps.getD 71 undef = A3 a b c := hpre ⟨1, .data⟩ (by simp) rfl
                      obtain ⟨ao1, n1, c1, x1, k1⟩ : ∃ ao n1 c1, act.tmps.getD 76 undef = .slice ao n1 c1 ∧ Yo w' w6.heap.size (act.tmps.getD 76 undef) r1 := hpre ⟨6, .data⟩ (by simp) rfl
                      obtain ⟨ao2, n2, c2, x2, k2⟩ : ∃ ao n1 c1, act.tmps.getD 81 undef = .slice ao n1 c1 ∧ Yo w' w6.heap.size (act.tmps.getD 81 undef) r2 := hpre ⟨11, .data⟩ (by simp) rfl
                      rw [x1] at k1
                      rw [x2] at k2
                      refine .inl ⟨Y5 a b c (.slice ao1 n1 c1) (.slice ao2 n2 c2), ?_, _, _, _, _, _, _, rfl, k1, k2⟩
                      rw [Array.getD_eq_getD_getElem?] at x0 x1 x2
                      simp [execOp, go_sem, Act.eval, x0, x1, x2]
                    | n + 13, hi => simp at hi
                  · intro vs wv hTv hall
                    obtain ⟨ao1, n1, c1, ao2, n2, c2, h12, hU, hV⟩ : ∃ ao1 n1 c1 ao2 n2 c2, vs 12 = Y5 a b c (.slice ao1 n1 c1) (.slice ao2 n2 c2) ∧ Yo wv w6.heap.size (.slice ao1 n1 c1) r1 ∧ Yo wv w6.heap.size (.slice ao2 n2 c2) r2 := hall 12 (by decide)
                    clear hall
                    simp only [List.take_succ_cons, List.take_zero, List.drop_succ_cons, List.drop_zero, List.length_cons, List.length_nil, Nat.zero_add, Nat.reduceAdd, List.range, List.range.loop, List.foldl_cons, List.foldl_nil, dstOf, List.getElem?_cons_zero, List.getElem?_cons_succ, Option.getD_some, Act.put, h12, List.setIfInBounds_toArray, List.set_cons_succ, List.set_cons_zero]
                    clear h12
                    generalize vs 0 = yy0
                    generalize vs 1 = yy1
                    generalize vs 2 = yy2
                    generalize vs 3 = yy3
                    generalize vs 4 = yy4
                    generalize vs 5 = yy5
                    generalize vs 6 = yy6
                    generalize vs 7 = yy7
                    generalize vs 8 = yy8
                    generalize vs 9 = yy9
                    generalize vs 10 = yy10
                    generalize vs 11 = yy11
                    clear vs
                    have hTv2 := then_below hT6 hTv
                    have hR2 := hR.later hTv2
                    have HS := hR2.set5 (.int .i64 a) (.int .i64 b) (.int .i64 c) (.slice ao1 n1 c1) (.slice ao2 n2 c2)
                    have hlow := below_set5 (then_below hB hTv2) (show w.heap.size ≤ w.heap.size + 1 + 1 by omega) (.int .i64 a) (.int .i64 b) (.int .i64 c) (.slice ao1 n1 c1) (.slice ao2 n2 c2)
                    have HU : Hid (Yo (put5 wv (w.heap.size + 1 + 1) (.int .i64 a) (.int .i64 b) (.int .i64 c) (.slice ao1 n1 c1) (.slice ao2 n2 c2)) w.heap.size (.slice ao1 n1 c1) r1) := (hU.put5 (Nat.lt_of_lt_of_le hWs hT6.size) _ _ _ _ _).weak (Nat.le_trans hB.size hT6.size)
                    have HV : Hid (Yo (put5 wv (w.heap.size + 1 + 1) (.int .i64 a) (.int .i64 b) (.int .i64 c) (.slice ao1 n1 c1) (.slice ao2 n2 c2)) w.heap.size (.slice ao2 n2 c2) r2) := (hV.put5 (Nat.lt_of_lt_of_le hWs hT6.size) _ _ _ _ _).weak (Nat.le_trans hB.size hT6.size)
                    clear hU hV q0
                    obtain ⟨q0, q1, q2, q3, q4, hzq⟩ := hR2.five
                    obtain ⟨f0, f1, f2, f3, f4⟩ := hR2.row5
                    gi_wp2
                    go_wp2
                    obtain ⟨j0, j1, j2, j3, j4, _⟩ := HS.five
                    exact bodyPost_ret (v := .tuple #[Y5 a b c (.slice ao1 n1 c1) (.slice ao2 n2 c2), I 0]) (by simp [results, Try.f15, go_sem, j0, j1, j2, j3, j4]) rfl ⟨_, _, rfl, HU.out, HV.out, hlow⟩
                · rw [show putD true true true false false false true = 4 from rfl]
                  have e4 : (4 : Int) ≠ 0 := by decide
                  simp only [dim_no e4, rows_no e4]
                  clear e4
                  go_enter Try.func15, Try.ntmps15
                  go_wp2_with fail
                  rw [HW.out]
                  refine HM.out.mono ?_
                  rintro e w1 ⟨rfl, hT1⟩
                  obtain ⟨p0, p1, p2, p3, p4, hz⟩ := hK.yard hT1
                  obtain ⟨s0, s1, hz1⟩ := hS.pair hT1
                  go_wp2_with fail
                  refine (HQ1.out _ hT1).mono ?_
                  rintro e w2 ⟨rfl, hw⟩
                  subst hw
                  go_wp2_with fail
                  refine (HQ2.out _ hT1).mono ?_
                  rintro e w3 ⟨rfl, hw⟩
                  subst hw
                  obtain ⟨X, hX, hBX, hD⟩ := one_start w3 (C3 f t o) 52
                  have HX : Hid (w3.alloc (.cells (C3 f t o) 52) = X) := hX
                  have hTX := then_below hT1 hBX
                  clear hX
                  go_wp2_with fail
                  rw [HX.out]
                  refine (HS3.out _).mono ?_
                  rintro e w4 ⟨rfl, hB4⟩
                  have hT4 := then_below hTX hB4
                  clear p0 p1 p2 p3 p4 hz s0 s1 hz1
                  obtain ⟨p0, p1, p2, p3, p4, hz⟩ := hK.yard hT4
                  obtain ⟨s0, s1, hz1⟩ := hS.pair hT4
                  go_wp2_with fail
                  refine (HB1.out _ hT4).mono ?_
                  rintro e w5 ⟨rfl, hB5⟩
                  have hT5 := then_below hT4 hB5
                  clear p0 p1 p2 p3 p4 hz s0 s1 hz1
                  obtain ⟨p0, p1, p2, p3, p4, hz⟩ := hK.yard hT5
                  obtain ⟨s0, s1, hz1⟩ := hS.pair hT5
                  go_wp2_with fail
                  refine (HB2.out _ hT5).mono ?_
                  rintro e w6 ⟨rfl, hB6⟩
                  have hT6 := then_below hT5 hB6
                  have hDX := then_below hB4 (then_below hB5 hB6)
                  clear p0 p1 p2 p3 p4 hz s0 s1 hz1
                  try clear p0 p1 p2 p3 p4 hz s0 s1 hz1
                  have hR2 := hR.later hT6
                  have HS := hR2.set5 (.int .i64 0) (.int .i64 0) (.int .i64 0) (.slice none 0 0) (.slice none 0 0)
                  have hlow := below_set5 (then_below hB hT6) (show w.heap.size ≤ w.heap.size + 1 + 1 by omega) (.int .i64 0) (.int .i64 0) (.int .i64 0) (.slice none 0 0) (.slice none 0 0)
                  obtain ⟨q0, q1, q2, q3, q4, hzq⟩ := hR2.five
                  obtain ⟨f0, f1, f2, f3, f4⟩ := hR2.row5
                  go_wp2_with fail
                  obtain ⟨j0, j1, j2, j3, j4, _⟩ := HS.five
                  exact bodyPost_ret (v := .tuple #[Y5 0 0 0 (.slice none 0 0) (.slice none 0 0), I 4]) (by simp [results, Try.f15, go_sem, j0, j1, j2, j3, j4]) rfl ⟨_, _, rfl, Yo.nil _ _, Yo.nil _ _, hlow⟩
              · rw [show putD true true true false false true g2 = 4 from rfl]
                have e4 : (4 : Int) ≠ 0 := by decide
                simp only [dim_no e4, rows_no e4]
                clear e4
                go_enter Try.func15, Try.ntmps15
                go_wp2_with fail
                rw [HW.out]
                refine HM.out.mono ?_
                rintro e w1 ⟨rfl, hT1⟩
                obtain ⟨p0, p1, p2, p3, p4, hz⟩ := hK.yard hT1
                obtain ⟨s0, s1, hz1⟩ := hS.pair hT1
                go_wp2_with fail
                refine (HQ1.out _ hT1).mono ?_
                rintro e w2 ⟨rfl, hw⟩
                subst hw
                go_wp2_with fail
                refine (HQ2.out _ hT1).mono ?_
                rintro e w3 ⟨rfl, hw⟩
                subst hw
                obtain ⟨X, hX, hBX, hD⟩ := one_start w3 (C3 f t o) 52
                have HX : Hid (w3.alloc (.cells (C3 f t o) 52) = X) := hX
                have hTX := then_below hT1 hBX
                clear hX
                go_wp2_with fail
                rw [HX.out]
                refine (HS3.out _).mono ?_
                rintro e w4 ⟨rfl, hB4⟩
                have hT4 := then_below hTX hB4
                clear p0 p1 p2 p3 p4 hz s0 s1 hz1
                obtain ⟨p0, p1, p2, p3, p4, hz⟩ := hK.yard hT4
                obtain ⟨s0, s1, hz1⟩ := hS.pair hT4
                go_wp2_with fail
                refine (HB1.out _ hT4).mono ?_
                rintro e w5 ⟨rfl, hB5⟩
                have hT5 := then_below hT4 hB5
                clear p0 p1 p2 p3 p4 hz s0 s1 hz1
                obtain ⟨p0, p1, p2, p3, p4, hz⟩ := hK.yard hT5
                obtain ⟨s0, s1, hz1⟩ := hS.pair hT5
                go_wp2_with fail
                refine (HB2.out _ hT5).mono ?_
                rintro e w6 ⟨rfl, hB6⟩
                have hT6 := then_below hT5 hB6
                have hDX := then_below hB4 (then_below hB5 hB6)
                clear p0 p1 p2 p3 p4 hz s0 s1 hz1
                try clear p0 p1 p2 p3 p4 hz s0 s1 hz1
                have hR2 := hR.later hT6
                have HS := hR2.set5 (.int .i64 0) (.int .i64 0) (.int .i64 0) (.slice none 0 0) (.slice none 0 0)
                have hlow := below_set5 (then_below hB hT6) (show w.heap.size ≤ w.heap.size + 1 + 1 by omega) (.int .i64 0) (.int .i64 0) (.int .i64 0) (.slice none 0 0) (.slice none 0 0)
                obtain ⟨q0, q1, q2, q3, q4, hzq⟩ := hR2.five
                obtain ⟨f0, f1, f2, f3, f4⟩ := hR2.row5
                go_wp2_with fail
                obtain ⟨j0, j1, j2, j3, j4, _⟩ := HS.five
                exact bodyPost_ret (v := .tuple #[Y5 0 0 0 (.slice none 0 0) (.slice none 0 0), I 4]) (by simp [results, Try.f15, go_sem, j0, j1, j2, j3, j4]) rfl ⟨_, _, rfl, Yo.nil _ _, Yo.nil _ _, hlow⟩
            · rw [show putD true true true false true g1 g2 = 80 from rfl]
              have e80 : (80 : Int) ≠ 0 := by decide
              simp only [dim_no e80, rows_no e80]
              clear e80
              go_enter Try.func15, Try.ntmps15
              go_wp2_with fail
              rw [HW.out]
              refine HM.out.mono ?_
              rintro e w1 ⟨rfl, hT1⟩
              obtain ⟨p0, p1, p2, p3, p4, hz⟩ := hK.yard hT1
              obtain ⟨s0, s1, hz1⟩ := hS.pair hT1
              go_wp2_with fail
              refine (HQ1.out _ hT1).mono ?_
              rintro e w2 ⟨rfl, hw⟩
              subst hw
              go_wp2_with fail
              refine (HQ2.out _ hT1).mono ?_
              rintro e w3 ⟨rfl, hw⟩
              subst hw
              obtain ⟨X, hX, hBX, hD⟩ := one_start w3 (C3 f t o) 52
              have HX : Hid (w3.alloc (.cells (C3 f t o) 52) = X) := hX
              have hTX := then_below hT1 hBX
              clear hX
              go_wp2_with fail
              rw [HX.out]
              refine (HS3.out _).mono ?_
              rintro e w4 ⟨rfl, hB4⟩
              have hT4 := then_below hTX hB4
              clear p0 p1 p2 p3 p4 hz s0 s1 hz1
              obtain ⟨p0, p1, p2, p3, p4, hz⟩ := hK.yard hT4
              obtain ⟨s0, s1, hz1⟩ := hS.pair hT4
              go_wp2_with fail
              refine (HB1.out _ hT4).mono ?_
              rintro e w5 ⟨rfl, hB5⟩
              have hT5 := then_below hT4 hB5
              clear p0 p1 p2 p3 p4 hz s0 s1 hz1
              obtain ⟨p0, p1, p2, p3, p4, hz⟩ := hK.yard hT5
              obtain ⟨s0, s1, hz1⟩ := hS.pair hT5
              go_wp2_with fail
              refine (HB2.out _ hT5).mono ?_
              rintro e w6 ⟨rfl, hB6⟩
              have hT6 := then_below hT5 hB6
              have hDX := then_below hB4 (then_below hB5 hB6)
              clear p0 p1 p2 p3 p4 hz s0 s1 hz1
              try clear p0 p1 p2 p3 p4 hz s0 s1 hz1
              have hR2 := hR.later hT6
              have HS := hR2.set5 (.int .i64 0) (.int .i64 0) (.int .i64 0) (.slice none 0 0) (.slice none 0 0)
              have hlow := below_set5 (then_below hB hT6) (show w.heap.size ≤ w.heap.size + 1 + 1 by omega) (.int .i64 0) (.int .i64 0) (.int .i64 0) (.slice none 0 0) (.slice none 0 0)
              obtain ⟨q0, q1, q2, q3, q4, hzq⟩ := hR2.five
              obtain ⟨f0, f1, f2, f3, f4⟩ := hR2.row5
              go_wp2_with fail
              obtain ⟨j0, j1, j2, j3, j4, _⟩ := HS.five
              exact bodyPost_ret (v := .tuple #[Y5 0 0 0 (.slice none 0 0) (.slice none 0 0), I 80]) (by simp [results, Try.f15, go_sem, j0, j1, j2, j3, j4]) rfl ⟨_, _, rfl, Yo.nil _ _, Yo.nil _ _, hlow⟩
          · rw [show putD true true true true t2 g1 g2 = 80 from rfl]
            have e80 : (80 : Int) ≠ 0 := by decide
            simp only [dim_no e80, rows_no e80]
            clear e80
            go_enter Try.func15, Try.ntmps15
            go_wp2_with fail
            rw [HW.out]
            refine HM.out.mono ?_
            rintro e w1 ⟨rfl, hT1⟩
            obtain ⟨p0, p1, p2, p3, p4, hz⟩ := hK.yard hT1
            obtain ⟨s0, s1, hz1⟩ := hS.pair hT1
            go_wp2_with fail
            refine (HQ1.out _ hT1).mono ?_
            rintro e w2 ⟨rfl, hw⟩
            subst hw
            go_wp2_with fail
            refine (HQ2.out _ hT1).mono ?_
            rintro e w3 ⟨rfl, hw⟩
            subst hw
            obtain ⟨X, hX, hBX, hD⟩ := one_start w3 (C3 f t o) 52
            have HX : Hid (w3.alloc (.cells (C3 f t o) 52) = X) := hX
            have hTX := then_below hT1 hBX
            clear hX
            go_wp2_with fail
            rw [HX.out]
            refine (HS3.out _).mono ?_
            rintro e w4 ⟨rfl, hB4⟩
            have hT4 := then_below hTX hB4
            clear p0 p1 p2 p3 p4 hz s0 s1 hz1
            obtain ⟨p0, p1, p2, p3, p4, hz⟩ := hK.yard hT4
            obtain ⟨s0, s1, hz1⟩ := hS.pair hT4
            go_wp2_with fail
            refine (HB1.out _ hT4).mono ?_
            rintro e w5 ⟨rfl, hB5⟩
            have hT5 := then_below hT4 hB5
            clear p0 p1 p2 p3 p4 hz s0 s1 hz1
            obtain ⟨p0, p1, p2, p3, p4, hz⟩ := hK.yard hT5
            obtain ⟨s0, s1, hz1⟩ := hS.pair hT5
            go_wp2_with fail
            refine (HB2.out _ hT5).mono ?_
            rintro e w6 ⟨rfl, hB6⟩
            have hT6 := then_below hT5 hB6
            have hDX := then_below hB4 (then_below hB5 hB6)
            clear p0 p1 p2 p3 p4 hz s0 s1 hz1
            try clear p0 p1 p2 p3 p4 hz s0 s1 hz1
            have hR2 := hR.later hT6
            have HS := hR2.set5 (.int .i64 0) (.int .i64 0) (.int .i64 0) (.slice none 0 0) (.slice none 0 0)
            have hlow := below_set5 (then_below hB hT6) (show w.heap.size ≤ w.heap.size + 1 + 1 by omega) (.int .i64 0) (.int .i64 0) (.int .i64 0) (.slice none 0 0) (.slice none 0 0)
            obtain ⟨q0, q1, q2, q3, q4, hzq⟩ := hR2.five
            obtain ⟨f0, f1, f2, f3, f4⟩ := hR2.row5
            go_wp2_with fail
            obtain ⟨j0, j1, j2, j3, j4, _⟩ := HS.five
            exact bodyPost_ret (v := .tuple #[Y5 0 0 0 (.slice none 0 0) (.slice none 0 0), I 80]) (by simp [results, Try.f15, go_sem, j0, j1, j2, j3, j4]) rfl ⟨_, _, rfl, Yo.nil _ _, Yo.nil _ _, hlow⟩
  · have E : putYE a b c ns ls mw lw f t o = 8 := by
      have hc : checkE a b c ns ls mw lw f t o = 8 := by rw [checkE, mayYB_no hm]; rfl
      rw [putYE, hc]; rfl
    rw [E]
    rw [mayYB_no hm] at HM
    have e8 : (8 : Int) ≠ 0 := by decide
    simp only [dim_no e8, rows_no e8]
    clear hW hN hL hM hK' hs hm e8 h2 h6 E
    go_enter Try.func15, Try.ntmps15
    go_wp2_with fail
    rw [HW.out]
    refine HM.out.mono ?_
    rintro e w1 ⟨rfl, hT1⟩
    have hR2 := hR.later hT1
    have HS := hR2.set5 (.int .i64 0) (.int .i64 0) (.int .i64 0) (.slice none 0 0) (.slice none 0 0)
    have hlow := below_set5 (then_below hB hT1) (show w.heap.size ≤ w.heap.size + 1 + 1 by omega) (.int .i64 0) (.int .i64 0) (.int .i64 0) (.slice none 0 0) (.slice none 0 0)
    obtain ⟨q0, q1, q2, q3, q4, hzq⟩ := hR2.five
    obtain ⟨f0, f1, f2, f3, f4⟩ := hR2.row5
    go_wp2_with fail
    obtain ⟨j0, j1, j2, j3, j4, _⟩ := HS.five
    exact bodyPost_ret (v := .tuple #[Y5 0 0 0 (.slice none 0 0) (.slice none 0 0), I 8]) (by simp [results, Try.f15, go_sem, j0, j1, j2, j3, j4]) rfl ⟨_, _, rfl, Yo.nil _ _, Yo.nil _ _, hlow⟩

/-- What each operation of a statement comes to that makes two sets. -/
def wordT (vn vl : Value) (xs : List Value) (B base : Nat) (s1 s2 : List Nat) (i : Nat) (v : Value) (w : World) : Prop :=
  if i = 0 then v = .pointer (some ⟨B, 3, none⟩) else if i = 1 then v = vn else if i < 2 + xs.length then v = xs.getD (i - 2) undef else if i = 2 + xs.length then SetR w base v s1
  else if i = 3 + xs.length then v = .pointer (some ⟨B, 4, none⟩) else if i = 4 + xs.length then v = vl else if i < 5 + 2 * xs.length then v = xs.getD (i - 5 - xs.length) undef else if i = 5 + 2 * xs.length then SetR w base v s2 else False
theorem wordT_later {vn vl : Value} {xs : List Value} {B base : Nat} {s1 s2 : List Nat} (i : Nat) (v : Value) (w w' : World) (h : wordT vn vl xs B base s1 s2 i v w) (hB : Below w.heap.size w w') : wordT vn vl xs B base s1 s2 i v w' := by
  unfold wordT at h ⊢
  by_cases c0 : i = 0
  · rw [if_pos c0] at h ⊢; exact h
  · rw [if_neg c0] at h ⊢
    by_cases c1 : i = 1
    · rw [if_pos c1] at h ⊢; exact h
    · rw [if_neg c1] at h ⊢
      by_cases c2 : i < 2 + xs.length
      · rw [if_pos c2] at h ⊢; exact h
      · rw [if_neg c2] at h ⊢
        by_cases c3 : i = 2 + xs.length
        · rw [if_pos c3] at h ⊢; exact SetR.later h hB
        · rw [if_neg c3] at h ⊢
          by_cases c4 : i = 3 + xs.length
          · rw [if_pos c4] at h ⊢; exact h
          · rw [if_neg c4] at h ⊢
            by_cases c5 : i = 4 + xs.length
            · rw [if_pos c5] at h ⊢; exact h
            · rw [if_neg c5] at h ⊢
              by_cases c6 : i < 5 + 2 * xs.length
              · rw [if_pos c6] at h ⊢; exact h
              · rw [if_neg c6] at h ⊢
                by_cases c7 : i = 5 + 2 * xs.length
                · rw [if_pos c7] at h ⊢; exact SetR.later h hB
                · rw [if_neg c7] at h ⊢
                  exact h

set_option maxRecDepth 100000 in
set_option maxHeartbeats 16000000 in
theorem rThrough_calls {a b c : Int} {n l : Value} {ns ls : List (List Slt)} {x y : Int} (w : World) (hN : Yl w n ns) (hL : Yl w l ls) (hs : Small ns ls) (h1 : 1 ≤ ns.length) (h2 : 1 ≤ ls.length) :
    Calls Try.prog 63 #[Y5 a b c n l, S2 x y] w fun e W' => ∃ u v, e = .returned (.tuple #[u, v]) ∧ SetR W' w.heap.size u (setOf ns.length (busyP ns x y)) ∧ SetR W' w.heap.size v (setOf ls.length (busyP ls x y)) ∧ Below w.heap.size w W' := by
  have hmx : Try.prog.follows .mixedOrders = true := by kernel_rfl
  obtain ⟨W, hW, hB, hK, hS⟩ := two_start w (K5 a b c n l) (C2 x y) 26 36
  have HW : Hid ((w.alloc (.cells (K5 a b c n l) 26)).alloc (.cells (C2 x y) 36) = W) := hW
  have h200 := hs.nodes
  have h600 := hs.links
  have HC1 : Hid (∀ w1, Below W.heap.size W w1 → Calls Try.prog 98 #[n, S2 x y] w1 fun e W' => ∃ u, e = .returned u ∧ SetR W' w1.heap.size u (setOf ns.length (busyP ns x y)) ∧ Below w1.heap.size w1 W') := fun w1 hb => rbusyL_calls w1 (hN.later (then_below hB hb)) h1 (by omega) hs.node
  have HC2 : Hid (∀ w1, Below W.heap.size W w1 → Calls Try.prog 98 #[l, S2 x y] w1 fun e W' => ∃ u, e = .returned u ∧ SetR W' w1.heap.size u (setOf ls.length (busyP ls x y)) ∧ Below w1.heap.size w1 W') := fun w1 hb => rbusyL_calls w1 (hL.later (then_below hB hb)) h2 (by omega) hs.link
  obtain ⟨an, cn, rfl, _⟩ := hN.form
  obtain ⟨al, cl, rfl, _⟩ := hL.form
  have hT := Below.refl W.heap.size W
  clear hW hN hL hs h1 h2 h200 h600
  generalize setOf (ns.length : Int) (busyP ns x y) = g1 at *
  generalize setOf (ls.length : Int) (busyP ls x y) = g2 at *
  generalize ns.length = nn at *
  generalize ls.length = ll at *
  go_enter Try.func63, Try.ntmps63
  go_wp2_with fail
  rw [HW.out]
  have q0 := hK.later hT
  refine wp_region_loud3 (w0 := W) 8 (wordT (.slice an nn cn) (.slice al ll cl) [(S2 x y)] w.heap.size W.heap.size g1 g2) hmx (by kernel_rfl) wordT_later ?_ ?_
  · intro i op hi act w' hTT hL hpre
    have sb : act.tmps.getD 2 undef = .pointer (some ⟨w.heap.size, 0, none⟩) := by
      rw [Array.getD_eq_getD_getElem?, hL.out 2 (of_decide_eq_true (by kernel_rfl))]; rfl
    have s3 : act.tmps.getD 3 undef = .pointer (some ⟨w.heap.size + 1, 0, none⟩) := by
      rw [Array.getD_eq_getD_getElem?, hL.out 3 (of_decide_eq_true (by kernel_rfl))]; rfl
    obtain ⟨d0, d1, hzd⟩ := hS.pair hTT
    obtain ⟨p0, p1, p2, p3, p4, hz⟩ := q0.yard hTT
    clear hL
    match i, hi with
    | 0, hi =>
      obtain rfl := Option.some.inj hi
      refine .inl ⟨.pointer (some ⟨w.heap.size, 3, none⟩), ?_, rfl⟩
      simp [execOp, go_sem, Act.eval, sb]
    | 1, hi =>
      obtain rfl := Option.some.inj hi
      have x0 : act.tmps.getD 6 undef = .pointer (some ⟨w.heap.size, 3, none⟩) := hpre ⟨0, .data⟩ (by simp) rfl
      refine .inl ⟨.slice an nn cn, ?_, rfl⟩
      simp [execOp, go_sem, Act.eval, x0, p3]
    | 2, hi =>
      obtain rfl := Option.some.inj hi
      refine .inl ⟨(S2 x y), ?_, rfl⟩
      simp [execOp, go_sem, Act.eval, s3, d0, d1]
    | 3, hi =>
      obtain rfl := Option.some.inj hi
      have x0 : act.tmps.getD 7 undef = .slice an nn cn := hpre ⟨1, .data⟩ (by simp) rfl
      have x1 : act.tmps.getD 8 undef = (S2 x y) := hpre ⟨2, .data⟩ (by simp) rfl
      refine .inr ⟨98, #[.slice an nn cn, (S2 x y)], ?_, ?_⟩
      · simp [go_sem, Act.eval, x0, x1]
      · refine (HC1.out w' (then_below hT hTT)).mono ?_
        rintro e w'' ⟨u, rfl, hU, hb⟩
        exact ⟨_, rfl, hb, hU.weak hTT.size⟩
    | 4, hi =>
      obtain rfl := Option.some.inj hi
      refine .inl ⟨.pointer (some ⟨w.heap.size, 4, none⟩), ?_, rfl⟩
      simp [execOp, go_sem, Act.eval, sb]
    | 5, hi =>
      obtain rfl := Option.some.inj hi
      have x0 : act.tmps.getD 10 undef = .pointer (some ⟨w.heap.size, 4, none⟩) := hpre ⟨4, .data⟩ (by simp) rfl
      refine .inl ⟨.slice al ll cl, ?_, rfl⟩
      simp [execOp, go_sem, Act.eval, x0, p4]
    | 6, hi =>
      obtain rfl := Option.some.inj hi
      refine .inl ⟨(S2 x y), ?_, rfl⟩
      simp [execOp, go_sem, Act.eval, s3, d0, d1]
    | 7, hi =>
      obtain rfl := Option.some.inj hi
      have x0 : act.tmps.getD 11 undef = .slice al ll cl := hpre ⟨5, .data⟩ (by simp) rfl
      have x1 : act.tmps.getD 12 undef = (S2 x y) := hpre ⟨6, .data⟩ (by simp) rfl
      refine .inr ⟨98, #[.slice al ll cl, (S2 x y)], ?_, ?_⟩
      · simp [go_sem, Act.eval, x0, x1]
      · refine (HC2.out w' (then_below hT hTT)).mono ?_
        rintro e w'' ⟨u, rfl, hU, hb⟩
        exact ⟨_, rfl, hb, hU.weak hTT.size⟩
    | n + 8, hi => simp at hi
  · intro vs wv hTv hall
    have hU : SetR wv W.heap.size (vs 3) g1 := hall 3 (by decide)
    have hV : SetR wv W.heap.size (vs 7) g2 := hall 7 (by decide)
    clear hall
    simp only [List.take_succ_cons, List.take_zero, List.drop_succ_cons, List.drop_zero, List.length_cons, List.length_nil, Nat.zero_add, Nat.reduceAdd, List.range, List.range.loop, List.foldl_cons, List.foldl_nil, dstOf, List.getElem?_cons_zero, List.getElem?_cons_succ, Option.getD_some, Act.put, List.setIfInBounds_toArray, List.set_cons_succ, List.set_cons_zero]
    generalize vs 0 = yy0 at *
    generalize vs 1 = yy1 at *
    generalize vs 2 = yy2 at *
    generalize vs 3 = yy3 at *
    generalize vs 4 = yy4 at *
    generalize vs 5 = yy5 at *
    generalize vs 6 = yy6 at *
    generalize vs 7 = yy7 at *
    clear vs
    have hTv2 := then_below hT hTv
    have HU : Hid (SetR wv w.heap.size yy3 g1) := hU.weak (Nat.le_trans hB.size hT.size)
    have HV : Hid (SetR wv w.heap.size yy7 g2) := hV.weak (Nat.le_trans hB.size hT.size)
    clear hU hV q0
    gi_wp2
    go_wp2
    go_ret2
    exact ⟨_, _, rfl, HU.out, HV.out, then_below hB hTv2⟩

set_option maxHeartbeats 8000000 in
theorem rBusyY_calls {a b c : Int} {n l : Value} {ns ls : List (List Slt)} {x y : Int} (w : World) (hN : Yl w n ns) (hL : Yl w l ls) (hs : Small ns ls) : Calls Try.prog 26 #[Y5 a b c n l, S2 x y] w fun e W' => ∃ u v, e = .returned (.tuple #[u, v, I (busyE a b c ns ls x y)]) ∧ SetR W' w.heap.size u (wordsE (busyE a b c ns ls x y) ns.length (busyP ns x y)) ∧ SetR W' w.heap.size v (wordsE (busyE a b c ns ls x y) ls.length (busyP ls x y)) ∧ Below w.heap.size w W' := by
  obtain ⟨W, hW, hB, hK, hK2⟩ := two_start w (K5 a b c n l) (C2 x y) 26 36
  have HW : Hid ((w.alloc (.cells (K5 a b c n l) 26)).alloc (.cells (C2 x y) 36) = W) := hW
  have HC : Hid (Calls Try.prog 45 #[Y5 a b c n l] W fun e W' => e = .returned (.bool (mayYB a b c ns ls)) ∧ Below W.heap.size W W') := rmayY_calls W (hN.later hB) (hL.later hB) hs
  have HT : Hid (∀ w, Calls Try.prog 62 #[S2 x y] w fun e W' => e = .returned (.bool (maySpB x y)) ∧ Below w.heap.size w W') := rmayS_calls x y
  have H1 : Hid (mayY a b c ns ls → ∀ w1, Below W.heap.size W w1 → Calls Try.prog 63 #[Y5 a b c n l, S2 x y] w1 fun e W' => ∃ u v, e = .returned (.tuple #[u, v]) ∧ SetR W' w1.heap.size u (setOf ns.length (busyP ns x y)) ∧ SetR W' w1.heap.size v (setOf ls.length (busyP ls x y)) ∧ Below w1.heap.size w1 W') := fun hm w1 hb => rThrough_calls w1 (hN.later (then_below hB hb)) (hL.later (then_below hB hb)) hs hm.bd.1 (by have := hm.bd; omega)
  by_cases hm : mayY a b c ns ls
  · rw [mayYB_iff.2 hm] at HC
    cases hsp : maySpB x y
    · have E : busyE a b c ns ls x y = 2 := by rw [busyE, if_pos (mayYB_iff.2 hm), hsp]; rfl
      rw [E, wordsE, if_neg (by decide), wordsE, if_neg (by decide)]
      rw [hsp] at HT
      clear hW hN hL hm hsp E H1 hs
      go_enter Try.func26, Try.ntmps26
      go_wp2_with fail
      rw [HW.out]
      refine HC.out.mono ?_
      rintro e w1 ⟨rfl, hT⟩
      obtain ⟨c0, c1, hz1⟩ := hK2.pair hT
      go_wp2_with fail
      refine (HT.out _).mono ?_
      rintro e w2 ⟨rfl, hB2⟩
      go_wp2
      refine bodyPost_ret (results_tmp3 rfl _ _ _) rfl ?_
      exact ⟨_, _, rfl, .inr ⟨rfl, rfl⟩, .inr ⟨rfl, rfl⟩, then_below hB (then_below hT hB2)⟩
    · have E : busyE a b c ns ls x y = 0 := by rw [busyE, if_pos (mayYB_iff.2 hm), if_pos hsp]
      rw [E, wordsE, if_pos rfl, wordsE, if_pos rfl]
      rw [hsp] at HT
      have H2 : Hid (∀ w1, Below W.heap.size W w1 → Calls Try.prog 63 #[Y5 a b c n l, S2 x y] w1 fun e W' => ∃ u v, e = .returned (.tuple #[u, v]) ∧ SetR W' w1.heap.size u (setOf ns.length (busyP ns x y)) ∧ SetR W' w1.heap.size v (setOf ls.length (busyP ls x y)) ∧ Below w1.heap.size w1 W') := H1.out hm
      clear hW hN hL hm hsp E H1 hs
      generalize setOf (ns.length : Int) (busyP ns x y) = s1 at *
      generalize setOf (ls.length : Int) (busyP ls x y) = s2 at *
      go_enter Try.func26, Try.ntmps26
      go_wp2_with fail
      rw [HW.out]
      refine HC.out.mono ?_
      rintro e w1 ⟨rfl, hT⟩
      obtain ⟨c0, c1, hz1⟩ := hK2.pair hT
      obtain ⟨p0, p1, p2, p3, p4, hz⟩ := hK.yard hT
      go_wp2_with fail
      refine (HT.out _).mono ?_
      rintro e w2 ⟨rfl, hB2⟩
      have hT2 := then_below hT hB2
      clear c0 c1 hz1 p0 p1 p2 p3 p4 hz
      obtain ⟨c0, c1, hz1⟩ := hK2.pair hT2
      obtain ⟨p0, p1, p2, p3, p4, hz⟩ := hK.yard hT2
      go_wp2_with fail
      refine (H2.out _ hT2).mono ?_
      rintro e w3 ⟨u, v, rfl, hR, hR2, hB3⟩
      have HR : Hid (SetR w3 w.heap.size u s1) := hR.weak (Nat.le_trans hB.size hT2.size)
      have HR2 : Hid (SetR w3 w.heap.size v s2) := hR2.weak (Nat.le_trans hB.size hT2.size)
      clear hR hR2
      go_wp2
      refine bodyPost_ret (results_tmp3 rfl _ _ _) rfl ?_
      exact ⟨_, _, rfl, HR.out, HR2.out, then_below hB (then_below hT2 hB3)⟩
  · rw [mayYB_no hm] at HC
    have E : busyE a b c ns ls x y = 8 := by rw [busyE, mayYB_no hm]; rfl
    rw [E, wordsE, if_neg (by decide), wordsE, if_neg (by decide)]
    clear hW hN hL hm E H1 hs
    go_enter Try.func26, Try.ntmps26
    go_wp2_with fail
    rw [HW.out]
    refine HC.out.mono ?_
    rintro e w1 ⟨rfl, hT⟩
    go_wp2
    refine bodyPost_ret (results_tmp3 rfl _ _ _) rfl ?_
    exact ⟨_, _, rfl, .inr ⟨rfl, rfl⟩, .inr ⟨rfl, rfl⟩, then_below hB hT⟩

set_option maxRecDepth 100000 in
set_option maxHeartbeats 16000000 in
theorem rOwnedY_calls {a b c : Int} {n l : Value} {ns ls : List (List Slt)} {ow m : Int} (w : World) (hN : Yl w n ns) (hL : Yl w l ls) (hs : Small ns ls) : Calls Try.prog 28 #[Y5 a b c n l, I ow, I m] w fun e W' => ∃ u v, e = .returned (.tuple #[u, v, I (ownE a b c ns ls m)]) ∧ SetR W' w.heap.size u (wordsE (ownE a b c ns ls m) ns.length (ownP ns ow m)) ∧ SetR W' w.heap.size v (wordsE (ownE a b c ns ls m) ls.length (ownP ls ow m)) ∧ Below w.heap.size w W' := by
  have hmx : Try.prog.follows .mixedOrders = true := by kernel_rfl
  obtain ⟨W, hW, hB, hK⟩ := one_start w (K5 a b c n l) 26
  have HW : Hid (w.alloc (.cells (K5 a b c n l) 26) = W) := hW
  have HC : Hid (Calls Try.prog 45 #[Y5 a b c n l] W fun e W' => e = .returned (.bool (mayYB a b c ns ls)) ∧ Below W.heap.size W W') := rmayY_calls W (hN.later hB) (hL.later hB) hs
  have h200 := hs.nodes
  have h600 := hs.links
  by_cases hm : mayY a b c ns ls
  · rw [mayYB_iff.2 hm] at HC
    have hbd := hm.bd
    by_cases hmo : 0 ≤ m ∧ m < 1099511627776
    · have E : ownE a b c ns ls m = 0 := by rw [ownE, if_pos (mayYB_iff.2 hm), if_pos (momB_yes hmo)]
      rw [E, wordsE, if_pos rfl, wordsE, if_pos rfl]
      have HC1 : Hid (∀ w1, Below W.heap.size W w1 → Calls Try.prog 68 #[n, I ow, I m] w1 fun e W' => ∃ u, e = .returned u ∧ SetR W' w1.heap.size u (setOf ns.length (ownP ns ow m)) ∧ Below w1.heap.size w1 W') := fun w1 hb => rownL_calls w1 (hN.later (then_below hB hb)) hbd.1 (by omega) hm.2.2.2.1
      have HC2 : Hid (∀ w1, Below W.heap.size W w1 → Calls Try.prog 68 #[l, I ow, I m] w1 fun e W' => ∃ u, e = .returned u ∧ SetR W' w1.heap.size u (setOf ls.length (ownP ls ow m)) ∧ Below w1.heap.size w1 W') := fun w1 hb => rownL_calls w1 (hL.later (then_below hB hb)) (by omega) (by omega) hm.2.2.2.2
      obtain ⟨an, cn, rfl, _⟩ := hN.form
      obtain ⟨al, cl, rfl, _⟩ := hL.form
      have b1 : decide (m < 0) = false := decide_eq_false (by omega)
      have b2 : decide (1099511627776 ≤ m) = false := decide_eq_false (by omega)
      clear hW hN hL hs hm hbd hmo E h200 h600
      generalize setOf (ns.length : Int) (ownP ns ow m) = g1 at *
      generalize setOf (ls.length : Int) (ownP ls ow m) = g2 at *
      generalize ns.length = nn at *
      generalize ls.length = ll at *
      go_enter Try.func28, Try.ntmps28
      go_wp2_with fail
      rw [HW.out]
      refine HC.out.mono ?_
      rintro e w1 ⟨rfl, hT⟩
      have q0 := hK.later hT
      go_wp2_with fail
      refine wp_region_loud3 (w0 := w1) 10 (wordT (.slice an nn cn) (.slice al ll cl) [(I ow), (I m)] w.heap.size w1.heap.size g1 g2) hmx (by kernel_rfl) wordT_later ?_ ?_
      · intro i op hi act w' hTT hL hpre
        have sb : act.tmps.getD 3 undef = .pointer (some ⟨w.heap.size, 0, none⟩) := by
          rw [Array.getD_eq_getD_getElem?, hL.out 3 (of_decide_eq_true (by kernel_rfl))]; rfl
        have s1 : act.tmps.getD 1 undef = I ow := by
          rw [Array.getD_eq_getD_getElem?, hL.out 1 (of_decide_eq_true (by kernel_rfl))]; rfl
        have s2 : act.tmps.getD 2 undef = I m := by
          rw [Array.getD_eq_getD_getElem?, hL.out 2 (of_decide_eq_true (by kernel_rfl))]; rfl
        obtain ⟨p0, p1, p2, p3, p4, hz⟩ := q0.yard hTT
        clear hL
        match i, hi with
        | 0, hi =>
          obtain rfl := Option.some.inj hi
          refine .inl ⟨.pointer (some ⟨w.heap.size, 3, none⟩), ?_, rfl⟩
          simp [execOp, go_sem, Act.eval, sb]
        | 1, hi =>
          obtain rfl := Option.some.inj hi
          have x0 : act.tmps.getD 18 undef = .pointer (some ⟨w.heap.size, 3, none⟩) := hpre ⟨0, .data⟩ (by simp) rfl
          refine .inl ⟨.slice an nn cn, ?_, rfl⟩
          simp [execOp, go_sem, Act.eval, x0, p3]
        | 2, hi =>
          obtain rfl := Option.some.inj hi
          refine .inl ⟨(I ow), ?_, rfl⟩
          simp [execOp, go_sem, Act.eval, s1]
        | 3, hi =>
          obtain rfl := Option.some.inj hi
          refine .inl ⟨(I m), ?_, rfl⟩
          simp [execOp, go_sem, Act.eval, s2]
        | 4, hi =>
          obtain rfl := Option.some.inj hi
          have x0 : act.tmps.getD 19 undef = .slice an nn cn := hpre ⟨1, .data⟩ (by simp) rfl
          have x1 : act.tmps.getD 20 undef = (I ow) := hpre ⟨2, .data⟩ (by simp) rfl
          have x2 : act.tmps.getD 21 undef = (I m) := hpre ⟨3, .data⟩ (by simp) rfl
          refine .inr ⟨68, #[.slice an nn cn, (I ow), (I m)], ?_, ?_⟩
          · simp [go_sem, Act.eval, x0, x1, x2]
          · refine (HC1.out w' (then_below hT hTT)).mono ?_
            rintro e w'' ⟨u, rfl, hU, hb⟩
            exact ⟨_, rfl, hb, hU.weak hTT.size⟩
        | 5, hi =>
          obtain rfl := Option.some.inj hi
          refine .inl ⟨.pointer (some ⟨w.heap.size, 4, none⟩), ?_, rfl⟩
          simp [execOp, go_sem, Act.eval, sb]
        | 6, hi =>
          obtain rfl := Option.some.inj hi
          have x0 : act.tmps.getD 23 undef = .pointer (some ⟨w.heap.size, 4, none⟩) := hpre ⟨5, .data⟩ (by simp) rfl
          refine .inl ⟨.slice al ll cl, ?_, rfl⟩
          simp [execOp, go_sem, Act.eval, x0, p4]
        | 7, hi =>
          obtain rfl := Option.some.inj hi
          refine .inl ⟨(I ow), ?_, rfl⟩
          simp [execOp, go_sem, Act.eval, s1]
        | 8, hi =>
          obtain rfl := Option.some.inj hi
          refine .inl ⟨(I m), ?_, rfl⟩
          simp [execOp, go_sem, Act.eval, s2]
        | 9, hi =>
          obtain rfl := Option.some.inj hi
          have x0 : act.tmps.getD 24 undef = .slice al ll cl := hpre ⟨6, .data⟩ (by simp) rfl
          have x1 : act.tmps.getD 25 undef = (I ow) := hpre ⟨7, .data⟩ (by simp) rfl
          have x2 : act.tmps.getD 26 undef = (I m) := hpre ⟨8, .data⟩ (by simp) rfl
          refine .inr ⟨68, #[.slice al ll cl, (I ow), (I m)], ?_, ?_⟩
          · simp [go_sem, Act.eval, x0, x1, x2]
          · refine (HC2.out w' (then_below hT hTT)).mono ?_
            rintro e w'' ⟨u, rfl, hU, hb⟩
            exact ⟨_, rfl, hb, hU.weak hTT.size⟩
        | n + 10, hi => simp at hi
      · intro vs wv hTv hall
        have hU : SetR wv w1.heap.size (vs 4) g1 := hall 4 (by decide)
        have hV : SetR wv w1.heap.size (vs 9) g2 := hall 9 (by decide)
        clear hall
        simp only [List.take_succ_cons, List.take_zero, List.drop_succ_cons, List.drop_zero, List.length_cons, List.length_nil, Nat.zero_add, Nat.reduceAdd, List.range, List.range.loop, List.foldl_cons, List.foldl_nil, dstOf, List.getElem?_cons_zero, List.getElem?_cons_succ, Option.getD_some, Act.put, List.setIfInBounds_toArray, List.set_cons_succ, List.set_cons_zero]
        generalize vs 0 = yy0 at *
        generalize vs 1 = yy1 at *
        generalize vs 2 = yy2 at *
        generalize vs 3 = yy3 at *
        generalize vs 4 = yy4 at *
        generalize vs 5 = yy5 at *
        generalize vs 6 = yy6 at *
        generalize vs 7 = yy7 at *
        generalize vs 8 = yy8 at *
        generalize vs 9 = yy9 at *
        clear vs
        have hTv2 := then_below hT hTv
        have HU : Hid (SetR wv w.heap.size yy4 g1) := hU.weak (Nat.le_trans hB.size hT.size)
        have HV : Hid (SetR wv w.heap.size yy9 g2) := hV.weak (Nat.le_trans hB.size hT.size)
        clear hU hV q0
        gi_wp2
        go_wp2
        refine bodyPost_ret (results_tmp3 rfl _ _ _) rfl ?_
        exact ⟨_, _, rfl, HU.out, HV.out, then_below hB hTv2⟩
    · have E : ownE a b c ns ls m = 2 := by rw [ownE, if_pos (mayYB_iff.2 hm), momB_no hmo]; rfl
      rw [E, wordsE, if_neg (by decide), wordsE, if_neg (by decide)]
      by_cases b0 : m < 0
      · clear hW hN hL hs hm hbd hmo E h200 h600
        go_enter Try.func28, Try.ntmps28
        go_wp2_with fail
        rw [HW.out]
        refine HC.out.mono ?_
        rintro e w1 ⟨rfl, hT⟩
        go_wp2
        refine bodyPost_ret (results_tmp3 rfl _ _ _) rfl ?_
        exact ⟨_, _, rfl, .inr ⟨rfl, rfl⟩, .inr ⟨rfl, rfl⟩, then_below hB hT⟩
      · have b1 : decide (m < 0) = false := decide_eq_false b0
        have b2 : (1099511627776 : Int) ≤ m := by omega
        clear hW hN hL hs hm hbd hmo E h200 h600
        go_enter Try.func28, Try.ntmps28
        go_wp2_with fail
        rw [HW.out]
        refine HC.out.mono ?_
        rintro e w1 ⟨rfl, hT⟩
        go_wp2
        refine bodyPost_ret (results_tmp3 rfl _ _ _) rfl ?_
        exact ⟨_, _, rfl, .inr ⟨rfl, rfl⟩, .inr ⟨rfl, rfl⟩, then_below hB hT⟩
  · rw [mayYB_no hm] at HC
    have E : ownE a b c ns ls m = 8 := by rw [ownE, mayYB_no hm]; rfl
    rw [E, wordsE, if_neg (by decide), wordsE, if_neg (by decide)]
    clear hW hN hL hs hm E h200 h600
    go_enter Try.func28, Try.ntmps28
    go_wp2_with fail
    rw [HW.out]
    refine HC.out.mono ?_
    rintro e w1 ⟨rfl, hT⟩
    go_wp2
    refine bodyPost_ret (results_tmp3 rfl _ _ _) rfl ?_
    exact ⟨_, _, rfl, .inr ⟨rfl, rfl⟩, .inr ⟨rfl, rfl⟩, then_below hB hT⟩

end Go.Proofs.Ytabhlmckncgdjaa
