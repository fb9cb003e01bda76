/-
  The document's Cut, Take, Put, Twin of a machine's calendars (tidehallref09). (Written by tools/gen/cals_refc.py.)
-/
import Derived.Test.YtabhlmckncgdjaaCalsRefB
namespace Go.Proofs.Ytabhlmckncgdjaa
open Go Go.RowKit Go.Shelf

attribute [local go_sem] Oper.semAt_some ext_const

/-- What each operation of a last statement comes to that makes two lists anew. -/
def wordC (a b c : Int) (vn vl x y x' y' : Value) (B base : Nat) (r1 r2 : List (List Slt)) (i : Nat) (v : Value) (w : World) : Prop :=
  match i with
  | 0 => v = .pointer (some ⟨B, 0, none⟩)
  | 1 => v = A3 a b c
  | 2 => v = .pointer (some ⟨B, 3, none⟩)
  | 3 => v = vn
  | 4 => v = x
  | 5 => v = y
  | 6 => ∃ ao n1 c1, v = .slice ao n1 c1 ∧ Yo w base v r1
  | 7 => v = .pointer (some ⟨B, 4, none⟩)
  | 8 => v = vl
  | 9 => v = x'
  | 10 => v = y'
  | 11 => ∃ ao n1 c1, v = .slice ao n1 c1 ∧ Yo w base v r2
  | 12 => ∃ ao1 n1 c1 ao2 n2 c2, v = Y5 a b c (.slice ao1 n1 c1) (.slice ao2 n2 c2) ∧ Yo w base (.slice ao1 n1 c1) r1 ∧ Yo w base (.slice ao2 n2 c2) r2
  | _ => False
theorem wordC_later {a b c : Int} {vn vl x y x' y' : Value} {B base : Nat} {r1 r2 : List (List Slt)} (i : Nat) (v : Value) (w w' : World) (h : wordC a b c vn vl x y x' y' B base r1 r2 i v w) (hB : Below w.heap.size w w') : wordC a b c vn vl x y x' y' B base r1 r2 i v w' := by
  match i, h with
  | 0, h => exact h
  | 1, h => exact h
  | 2, h => exact h
  | 3, h => exact h
  | 4, h => exact h
  | 5, h => exact h
  | 6, ⟨ao, n1, c1, h1, h2⟩ => exact ⟨ao, n1, c1, h1, h2.later hB⟩
  | 7, h => exact h
  | 8, h => exact h
  | 9, h => exact h
  | 10, h => exact h
  | 11, ⟨ao, n1, c1, h1, h2⟩ => exact ⟨ao, n1, c1, h1, h2.later hB⟩
  | 12, ⟨o1, n1, c1, o2, n2, c2, h1, h2, h3⟩ => exact ⟨o1, n1, c1, o2, n2, c2, h1, h2.later hB, h3.later hB⟩
  | n + 13, h => exact h.elim

set_option maxRecDepth 100000 in
set_option maxHeartbeats 16000000 in
theorem rCutY_calls {a b c : Int} {n l : Value} {ns ls : List (List Slt)} {ow to : Int} (w : World) (hN : Yl w n ns) (hL : Yl w l ls) (hs : Small ns ls) :
    Calls Try.prog 17 #[Y5 a b c n l, I ow, I to] w fun e W' => ∃ u v, e = .returned (.tuple #[Y5 (dimE (errY a b c ns ls) a) (dimE (errY a b c ns ls) b) (dimE (errY a b c ns ls) c) u v, I (errY a b c ns ls)]) ∧ Yo W' w.heap.size u (rowsE (errY a b c ns ls) (cutsC ns ow to)) ∧ Yo W' w.heap.size v (rowsE (errY a b c ns ls) (cutsC ls ow to)) ∧ Below w.heap.size w W' := by
  have hmx : Try.prog.follows .mixedOrders = true := by kernel_rfl
  obtain ⟨W, hW, hB, hK, hR⟩ := two_start w (K5 a b c n l) (K5 0 0 0 (.slice none 0 0) (.slice none 0 0)) 26 26
  have HW : Hid ((w.alloc (.cells (K5 a b c n l) 26)).alloc (.cells (K5 0 0 0 (.slice none 0 0) (.slice none 0 0)) 26) = W) := hW
  have HM : Hid (Calls Try.prog 45 #[Y5 a b c n l] W fun e W' => e = .returned (.bool (mayYB a b c ns ls)) ∧ Below W.heap.size W W') := rmayY_calls W (hN.later hB) (hL.later hB) hs
  have hWs : w.heap.size + 1 < W.heap.size := hR.lt
  have h2 := hs.nodes
  have h6 := hs.links
  have HC1 : Hid (∀ w1, Below W.heap.size W w1 → Calls Try.prog 51 #[n, I ow, I to] w1 fun e W' => ∃ u, e = .returned u ∧ Yo W' w1.heap.size u (cutsC ns ow to) ∧ Below w1.heap.size w1 W') := fun w1 hb => rendeds_calls w1 (hN.later (then_below hB hb)) (by omega) hs.node
  have HC2 : Hid (∀ w1, Below W.heap.size W w1 → Calls Try.prog 51 #[l, I ow, I to] w1 fun e W' => ∃ u, e = .returned u ∧ Yo W' w1.heap.size u (cutsC ls ow to) ∧ Below w1.heap.size w1 W') := fun w1 hb => rendeds_calls w1 (hL.later (then_below hB hb)) (by omega) hs.link
  obtain ⟨an, cn, rfl, _⟩ := hN.form
  obtain ⟨al, cl, rfl, _⟩ := hL.form
  generalize cutsC ns ow to = r1 at *
  generalize cutsC ls ow to = r2 at *
  by_cases hm : mayY a b c ns ls
  · rw [errY_ok hm]
    rw [mayYB_iff.2 hm] at HM
    simp only [dim_ok, rows_ok]
    clear hW hN hL hs hm h2 h6
    generalize ns.length = nn at *
    generalize ls.length = ll at *
    go_enter Try.func17, Try.ntmps17
    go_wp2_with fail
    rw [HW.out]
    refine HM.out.mono ?_
    rintro e w1 ⟨rfl, hT⟩
    have q0 := hK.later hT
    go_wp2_with fail
    refine wp_region_loud3 (w0 := w1) 13 (wordC a b c (.slice an nn cn) (.slice al ll cl) (I ow) (I to) (I ow) (I to) w.heap.size w1.heap.size r1 r2) hmx (by kernel_rfl) wordC_later ?_ ?_
    · intro i op hi act w' hTT hL hpre
      have sb : act.tmps.getD 3 undef = .pointer (some ⟨w.heap.size, 0, none⟩) := by
        rw [Array.getD_eq_getD_getElem?, hL.out 3 (of_decide_eq_true (by kernel_rfl))]; rfl
      have s1 : act.tmps.getD 1 undef = I ow := by
        rw [Array.getD_eq_getD_getElem?, hL.out 1 (of_decide_eq_true (by kernel_rfl))]; rfl
      have s2 : act.tmps.getD 2 undef = I to := by
        rw [Array.getD_eq_getD_getElem?, hL.out 2 (of_decide_eq_true (by kernel_rfl))]; rfl
      obtain ⟨p0, p1, p2, p3, p4, hz⟩ := q0.yard hTT
      clear hL
      match i, hi with
      | 0, hi =>
        obtain rfl := Option.some.inj hi
        refine .inl ⟨.pointer (some ⟨w.heap.size, 0, none⟩), ?_, rfl⟩
        simp [execOp, go_sem, Act.eval, sb]
      | 1, hi =>
        obtain rfl := Option.some.inj hi
        have x0 : act.tmps.getD 12 undef = .pointer (some ⟨w.heap.size, 0, none⟩) := hpre ⟨0, .data⟩ (by simp) rfl
        refine .inl ⟨A3 a b c, ?_, rfl⟩
        simp [execOp, go_sem, Act.eval, x0, p0, p1, p2]
      | 2, hi =>
        obtain rfl := Option.some.inj hi
        refine .inl ⟨.pointer (some ⟨w.heap.size, 3, none⟩), ?_, rfl⟩
        simp [execOp, go_sem, Act.eval, sb]
      | 3, hi =>
        obtain rfl := Option.some.inj hi
        have x0 : act.tmps.getD 14 undef = .pointer (some ⟨w.heap.size, 3, none⟩) := hpre ⟨2, .data⟩ (by simp) rfl
        refine .inl ⟨.slice an nn cn, ?_, rfl⟩
        simp [execOp, go_sem, Act.eval, x0, p3]
      | 4, hi =>
        obtain rfl := Option.some.inj hi
        refine .inl ⟨(I ow), ?_, rfl⟩
        simp [execOp, go_sem, Act.eval, s1]
      | 5, hi =>
        obtain rfl := Option.some.inj hi
        refine .inl ⟨(I to), ?_, rfl⟩
        simp [execOp, go_sem, Act.eval, s2]
      | 6, hi =>
        obtain rfl := Option.some.inj hi
        have x0 : act.tmps.getD 15 undef = .slice an nn cn := hpre ⟨3, .data⟩ (by simp) rfl
        have x1 : act.tmps.getD 16 undef = (I ow) := hpre ⟨4, .data⟩ (by simp) rfl
        have x2 : act.tmps.getD 17 undef = (I to) := hpre ⟨5, .data⟩ (by simp) rfl
        refine .inr ⟨51, #[.slice an nn cn, (I ow), (I to)], ?_, ?_⟩
        · simp [go_sem, Act.eval, x0, x1, x2]
        · refine (HC1.out w' (then_below hT hTT)).mono ?_
          rintro e w'' ⟨u, rfl, hU, hb⟩
          obtain ⟨ao1, n1, c1, rfl⟩ := hU.slice
          exact ⟨_, rfl, hb, ao1, n1, c1, rfl, hU.weak hTT.size⟩
      | 7, hi =>
        obtain rfl := Option.some.inj hi
        refine .inl ⟨.pointer (some ⟨w.heap.size, 4, none⟩), ?_, rfl⟩
        simp [execOp, go_sem, Act.eval, sb]
      | 8, hi =>
        obtain rfl := Option.some.inj hi
        have x0 : act.tmps.getD 19 undef = .pointer (some ⟨w.heap.size, 4, none⟩) := hpre ⟨7, .data⟩ (by simp) rfl
        refine .inl ⟨.slice al ll cl, ?_, rfl⟩
        simp [execOp, go_sem, Act.eval, x0, p4]
      | 9, hi =>
        obtain rfl := Option.some.inj hi
        refine .inl ⟨(I ow), ?_, rfl⟩
        simp [execOp, go_sem, Act.eval, s1]
      | 10, hi =>
        obtain rfl := Option.some.inj hi
        refine .inl ⟨(I to), ?_, rfl⟩
        simp [execOp, go_sem, Act.eval, s2]
      | 11, hi =>
        obtain rfl := Option.some.inj hi
        have x0 : act.tmps.getD 20 undef = .slice al ll cl := hpre ⟨8, .data⟩ (by simp) rfl
        have x1 : act.tmps.getD 21 undef = (I ow) := hpre ⟨9, .data⟩ (by simp) rfl
        have x2 : act.tmps.getD 22 undef = (I to) := hpre ⟨10, .data⟩ (by simp) rfl
        refine .inr ⟨51, #[.slice al ll cl, (I ow), (I to)], ?_, ?_⟩
        · simp [go_sem, Act.eval, x0, x1, x2]
        · refine (HC2.out w' (then_below hT hTT)).mono ?_
          rintro e w'' ⟨u, rfl, hU, hb⟩
          obtain ⟨ao1, n1, c1, rfl⟩ := hU.slice
          exact ⟨_, rfl, hb, ao1, n1, c1, rfl, hU.weak hTT.size⟩
      | 12, hi =>
        obtain rfl := Option.some.inj hi
        have x0 : act.tmps.getD 13 undef = A3 a b c := hpre ⟨1, .data⟩ (by simp) rfl
        obtain ⟨ao1, n1, c1, x1, k1⟩ : ∃ ao n1 c1, act.tmps.getD 18 undef = .slice ao n1 c1 ∧ Yo w' w1.heap.size (act.tmps.getD 18 undef) r1 := hpre ⟨6, .data⟩ (by simp) rfl
        obtain ⟨ao2, n2, c2, x2, k2⟩ : ∃ ao n1 c1, act.tmps.getD 23 undef = .slice ao n1 c1 ∧ Yo w' w1.heap.size (act.tmps.getD 23 undef) r2 := hpre ⟨11, .data⟩ (by simp) rfl
        rw [x1] at k1
        rw [x2] at k2
        refine .inl ⟨Y5 a b c (.slice ao1 n1 c1) (.slice ao2 n2 c2), ?_, _, _, _, _, _, _, rfl, k1, k2⟩
        rw [Array.getD_eq_getD_getElem?] at x0 x1 x2
        simp [execOp, go_sem, Act.eval, x0, x1, x2]
      | n + 13, hi => simp at hi
    · intro vs wv hTv hall
      obtain ⟨ao1, n1, c1, ao2, n2, c2, h12, hU, hV⟩ : ∃ ao1 n1 c1 ao2 n2 c2, vs 12 = Y5 a b c (.slice ao1 n1 c1) (.slice ao2 n2 c2) ∧ Yo wv w1.heap.size (.slice ao1 n1 c1) r1 ∧ Yo wv w1.heap.size (.slice ao2 n2 c2) r2 := hall 12 (by decide)
      clear hall
      simp only [List.take_succ_cons, List.take_zero, List.drop_succ_cons, List.drop_zero, List.length_cons, List.length_nil, Nat.zero_add, Nat.reduceAdd, List.range, List.range.loop, List.foldl_cons, List.foldl_nil, dstOf, List.getElem?_cons_zero, List.getElem?_cons_succ, Option.getD_some, Act.put, h12, List.setIfInBounds_toArray, List.set_cons_succ, List.set_cons_zero]
      clear h12
      generalize vs 0 = yy0
      generalize vs 1 = yy1
      generalize vs 2 = yy2
      generalize vs 3 = yy3
      generalize vs 4 = yy4
      generalize vs 5 = yy5
      generalize vs 6 = yy6
      generalize vs 7 = yy7
      generalize vs 8 = yy8
      generalize vs 9 = yy9
      generalize vs 10 = yy10
      generalize vs 11 = yy11
      clear vs
      have hTv2 := then_below hT hTv
      have hR2 := hR.later hTv2
      have HS := hR2.set5 (.int .i64 a) (.int .i64 b) (.int .i64 c) (.slice ao1 n1 c1) (.slice ao2 n2 c2)
      have hlow := below_set5 (then_below hB hTv2) (show w.heap.size ≤ w.heap.size + 1 by omega) (.int .i64 a) (.int .i64 b) (.int .i64 c) (.slice ao1 n1 c1) (.slice ao2 n2 c2)
      have HU : Hid (Yo (put5 wv (w.heap.size + 1) (.int .i64 a) (.int .i64 b) (.int .i64 c) (.slice ao1 n1 c1) (.slice ao2 n2 c2)) w.heap.size (.slice ao1 n1 c1) r1) := (hU.put5 (Nat.lt_of_lt_of_le hWs hT.size) _ _ _ _ _).weak (Nat.le_trans hB.size hT.size)
      have HV : Hid (Yo (put5 wv (w.heap.size + 1) (.int .i64 a) (.int .i64 b) (.int .i64 c) (.slice ao1 n1 c1) (.slice ao2 n2 c2)) w.heap.size (.slice ao2 n2 c2) r2) := (hV.put5 (Nat.lt_of_lt_of_le hWs hT.size) _ _ _ _ _).weak (Nat.le_trans hB.size hT.size)
      clear hU hV q0
      obtain ⟨q0, q1, q2, q3, q4, hzq⟩ := hR2.five
      obtain ⟨f0, f1, f2, f3, f4⟩ := hR2.row5
      gi_wp2
      go_wp2
      obtain ⟨j0, j1, j2, j3, j4, _⟩ := HS.five
      exact bodyPost_ret (v := .tuple #[Y5 a b c (.slice ao1 n1 c1) (.slice ao2 n2 c2), I 0]) (by simp [results, Try.f17, go_sem, j0, j1, j2, j3, j4]) rfl ⟨_, _, rfl, HU.out, HV.out, hlow⟩
  · rw [errY_no hm]
    rw [mayYB_no hm] at HM
    have h8 : (8 : Int) ≠ 0 := by decide
    simp only [dim_no h8, rows_no h8]
    clear hW hN hL hs hm h8 HC1 HC2 h2 h6
    go_enter Try.func17, Try.ntmps17
    go_wp2_with fail
    rw [HW.out]
    refine HM.out.mono ?_
    rintro e w1 ⟨rfl, hT⟩
    have hR2 := hR.later hT
    have HS := hR2.set5 (.int .i64 0) (.int .i64 0) (.int .i64 0) (.slice none 0 0) (.slice none 0 0)
    have hlow := below_set5 (then_below hB hT) (show w.heap.size ≤ w.heap.size + 1 by omega) (.int .i64 0) (.int .i64 0) (.int .i64 0) (.slice none 0 0) (.slice none 0 0)
    obtain ⟨q0, q1, q2, q3, q4, hzq⟩ := hR2.five
    obtain ⟨f0, f1, f2, f3, f4⟩ := hR2.row5
    go_wp2_with fail
    obtain ⟨j0, j1, j2, j3, j4, _⟩ := HS.five
    exact bodyPost_ret (v := .tuple #[Y5 0 0 0 (.slice none 0 0) (.slice none 0 0), I 8]) (by simp [results, Try.f17, go_sem, j0, j1, j2, j3, j4]) rfl ⟨_, _, rfl, Yo.nil _ _, Yo.nil _ _, hlow⟩

set_option maxRecDepth 100000 in
set_option maxHeartbeats 16000000 in
theorem rTakeY_calls {a b c : Int} {n l : Value} {ns ls : List (List Slt)} {ow : Int} (w : World) (hN : Yl w n ns) (hL : Yl w l ls) (hs : Small ns ls) :
    Calls Try.prog 19 #[Y5 a b c n l, I ow] w fun e W' => ∃ u v, e = .returned (.tuple #[Y5 (dimE (errY a b c ns ls) a) (dimE (errY a b c ns ls) b) (dimE (errY a b c ns ls) c) u v, I (errY a b c ns ls)]) ∧ Yo W' w.heap.size u (rowsE (errY a b c ns ls) (takesC ns ow)) ∧ Yo W' w.heap.size v (rowsE (errY a b c ns ls) (takesC ls ow)) ∧ Below w.heap.size w W' := by
  obtain ⟨W, hW, hB, hK, hR⟩ := two_start w (K5 a b c n l) (K5 0 0 0 (.slice none 0 0) (.slice none 0 0)) 26 26
  have HW : Hid ((w.alloc (.cells (K5 a b c n l) 26)).alloc (.cells (K5 0 0 0 (.slice none 0 0) (.slice none 0 0)) 26) = W) := hW
  have hWs : w.heap.size + 1 < W.heap.size := hR.lt
  have HC : Hid (Calls Try.prog 17 #[Y5 a b c n l, I ow, I 0] W fun e W' => ∃ u v, e = .returned (.tuple #[Y5 (dimE (errY a b c ns ls) a) (dimE (errY a b c ns ls) b) (dimE (errY a b c ns ls) c) u v, I (errY a b c ns ls)]) ∧ Yo W' W.heap.size u (rowsE (errY a b c ns ls) (takesC ns ow)) ∧ Yo W' W.heap.size v (rowsE (errY a b c ns ls) (takesC ls ow)) ∧ Below W.heap.size W W') := by
    have := rCutY_calls (a := a) (b := b) (c := c) (ow := ow) (to := 0) W (hN.later hB) (hL.later hB) hs
    by_cases hm : mayY a b c ns ls
    · rwa [cutsC_zero hm.2.2.2.1, cutsC_zero hm.2.2.2.2] at this
    · rw [errY_no hm] at this ⊢
      exact this
  generalize rowsE (errY a b c ns ls) (takesC ns ow) = r1 at *
  generalize rowsE (errY a b c ns ls) (takesC ls ow) = r2 at *
  generalize dimE (errY a b c ns ls) a = da at *
  generalize dimE (errY a b c ns ls) b = db at *
  generalize dimE (errY a b c ns ls) c = dc at *
  generalize errY a b c ns ls = er at *
  clear hW hN hL hs
  go_enter Try.func19, Try.ntmps19
  go_wp2_with fail
  rw [HW.out]
  refine HC.out.mono ?_
  rintro e w2 ⟨u, v, rfl, hU, hV, hT2⟩
  obtain ⟨ao1, n1, c1, rfl⟩ := hU.slice
  obtain ⟨ao2, n2, c2, rfl⟩ := hV.slice
  have hR2 := hR.later hT2
  have HS := hR2.set5 (.int .i64 da) (.int .i64 db) (.int .i64 dc) (.slice ao1 n1 c1) (.slice ao2 n2 c2)
  have hlow := below_set5 (then_below hB hT2) (show w.heap.size ≤ w.heap.size + 1 by omega) (.int .i64 da) (.int .i64 db) (.int .i64 dc) (.slice ao1 n1 c1) (.slice ao2 n2 c2)
  have HU : Hid (Yo (put5 w2 (w.heap.size + 1) (.int .i64 da) (.int .i64 db) (.int .i64 dc) (.slice ao1 n1 c1) (.slice ao2 n2 c2)) w.heap.size (.slice ao1 n1 c1) r1) := (hU.put5 hWs _ _ _ _ _).weak hB.size
  have HV : Hid (Yo (put5 w2 (w.heap.size + 1) (.int .i64 da) (.int .i64 db) (.int .i64 dc) (.slice ao1 n1 c1) (.slice ao2 n2 c2)) w.heap.size (.slice ao2 n2 c2) r2) := (hV.put5 hWs _ _ _ _ _).weak hB.size
  clear hU hV
  obtain ⟨q0, q1, q2, q3, q4, hzq⟩ := hR2.five
  obtain ⟨f0, f1, f2, f3, f4⟩ := hR2.row5
  go_wp2_with fail
  obtain ⟨j0, j1, j2, j3, j4, _⟩ := HS.five
  exact bodyPost_ret (v := .tuple #[Y5 da db dc (.slice ao1 n1 c1) (.slice ao2 n2 c2), I er]) (by simp [results, Try.f19, go_sem, j0, j1, j2, j3, j4]) rfl ⟨_, _, rfl, HU.out, HV.out, hlow⟩

set_option maxRecDepth 100000 in
set_option maxHeartbeats 16000000 in
theorem twin_calls {a b c : Int} {n l : Value} {ns ls : List (List Slt)} (w : World) (hN : Yl w n ns) (hL : Yl w l ls) (hs : Small ns ls) :
    Calls Try.prog 14 #[Y5 a b c n l] w fun e W' => ∃ u v, e = .returned (Y5 a b c u v) ∧ Yo W' w.heap.size u ns ∧ Yo W' w.heap.size v ls ∧ Below w.heap.size w W' := by
  have hmx : Try.prog.follows .mixedOrders = true := by kernel_rfl
  obtain ⟨W, hW, hB, hK, hR⟩ := two_start w (K5 a b c n l) (K5 0 0 0 (.slice none 0 0) (.slice none 0 0)) 26 26
  have HW : Hid ((w.alloc (.cells (K5 a b c n l) 26)).alloc (.cells (K5 0 0 0 (.slice none 0 0) (.slice none 0 0)) 26) = W) := hW
  have hWs : w.heap.size + 1 < W.heap.size := hR.lt
  have h2 := hs.nodes
  have h6 := hs.links
  have none_set : ∀ cs : List (List Slt), putsC cs (hasW []) (0, 0, 0) cs.length = cs := fun cs => by
    have : (hasW []) = fun _ => false := funext fun k => by simp [hasW]
    rw [this, putsC_none]
  have HC1 : Hid (∀ w1, Below W.heap.size W w1 → Calls Try.prog 44 #[n, .slice none 0 0, V3 0 0 0] w1 fun e W' => ∃ u, e = .returned u ∧ Yo W' w1.heap.size u ns ∧ Below w1.heap.size w1 W') := fun w1 hb => by
    have := rputs_calls (f := 0) (t := 0) (o := 0) w1 (hN.later (then_below hB hb)) (by omega) hs.node (Wds.nil w1)
    rwa [none_set] at this
  have HC2 : Hid (∀ w1, Below W.heap.size W w1 → Calls Try.prog 44 #[l, .slice none 0 0, V3 0 0 0] w1 fun e W' => ∃ u, e = .returned u ∧ Yo W' w1.heap.size u ls ∧ Below w1.heap.size w1 W') := fun w1 hb => by
    have := rputs_calls (f := 0) (t := 0) (o := 0) w1 (hL.later (then_below hB hb)) (by omega) hs.link (Wds.nil w1)
    rwa [none_set] at this
  obtain ⟨an, cn, rfl, _⟩ := hN.form
  obtain ⟨al, cl, rfl, _⟩ := hL.form
  have hT := Below.refl W.heap.size W
  clear hW hN hL hs h2 h6 none_set
  go_enter Try.func14, Try.ntmps14
  go_wp2_with fail
  rw [HW.out]
  have q0 := hK
  refine wp_region_loud3 (w0 := W) 13 (wordC a b c (.slice an ns.length cn) (.slice al ls.length cl) (.slice none 0 0) (V3 0 0 0) (.slice none 0 0) (V3 0 0 0) w.heap.size W.heap.size ns ls) hmx (by kernel_rfl) wordC_later ?_ ?_
  · intro i op hi act w' hTT hL hpre
    have sb : act.tmps.getD 1 undef = .pointer (some ⟨w.heap.size, 0, none⟩) := by
      rw [Array.getD_eq_getD_getElem?, hL.out 1 (of_decide_eq_true (by kernel_rfl))]; rfl
    have s3 : act.tmps.getD 3 undef = .slice none 0 0 := by
      rw [Array.getD_eq_getD_getElem?, hL.out 3 (of_decide_eq_true (by kernel_rfl))]; rfl
    obtain ⟨p0, p1, p2, p3, p4, hz⟩ := q0.yard hTT
    clear hL
    match i, hi with
    | 0, hi =>
      obtain rfl := Option.some.inj hi
      refine .inl ⟨.pointer (some ⟨w.heap.size, 0, none⟩), ?_, rfl⟩
      simp [execOp, go_sem, Act.eval, sb]
    | 1, hi =>
      obtain rfl := Option.some.inj hi
      have x0 : act.tmps.getD 4 undef = .pointer (some ⟨w.heap.size, 0, none⟩) := hpre ⟨0, .data⟩ (by simp) rfl
      refine .inl ⟨A3 a b c, ?_, rfl⟩
      simp [execOp, go_sem, Act.eval, x0, p0, p1, p2]
    | 2, hi =>
      obtain rfl := Option.some.inj hi
      refine .inl ⟨.pointer (some ⟨w.heap.size, 3, none⟩), ?_, rfl⟩
      simp [execOp, go_sem, Act.eval, sb]
    | 3, hi =>
      obtain rfl := Option.some.inj hi
      have x0 : act.tmps.getD 6 undef = .pointer (some ⟨w.heap.size, 3, none⟩) := hpre ⟨2, .data⟩ (by simp) rfl
      refine .inl ⟨.slice an ns.length cn, ?_, rfl⟩
      simp [execOp, go_sem, Act.eval, x0, p3]
    | 4, hi =>
      obtain rfl := Option.some.inj hi
      refine .inl ⟨(.slice none 0 0), ?_, rfl⟩
      simp [execOp, go_sem, Act.eval, s3]
    | 5, hi =>
      obtain rfl := Option.some.inj hi
      refine .inl ⟨(V3 0 0 0), ?_, rfl⟩
      simp [execOp, go_sem, Act.eval]
    | 6, hi =>
      obtain rfl := Option.some.inj hi
      have x0 : act.tmps.getD 7 undef = .slice an ns.length cn := hpre ⟨3, .data⟩ (by simp) rfl
      have x1 : act.tmps.getD 8 undef = (.slice none 0 0) := hpre ⟨4, .data⟩ (by simp) rfl
      have x2 : act.tmps.getD 9 undef = (V3 0 0 0) := hpre ⟨5, .data⟩ (by simp) rfl
      refine .inr ⟨44, #[.slice an ns.length cn, (.slice none 0 0), (V3 0 0 0)], ?_, ?_⟩
      · simp [go_sem, Act.eval, x0, x1, x2]
      · refine (HC1.out w' (then_below hT hTT)).mono ?_
        rintro e w'' ⟨u, rfl, hU, hb⟩
        obtain ⟨ao1, n1, c1, rfl⟩ := hU.slice
        exact ⟨_, rfl, hb, ao1, n1, c1, rfl, hU.weak hTT.size⟩
    | 7, hi =>
      obtain rfl := Option.some.inj hi
      refine .inl ⟨.pointer (some ⟨w.heap.size, 4, none⟩), ?_, rfl⟩
      simp [execOp, go_sem, Act.eval, sb]
    | 8, hi =>
      obtain rfl := Option.some.inj hi
      have x0 : act.tmps.getD 11 undef = .pointer (some ⟨w.heap.size, 4, none⟩) := hpre ⟨7, .data⟩ (by simp) rfl
      refine .inl ⟨.slice al ls.length cl, ?_, rfl⟩
      simp [execOp, go_sem, Act.eval, x0, p4]
    | 9, hi =>
      obtain rfl := Option.some.inj hi
      refine .inl ⟨(.slice none 0 0), ?_, rfl⟩
      simp [execOp, go_sem, Act.eval, s3]
    | 10, hi =>
      obtain rfl := Option.some.inj hi
      refine .inl ⟨(V3 0 0 0), ?_, rfl⟩
      simp [execOp, go_sem, Act.eval]
    | 11, hi =>
      obtain rfl := Option.some.inj hi
      have x0 : act.tmps.getD 12 undef = .slice al ls.length cl := hpre ⟨8, .data⟩ (by simp) rfl
      have x1 : act.tmps.getD 13 undef = (.slice none 0 0) := hpre ⟨9, .data⟩ (by simp) rfl
      have x2 : act.tmps.getD 14 undef = (V3 0 0 0) := hpre ⟨10, .data⟩ (by simp) rfl
      refine .inr ⟨44, #[.slice al ls.length cl, (.slice none 0 0), (V3 0 0 0)], ?_, ?_⟩
      · simp [go_sem, Act.eval, x0, x1, x2]
      · refine (HC2.out w' (then_below hT hTT)).mono ?_
        rintro e w'' ⟨u, rfl, hU, hb⟩
        obtain ⟨ao1, n1, c1, rfl⟩ := hU.slice
        exact ⟨_, rfl, hb, ao1, n1, c1, rfl, hU.weak hTT.size⟩
    | 12, hi =>
      obtain rfl := Option.some.inj hi
      have x0 : act.tmps.getD 5 undef = A3 a b c := hpre ⟨1, .data⟩ (by simp) rfl
      obtain ⟨ao1, n1, c1, x1, k1⟩ : ∃ ao n1 c1, act.tmps.getD 10 undef = .slice ao n1 c1 ∧ Yo w' W.heap.size (act.tmps.getD 10 undef) ns := hpre ⟨6, .data⟩ (by simp) rfl
      obtain ⟨ao2, n2, c2, x2, k2⟩ : ∃ ao n1 c1, act.tmps.getD 15 undef = .slice ao n1 c1 ∧ Yo w' W.heap.size (act.tmps.getD 15 undef) ls := hpre ⟨11, .data⟩ (by simp) rfl
      rw [x1] at k1
      rw [x2] at k2
      refine .inl ⟨Y5 a b c (.slice ao1 n1 c1) (.slice ao2 n2 c2), ?_, _, _, _, _, _, _, rfl, k1, k2⟩
      rw [Array.getD_eq_getD_getElem?] at x0 x1 x2
      simp [execOp, go_sem, Act.eval, x0, x1, x2]
    | n + 13, hi => simp at hi
  · intro vs wv hTv hall
    obtain ⟨ao1, n1, c1, ao2, n2, c2, h12, hU, hV⟩ : ∃ ao1 n1 c1 ao2 n2 c2, vs 12 = Y5 a b c (.slice ao1 n1 c1) (.slice ao2 n2 c2) ∧ Yo wv W.heap.size (.slice ao1 n1 c1) ns ∧ Yo wv W.heap.size (.slice ao2 n2 c2) ls := hall 12 (by decide)
    clear hall
    simp only [List.take_succ_cons, List.take_zero, List.drop_succ_cons, List.drop_zero, List.length_cons, List.length_nil, Nat.zero_add, Nat.reduceAdd, List.range, List.range.loop, List.foldl_cons, List.foldl_nil, dstOf, List.getElem?_cons_zero, List.getElem?_cons_succ, Option.getD_some, Act.put, h12, List.setIfInBounds_toArray, List.set_cons_succ, List.set_cons_zero]
    clear h12
    generalize vs 0 = yy0
    generalize vs 1 = yy1
    generalize vs 2 = yy2
    generalize vs 3 = yy3
    generalize vs 4 = yy4
    generalize vs 5 = yy5
    generalize vs 6 = yy6
    generalize vs 7 = yy7
    generalize vs 8 = yy8
    generalize vs 9 = yy9
    generalize vs 10 = yy10
    generalize vs 11 = yy11
    clear vs
    have hTv2 := then_below hT hTv
    have hR2 := hR.later hTv2
    have HS := hR2.set5 (.int .i64 a) (.int .i64 b) (.int .i64 c) (.slice ao1 n1 c1) (.slice ao2 n2 c2)
    have hlow := below_set5 (then_below hB hTv2) (show w.heap.size ≤ w.heap.size + 1 by omega) (.int .i64 a) (.int .i64 b) (.int .i64 c) (.slice ao1 n1 c1) (.slice ao2 n2 c2)
    have HU : Hid (Yo (put5 wv (w.heap.size + 1) (.int .i64 a) (.int .i64 b) (.int .i64 c) (.slice ao1 n1 c1) (.slice ao2 n2 c2)) w.heap.size (.slice ao1 n1 c1) ns) := (hU.put5 (Nat.lt_of_lt_of_le hWs hT.size) _ _ _ _ _).weak (Nat.le_trans hB.size hT.size)
    have HV : Hid (Yo (put5 wv (w.heap.size + 1) (.int .i64 a) (.int .i64 b) (.int .i64 c) (.slice ao1 n1 c1) (.slice ao2 n2 c2)) w.heap.size (.slice ao2 n2 c2) ls) := (hV.put5 (Nat.lt_of_lt_of_le hWs hT.size) _ _ _ _ _).weak (Nat.le_trans hB.size hT.size)
    clear hU hV q0
    obtain ⟨q0, q1, q2, q3, q4, hzq⟩ := hR2.five
    obtain ⟨f0, f1, f2, f3, f4⟩ := hR2.row5
    gi_wp2
    go_wp2
    obtain ⟨j0, j1, j2, j3, j4, _⟩ := HS.five
    exact bodyPost_ret (v := Y5 a b c (.slice ao1 n1 c1) (.slice ao2 n2 c2)) (by simp [results, Try.f14, go_sem, j0, j1, j2, j3, j4]) rfl ⟨_, _, rfl, HU.out, HV.out, hlow⟩

end Go.Proofs.Ytabhlmckncgdjaa
