/-
  cals.New, tidehallref09.New. (Written by tools/gen/cals_new.py.)
-/
import Derived.Test.YtabhlmckncgdjaaPart21
import Derived.Test.YtabhlmckncgdjaaPart22
namespace Go.Proofs.Ytabhlmckncgdjaa
open Go Go.RowKit Go.Shelf

attribute [local go_sem] Oper.semAt_some ext_const

/-- 'make([][]api.Slot, n)', as one operation. -/
theorem mk_runY {o : Oper} {a : Act} {W : World} (l c : Operand) (ho : o.op = Op.makeSlice 24 l c) (n : Nat) (hl : a.eval l = .int .i64 n) (hc : a.eval c = .int .i64 n) (h1 : n ≤ 100000) :
    (execOp a.eval o).run Try.prog W = .ok (.value (.slice (some ⟨W.heap.size, 0, none⟩) n n)) (W.alloc (.cells (List.replicate n (Value.slice none 0 0)).toArray 50)) := by
  obtain ⟨i0, hi, hz0, hz1, hz2⟩ := info_parts info_c
  have hrun := run_make (P := Try.prog) W 24 50 i0 (.slice none 0 0) Try.underlying24 hi hz0 .i64 .i64 n n (by omega) (by omega) (by rw [hz2]; omega) (by omega)
  rw [hz1, Nat.mul_one] at hrun
  simp only [Int.toNat_natCast] at hrun
  rw [show (Value.slice none 0 0).cells = #[.slice none 0 0] from rfl, made_nil] at hrun
  generalize (List.replicate n (Value.slice none 0 0)).toArray = cs at hrun
  simp [execOp, ho, hl, hc, hrun, Result.andThen]

/-- A list of empty calendars, just made. -/
def MadeY (base n : Nat) (v : Value) (w : World) : Prop := ∃ g, v = .slice (some ⟨g, 0, none⟩) n n ∧ Blk w g 50 (List.replicate n (Value.slice none 0 0)).toArray ∧ base ≤ g
theorem MadeY.later {base n : Nat} {v : Value} {w w' : World} (h : MadeY base n v w) (hB : Below w.heap.size w w') : MadeY base n v w' := by
  obtain ⟨g, h1, h2, h3⟩ := h
  exact ⟨g, h1, h2.later hB, h3⟩
theorem MadeY.yo {base n : Nat} {v : Value} {w : World} (h : MadeY base n v w) (hn : n ≤ 100000) : Yo w base v (List.replicate n []) := by
  obtain ⟨g, rfl, h2, h3⟩ := h
  exact Made.empty h2 h3 hn
/-- What each operation of New's last statement comes to. -/
def wordN (a b c : Int) (nn ll base : Nat) (i : Nat) (v : Value) (w : World) : Prop :=
  match i with
  | 0 => v = A3 a b c
  | 1 => v = I nn
  | 2 => MadeY base nn v w
  | 3 => v = I nn
  | 4 => v = I ll
  | 5 => MadeY base ll v w
  | 6 => ∃ ao1 n1 c1 ao2 n2 c2, v = Y5 a b c (.slice ao1 n1 c1) (.slice ao2 n2 c2) ∧ MadeY base nn (.slice ao1 n1 c1) w ∧ MadeY base ll (.slice ao2 n2 c2) w
  | _ => False
theorem wordN_later {a b c : Int} {nn ll base : Nat} (i : Nat) (v : Value) (w w' : World) (h : wordN a b c nn ll base i v w) (hB : Below w.heap.size w w') : wordN a b c nn ll base i v w' := by
  match i, h with
  | 0, h => exact h
  | 1, h => exact h
  | 2, h => exact MadeY.later h hB
  | 3, h => exact h
  | 4, h => exact h
  | 5, h => exact MadeY.later h hB
  | 6, ⟨o1, n1, c1, o2, n2, c2, h1, h2, h3⟩ => exact ⟨o1, n1, c1, o2, n2, c2, h1, h2.later hB, h3.later hB⟩
  | n + 7, h => exact h.elim

/-- New's error. -/
def newE (a b c : Int) : Int := if mayDB a b c then 0 else 8
theorem newE_ok {a b c : Int} (h : mayD a b c) : newE a b c = 0 := by rw [newE, if_pos (mayDB_iff.2 h)]
theorem newE_no {a b c : Int} (h : ¬ mayD a b c) : newE a b c = 8 := by rw [newE, if_neg (by rw [mayDB_iff]; exact h)]
def emptyC (n : Int) : List (List Slt) := List.replicate n.toNat []

set_option maxRecDepth 100000 in
set_option maxHeartbeats 16000000 in
theorem yNew_calls {a b c : Int} (w : World) :
    Calls Try.prog 20 #[A3 a b c] w fun e W' => ∃ u v, e = .returned (.tuple #[Y5 (dimE (newE a b c) a) (dimE (newE a b c) b) (dimE (newE a b c) c) u v, I (newE a b c)]) ∧ Yo W' w.heap.size u (rowsE (newE a b c) (emptyC (a * b * c))) ∧ Yo W' w.heap.size v (rowsE (newE a b c) (emptyC (3 * (a * b * c)))) ∧ Below w.heap.size w W' := by
  have hmx : Try.prog.follows .mixedOrders = true := by kernel_rfl
  obtain ⟨W, hW, hB, hK, hR⟩ := two_start w #[I a, I b, I c] (K5 0 0 0 (.slice none 0 0) (.slice none 0 0)) 23 26
  have HW : Hid ((w.alloc (.cells #[I a, I b, I c] 23)).alloc (.cells (K5 0 0 0 (.slice none 0 0) (.slice none 0 0)) 26) = W) := hW
  have hWs : w.heap.size + 1 < W.heap.size := hR.lt
  by_cases hd : mayD a b c
  · rw [newE_ok hd]
    simp only [dim_ok, rows_ok]
    have hN := N_bd hd
    have HM : Hid (∀ w, Calls Try.prog 40 #[A3 a b c] w fun e W' => e = .returned (.tuple #[I (a * b * c), I 0]) ∧ Below w.heap.size w W') := fun w => many_yes w hd
    unfold emptyC
    generalize a * b * c = N at *
    obtain ⟨nn, rfl⟩ : ∃ nn : Nat, N = nn := ⟨N.toNat, by omega⟩
    rw [show (3 * (nn : Int)).toNat = 3 * nn by omega, Int.toNat_natCast]
    have hll : 3 * nn ≤ 100000 := by omega
    have hnn : nn ≤ 100000 := by omega
    have hmul : wrap64 (3 * (nn : Int)) = ((3 * nn : Nat) : Int) := by rw [wrap_in _ (by omega)]; omega
    have hmul2 : IntKind.i64.wrap (3 * (nn : Int)) = ((3 * nn : Nat) : Int) := by rw [IntKind.wrap_i64]; omega
    clear hW hd hN
    generalize 3 * nn = ll at *
    go_enter Try.func20, Try.ntmps20
    go_wp2_with fail
    rw [HW.out]
    refine (HM.out _).mono ?_
    rintro e w1 ⟨rfl, hT⟩
    have q0 := hK.later hT
    go_wp2_with fail
    refine wp_region_loud4 (w0 := w1) 7 (wordN a b c nn ll w1.heap.size) hmx (by kernel_rfl) wordN_later ?_ ?_
    · intro i op hi act w' hTT hL hpre
      have s1 : act.tmps.getD 1 undef = .pointer (some ⟨w.heap.size, 0, none⟩) := by
        rw [Array.getD_eq_getD_getElem?, hL.out 1 (of_decide_eq_true (by kernel_rfl))]; rfl
      have s4 : act.tmps.getD 4 undef = I nn := by
        rw [Array.getD_eq_getD_getElem?, hL.out 4 (of_decide_eq_true (by kernel_rfl))]; rfl
      obtain ⟨p0, p1, p2, hz⟩ := q0.three hTT
      have hBw := Below.refl w'.heap.size w'
      clear hL
      match i, hi with
      | 0, hi =>
        obtain rfl := Option.some.inj hi
        refine .inl ⟨A3 a b c, w', ?_, hBw, rfl⟩
        simp [execOp, go_sem, Act.eval, s1, p0, p1, p2]
      | 1, hi =>
        obtain rfl := Option.some.inj hi
        refine .inl ⟨I nn, w', ?_, hBw, rfl⟩
        simp [execOp, go_sem, Act.eval, s4]
      | 2, hi =>
        obtain rfl := Option.some.inj hi
        have x0 : act.tmps.getD 16 undef = I nn := hpre ⟨1, .data⟩ (by simp) rfl
        exact .inl ⟨_, _, mk_runY (.tmp 16) (.tmp 16) rfl nn x0 x0 hnn, (Below.refl _ w').alloc (Nat.le_refl _) _, w'.heap.size, rfl, Blk.new w' _ _, hTT.size⟩
      | 3, hi =>
        obtain rfl := Option.some.inj hi
        refine .inl ⟨I nn, w', ?_, hBw, rfl⟩
        simp [execOp, go_sem, Act.eval, s4]
      | 4, hi =>
        obtain rfl := Option.some.inj hi
        have x0 : act.tmps.getD 18 undef = I nn := hpre ⟨3, .data⟩ (by simp) rfl
        refine .inl ⟨I ll, w', ?_, hBw, rfl⟩
        simp [execOp, go_sem, Act.eval, x0, hmul2]
      | 5, hi =>
        obtain rfl := Option.some.inj hi
        have x0 : act.tmps.getD 19 undef = I ll := hpre ⟨4, .data⟩ (by simp) rfl
        exact .inl ⟨_, _, mk_runY (.tmp 19) (.tmp 19) rfl ll x0 x0 hll, (Below.refl _ w').alloc (Nat.le_refl _) _, w'.heap.size, rfl, Blk.new w' _ _, hTT.size⟩
      | 6, hi =>
        obtain rfl := Option.some.inj hi
        have x0 : act.tmps.getD 15 undef = A3 a b c := hpre ⟨0, .data⟩ (by simp) rfl
        obtain ⟨g, x1, k1⟩ : MadeY w1.heap.size nn (act.tmps.getD 17 undef) w' := hpre ⟨2, .data⟩ (by simp) rfl
        obtain ⟨g', x2, k2⟩ : MadeY w1.heap.size ll (act.tmps.getD 20 undef) w' := hpre ⟨5, .data⟩ (by simp) rfl
        refine .inl ⟨Y5 a b c (.slice (some ⟨g, 0, none⟩) nn nn) (.slice (some ⟨g', 0, none⟩) ll ll), w', ?_, hBw, _, _, _, _, _, _, rfl, ⟨g, rfl, k1⟩, ⟨g', rfl, k2⟩⟩
        rw [Array.getD_eq_getD_getElem?] at x0 x1 x2
        simp [execOp, go_sem, Act.eval, x0, x1, x2]
      | n + 7, hi => simp at hi
    · intro vs w2 hT2 hall
      obtain ⟨ao1, n1, c1, ao2, n2, c2, h6, hU, hV⟩ : ∃ ao1 n1 c1 ao2 n2 c2, vs 6 = Y5 a b c (.slice ao1 n1 c1) (.slice ao2 n2 c2) ∧ MadeY w1.heap.size nn (.slice ao1 n1 c1) w2 ∧ MadeY w1.heap.size ll (.slice ao2 n2 c2) w2 := hall 6 (by decide)
      clear hall
      simp only [List.take_succ_cons, List.take_zero, List.drop_succ_cons, List.drop_zero, List.length_cons, List.length_nil, Nat.zero_add, Nat.reduceAdd, List.range, List.range.loop, List.foldl_cons, List.foldl_nil, dstOf, List.getElem?_cons_zero, List.getElem?_cons_succ, Option.getD_some, Act.put, h6, List.setIfInBounds_toArray, List.set_cons_succ, List.set_cons_zero]
      clear h6
      generalize vs 0 = y0
      generalize vs 1 = y1
      generalize vs 2 = y2
      generalize vs 3 = y3
      generalize vs 4 = y4
      generalize vs 5 = y5
      clear vs
      have hU := hU.yo hnn
      have hV := hV.yo hll
      have hT2 := then_below hT hT2
      have hR2 := hR.later hT2
      have HS := hR2.set5 (.int .i64 a) (.int .i64 b) (.int .i64 c) (.slice ao1 n1 c1) (.slice ao2 n2 c2)
      have hlow := below_set5 (then_below hB hT2) (show w.heap.size ≤ w.heap.size + 1 by omega) (.int .i64 a) (.int .i64 b) (.int .i64 c) (.slice ao1 n1 c1) (.slice ao2 n2 c2)
      have HU : Hid (Yo (put5 w2 (w.heap.size + 1) (.int .i64 a) (.int .i64 b) (.int .i64 c) (.slice ao1 n1 c1) (.slice ao2 n2 c2)) w.heap.size (.slice ao1 n1 c1) (List.replicate nn [])) := (hU.put5 (Nat.lt_of_lt_of_le hWs hT.size) _ _ _ _ _).weak (Nat.le_trans hB.size hT.size)
      have HV : Hid (Yo (put5 w2 (w.heap.size + 1) (.int .i64 a) (.int .i64 b) (.int .i64 c) (.slice ao1 n1 c1) (.slice ao2 n2 c2)) w.heap.size (.slice ao2 n2 c2) (List.replicate ll [])) := (hV.put5 (Nat.lt_of_lt_of_le hWs hT.size) _ _ _ _ _).weak (Nat.le_trans hB.size hT.size)
      clear hU hV q0
      obtain ⟨q0, q1, q2, q3, q4, hzq⟩ := hR2.five
      obtain ⟨f0, f1, f2, f3, f4⟩ := hR2.row5
      gi_wp2
      go_wp2
      obtain ⟨j0, j1, j2, j3, j4, _⟩ := HS.five
      exact bodyPost_ret (v := .tuple #[Y5 a b c (.slice ao1 n1 c1) (.slice ao2 n2 c2), I 0]) (by simp [results, Try.f20, go_sem, j0, j1, j2, j3, j4]) rfl ⟨_, _, rfl, HU.out, HV.out, hlow⟩
  · rw [newE_no hd]
    have h8 : (8 : Int) ≠ 0 := by decide
    simp only [dim_no h8, rows_no h8]
    have HM : Hid (∀ w, Calls Try.prog 40 #[A3 a b c] w fun e W' => e = .returned (.tuple #[I 0, I 8]) ∧ Below w.heap.size w W') := fun w => many_no w hd
    clear hW hd h8
    go_enter Try.func20, Try.ntmps20
    go_wp2_with fail
    rw [HW.out]
    refine (HM.out _).mono ?_
    rintro e w1 ⟨rfl, hT⟩
    have hR2 := hR.later hT
    have HS := hR2.set5 (.int .i64 0) (.int .i64 0) (.int .i64 0) (.slice none 0 0) (.slice none 0 0)
    have hlow := below_set5 (then_below hB hT) (show w.heap.size ≤ w.heap.size + 1 by omega) (.int .i64 0) (.int .i64 0) (.int .i64 0) (.slice none 0 0) (.slice none 0 0)
    obtain ⟨q0, q1, q2, q3, q4, hzq⟩ := hR2.five
    obtain ⟨f0, f1, f2, f3, f4⟩ := hR2.row5
    go_wp2_with fail
    obtain ⟨j0, j1, j2, j3, j4, _⟩ := HS.five
    exact bodyPost_ret (v := .tuple #[Y5 0 0 0 (.slice none 0 0) (.slice none 0 0), I 8]) (by simp [results, Try.f20, go_sem, j0, j1, j2, j3, j4]) rfl ⟨_, _, rfl, Yo.nil _ _, Yo.nil _ _, hlow⟩

set_option maxRecDepth 100000 in
set_option maxHeartbeats 16000000 in
theorem ryNew_calls {a b c : Int} (w : World) :
    Calls Try.prog 21 #[A3 a b c] w fun e W' => ∃ u v, e = .returned (.tuple #[Y5 (dimE (newE a b c) a) (dimE (newE a b c) b) (dimE (newE a b c) c) u v, I (newE a b c)]) ∧ Yo W' w.heap.size u (rowsE (newE a b c) (emptyC (a * b * c))) ∧ Yo W' w.heap.size v (rowsE (newE a b c) (emptyC (3 * (a * b * c)))) ∧ Below w.heap.size w W' := by
  have hmx : Try.prog.follows .mixedOrders = true := by kernel_rfl
  obtain ⟨W, hW, hB, hK, hR⟩ := two_start w #[I a, I b, I c] (K5 0 0 0 (.slice none 0 0) (.slice none 0 0)) 23 26
  have HW : Hid ((w.alloc (.cells #[I a, I b, I c] 23)).alloc (.cells (K5 0 0 0 (.slice none 0 0) (.slice none 0 0)) 26) = W) := hW
  have hWs : w.heap.size + 1 < W.heap.size := hR.lt
  by_cases hd : mayD a b c
  · rw [newE_ok hd]
    simp only [dim_ok, rows_ok]
    have hN := N_bd hd
    have HM : Hid (∀ w, Calls Try.prog 54 #[A3 a b c] w fun e W' => e = .returned (.bool true) ∧ Below w.heap.size w W') := fun w => rmay_yes w hd
    have HN : Hid (∀ w, Calls Try.prog 55 #[A3 a b c] w fun e W' => e = .returned (I (a * b * c)) ∧ Below w.heap.size w W') := fun w => rn_calls w hd
    unfold emptyC
    generalize a * b * c = N at *
    obtain ⟨nn, rfl⟩ : ∃ nn : Nat, N = nn := ⟨N.toNat, by omega⟩
    rw [show (3 * (nn : Int)).toNat = 3 * nn by omega, Int.toNat_natCast]
    have hll : 3 * nn ≤ 100000 := by omega
    have hnn : nn ≤ 100000 := by omega
    have hmul : wrap64 (3 * (nn : Int)) = ((3 * nn : Nat) : Int) := by rw [wrap_in _ (by omega)]; omega
    have hmul2 : IntKind.i64.wrap (3 * (nn : Int)) = ((3 * nn : Nat) : Int) := by rw [IntKind.wrap_i64]; omega
    clear hW hd hN
    generalize 3 * nn = ll at *
    go_enter Try.func21, Try.ntmps21
    go_wp2_with fail
    rw [HW.out]
    refine (HM.out _).mono ?_
    rintro e w0 ⟨rfl, hT0⟩
    obtain ⟨p0, p1, p2, hz⟩ := hK.three hT0
    go_wp2_with fail
    refine (HN.out _).mono ?_
    rintro e w1 ⟨rfl, hB1⟩
    have hT := then_below hT0 hB1
    clear hB1 hT0 p0 p1 p2 hz
    have q0 := hK.later hT
    go_wp2_with fail
    refine wp_region_loud4 (w0 := w1) 7 (wordN a b c nn ll w1.heap.size) hmx (by kernel_rfl) wordN_later ?_ ?_
    · intro i op hi act w' hTT hL hpre
      have s1 : act.tmps.getD 1 undef = .pointer (some ⟨w.heap.size, 0, none⟩) := by
        rw [Array.getD_eq_getD_getElem?, hL.out 1 (of_decide_eq_true (by kernel_rfl))]; rfl
      have s4 : act.tmps.getD 4 undef = I nn := by
        rw [Array.getD_eq_getD_getElem?, hL.out 4 (of_decide_eq_true (by kernel_rfl))]; rfl
      obtain ⟨p0, p1, p2, hz⟩ := q0.three hTT
      have hBw := Below.refl w'.heap.size w'
      clear hL
      match i, hi with
      | 0, hi =>
        obtain rfl := Option.some.inj hi
        refine .inl ⟨A3 a b c, w', ?_, hBw, rfl⟩
        simp [execOp, go_sem, Act.eval, s1, p0, p1, p2]
      | 1, hi =>
        obtain rfl := Option.some.inj hi
        refine .inl ⟨I nn, w', ?_, hBw, rfl⟩
        simp [execOp, go_sem, Act.eval, s4]
      | 2, hi =>
        obtain rfl := Option.some.inj hi
        have x0 : act.tmps.getD 12 undef = I nn := hpre ⟨1, .data⟩ (by simp) rfl
        exact .inl ⟨_, _, mk_runY (.tmp 12) (.tmp 12) rfl nn x0 x0 hnn, (Below.refl _ w').alloc (Nat.le_refl _) _, w'.heap.size, rfl, Blk.new w' _ _, hTT.size⟩
      | 3, hi =>
        obtain rfl := Option.some.inj hi
        refine .inl ⟨I nn, w', ?_, hBw, rfl⟩
        simp [execOp, go_sem, Act.eval, s4]
      | 4, hi =>
        obtain rfl := Option.some.inj hi
        have x0 : act.tmps.getD 14 undef = I nn := hpre ⟨3, .data⟩ (by simp) rfl
        refine .inl ⟨I ll, w', ?_, hBw, rfl⟩
        simp [execOp, go_sem, Act.eval, x0, hmul2]
      | 5, hi =>
        obtain rfl := Option.some.inj hi
        have x0 : act.tmps.getD 15 undef = I ll := hpre ⟨4, .data⟩ (by simp) rfl
        exact .inl ⟨_, _, mk_runY (.tmp 15) (.tmp 15) rfl ll x0 x0 hll, (Below.refl _ w').alloc (Nat.le_refl _) _, w'.heap.size, rfl, Blk.new w' _ _, hTT.size⟩
      | 6, hi =>
        obtain rfl := Option.some.inj hi
        have x0 : act.tmps.getD 11 undef = A3 a b c := hpre ⟨0, .data⟩ (by simp) rfl
        obtain ⟨g, x1, k1⟩ : MadeY w1.heap.size nn (act.tmps.getD 13 undef) w' := hpre ⟨2, .data⟩ (by simp) rfl
        obtain ⟨g', x2, k2⟩ : MadeY w1.heap.size ll (act.tmps.getD 16 undef) w' := hpre ⟨5, .data⟩ (by simp) rfl
        refine .inl ⟨Y5 a b c (.slice (some ⟨g, 0, none⟩) nn nn) (.slice (some ⟨g', 0, none⟩) ll ll), w', ?_, hBw, _, _, _, _, _, _, rfl, ⟨g, rfl, k1⟩, ⟨g', rfl, k2⟩⟩
        rw [Array.getD_eq_getD_getElem?] at x0 x1 x2
        simp [execOp, go_sem, Act.eval, x0, x1, x2]
      | n + 7, hi => simp at hi
    · intro vs w2 hT2 hall
      obtain ⟨ao1, n1, c1, ao2, n2, c2, h6, hU, hV⟩ : ∃ ao1 n1 c1 ao2 n2 c2, vs 6 = Y5 a b c (.slice ao1 n1 c1) (.slice ao2 n2 c2) ∧ MadeY w1.heap.size nn (.slice ao1 n1 c1) w2 ∧ MadeY w1.heap.size ll (.slice ao2 n2 c2) w2 := hall 6 (by decide)
      clear hall
      simp only [List.take_succ_cons, List.take_zero, List.drop_succ_cons, List.drop_zero, List.length_cons, List.length_nil, Nat.zero_add, Nat.reduceAdd, List.range, List.range.loop, List.foldl_cons, List.foldl_nil, dstOf, List.getElem?_cons_zero, List.getElem?_cons_succ, Option.getD_some, Act.put, h6, List.setIfInBounds_toArray, List.set_cons_succ, List.set_cons_zero]
      clear h6
      generalize vs 0 = y0
      generalize vs 1 = y1
      generalize vs 2 = y2
      generalize vs 3 = y3
      generalize vs 4 = y4
      generalize vs 5 = y5
      clear vs
      have hU := hU.yo hnn
      have hV := hV.yo hll
      have hT2 := then_below hT hT2
      have hR2 := hR.later hT2
      have HS := hR2.set5 (.int .i64 a) (.int .i64 b) (.int .i64 c) (.slice ao1 n1 c1) (.slice ao2 n2 c2)
      have hlow := below_set5 (then_below hB hT2) (show w.heap.size ≤ w.heap.size + 1 by omega) (.int .i64 a) (.int .i64 b) (.int .i64 c) (.slice ao1 n1 c1) (.slice ao2 n2 c2)
      have HU : Hid (Yo (put5 w2 (w.heap.size + 1) (.int .i64 a) (.int .i64 b) (.int .i64 c) (.slice ao1 n1 c1) (.slice ao2 n2 c2)) w.heap.size (.slice ao1 n1 c1) (List.replicate nn [])) := (hU.put5 (Nat.lt_of_lt_of_le hWs hT.size) _ _ _ _ _).weak (Nat.le_trans hB.size hT.size)
      have HV : Hid (Yo (put5 w2 (w.heap.size + 1) (.int .i64 a) (.int .i64 b) (.int .i64 c) (.slice ao1 n1 c1) (.slice ao2 n2 c2)) w.heap.size (.slice ao2 n2 c2) (List.replicate ll [])) := (hV.put5 (Nat.lt_of_lt_of_le hWs hT.size) _ _ _ _ _).weak (Nat.le_trans hB.size hT.size)
      clear hU hV q0
      obtain ⟨q0, q1, q2, q3, q4, hzq⟩ := hR2.five
      obtain ⟨f0, f1, f2, f3, f4⟩ := hR2.row5
      gi_wp2
      go_wp2
      obtain ⟨j0, j1, j2, j3, j4, _⟩ := HS.five
      exact bodyPost_ret (v := .tuple #[Y5 a b c (.slice ao1 n1 c1) (.slice ao2 n2 c2), I 0]) (by simp [results, Try.f21, go_sem, j0, j1, j2, j3, j4]) rfl ⟨_, _, rfl, HU.out, HV.out, hlow⟩
  · rw [newE_no hd]
    have h8 : (8 : Int) ≠ 0 := by decide
    simp only [dim_no h8, rows_no h8]
    have HM : Hid (∀ w, Calls Try.prog 54 #[A3 a b c] w fun e W' => e = .returned (.bool false) ∧ Below w.heap.size w W') := fun w => rmay_no w hd
    clear hW hd h8
    go_enter Try.func21, Try.ntmps21
    go_wp2_with fail
    rw [HW.out]
    refine (HM.out _).mono ?_
    rintro e w1 ⟨rfl, hT⟩
    have hR2 := hR.later hT
    have HS := hR2.set5 (.int .i64 0) (.int .i64 0) (.int .i64 0) (.slice none 0 0) (.slice none 0 0)
    have hlow := below_set5 (then_below hB hT) (show w.heap.size ≤ w.heap.size + 1 by omega) (.int .i64 0) (.int .i64 0) (.int .i64 0) (.slice none 0 0) (.slice none 0 0)
    obtain ⟨q0, q1, q2, q3, q4, hzq⟩ := hR2.five
    obtain ⟨f0, f1, f2, f3, f4⟩ := hR2.row5
    go_wp2_with fail
    obtain ⟨j0, j1, j2, j3, j4, _⟩ := HS.five
    exact bodyPost_ret (v := .tuple #[Y5 0 0 0 (.slice none 0 0) (.slice none 0 0), I 8]) (by simp [results, Try.f21, go_sem, j0, j1, j2, j3, j4]) rfl ⟨_, _, rfl, Yo.nil _ _, Yo.nil _ _, hlow⟩

end Go.Proofs.Ytabhlmckncgdjaa
