/-
  cals.New, tidehallref09.New. (Written by tools/gen/cals_new.py.)
-/
import Derived.Test.YtkbdkhohecdbhaaPart17
import Derived.Test.YtkbdkhohecdbhaaPart18
import Derived.Test.YtkbdkhohecdbhaaPart16
import Derived.Test.YtkbdkhohecdbhaaPart3
namespace Go.Proofs.Ytkbdkhohecdbhaa
open Go Go.RowKit Go.Shelf

attribute [local go_sem] Oper.semAt_some ext_const

/-- 'make([][]api.Slot, n)', as one operation. -/
theorem mk_runY {o : Oper} {a : Act} {W : World} (l c : Operand) (ho : o.op = Op.makeSlice 24 l c) (n : Nat) (hl : a.eval l = .int .i64 n) (hc : a.eval c = .int .i64 n) (h1 : n ≤ 100000) :
    (execOp a.eval o).run Try.prog W = .ok (.value (.slice (some ⟨W.heap.size, 0, none⟩) n n)) (W.alloc (.cells (List.replicate n (Value.slice none 0 0)).toArray 72)) := by
  obtain ⟨i0, hi, hz0, hz1, hz2⟩ := info_parts info_c
  have hrun := run_make (P := Try.prog) W 24 72 i0 (.slice none 0 0) Try.underlying24 hi hz0 .i64 .i64 n n (by omega) (by omega) (by rw [hz2]; omega) (by omega)
  rw [hz1, Nat.mul_one] at hrun
  simp only [Int.toNat_natCast] at hrun
  rw [show (Value.slice none 0 0).cells = #[.slice none 0 0] from rfl, made_nil] at hrun
  generalize (List.replicate n (Value.slice none 0 0)).toArray = cs at hrun
  simp [execOp, ho, hl, hc, hrun, Result.andThen]

/-- A list of empty calendars, just made. -/
def MadeY (base n : Nat) (v : Value) (w : World) : Prop := ∃ g, v = .slice (some ⟨g, 0, none⟩) n n ∧ Blk w g 72 (List.replicate n (Value.slice none 0 0)).toArray ∧ base ≤ g
theorem MadeY.later {base n : Nat} {v : Value} {w w' : World} (h : MadeY base n v w) (hB : Below w.heap.size w w') : MadeY base n v w' := by
  obtain ⟨g, h1, h2, h3⟩ := h
  exact ⟨g, h1, h2.later hB, h3⟩
theorem MadeY.yo {base n : Nat} {v : Value} {w : World} (h : MadeY base n v w) (hn : n ≤ 100000) : Yo w base v (List.replicate n []) := by
  obtain ⟨g, rfl, h2, h3⟩ := h
  exact Made.empty h2 h3 hn
/-- What each operation of New's last statement comes to. -/
def wordN (a b c : Int) (nn ll base : Nat) (i : Nat) (v : Value) (w : World) : Prop :=
  match i with
  | 0 => v = A3 a b c
  | 1 => v = I nn
  | 2 => MadeY base nn v w
  | 3 => v = I nn
  | 4 => v = I ll
  | 5 => MadeY base ll v w
  | 6 => ∃ ao1 n1 c1 ao2 n2 c2, v = Y5 a b c (.slice ao1 n1 c1) (.slice ao2 n2 c2) ∧ MadeY base nn (.slice ao1 n1 c1) w ∧ MadeY base ll (.slice ao2 n2 c2) w
  | _ => False
theorem wordN_later {a b c : Int} {nn ll base : Nat} (i : Nat) (v : Value) (w w' : World) (h : wordN a b c nn ll base i v w) (hB : Below w.heap.size w w') : wordN a b c nn ll base i v w' := by
  match i, h with
  | 0, h => exact h
  | 1, h => exact h
  | 2, h => exact MadeY.later h hB
  | 3, h => exact h
  | 4, h => exact h
  | 5, h => exact MadeY.later h hB
  | 6, ⟨o1, n1, c1, o2, n2, c2, h1, h2, h3⟩ => exact ⟨o1, n1, c1, o2, n2, c2, h1, h2.later hB, h3.later hB⟩
  | n + 7, h => exact h.elim

/-- New's error. -/
def newE (a b c : Int) : Int := if mayDB a b c then 0 else 8
theorem newE_ok {a b c : Int} (h : mayD a b c) : newE a b c = 0 := by rw [newE, if_pos (mayDB_iff.2 h)]
theorem newE_no {a b c : Int} (h : ¬ mayD a b c) : newE a b c = 8 := by rw [newE, if_neg (by rw [mayDB_iff]; exact h)]
def emptyC (n : Int) : List (List Slt) := List.replicate n.toNat []

set_option maxRecDepth 100000 in
set_option maxHeartbeats 16000000 in
theorem yNew_calls {a b c : Int} (w : World) :
    Calls Try.prog 24 #[A3 a b c] w fun e W' => ∃ u v, e = .returned (.tuple #[Y5 (dimE (newE a b c) a) (dimE (newE a b c) b) (dimE (newE a b c) c) u v, I (newE a b c)]) ∧ Yo W' w.heap.size u (rowsE (newE a b c) (emptyC (a * b * c))) ∧ Yo W' w.heap.size v (rowsE (newE a b c) (emptyC (3 * (a * b * c)))) ∧ Below w.heap.size w W' := by
  have hmx : Try.prog.follows .mixedOrders = true := by kernel_rfl
  obtain ⟨W, hW, hB, hK, hR⟩ := two_start w #[I a, I b, I c] (K5 0 0 0 (.slice none 0 0) (.slice none 0 0)) 23 26
  have HW : Hid ((w.alloc (.cells #[I a, I b, I c] 23)).alloc (.cells (K5 0 0 0 (.slice none 0 0) (.slice none 0 0)) 26) = W) := hW
  have hWs : w.heap.size + 1 < W.heap.size := hR.lt
  by_cases hd : mayD a b c
  · rw [newE_ok hd]
    simp only [dim_ok, rows_ok]
    have hN := N_bd hd
    have HM : Hid (∀ w, Calls Try.prog 43 #[A3 a b c] w fun e W' => e = .returned (.tuple #[I (a * b * c), I 0]) ∧ Below w.heap.size w W') := fun w => many_yes w hd
    unfold emptyC
    generalize a * b * c = N at *
    obtain ⟨nn, rfl⟩ : ∃ nn : Nat, N = nn := ⟨N.toNat, by omega⟩
    rw [show (3 * (nn : Int)).toNat = 3 * nn by omega, Int.toNat_natCast]
    have hll : 3 * nn ≤ 100000 := by omega
    have hnn : nn ≤ 100000 := by omega
    have hmul : wrap64 (3 * (nn : Int)) = ((3 * nn : Nat) : Int) := by rw [wrap_in _ (by omega)]; omega
    have hmul2 : IntKind.i64.wrap (3 * (nn : Int)) = ((3 * nn : Nat) : Int) := by rw [IntKind.wrap_i64]; omega
    clear hW hd hN
    generalize 3 * nn = ll at *
    go_enter Try.func24, Try.ntmps24
    go_wp2_with fail
    rw [HW.out]
    refine (HM.out _).mono ?_
    rintro e w1 ⟨rfl, hT⟩
    have q0 := hK.later hT
    go_wp2_with fail
    refine wp_region_loud4 (w0 := w1) 7 (wordN a b c nn ll w1.heap.size) hmx (by kernel_rfl) wordN_later ?_ ?_
    · intro i op hi act w' hTT hL hpre
      have s1 : act.tmps.getD 1 undef = .pointer (some ⟨w.heap.size, 0, none⟩) := by
        rw [Array.getD_eq_getD_getElem?, hL.out 1 (of_decide_eq_true (by kernel_rfl))]; rfl
      have s4 : act.tmps.getD 4 undef = I nn := by
        rw [Array.getD_eq_getD_getElem?, hL.out 4 (of_decide_eq_true (by kernel_rfl))]; rfl
      obtain ⟨p0, p1, p2, hz⟩ := q0.three hTT
      have hBw := Below.refl w'.heap.size w'
      clear hL
      match i, hi with
      | 0, hi =>
        obtain rfl := Option.some.inj hi
        refine .inl ⟨A3 a b c, w', ?_, hBw, rfl⟩
        simp [execOp, go_sem, Act.eval, s1, p0, p1, p2]
      | 1, hi =>
        obtain rfl := Option.some.inj hi
        refine .inl ⟨I nn, w', ?_, hBw, rfl⟩
        simp [execOp, go_sem, Act.eval, s4]
      | 2, hi =>
        obtain rfl := Option.some.inj hi
        have x0 : act.tmps.getD 16 undef = I nn := hpre ⟨1, .data⟩ (by simp) rfl
        exact .inl ⟨_, _, mk_runY (.tmp 16) (.tmp 16) rfl nn x0 x0 hnn, (Below.refl _ w').alloc (Nat.le_refl _) _, w'.heap.size, rfl, Blk.new w' _ _, hTT.size⟩
      | 3, hi =>
        obtain rfl := Option.some.inj hi
        refine .inl ⟨I nn, w', ?_, hBw, rfl⟩
        simp [execOp, go_sem, Act.eval, s4]
      | 4, hi =>
        obtain rfl := Option.some.inj hi
        have x0 : act.tmps.getD 18 undef = I nn := hpre ⟨3, .data⟩ (by simp) rfl
        refine .inl ⟨I ll, w', ?_, hBw, rfl⟩
        simp [execOp, go_sem, Act.eval, x0, hmul2]
      | 5, hi =>
        obtain rfl := Option.some.inj hi
        have x0 : act.tmps.getD 19 undef = I ll := hpre ⟨4, .data⟩ (by simp) rfl
        exact .inl ⟨_, _, mk_runY (.tmp 19) (.tmp 19) rfl ll x0 x0 hll, (Below.refl _ w').alloc (Nat.le_refl _) _, w'.heap.size, rfl, Blk.new w' _ _, hTT.size⟩
      | 6, hi =>
        obtain rfl := Option.some.inj hi
        have x0 : act.tmps.getD 15 undef = A3 a b c := hpre ⟨0, .data⟩ (by simp) rfl
        obtain ⟨g, x1, k1⟩ : MadeY w1.heap.size nn (act.tmps.getD 17 undef) w' := hpre ⟨2, .data⟩ (by simp) rfl
        obtain ⟨g', x2, k2⟩ : MadeY w1.heap.size ll (act.tmps.getD 20 undef) w' := hpre ⟨5, .data⟩ (by simp) rfl
        refine .inl ⟨Y5 a b c (.slice (some ⟨g, 0, none⟩) nn nn) (.slice (some ⟨g', 0, none⟩) ll ll), w', ?_, hBw, _, _, _, _, _, _, rfl, ⟨g, rfl, k1⟩, ⟨g', rfl, k2⟩⟩
        rw [Array.getD_eq_getD_getElem?] at x0 x1 x2
        simp [execOp, go_sem, Act.eval, x0, x1, x2]
      | n + 7, hi => simp at hi
    · intro vs w2 hT2 hall
      obtain ⟨ao1, n1, c1, ao2, n2, c2, h6, hU, hV⟩ : ∃ ao1 n1 c1 ao2 n2 c2, vs 6 = Y5 a b c (.slice ao1 n1 c1) (.slice ao2 n2 c2) ∧ MadeY w1.heap.size nn (.slice ao1 n1 c1) w2 ∧ MadeY w1.heap.size ll (.slice ao2 n2 c2) w2 := hall 6 (by decide)
      clear hall
      simp only [List.take_succ_cons, List.take_zero, List.drop_succ_cons, List.drop_zero, List.length_cons, List.length_nil, Nat.zero_add, Nat.reduceAdd, List.range, List.range.loop, List.foldl_cons, List.foldl_nil, dstOf, List.getElem?_cons_zero, List.getElem?_cons_succ, Option.getD_some, Act.put, h6, List.setIfInBounds_toArray, List.set_cons_succ, List.set_cons_zero]
      clear h6
      generalize vs 0 = y0
      generalize vs 1 = y1
      generalize vs 2 = y2
      generalize vs 3 = y3
      generalize vs 4 = y4
      generalize vs 5 = y5
      clear vs
      have hU := hU.yo hnn
      have hV := hV.yo hll
      have hT2 := then_below hT hT2
      have hR2 := hR.later hT2
      have HS := hR2.set5 (.int .i64 a) (.int .i64 b) (.int .i64 c) (.slice ao1 n1 c1) (.slice ao2 n2 c2)
      have hlow := below_set5 (then_below hB hT2) (show w.heap.size ≤ w.heap.size + 1 by omega) (.int .i64 a) (.int .i64 b) (.int .i64 c) (.slice ao1 n1 c1) (.slice ao2 n2 c2)
      have HU : Hid (Yo (put5 w2 (w.heap.size + 1) (.int .i64 a) (.int .i64 b) (.int .i64 c) (.slice ao1 n1 c1) (.slice ao2 n2 c2)) w.heap.size (.slice ao1 n1 c1) (List.replicate nn [])) := (hU.put5 (Nat.lt_of_lt_of_le hWs hT.size) _ _ _ _ _).weak (Nat.le_trans hB.size hT.size)
      have HV : Hid (Yo (put5 w2 (w.heap.size + 1) (.int .i64 a) (.int .i64 b) (.int .i64 c) (.slice ao1 n1 c1) (.slice ao2 n2 c2)) w.heap.size (.slice ao2 n2 c2) (List.replicate ll [])) := (hV.put5 (Nat.lt_of_lt_of_le hWs hT.size) _ _ _ _ _).weak (Nat.le_trans hB.size hT.size)
      clear hU hV q0
      obtain ⟨q0, q1, q2, q3, q4, hzq⟩ := hR2.five
      obtain ⟨f0, f1, f2, f3, f4⟩ := hR2.row5
      gi_wp2
      go_wp2
      obtain ⟨j0, j1, j2, j3, j4, _⟩ := HS.five
      exact bodyPost_ret (v := .tuple #[Y5 a b c (.slice ao1 n1 c1) (.slice ao2 n2 c2), I 0]) (by simp [results, Try.f24, go_sem, j0, j1, j2, j3, j4]) rfl ⟨_, _, rfl, HU.out, HV.out, hlow⟩
  · rw [newE_no hd]
    have h8 : (8 : Int) ≠ 0 := by decide
    simp only [dim_no h8, rows_no h8]
    have HM : Hid (∀ w, Calls Try.prog 43 #[A3 a b c] w fun e W' => e = .returned (.tuple #[I 0, I 8]) ∧ Below w.heap.size w W') := fun w => many_no w hd
    clear hW hd h8
    go_enter Try.func24, Try.ntmps24
    go_wp2_with fail
    rw [HW.out]
    refine (HM.out _).mono ?_
    rintro e w1 ⟨rfl, hT⟩
    have hR2 := hR.later hT
    have HS := hR2.set5 (.int .i64 0) (.int .i64 0) (.int .i64 0) (.slice none 0 0) (.slice none 0 0)
    have hlow := below_set5 (then_below hB hT) (show w.heap.size ≤ w.heap.size + 1 by omega) (.int .i64 0) (.int .i64 0) (.int .i64 0) (.slice none 0 0) (.slice none 0 0)
    obtain ⟨q0, q1, q2, q3, q4, hzq⟩ := hR2.five
    obtain ⟨f0, f1, f2, f3, f4⟩ := hR2.row5
    go_wp2_with fail
    obtain ⟨j0, j1, j2, j3, j4, _⟩ := HS.five
    exact bodyPost_ret (v := .tuple #[Y5 0 0 0 (.slice none 0 0) (.slice none 0 0), I 8]) (by simp [results, Try.f24, go_sem, j0, j1, j2, j3, j4]) rfl ⟨_, _, rfl, Yo.nil _ _, Yo.nil _ _, hlow⟩

end Go.Proofs.Ytkbdkhohecdbhaa

/-
  cals.Busy, cals.Owned: the sets of the numbers of which something holds. (Written by tools/gen/cals_num.py.)
-/
namespace Go.Proofs.Ytkbdkhohecdbhaa
open Go Go.RowKit Go.Shelf

attribute [local go_sem] Oper.semAt_some ext_const

theorem of_numsTo {n : Nat} (p : Nat → Bool) (h1 : 1 ≤ n) (h2 : n ≤ 12288) : Hid (∀ (w : World) (b : Nat) (u : Value), Lst w b u (numsTo p n) → Calls Try.prog 95 #[I n, u] w fun e W' => ∃ v, e = .returned (.tuple #[v, I 0]) ∧ SetR W' w.heap.size v (setOf n p) ∧ Below w.heap.size w W') := by
  intro w b u hu
  refine (of_calls w hu.its (by have := numsTo_len p n; omega) n).mono ?_
  rintro e W' ⟨v, ws, rfl, hR, hO, hB⟩
  rw [ofErr_nums p h1 h2]
  obtain rfl := of_nums h1 h2 hO
  exact ⟨_, rfl, hR, hB⟩

/-- Whether an owner has a calendar's moment. -/
def ownB (xs : List Slt) (ow a : Int) : Bool := (atE xs a == 0) && (atV xs a == ow)
theorem ownB_at {xs : List Slt} (h : mayC xs) {ow a : Int} (ha : 0 ≤ a ∧ a < 1099511627776) : ownB xs ow a = decide (atC xs a = some ow) := by
  unfold ownB atE atV
  rw [if_pos (mayCB_iff.2 h), if_pos (mayCB_iff.2 h), momB_yes ha]
  cases e : atC xs a
  · simp
  · rename_i o
    by_cases h : o = ow <;> simp [h]

theorem busyc_calls {w : World} {A : Nat} {xs : List Slt} {v : Value} {x y : Int} (hm : mayC xs) (hs : maySp x y) (hS : Ss w v xs) (ha : Blk w A 53 (C2 x y)) : Calls Try.prog 65 #[v, .pointer (some ⟨A, 0, none⟩)] w fun e W' => e = .returned (.bool (!clearC xs x y)) ∧ Below w.heap.size w W' := by
  have HC : Hid (∀ w, Ss w v xs → Calls Try.prog 66 #[v, S2 x y] w fun e W' => e = .returned (.tuple #[.bool (clearC xs x y), I 0]) ∧ Below w.heap.size w W') := fun w h => by
    have := cfree_calls (x := x) (y := y) w h
    rwa [show freeB xs x y = clearC xs x y by simp [freeB, mayCB_iff.2 hm, (maySpB_iff x y).2 hs], show freeE xs x y = 0 by simp [freeE, mayCB_iff.2 hm, (maySpB_iff x y).2 hs]] at this
  have HS : Hid (Ss w v xs) := hS
  clear hS hm hs
  generalize clearC xs x y = r at *
  obtain ⟨c0, c1, hz⟩ := ha.pair (Below.refl _ _)
  cases r
  all_goals
    go_enter Try.func65, Try.ntmps65
    go_wp2_with fail
    refine (HC.out _ HS.out).mono ?_
    rintro e w1 ⟨rfl, hT⟩
    go_wp2
    go_ret
    exact ⟨rfl, hT⟩

set_option maxRecDepth 100000 in
set_option maxHeartbeats 4000000 in
theorem numbers_busy {cs : List (List Slt)} {v : Value} {p : Nat → Bool} (w : World) (A : Nat) (hS : Yl w v cs) (h1 : 1 ≤ cs.length) (h2 : cs.length ≤ 12288)
    (hc : ∀ (wr : World) (k : Nat) (vc : Value), k < cs.length → Below w.heap.size w wr → Ss wr vc (cs.getD k []) → Calls Try.prog 65 #[vc, .pointer (some ⟨A, 0, none⟩)] wr fun e W' => e = .returned (.bool (p k)) ∧ Below wr.heap.size wr W') :
    Calls Try.prog 85 #[v, .func (.func 65) #[] #[.pointer (some ⟨A, 0, none⟩)]] w fun e W' => ∃ u, e = .returned (.tuple #[u, I 0]) ∧ SetR W' w.heap.size u (setOf cs.length p) ∧ Below w.heap.size w W' := by
  obtain ⟨ao, cap, rfl, hS⟩ := hS.form
  have HS : Hid (Yl w (.slice ao cs.length cap) cs) := hS
  have HC : Hid (∀ (wr : World) (k : Nat) (vc : Value), k < cs.length → Below w.heap.size w wr → Ss wr vc (cs.getD k []) → Calls Try.prog 65 #[vc, .pointer (some ⟨A, 0, none⟩)] wr fun e W' => e = .returned (.bool (p k)) ∧ Below wr.heap.size wr W') := hc
  have HO := of_numsTo p h1 h2
  have HY : Hid (∀ k, p k = true → numsTo p (k + 1) = numsTo p k ++ [(k : Int)]) := fun k => numsTo_yes
  have HN : Hid (∀ k, p k = false → numsTo p (k + 1) = numsTo p k) := fun k => numsTo_no
  have HL : Hid (∀ k, (numsTo p k).length ≤ k) := numsTo_len p
  have H0 : Hid (numsTo p 0 = []) := rfl
  generalize setOf (cs.length : Int) p = tgt at *
  generalize numsTo p = nt at *
  clear hS hc
  go_enter Try.func85, Try.ntmps85
  go_wp2
  go_loopw [6, 11] (fun l i wr => ∃ k : Nat, k ≤ cs.length ∧ i = .int .i64 k ∧ Lst wr w.heap.size l (nt k) ∧ Below w.heap.size w wr) (fun _ i _ => cs.length - (RowKit.intOf i).toNat)
  case atStart => exact ⟨0, by omega, rfl, by rw [H0.out]; exact Lst.nil _ _, Below.refl _ _⟩
  case round =>
    obtain ⟨k, hk, rfl, hL, hT⟩ := hrel
    by_cases hlt : (k : Int) < (cs.length : Int)
    · have hk' : k < cs.length := by omega
      obtain ⟨g, off, bo, m, c, rfl, hg, hcc, hs⟩ := (HS.out.later hT).get hk'
      have HC1 : Hid (Calls Try.prog 65 #[.slice bo m c, .pointer (some ⟨A, 0, none⟩)] wr fun e W' => e = .returned (.bool (p k)) ∧ Below wr.heap.size wr W') := HC.out wr k _ hk' hT hs
      have hlen := HL.out k
      have hlen : (nt k).length ≤ 100000 := by omega
      have HYk := HY.out k
      have HNk := HN.out k
      have HYk : Hid (p k = true → nt (k + 1) = nt k ++ [(k : Int)]) := HYk
      have HNk : Hid (p k = false → nt (k + 1) = nt k) := HNk
      generalize p k = q at HC1 HYk HNk
      clear hs
      cases q
      · have HE : Hid (nt (k + 1) = nt k) := HNk.out rfl
        clear HYk HNk
        go_wp2_with fail
        refine HC1.out.mono ?_
        rintro e w1 ⟨rfl, hB1⟩
        go_wp2
        go_roundw
        case rel => exact ⟨k + 1, by omega, by go_num, by rw [HE.out]; exact hL.later hB1, then_below hT hB1⟩
        case measure => simp [RowKit.intOf]; omega
      · have HE : Hid (nt (k + 1) = nt k ++ [(k : Int)]) := HYk.out rfl
        clear HYk HNk
        go_wp2_with fail
        refine HC1.out.mono ?_
        rintro e w1 ⟨rfl, hB1⟩
        have hL1 := hL.later hB1
        have hT1 := then_below hT hB1
        clear hL hB1 hT
        go_wp2_with (at_builtin; refine wpList_app rfl _ _ rfl rfl rfl hL1 hlen hT1.size ?_; intro v5 w5 hL5 hT5)
        go_roundw
        case rel => exact ⟨k + 1, by omega, by go_num, by rw [HE.out]; exact hL5, hT1.trans hT5⟩
        case measure => simp [RowKit.intOf]; omega
    · obtain rfl : k = cs.length := by omega
      go_wp2_with fail
      refine (HO.out _ _ _ hL).mono ?_
      rintro e w2 ⟨u, rfl, hR, hB2⟩
      have hR := hR.weak hT.size
      go_wp2
      go_ret2
      exact ⟨_, rfl, hR, then_below hT hB2⟩

set_option maxRecDepth 100000 in
set_option maxHeartbeats 4000000 in
theorem those_busy {a b c : Int} {n l : Value} {ns ls : List (List Slt)} {p q : Nat → Bool} (w : World) (A : Nat) (hN : Yl w n ns) (hL : Yl w l ls) (hm : mayY a b c ns ls)
    (hc : ∀ (wr : World) (k : Nat) (vc : Value), k < ns.length → Below w.heap.size w wr → Ss wr vc (ns.getD k []) → Calls Try.prog 65 #[vc, .pointer (some ⟨A, 0, none⟩)] wr fun e W' => e = .returned (.bool (p k)) ∧ Below wr.heap.size wr W')
    (hd : ∀ (wr : World) (k : Nat) (vc : Value), k < ls.length → Below w.heap.size w wr → Ss wr vc (ls.getD k []) → Calls Try.prog 65 #[vc, .pointer (some ⟨A, 0, none⟩)] wr fun e W' => e = .returned (.bool (q k)) ∧ Below wr.heap.size wr W') :
    Calls Try.prog 64 #[Y5 a b c n l, .func (.func 65) #[] #[.pointer (some ⟨A, 0, none⟩)]] w fun e W' => ∃ u v, e = .returned (.tuple #[u, v, I 0]) ∧ SetR W' w.heap.size u (setOf ns.length p) ∧ SetR W' w.heap.size v (setOf ls.length q) ∧ Below w.heap.size w W' := by
  obtain ⟨W, hW, hB, hK⟩ := one_start w (K5 a b c n l) 26
  have HW : Hid (w.alloc (.cells (K5 a b c n l) 26) = W) := hW
  have hbd := hm.bd
  have H1 : Hid (Calls Try.prog 85 #[n, .func (.func 65) #[] #[.pointer (some ⟨A, 0, none⟩)]] W fun e W' => ∃ u, e = .returned (.tuple #[u, I 0]) ∧ SetR W' W.heap.size u (setOf ns.length p) ∧ Below W.heap.size W W') := numbers_busy W A (hN.later hB) (by omega) (by omega) (fun wr k vc hk hb hs => hc wr k vc hk (then_below hB hb) hs)
  have H2 : Hid (∀ w1, Below W.heap.size W w1 → Calls Try.prog 85 #[l, .func (.func 65) #[] #[.pointer (some ⟨A, 0, none⟩)]] w1 fun e W' => ∃ u, e = .returned (.tuple #[u, I 0]) ∧ SetR W' w1.heap.size u (setOf ls.length q) ∧ Below w1.heap.size w1 W') := fun w1 hb => numbers_busy w1 A (hL.later (then_below hB hb)) (by omega) (by omega) (fun wr k vc hk hb' hs => hd wr k vc hk (then_below hB (then_below hb hb')) hs)
  clear hW hc hd hN hL hm hbd
  generalize setOf (ns.length : Int) p = s1 at *
  generalize setOf (ls.length : Int) q = s2 at *
  obtain ⟨p0, p1, p2, p3, p4, hz⟩ := hK.five
  go_enter Try.func64, Try.ntmps64
  go_wp2_with fail
  rw [HW.out]
  go_wp2_with fail
  refine H1.out.mono ?_
  rintro e w1 ⟨u, rfl, hR, hT⟩
  clear p0 p1 p2 p3 p4 hz
  obtain ⟨p0, p1, p2, p3, p4, hz⟩ := hK.yard hT
  go_wp2_with fail
  refine (H2.out _ hT).mono ?_
  rintro e w2 ⟨v, rfl, hR2, hB2⟩
  have HR : Hid (SetR w2 w.heap.size u s1) := (hR.weak hB.size).later hB2
  have HR2 : Hid (SetR w2 w.heap.size v s2) := hR2.weak (Nat.le_trans hB.size hT.size)
  clear hR hR2
  go_wp2
  refine bodyPost_ret (results_tmp3 rfl _ _ _) rfl ?_
  exact ⟨_, _, rfl, HR.out, HR2.out, then_below hB (then_below hT hB2)⟩

/-- Busy's error, and Owned's. -/
def busyE (a b c : Int) (ns ls : List (List Slt)) (x y : Int) : Int := if mayYB a b c ns ls then (if maySpB x y then 0 else 2) else 8
def ownE (a b c : Int) (ns ls : List (List Slt)) (at' : Int) : Int := if mayYB a b c ns ls then (if momB at' then 0 else 2) else 8
/-- A set that is told where there is no error. -/
def wordsE (er : Int) (n : Nat) (p : Nat → Bool) : List Nat := if er = 0 then setOf n p else []
theorem busyE_zero {a b c : Int} {ns ls : List (List Slt)} {x y : Int} (h : busyE a b c ns ls x y = 0) : mayY a b c ns ls ∧ maySp x y := by
  unfold busyE at h
  split at h
  · rename_i h1
    split at h
    · rename_i h2
      exact ⟨mayYB_iff.1 h1, (maySpB_iff x y).1 h2⟩
    · cases h
  · cases h
theorem ownE_zero {a b c : Int} {ns ls : List (List Slt)} {x : Int} (h : ownE a b c ns ls x = 0) : mayY a b c ns ls ∧ 0 ≤ x ∧ x < 1099511627776 := by
  unfold ownE at h
  split at h
  · rename_i h1
    split at h
    · rename_i h2
      simp only [momB, Bool.and_eq_true, decide_eq_true_eq] at h2
      exact ⟨mayYB_iff.1 h1, h2⟩
    · cases h
  · cases h

set_option maxHeartbeats 4000000 in
theorem cbusy_calls {a b c : Int} {n l : Value} {ns ls : List (List Slt)} {x y : Int} (w : World) (hN : Yl w n ns) (hL : Yl w l ls) (hm : mayY a b c ns ls) (hs : maySp x y) : Calls Try.prog 41 #[Y5 a b c n l, S2 x y] w fun e W' => ∃ u v, e = .returned (.tuple #[u, v, I 0]) ∧ SetR W' w.heap.size u (setOf ns.length (busyP ns x y)) ∧ SetR W' w.heap.size v (setOf ls.length (busyP ls x y)) ∧ Below w.heap.size w W' := by
  obtain ⟨W, hW, hB, hK, hK2⟩ := two_start w (K5 a b c n l) (C2 x y) 26 53
  have HW : Hid ((w.alloc (.cells (K5 a b c n l) 26)).alloc (.cells (C2 x y) 53) = W) := hW
  have H1 : Hid (Calls Try.prog 64 #[Y5 a b c n l, .func (.func 65) #[] #[.pointer (some ⟨w.heap.size + 1, 0, none⟩)]] W fun e W' => ∃ u v, e = .returned (.tuple #[u, v, I 0]) ∧ SetR W' W.heap.size u (setOf ns.length (busyP ns x y)) ∧ SetR W' W.heap.size v (setOf ls.length (busyP ls x y)) ∧ Below W.heap.size W W') :=
    those_busy W (w.heap.size + 1) (hN.later hB) (hL.later hB) hm (fun wr k vc hk hb hs' => busyc_calls (maysC_may hm.2.2.2.1 k) hs hs' (hK2.later hb)) (fun wr k vc hk hb hs' => busyc_calls (maysC_may hm.2.2.2.2 k) hs hs' (hK2.later hb))
  clear hW hN hL hm hs
  generalize setOf (ns.length : Int) (busyP ns x y) = s1 at *
  generalize setOf (ls.length : Int) (busyP ls x y) = s2 at *
  obtain ⟨p0, p1, p2, p3, p4, hz⟩ := hK.five
  go_enter Try.func41, Try.ntmps41
  go_wp2_with fail
  rw [HW.out]
  go_wp2_with fail
  refine H1.out.mono ?_
  rintro e w1 ⟨u, v, rfl, hR, hR2, hT⟩
  have HR : Hid (SetR w1 w.heap.size u s1) := hR.weak hB.size
  have HR2 : Hid (SetR w1 w.heap.size v s2) := hR2.weak hB.size
  clear hR hR2
  go_wp2
  refine bodyPost_ret (results_tmp3 rfl _ _ _) rfl ?_
  exact ⟨_, _, rfl, HR.out, HR2.out, then_below hB hT⟩

set_option maxHeartbeats 4000000 in
theorem yBusy_calls {a b c : Int} {n l : Value} {ns ls : List (List Slt)} {x y : Int} (w : World) (hN : Yl w n ns) (hL : Yl w l ls) : Calls Try.prog 21 #[Y5 a b c n l, S2 x y] w fun e W' => ∃ u v, e = .returned (.tuple #[u, v, I (busyE a b c ns ls x y)]) ∧ SetR W' w.heap.size u (wordsE (busyE a b c ns ls x y) ns.length (busyP ns x y)) ∧ SetR W' w.heap.size v (wordsE (busyE a b c ns ls x y) ls.length (busyP ls x y)) ∧ Below w.heap.size w W' := by
  obtain ⟨W, hW, hB, hK, hK2⟩ := two_start w (K5 a b c n l) (C2 x y) 26 53
  have HW : Hid ((w.alloc (.cells (K5 a b c n l) 26)).alloc (.cells (C2 x y) 53) = W) := hW
  have HC : Hid (Calls Try.prog 26 #[Y5 a b c n l] W fun e W' => e = .returned (I (errY a b c ns ls)) ∧ Below W.heap.size W W') := ycheck_calls W (hN.later hB) (hL.later hB)
  have HT : Hid (∀ w, Calls Try.prog 40 #[S2 x y] w fun e W' => e = .returned (I (errS x y)) ∧ Below w.heap.size w W') := tcheck_calls x y
  obtain ⟨p0, p1, p2, p3, p4, hz⟩ := hK.five
  by_cases hm : mayY a b c ns ls
  · rw [errY_ok hm] at HC
    by_cases hs : maySp x y
    · have E : busyE a b c ns ls x y = 0 := by rw [busyE, if_pos (mayYB_iff.2 hm), if_pos ((maySpB_iff x y).2 hs)]
      rw [E, wordsE, if_pos rfl, wordsE, if_pos rfl]
      rw [errS_ok hs] at HT
      have H1 : Hid (∀ w1, Below W.heap.size W w1 → Calls Try.prog 41 #[Y5 a b c n l, S2 x y] w1 fun e W' => ∃ u v, e = .returned (.tuple #[u, v, I 0]) ∧ SetR W' w1.heap.size u (setOf ns.length (busyP ns x y)) ∧ SetR W' w1.heap.size v (setOf ls.length (busyP ls x y)) ∧ Below w1.heap.size w1 W') := fun w1 hb => cbusy_calls w1 (hN.later (then_below hB hb)) (hL.later (then_below hB hb)) hm hs
      clear hW hN hL hm hs E
      generalize setOf (ns.length : Int) (busyP ns x y) = s1 at *
      generalize setOf (ls.length : Int) (busyP ls x y) = s2 at *
      go_enter Try.func21, Try.ntmps21
      go_wp2_with fail
      rw [HW.out]
      go_wp2_with fail
      refine HC.out.mono ?_
      rintro e w1 ⟨rfl, hT⟩
      obtain ⟨c0, c1, hz1⟩ := hK2.pair hT
      clear p0 p1 p2 p3 p4 hz
      obtain ⟨p0, p1, p2, p3, p4, hz⟩ := hK.yard hT
      go_wp2_with fail
      refine (HT.out _).mono ?_
      rintro e w2 ⟨rfl, hB2⟩
      have hT2 := then_below hT hB2
      clear c0 c1 hz1 p0 p1 p2 p3 p4 hz
      obtain ⟨c0, c1, hz1⟩ := hK2.pair hT2
      obtain ⟨p0, p1, p2, p3, p4, hz⟩ := hK.yard hT2
      go_wp2_with fail
      refine (H1.out _ hT2).mono ?_
      rintro e w3 ⟨u, v, rfl, hR, hR2, hB3⟩
      have HR : Hid (SetR w3 w.heap.size u s1) := hR.weak (Nat.le_trans hB.size hT2.size)
      have HR2 : Hid (SetR w3 w.heap.size v s2) := hR2.weak (Nat.le_trans hB.size hT2.size)
      clear hR hR2
      go_wp2
      refine bodyPost_ret (results_tmp3 rfl _ _ _) rfl ?_
      exact ⟨_, _, rfl, HR.out, HR2.out, then_below hB (then_below hT2 hB3)⟩
    · have E : busyE a b c ns ls x y = 2 := by rw [busyE, if_pos (mayYB_iff.2 hm), if_neg (by rw [maySpB_iff]; exact hs)]
      rw [E, wordsE, if_neg (by decide), wordsE, if_neg (by decide)]
      rw [errS_no hs] at HT
      clear hW hN hL hm hs E
      go_enter Try.func21, Try.ntmps21
      go_wp2_with fail
      rw [HW.out]
      go_wp2_with fail
      refine HC.out.mono ?_
      rintro e w1 ⟨rfl, hT⟩
      obtain ⟨c0, c1, hz1⟩ := hK2.pair hT
      go_wp2_with fail
      refine (HT.out _).mono ?_
      rintro e w2 ⟨rfl, hB2⟩
      go_wp2
      refine bodyPost_ret (results_tmp3 rfl _ _ _) rfl ?_
      exact ⟨_, _, rfl, .inr ⟨rfl, rfl⟩, .inr ⟨rfl, rfl⟩, then_below hB (then_below hT hB2)⟩
  · rw [errY_no hm] at HC
    have E : busyE a b c ns ls x y = 8 := by rw [busyE, mayYB_no hm]; rfl
    rw [E, wordsE, if_neg (by decide), wordsE, if_neg (by decide)]
    clear hW hN hL hm E
    go_enter Try.func21, Try.ntmps21
    go_wp2_with fail
    rw [HW.out]
    go_wp2_with fail
    refine HC.out.mono ?_
    rintro e w1 ⟨rfl, hT⟩
    go_wp2
    refine bodyPost_ret (results_tmp3 rfl _ _ _) rfl ?_
    exact ⟨_, _, rfl, .inr ⟨rfl, rfl⟩, .inr ⟨rfl, rfl⟩, then_below hB hT⟩
end Go.Proofs.Ytkbdkhohecdbhaa
