/-
  cals.Take, cals.Cut, and the closure of Put.
-/
import Derived.Test.YtabhlmckncgdjaaCalsTurn
import Derived.Test.YtabhlmckncgdjaaPart1
import Derived.Test.YtabhlmckncgdjaaProg
import Derived.ChangeKeysEq
import Derived.KernelRfl
import Derived.Test.YtabhlmckncgdjaaPart19
import Derived.Test.YtabhlmckncgdjaaPart15
import Derived.Laws.AppendOwn
import Derived.Laws.AppendOwnNone
namespace Go.Proofs.Ytabhlmckncgdjaa
open Go Go.RowKit Go.Shelf

attribute [local go_sem] Oper.semAt_some ext_const

theorem ytakec_calls {w : World} {A : Nat} {xs : List Slt} {v : Value} {k : Int} {ow : Int} (hS : Ss w v xs) (hA : Blk w A 3 #[I ow]) : Calls Try.prog 52 #[I k, v, .pointer (some ⟨A, 0, none⟩)] w fun e W' => ∃ u, e = .returned (.tuple #[u, I (errC xs)]) ∧ So W' w.heap.size u (takeL xs ow) ∧ Below w.heap.size w W' := by
  have HC : Hid (∀ w, Ss w v xs → Calls Try.prog 53 #[v, I ow] w fun e W' => ∃ u, e = .returned (.tuple #[u, I (errC xs)]) ∧ So W' w.heap.size u (takeL xs ow) ∧ Below w.heap.size w W') := fun w h => ctake_all w h
  have HS : Hid (Ss w v xs) := hS
  clear hS
  generalize errC xs = er at *
  generalize takeL xs ow = tgt at *
  obtain ⟨c0, hz⟩ := hA.one (Below.refl _ _)
  go_enter Try.func52, Try.ntmps52
  go_wp2_with fail
  refine (HC.out _ HS.out).mono ?_
  rintro e w1 ⟨u, rfl, hO, hT⟩
  have HO : Hid (So w1 w.heap.size u tgt) := hO
  clear hO
  go_wp2
  go_ret2
  exact ⟨_, rfl, HO.out, hT⟩

theorem ycutc_calls {w : World} {A B : Nat} {xs : List Slt} {v : Value} {k : Int} {ow to : Int} (hS : Ss w v xs) (hA : Blk w A 3 #[I ow]) (hB : Blk w B 3 #[I to]) : Calls Try.prog 49 #[I k, v, .pointer (some ⟨A, 0, none⟩), .pointer (some ⟨B, 0, none⟩)] w fun e W' => ∃ u, e = .returned (.tuple #[u, I (errC xs)]) ∧ So W' w.heap.size u (cutL xs ow to) ∧ Below w.heap.size w W' := by
  have HC : Hid (∀ w, Ss w v xs → Calls Try.prog 50 #[v, I ow, I to] w fun e W' => ∃ u, e = .returned (.tuple #[u, I (errC xs)]) ∧ So W' w.heap.size u (cutL xs ow to) ∧ Below w.heap.size w W') := fun w h => ccut_all w h
  have HS : Hid (Ss w v xs) := hS
  clear hS
  generalize errC xs = er at *
  generalize cutL xs ow to = tgt at *
  obtain ⟨c0, hz⟩ := hA.one (Below.refl _ _)
  obtain ⟨c1, hz1⟩ := hB.one (Below.refl _ _)
  go_enter Try.func49, Try.ntmps49
  go_wp2_with fail
  refine (HC.out _ HS.out).mono ?_
  rintro e w1 ⟨u, rfl, hO, hT⟩
  have HO : Hid (So w1 w.heap.size u tgt) := hO
  clear hO
  go_wp2
  go_ret2
  exact ⟨_, rfl, HO.out, hT⟩

/-- What is made of a calendar, where a slot is put to those of a set. -/
def putF (has : Bool) (xs : List Slt) (s : Slt) : List Slt := if has then putL xs s else xs
def putG (has : Bool) (xs : List Slt) (s : Slt) : Int := if has then putE xs s else 0

set_option maxHeartbeats 4000000 in
theorem yputc_calls {w : World} {A B D : Nat} {n : Int} {ws : List Nat} {vs : Value} {xs : List Slt} {v : Value} {k f t o : Int} {has : Bool} (hS : Ss w v xs) (hl : xs.length ≤ 100000) (hA : Blk w A 3 #[I n]) (hV : Wds w vs ws) (hB : Blk w B 34 #[vs]) (hD : Blk w D 52 (C3 f t o)) (he : errAll n [ws] = 0) (hh : hasR n ws k = has) :
    Calls Try.prog 36 #[I k, v, .pointer (some ⟨A, 0, none⟩), .pointer (some ⟨B, 0, none⟩), .pointer (some ⟨D, 0, none⟩)] w fun e W' => ∃ u, e = .returned (.tuple #[u, I (putG has xs (f, t, o))]) ∧ So W' w.heap.size u (putF has xs (f, t, o)) ∧ Below w.heap.size w W' := by
  have HH : Hid (Calls Try.prog 37 #[I n, vs, I k] w fun e W' => e = .returned (.tuple #[.bool has, I 0]) ∧ Below w.heap.size w W') := by
    have := hasSet_calls w hV n k
    rwa [he, hh] at this
  have HC : Hid (∀ w, Ss w v xs → Calls Try.prog 38 #[v, V3 f t o] w fun e W' => ∃ u, e = .returned (.tuple #[u, I (putE xs (f, t, o))]) ∧ So W' w.heap.size u (putL xs (f, t, o)) ∧ Below w.heap.size w W') := fun w h => cput_all w h
  obtain ⟨ao, cap, rfl, _⟩ := hS.form
  have HS : Hid (Ss w (.slice ao xs.length cap) xs) := hS
  obtain ⟨c0, hz⟩ := hA.one (Below.refl _ _)
  have c1 : w.cell? ⟨B, 0, none⟩ = some vs := hB.cell 0
  have hz1 := hB.lt
  clear hS he hh hV
  cases has
  · rw [show putG false xs (f, t, o) = 0 from rfl, show putF false xs (f, t, o) = xs from rfl]
    clear HC
    go_enter Try.func36, Try.ntmps36
    go_wp2_with fail
    refine HH.out.mono ?_
    rintro e w1 ⟨rfl, hT⟩
    go_wp2_with (first
      | (at_builtin; refine wpList_catS (base := w.heap.size) (xs := []) (ys := xs) rfl _ _ rfl rfl rfl (So.nil _ _) (HS.out.later hT) (by simpa using hl) hT.size ?_; intro ao4 n4 cap4 w4 hW4 hB4)
      | go_in)
    go_ret2
    exact ⟨_, rfl, hW4, hT.trans hB4⟩
  · rw [show putG true xs (f, t, o) = putE xs (f, t, o) from rfl, show putF true xs (f, t, o) = putL xs (f, t, o) from rfl]
    generalize putE xs (f, t, o) = er at *
    generalize putL xs (f, t, o) = tgt at *
    go_enter Try.func36, Try.ntmps36
    go_wp2_with fail
    refine HH.out.mono ?_
    rintro e w1 ⟨rfl, hT⟩
    obtain ⟨hg, s0, s1, s2⟩ := (hD.later hT).at3.cells
    go_wp2_with fail
    refine (HC.out _ (HS.out.later hT)).mono ?_
    rintro e w2 ⟨u, rfl, hO, hB2⟩
    have HO : Hid (So w2 w.heap.size u tgt) := hO.weak hT.size
    clear hO
    go_wp2
    go_ret2
    exact ⟨_, rfl, HO.out, then_below hT hB2⟩

/-- The blocks of a call that has a machine's calendars and some numbers, and answers such. -/
theorem yard3_start (w : World) (u0 u1 u2 : Array Value) (t0 t1 t2 : TypeId) : ∃ W : World, ((w.alloc (.cells u0 t0)).alloc (.cells u1 t1)).alloc (.cells u2 t2) = W ∧ Below w.heap.size w W ∧ Blk W w.heap.size t0 u0 ∧ Blk W (w.heap.size + 1) t1 u1 ∧ Blk W (w.heap.size + 1 + 1) t2 u2 := three_boxes w u0 u1 u2 t0 t1 t2

theorem yard4_start (w : World) (u0 u1 u2 u3 : Array Value) (t0 t1 t2 t3 : TypeId) : ∃ W : World, (((w.alloc (.cells u0 t0)).alloc (.cells u1 t1)).alloc (.cells u2 t2)).alloc (.cells u3 t3) = W ∧ Below w.heap.size w W ∧ Blk W w.heap.size t0 u0 ∧ Blk W (w.heap.size + 1) t1 u1 ∧ Blk W (w.heap.size + 1 + 1) t2 u2 ∧ Blk W (w.heap.size + 1 + 1 + 1) t3 u3 := by
  obtain ⟨W, hW, hB, b0, b1, b2⟩ := three_boxes w u0 u1 u2 t0 t1 t2
  refine ⟨_, rfl, ?_, ?_, ?_, ?_, ?_⟩
  · rw [hW]; exact hB.alloc hB.size _
  · rw [hW]; exact b0.alloc _
  · rw [hW]; exact b1.alloc _
  · rw [hW]; exact b2.alloc _
  · have := Blk.new (((w.alloc (.cells u0 t0)).alloc (.cells u1 t1)).alloc (.cells u2 t2)) t3 u3; simpa using this

theorem dim_ok (a : Int) : dimE 0 a = a := if_pos rfl
theorem dim_no {er : Int} (h : er ≠ 0) (a : Int) : dimE er a = 0 := if_neg h
theorem rows_ok {α : Type} (xs : List α) : rowsE 0 xs = xs := if_pos rfl
theorem rows_no {α : Type} {er : Int} (h : er ≠ 0) (xs : List α) : rowsE er xs = [] := if_neg h


set_option maxRecDepth 100000 in
set_option maxHeartbeats 8000000 in
theorem yTake_calls {a b c : Int} {n l : Value} {ns ls : List (List Slt)} {ow : Int} (w : World) (hN : Yl w n ns) (hL : Yl w l ls) :
    Calls Try.prog 18 #[Y5 a b c n l, I ow] w fun e W' => ∃ u v, e = .returned (.tuple #[Y5 (dimE (errY a b c ns ls) a) (dimE (errY a b c ns ls) b) (dimE (errY a b c ns ls) c) u v, I (errY a b c ns ls)]) ∧ Yo W' w.heap.size u (rowsE (errY a b c ns ls) (takesC ns ow)) ∧ Yo W' w.heap.size v (rowsE (errY a b c ns ls) (takesC ls ow)) ∧ Below w.heap.size w W' := by
  obtain ⟨W, hW, hB, hK, hK1, hR⟩ := yard3_start w (K5 a b c n l) #[I ow] (K5 0 0 0 (.slice none 0 0) (.slice none 0 0)) 26 3 26
  have HW : Hid (((w.alloc (.cells (K5 a b c n l) 26)).alloc (.cells #[I ow] 3)).alloc (.cells (K5 0 0 0 (.slice none 0 0) (.slice none 0 0)) 26) = W) := hW
  have HC : Hid (Calls Try.prog 12 #[Y5 a b c n l] W fun e W' => e = .returned (I (errY a b c ns ls)) ∧ Below W.heap.size W W') := ycheck_calls W (hN.later hB) (hL.later hB)
  have hWs : w.heap.size + 1 + 1 < W.heap.size := hR.lt
  by_cases hm : mayY a b c ns ls
  · have E := errY_ok hm
    rw [E] at HC ⊢
    simp only [dim_ok, rows_ok]
    have hbd := hm.bd
    have H1 : Hid (∀ w1, Below W.heap.size W w1 → Calls Try.prog 39 #[Y5 a b c n l, .func (.func 52) #[] #[.pointer (some ⟨w.heap.size + 1, 0, none⟩)], .func (.func 52) #[] #[.pointer (some ⟨w.heap.size + 1, 0, none⟩)]] w1 fun e W' => ∃ u v, e = .returned (.tuple #[Y5 a b c u v, I 0]) ∧ Yo W' w1.heap.size u (takesC ns ow) ∧ Yo W' w1.heap.size v (takesC ls ow) ∧ Below w1.heap.size w1 W') := fun w1 hb => by
      have := turn_take (a := a) (b := b) (c := c) (es := fun _ => 0) (fs := fun _ => 0) (ts := fun k => takeL (ns.getD k []) ow) (us := fun k => takeL (ls.getD k []) ow) (er := 0) w1 (w.heap.size + 1) (hN.later (then_below hB hb)) (hL.later (then_below hB hb)) (by omega) (by omega)
        (fun wr k vc hk hb' hs => by have := ytakec_calls (k := k) hs (hK1.later (then_below hb hb')); rwa [errC_ok (maysC_may hm.2.2.2.1 k)] at this)
        (fun wr k vc hk hb' hs => by have := ytakec_calls (k := k) hs (hK1.later (then_below hb hb')); rwa [errC_ok (maysC_may hm.2.2.2.2 k)] at this)
        (by rw [firstE_zero, firstE_zero]; rfl)
      simp only [dim_ok, rows_ok] at this
      unfold mapTo at this
      rwa [takesC_of hm.2.2.2.1, takesC_of hm.2.2.2.2] at this
    clear hW hN hL hm hbd E
    generalize takesC ns ow = r1 at *
    generalize takesC ls ow = r2 at *
    go_enter Try.func18, Try.ntmps18
    go_wp2_with fail
    rw [HW.out]
    refine HC.out.mono ?_
    rintro e w1 ⟨rfl, hT⟩
    obtain ⟨p0, p1, p2, p3, p4, hz⟩ := hK.yard hT
    go_wp2_with fail
    refine (H1.out _ hT).mono ?_
    rintro e w2 ⟨u, v, rfl, hU, hV, hB2⟩
    obtain ⟨ao1, n1, c1, rfl⟩ := hU.slice
    obtain ⟨ao2, n2, c2, rfl⟩ := hV.slice
    have hT2 := then_below hT hB2
    have hR2 := hR.later hT2
    have HS := hR2.set5 (.int .i64 a) (.int .i64 b) (.int .i64 c) (.slice ao1 n1 c1) (.slice ao2 n2 c2)
    have hlow := below_set5 (then_below hB hT2) (show w.heap.size ≤ w.heap.size + 1 + 1 by omega) (.int .i64 a) (.int .i64 b) (.int .i64 c) (.slice ao1 n1 c1) (.slice ao2 n2 c2)
    have HU : Hid (Yo (put5 w2 (w.heap.size + 1 + 1) (.int .i64 a) (.int .i64 b) (.int .i64 c) (.slice ao1 n1 c1) (.slice ao2 n2 c2)) w.heap.size (.slice ao1 n1 c1) r1) := (hU.put5 (Nat.lt_of_lt_of_le hWs hT.size) _ _ _ _ _).weak (Nat.le_trans hB.size hT.size)
    have HV : Hid (Yo (put5 w2 (w.heap.size + 1 + 1) (.int .i64 a) (.int .i64 b) (.int .i64 c) (.slice ao1 n1 c1) (.slice ao2 n2 c2)) w.heap.size (.slice ao2 n2 c2) r2) := (hV.put5 (Nat.lt_of_lt_of_le hWs hT.size) _ _ _ _ _).weak (Nat.le_trans hB.size hT.size)
    clear hU hV p0 p1 p2 p3 p4 hz
    obtain ⟨q0, q1, q2, q3, q4, hzq⟩ := hR2.five
    obtain ⟨f0, f1, f2, f3, f4⟩ := hR2.row5
    go_wp2_with fail
    obtain ⟨j0, j1, j2, j3, j4, _⟩ := HS.five
    exact bodyPost_ret (v := .tuple #[.agg #[.int .i64 a, .int .i64 b, .int .i64 c, .slice ao1 n1 c1, .slice ao2 n2 c2], I 0]) (by simp [results, Try.f18, go_sem, j0, j1, j2, j3, j4]) rfl ⟨_, _, rfl, HU.out, HV.out, hlow⟩
  · have E := errY_no hm
    rw [E] at HC ⊢
    have h8 : (8 : Int) ≠ 0 := by decide
    simp only [dim_no h8, rows_no h8]
    clear hW hN hL hm E h8
    go_enter Try.func18, Try.ntmps18
    go_wp2_with fail
    rw [HW.out]
    refine HC.out.mono ?_
    rintro e w1 ⟨rfl, hT⟩
    have hR2 := hR.later hT
    have HS := hR2.set5 (.int .i64 0) (.int .i64 0) (.int .i64 0) (.slice none 0 0) (.slice none 0 0)
    have hlow := below_set5 (then_below hB hT) (show w.heap.size ≤ w.heap.size + 1 + 1 by omega) (.int .i64 0) (.int .i64 0) (.int .i64 0) (.slice none 0 0) (.slice none 0 0)
    obtain ⟨q0, q1, q2, q3, q4, hzq⟩ := hR2.five
    obtain ⟨f0, f1, f2, f3, f4⟩ := hR2.row5
    go_wp2_with fail
    obtain ⟨j0, j1, j2, j3, j4, _⟩ := HS.five
    exact bodyPost_ret (v := .tuple #[.agg #[.int .i64 0, .int .i64 0, .int .i64 0, .slice none 0 0, .slice none 0 0], I 8]) (by simp [results, Try.f18, go_sem, j0, j1, j2, j3, j4]) rfl ⟨_, _, rfl, Yo.nil _ _, Yo.nil _ _, hlow⟩

set_option maxRecDepth 100000 in
set_option maxHeartbeats 8000000 in
theorem yCut_calls {a b c : Int} {n l : Value} {ns ls : List (List Slt)} {ow to : Int} (w : World) (hN : Yl w n ns) (hL : Yl w l ls) :
    Calls Try.prog 16 #[Y5 a b c n l, I ow, I to] w fun e W' => ∃ u v, e = .returned (.tuple #[Y5 (dimE (errY a b c ns ls) a) (dimE (errY a b c ns ls) b) (dimE (errY a b c ns ls) c) u v, I (errY a b c ns ls)]) ∧ Yo W' w.heap.size u (rowsE (errY a b c ns ls) (cutsC ns ow to)) ∧ Yo W' w.heap.size v (rowsE (errY a b c ns ls) (cutsC ls ow to)) ∧ Below w.heap.size w W' := by
  obtain ⟨W, hW, hB, hK, hK1, hK2, hR⟩ := yard4_start w (K5 a b c n l) #[I ow] #[I to] (K5 0 0 0 (.slice none 0 0) (.slice none 0 0)) 26 3 3 26
  have HW : Hid ((((w.alloc (.cells (K5 a b c n l) 26)).alloc (.cells #[I ow] 3)).alloc (.cells #[I to] 3)).alloc (.cells (K5 0 0 0 (.slice none 0 0) (.slice none 0 0)) 26) = W) := hW
  have HC : Hid (Calls Try.prog 12 #[Y5 a b c n l] W fun e W' => e = .returned (I (errY a b c ns ls)) ∧ Below W.heap.size W W') := ycheck_calls W (hN.later hB) (hL.later hB)
  have hWs : w.heap.size + 1 + 1 + 1 < W.heap.size := hR.lt
  by_cases hm : mayY a b c ns ls
  · have E := errY_ok hm
    rw [E] at HC ⊢
    simp only [dim_ok, rows_ok]
    have hbd := hm.bd
    have H1 : Hid (∀ w1, Below W.heap.size W w1 → Calls Try.prog 39 #[Y5 a b c n l, .func (.func 49) #[] #[.pointer (some ⟨w.heap.size + 1, 0, none⟩), .pointer (some ⟨w.heap.size + 1 + 1, 0, none⟩)], .func (.func 49) #[] #[.pointer (some ⟨w.heap.size + 1, 0, none⟩), .pointer (some ⟨w.heap.size + 1 + 1, 0, none⟩)]] w1 fun e W' => ∃ u v, e = .returned (.tuple #[Y5 a b c u v, I 0]) ∧ Yo W' w1.heap.size u (cutsC ns ow to) ∧ Yo W' w1.heap.size v (cutsC ls ow to) ∧ Below w1.heap.size w1 W') := fun w1 hb => by
      have := turn_cut (a := a) (b := b) (c := c) (es := fun _ => 0) (fs := fun _ => 0) (ts := fun k => cutL (ns.getD k []) ow to) (us := fun k => cutL (ls.getD k []) ow to) (er := 0) w1 (w.heap.size + 1) (w.heap.size + 1 + 1) (hN.later (then_below hB hb)) (hL.later (then_below hB hb)) (by omega) (by omega)
        (fun wr k vc hk hb' hs => by have := ycutc_calls (k := k) hs (hK1.later (then_below hb hb')) (hK2.later (then_below hb hb')); rwa [errC_ok (maysC_may hm.2.2.2.1 k)] at this)
        (fun wr k vc hk hb' hs => by have := ycutc_calls (k := k) hs (hK1.later (then_below hb hb')) (hK2.later (then_below hb hb')); rwa [errC_ok (maysC_may hm.2.2.2.2 k)] at this)
        (by rw [firstE_zero, firstE_zero]; rfl)
      simp only [dim_ok, rows_ok] at this
      unfold mapTo at this
      rwa [cutsC_of hm.2.2.2.1, cutsC_of hm.2.2.2.2] at this
    clear hW hN hL hm hbd E
    generalize cutsC ns ow to = r1 at *
    generalize cutsC ls ow to = r2 at *
    go_enter Try.func16, Try.ntmps16
    go_wp2_with fail
    rw [HW.out]
    refine HC.out.mono ?_
    rintro e w1 ⟨rfl, hT⟩
    obtain ⟨p0, p1, p2, p3, p4, hz⟩ := hK.yard hT
    go_wp2_with fail
    refine (H1.out _ hT).mono ?_
    rintro e w2 ⟨u, v, rfl, hU, hV, hB2⟩
    obtain ⟨ao1, n1, c1, rfl⟩ := hU.slice
    obtain ⟨ao2, n2, c2, rfl⟩ := hV.slice
    have hT2 := then_below hT hB2
    have hR2 := hR.later hT2
    have HS := hR2.set5 (.int .i64 a) (.int .i64 b) (.int .i64 c) (.slice ao1 n1 c1) (.slice ao2 n2 c2)
    have hlow := below_set5 (then_below hB hT2) (show w.heap.size ≤ w.heap.size + 1 + 1 + 1 by omega) (.int .i64 a) (.int .i64 b) (.int .i64 c) (.slice ao1 n1 c1) (.slice ao2 n2 c2)
    have HU : Hid (Yo (put5 w2 (w.heap.size + 1 + 1 + 1) (.int .i64 a) (.int .i64 b) (.int .i64 c) (.slice ao1 n1 c1) (.slice ao2 n2 c2)) w.heap.size (.slice ao1 n1 c1) r1) := (hU.put5 (Nat.lt_of_lt_of_le hWs hT.size) _ _ _ _ _).weak (Nat.le_trans hB.size hT.size)
    have HV : Hid (Yo (put5 w2 (w.heap.size + 1 + 1 + 1) (.int .i64 a) (.int .i64 b) (.int .i64 c) (.slice ao1 n1 c1) (.slice ao2 n2 c2)) w.heap.size (.slice ao2 n2 c2) r2) := (hV.put5 (Nat.lt_of_lt_of_le hWs hT.size) _ _ _ _ _).weak (Nat.le_trans hB.size hT.size)
    clear hU hV p0 p1 p2 p3 p4 hz
    obtain ⟨q0, q1, q2, q3, q4, hzq⟩ := hR2.five
    obtain ⟨f0, f1, f2, f3, f4⟩ := hR2.row5
    go_wp2_with fail
    obtain ⟨j0, j1, j2, j3, j4, _⟩ := HS.five
    exact bodyPost_ret (v := .tuple #[.agg #[.int .i64 a, .int .i64 b, .int .i64 c, .slice ao1 n1 c1, .slice ao2 n2 c2], I 0]) (by simp [results, Try.f16, go_sem, j0, j1, j2, j3, j4]) rfl ⟨_, _, rfl, HU.out, HV.out, hlow⟩
  · have E := errY_no hm
    rw [E] at HC ⊢
    have h8 : (8 : Int) ≠ 0 := by decide
    simp only [dim_no h8, rows_no h8]
    clear hW hN hL hm E h8
    go_enter Try.func16, Try.ntmps16
    go_wp2_with fail
    rw [HW.out]
    refine HC.out.mono ?_
    rintro e w1 ⟨rfl, hT⟩
    have hR2 := hR.later hT
    have HS := hR2.set5 (.int .i64 0) (.int .i64 0) (.int .i64 0) (.slice none 0 0) (.slice none 0 0)
    have hlow := below_set5 (then_below hB hT) (show w.heap.size ≤ w.heap.size + 1 + 1 + 1 by omega) (.int .i64 0) (.int .i64 0) (.int .i64 0) (.slice none 0 0) (.slice none 0 0)
    obtain ⟨q0, q1, q2, q3, q4, hzq⟩ := hR2.five
    obtain ⟨f0, f1, f2, f3, f4⟩ := hR2.row5
    go_wp2_with fail
    obtain ⟨j0, j1, j2, j3, j4, _⟩ := HS.five
    exact bodyPost_ret (v := .tuple #[.agg #[.int .i64 0, .int .i64 0, .int .i64 0, .slice none 0 0, .slice none 0 0], I 8]) (by simp [results, Try.f16, go_sem, j0, j1, j2, j3, j4]) rfl ⟨_, _, rfl, Yo.nil _ _, Yo.nil _ _, hlow⟩

end Go.Proofs.Ytabhlmckncgdjaa

/-
  '==' between two rows of three whole numbers: as the numbers are.
-/
namespace Go.Proofs.Ytabhlmckncgdjaa
open Go.RowKit

theorem eqIn_arr3 {P : Program} {t e : TypeId} {i : TypeInfo} (hu : P.underlying t = some (.array 3 e)) (he : P.underlying e = some (.int .i64)) (hi : P.info? e = some i) (hc : P.cellsOf e = 1) (hp : P.plainKey e = true)
    (a b c a' b' c' : Int) (w : World) : (Op.equalIn 10000 t (.agg #[.int .i64 a, .int .i64 b, .int .i64 c]) (.agg #[.int .i64 a', .int .i64 b', .int .i64 c'])).run P w = .ok (a == a' && (b == b' && c == c')) w := by
  rw [run_equalIn_array w 9999 _ _ hu hi, hc]
  have r3 : List.range 3 = [0, 1, 2] := rfl
  have p0 : ∀ (x y z : Value) (w : World), (part e #[x, y, z] 0).run P w = .ok x w := fun x y z w => run_part_plain w hp rfl
  have p1 : ∀ (x y z : Value) (w : World), (part e #[x, y, z] 1).run P w = .ok y w := fun x y z w => run_part_plain w hp rfl
  have p2 : ∀ (x y z : Value) (w : World), (part e #[x, y, z] 2).run P w = .ok z w := fun x y z w => run_part_plain w hp rfl
  have hq : ∀ (x y : Int) (w : World), (Op.equalIn 9999 e (.int .i64 x) (.int .i64 y)).run P w = .ok (x == y) w := fun x y w => run_equalIn_int w 9998 e .i64 .i64 x y he
  rw [r3]
  by_cases h0 : a = a' <;> by_cases h1 : b = b' <;> by_cases h2 : c = c' <;> simp [Op.eqItems, p0, p1, p2, hq, h0, h1, h2]

set_option maxRecDepth 100000 in
theorem eq_arr (a b c a' b' c' : Int) (w : World) : (Op.equalIn 10000 22 (.agg #[.int .i64 a, .int .i64 b, .int .i64 c]) (.agg #[.int .i64 a', .int .i64 b', .int .i64 c'])).run Try.prog w = .ok (a == a' && (b == b' && c == c')) w := by
  obtain ⟨i, hi⟩ : ∃ i, Try.prog.info? 3 = some i := ⟨_, rfl⟩
  exact eqIn_arr3 Try.underlying22 Try.underlying3 hi (by kernel_rfl) (by kernel_rfl) a b c a' b' c' w

end Go.Proofs.Ytabhlmckncgdjaa

/-
  What the document's own answer for layer 1 (tidehallref01) gives, for every input: dimensions, how many, the midplane at coordinates, the coordinates of one.
-/
namespace Go.Proofs.Ytabhlmckncgdjaa
open Go.RowKit Go.Shelf

attribute [local go_sem] Oper.semAt_some ext_const eq_arr

set_option maxRecDepth 100000 in
set_option maxHeartbeats 1000000 in
theorem rmay_calls (d0 d1 d2 : Int) (w : World) :
    Calls Try.prog 54 #[A3 d0 d1 d2] w fun e W' => ((mayD d0 d1 d2 ∧ e = .returned (.bool true)) ∨ (¬ mayD d0 d1 d2 ∧ e = .returned (.bool false))) ∧ Below w.heap.size w W' := by
  go_enter Try.func54, Try.ntmps54
  go_wp2
  go_loop [3] (fun i => i = .int .i64 0 ∨ (i = .int .i64 1 ∧ okD d0) ∨ (i = .int .i64 2 ∧ okD d0 ∧ okD d1) ∨ (i = .int .i64 3 ∧ mayD d0 d1 d2)) (fun i => 3 - (intOf i).toNat)
  case atStart => exact .inl rfl
  case round =>
    have hB : Below w.heap.size w (w.alloc (.cells #[I d0, I d1, I d2] 23)) := (Below.refl _ w).alloc (Nat.le_refl _) _
    rcases hrel with rfl | ⟨rfl, h0⟩ | ⟨rfl, h0, h1⟩ | ⟨rfl, hm⟩
    · by_cases hl : d0 < 1
      · go_wp2
        go_ret
        exact ⟨.inr ⟨fun h => by have := h.1; unfold okD at this; omega, rfl⟩, hB⟩
      · by_cases hg : 16 < d0
        · go_wp2
          go_ret
          exact ⟨.inr ⟨fun h => by have := h.1; unfold okD at this; omega, rfl⟩, hB⟩
        · go_wp2
          go_round
          case rel => exact .inr (.inl ⟨rfl, by unfold okD; omega⟩)
          case measure => simp [intOf]
    · by_cases hl : d1 < 1
      · go_wp2
        go_ret
        exact ⟨.inr ⟨fun h => by have := h.2.1; unfold okD at this; omega, rfl⟩, hB⟩
      · by_cases hg : 16 < d1
        · go_wp2
          go_ret
          exact ⟨.inr ⟨fun h => by have := h.2.1; unfold okD at this; omega, rfl⟩, hB⟩
        · go_wp2
          go_round
          case rel => exact .inr (.inr (.inl ⟨rfl, h0, by unfold okD; omega⟩))
          case measure => simp [intOf]
    · by_cases hl : d2 < 1
      · go_wp2
        go_ret
        exact ⟨.inr ⟨fun h => by have := h.2.2; unfold okD at this; omega, rfl⟩, hB⟩
      · by_cases hg : 16 < d2
        · go_wp2
          go_ret
          exact ⟨.inr ⟨fun h => by have := h.2.2; unfold okD at this; omega, rfl⟩, hB⟩
        · go_wp2
          go_round
          case rel => exact .inr (.inr (.inr ⟨rfl, h0, h1, by unfold okD; omega⟩))
          case measure => simp [intOf]
    · go_wp2
      go_ret
      exact ⟨rfl, hB⟩

theorem rmay_yes {d0 d1 d2 : Int} (w : World) (h : mayD d0 d1 d2) : Calls Try.prog 54 #[A3 d0 d1 d2] w fun e W' => e = .returned (.bool true) ∧ Below w.heap.size w W' := by
  refine (rmay_calls d0 d1 d2 w).mono ?_
  rintro e W' ⟨⟨_, rfl⟩ | ⟨hn, _⟩, hB⟩
  · exact ⟨rfl, hB⟩
  · exact absurd h hn
theorem rmay_no {d0 d1 d2 : Int} (w : World) (h : ¬ mayD d0 d1 d2) : Calls Try.prog 54 #[A3 d0 d1 d2] w fun e W' => e = .returned (.bool false) ∧ Below w.heap.size w W' := by
  refine (rmay_calls d0 d1 d2 w).mono ?_
  rintro e W' ⟨⟨hy, _⟩ | ⟨_, rfl⟩, hB⟩
  · exact absurd hy h
  · exact ⟨rfl, hB⟩

theorem rn_calls {d0 d1 d2 : Int} (w : World) (h : mayD d0 d1 d2) : Calls Try.prog 55 #[A3 d0 d1 d2] w fun e W' => e = .returned (I (d0 * d1 * d2)) ∧ Below w.heap.size w W' := by
  have hn := N_bd h
  have h' := h
  obtain ⟨h0, h1, h2⟩ := h'
  unfold okD at h0 h1 h2
  have hp : 0 ≤ d0 * d1 ∧ d0 * d1 ≤ 16 * 16 := mul_bd (by omega) h0.2 (by omega) h1.2
  go_enter Try.func55, Try.ntmps55
  go_wp2
  go_ret
  exact ⟨rfl, (Below.refl _ w).alloc (Nat.le_refl _) _⟩

end Go.Proofs.Ytabhlmckncgdjaa

/-
  Lists of whole numbers: a list behind another one, and two numbers behind a list.
-/
namespace Go.Proofs.Ytabhlmckncgdjaa
open Go Go.RowKit Go.Shelf

/-- 'list = append(list, x, y)', the list a call's own. -/
theorem wpList_app2 {ops : Array Oper} {rest : List Oper} {o : Oper} {a : Act} {Q : Exit → Act → World → Prop} {W : World} {base : Nat} {v : Value} {xs : List Int} {y z : Int} (hgd : o.guard = none) (s x : Operand)
    (ho : o.op = .call { callee := .builtin .append, args := #[s, x], argTypes := #[129, 129] }) (hs : a.eval s = v) (hx : a.eval x = .slice (some ⟨W.heap.size, 0, none⟩) 2 2)
    (hown : Lst W base v xs) (hl : xs.length ≤ 100000) (hb : base ≤ W.heap.size)
    (h : ∀ v' w', Lst w' base v' (xs ++ [y, z]) → Below base W w' → wpList Try.prog ops Q rest (a.put o.dst v') w') : wpList Try.prog ops Q (o :: rest) a (W.alloc (.cells #[.int .i64 y, .int .i64 z] 3)) := by
  obtain ⟨i0, hi, hz0, hz1, hz2⟩ := info_parts info_int
  refine wpList_append_own (w := W.alloc (.cells #[.int .i64 y, .int .i64 z] 3)) hgd s x 129 ho base 3 i0 (.int .i64 0) 1 8 Try.underlying129 hi hz0 hz1 hz2 rfl (by decide) v xs.length _ hs (hown.alloc _) ⟨W.heap.size, 0, none⟩ 2 2 [.int .i64 y, .int .i64 z] hx rfl ?_ ?_ ?_ ?_ ?_ ?_
  · intro j u hj
    match j, hj with
    | 0, hj => simp at hj; subst hj; simp [Addr.add]
    | 1, hj => simp at hj; subst hj; simp [Addr.add]
  · intro u hu; simp at hu; rcases hu with rfl | rfl <;> rfl
  · unfold maxLen; omega
  · omega
  · simp; omega
  · intro v' w1 hown' hgrow _
    refine h v' w1 ?_ ?_
    · unfold Lst
      rw [List.map_append, List.length_append]
      exact hown'
    · exact ((Below.refl base W).alloc hb _).grown hgrow (by simp; omega) (fun k hk => (hown.lt k hk).1)

/-- 'list = append(list, more...)', both lists a call's own. -/
theorem wpList_cat {ops : Array Oper} {rest : List Oper} {o : Oper} {a : Act} {Q : Exit → Act → World → Prop} {W : World} {base b2 : Nat} {v u : Value} {xs ys : List Int} (hgd : o.guard = none) (s x : Operand)
    (ho : o.op = .call { callee := .builtin .append, args := #[s, x], argTypes := #[129, 129] }) (hs : a.eval s = v) (hx : a.eval x = u)
    (hown : Lst W base v xs) (hu : Lst W b2 u ys) (hl : xs.length ≤ 100000) (hl2 : ys.length ≤ 100000) (hb : base ≤ W.heap.size)
    (h : ∀ v' w', Lst w' base v' (xs ++ ys) → Below base W w' → wpList Try.prog ops Q rest (a.put o.dst v') w') : wpList Try.prog ops Q (o :: rest) a W := by
  obtain ⟨i0, hi, hz0, hz1, hz2⟩ := info_parts info_int
  have hv := hu.view
  rcases hu.2 with ⟨rfl, hn⟩ | ⟨g, cap, cur, rfl, hg, hh, hc, hc2, hs2, ht⟩
  · have : ys = [] := List.length_eq_zero_iff.1 hn
    subst this
    rw [List.append_nil] at h
    exact wpList_append_own_none hgd s x 129 ho base 3 i0 1 Try.underlying129 hi v xs.length _ hs hown hx (h _ _ hown (Below.refl _ _))
  · refine wpList_append_own (w := W) hgd s x 129 ho base 3 i0 (.int .i64 0) 1 8 Try.underlying129 hi hz0 hz1 hz2 rfl (by decide) v xs.length _ hs hown ⟨g, 0, none⟩ ys.length cap (ys.map (Value.int .i64)) hx (by simp) ?_ ?_ ?_ ?_ ?_ ?_
    · intro j y hj
      have hjl : j < ys.length := by
        have := (List.getElem?_eq_some_iff.1 hj).1
        simpa using this
      obtain ⟨ao, c, e, hw⟩ := hv
      simp only [Value.slice.injEq] at e
      obtain ⟨rfl, -, -⟩ := e
      obtain ⟨g', cur', e, hB, hc'⟩ := hw j hjl
      simp only [Option.some.injEq, Addr.mk.injEq] at e
      obtain ⟨rfl, -, -⟩ := e
      have : (⟨g, 0, none⟩ : Addr).add j = ⟨g, j, none⟩ := by
        unfold Addr.add
        split
        · rename_i h0; subst h0; rfl
        · simp
      rw [this, hB.cell j, hc', ← hj]
      simp [hjl]
    · intro y hy
      obtain ⟨z, _, rfl⟩ := List.mem_map.1 hy
      rfl
    · unfold maxLen; omega
    · omega
    · omega
    · intro v' w1 hown' hgrow _
      refine h v' w1 ?_ ?_
      · unfold Lst
        rw [List.map_append, List.length_append]
        exact hown'
      · exact (Below.refl base W).grown hgrow hb (fun k hk => (hown.lt k hk).1)

end Go.Proofs.Ytabhlmckncgdjaa
