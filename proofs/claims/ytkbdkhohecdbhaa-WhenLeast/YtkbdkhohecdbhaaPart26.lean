/-
  when.Times, when.Ends: what each answers, for every input.
-/
import Derived.Test.YtkbdkhohecdbhaaWhenEnds
import Derived.Test.YtkbdkhohecdbhaaPart24
import Derived.Test.YtkbdkhohecdbhaaPart12
namespace Go.Proofs.Ytkbdkhohecdbhaa
open Go Go.RowKit Go.Shelf Go.Maps

attribute [local go_sem] Oper.semAt_some ext_const

set_option maxRecDepth 100000 in
set_option maxHeartbeats 4000000 in
theorem wtimes_yes {a b c x : Int} {n l : Value} {ns ls : List (List Slt)} (w : World) (hN : Yl w n ns) (hL : Yl w l ls) (hm : mayY a b c ns ls) (hx : 0 ≤ x ∧ x < 1099511627776) (htot : (slotsY ns ls).length ≤ 100000) :
    Calls Try.prog 10 #[Y5 a b c n l, I x] w fun e W' => ∃ v, e = .returned (.tuple #[v, I 0]) ∧ Lst W' w.heap.size v (timesT x (slotsY ns ls)) ∧ Below w.heap.size w W' := by
  obtain ⟨W, hW, hB, hK, hS⟩ := two_start w (K5 a b c n l) #[I x] 26 3
  have HW : Hid ((w.alloc (.cells (K5 a b c n l) 26)).alloc (.cells #[I x] 3) = W) := hW
  have HC : Hid (Calls Try.prog 26 #[Y5 a b c n l] W fun e W' => e = .returned (I 0) ∧ Below W.heap.size W W') := ycheck_yes W (hN.later hB) (hL.later hB) hm
  have HEn : Hid (∀ w1, Below W.heap.size W w1 → Calls Try.prog 28 #[Y5 a b c n l, .func (.func 31) #[] #[.pointer (some ⟨w.heap.size + 1, 0, none⟩)]] w1 fun e W' => ∃ g k D, e = .returned (.map (some g)) ∧ Mom W' g k D ∧ KeysI D (gathT (timeP x) [] (slotsY ns ls)) ∧ k ≤ 100000 ∧ w1.heap.size ≤ g ∧ Below w1.heap.size w1 W') := fun w1 hb =>
    ends_time w1 (w.heap.size + 1) hm (hN.later (then_below hB hb)) (hL.later (then_below hB hb)) htot (fun s w2 hb2 => timec_calls s (hS.later (then_below hb hb2)))
  have HR : Hid (∀ (w : World) (g k : Nat) (D : DataW Unit), Mom w g k D → k ≤ 1000000 → KeysI D (timesT x (slotsY ns ls)) → Calls Try.prog 27 #[.map (some g)] w fun e W' => ∃ v, e = .returned v ∧ Lst W' w.heap.size v (timesT x (slotsY ns ls)) ∧ Below w.heap.size w W') := fun w g k D h1 h2 h3 => rising_calls w h1 h2 h3 (timesT_up _ _)
  have HI : Hid (insI x (gathT (timeP x) [] (slotsY ns ls)) = timesT x (slotsY ns ls)) := times_keys x _
  have hwf : (Lit.int .i64 x).wf = true := WalkArith.wf_i64 (by omega)
  obtain ⟨an, cn, rfl, _⟩ := hN.form
  obtain ⟨al, cl, rfl, _⟩ := hL.form
  clear hW hN hL hm htot
  generalize ns.length = n1 at *
  generalize ls.length = n2 at *
  have h1 : decide (x < 0) = false := decide_eq_false (by omega)
  have h2 : decide (1099511627776 ≤ x) = false := decide_eq_false (by omega)
  have HX : Hid (0 ≤ x ∧ x < 1099511627776) := hx
  clear hx
  obtain ⟨p0, p1, p2, p3, p4, hz⟩ := hK.five
  have s0 := hS.cell 0
  simp at s0
  go_enter Try.func10, Try.ntmps10
  go_wp2_with fail
  rw [HW.out]
  refine HC.out.mono ?_
  rintro e w1 ⟨rfl, hT⟩
  clear p0 p1 p2 p3 p4 hz s0
  obtain ⟨p0, p1, p2, p3, p4, hz⟩ := hK.yard hT
  obtain ⟨s0, hz1⟩ := hS.one hT
  go_wp2_with fail
  refine (HEn.out _ hT).mono ?_
  rintro e w2 ⟨g, k, D, rfl, hmom, hkeys, hk, hg, hB2⟩
  have hT2 := then_below hT hB2
  clear p0 p1 p2 p3 p4 hz s0 hz1
  obtain ⟨s0, hz1⟩ := hS.one hT2
  have HKy : Hid (KeysI D (gathT (timeP x) [] (slotsY ns ls))) := hkeys
  clear hkeys
  go_wp2_with (first
    | (at_mapUpdate; refine wpList_mapUpdate_own _ rfl _ _ _ 63 rfl 3 71 (Maps.int_keyed Try.underlying3) Try.underlying63 _ g k D rfl hmom (by unfold maxLen; omega) _ _ _ rfl rfl (Maps.keyOf_int_mk Try.underlying3 hwf) _ [] unitElem_mk ?_; intro w3 hmom3 hgrow3)
    | fail)
  have hT3 : Below w.heap.size w w3 := (then_below hB hT2).trans ((Below.refl w.heap.size w2).grown hgrow3 (then_below hB hT2).size (fun j e => by cases e; have := (then_below hB hT).size; omega))
  have hk3 : KeysI (D.put (.int .i64 x) (.agg [])) (timesT x (slotsY ns ls)) := by
    rw [← HI.out]
    exact keysI_put HKy.out ((Maps.int_keyed Try.underlying3).key (Maps.keyOf_int_mk Try.underlying3 hwf)) _
  refine (HR.out _ _ _ _ hmom3 (by omega) hk3).mono ?_
  rintro e w4 ⟨v, rfl, hv, hB4⟩
  go_wp2
  go_ret2
  exact ⟨_, rfl, hv.weak hT3.size, then_below hT3 hB4⟩

set_option maxRecDepth 100000 in
set_option maxHeartbeats 4000000 in
theorem wtimes_arg {a b c x : Int} {n l : Value} {ns ls : List (List Slt)} (w : World) (hN : Yl w n ns) (hL : Yl w l ls) (hm : mayY a b c ns ls) (hx : ¬ (0 ≤ x ∧ x < 1099511627776)) :
    Calls Try.prog 10 #[Y5 a b c n l, I x] w fun e W' => e = .returned (.tuple #[.slice none 0 0, I 2]) ∧ Below w.heap.size w W' := by
  obtain ⟨W, hW, hB, hK, hS⟩ := two_start w (K5 a b c n l) #[I x] 26 3
  have HW : Hid ((w.alloc (.cells (K5 a b c n l) 26)).alloc (.cells #[I x] 3) = W) := hW
  have HC : Hid (Calls Try.prog 26 #[Y5 a b c n l] W fun e W' => e = .returned (I 0) ∧ Below W.heap.size W W') := ycheck_yes W (hN.later hB) (hL.later hB) hm
  obtain ⟨an, cn, rfl, _⟩ := hN.form
  obtain ⟨al, cl, rfl, _⟩ := hL.form
  clear hW hN hL hm
  generalize ns.length = n1 at *
  generalize ls.length = n2 at *
  obtain ⟨p0, p1, p2, p3, p4, hz⟩ := hK.five
  by_cases h0 : x < 0
  · have h1 : decide (x < 0) = true := decide_eq_true h0
    clear hx
    go_enter Try.func10, Try.ntmps10
    go_wp2_with fail
    rw [HW.out]
    refine HC.out.mono ?_
    rintro e w1 ⟨rfl, hT⟩
    clear p0 p1 p2 p3 p4 hz
    obtain ⟨s0, hz1⟩ := hS.one hT
    go_wp2
    go_ret2
    exact ⟨rfl, then_below hB hT⟩
  · have h1 : decide (x < 0) = false := decide_eq_false h0
    have h2 : decide (1099511627776 ≤ x) = true := decide_eq_true (by omega)
    clear hx
    go_enter Try.func10, Try.ntmps10
    go_wp2_with fail
    rw [HW.out]
    refine HC.out.mono ?_
    rintro e w1 ⟨rfl, hT⟩
    clear p0 p1 p2 p3 p4 hz
    obtain ⟨s0, hz1⟩ := hS.one hT
    go_wp2
    go_ret2
    exact ⟨rfl, then_below hB hT⟩

set_option maxRecDepth 100000 in
set_option maxHeartbeats 4000000 in
theorem wtimes_bad {a b c x : Int} {n l : Value} {ns ls : List (List Slt)} (w : World) (hN : Yl w n ns) (hL : Yl w l ls) (hm : ¬ mayY a b c ns ls) :
    Calls Try.prog 10 #[Y5 a b c n l, I x] w fun e W' => e = .returned (.tuple #[.slice none 0 0, I 8]) ∧ Below w.heap.size w W' := by
  obtain ⟨W, hW, hB, hK, hS⟩ := two_start w (K5 a b c n l) #[I x] 26 3
  have HW : Hid ((w.alloc (.cells (K5 a b c n l) 26)).alloc (.cells #[I x] 3) = W) := hW
  have HC : Hid (Calls Try.prog 26 #[Y5 a b c n l] W fun e W' => e = .returned (I 8) ∧ Below W.heap.size W W') := by
    have := ycheck_calls (a := a) (b := b) (c := c) W (hN.later hB) (hL.later hB)
    rwa [errY_no hm] at this
  obtain ⟨an, cn, rfl, _⟩ := hN.form
  obtain ⟨al, cl, rfl, _⟩ := hL.form
  clear hW hN hL hm
  generalize ns.length = n1 at *
  generalize ls.length = n2 at *
  obtain ⟨p0, p1, p2, p3, p4, hz⟩ := hK.five
  go_enter Try.func10, Try.ntmps10
  go_wp2_with fail
  rw [HW.out]
  refine HC.out.mono ?_
  rintro e w1 ⟨rfl, hT⟩
  go_wp2
  go_ret2
  exact ⟨rfl, then_below hB hT⟩

/-- when.Times, whatever it is handed. -/
theorem wtimes_calls {a b c x : Int} {n l : Value} {ns ls : List (List Slt)} (w : World) (hN : Yl w n ns) (hL : Yl w l ls) (htot : (slotsY ns ls).length ≤ 100000) :
    Calls Try.prog 10 #[Y5 a b c n l, I x] w fun e W' => ∃ v, e = .returned (.tuple #[v, I (timeE a b c ns ls x)]) ∧ Lst W' w.heap.size v (timeV a b c ns ls x) ∧ Below w.heap.size w W' := by
  by_cases hm : mayY a b c ns ls
  · by_cases hx : 0 ≤ x ∧ x < 1099511627776
    · rw [timeV, timeE_yes hm hx, if_pos rfl]
      exact wtimes_yes w hN hL hm hx htot
    · rw [timeV, timeE_arg hm hx, if_neg (by omega)]
      refine (wtimes_arg w hN hL hm hx).mono ?_
      rintro e W' ⟨rfl, hB⟩
      exact ⟨_, rfl, Lst.nil _ _, hB⟩
  · rw [timeV, timeE_bad hm, if_neg (by omega)]
    refine (wtimes_bad w hN hL hm).mono ?_
    rintro e W' ⟨rfl, hB⟩
    exact ⟨_, rfl, Lst.nil _ _, hB⟩

set_option maxRecDepth 100000 in
set_option maxHeartbeats 4000000 in
theorem wends_yes {a b c x : Int} {n l : Value} {ns ls : List (List Slt)} (w : World) (hN : Yl w n ns) (hL : Yl w l ls) (hm : mayY a b c ns ls) (htot : (slotsY ns ls).length ≤ 100000) :
    Calls Try.prog 8 #[Y5 a b c n l, I x] w fun e W' => ∃ v, e = .returned (.tuple #[v, I 0]) ∧ Lst W' w.heap.size v (endsT x (slotsY ns ls)) ∧ Below w.heap.size w W' := by
  obtain ⟨W, hW, hB, hK, hS⟩ := two_start w (K5 a b c n l) #[I x] 26 3
  have HW : Hid ((w.alloc (.cells (K5 a b c n l) 26)).alloc (.cells #[I x] 3) = W) := hW
  have HC : Hid (Calls Try.prog 26 #[Y5 a b c n l] W fun e W' => e = .returned (I 0) ∧ Below W.heap.size W W') := ycheck_yes W (hN.later hB) (hL.later hB) hm
  have HEn : Hid (∀ w1, Below W.heap.size W w1 → Calls Try.prog 28 #[Y5 a b c n l, .func (.func 29) #[] #[.pointer (some ⟨w.heap.size + 1, 0, none⟩)]] w1 fun e W' => ∃ g k D, e = .returned (.map (some g)) ∧ Mom W' g k D ∧ KeysI D (endsT x (slotsY ns ls)) ∧ k ≤ 100000 ∧ w1.heap.size ≤ g ∧ Below w1.heap.size w1 W') := fun w1 hb =>
    ends_own w1 (w.heap.size + 1) hm (hN.later (then_below hB hb)) (hL.later (then_below hB hb)) htot (fun s w2 hb2 => endc_calls s (hS.later (then_below hb hb2)))
  have HR : Hid (∀ (w : World) (g k : Nat) (D : DataW Unit), Mom w g k D → k ≤ 1000000 → KeysI D (endsT x (slotsY ns ls)) → Calls Try.prog 27 #[.map (some g)] w fun e W' => ∃ v, e = .returned v ∧ Lst W' w.heap.size v (endsT x (slotsY ns ls)) ∧ Below w.heap.size w W') := fun w g k D h1 h2 h3 => rising_calls w h1 h2 h3 (endsT_up _ _)
  obtain ⟨an, cn, rfl, _⟩ := hN.form
  obtain ⟨al, cl, rfl, _⟩ := hL.form
  clear hW hN hL hm htot
  generalize ns.length = n1 at *
  generalize ls.length = n2 at *
  obtain ⟨p0, p1, p2, p3, p4, hz⟩ := hK.five
  have s0 := hS.cell 0
  simp at s0
  go_enter Try.func8, Try.ntmps8
  go_wp2_with fail
  rw [HW.out]
  refine HC.out.mono ?_
  rintro e w1 ⟨rfl, hT⟩
  clear p0 p1 p2 p3 p4 hz s0
  obtain ⟨p0, p1, p2, p3, p4, hz⟩ := hK.yard hT
  go_wp2_with fail
  refine (HEn.out _ hT).mono ?_
  rintro e w2 ⟨g, k, D, rfl, hmom, hkeys, hk, hg, hB2⟩
  have hT2 := then_below hT hB2
  have HKy : Hid (KeysI D (endsT x (slotsY ns ls))) := hkeys
  clear hkeys
  go_wp2_with fail
  refine (HR.out _ _ _ _ hmom (by omega) HKy.out).mono ?_
  rintro e w4 ⟨v, rfl, hv, hB4⟩
  go_wp2
  go_ret2
  exact ⟨_, rfl, hv.weak (then_below hB hT2).size, then_below hB (then_below hT2 hB4)⟩

set_option maxRecDepth 100000 in
set_option maxHeartbeats 4000000 in
theorem wends_bad {a b c x : Int} {n l : Value} {ns ls : List (List Slt)} (w : World) (hN : Yl w n ns) (hL : Yl w l ls) (hm : ¬ mayY a b c ns ls) :
    Calls Try.prog 8 #[Y5 a b c n l, I x] w fun e W' => e = .returned (.tuple #[.slice none 0 0, I 8]) ∧ Below w.heap.size w W' := by
  obtain ⟨W, hW, hB, hK, hS⟩ := two_start w (K5 a b c n l) #[I x] 26 3
  have HW : Hid ((w.alloc (.cells (K5 a b c n l) 26)).alloc (.cells #[I x] 3) = W) := hW
  have HC : Hid (Calls Try.prog 26 #[Y5 a b c n l] W fun e W' => e = .returned (I 8) ∧ Below W.heap.size W W') := by
    have := ycheck_calls (a := a) (b := b) (c := c) W (hN.later hB) (hL.later hB)
    rwa [errY_no hm] at this
  obtain ⟨an, cn, rfl, _⟩ := hN.form
  obtain ⟨al, cl, rfl, _⟩ := hL.form
  clear hW hN hL hm
  generalize ns.length = n1 at *
  generalize ls.length = n2 at *
  obtain ⟨p0, p1, p2, p3, p4, hz⟩ := hK.five
  go_enter Try.func8, Try.ntmps8
  go_wp2_with fail
  rw [HW.out]
  refine HC.out.mono ?_
  rintro e w1 ⟨rfl, hT⟩
  go_wp2
  go_ret2
  exact ⟨rfl, then_below hB hT⟩

/-- when.Ends, whatever it is handed. -/
theorem wends_calls {a b c x : Int} {n l : Value} {ns ls : List (List Slt)} (w : World) (hN : Yl w n ns) (hL : Yl w l ls) (htot : (slotsY ns ls).length ≤ 100000) :
    Calls Try.prog 8 #[Y5 a b c n l, I x] w fun e W' => ∃ v, e = .returned (.tuple #[v, I (errY a b c ns ls)]) ∧ Lst W' w.heap.size v (endV a b c ns ls x) ∧ Below w.heap.size w W' := by
  by_cases hm : mayY a b c ns ls
  · rw [endV, errY_ok hm, if_pos rfl]
    exact wends_yes w hN hL hm htot
  · rw [endV, errY_no hm, if_neg (by omega)]
    refine (wends_bad w hN hL hm).mono ?_
    rintro e W' ⟨rfl, hB⟩
    exact ⟨_, rfl, Lst.nil _ _, hB⟩

end Go.Proofs.Ytkbdkhohecdbhaa

/-
  when.Last: what it answers, for every input.
-/
namespace Go.Proofs.Ytkbdkhohecdbhaa
open Go Go.RowKit Go.Shelf Go.Maps

attribute [local go_sem] Oper.semAt_some ext_const

/-- What the loop keeps: the latest moment so far. -/
structure Latest (w : World) (Bm : Nat) (pre : List SltM) (W : World) : Prop where
  var : Blk W Bm 3 #[I (lastT (pre.map (·.1)))]
  below : Below w.heap.size w W
theorem latest_own {w : World} {Bm B : Nat} (hB : w.heap.size ≤ B) : OwnFrom B (Latest w Bm) := fun s A A' row hs hgr hr => by
  obtain ⟨hv, hbe⟩ := hs
  exact ⟨hv.kept hgr (fun r e => (hr r e).2), hbe.grown hgr hbe.size (fun k e => by have := (hr k e).1; omega)⟩
theorem Latest.later {w : World} {Bm : Nat} {pre : List SltM} {W W' : World} (h : Latest w Bm pre W) (hb : Below W.heap.size W W') : Latest w Bm pre W' := ⟨h.var.later hb, then_below h.below hb⟩

set_option maxRecDepth 100000 in
set_option maxHeartbeats 4000000 in
theorem wlast_yes {a b c : Int} {vn vl : Value} {ns ls : List (List Slt)} (w : World) (hN : Yl w vn ns) (hL : Yl w vl ls) (hm : mayY a b c ns ls) :
    Calls Try.prog 9 #[Y5 a b c vn vl] w fun e W' => e = .returned (.tuple #[I (lastT (slotsY ns ls)), I 0]) ∧ Below w.heap.size w W' := by
  obtain ⟨W, hW, hB, hK⟩ := one_start w (K5 a b c vn vl) 26
  have HW : Hid (w.alloc (.cells (K5 a b c vn vl) 26) = W) := hW
  have HC : Hid (Calls Try.prog 26 #[Y5 a b c vn vl] W fun e W' => e = .returned (I 0) ∧ Below W.heap.size W W') := ycheck_yes W (hN.later hB) (hL.later hB) hm
  have HSl : Hid (∀ w1, Calls Try.prog 30 #[Y5 a b c vn vl] w1 fun e w' => e = .returned (.func (.func 55) #[] #[.pointer (some ⟨w1.heap.size, 0, none⟩)]) ∧ w' = w1.alloc (.cells (K5 a b c vn vl) 26)) := fun w1 => slots_calls a b c vn vl w1
  have HN : Hid (Yl w vn ns) := hN
  have HL : Hid (Yl w vl ls) := hL
  have HM : Hid (mayY a b c ns ls) := hm
  obtain ⟨an, cn, rfl, _⟩ := hN.form
  obtain ⟨al, cl, rfl, _⟩ := hL.form
  clear hW hN hL hm
  obtain ⟨p0, p1, p2, p3, p4, hz⟩ := hK.five
  refine (callsIn_wide (n := 3)).1 ?_
  refine callsIn_of_wp_marks Try.func9 rfl trivial ?_ rfl
  simp only [Try.ntmps9, List.size_toArray, List.length_cons, List.length_nil, Nat.reduceAdd, Nat.reduceSub, Array.replicate_succ, Array.replicate_zero, List.push_toArray, List.append_toArray, List.nil_append, List.cons_append]
  gi_wp2_with fail
  rw [HW.out]
  refine ⟨trivial, (callsIn_wide.2 HC.out).mono ?_⟩
  rintro e w1 ⟨rfl, hT⟩
  clear p0 p1 p2 p3 p4 hz
  have hBx := then_below hB (then_alloc hT (.cells #[.int .i64 0] 3))
  obtain ⟨p0, p1, p2, p3, p4, hz⟩ := hK.yard (then_alloc hT (.cells #[.int .i64 0] 3))
  have hv0 := Blk.new w1 3 #[.int .i64 0]
  gi_wp2_with fail
  refine ⟨trivial, (callsIn_wide.2 (HSl.out _)).mono ?_⟩
  rintro e w2 ⟨rfl, rfl⟩
  obtain ⟨W0, hW0⟩ : ∃ W0, (w1.alloc (.cells #[.int .i64 0] 3)).alloc (.cells (K5 a b c (.slice an ns.length cn) (.slice al ls.length cl)) 26) = W0 := ⟨_, rfl⟩
  have hyd := Blk.new (w1.alloc (.cells #[.int .i64 0] 3)) 26 (K5 a b c (.slice an ns.length cn) (.slice al ls.length cl))
  have hv1 := hv0.alloc (.cells (K5 a b c (.slice an ns.length cn) (.slice al ls.length cl)) 26)
  have hB0 := then_alloc hBx (.cells (K5 a b c (.slice an ns.length cn) (.slice al ls.length cl)) 26)
  rw [hW0] at hyd hv1 hB0
  have HW0 : Hid ((w1.alloc (.cells #[.int .i64 0] 3)).alloc (.cells (K5 a b c (.slice an ns.length cn) (.slice al ls.length cl)) 26) = W0) := hW0
  have hBm : w.heap.size ≤ w1.heap.size := (then_below hB hT).size
  clear hW0 hv0 p0 p1 p2 p3 p4 hz hBx
  gi_wp2_with fail
  rw [HW0.out]
  clear HW0
  rw [show (w1.alloc (.cells #[.int .i64 0] 3)).heap.size = w1.heap.size + 1 by simp] at hyd
  generalize w1.heap.size + 1 = By at *
  have hG0 : Latest w w1.heap.size [] W0 := ⟨hv1, hB0⟩
  have hst := slots_stops HM.out w W0 HN.out HL.out (3 - 1) (by omega) By hB0 hyd
  clear hv1 hyd hT hK hB
  generalize w1.heap.size = Bm at *
  generalize ns.length = n1 at *
  generalize ls.length = n2 at *
  refine wpIn_rangeFunc_ownH rfl (by omega) (gf := 55) (lb := #[.pointer (some ⟨By, 0, none⟩)]) rfl trivial (enters_of Try.func55 (by kernel_rfl) rfl) hst belowK_t (belowK_b hB0.size) (Below.refl _ _) (fun _ => rfl)
    (Latest w Bm) (fun _ _ _ => False) (latest_own hB0.size) (fun _ _ _ _ _ hs _ _ => hs) hG0
    (fun x a' W => ∃ Bs, a' = { tmps := #[Y5 a b c (.slice an n1 cn) (.slice al n2 cl), .pointer (some ⟨w.heap.size, 0, none⟩), .int .i64 0, .int .i64 0, I 0, .pointer (some ⟨Bm, 0, none⟩), .pointer (some ⟨Bs, 0, none⟩), .agg #[.int .i64 a, .int .i64 b, .int .i64 c, .slice an n1 cn, .slice al n2 cl], I 0, I 0, .bool false, undef, .agg #[.int .i64 a, .int .i64 b, .int .i64 c, .slice an n1 cn, .slice al n2 cl], .func (.func 55) #[] #[.pointer (some ⟨By, 0, none⟩)], V3 x.1.1 x.1.2.1 x.1.2.2, undef, undef, undef, undef, undef, undef], defers := [] } ∧ Blk W Bs 66 (C3 x.1.1 x.1.2.1 x.1.2.2))
    (fun x a' _ A0 A1 row hs hgr hr => by
      obtain ⟨Bs, e, hb⟩ := hs
      exact ⟨Bs, e, hb.kept hgr (fun r e => (hr r e).2)⟩) ?assign ?body ?done ?stop
  case assign =>
    intro l pre x W K hI hK
    have hBa : Below W.heap.size W (W.alloc (.cells (C3 x.1.1 x.1.2.1 x.1.2.2) 66)) := (Below.refl _ W).alloc (Nat.le_refl _) _
    gi_wp2
    exact hK _ _ (keeps_of_below hBa) (hBa.mono hI.below.size) (hI.later hBa) ⟨_, rfl, Blk.new _ _ _⟩
  case body =>
    rintro l pre ⟨⟨f, t, o⟩, hms⟩ a' W hl0 _ hI ⟨Bs, rfl, hbs⟩ hlt
    dsimp only at hbs ⊢
    have hBw := hI.below
    have hv0 := hI.var.cell 0
    have f0 := hI.var.frozen 0
    obtain ⟨hz, s0, s1, s2⟩ := hbs.at3
    simp at hv0
    have HI : Hid (Latest w Bm pre W) := hI
    have HY : Hid (lastT ((pre ++ [(⟨(f, t, o), hms⟩ : SltM)]).map (·.1)) = if lastT (pre.map (·.1)) < t then t else lastT (pre.map (·.1))) := by
      show _ = _
      rw [List.map_append]
      exact lastT_snoc _ _
    generalize pre ++ [(⟨(f, t, o), hms⟩ : SltM)] = pre1 at *
    clear hI
    obtain ⟨m, hm⟩ : ∃ m, m = lastT (pre.map (·.1)) := ⟨_, rfl⟩
    rw [← hm] at HY hv0
    clear hm
    gi_wp2
    have em : (if m < t then t else m) = max m t := by split <;> omega
    refine ⟨(KeepsOthers.setCell _ _ _).from _, (Below.refl _ W).setCell (p := ⟨Bm, 0, none⟩) hBm _, ?_, hBw.setCell (p := ⟨Bm, 0, none⟩) hBm _⟩
    rw [HY.out, em]
    exact HI.out.var.set 0 _
  case done =>
    rintro D xs W hD hxs ⟨h1, h2⟩ hK
    have hv0 := h1.cell 0
    simp at hv0
    have HX : Hid (xs.map (·.1) = slotsY ns ls) := hxs
    clear hxs
    obtain ⟨m, hm⟩ : ∃ m, m = lastT (xs.map (·.1)) := ⟨_, rfl⟩
    rw [← hm] at hv0
    have HM2 : Hid (m = lastT (xs.map (·.1))) := hm
    clear hm
    gi_wp2
    refine ⟨by simp, .inl ⟨_, _, rfl, run_takeDeferred hK, ?_⟩⟩
    refine ⟨_, results_tmp2 rfl _ _ _, by rw [HM2.out, HX.out]; rfl, below_put _ h2 (by have := hB0.size; omega) hK⟩
  case stop =>
    rintro D c pre W _ _ h _
    exact h.elim

set_option maxRecDepth 100000 in
set_option maxHeartbeats 4000000 in
theorem wlast_bad {a b c : Int} {n l : Value} {ns ls : List (List Slt)} (w : World) (hN : Yl w n ns) (hL : Yl w l ls) (hm : ¬ mayY a b c ns ls) :
    Calls Try.prog 9 #[Y5 a b c n l] w fun e W' => e = .returned (.tuple #[I 0, I 8]) ∧ Below w.heap.size w W' := by
  obtain ⟨W, hW, hB, hK⟩ := one_start w (K5 a b c n l) 26
  have HW : Hid (w.alloc (.cells (K5 a b c n l) 26) = W) := hW
  have HC : Hid (Calls Try.prog 26 #[Y5 a b c n l] W fun e W' => e = .returned (I 8) ∧ Below W.heap.size W W') := by
    have := ycheck_calls (a := a) (b := b) (c := c) W (hN.later hB) (hL.later hB)
    rwa [errY_no hm] at this
  obtain ⟨an, cn, rfl, _⟩ := hN.form
  obtain ⟨al, cl, rfl, _⟩ := hL.form
  clear hW hN hL hm
  generalize ns.length = n1 at *
  generalize ls.length = n2 at *
  obtain ⟨p0, p1, p2, p3, p4, hz⟩ := hK.five
  go_enter Try.func9, Try.ntmps9
  go_wp2_with fail
  rw [HW.out]
  refine HC.out.mono ?_
  rintro e w1 ⟨rfl, hT⟩
  go_wp2
  go_ret2
  exact ⟨rfl, then_below hB hT⟩

/-- when.Last, whatever it is handed. -/
theorem wlast_calls {a b c : Int} {n l : Value} {ns ls : List (List Slt)} (w : World) (hN : Yl w n ns) (hL : Yl w l ls) :
    Calls Try.prog 9 #[Y5 a b c n l] w fun e W' => e = .returned (.tuple #[I (lastV a b c ns ls), I (errY a b c ns ls)]) ∧ Below w.heap.size w W' := by
  by_cases hm : mayY a b c ns ls
  · rw [lastV, errY_ok hm, if_pos rfl]
    exact wlast_yes w hN hL hm
  · rw [lastV, errY_no hm, if_neg (by omega)]
    exact wlast_bad w hN hL hm

end Go.Proofs.Ytkbdkhohecdbhaa

/-
  tidehallref02.Ints over longer lists; tidehalllaw10.has: whether a number is in a list.
-/
namespace Go.Proofs.Ytkbdkhohecdbhaa
open Go Go.RowKit Go.Shelf

attribute [local go_sem] Oper.semAt_some ext_const

set_option maxRecDepth 100000 in
set_option maxHeartbeats 2000000 in
theorem intsL_calls {xs ys : List Int} {u v : Value} {b1 b2 : Nat} (w : World) (hu : Lst w b1 u xs) (hv : Lst w b2 v ys) (hx : xs.length ≤ 100000) :
    Calls Try.prog 12 #[u, v] w fun e W' => e = .returned (.bool (decide (xs = ys))) ∧ Below w.heap.size w W' := by
  have hmx : Try.prog.follows .mixedOrders = true := by kernel_rfl
  obtain ⟨ao, cap, rfl, hA⟩ := hu.view
  obtain ⟨ao', cap', rfl, hB⟩ := hv.view
  have HA : Hid (∀ k : Nat, k < xs.length → ∃ g cur, ao = some ⟨g, 0, none⟩ ∧ Blk w g 3 cur ∧ cur[k]? = some (I (xs.getD k 0))) := hA
  have HB : Hid (∀ k : Nat, k < ys.length → ∃ g cur, ao' = some ⟨g, 0, none⟩ ∧ Blk w g 3 cur ∧ cur[k]? = some (I (ys.getD k 0))) := hB
  clear hu hv hA hB
  obtain ⟨ans, hans⟩ : ∃ ans, ans = decide (xs = ys) := ⟨_, rfl⟩
  rw [← hans]
  have HS : Hid (ans = decide (xs = ys)) := hans
  clear hans
  by_cases hl : (xs.length : Int) = ys.length
  · have hl' : ys.length = xs.length := by omega
    clear hl
    rw [hl'] at HB ⊢
    have HL : Hid (ys.length = xs.length) := hl'
    clear hl'
    go_enter Try.func12, Try.ntmps12
    go_wp2
    go_loopw [5] (fun i wr => ∃ k : Nat, k ≤ xs.length ∧ i = .int .i64 k ∧ Hid (xs.take k = ys.take k) ∧ Below w.heap.size w wr) (fun i _ => xs.length - (RowKit.intOf i).toNat)
    case atStart => exact ⟨0, by omega, rfl, by show _ = _; simp, Below.refl _ _⟩
    case round =>
      obtain ⟨k, hk, rfl, HT, hT⟩ := hrel
      by_cases hlt : (k : Int) < (xs.length : Int)
      · have hkx : k < xs.length := by omega
        obtain ⟨g, cur, rfl, hg, hc⟩ := HA.out k hkx
        obtain ⟨g', cur', rfl, hg', hc'⟩ := HB.out k (by have := HL.out; omega)
        have e0 := Ext.cell (hg.later hT) k
        have e1 := Ext.cell (hg'.later hT) k
        rw [hc] at e0
        rw [hc'] at e1
        have HE : Hid (xs.getD k 0 = ys.getD k 0 → xs.take (k + 1) = ys.take (k + 1)) := take_eq_succ hkx (by have := HL.out; omega) HT.out
        have HD : Hid (xs.getD k 0 ≠ ys.getD k 0 → ans = false) := fun hne => by rw [HS.out, decide_eq_false_iff_not]; intro he; exact hne (by rw [he])
        clear hg hg' hc hc'
        generalize xs.getD k 0 = x at e0 HE HD
        generalize ys.getD k 0 = y at e1 HE HD
        cases hq : (x != y)
        · go_wp2
          refine wp_region_look hmx (by kernel_rfl) ?_
          repeat (go_big_quiet_step (fail))
          refine wpQuiet_nil ?_
          intro v
          go_wp2
          go_roundw
          case rel => exact ⟨k + 1, by omega, by go_num, HE.out (by simpa using hq), then_below hT v.le⟩
          case measure => simp [RowKit.intOf]; omega
        · go_wp2
          refine wp_region_look hmx (by kernel_rfl) ?_
          repeat (go_big_quiet_step (fail))
          refine wpQuiet_nil ?_
          intro v
          go_wp2
          go_ret
          exact ⟨by rw [HD.out (by simpa using hq)]; rfl, then_below hT v.le⟩
      · have E : ans = true := by
          rw [HS.out, decide_eq_true_eq]
          have h1 := HT.out
          rwa [List.take_of_length_le (by omega), List.take_of_length_le (by have := HL.out; omega)] at h1
        subst E
        go_wp2
        go_ret
        exact ⟨rfl, hT⟩
  · have E : ans = false := by rw [HS.out, decide_eq_false_iff_not]; intro he; rw [he] at hl; exact hl rfl
    subst E
    go_enter Try.func12, Try.ntmps12
    go_wp2
    go_ret
    exact ⟨rfl, Below.refl _ _⟩


theorem mem_take {xs : List Int} {n : Int} {k : Nat} (hk : k < xs.length) (h : n ∉ xs.take k) (he : xs.getD k 0 ≠ n) : n ∉ xs.take (k + 1) := by
  rw [List.take_succ_eq_append_getElem hk]
  intro hm
  rcases List.mem_append.1 hm with hm | hm
  · exact h hm
  · rw [List.mem_singleton] at hm
    apply he
    rw [List.getD_eq_getElem?_getD, List.getElem?_eq_getElem hk]
    exact hm.symm

set_option maxRecDepth 100000 in
set_option maxHeartbeats 2000000 in
theorem has10_calls {xs : List Int} {u : Value} {b : Nat} {n : Int} (w : World) (hu : Lst w b u xs) (hx : xs.length ≤ 100000) :
    Calls Try.prog 23 #[u, I n] w fun e W' => e = .returned (.bool (decide (n ∈ xs))) ∧ Below w.heap.size w W' := by
  have hmx : Try.prog.follows .mixedOrders = true := by kernel_rfl
  obtain ⟨ao, cap, rfl, hA⟩ := hu.view
  have HA : Hid (∀ k : Nat, k < xs.length → ∃ g cur, ao = some ⟨g, 0, none⟩ ∧ Blk w g 3 cur ∧ cur[k]? = some (I (xs.getD k 0))) := hA
  clear hu hA
  obtain ⟨ans, hans⟩ : ∃ ans, ans = decide (n ∈ xs) := ⟨_, rfl⟩
  rw [← hans]
  have HS : Hid (ans = decide (n ∈ xs)) := hans
  clear hans
  go_enter Try.func23, Try.ntmps23
  go_wp2
  go_loopw [5] (fun i wr => ∃ k : Nat, k ≤ xs.length ∧ i = .int .i64 k ∧ Hid (n ∉ xs.take k) ∧ Below w.heap.size w wr) (fun i _ => xs.length - (RowKit.intOf i).toNat)
  case atStart => exact ⟨0, by omega, rfl, by show ¬ _; simp, Below.refl _ _⟩
  case round =>
    obtain ⟨k, hk, rfl, HT, hT⟩ := hrel
    by_cases hlt : (k : Int) < (xs.length : Int)
    · have hkx : k < xs.length := by omega
      obtain ⟨g, cur, rfl, hg, hc⟩ := HA.out k hkx
      have c0 := (hg.later hT).cell k
      rw [hc] at c0
      have hz := (hg.later hT).lt
      have HE : Hid (xs.getD k 0 ≠ n → n ∉ xs.take (k + 1)) := mem_take hkx HT.out
      have HD : Hid (xs.getD k 0 = n → ans = true) := fun he => by rw [HS.out, decide_eq_true_eq, ← he]; exact ofList_mem hkx
      clear hg hc
      generalize xs.getD k 0 = x at c0 HE HD
      cases hq : (x == n)
      · go_wp2
        go_roundw
        case rel => exact ⟨k + 1, by omega, by go_num, HE.out (by simpa using hq), hT⟩
        case measure => simp [RowKit.intOf]; omega
      · go_wp2
        go_ret
        exact ⟨by rw [HD.out (by simpa using hq)]; rfl, hT⟩
    · have E : ans = false := by
        rw [HS.out, decide_eq_false_iff_not]
        have h1 := HT.out
        rwa [List.take_of_length_le (by omega)] at h1
      subst E
      go_wp2
      go_ret
      exact ⟨rfl, hT⟩

end Go.Proofs.Ytkbdkhohecdbhaa
