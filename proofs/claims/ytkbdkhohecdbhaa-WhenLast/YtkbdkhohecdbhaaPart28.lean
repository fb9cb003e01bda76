/-
  The document's Moments, Times, Ends, Last.
-/
import Derived.Test.YtkbdkhohecdbhaaPart27
import Derived.Test.YtkbdkhohecdbhaaPart22
import Derived.Test.YtkbdkhohecdbhaaPart26
import Derived.Test.YtkbdkhohecdbhaaPart21
import Derived.Test.YtkbdkhohecdbhaaPart23
import Derived.Test.YtkbdkhohecdbhaaPart6
import Derived.Test.YtkbdkhohecdbhaaPart13
namespace Go.Proofs.Ytkbdkhohecdbhaa
open Go Go.RowKit Go.Shelf

attribute [local go_sem] Oper.semAt_some ext_const

theorem lst_one (W : World) (base : Nat) (h : base ≤ W.heap.size) (x : Int) : Lst (W.alloc (.cells #[I x] 3)) base (.slice (some ⟨W.heap.size, 0, none⟩) 1 1) [x] :=
  ⟨rfl, .inr ⟨W.heap.size, 1, #[I x], rfl, h, World.alloc_heap_new W _, Nat.le_refl _, by unfold maxLen; omega, rfl, rfl⟩⟩

theorem gath_take {p : Slt → Bool} {l : List Int} {sl : List Slt} {k : Nat} (h : k < sl.length) : gathT p l (sl.take (k + 1)) = if p (sl.getD k (0, 0, 0)) then insI (sl.getD k (0, 0, 0)).2.1 (gathT p l (sl.take k)) else gathT p l (sl.take k) := by
  rw [take_slot h, gathT_snoc]
theorem gath_short (p : Slt → Bool) (l : List Int) (sl : List Slt) (k : Nat) : (gathT p l (sl.take k)).length ≤ l.length + sl.length := by
  have := gathT_len p (sl.take k) l
  rw [List.length_take] at this
  omega

set_option maxRecDepth 100000 in
set_option maxHeartbeats 4000000 in
theorem rmoments_calls {a b c x : Int} {n l : Value} {ns ls : List (List Slt)} (w : World) (hN : Yl w n ns) (hL : Yl w l ls) (htot : (slotsY ns ls).length ≤ 20000) (h1 : ns.length ≤ 100000) (h2 : ls.length ≤ 100000) :
    Calls Try.prog 34 #[Y5 a b c n l, I x] w fun e W' => ∃ v, e = .returned v ∧ Lst W' w.heap.size v (timesT x (slotsY ns ls)) ∧ Below w.heap.size w W' := by
  have hmx : Try.prog.follows .mixedOrders = true := by kernel_rfl
  obtain ⟨W, hW, hB, hK, hX⟩ := two_start w (K5 a b c n l) #[I x] 26 3
  have HW : Hid ((w.alloc (.cells (K5 a b c n l) 26)).alloc (.cells #[I x] 3) = W) := hW
  have HA : Hid (Calls Try.prog 35 #[Y5 a b c n l] W fun e W' => ∃ v, e = .returned v ∧ So W' W.heap.size v (slotsY ns ls) ∧ Below W.heap.size W W') := rall_calls W (hN.later hB) (hL.later hB) (by omega) h1 h2
  have HP : Hid (∀ (w1 : World) (u : Value) (k : Nat) (y : Int), Lst w1 w.heap.size u (gathT (timeP x) [x] ((slotsY ns ls).take k)) → w.heap.size ≤ w1.heap.size → Calls Try.prog 36 #[u, I y] w1 fun e W' => ∃ v, e = .returned v ∧ Lst W' w.heap.size v (insI y (gathT (timeP x) [x] ((slotsY ns ls).take k))) ∧ Below w1.heap.size w1 W') := fun w1 u k y hu hb => rputI_calls w1 hu hb (gathT_up (by simp [UpI])) (by have := gath_short (timeP x) [x] (slotsY ns ls) k; simp only [List.length_cons, List.length_nil] at this; omega)
  have HG : Hid (∀ k, k < (slotsY ns ls).length → gathT (timeP x) [x] ((slotsY ns ls).take (k + 1)) = if timeP x ((slotsY ns ls).getD k (0, 0, 0)) then insI ((slotsY ns ls).getD k (0, 0, 0)).2.1 (gathT (timeP x) [x] ((slotsY ns ls).take k)) else gathT (timeP x) [x] ((slotsY ns ls).take k)) := fun k h => gath_take h
  have HZ : Hid (timesT x (slotsY ns ls) = gathT (timeP x) [x] ((slotsY ns ls).take (slotsY ns ls).length)) := by show _ = _; rw [List.take_length]; rfl
  have H0 : Hid (gathT (timeP x) [x] ((slotsY ns ls).take 0) = [x]) := rfl
  have hO := lst_one (w.alloc (.cells (K5 a b c n l) 26)) w.heap.size (by simp) x
  rw [hW] at hO
  have HO : Hid (Lst W w.heap.size (.slice (some ⟨w.heap.size + 1, 0, none⟩) 1 1) [x]) := by
    have := hO
    rwa [show (w.alloc (.cells (K5 a b c n l) 26)).heap.size = w.heap.size + 1 by simp] at this
  obtain ⟨an, cn, rfl, _⟩ := hN.form
  obtain ⟨al, cl, rfl, _⟩ := hL.form
  clear hW hN hL h1 h2 hO
  generalize timesT x (slotsY ns ls) = tgt at *
  generalize slotsY ns ls = sl at *
  generalize ns.length = n1 at *
  generalize ls.length = n2 at *
  obtain ⟨p0, p1, p2, p3, p4, hz⟩ := hK.five
  go_enter Try.func34, Try.ntmps34
  go_wp2_with fail
  rw [HW.out]
  refine HA.out.mono ?_
  rintro e w1 ⟨v, rfl, hS, hT⟩
  obtain ⟨ao, cap, rfl, hS'⟩ := hS.ss.form
  have HS : Hid (Ss w1 (.slice ao sl.length cap) sl) := hS'
  clear hS hS'
  go_wp2
  go_loopw [5, 7] (fun out i wr => ∃ k : Nat, k ≤ sl.length ∧ i = .int .i64 k ∧ Lst wr w.heap.size out (gathT (timeP x) [x] (sl.take k)) ∧ Below w1.heap.size w1 wr) (fun _ i _ => sl.length - (RowKit.intOf i).toNat)
  case atStart => exact ⟨0, by omega, rfl, by rw [H0.out]; exact HO.out.later hT, Below.refl _ _⟩
  case round =>
    obtain ⟨k, hk, rfl, hu, hT1⟩ := hrel
    by_cases hlt : (k : Int) < (sl.length : Int)
    · have hkx : k < sl.length := by omega
      obtain ⟨g, off, f, t, o, rfl, hgd, ha⟩ := HS.out.at hkx
      obtain ⟨hz1, s0, s1, s2⟩ := ha.later hT1
      have hgk := HG.out k hkx
      rw [hgd] at hgk
      have hbase : w.heap.size ≤ wr.heap.size := (then_below hB (then_below hT hT1)).size
      have HPk : Hid (Calls Try.prog 36 #[u5, I t] wr fun e W' => ∃ v, e = .returned v ∧ Lst W' w.heap.size v (insI t (gathT (timeP x) [x] (sl.take k))) ∧ Below wr.heap.size wr W') := HP.out wr _ k t hu hbase
      by_cases h1 : x < t
      · by_cases h2 : t < 1099511627776
        · have HE : Hid (gathT (timeP x) [x] (sl.take (k + 1)) = insI t (gathT (timeP x) [x] (sl.take k))) := by show _ = _; rw [hgk]; simp [timeP, h1, h2]
          have d1 : decide (x < t) = true := decide_eq_true h1
          have d2 : decide (t < 1099511627776) = true := decide_eq_true h2
          clear hgk hgd h1 h2 hu
          go_wp2_with fail
          refine HPk.out.mono ?_
          rintro e w2 ⟨v2, rfl, hu2, hB2⟩
          go_wp2
          go_roundw
          case rel => exact ⟨k + 1, by omega, by go_num, by rw [HE.out]; exact hu2, then_below hT1 hB2⟩
          case measure => simp [RowKit.intOf]; omega
        · have HE : Hid (gathT (timeP x) [x] (sl.take (k + 1)) = gathT (timeP x) [x] (sl.take k)) := by show _ = _; rw [hgk]; simp [timeP, h2]
          have d1 : decide (x < t) = true := decide_eq_true h1
          have d2 : decide (t < 1099511627776) = false := decide_eq_false h2
          clear hgk hgd h1 h2
          go_wp2
          go_roundw
          case rel => exact ⟨k + 1, by omega, by go_num, by rw [HE.out]; exact hu, hT1⟩
          case measure => simp [RowKit.intOf]; omega
      · have HE : Hid (gathT (timeP x) [x] (sl.take (k + 1)) = gathT (timeP x) [x] (sl.take k)) := by show _ = _; rw [hgk]; simp [timeP, h1]
        have d1 : decide (x < t) = false := decide_eq_false h1
        clear hgk hgd h1
        go_wp2
        go_roundw
        case rel => exact ⟨k + 1, by omega, by go_num, by rw [HE.out]; exact hu, hT1⟩
        case measure => simp [RowKit.intOf]; omega
    · obtain rfl : k = sl.length := by omega
      have HU : Hid (Lst wr w.heap.size u5 tgt) := by show Lst _ _ _ _; rw [HZ.out]; exact hu
      clear hu
      go_wp2
      go_ret
      exact ⟨_, rfl, HU.out, then_below hB (then_below hT hT1)⟩

/-- Times, of the document. -/
theorem rtimes_calls {a b c x : Int} {n l : Value} {ns ls : List (List Slt)} (w : World) (hN : Yl w n ns) (hL : Yl w l ls) (hs : Small ns ls) (htot : (slotsY ns ls).length ≤ 20000) :
    Calls Try.prog 15 #[Y5 a b c n l, I x] w fun e W' => ∃ v, e = .returned (.tuple #[v, I (timeE a b c ns ls x)]) ∧ Lst W' w.heap.size v (timeV a b c ns ls x) ∧ Below w.heap.size w W' := by
  obtain ⟨W, hW, hB, hK⟩ := one_start w (K5 a b c n l) 26
  have HW : Hid (w.alloc (.cells (K5 a b c n l) 26) = W) := hW
  have HM : Hid (Calls Try.prog 33 #[Y5 a b c n l] W fun e W' => e = .returned (.bool (mayYB a b c ns ls)) ∧ Below W.heap.size W W') := rmayY_calls W (hN.later hB) (hL.later hB) hs
  have HA : Hid (∀ w1, Below W.heap.size W w1 → Calls Try.prog 34 #[Y5 a b c n l, I x] w1 fun e W' => ∃ v, e = .returned v ∧ Lst W' w1.heap.size v (timesT x (slotsY ns ls)) ∧ Below w1.heap.size w1 W') := fun w1 hb => rmoments_calls w1 (hN.later (then_below hB hb)) (hL.later (then_below hB hb)) htot (by have := hs.nodes; omega) (by have := hs.links; omega)
  obtain ⟨an, cn, rfl, _⟩ := hN.form
  obtain ⟨al, cl, rfl, _⟩ := hL.form
  clear hW hN hL hs htot
  unfold timeV timeE
  generalize mayYB a b c ns ls = q at *
  generalize timesT x (slotsY ns ls) = tgt at *
  generalize ns.length = n1 at *
  generalize ls.length = n2 at *
  obtain ⟨p0, p1, p2, p3, p4, hz⟩ := hK.five
  cases q
  · go_enter Try.func15, Try.ntmps15
    go_wp2_with fail
    rw [HW.out]
    refine HM.out.mono ?_
    rintro e w1 ⟨rfl, hT⟩
    go_wp2
    go_ret2
    exact ⟨_, rfl, Lst.nil _ _, then_below hB hT⟩
  · by_cases hx : 0 ≤ x ∧ x < 1099511627776
    · have d1 : decide (x < 0) = false := decide_eq_false (by omega)
      have d2 : decide (1099511627776 ≤ x) = false := decide_eq_false (by omega)
      simp only [if_true, if_pos hx]
      clear hx
      go_enter Try.func15, Try.ntmps15
      go_wp2_with fail
      rw [HW.out]
      refine HM.out.mono ?_
      rintro e w1 ⟨rfl, hT⟩
      clear p0 p1 p2 p3 p4 hz
      obtain ⟨p0, p1, p2, p3, p4, hz⟩ := hK.yard hT
      go_wp2_with fail
      refine (HA.out _ hT).mono ?_
      rintro e w2 ⟨v, rfl, hv, hB2⟩
      have HV : Hid (Lst w2 w.heap.size v tgt) := hv.weak (then_below hB hT).size
      clear hv
      go_wp2
      go_ret2
      exact ⟨_, rfl, HV.out, then_below hB (then_below hT hB2)⟩
    · simp only [if_true, if_neg hx]
      by_cases h0 : x < 0
      · have d1 : decide (x < 0) = true := decide_eq_true h0
        clear hx h0
        go_enter Try.func15, Try.ntmps15
        go_wp2_with fail
        rw [HW.out]
        refine HM.out.mono ?_
        rintro e w1 ⟨rfl, hT⟩
        go_wp2
        go_ret2
        exact ⟨_, rfl, Lst.nil _ _, then_below hB hT⟩
      · have d1 : decide (x < 0) = false := decide_eq_false h0
        have d2 : decide (1099511627776 ≤ x) = true := decide_eq_true (by omega)
        clear hx h0
        go_enter Try.func15, Try.ntmps15
        go_wp2_with fail
        rw [HW.out]
        refine HM.out.mono ?_
        rintro e w1 ⟨rfl, hT⟩
        go_wp2
        go_ret2
        exact ⟨_, rfl, Lst.nil _ _, then_below hB hT⟩

end Go.Proofs.Ytkbdkhohecdbhaa

/-
  The statements of layer 10: some, alive.
-/
namespace Go.Proofs.Ytkbdkhohecdbhaa
open Go Go.RowKit Go.Shelf

attribute [local go_sem] Oper.semAt_some ext_const

theorem two_slots : slotsY twoN twoL = [(0, 3, 5), (0, 3, 5)] := by decide +kernel
theorem two_slots_len : (slotsY twoN twoL).length ≤ 100000 := by rw [two_slots]; decide
theorem two_err0 : errY 2 1 1 twoN twoL = 0 := by decide +kernel
theorem two_timeE0 : timeE 2 1 1 twoN twoL 0 = 0 := by decide +kernel
theorem two_timeE3 : timeE 2 1 1 twoN twoL 3 = 0 := by decide +kernel
theorem two_timeEm : timeE 2 1 1 twoN twoL 1099511627776 = 2 := by decide +kernel
theorem two_time0 : timesT 0 (slotsY twoN twoL) = [0, 3] := by rw [two_slots]; decide +kernel
theorem two_time3 : timesT 3 (slotsY twoN twoL) = [3] := by rw [two_slots]; decide +kernel
theorem two_ends5 : endsT 5 (slotsY twoN twoL) = [3] := by rw [two_slots]; decide +kernel
theorem two_ends6 : endsT 6 (slotsY twoN twoL) = [] := by rw [two_slots]; decide +kernel
theorem two_last : lastT (slotsY twoN twoL) = 3 := by rw [two_slots]; decide +kernel

theorem two_times0 : Hid (∀ w n l, Yl w n twoN → Yl w l twoL → Calls Try.prog 10 #[Y5 2 1 1 n l, I 0] w fun e W' => ∃ v, e = .returned (.tuple #[v, I 0]) ∧ Lst W' w.heap.size v [0, 3] ∧ Below w.heap.size w W') := fun w n l h1 h2 => by
  have := wtimes_calls (a := 2) (b := 1) (c := 1) (x := 0) w h1 h2 two_slots_len
  rwa [timeV, two_timeE0, if_pos rfl, two_time0] at this
theorem two_times3 : Hid (∀ w n l, Yl w n twoN → Yl w l twoL → Calls Try.prog 10 #[Y5 2 1 1 n l, I 3] w fun e W' => ∃ v, e = .returned (.tuple #[v, I 0]) ∧ Lst W' w.heap.size v [3] ∧ Below w.heap.size w W') := fun w n l h1 h2 => by
  have := wtimes_calls (a := 2) (b := 1) (c := 1) (x := 3) w h1 h2 two_slots_len
  rwa [timeV, two_timeE3, if_pos rfl, two_time3] at this
theorem lst_blk1 {W : World} {B : Nat} {x : Int} (h : Blk W B 3 #[I x]) : Lst W 0 (.slice (some ⟨B, 0, none⟩) 1 1) [x] :=
  ⟨rfl, .inr ⟨B, 1, _, rfl, Nat.zero_le _, h, Nat.le_refl _, by decide, rfl, rfl⟩⟩
theorem lst_blk2 {W : World} {B : Nat} {x y : Int} (h : Blk W B 3 #[I x, I y]) : Lst W 0 (.slice (some ⟨B, 0, none⟩) 2 2) [x, y] :=
  ⟨rfl, .inr ⟨B, 2, _, rfl, Nat.zero_le _, h, Nat.le_refl _, by decide, rfl, rfl⟩⟩
theorem ints_lit1 (x : Int) : Hid (∀ w b u g, Lst w b u [x] → Blk w g 3 #[.int .i64 x] → Calls Try.prog 12 #[u, .slice (some ⟨g, 0, none⟩) 1 1] w fun e W' => e = .returned (.bool true) ∧ Below w.heap.size w W') := fun w b u g h1 h2 => by
  have := intsL_calls w h1 (lst_blk1 h2) (by simp)
  rwa [decide_eq_true rfl] at this
theorem ints_lit2 (x y : Int) : Hid (∀ w b u g, Lst w b u [x, y] → Blk w g 3 #[.int .i64 x, .int .i64 y] → Calls Try.prog 12 #[u, .slice (some ⟨g, 0, none⟩) 2 2] w fun e W' => e = .returned (.bool true) ∧ Below w.heap.size w W') := fun w b u g h1 h2 => by
  have := intsL_calls w h1 (lst_blk2 h2) (by simp)
  rwa [decide_eq_true rfl] at this

set_option maxRecDepth 100000 in
set_option maxHeartbeats 8000000 in
theorem alive10_calls (w : World) : Calls Try.prog 11 #[] w fun e W' => e = .returned (.bool true) ∧ Below w.heap.size w W' := by
  have H2 : Hid (∀ w, Calls Try.prog 7 #[] w fun e W' => ∃ u v, e = .returned (.tuple #[Y5 2 1 1 u v, .bool true]) ∧ Yo W' w.heap.size u twoN ∧ Yo W' w.heap.size v twoL ∧ Below w.heap.size w W') := some10_calls
  have T0 := two_times0
  have T3 := two_times3
  have I1 := ints_lit1 3
  have I2 := ints_lit2 0 3
  go_enter Try.func11, Try.ntmps11
  go_wp2_with fail
  refine (H2.out _).mono ?_
  rintro e w1 ⟨u, v, rfl, hU, hV, hT⟩
  obtain ⟨ao1, n1, c1, rfl⟩ := hU.slice
  obtain ⟨ao2, n2, c2, rfl⟩ := hV.slice
  obtain ⟨W1, hW1, hB1, hy⟩ := one_start w1 (K5 2 1 1 (.slice ao1 n1 c1) (.slice ao2 n2 c2)) 26
  have HW1 : Hid (w1.alloc (.cells (K5 2 1 1 (.slice ao1 n1 c1) (.slice ao2 n2 c2)) 26) = W1) := hW1
  have HU : Hid (Yl W1 (.slice ao1 n1 c1) twoN) := (hU.later hB1).yl
  have HV : Hid (Yl W1 (.slice ao2 n2 c2) twoL) := (hV.later hB1).yl
  have hT1 := then_below hT hB1
  clear hU hV hW1 hT hB1
  go_wp2_with fail
  rw [HW1.out]
  refine (T0.out _ _ _ HU.out HV.out).mono ?_
  rintro e w2 ⟨s1, rfl, hs1, hB2⟩
  obtain ⟨p0, p1, p2, p3, p4, hz⟩ := hy.yard hB2
  go_wp2_with fail
  refine (T3.out _ _ _ (HU.out.later hB2) (HV.out.later hB2)).mono ?_
  rintro e w3 ⟨s3, rfl, hs3, hB3⟩
  have hT3 := then_below hT1 (then_below hB2 hB3)
  have hA1 := (Below.refl _ w3).alloc (Nat.le_refl _) (.cells #[.int .i64 0, .int .i64 3] 3)
  have G1 : Hid (Lst (w3.alloc (.cells #[.int .i64 0, .int .i64 3] 3)) W1.heap.size s1 [0, 3]) := (hs1.later hB3).later hA1
  have G3 : Hid (Lst w3 w2.heap.size s3 [3]) := hs3
  clear p0 p1 p2 p3 p4 hz hs1 hs3 hy hB2 hB3 hT1
  go_wp2_with fail
  refine (I2.out _ _ _ _ G1.out (Blk.new _ _ _)).mono ?_
  rintro e w4 ⟨rfl, hB4⟩
  have hT4 := then_below hA1 hB4
  have hA2 := (Below.refl _ w4).alloc (Nat.le_refl _) (.cells #[.int .i64 3] 3)
  have G3' : Hid (Lst (w4.alloc (.cells #[.int .i64 3] 3)) w2.heap.size s3 [3]) := (G3.out.later hT4).later hA2
  go_wp2_with fail
  refine (I1.out _ _ _ _ G3'.out (Blk.new _ _ _)).mono ?_
  rintro e w5 ⟨rfl, hB5⟩
  have hT5 := then_below hT4 (then_below hA2 hB5)
  go_wp2
  go_ret
  exact ⟨rfl, then_below hT3 hT5⟩

end Go.Proofs.Ytkbdkhohecdbhaa

/-
  What the statements of cals ask, as plain facts of sets.
-/
namespace Go.Proofs.Ytkbdkhohecdbhaa
open Go Go.RowKit Go.Shelf

theorem both_ok {n : Nat} (h1 : 1 ≤ n) (h2 : n ≤ 12288) (p q : Nat → Bool) : errAll n [setOf n p, setOf n q] = 0 := errAll_both (setOf_err (by omega) (by omega) p) (setOf_err (by omega) (by omega) q)
theorem apart_meet {cs : List (List Slt)} (h1 : 1 ≤ cs.length) (h2 : cs.length ≤ 12288) {x y : Int} (m : Int) (hne : x ≠ y) : meetSB cs.length (setOf cs.length (ownP cs x m)) (setOf cs.length (ownP cs y m)) = false := by
  rw [setOf_meet (by omega) (by omega)]
  cases e : anyB (setOf cs.length (ownP cs x m)) (setOf cs.length (ownP cs y m))
  · rfl
  · obtain ⟨j, _, a, b⟩ := setOf_any.1 e
    exact (own_apart hne a b).elim
theorem own_in {cs : List (List Slt)} (hm : maysC cs = true) (h1 : 1 ≤ cs.length) (h2 : cs.length ≤ 12288) {x m f t : Int} (ha : f ≤ m ∧ m < t) : inSB cs.length (setOf cs.length (ownP cs x m)) (setOf cs.length (busyP cs f t)) = true :=
  setOf_in (by omega) (by omega) fun _ _ h => own_busy hm ha h
theorem busy_in {cs : List (List Slt)} (hm : maysC cs = true) (h1 : 1 ≤ cs.length) (h2 : cs.length ≤ 12288) {f t f' t' : Int} (h : f < t) (h' : f' ≤ f ∧ t ≤ t') : inSB cs.length (setOf cs.length (busyP cs f t)) (setOf cs.length (busyP cs f' t')) = true :=
  setOf_in (by omega) (by omega) fun _ _ hb => busy_within hm h h' hb
theorem busy_or {cs : List (List Slt)} (hm : maysC cs = true) (h1 : 1 ≤ cs.length) (h2 : cs.length ≤ 12288) {f m t : Int} (h : f < m) (h' : m < t) : joinW orW cs.length (setOf cs.length (busyP cs f m)) (setOf cs.length (busyP cs m t)) = setOf cs.length (busyP cs f t) := by
  rw [setOf_or2 (by omega) (by omega)]
  exact setOf_congr fun k _ => (busy_both hm h h' k).symm
theorem wordsE_len (er : Int) {n : Nat} (h : n ≤ 12288) (p : Nat → Bool) : (wordsE er n p).length ≤ 100000 := by
  unfold wordsE
  split
  · rw [setOf_len, Int.toNat_natCast]; omega
  · simp
theorem eqY_self (a b c : Int) (ns ls : List (List Slt)) : eqY a b c ns ls a b c ns ls = true := by simp [eqY, eqD, eqL2]

end Go.Proofs.Ytkbdkhohecdbhaa

/-
  What WhenLast asks, as plain facts; cals.Busy and set.Many of two spans: ahead of the last moment, and from it on.
-/
namespace Go.Proofs.Ytkbdkhohecdbhaa
open Go Go.RowKit Go.Shelf

attribute [local go_sem] Oper.semAt_some ext_const

/-- How many are busy. -/
def countY (cs : List (List Slt)) (f t : Int) : Nat := manyS (setOf cs.length (busyP cs f t))
theorem countY_zero {cs : List (List Slt)} {f t : Int} : countY cs f t = 0 ↔ ∀ k, k < cs.length → busyP cs f t k = false := by
  unfold countY
  rw [many_zero]
  constructor
  · intro h k hk
    have := h k
    rw [(setOf_is (cs.length : Int) (busyP cs f t)).has] at this
    simpa [hk] using this
  · intro h k
    rw [(setOf_is (cs.length : Int) (busyP cs f t)).has]
    by_cases hk : k < cs.length
    · simp [h k hk]
    · simp [hk]
theorem countY_le {cs : List (List Slt)} (h : cs.length ≤ 12288) (f t : Int) : countY cs f t ≤ 20000 := by
  have := manyS_le (setOf cs.length (busyP cs f t))
  rw [setOf_len, Int.toNat_natCast] at this
  unfold countY
  omega
theorem count_ahead {ns ls : List (List Slt)} (hn : maysC ns = true) (hl : maysC ls = true) (h0 : 0 < lastT (slotsY ns ls)) : countY ns (lastT (slotsY ns ls) - 1) (lastT (slotsY ns ls)) + countY ls (lastT (slotsY ns ls) - 1) (lastT (slotsY ns ls)) ≠ 0 := by
  intro h
  have h1 := countY_zero.1 (show countY ns (lastT (slotsY ns ls) - 1) (lastT (slotsY ns ls)) = 0 by omega)
  have h2 := countY_zero.1 (show countY ls (lastT (slotsY ns ls) - 1) (lastT (slotsY ns ls)) = 0 by omega)
  rcases last_busy hn hl h0 with ⟨k, hk, hb⟩ | ⟨k, hk, hb⟩
  · rw [h1 k hk] at hb; cases hb
  · rw [h2 k hk] at hb; cases hb
theorem count_from {ns ls : List (List Slt)} (hn : maysC ns = true) (hl : maysC ls = true) (hM : lastT (slotsY ns ls) < 1099511627776) : countY ns (lastT (slotsY ns ls)) 1099511627776 = 0 ∧ countY ls (lastT (slotsY ns ls)) 1099511627776 = 0 :=
  ⟨countY_zero.2 fun k _ => (last_free hn hl hM k).1, countY_zero.2 fun k _ => (last_free hn hl hM k).2⟩
theorem last_le {ns ls : List (List Slt)} (hn : maysC ns = true) (hl : maysC ls = true) : lastT (slotsY ns ls) ≤ 1099511627776 := by
  by_cases h : 0 < lastT (slotsY ns ls)
  · obtain ⟨s, hs, he⟩ := lastT_at h
    have := (slotsY_may hn hl hs).1.2.2
    omega
  · omega
theorem ends_mem {o : Int} {sl : List Slt} {k : Nat} (h : k < (endsT o sl).length) : (endsT o sl).getD k 0 ∈ endsT o sl := ofList_mem h
theorem ends_rise {o : Int} {sl : List Slt} {k : Nat} (h0 : 0 < k) (h : k < (endsT o sl).length) : (endsT o sl).getD (k - 1) 0 < (endsT o sl).getD k 0 := up_getD (endsT_up o sl) (by omega) h

theorem sum_ne {c d : Nat} (h : c + d ≠ 0) : (((c : Int) + (d : Int)) == 0) = false := by
  rw [beq_eq_false_iff_ne]
  omega
theorem sum_in {c d : Nat} (h : c ≤ 20000 ∧ d ≤ 20000) : wrap64 ((c : Int) + (d : Int)) = (c : Int) + (d : Int) := wrap_in _ (by omega)
theorem prev_in {m : Int} (h : 0 ≤ m ∧ m ≤ 1099511627776) : wrap64 (m - 1) = m - 1 := wrap_in _ (by omega)

theorem busyL_calls {a b c f t : Int} {n l : Value} {ns ls : List (List Slt)} (w : World) (hN : Yl w n ns) (hL : Yl w l ls) (hm : mayY a b c ns ls) (h0 : 0 ≤ f) (h1 : f < t) (h2 : t ≤ 1099511627776) :
    Calls Try.prog 21 #[Y5 a b c n l, S2 f t] w fun e W' => ∃ x y, e = .returned (.tuple #[x, y, I 0]) ∧ Wds W' x (setOf ns.length (busyP ns f t)) ∧ Wds W' y (setOf ls.length (busyP ls f t)) ∧ Below w.heap.size w W' := by
  have := yBusy_calls (a := a) (b := b) (c := c) (x := f) (y := t) w hN hL
  have e : busyE a b c ns ls f t = 0 := by unfold busyE; rw [if_pos (mayYB_iff.2 hm), if_pos ((maySpB_iff _ _).2 ⟨h0, h1, h2⟩)]
  rw [e, wordsE, if_pos rfl, wordsE, if_pos rfl] at this
  refine this.mono ?_
  rintro e W' ⟨x, y, rfl, hx, hy, hB⟩
  exact ⟨x, y, rfl, hx.wds, hy.wds, hB⟩
theorem countL_calls {cs : List (List Slt)} {f t : Int} {v : Value} (w : World) (h1 : 1 ≤ cs.length) (h2 : cs.length ≤ 12288) (h : Wds w v (setOf cs.length (busyP cs f t))) :
    Calls Try.prog 22 #[I cs.length, v] w fun e W' => e = .returned (.tuple #[I (countY cs f t), I 0]) ∧ Below w.heap.size w W' := by
  have := manyn_calls w h (cs.length : Int)
  rwa [manyR_in (setOf_err (by omega) (by omega) _), setOf_err (by omega) (by omega)] at this

end Go.Proofs.Ytkbdkhohecdbhaa
