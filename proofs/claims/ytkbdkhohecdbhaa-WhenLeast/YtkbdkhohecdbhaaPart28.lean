/-
  The document's Moments, Times, Ends, Last.
-/
import Derived.Test.YtkbdkhohecdbhaaPart27
import Derived.Test.YtkbdkhohecdbhaaPart22
import Derived.Test.YtkbdkhohecdbhaaPart26
import Derived.Test.YtkbdkhohecdbhaaPart21
import Derived.Test.YtkbdkhohecdbhaaPart23
import Derived.Test.YtkbdkhohecdbhaaPart6
import Derived.Test.YtkbdkhohecdbhaaPart12
import Derived.Laws.AppendOwn
import Derived.Laws.AppendOwnNone
namespace Go.Proofs.Ytkbdkhohecdbhaa
open Go Go.RowKit Go.Shelf

attribute [local go_sem] Oper.semAt_some ext_const

theorem lst_one (W : World) (base : Nat) (h : base ≤ W.heap.size) (x : Int) : Lst (W.alloc (.cells #[I x] 3)) base (.slice (some ⟨W.heap.size, 0, none⟩) 1 1) [x] :=
  ⟨rfl, .inr ⟨W.heap.size, 1, #[I x], rfl, h, World.alloc_heap_new W _, Nat.le_refl _, by unfold maxLen; omega, rfl, rfl⟩⟩

theorem gath_take {p : Slt → Bool} {l : List Int} {sl : List Slt} {k : Nat} (h : k < sl.length) : gathT p l (sl.take (k + 1)) = if p (sl.getD k (0, 0, 0)) then insI (sl.getD k (0, 0, 0)).2.1 (gathT p l (sl.take k)) else gathT p l (sl.take k) := by
  rw [take_slot h, gathT_snoc]
theorem gath_short (p : Slt → Bool) (l : List Int) (sl : List Slt) (k : Nat) : (gathT p l (sl.take k)).length ≤ l.length + sl.length := by
  have := gathT_len p (sl.take k) l
  rw [List.length_take] at this
  omega

set_option maxRecDepth 100000 in
set_option maxHeartbeats 4000000 in
theorem rmoments_calls {a b c x : Int} {n l : Value} {ns ls : List (List Slt)} (w : World) (hN : Yl w n ns) (hL : Yl w l ls) (htot : (slotsY ns ls).length ≤ 20000) (h1 : ns.length ≤ 100000) (h2 : ls.length ≤ 100000) :
    Calls Try.prog 34 #[Y5 a b c n l, I x] w fun e W' => ∃ v, e = .returned v ∧ Lst W' w.heap.size v (timesT x (slotsY ns ls)) ∧ Below w.heap.size w W' := by
  have hmx : Try.prog.follows .mixedOrders = true := by kernel_rfl
  obtain ⟨W, hW, hB, hK, hX⟩ := two_start w (K5 a b c n l) #[I x] 26 3
  have HW : Hid ((w.alloc (.cells (K5 a b c n l) 26)).alloc (.cells #[I x] 3) = W) := hW
  have HA : Hid (Calls Try.prog 35 #[Y5 a b c n l] W fun e W' => ∃ v, e = .returned v ∧ So W' W.heap.size v (slotsY ns ls) ∧ Below W.heap.size W W') := rall_calls W (hN.later hB) (hL.later hB) (by omega) h1 h2
  have HP : Hid (∀ (w1 : World) (u : Value) (k : Nat) (y : Int), Lst w1 w.heap.size u (gathT (timeP x) [x] ((slotsY ns ls).take k)) → w.heap.size ≤ w1.heap.size → Calls Try.prog 36 #[u, I y] w1 fun e W' => ∃ v, e = .returned v ∧ Lst W' w.heap.size v (insI y (gathT (timeP x) [x] ((slotsY ns ls).take k))) ∧ Below w1.heap.size w1 W') := fun w1 u k y hu hb => rputI_calls w1 hu hb (gathT_up (by simp [UpI])) (by have := gath_short (timeP x) [x] (slotsY ns ls) k; simp only [List.length_cons, List.length_nil] at this; omega)
  have HG : Hid (∀ k, k < (slotsY ns ls).length → gathT (timeP x) [x] ((slotsY ns ls).take (k + 1)) = if timeP x ((slotsY ns ls).getD k (0, 0, 0)) then insI ((slotsY ns ls).getD k (0, 0, 0)).2.1 (gathT (timeP x) [x] ((slotsY ns ls).take k)) else gathT (timeP x) [x] ((slotsY ns ls).take k)) := fun k h => gath_take h
  have HZ : Hid (timesT x (slotsY ns ls) = gathT (timeP x) [x] ((slotsY ns ls).take (slotsY ns ls).length)) := by show _ = _; rw [List.take_length]; rfl
  have H0 : Hid (gathT (timeP x) [x] ((slotsY ns ls).take 0) = [x]) := rfl
  have hO := lst_one (w.alloc (.cells (K5 a b c n l) 26)) w.heap.size (by simp) x
  rw [hW] at hO
  have HO : Hid (Lst W w.heap.size (.slice (some ⟨w.heap.size + 1, 0, none⟩) 1 1) [x]) := by
    have := hO
    rwa [show (w.alloc (.cells (K5 a b c n l) 26)).heap.size = w.heap.size + 1 by simp] at this
  obtain ⟨an, cn, rfl, _⟩ := hN.form
  obtain ⟨al, cl, rfl, _⟩ := hL.form
  clear hW hN hL h1 h2 hO
  generalize timesT x (slotsY ns ls) = tgt at *
  generalize slotsY ns ls = sl at *
  generalize ns.length = n1 at *
  generalize ls.length = n2 at *
  obtain ⟨p0, p1, p2, p3, p4, hz⟩ := hK.five
  go_enter Try.func34, Try.ntmps34
  go_wp2_with fail
  rw [HW.out]
  refine HA.out.mono ?_
  rintro e w1 ⟨v, rfl, hS, hT⟩
  obtain ⟨ao, cap, rfl, hS'⟩ := hS.ss.form
  have HS : Hid (Ss w1 (.slice ao sl.length cap) sl) := hS'
  clear hS hS'
  go_wp2
  go_loopw [5, 7] (fun out i wr => ∃ k : Nat, k ≤ sl.length ∧ i = .int .i64 k ∧ Lst wr w.heap.size out (gathT (timeP x) [x] (sl.take k)) ∧ Below w1.heap.size w1 wr) (fun _ i _ => sl.length - (RowKit.intOf i).toNat)
  case atStart => exact ⟨0, by omega, rfl, by rw [H0.out]; exact HO.out.later hT, Below.refl _ _⟩
  case round =>
    obtain ⟨k, hk, rfl, hu, hT1⟩ := hrel
    by_cases hlt : (k : Int) < (sl.length : Int)
    · have hkx : k < sl.length := by omega
      obtain ⟨g, off, f, t, o, rfl, hgd, ha⟩ := HS.out.at hkx
      obtain ⟨hz1, s0, s1, s2⟩ := ha.later hT1
      have hgk := HG.out k hkx
      rw [hgd] at hgk
      have hbase : w.heap.size ≤ wr.heap.size := (then_below hB (then_below hT hT1)).size
      have HPk : Hid (Calls Try.prog 36 #[u5, I t] wr fun e W' => ∃ v, e = .returned v ∧ Lst W' w.heap.size v (insI t (gathT (timeP x) [x] (sl.take k))) ∧ Below wr.heap.size wr W') := HP.out wr _ k t hu hbase
      by_cases h1 : x < t
      · by_cases h2 : t < 1099511627776
        · have HE : Hid (gathT (timeP x) [x] (sl.take (k + 1)) = insI t (gathT (timeP x) [x] (sl.take k))) := by show _ = _; rw [hgk]; simp [timeP, h1, h2]
          have d1 : decide (x < t) = true := decide_eq_true h1
          have d2 : decide (t < 1099511627776) = true := decide_eq_true h2
          clear hgk hgd h1 h2 hu
          go_wp2_with fail
          refine HPk.out.mono ?_
          rintro e w2 ⟨v2, rfl, hu2, hB2⟩
          go_wp2
          go_roundw
          case rel => exact ⟨k + 1, by omega, by go_num, by rw [HE.out]; exact hu2, then_below hT1 hB2⟩
          case measure => simp [RowKit.intOf]; omega
        · have HE : Hid (gathT (timeP x) [x] (sl.take (k + 1)) = gathT (timeP x) [x] (sl.take k)) := by show _ = _; rw [hgk]; simp [timeP, h2]
          have d1 : decide (x < t) = true := decide_eq_true h1
          have d2 : decide (t < 1099511627776) = false := decide_eq_false h2
          clear hgk hgd h1 h2
          go_wp2
          go_roundw
          case rel => exact ⟨k + 1, by omega, by go_num, by rw [HE.out]; exact hu, hT1⟩
          case measure => simp [RowKit.intOf]; omega
      · have HE : Hid (gathT (timeP x) [x] (sl.take (k + 1)) = gathT (timeP x) [x] (sl.take k)) := by show _ = _; rw [hgk]; simp [timeP, h1]
        have d1 : decide (x < t) = false := decide_eq_false h1
        clear hgk hgd h1
        go_wp2
        go_roundw
        case rel => exact ⟨k + 1, by omega, by go_num, by rw [HE.out]; exact hu, hT1⟩
        case measure => simp [RowKit.intOf]; omega
    · obtain rfl : k = sl.length := by omega
      have HU : Hid (Lst wr w.heap.size u5 tgt) := by show Lst _ _ _ _; rw [HZ.out]; exact hu
      clear hu
      go_wp2
      go_ret
      exact ⟨_, rfl, HU.out, then_below hB (then_below hT hT1)⟩

/-- Times, of the document. -/
theorem rtimes_calls {a b c x : Int} {n l : Value} {ns ls : List (List Slt)} (w : World) (hN : Yl w n ns) (hL : Yl w l ls) (hs : Small ns ls) (htot : (slotsY ns ls).length ≤ 20000) :
    Calls Try.prog 15 #[Y5 a b c n l, I x] w fun e W' => ∃ v, e = .returned (.tuple #[v, I (timeE a b c ns ls x)]) ∧ Lst W' w.heap.size v (timeV a b c ns ls x) ∧ Below w.heap.size w W' := by
  obtain ⟨W, hW, hB, hK⟩ := one_start w (K5 a b c n l) 26
  have HW : Hid (w.alloc (.cells (K5 a b c n l) 26) = W) := hW
  have HM : Hid (Calls Try.prog 33 #[Y5 a b c n l] W fun e W' => e = .returned (.bool (mayYB a b c ns ls)) ∧ Below W.heap.size W W') := rmayY_calls W (hN.later hB) (hL.later hB) hs
  have HA : Hid (∀ w1, Below W.heap.size W w1 → Calls Try.prog 34 #[Y5 a b c n l, I x] w1 fun e W' => ∃ v, e = .returned v ∧ Lst W' w1.heap.size v (timesT x (slotsY ns ls)) ∧ Below w1.heap.size w1 W') := fun w1 hb => rmoments_calls w1 (hN.later (then_below hB hb)) (hL.later (then_below hB hb)) htot (by have := hs.nodes; omega) (by have := hs.links; omega)
  obtain ⟨an, cn, rfl, _⟩ := hN.form
  obtain ⟨al, cl, rfl, _⟩ := hL.form
  clear hW hN hL hs htot
  unfold timeV timeE
  generalize mayYB a b c ns ls = q at *
  generalize timesT x (slotsY ns ls) = tgt at *
  generalize ns.length = n1 at *
  generalize ls.length = n2 at *
  obtain ⟨p0, p1, p2, p3, p4, hz⟩ := hK.five
  cases q
  · go_enter Try.func15, Try.ntmps15
    go_wp2_with fail
    rw [HW.out]
    refine HM.out.mono ?_
    rintro e w1 ⟨rfl, hT⟩
    go_wp2
    go_ret2
    exact ⟨_, rfl, Lst.nil _ _, then_below hB hT⟩
  · by_cases hx : 0 ≤ x ∧ x < 1099511627776
    · have d1 : decide (x < 0) = false := decide_eq_false (by omega)
      have d2 : decide (1099511627776 ≤ x) = false := decide_eq_false (by omega)
      simp only [if_true, if_pos hx]
      clear hx
      go_enter Try.func15, Try.ntmps15
      go_wp2_with fail
      rw [HW.out]
      refine HM.out.mono ?_
      rintro e w1 ⟨rfl, hT⟩
      clear p0 p1 p2 p3 p4 hz
      obtain ⟨p0, p1, p2, p3, p4, hz⟩ := hK.yard hT
      go_wp2_with fail
      refine (HA.out _ hT).mono ?_
      rintro e w2 ⟨v, rfl, hv, hB2⟩
      have HV : Hid (Lst w2 w.heap.size v tgt) := hv.weak (then_below hB hT).size
      clear hv
      go_wp2
      go_ret2
      exact ⟨_, rfl, HV.out, then_below hB (then_below hT hB2)⟩
    · simp only [if_true, if_neg hx]
      by_cases h0 : x < 0
      · have d1 : decide (x < 0) = true := decide_eq_true h0
        clear hx h0
        go_enter Try.func15, Try.ntmps15
        go_wp2_with fail
        rw [HW.out]
        refine HM.out.mono ?_
        rintro e w1 ⟨rfl, hT⟩
        go_wp2
        go_ret2
        exact ⟨_, rfl, Lst.nil _ _, then_below hB hT⟩
      · have d1 : decide (x < 0) = false := decide_eq_false h0
        have d2 : decide (1099511627776 ≤ x) = true := decide_eq_true (by omega)
        clear hx h0
        go_enter Try.func15, Try.ntmps15
        go_wp2_with fail
        rw [HW.out]
        refine HM.out.mono ?_
        rintro e w1 ⟨rfl, hT⟩
        go_wp2
        go_ret2
        exact ⟨_, rfl, Lst.nil _ _, then_below hB hT⟩

end Go.Proofs.Ytkbdkhohecdbhaa

/-
  The statements of layer 10: some, alive.
-/
namespace Go.Proofs.Ytkbdkhohecdbhaa
open Go Go.RowKit Go.Shelf

attribute [local go_sem] Oper.semAt_some ext_const

theorem two_slots : slotsY twoN twoL = [(0, 3, 5), (0, 3, 5)] := by decide +kernel
theorem two_slots_len : (slotsY twoN twoL).length ≤ 100000 := by rw [two_slots]; decide
theorem two_err0 : errY 2 1 1 twoN twoL = 0 := by decide +kernel
theorem two_timeE0 : timeE 2 1 1 twoN twoL 0 = 0 := by decide +kernel
theorem two_timeE3 : timeE 2 1 1 twoN twoL 3 = 0 := by decide +kernel
theorem two_timeEm : timeE 2 1 1 twoN twoL 1099511627776 = 2 := by decide +kernel
theorem two_time0 : timesT 0 (slotsY twoN twoL) = [0, 3] := by rw [two_slots]; decide +kernel
theorem two_time3 : timesT 3 (slotsY twoN twoL) = [3] := by rw [two_slots]; decide +kernel
theorem two_ends5 : endsT 5 (slotsY twoN twoL) = [3] := by rw [two_slots]; decide +kernel
theorem two_ends6 : endsT 6 (slotsY twoN twoL) = [] := by rw [two_slots]; decide +kernel
theorem two_last : lastT (slotsY twoN twoL) = 3 := by rw [two_slots]; decide +kernel

theorem two_times0 : Hid (∀ w n l, Yl w n twoN → Yl w l twoL → Calls Try.prog 10 #[Y5 2 1 1 n l, I 0] w fun e W' => ∃ v, e = .returned (.tuple #[v, I 0]) ∧ Lst W' w.heap.size v [0, 3] ∧ Below w.heap.size w W') := fun w n l h1 h2 => by
  have := wtimes_calls (a := 2) (b := 1) (c := 1) (x := 0) w h1 h2 two_slots_len
  rwa [timeV, two_timeE0, if_pos rfl, two_time0] at this
theorem two_times3 : Hid (∀ w n l, Yl w n twoN → Yl w l twoL → Calls Try.prog 10 #[Y5 2 1 1 n l, I 3] w fun e W' => ∃ v, e = .returned (.tuple #[v, I 0]) ∧ Lst W' w.heap.size v [3] ∧ Below w.heap.size w W') := fun w n l h1 h2 => by
  have := wtimes_calls (a := 2) (b := 1) (c := 1) (x := 3) w h1 h2 two_slots_len
  rwa [timeV, two_timeE3, if_pos rfl, two_time3] at this
theorem lst_blk1 {W : World} {B : Nat} {x : Int} (h : Blk W B 3 #[I x]) : Lst W 0 (.slice (some ⟨B, 0, none⟩) 1 1) [x] :=
  ⟨rfl, .inr ⟨B, 1, _, rfl, Nat.zero_le _, h, Nat.le_refl _, by decide, rfl, rfl⟩⟩
theorem lst_blk2 {W : World} {B : Nat} {x y : Int} (h : Blk W B 3 #[I x, I y]) : Lst W 0 (.slice (some ⟨B, 0, none⟩) 2 2) [x, y] :=
  ⟨rfl, .inr ⟨B, 2, _, rfl, Nat.zero_le _, h, Nat.le_refl _, by decide, rfl, rfl⟩⟩
theorem ints_lit1 (x : Int) : Hid (∀ w b u g, Lst w b u [x] → Blk w g 3 #[.int .i64 x] → Calls Try.prog 12 #[u, .slice (some ⟨g, 0, none⟩) 1 1] w fun e W' => e = .returned (.bool true) ∧ Below w.heap.size w W') := fun w b u g h1 h2 => by
  have := intsL_calls w h1 (lst_blk1 h2) (by simp)
  rwa [decide_eq_true rfl] at this
theorem ints_lit2 (x y : Int) : Hid (∀ w b u g, Lst w b u [x, y] → Blk w g 3 #[.int .i64 x, .int .i64 y] → Calls Try.prog 12 #[u, .slice (some ⟨g, 0, none⟩) 2 2] w fun e W' => e = .returned (.bool true) ∧ Below w.heap.size w W') := fun w b u g h1 h2 => by
  have := intsL_calls w h1 (lst_blk2 h2) (by simp)
  rwa [decide_eq_true rfl] at this

set_option maxRecDepth 100000 in
set_option maxHeartbeats 8000000 in
theorem alive10_calls (w : World) : Calls Try.prog 11 #[] w fun e W' => e = .returned (.bool true) ∧ Below w.heap.size w W' := by
  have H2 : Hid (∀ w, Calls Try.prog 7 #[] w fun e W' => ∃ u v, e = .returned (.tuple #[Y5 2 1 1 u v, .bool true]) ∧ Yo W' w.heap.size u twoN ∧ Yo W' w.heap.size v twoL ∧ Below w.heap.size w W') := some10_calls
  have T0 := two_times0
  have T3 := two_times3
  have I1 := ints_lit1 3
  have I2 := ints_lit2 0 3
  go_enter Try.func11, Try.ntmps11
  go_wp2_with fail
  refine (H2.out _).mono ?_
  rintro e w1 ⟨u, v, rfl, hU, hV, hT⟩
  obtain ⟨ao1, n1, c1, rfl⟩ := hU.slice
  obtain ⟨ao2, n2, c2, rfl⟩ := hV.slice
  obtain ⟨W1, hW1, hB1, hy⟩ := one_start w1 (K5 2 1 1 (.slice ao1 n1 c1) (.slice ao2 n2 c2)) 26
  have HW1 : Hid (w1.alloc (.cells (K5 2 1 1 (.slice ao1 n1 c1) (.slice ao2 n2 c2)) 26) = W1) := hW1
  have HU : Hid (Yl W1 (.slice ao1 n1 c1) twoN) := (hU.later hB1).yl
  have HV : Hid (Yl W1 (.slice ao2 n2 c2) twoL) := (hV.later hB1).yl
  have hT1 := then_below hT hB1
  clear hU hV hW1 hT hB1
  go_wp2_with fail
  rw [HW1.out]
  refine (T0.out _ _ _ HU.out HV.out).mono ?_
  rintro e w2 ⟨s1, rfl, hs1, hB2⟩
  obtain ⟨p0, p1, p2, p3, p4, hz⟩ := hy.yard hB2
  go_wp2_with fail
  refine (T3.out _ _ _ (HU.out.later hB2) (HV.out.later hB2)).mono ?_
  rintro e w3 ⟨s3, rfl, hs3, hB3⟩
  have hT3 := then_below hT1 (then_below hB2 hB3)
  have hA1 := (Below.refl _ w3).alloc (Nat.le_refl _) (.cells #[.int .i64 0, .int .i64 3] 3)
  have G1 : Hid (Lst (w3.alloc (.cells #[.int .i64 0, .int .i64 3] 3)) W1.heap.size s1 [0, 3]) := (hs1.later hB3).later hA1
  have G3 : Hid (Lst w3 w2.heap.size s3 [3]) := hs3
  clear p0 p1 p2 p3 p4 hz hs1 hs3 hy hB2 hB3 hT1
  go_wp2_with fail
  refine (I2.out _ _ _ _ G1.out (Blk.new _ _ _)).mono ?_
  rintro e w4 ⟨rfl, hB4⟩
  have hT4 := then_below hA1 hB4
  have hA2 := (Below.refl _ w4).alloc (Nat.le_refl _) (.cells #[.int .i64 3] 3)
  have G3' : Hid (Lst (w4.alloc (.cells #[.int .i64 3] 3)) w2.heap.size s3 [3]) := (G3.out.later hT4).later hA2
  go_wp2_with fail
  refine (I1.out _ _ _ _ G3'.out (Blk.new _ _ _)).mono ?_
  rintro e w5 ⟨rfl, hB5⟩
  have hT5 := then_below hT4 (then_below hA2 hB5)
  go_wp2
  go_ret
  exact ⟨rfl, then_below hT3 hT5⟩

end Go.Proofs.Ytkbdkhohecdbhaa

/-
  What the statements of cals ask, as plain facts of sets.
-/
namespace Go.Proofs.Ytkbdkhohecdbhaa
open Go Go.RowKit Go.Shelf

theorem both_ok {n : Nat} (h1 : 1 ≤ n) (h2 : n ≤ 12288) (p q : Nat → Bool) : errAll n [setOf n p, setOf n q] = 0 := errAll_both (setOf_err (by omega) (by omega) p) (setOf_err (by omega) (by omega) q)
theorem apart_meet {cs : List (List Slt)} (h1 : 1 ≤ cs.length) (h2 : cs.length ≤ 12288) {x y : Int} (m : Int) (hne : x ≠ y) : meetSB cs.length (setOf cs.length (ownP cs x m)) (setOf cs.length (ownP cs y m)) = false := by
  rw [setOf_meet (by omega) (by omega)]
  cases e : anyB (setOf cs.length (ownP cs x m)) (setOf cs.length (ownP cs y m))
  · rfl
  · obtain ⟨j, _, a, b⟩ := setOf_any.1 e
    exact (own_apart hne a b).elim
theorem own_in {cs : List (List Slt)} (hm : maysC cs = true) (h1 : 1 ≤ cs.length) (h2 : cs.length ≤ 12288) {x m f t : Int} (ha : f ≤ m ∧ m < t) : inSB cs.length (setOf cs.length (ownP cs x m)) (setOf cs.length (busyP cs f t)) = true :=
  setOf_in (by omega) (by omega) fun _ _ h => own_busy hm ha h
theorem busy_in {cs : List (List Slt)} (hm : maysC cs = true) (h1 : 1 ≤ cs.length) (h2 : cs.length ≤ 12288) {f t f' t' : Int} (h : f < t) (h' : f' ≤ f ∧ t ≤ t') : inSB cs.length (setOf cs.length (busyP cs f t)) (setOf cs.length (busyP cs f' t')) = true :=
  setOf_in (by omega) (by omega) fun _ _ hb => busy_within hm h h' hb
theorem busy_or {cs : List (List Slt)} (hm : maysC cs = true) (h1 : 1 ≤ cs.length) (h2 : cs.length ≤ 12288) {f m t : Int} (h : f < m) (h' : m < t) : joinW orW cs.length (setOf cs.length (busyP cs f m)) (setOf cs.length (busyP cs m t)) = setOf cs.length (busyP cs f t) := by
  rw [setOf_or2 (by omega) (by omega)]
  exact setOf_congr fun k _ => (busy_both hm h h' k).symm
theorem wordsE_len (er : Int) {n : Nat} (h : n ≤ 12288) (p : Nat → Bool) : (wordsE er n p).length ≤ 100000 := by
  unfold wordsE
  split
  · rw [setOf_len, Int.toNat_natCast]; omega
  · simp
theorem eqY_self (a b c : Int) (ns ls : List (List Slt)) : eqY a b c ns ls a b c ns ls = true := by simp [eqY, eqD, eqL2]

end Go.Proofs.Ytkbdkhohecdbhaa

/-
  tidehalllaw10.free: are midplanes and cables free through a span from a moment on? And what WhenLeast asks, as plain facts.
-/
namespace Go.Proofs.Ytkbdkhohecdbhaa
open Go Go.RowKit Go.Shelf

attribute [local go_sem] Oper.semAt_some ext_const

/-- Whether some of a set's numbers are busy. -/
def hitY (cs : List (List Slt)) (ws : List Nat) (f t : Int) : Bool := meetSB cs.length (setOf cs.length (busyP cs f t)) ws
def clearY (ns ls : List (List Slt)) (mw lw : List Nat) (f t : Int) : Bool := !hitY ns mw f t && !hitY ls lw f t
theorem hitY_no {cs : List (List Slt)} {ws : List Nat} {f t : Int} (h1 : 1 ≤ cs.length) (h2 : cs.length ≤ 12288) (he : errAll cs.length [ws] = 0) : hitY cs ws f t = false ↔ ∀ k, k < cs.length → hasW ws k = true → busyP cs f t k = false := by
  unfold hitY
  rw [setOf_meets (by omega) (by omega) _ he, List.any_eq_false]
  simp only [List.mem_range, Int.toNat_natCast, Bool.and_eq_true, not_and, Bool.not_eq_true]
theorem busy_beyond {cs : List (List Slt)} (hm : maysC cs = true) {f t : Int} (h : f < t) {k : Nat} (hk : ¬ k < cs.length) : busyP cs f t k = false := by
  refine (busy_no hm h k).2 fun s hs => ?_
  rw [List.getD_eq_getElem?_getD, List.getElem?_eq_none (by omega)] at hs
  cases hs
theorem clearY_iff {ns ls : List (List Slt)} {mw lw : List Nat} {f t : Int} (hn : maysC ns = true) (hl : maysC ls = true) (hft : f < t) (h1 : 1 ≤ ns.length) (h2 : ns.length ≤ 12288) (h3 : 1 ≤ ls.length) (h4 : ls.length ≤ 12288) (e1 : errAll ns.length [mw] = 0) (e2 : errAll ls.length [lw] = 0) :
    clearY ns ls mw lw f t = true ↔ (∀ k, hasW mw k = true → busyP ns f t k = false) ∧ ∀ k, hasW lw k = true → busyP ls f t k = false := by
  unfold clearY
  rw [Bool.and_eq_true, Bool.not_eq_true', Bool.not_eq_true', hitY_no h1 h2 e1, hitY_no h3 h4 e2]
  constructor
  · rintro ⟨a, b⟩
    refine ⟨fun k hk => ?_, fun k hk => ?_⟩
    · by_cases h : k < ns.length
      · exact a k h hk
      · exact busy_beyond hn hft h
    · by_cases h : k < ls.length
      · exact b k h hk
      · exact busy_beyond hl hft h
  · rintro ⟨a, b⟩
    exact ⟨fun k _ hk => a k hk, fun k _ hk => b k hk⟩
/-- The stage's theorem, over the list as it is answered. -/
theorem least_in {ns ls : List (List Slt)} {mw lw : List Nat} {from' at' long : Int} (hn : maysC ns = true) (hl : maysC ls = true) (h1 : 1 ≤ ns.length) (h2 : ns.length ≤ 12288) (h3 : 1 ≤ ls.length) (h4 : ls.length ≤ 12288) (e1 : errAll ns.length [mw] = 0) (e2 : errAll ls.length [lw] = 0)
    (hf : from' ≤ at') (hM : at' < 1099511627776) (hlong : 1 ≤ long) (hc : clearY ns ls mw lw at' (at' + long) = true) :
    ∃ i, i < (timesT from' (slotsY ns ls)).length ∧ (timesT from' (slotsY ns ls)).getD i 0 ≤ at' ∧ clearY ns ls mw lw ((timesT from' (slotsY ns ls)).getD i 0) ((timesT from' (slotsY ns ls)).getD i 0 + long) = true := by
  obtain ⟨hp, hq⟩ := (clearY_iff hn hl (by omega) h1 h2 h3 h4 e1 e2).1 hc
  obtain ⟨m, hm, hma, hmp, hmq⟩ := when_least hn hl hf hM hlong hp hq
  obtain ⟨i, hi, e⟩ := List.mem_iff_getElem.1 hm
  have eg : (timesT from' (slotsY ns ls)).getD i 0 = m := by rw [List.getD_eq_getElem?_getD, List.getElem?_eq_getElem hi, Option.getD_some, e]
  exact ⟨i, hi, by rw [eg]; exact hma, by rw [eg]; exact (clearY_iff hn hl (by omega) h1 h2 h3 h4 e1 e2).2 ⟨hmp, hmq⟩⟩
theorem times_from {from' : Int} {sl : List Slt} {i : Nat} (hi : i < (timesT from' sl).length) : from' ≤ (timesT from' sl).getD i 0 := by
  rcases timesT_mem.1 (ofList_mem hi) with h | ⟨h, _⟩
  · omega
  · omega

set_option maxRecDepth 100000 in
set_option maxHeartbeats 8000000 in
theorem free10_calls {a b c f long : Int} {n l vm vk : Value} {ns ls : List (List Slt)} {mw lw : List Nat} (w : World) (hN : Yl w n ns) (hL : Yl w l ls) (hMw : Wds w vm mw) (hKw : Wds w vk lw) (hm : mayY a b c ns ls) (e1 : errAll ns.length [mw] = 0) (e2 : errAll ls.length [lw] = 0) (hf : 0 ≤ f) (h1 : 1 ≤ long) (hM : f + long ≤ 1099511627776) :
    Calls Try.prog 20 #[Y5 a b c n l, vm, vk, I f, I long] w fun e W' => e = .returned (.bool (clearY ns ls mw lw f (f + long))) ∧ Below w.heap.size w W' := by
  have hbd := hm.bd
  obtain ⟨W, hW, hB, hK⟩ := one_start w (K5 a b c n l) 26
  have HW : Hid (w.alloc (.cells (K5 a b c n l) 26) = W) := hW
  obtain ⟨t, ht⟩ : ∃ t, t = f + long := ⟨_, rfl⟩
  rw [← ht]
  have hw1 : wrap64 (f + long) = t := by rw [ht]; exact wrap_in _ (by omega)
  have hmul : wrap64 (3 * (ns.length : Int)) = (ls.length : Int) := by rw [wrap_in _ (by omega)]; omega
  have HBu : Hid (Calls Try.prog 21 #[Y5 a b c n l, S2 f t] W fun e W' => ∃ x y, e = .returned (.tuple #[x, y, I 0]) ∧ Wds W' x (setOf ns.length (busyP ns f t)) ∧ Wds W' y (setOf ls.length (busyP ls f t)) ∧ Below W.heap.size W W') := by
    have := yBusy_calls (a := a) (b := b) (c := c) (x := f) (y := t) W (hN.later hB) (hL.later hB)
    have e : busyE a b c ns ls f t = 0 := by unfold busyE; rw [if_pos (mayYB_iff.2 hm), if_pos ((maySpB_iff _ _).2 ⟨hf, by omega, by omega⟩)]
    rw [e, wordsE, if_pos rfl, wordsE, if_pos rfl] at this
    refine this.mono ?_
    rintro e W' ⟨x, y, rfl, hx, hy, hB⟩
    exact ⟨x, y, rfl, hx.wds, hy.wds, hB⟩
  have HM1 : Hid (∀ w1 x, Below W.heap.size W w1 → Wds w1 x (setOf ns.length (busyP ns f t)) → Calls Try.prog 39 #[I ns.length, x, vm] w1 fun e W' => e = .returned (.tuple #[.bool (hitY ns mw f t), I 0]) ∧ Below w1.heap.size w1 W') := fun w1 x hb hx => by
    have := meet_calls w1 hx (hMw.later (then_below hB hb)) ns.length
    rwa [errAll_both (setOf_err (by omega) (by omega) _) e1] at this
  have HM2 : Hid (∀ w1 x, Below W.heap.size W w1 → Wds w1 x (setOf ls.length (busyP ls f t)) → Calls Try.prog 39 #[I ls.length, x, vk] w1 fun e W' => e = .returned (.tuple #[.bool (hitY ls lw f t), I 0]) ∧ Below w1.heap.size w1 W') := fun w1 x hb hx => by
    have := meet_calls w1 hx (hKw.later (then_below hB hb)) ls.length
    rwa [errAll_both (setOf_err (by omega) (by omega) _) e2] at this
  obtain ⟨an, cn, rfl, _⟩ := hN.form
  obtain ⟨al, cl, rfl, _⟩ := hL.form
  obtain ⟨am, cm, rfl, _⟩ := hMw.view
  obtain ⟨ak, ck, rfl, _⟩ := hKw.view
  unfold clearY
  clear hW hN hL hMw hKw hm e1 e2 hf h1 hM hbd ht
  generalize hitY ns mw f t = q1 at *
  generalize hitY ls lw f t = q2 at *
  generalize setOf (ns.length : Int) (busyP ns f t) = s1 at *
  generalize setOf (ls.length : Int) (busyP ls f t) = s2 at *
  generalize ns.length = n1 at *
  generalize ls.length = n2 at *
  generalize mw.length = m1 at *
  generalize lw.length = m2 at *
  obtain ⟨p0, p1, p2, p3, p4, hz⟩ := hK.five
  cases q1
  · cases q2
    all_goals
      go_enter Try.func20, Try.ntmps20
      go_wp2_with fail
      rw [HW.out]
      refine HBu.out.mono ?_
      rintro e w1 ⟨x, y, rfl, hx, hy, hT⟩
      clear p0 p1 p2 p3 p4 hz
      obtain ⟨p0, p1, p2, p3, p4, hz⟩ := hK.yard hT
      go_wp2_with fail
      refine (HM1.out _ _ hT hx).mono ?_
      rintro e w2 ⟨rfl, hB2⟩
      have hT2 := then_below hT hB2
      have HY : Hid (Wds w2 y s2) := hy.later hB2
      clear hx hy p0 p1 p2 p3 p4 hz
      go_wp2_with fail
      refine (HM2.out _ _ hT2 HY.out).mono ?_
      rintro e w3 ⟨rfl, hB3⟩
      go_wp2
      go_ret
      exact ⟨rfl, then_below hB (then_below hT2 hB3)⟩
  · go_enter Try.func20, Try.ntmps20
    go_wp2_with fail
    rw [HW.out]
    refine HBu.out.mono ?_
    rintro e w1 ⟨x, y, rfl, hx, hy, hT⟩
    clear p0 p1 p2 p3 p4 hz
    obtain ⟨p0, p1, p2, p3, p4, hz⟩ := hK.yard hT
    go_wp2_with fail
    refine (HM1.out _ _ hT hx).mono ?_
    rintro e w2 ⟨rfl, hB2⟩
    have hT2 := then_below hT hB2
    have HY : Hid (Wds w2 y s2) := hy.later hB2
    clear hx hy p0 p1 p2 p3 p4 hz
    go_wp2_with fail
    refine (HM2.out _ _ hT2 HY.out).mono ?_
    rintro e w3 ⟨rfl, hB3⟩
    go_wp2
    go_ret
    exact ⟨rfl, then_below hB (then_below hT2 hB3)⟩

end Go.Proofs.Ytkbdkhohecdbhaa

/-
  A set among the arguments: as it came in, and a copy of it.
-/
namespace Go.Proofs.Ytkbdkhohecdbhaa
open Go Go.RowKit Go.Shelf

/-- A row of words that came in. -/
def ArgW (W : World) (v : Value) (ws : List Nat) : Prop := Wds W v ws ∧ (v = .slice none 0 0 ∨ ∃ ad cap, v = .slice (some ad) ws.length cap)
def ArgI (W : World) (v : Value) (xs : List Int) : Prop := Its W v xs ∧ (v = .slice none 0 0 ∨ ∃ ad cap, v = .slice (some ad) xs.length cap)

theorem owns_wds {W : World} {base : Nat} {v : Value} {ws : List Nat} (hw : ∀ x ∈ ws, x < 18446744073709551616) (h : W.ownsRow base 59 1 v ws.length (ws.map U)) : Wds W v ws := by
  obtain ⟨h1, h2⟩ := h
  refine ⟨hw, ?_⟩
  rcases h2 with ⟨rfl, hn⟩ | ⟨g, cap, cur, rfl, hg, hh, hc, hc2, hs, ht⟩
  · have : ws = [] := List.length_eq_zero_iff.1 hn
    subst this
    exact Sl.nil W
  · refine ⟨_, cap, by simp, fun k hk => ⟨g, 0, rfl, (Array.getElem?_eq_some_iff.1 hh).1, ?_⟩⟩
    have hb : Blk W g 59 cur := hh
    rw [Nat.zero_add, hb.cell k]
    have := congrArg (fun l => l[k]?) ht
    simp only [Nat.mul_one] at this
    rw [List.length_map] at hk
    rw [List.getElem?_take_of_lt hk, Array.getElem?_toList] at this
    exact this

/-- 'own = append(own, s...)', own nil. -/
theorem wpList_copy {ops : Array Oper} {rest : List Oper} {o : Oper} {a : Act} {Q : Exit → Act → World → Prop} {W : World} {v : Value} {ws : List Nat} (hgd : o.guard = none) (s x : Operand)
    (ho : o.op = .call { callee := .builtin .append, args := #[s, x], argTypes := #[46, 46] }) (hs : a.eval s = .slice none 0 0) (hx : a.eval x = v)
    (hA : ArgW W v ws) (hl : ws.length ≤ 1000)
    (h : ∀ v' w', Wds w' v' ws → Below W.heap.size W w' → wpList Try.prog ops Q rest (a.put o.dst v') w') : wpList Try.prog ops Q (o :: rest) a W := by
  obtain ⟨i0, hi, hz0, hz1, hz2⟩ := info_parts info_u64
  obtain ⟨hW, rfl | ⟨ad, cap, rfl⟩⟩ := hA
  · have e : ws = [] := by
      obtain ⟨ao, c, e, _⟩ := hW.view
      simp only [Value.slice.injEq] at e
      exact List.length_eq_zero_iff.1 e.2.1.symm
    subst e
    exact wpList_append_own_none hgd s x 46 ho W.heap.size 59 i0 1 Try.underlying46 hi (.slice none 0 0) 0 [] hs (World.ownsRow_nil _ _ _ _) hx (h _ _ (Wds.nil W) (Below.refl _ _))
  · refine wpList_append_own (w := W) hgd s x 46 ho W.heap.size 59 i0 (.int .u64 0) 1 8 Try.underlying46 hi hz0 hz1 hz2 rfl (by decide) (.slice none 0 0) 0 [] hs (World.ownsRow_nil _ _ _ _) ad ws.length cap (ws.map U) hx (by simp) ?_ ?_ ?_ ?_ ?_ ?_
    · intro j u hj
      obtain ⟨ao, c, e, hv⟩ := hW.view
      simp only [Value.slice.injEq] at e
      obtain ⟨rfl, -, -⟩ := e
      have hjl : j < ws.length := by
        have := (List.getElem?_eq_some_iff.1 hj).1
        simpa using this
      obtain ⟨g, off, e, hg, hc⟩ := hv j hjl
      simp only [Option.some.injEq] at e
      subst e
      have : (⟨g, off, none⟩ : Addr).add j = ⟨g, off + j, none⟩ := by
        unfold Addr.add
        split
        · rename_i h0; subst h0; rfl
        · rfl
      rw [this, hc, ← hj]
      simp [hjl]
    · intro u hu
      obtain ⟨y, _, rfl⟩ := List.mem_map.1 hu
      rfl
    · unfold maxLen; omega
    · omega
    · omega
    · intro v' w1 hown' hgrow _
      refine h v' w1 (owns_wds hW.1 (by simpa using hown')) ?_
      exact (Below.refl _ W).grown hgrow (Nat.le_refl _) (fun k hk => by cases hk)

end Go.Proofs.Ytkbdkhohecdbhaa
