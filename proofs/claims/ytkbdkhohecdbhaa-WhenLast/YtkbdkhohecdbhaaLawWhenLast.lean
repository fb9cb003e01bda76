/-
  WhenLast: the walk. (Written by tools/gen/when_last.py.)
-/
import Derived.Test.YtkbdkhohecdbhaaPart28
namespace Go.Proofs.Ytkbdkhohecdbhaa
open Go Go.RowKit Go.Shelf

attribute [local go_sem] Oper.semAt_some ext_const

set_option maxRecDepth 100000 in
set_option maxHeartbeats 32000000 in
theorem whenLast_walk (a b c x ow : Int) (w : World) {n l : Value} {ns ls : List (List Slt)} (hN : Yl w n ns) (hL : Yl w l ls) (bN : Lids ns) (bL : Lids ls) :
    Calls Try.prog 6 #[Y5 a b c n l, I x, I ow] w fun e W' => e = .returned (.bool true) ∧ Below w.heap.size w W' := by
  have hmx : Try.prog.follows .mixedOrders = true := by kernel_rfl
  obtain ⟨W, hW, hB, hK⟩ := one_start w (K5 a b c n l) 26
  have HW : Hid (w.alloc (.cells (K5 a b c n l) 26) = W) := hW
  have HA : Hid (∀ w, Calls Try.prog 11 #[] w fun e W' => e = .returned (.bool true) ∧ Below w.heap.size w W') := alive10_calls
  have HG : Hid (∀ w1, Below W.heap.size W w1 → Calls Try.prog 13 #[Y5 a b c n l] w1 fun e W' => e = .returned (.bool (greatB ns ls)) ∧ Below w1.heap.size w1 W') := fun w1 hb => great_calls w1 (hN.later (then_below hB hb)) (hL.later (then_below hB hb)) bN bL
  have HLa : Hid (∀ w1, Below W.heap.size W w1 → Calls Try.prog 9 #[Y5 a b c n l] w1 fun e W' => e = .returned (.tuple #[I (lastV a b c ns ls), I (errY a b c ns ls)]) ∧ Below w1.heap.size w1 W') := fun w1 hb => wlast_calls w1 (hN.later (then_below hB hb)) (hL.later (then_below hB hb))
  have HEn : Hid ((slotsY ns ls).length ≤ 10000 → ∀ w1, Below W.heap.size W w1 → Calls Try.prog 8 #[Y5 a b c n l, I ow] w1 fun e W' => ∃ r, e = .returned (.tuple #[r, I (errY a b c ns ls)]) ∧ Lst W' w1.heap.size r (endV a b c ns ls ow) ∧ Below w1.heap.size w1 W') := fun h w1 hb => wends_calls w1 (hN.later (then_below hB hb)) (hL.later (then_below hB hb)) (by omega)
  have HTm : Hid ((slotsY ns ls).length ≤ 10000 → ∀ w1, Below W.heap.size W w1 → Calls Try.prog 10 #[Y5 a b c n l, I x] w1 fun e W' => ∃ r, e = .returned (.tuple #[r, I (timeE a b c ns ls x)]) ∧ Lst W' w1.heap.size r (timeV a b c ns ls x) ∧ Below w1.heap.size w1 W') := fun h w1 hb => wtimes_calls w1 (hN.later (then_below hB hb)) (hL.later (then_below hB hb)) (by omega)
  have HBu : Hid (mayY a b c ns ls → ∀ (f t : Int), 0 ≤ f → f < t → t ≤ 1099511627776 → ∀ w1, Below W.heap.size W w1 → Calls Try.prog 21 #[Y5 a b c n l, S2 f t] w1 fun e W' => ∃ x y, e = .returned (.tuple #[x, y, I 0]) ∧ Wds W' x (setOf ns.length (busyP ns f t)) ∧ Wds W' y (setOf ls.length (busyP ls f t)) ∧ Below w1.heap.size w1 W') := fun hm f t h0 h1 h2 w1 hb => busyL_calls w1 (hN.later (then_below hB hb)) (hL.later (then_below hB hb)) hm h0 h1 h2
  obtain ⟨an, cn, rfl, _⟩ := hN.form
  obtain ⟨al, cl, rfl, _⟩ := hL.form
  obtain ⟨gr, hgr⟩ : ∃ gr, gr = greatB ns ls := ⟨_, rfl⟩
  rw [← hgr] at HG
  have HSt : Hid (gr = false → (slotsY ns ls).length ≤ 10000) := fun h => slots_small bN bL (hgr ▸ h)
  clear hW hN hL bN bL hgr
  go_enter Try.func6, Try.ntmps6
  go_wp2_with fail
  rw [HW.out]
  refine (HA.out _).mono ?_
  rintro e w1 ⟨rfl, hT1⟩
  obtain ⟨p0, p1, p2, p3, p4, hz⟩ := hK.yard hT1
  go_wp2_with fail
  refine (HG.out _ hT1).mono ?_
  rintro e w2 ⟨rfl, hB2⟩
  clear p0 p1 p2 p3 p4 hz
  have hT2 := then_below hT1 hB2
  obtain ⟨p0, p1, p2, p3, p4, hz⟩ := hK.yard hT2
  cases gr
  · have HST : Hid ((slotsY ns ls).length ≤ 10000) := HSt.out rfl
    have HEn2 : Hid (∀ w1, Below W.heap.size W w1 → Calls Try.prog 8 #[Y5 a b c (.slice an ns.length cn) (.slice al ls.length cl), I ow] w1 fun e W' => ∃ r, e = .returned (.tuple #[r, I (errY a b c ns ls)]) ∧ Lst W' w1.heap.size r (endV a b c ns ls ow) ∧ Below w1.heap.size w1 W') := HEn.out HST.out
    have HTm2 : Hid (∀ w1, Below W.heap.size W w1 → Calls Try.prog 10 #[Y5 a b c (.slice an ns.length cn) (.slice al ls.length cl), I x] w1 fun e W' => ∃ r, e = .returned (.tuple #[r, I (timeE a b c ns ls x)]) ∧ Lst W' w1.heap.size r (timeV a b c ns ls x) ∧ Below w1.heap.size w1 W') := HTm.out HST.out
    clear HEn HTm HSt
    by_cases hm : mayY a b c ns ls
    · have e0 := errY_ok hm
      rw [lastV, e0, if_pos rfl] at HLa
      rw [endV, e0, if_pos rfl] at HEn2
      have HLa2 : Hid (∀ w1, Below W.heap.size W w1 → Calls Try.prog 9 #[Y5 a b c (.slice an ns.length cn) (.slice al ls.length cl)] w1 fun e W' => e = .returned (.tuple #[I (lastT (slotsY ns ls)), I 0]) ∧ Below w1.heap.size w1 W') := HLa
      have HEn3 : Hid (∀ w1, Below W.heap.size W w1 → Calls Try.prog 8 #[Y5 a b c (.slice an ns.length cn) (.slice al ls.length cl), I ow] w1 fun e W' => ∃ r, e = .returned (.tuple #[r, I 0]) ∧ Lst W' w1.heap.size r (endsT ow (slotsY ns ls)) ∧ Below w1.heap.size w1 W') := HEn2
      have hbd := hm.bd
      have hmn := hm.2.2.2.1
      have hml := hm.2.2.2.2
      have hmul : wrap64 (3 * (ns.length : Int)) = (ls.length : Int) := by rw [wrap_in _ (by omega)]; omega
      have HVl : Hid ((endsT ow (slotsY ns ls)).length ≤ 10000) := by have h1 := ends_len ow (slotsY ns ls); have h2 := HST.out; show _ ≤ _; omega
      have HVb : Hid (∀ k, k < (endsT ow (slotsY ns ls)).length → 1 ≤ (endsT ow (slotsY ns ls)).getD k 0 ∧ (endsT ow (slotsY ns ls)).getD k 0 ≤ lastT (slotsY ns ls)) := fun k hk => endsT_in hmn hml (ends_mem hk)
      have HVu : Hid (∀ k, 0 < k → k < (endsT ow (slotsY ns ls)).length → (endsT ow (slotsY ns ls)).getD (k - 1) 0 < (endsT ow (slotsY ns ls)).getD k 0) := fun k h0 hk => ends_rise h0 hk
      have HVt : Hid (∀ k, k < (endsT ow (slotsY ns ls)).length → x < (endsT ow (slotsY ns ls)).getD k 0 → (endsT ow (slotsY ns ls)).getD k 0 < 1099511627776 → (endsT ow (slotsY ns ls)).getD k 0 ∈ timesT x (slotsY ns ls)) := fun k hk h1 h2 => ends_times (ends_mem hk) h1 h2
      have HLl : Hid ((timesT x (slotsY ns ls)).length ≤ 10001) := by have h1 := times_len x (slotsY ns ls); have h2 := HST.out; show _ ≤ _; omega
      have HLp : Hid (0 < (timesT x (slotsY ns ls)).length) := times_pos _ _
      have HLh : Hid ((timesT x (slotsY ns ls)).getD 0 0 = x) := times_head _ _
      have HLe : Hid (x < lastT (slotsY ns ls) → lastT (slotsY ns ls) < 1099511627776 → 0 ≤ x → (timesT x (slotsY ns ls)).getD ((timesT x (slotsY ns ls)).length - 1) 0 = lastT (slotsY ns ls)) := fun h1 h2 h3 => times_end h1 h2 h3
      have HTE : Hid (timeE a b c ns ls x = 0 → 0 ≤ x ∧ timeV a b c ns ls x = timesT x (slotsY ns ls)) := fun h => ⟨(timeE_zero h).2.1, by rw [timeV, if_pos h]⟩
      have hm0 : 0 ≤ lastT (slotsY ns ls) := lastT_pos _
      have hm1 := last_le hmn hml
      have HC1 : Hid (0 < lastT (slotsY ns ls) → countY ns (lastT (slotsY ns ls) - 1) (lastT (slotsY ns ls)) + countY ls (lastT (slotsY ns ls) - 1) (lastT (slotsY ns ls)) ≠ 0) := fun h => count_ahead hmn hml h
      have HC2 : Hid (lastT (slotsY ns ls) < 1099511627776 → countY ns (lastT (slotsY ns ls)) 1099511627776 = 0 ∧ countY ls (lastT (slotsY ns ls)) 1099511627776 = 0) := fun h => count_from hmn hml h
      have HB1 : Hid (0 < lastT (slotsY ns ls) → ∀ w1, Below W.heap.size W w1 → Calls Try.prog 21 #[Y5 a b c (.slice an ns.length cn) (.slice al ls.length cl), S2 (lastT (slotsY ns ls) - 1) (lastT (slotsY ns ls))] w1 fun e W' => ∃ x y, e = .returned (.tuple #[x, y, I 0]) ∧ Wds W' x (setOf ns.length (busyP ns (lastT (slotsY ns ls) - 1) (lastT (slotsY ns ls)))) ∧ Wds W' y (setOf ls.length (busyP ls (lastT (slotsY ns ls) - 1) (lastT (slotsY ns ls)))) ∧ Below w1.heap.size w1 W') := fun h => HBu.out hm _ _ (by omega) (by omega) hm1
      have HB2 : Hid (lastT (slotsY ns ls) < 1099511627776 → ∀ w1, Below W.heap.size W w1 → Calls Try.prog 21 #[Y5 a b c (.slice an ns.length cn) (.slice al ls.length cl), S2 (lastT (slotsY ns ls)) 1099511627776] w1 fun e W' => ∃ x y, e = .returned (.tuple #[x, y, I 0]) ∧ Wds W' x (setOf ns.length (busyP ns (lastT (slotsY ns ls)) 1099511627776)) ∧ Wds W' y (setOf ls.length (busyP ls (lastT (slotsY ns ls)) 1099511627776)) ∧ Below w1.heap.size w1 W') := fun h => HBu.out hm _ _ hm0 h (Int.le_refl _)
      have HM1 : Hid (∀ w v, Wds w v (setOf ns.length (busyP ns (lastT (slotsY ns ls) - 1) (lastT (slotsY ns ls)))) → Calls Try.prog 22 #[I ns.length, v] w fun e W' => e = .returned (.tuple #[I (countY ns (lastT (slotsY ns ls) - 1) (lastT (slotsY ns ls))), I 0]) ∧ Below w.heap.size w W') := fun w v h => countL_calls w (by omega) (by omega) h
      have HM2 : Hid (∀ w v, Wds w v (setOf ls.length (busyP ls (lastT (slotsY ns ls) - 1) (lastT (slotsY ns ls)))) → Calls Try.prog 22 #[I ls.length, v] w fun e W' => e = .returned (.tuple #[I (countY ls (lastT (slotsY ns ls) - 1) (lastT (slotsY ns ls))), I 0]) ∧ Below w.heap.size w W') := fun w v h => countL_calls w (by omega) (by omega) h
      have HM3 : Hid (∀ w v, Wds w v (setOf ns.length (busyP ns (lastT (slotsY ns ls)) 1099511627776)) → Calls Try.prog 22 #[I ns.length, v] w fun e W' => e = .returned (.tuple #[I (countY ns (lastT (slotsY ns ls)) 1099511627776), I 0]) ∧ Below w.heap.size w W') := fun w v h => countL_calls w (by omega) (by omega) h
      have HM4 : Hid (∀ w v, Wds w v (setOf ls.length (busyP ls (lastT (slotsY ns ls)) 1099511627776)) → Calls Try.prog 22 #[I ls.length, v] w fun e W' => e = .returned (.tuple #[I (countY ls (lastT (slotsY ns ls)) 1099511627776), I 0]) ∧ Below w.heap.size w W') := fun w v h => countL_calls w (by omega) (by omega) h
      have k1 := countY_le (cs := ns) (by omega) (lastT (slotsY ns ls) - 1) (lastT (slotsY ns ls))
      have k2 := countY_le (cs := ls) (by omega) (lastT (slotsY ns ls) - 1) (lastT (slotsY ns ls))
      clear HLa HEn2 HBu e0 hm hbd hmn hml HST HG HA
      generalize countY ns (lastT (slotsY ns ls) - 1) (lastT (slotsY ns ls)) = c1 at *
      generalize countY ls (lastT (slotsY ns ls) - 1) (lastT (slotsY ns ls)) = c2 at *
      generalize countY ns (lastT (slotsY ns ls)) 1099511627776 = c3 at *
      generalize countY ls (lastT (slotsY ns ls)) 1099511627776 = c4 at *
      generalize setOf (ns.length : Int) (busyP ns (lastT (slotsY ns ls) - 1) (lastT (slotsY ns ls))) = S1 at *
      generalize setOf (ls.length : Int) (busyP ls (lastT (slotsY ns ls) - 1) (lastT (slotsY ns ls))) = S2' at *
      generalize setOf (ns.length : Int) (busyP ns (lastT (slotsY ns ls)) 1099511627776) = S3 at *
      generalize setOf (ls.length : Int) (busyP ls (lastT (slotsY ns ls)) 1099511627776) = S4 at *
      generalize endsT ow (slotsY ns ls) = V at *
      generalize timesT x (slotsY ns ls) = L at *
      generalize timeV a b c ns ls x = L0 at *
      generalize timeE a b c ns ls x = er at *
      generalize lastT (slotsY ns ls) = m at *
      generalize ns.length = nn at *
      generalize ls.length = ll at *
      have HK1 : Hid (c1 ≤ 20000 ∧ c2 ≤ 20000) := ⟨k1, k2⟩
      have HMb : Hid (0 ≤ m ∧ m ≤ 1099511627776) := ⟨hm0, hm1⟩
      clear k1 k2 hm0 hm1
      go_wp2_with fail
      refine (HLa2.out _ hT2).mono ?_
      rintro e w3 ⟨rfl, hB3⟩
      clear p0 p1 p2 p3 p4 hz
      have hT3 := then_below hT2 hB3
      obtain ⟨p0, p1, p2, p3, p4, hz⟩ := hK.yard hT3
      go_wp2_with fail
      refine (HEn3.out _ hT3).mono ?_
      rintro e w4 ⟨r, rfl, hr, hB4⟩
      clear p0 p1 p2 p3 p4 hz HLa2 HEn3
      have hT4 := then_below hT3 hB4
      obtain ⟨ao, cap, rfl, hA⟩ := hr.view
      have HAv : Hid (∀ k : Nat, k < V.length → ∃ g cur, ao = some ⟨g, 0, none⟩ ∧ Blk w4 g 3 cur ∧ cur[k]? = some (I (V.getD k 0))) := hA
      clear hA hr
      go_wp2
      go_loopw [12] (fun i wr => ∃ k : Nat, k ≤ V.length ∧ i = .int .i64 k ∧ Below w4.heap.size w4 wr) (fun i _ => V.length - (RowKit.intOf i).toNat)
      case atStart => exact ⟨0, by omega, rfl, Below.refl _ _⟩
      case round =>
        obtain ⟨k, hk, rfl, hT5⟩ := hrel
        have hVl := HVl.out
        by_cases hlt : (k : Int) < (V.length : Int)
        · have hkx : k < V.length := by omega
          obtain ⟨g, cur, rfl, hg, hc⟩ := HAv.out k hkx
          have hg5 := hg.later hT5
          have y0 := Ext.cell hg5 k
          rw [hc] at y0
          obtain ⟨b1, b2⟩ := HVb.out k hkx
          have hu := HVu.out k
          by_cases hk0 : k = 0
          · subst hk0
            clear hg hc hg5 hu
            generalize V.getD 0 0 = y at *
            have d1 : decide (m < y) = false := decide_eq_false (by omega)
            have d2 : decide (y < 1) = false := decide_eq_false (by omega)
            clear b1 b2
            go_wp2
            refine wp_region_look hmx (by kernel_rfl) ?_
            repeat (go_big_quiet_step (fail))
            refine wpQuiet_nil ?_
            intro v
            go_wp2
            go_roundw
            case rel => exact ⟨0 + 1, by omega, by go_num, then_below hT5 v.le⟩
            case measure => simp [RowKit.intOf]; omega
          · have hjn : 0 < k := by omega
            have hjd : decide (0 < (k : Int)) = true := decide_eq_true (by omega)
            have hjd' : decide (0 < k) = true := decide_eq_true hjn
            have hzy := hu hjn hkx
            obtain ⟨t, ht, et⟩ : ∃ t : Nat, (k : Int) - 1 = (t : Int) ∧ k - 1 = t := ⟨k - 1, by omega, rfl⟩
            rw [et] at hzy
            have htl : t < V.length := by omega
            have htl' : (t : Int) < (V.length : Int) := by omega
            obtain ⟨g', cur', eg, hg', hc'⟩ := HAv.out t htl
            simp only [Option.some.injEq, Addr.mk.injEq, and_true] at eg
            subst eg
            have z0 := Ext.cell (hg'.later hT5) t
            rw [hc'] at z0
            clear hg hc hg5 hu hg' hc' et hk0
            generalize V.getD t 0 = z at *
            generalize V.getD k 0 = y at *
            have d1 : decide (m < y) = false := decide_eq_false (by omega)
            have d2 : decide (y < 1) = false := decide_eq_false (by omega)
            have hzd : decide (y ≤ z) = false := decide_eq_false (by omega)
            clear b1 b2 hzy
            go_wp2
            refine wp_region_look hmx (by kernel_rfl) ?_
            repeat (go_big_quiet_step (fail))
            refine wpQuiet_nil ?_
            intro v
            go_wp2
            go_roundw
            case rel => exact ⟨k + 1, by omega, by go_num, then_below hT5 v.le⟩
            case measure => simp [RowKit.intOf]; omega
        · clear HVb HVu
          have hT5' := then_below hT4 hT5
          obtain ⟨p0, p1, p2, p3, p4, hz⟩ := hK.yard hT5'
          by_cases hm0 : 0 < m
          · have d0 : decide (0 < m) = true := decide_eq_true hm0
            have hwm : wrap64 (m - 1) = m - 1 := prev_in HMb.out
            have hc12 := HC1.out hm0
            have hk1 := HK1.out
            have hws : wrap64 ((c1 : Int) + (c2 : Int)) = (c1 : Int) + (c2 : Int) := sum_in hk1
            have hne0 : (((c1 : Int) + (c2 : Int)) == 0) = false := sum_ne hc12
            have HBm := HB1.out hm0
            have HBm1 : Hid (∀ w1, Below W.heap.size W w1 → Calls Try.prog 21 #[Y5 a b c (.slice an nn cn) (.slice al ll cl), S2 (m - 1) m] w1 fun e W' => ∃ x y, e = .returned (.tuple #[x, y, I 0]) ∧ Wds W' x S1 ∧ Wds W' y S2' ∧ Below w1.heap.size w1 W') := HBm
            clear HBm HB1 HC1 hc12 hk1
            go_wp2_with fail
            refine (HBm1.out _ hT5').mono ?_
            rintro e v6 ⟨x1, y1, rfl, hx1, hy1, hB6⟩
            clear p0 p1 p2 p3 p4 hz
            have hS6 := then_below hT5' hB6
            obtain ⟨p0, p1, p2, p3, p4, hz⟩ := hK.yard hS6
            go_wp2_with fail
            refine (HM1.out _ _ hx1).mono ?_
            rintro e v7 ⟨rfl, hB7⟩
            clear p0 p1 p2 p3 p4 hz
            have hS7 := then_below hS6 hB7
            obtain ⟨p0, p1, p2, p3, p4, hz⟩ := hK.yard hS7
            have HY1 : Hid (Wds v7 y1 S2') := hy1.later hB7
            clear hx1 hy1
            go_wp2_with fail
            refine (HM2.out _ _ HY1.out).mono ?_
            rintro e v8 ⟨rfl, hB8⟩
            clear p0 p1 p2 p3 p4 hz
            have hS8 := then_below hS7 hB8
            obtain ⟨p0, p1, p2, p3, p4, hz⟩ := hK.yard hS8
            clear HBm1 HM1 HM2 HY1
            by_cases hmM : m < 1099511627776
            · have dM : decide (m < 1099511627776) = true := decide_eq_true hmM
              obtain ⟨z3, z4⟩ := HC2.out hmM
              subst z3 z4
              have HBm := HB2.out hmM
              have HBm2 : Hid (∀ w1, Below W.heap.size W w1 → Calls Try.prog 21 #[Y5 a b c (.slice an nn cn) (.slice al ll cl), S2 m 1099511627776] w1 fun e W' => ∃ x y, e = .returned (.tuple #[x, y, I 0]) ∧ Wds W' x S3 ∧ Wds W' y S4 ∧ Below w1.heap.size w1 W') := HBm
              clear HBm HB2 HC2
              go_wp2_with fail
              refine (HBm2.out _ hS8).mono ?_
              rintro e v9 ⟨x3, y3, rfl, hx3, hy3, hB9⟩
              clear p0 p1 p2 p3 p4 hz
              have hS9 := then_below hS8 hB9
              obtain ⟨p0, p1, p2, p3, p4, hz⟩ := hK.yard hS9
              go_wp2_with fail
              refine (HM3.out _ _ hx3).mono ?_
              rintro e v10 ⟨rfl, hB10⟩
              clear p0 p1 p2 p3 p4 hz
              have hS10 := then_below hS9 hB10
              obtain ⟨p0, p1, p2, p3, p4, hz⟩ := hK.yard hS10
              have HY3 : Hid (Wds v10 y3 S4) := hy3.later hB10
              clear hx3 hy3
              go_wp2_with fail
              refine (HM4.out _ _ HY3.out).mono ?_
              rintro e v11 ⟨rfl, hB11⟩
              clear p0 p1 p2 p3 p4 hz
              have hS11 := then_below hS10 hB11
              obtain ⟨p0, p1, p2, p3, p4, hz⟩ := hK.yard hS11
              clear HBm2 HM3 HM4 HY3
              go_wp2_with fail
              refine (HTm2.out _ hS11).mono ?_
              rintro e v12 ⟨rT, rfl, hrT, hB12⟩
              clear p0 p1 p2 p3 p4 hz
              have hS12 := then_below hS11 hB12
              obtain ⟨p0, p1, p2, p3, p4, hz⟩ := hK.yard hS12
              by_cases her : er = 0
              · subst her
                obtain ⟨hx0, hv⟩ := HTE.out (by trivial)
                rw [hv] at hrT
                have HR : Hid (Lst v12 _ rT L) := hrT
                clear HTE hv hrT HTm2 p0 p1 p2 p3 p4 hz
                obtain ⟨ao2, cap2, rfl, hA2⟩ := HR.out.view
                have HLv : Hid (∀ k : Nat, k < L.length → ∃ g cur, ao2 = some ⟨g, 0, none⟩ ∧ Blk v12 g 3 cur ∧ cur[k]? = some (I (L.getD k 0))) := hA2
                clear hA2
                have hX : Below w4.heap.size w4 v12 := then_below (then_below (then_below (then_below (then_below (then_below (then_below hT5 hB6) hB7) hB8) hB9) hB10) hB11) hB12
                go_wp2
                go_loopw [29] (fun i wr9 => ∃ k : Nat, k ≤ V.length ∧ i = .int .i64 k ∧ Below v12.heap.size v12 wr9) (fun i _ => V.length - (RowKit.intOf i).toNat)
                case atStart => exact ⟨0, by omega, rfl, Below.refl _ _⟩
                case round =>
                  rename World => wq
                  obtain ⟨j, hj, rfl, hT9⟩ := hrel
                  have hY9 := then_below hS12 hT9
                  have hX9 := then_below hX hT9
                  by_cases hltj : (j : Int) < (V.length : Int)
                  · have hjx : j < V.length := by omega
                    obtain ⟨g9, cur9, rfl, hg9, hc9⟩ := HAv.out j hjx
                    have y9 := (hg9.later hX9).cell j
                    rw [hc9] at y9
                    have hz9 := (hg9.later hX9).lt
                    have hin := HVt.out j hjx
                    clear hg9 hc9
                    generalize V.getD j 0 = y at *
                    by_cases hxy : x < y
                    · by_cases hym : y < 1099511627776
                      · have d1 : decide (x < y) = true := decide_eq_true hxy
                        have d2 : decide (y < 1099511627776) = true := decide_eq_true hym
                        have KH : Hid (Calls Try.prog 23 #[.slice ao2 L.length cap2, I y] wq fun e W' => e = .returned (.bool true) ∧ Below wq.heap.size wq W') := by
                          have := has10_calls (n := y) wq (HR.out.later hT9) (Nat.le_trans HLl.out (by decide))
                          rwa [decide_eq_true (hin hxy hym)] at this
                        clear hin hxy hym
                        go_wp2_with fail
                        refine KH.out.mono ?_
                        rintro e wz ⟨rfl, hBz⟩
                        go_wp2
                        go_roundw
                        case rel => exact ⟨j + 1, by omega, by go_num, then_below hT9 hBz⟩
                        case measure => simp [RowKit.intOf]; omega
                      · have d1 : decide (x < y) = true := decide_eq_true hxy
                        have d2 : decide (y < 1099511627776) = false := decide_eq_false hym
                        clear hin hxy hym
                        go_wp2
                        go_roundw
                        case rel => exact ⟨j + 1, by omega, by go_num, hT9⟩
                        case measure => simp [RowKit.intOf]; omega
                    · have d1 : decide (x < y) = false := decide_eq_false hxy
                      clear hin hxy
                      go_wp2
                      go_roundw
                      case rel => exact ⟨j + 1, by omega, by go_num, hT9⟩
                      case measure => simp [RowKit.intOf]; omega
                  · have hLp := HLp.out
                    obtain ⟨g8, cur8, rfl, hg8, hc8⟩ := HLv.out 0 hLp
                    have l0 := (hg8.later hT9).cell 0
                    rw [hc8, HLh.out] at l0
                    have hLd : decide (0 < (L.length : Int)) = true := decide_eq_true (by omega)
                    have hLd2 : decide (0 < L.length) = true := decide_eq_true hLp
                    have hLl := HLl.out
                    by_cases hmx1 : m ≤ x
                    · have d1 : decide (m ≤ x) = true := decide_eq_true hmx1
                      clear hg8 hc8
                      go_wp2
                      go_ret
                      exact ⟨rfl, then_below hB hY9⟩
                    · have d1 : decide (m ≤ x) = false := decide_eq_false hmx1
                      by_cases hmM : m = 1099511627776
                      · have d2 : (m == 1099511627776) = true := by simp [hmM]
                        clear hg8 hc8 hmM hmx1
                        go_wp2
                        go_ret
                        exact ⟨rfl, then_below hB hY9⟩
                      · have d2 : (m == 1099511627776) = false := by simp [hmM]
                        have hmb9 := HMb.out
                        have hle := HLe.out (by omega) (by omega) hx0
                        obtain ⟨t, ht, et⟩ : ∃ t : Nat, (L.length : Int) - 1 = (t : Int) ∧ L.length - 1 = t := ⟨L.length - 1, by omega, rfl⟩
                        rw [et] at hle
                        have htl : t < L.length := by omega
                        have htl9 : (t : Int) < (L.length : Int) := by omega
                        obtain ⟨g7, cur7, eg7, hg7, hc7⟩ := HLv.out t htl
                        simp only [Option.some.injEq, Addr.mk.injEq, and_true] at eg7
                        subst eg7
                        have l1 := (hg7.later hT9).cell t
                        rw [hc7, hle] at l1
                        clear hg8 hc8 hg7 hc7 hmM hmx1 hle et hmb9
                        go_wp2
                        go_ret
                        exact ⟨rfl, then_below hB hY9⟩
              · have hne : (er != 0) = true := by simp [her]
                clear HTE hrT HTm2 her
                go_wp2
                go_ret
                exact ⟨rfl, then_below hB hS12⟩
            · have dM : decide (m < 1099511627776) = false := decide_eq_false hmM
              clear HB2 HC2 HM3 HM4
              go_wp2_with fail
              refine (HTm2.out _ hS8).mono ?_
              rintro e v9 ⟨rT, rfl, hrT, hB9⟩
              clear p0 p1 p2 p3 p4 hz
              have hS9 := then_below hS8 hB9
              obtain ⟨p0, p1, p2, p3, p4, hz⟩ := hK.yard hS9
              by_cases her : er = 0
              · subst her
                obtain ⟨hx0, hv⟩ := HTE.out (by trivial)
                rw [hv] at hrT
                have HR : Hid (Lst v9 _ rT L) := hrT
                clear HTE hv hrT HTm2 p0 p1 p2 p3 p4 hz
                obtain ⟨ao2, cap2, rfl, hA2⟩ := HR.out.view
                have HLv : Hid (∀ k : Nat, k < L.length → ∃ g cur, ao2 = some ⟨g, 0, none⟩ ∧ Blk v9 g 3 cur ∧ cur[k]? = some (I (L.getD k 0))) := hA2
                clear hA2
                have hX : Below w4.heap.size w4 v9 := then_below (then_below (then_below (then_below hT5 hB6) hB7) hB8) hB9
                go_wp2
                go_loopw [29] (fun i wr9 => ∃ k : Nat, k ≤ V.length ∧ i = .int .i64 k ∧ Below v9.heap.size v9 wr9) (fun i _ => V.length - (RowKit.intOf i).toNat)
                case atStart => exact ⟨0, by omega, rfl, Below.refl _ _⟩
                case round =>
                  rename World => wq
                  obtain ⟨j, hj, rfl, hT9⟩ := hrel
                  have hY9 := then_below hS9 hT9
                  have hX9 := then_below hX hT9
                  by_cases hltj : (j : Int) < (V.length : Int)
                  · have hjx : j < V.length := by omega
                    obtain ⟨g9, cur9, rfl, hg9, hc9⟩ := HAv.out j hjx
                    have y9 := (hg9.later hX9).cell j
                    rw [hc9] at y9
                    have hz9 := (hg9.later hX9).lt
                    have hin := HVt.out j hjx
                    clear hg9 hc9
                    generalize V.getD j 0 = y at *
                    by_cases hxy : x < y
                    · by_cases hym : y < 1099511627776
                      · have d1 : decide (x < y) = true := decide_eq_true hxy
                        have d2 : decide (y < 1099511627776) = true := decide_eq_true hym
                        have KH : Hid (Calls Try.prog 23 #[.slice ao2 L.length cap2, I y] wq fun e W' => e = .returned (.bool true) ∧ Below wq.heap.size wq W') := by
                          have := has10_calls (n := y) wq (HR.out.later hT9) (Nat.le_trans HLl.out (by decide))
                          rwa [decide_eq_true (hin hxy hym)] at this
                        clear hin hxy hym
                        go_wp2_with fail
                        refine KH.out.mono ?_
                        rintro e wz ⟨rfl, hBz⟩
                        go_wp2
                        go_roundw
                        case rel => exact ⟨j + 1, by omega, by go_num, then_below hT9 hBz⟩
                        case measure => simp [RowKit.intOf]; omega
                      · have d1 : decide (x < y) = true := decide_eq_true hxy
                        have d2 : decide (y < 1099511627776) = false := decide_eq_false hym
                        clear hin hxy hym
                        go_wp2
                        go_roundw
                        case rel => exact ⟨j + 1, by omega, by go_num, hT9⟩
                        case measure => simp [RowKit.intOf]; omega
                    · have d1 : decide (x < y) = false := decide_eq_false hxy
                      clear hin hxy
                      go_wp2
                      go_roundw
                      case rel => exact ⟨j + 1, by omega, by go_num, hT9⟩
                      case measure => simp [RowKit.intOf]; omega
                  · have hLp := HLp.out
                    obtain ⟨g8, cur8, rfl, hg8, hc8⟩ := HLv.out 0 hLp
                    have l0 := (hg8.later hT9).cell 0
                    rw [hc8, HLh.out] at l0
                    have hLd : decide (0 < (L.length : Int)) = true := decide_eq_true (by omega)
                    have hLd2 : decide (0 < L.length) = true := decide_eq_true hLp
                    have hLl := HLl.out
                    by_cases hmx1 : m ≤ x
                    · have d1 : decide (m ≤ x) = true := decide_eq_true hmx1
                      clear hg8 hc8
                      go_wp2
                      go_ret
                      exact ⟨rfl, then_below hB hY9⟩
                    · have d1 : decide (m ≤ x) = false := decide_eq_false hmx1
                      by_cases hmM : m = 1099511627776
                      · have d2 : (m == 1099511627776) = true := by simp [hmM]
                        clear hg8 hc8 hmM hmx1
                        go_wp2
                        go_ret
                        exact ⟨rfl, then_below hB hY9⟩
                      · have d2 : (m == 1099511627776) = false := by simp [hmM]
                        have hmb9 := HMb.out
                        have hle := HLe.out (by omega) (by omega) hx0
                        obtain ⟨t, ht, et⟩ : ∃ t : Nat, (L.length : Int) - 1 = (t : Int) ∧ L.length - 1 = t := ⟨L.length - 1, by omega, rfl⟩
                        rw [et] at hle
                        have htl : t < L.length := by omega
                        have htl9 : (t : Int) < (L.length : Int) := by omega
                        obtain ⟨g7, cur7, eg7, hg7, hc7⟩ := HLv.out t htl
                        simp only [Option.some.injEq, Addr.mk.injEq, and_true] at eg7
                        subst eg7
                        have l1 := (hg7.later hT9).cell t
                        rw [hc7, hle] at l1
                        clear hg8 hc8 hg7 hc7 hmM hmx1 hle et hmb9
                        go_wp2
                        go_ret
                        exact ⟨rfl, then_below hB hY9⟩
              · have hne : (er != 0) = true := by simp [her]
                clear HTE hrT HTm2 her
                go_wp2
                go_ret
                exact ⟨rfl, then_below hB hS9⟩
          · have d0 : decide (0 < m) = false := decide_eq_false hm0
            clear HB1 HC1 HM1 HM2
            by_cases hmM : m < 1099511627776
            · have dM : decide (m < 1099511627776) = true := decide_eq_true hmM
              obtain ⟨z3, z4⟩ := HC2.out hmM
              subst z3 z4
              have HBm := HB2.out hmM
              have HBm2 : Hid (∀ w1, Below W.heap.size W w1 → Calls Try.prog 21 #[Y5 a b c (.slice an nn cn) (.slice al ll cl), S2 m 1099511627776] w1 fun e W' => ∃ x y, e = .returned (.tuple #[x, y, I 0]) ∧ Wds W' x S3 ∧ Wds W' y S4 ∧ Below w1.heap.size w1 W') := HBm
              clear HBm HB2 HC2
              go_wp2_with fail
              refine (HBm2.out _ hT5').mono ?_
              rintro e v6 ⟨x3, y3, rfl, hx3, hy3, hB6⟩
              clear p0 p1 p2 p3 p4 hz
              have hS6 := then_below hT5' hB6
              obtain ⟨p0, p1, p2, p3, p4, hz⟩ := hK.yard hS6
              go_wp2_with fail
              refine (HM3.out _ _ hx3).mono ?_
              rintro e v7 ⟨rfl, hB7⟩
              clear p0 p1 p2 p3 p4 hz
              have hS7 := then_below hS6 hB7
              obtain ⟨p0, p1, p2, p3, p4, hz⟩ := hK.yard hS7
              have HY3 : Hid (Wds v7 y3 S4) := hy3.later hB7
              clear hx3 hy3
              go_wp2_with fail
              refine (HM4.out _ _ HY3.out).mono ?_
              rintro e v8 ⟨rfl, hB8⟩
              clear p0 p1 p2 p3 p4 hz
              have hS8 := then_below hS7 hB8
              obtain ⟨p0, p1, p2, p3, p4, hz⟩ := hK.yard hS8
              clear HBm2 HM3 HM4 HY3
              go_wp2_with fail
              refine (HTm2.out _ hS8).mono ?_
              rintro e v9 ⟨rT, rfl, hrT, hB9⟩
              clear p0 p1 p2 p3 p4 hz
              have hS9 := then_below hS8 hB9
              obtain ⟨p0, p1, p2, p3, p4, hz⟩ := hK.yard hS9
              by_cases her : er = 0
              · subst her
                obtain ⟨hx0, hv⟩ := HTE.out (by trivial)
                rw [hv] at hrT
                have HR : Hid (Lst v9 _ rT L) := hrT
                clear HTE hv hrT HTm2 p0 p1 p2 p3 p4 hz
                obtain ⟨ao2, cap2, rfl, hA2⟩ := HR.out.view
                have HLv : Hid (∀ k : Nat, k < L.length → ∃ g cur, ao2 = some ⟨g, 0, none⟩ ∧ Blk v9 g 3 cur ∧ cur[k]? = some (I (L.getD k 0))) := hA2
                clear hA2
                have hX : Below w4.heap.size w4 v9 := then_below (then_below (then_below (then_below hT5 hB6) hB7) hB8) hB9
                go_wp2
                go_loopw [29] (fun i wr9 => ∃ k : Nat, k ≤ V.length ∧ i = .int .i64 k ∧ Below v9.heap.size v9 wr9) (fun i _ => V.length - (RowKit.intOf i).toNat)
                case atStart => exact ⟨0, by omega, rfl, Below.refl _ _⟩
                case round =>
                  rename World => wq
                  obtain ⟨j, hj, rfl, hT9⟩ := hrel
                  have hY9 := then_below hS9 hT9
                  have hX9 := then_below hX hT9
                  by_cases hltj : (j : Int) < (V.length : Int)
                  · have hjx : j < V.length := by omega
                    obtain ⟨g9, cur9, rfl, hg9, hc9⟩ := HAv.out j hjx
                    have y9 := (hg9.later hX9).cell j
                    rw [hc9] at y9
                    have hz9 := (hg9.later hX9).lt
                    have hin := HVt.out j hjx
                    clear hg9 hc9
                    generalize V.getD j 0 = y at *
                    by_cases hxy : x < y
                    · by_cases hym : y < 1099511627776
                      · have d1 : decide (x < y) = true := decide_eq_true hxy
                        have d2 : decide (y < 1099511627776) = true := decide_eq_true hym
                        have KH : Hid (Calls Try.prog 23 #[.slice ao2 L.length cap2, I y] wq fun e W' => e = .returned (.bool true) ∧ Below wq.heap.size wq W') := by
                          have := has10_calls (n := y) wq (HR.out.later hT9) (Nat.le_trans HLl.out (by decide))
                          rwa [decide_eq_true (hin hxy hym)] at this
                        clear hin hxy hym
                        go_wp2_with fail
                        refine KH.out.mono ?_
                        rintro e wz ⟨rfl, hBz⟩
                        go_wp2
                        go_roundw
                        case rel => exact ⟨j + 1, by omega, by go_num, then_below hT9 hBz⟩
                        case measure => simp [RowKit.intOf]; omega
                      · have d1 : decide (x < y) = true := decide_eq_true hxy
                        have d2 : decide (y < 1099511627776) = false := decide_eq_false hym
                        clear hin hxy hym
                        go_wp2
                        go_roundw
                        case rel => exact ⟨j + 1, by omega, by go_num, hT9⟩
                        case measure => simp [RowKit.intOf]; omega
                    · have d1 : decide (x < y) = false := decide_eq_false hxy
                      clear hin hxy
                      go_wp2
                      go_roundw
                      case rel => exact ⟨j + 1, by omega, by go_num, hT9⟩
                      case measure => simp [RowKit.intOf]; omega
                  · have hLp := HLp.out
                    obtain ⟨g8, cur8, rfl, hg8, hc8⟩ := HLv.out 0 hLp
                    have l0 := (hg8.later hT9).cell 0
                    rw [hc8, HLh.out] at l0
                    have hLd : decide (0 < (L.length : Int)) = true := decide_eq_true (by omega)
                    have hLd2 : decide (0 < L.length) = true := decide_eq_true hLp
                    have hLl := HLl.out
                    by_cases hmx1 : m ≤ x
                    · have d1 : decide (m ≤ x) = true := decide_eq_true hmx1
                      clear hg8 hc8
                      go_wp2
                      go_ret
                      exact ⟨rfl, then_below hB hY9⟩
                    · have d1 : decide (m ≤ x) = false := decide_eq_false hmx1
                      by_cases hmM : m = 1099511627776
                      · have d2 : (m == 1099511627776) = true := by simp [hmM]
                        clear hg8 hc8 hmM hmx1
                        go_wp2
                        go_ret
                        exact ⟨rfl, then_below hB hY9⟩
                      · have d2 : (m == 1099511627776) = false := by simp [hmM]
                        have hmb9 := HMb.out
                        have hle := HLe.out (by omega) (by omega) hx0
                        obtain ⟨t, ht, et⟩ : ∃ t : Nat, (L.length : Int) - 1 = (t : Int) ∧ L.length - 1 = t := ⟨L.length - 1, by omega, rfl⟩
                        rw [et] at hle
                        have htl : t < L.length := by omega
                        have htl9 : (t : Int) < (L.length : Int) := by omega
                        obtain ⟨g7, cur7, eg7, hg7, hc7⟩ := HLv.out t htl
                        simp only [Option.some.injEq, Addr.mk.injEq, and_true] at eg7
                        subst eg7
                        have l1 := (hg7.later hT9).cell t
                        rw [hc7, hle] at l1
                        clear hg8 hc8 hg7 hc7 hmM hmx1 hle et hmb9
                        go_wp2
                        go_ret
                        exact ⟨rfl, then_below hB hY9⟩
              · have hne : (er != 0) = true := by simp [her]
                clear HTE hrT HTm2 her
                go_wp2
                go_ret
                exact ⟨rfl, then_below hB hS9⟩
            · have dM : decide (m < 1099511627776) = false := decide_eq_false hmM
              clear HB2 HC2 HM3 HM4
              go_wp2_with fail
              refine (HTm2.out _ hT5').mono ?_
              rintro e v6 ⟨rT, rfl, hrT, hB6⟩
              clear p0 p1 p2 p3 p4 hz
              have hS6 := then_below hT5' hB6
              obtain ⟨p0, p1, p2, p3, p4, hz⟩ := hK.yard hS6
              by_cases her : er = 0
              · subst her
                obtain ⟨hx0, hv⟩ := HTE.out (by trivial)
                rw [hv] at hrT
                have HR : Hid (Lst v6 _ rT L) := hrT
                clear HTE hv hrT HTm2 p0 p1 p2 p3 p4 hz
                obtain ⟨ao2, cap2, rfl, hA2⟩ := HR.out.view
                have HLv : Hid (∀ k : Nat, k < L.length → ∃ g cur, ao2 = some ⟨g, 0, none⟩ ∧ Blk v6 g 3 cur ∧ cur[k]? = some (I (L.getD k 0))) := hA2
                clear hA2
                have hX : Below w4.heap.size w4 v6 := then_below hT5 hB6
                go_wp2
                go_loopw [29] (fun i wr9 => ∃ k : Nat, k ≤ V.length ∧ i = .int .i64 k ∧ Below v6.heap.size v6 wr9) (fun i _ => V.length - (RowKit.intOf i).toNat)
                case atStart => exact ⟨0, by omega, rfl, Below.refl _ _⟩
                case round =>
                  rename World => wq
                  obtain ⟨j, hj, rfl, hT9⟩ := hrel
                  have hY9 := then_below hS6 hT9
                  have hX9 := then_below hX hT9
                  by_cases hltj : (j : Int) < (V.length : Int)
                  · have hjx : j < V.length := by omega
                    obtain ⟨g9, cur9, rfl, hg9, hc9⟩ := HAv.out j hjx
                    have y9 := (hg9.later hX9).cell j
                    rw [hc9] at y9
                    have hz9 := (hg9.later hX9).lt
                    have hin := HVt.out j hjx
                    clear hg9 hc9
                    generalize V.getD j 0 = y at *
                    by_cases hxy : x < y
                    · by_cases hym : y < 1099511627776
                      · have d1 : decide (x < y) = true := decide_eq_true hxy
                        have d2 : decide (y < 1099511627776) = true := decide_eq_true hym
                        have KH : Hid (Calls Try.prog 23 #[.slice ao2 L.length cap2, I y] wq fun e W' => e = .returned (.bool true) ∧ Below wq.heap.size wq W') := by
                          have := has10_calls (n := y) wq (HR.out.later hT9) (Nat.le_trans HLl.out (by decide))
                          rwa [decide_eq_true (hin hxy hym)] at this
                        clear hin hxy hym
                        go_wp2_with fail
                        refine KH.out.mono ?_
                        rintro e wz ⟨rfl, hBz⟩
                        go_wp2
                        go_roundw
                        case rel => exact ⟨j + 1, by omega, by go_num, then_below hT9 hBz⟩
                        case measure => simp [RowKit.intOf]; omega
                      · have d1 : decide (x < y) = true := decide_eq_true hxy
                        have d2 : decide (y < 1099511627776) = false := decide_eq_false hym
                        clear hin hxy hym
                        go_wp2
                        go_roundw
                        case rel => exact ⟨j + 1, by omega, by go_num, hT9⟩
                        case measure => simp [RowKit.intOf]; omega
                    · have d1 : decide (x < y) = false := decide_eq_false hxy
                      clear hin hxy
                      go_wp2
                      go_roundw
                      case rel => exact ⟨j + 1, by omega, by go_num, hT9⟩
                      case measure => simp [RowKit.intOf]; omega
                  · have hLp := HLp.out
                    obtain ⟨g8, cur8, rfl, hg8, hc8⟩ := HLv.out 0 hLp
                    have l0 := (hg8.later hT9).cell 0
                    rw [hc8, HLh.out] at l0
                    have hLd : decide (0 < (L.length : Int)) = true := decide_eq_true (by omega)
                    have hLd2 : decide (0 < L.length) = true := decide_eq_true hLp
                    have hLl := HLl.out
                    by_cases hmx1 : m ≤ x
                    · have d1 : decide (m ≤ x) = true := decide_eq_true hmx1
                      clear hg8 hc8
                      go_wp2
                      go_ret
                      exact ⟨rfl, then_below hB hY9⟩
                    · have d1 : decide (m ≤ x) = false := decide_eq_false hmx1
                      by_cases hmM : m = 1099511627776
                      · have d2 : (m == 1099511627776) = true := by simp [hmM]
                        clear hg8 hc8 hmM hmx1
                        go_wp2
                        go_ret
                        exact ⟨rfl, then_below hB hY9⟩
                      · have d2 : (m == 1099511627776) = false := by simp [hmM]
                        have hmb9 := HMb.out
                        have hle := HLe.out (by omega) (by omega) hx0
                        obtain ⟨t, ht, et⟩ : ∃ t : Nat, (L.length : Int) - 1 = (t : Int) ∧ L.length - 1 = t := ⟨L.length - 1, by omega, rfl⟩
                        rw [et] at hle
                        have htl : t < L.length := by omega
                        have htl9 : (t : Int) < (L.length : Int) := by omega
                        obtain ⟨g7, cur7, eg7, hg7, hc7⟩ := HLv.out t htl
                        simp only [Option.some.injEq, Addr.mk.injEq, and_true] at eg7
                        subst eg7
                        have l1 := (hg7.later hT9).cell t
                        rw [hc7, hle] at l1
                        clear hg8 hc8 hg7 hc7 hmM hmx1 hle et hmb9
                        go_wp2
                        go_ret
                        exact ⟨rfl, then_below hB hY9⟩
              · have hne : (er != 0) = true := by simp [her]
                clear HTE hrT HTm2 her
                go_wp2
                go_ret
                exact ⟨rfl, then_below hB hS6⟩
    · have e0 := errY_no hm
      rw [lastV, e0, if_neg (by omega)] at HLa
      rw [endV, e0, if_neg (by omega)] at HEn2
      have HLa2 : Hid (∀ w1, Below W.heap.size W w1 → Calls Try.prog 9 #[Y5 a b c (.slice an ns.length cn) (.slice al ls.length cl)] w1 fun e W' => e = .returned (.tuple #[I 0, I 8]) ∧ Below w1.heap.size w1 W') := HLa
      have HEn3 : Hid (∀ w1, Below W.heap.size W w1 → Calls Try.prog 8 #[Y5 a b c (.slice an ns.length cn) (.slice al ls.length cl), I ow] w1 fun e W' => ∃ r, e = .returned (.tuple #[r, I 8]) ∧ Lst W' w1.heap.size r [] ∧ Below w1.heap.size w1 W') := HEn2
      clear HLa HEn2 HBu HTm2 e0 hm HST HG HA
      generalize ns.length = nn at *
      generalize ls.length = ll at *
      go_wp2_with fail
      refine (HLa2.out _ hT2).mono ?_
      rintro e w3 ⟨rfl, hB3⟩
      clear p0 p1 p2 p3 p4 hz
      have hT3 := then_below hT2 hB3
      obtain ⟨p0, p1, p2, p3, p4, hz⟩ := hK.yard hT3
      go_wp2_with fail
      refine (HEn3.out _ hT3).mono ?_
      rintro e w4 ⟨r, rfl, hr, hB4⟩
      go_wp2
      go_ret
      exact ⟨rfl, then_below hB (then_below hT3 hB4)⟩
  · clear HLa HEn HTm HBu HSt
    go_wp2
    go_ret
    exact ⟨rfl, then_below hB hT2⟩

end Go.Proofs.Ytkbdkhohecdbhaa
