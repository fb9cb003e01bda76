/-
  The statement SetBack, walked.
-/
import Derived.Test.YtckklobbbidonaaDoorBackFacts
import Derived.Test.YtckklobbbidonaaDoorSetAlive
import Derived.Test.YtckklobbbidonaaDoorSetArg
namespace Go.Proofs.YtckklobbbidonaaDoor
open Go Go.RowKit Go.Shelf

attribute [local go_sem] Oper.semAt_some ext_const

theorem numsLen (a : List Nat) : (numsW a).length ≤ 64 * a.length := listTo_len a _

set_option maxRecDepth 100000 in
set_option maxHeartbeats 16000000 in
theorem setBack_walk (n : Int) (w : World) (hTab : TabOk w) (_wn : (Lit.int .i64 n).wf = true) {vs : Value} {s : List Nat} (hs : ArgW w vs s) {vl : Value} {l : List Int} (hl : ArgI w vl l) (_wl : ∀ x ∈ l, (Lit.int .i64 x).wf = true) :
    Calls Tryd.prog 5 #[I n, vs, vl] w fun e W' => e = .returned (.bool true) ∧ Below w.heap.size w W' := by
  have hmx : Tryd.prog.follows .mixedOrders = true := by kernel_rfl
  have hsv : ∃ ao cap, vs = .slice ao s.length cap := by obtain ⟨ao, cap, e, _⟩ := hs.1.view; exact ⟨ao, cap, e⟩
  have hlv : ∃ ao cap, vl = .slice ao l.length cap := by obtain ⟨ao, cap, e, _⟩ := hl.1.view; exact ⟨ao, cap, e⟩
  obtain ⟨aS, cS, rfl⟩ := hsv
  obtain ⟨al, cl, rfl⟩ := hlv
  have hA := hs.1
  have hI := hl.1
  have AL := alive_calls w hTab
  clear hs hl _wn _wl
  by_cases hls : s.length ≤ 300
  · by_cases hll : l.length ≤ 1000
    · have O2 := fun (w' : World) (h : Below w.heap.size w w') => of_calls w' (hI.later h) (by omega) n
      have L1 := fun (w' : World) (h : Below w.heap.size w w') => list_calls w' (hTab.later h) (hA.later h) n
      have HQ : Hid (∀ ws, OfIs n l ws → ofErr n l = 0 → errAll n [ws] = 0 ∧ (numsW ws).length ≤ l.length ∧ (∀ i, i < l.length → hasR n ws (l.getD i 0) = true) ∧ (∀ i, i < (numsW ws).length → inL l ((numsW ws).getD i 0) = true)) := fun ws jt he =>
        ⟨back_may (ofErr_zero he) jt, back_few (ofErr_zero he) jt, fun i hi => back_has (ofErr_zero he) jt hi, fun i hi => back_in (ofErr_zero he) jt hi⟩
      have HZ : Hid (ofErr n l ≠ 0 → ∀ ws, OfIs n l ws → ws = []) := fun he ws jt => jt.no (ofErr_not he)
      generalize heo : ofErr n l = eo at *
      clear heo
      have HQ : Hid (∀ ws, OfIs n l ws → eo = 0 → errAll n [ws] = 0 ∧ (numsW ws).length ≤ l.length ∧ (∀ i, i < l.length → hasR n ws (l.getD i 0) = true) ∧ (∀ i, i < (numsW ws).length → inL l ((numsW ws).getD i 0) = true)) := HQ
      obtain ⟨er, her⟩ : ∃ er, er = errAll n [s] := ⟨_, rfl⟩
      by_cases h0 : er = 0
      · have he := her.symm.trans h0
        rw [he, listR, if_pos he] at L1
        have hnS : (numsW s).length ≤ 19200 := by have := numsLen s; omega
        have O1 := fun (w' : World) (u : Value) (h : Its w' u (ofN (numsW s))) => of_calls w' h (by rw [ofN_len]; omega) n
        rw [show ofErr n (ofN (numsW s)) = 0 by rw [ofErr, nums_ok he]; rfl] at O1
        have HBS : Hid (∀ ws, OfIs n (ofN (numsW s)) ws → ws = s) := fun ws jt => back_set hA.1 he jt
        have HRI : Hid (∀ j, j + 1 < (numsW s).length → (numsW s).getD j 0 < (numsW s).getD (j + 1) 0) := fun j hj => rise hj
        have SS := fun (w' : World) (h : Below w.heap.size w w') (u : Value) (hu : Wds w' u s) => same_calls w' (hA.later h) hu (by omega)
        rw [decide_eq_true rfl] at SS
        clear her h0 he hA
        generalize numsW s = ms at *
        go_enter Tryd.func5, Tryd.ntmps5
        go_wp2_with fail
        refine AL.mono ?_
        rintro e w1 ⟨rfl, hT⟩
        go_wp2_with fail
        refine (L1 _ hT).mono ?_
        rintro e w2 ⟨m, rfl, hm, hT2⟩
        have hT := then_below hT hT2
        clear hT2 AL L1
        have hmi := hm.its
        go_wp2_with fail
        refine (O1 _ _ hmi).mono ?_
        rintro e w3 ⟨t, ws, rfl, ht, jt, hT2⟩
        obtain rfl := HBS.out ws jt
        have hmi := hmi.later hT2
        have hT := then_below hT hT2
        clear hT2 O1 hm jt
        go_wp2_with fail
        refine (SS _ hT _ ht.wds).mono ?_
        rintro e w4 ⟨rfl, hT2⟩
        have hmi := hmi.later hT2
        have hT := then_below hT hT2
        clear hT2 SS ht
        obtain ⟨am, cm, rfl, hmv⟩ := hmi.view
        rw [ofN_len] at hmv ⊢
        have HMV : Hid (∀ k, k < ms.length → ∃ g off, am = some ⟨g, off, none⟩ ∧ g < w4.heap.size ∧ w4.cell? ⟨g, off + k, none⟩ = some (I ((ofN ms).getD k 0))) := hmv
        clear hmv hmi
        go_wp2
        go_loopw [12] (fun i wr => ∃ j : Nat, (j + 1 ≤ ms.length ∨ j = 0) ∧ i = .int .i64 ((j : Int) + 1) ∧ Below w4.heap.size w4 wr) (fun i _ => ms.length - (intOf i).toNat)
        case atStart => exact ⟨0, .inr rfl, rfl, Below.refl _ _⟩
        case round =>
          obtain ⟨j, hj, rfl, hB⟩ := hrel
          by_cases hlt : (j : Int) + 1 < (ms.length : Int)
          · obtain ⟨g, off, rfl, hg, hc0⟩ := HMV.out j (by omega)
            obtain ⟨g2, off2, e2, _, hc1⟩ := HMV.out (j + 1) (by omega)
            simp only [Option.some.injEq, Addr.mk.injEq, and_true] at e2
            obtain ⟨rfl, rfl⟩ := e2
            have hri := HRI.out j (by omega)
            rw [ofN_get] at hc0 hc1
            have e0 : ∀ x : Ext wr, x.wd.cell? ⟨g, off + j, none⟩ = some (I ((ms.getD j 0 : Nat) : Int)) := fun x => ((below_ext hB x).cell (p := ⟨g, off + j, none⟩) hg).trans hc0
            have e1 : ∀ x : Ext wr, x.wd.cell? ⟨g, off + (j + 1), none⟩ = some (I ((ms.getD (j + 1) 0 : Nat) : Int)) := fun x => ((below_ext hB x).cell (p := ⟨g, off + (j + 1), none⟩) hg).trans hc1
            generalize ms.getD j 0 = xa at *
            generalize ms.getD (j + 1) 0 = xb at *
            have hq : ¬ ((xb : Int) ≤ (xa : Int)) := by omega
            clear hc0 hc1 hri
            go_wp2
            refine wp_region_look hmx (by kernel_rfl) ?_
            repeat (go_big_quiet_step (fail))
            refine wpQuiet_nil ?_
            intro v
            have hB := then_below hB v.le
            clear e0 e1
            go_wp2
            go_roundw
            case rel => exact ⟨j + 1, .inl (by omega), by go_num, hB⟩
            case measure => simp [intOf]; omega
          · have hT := then_below hT hB
            clear hB hj HMV HRI HBS
            go_wp2_with fail
            refine (O2 _ hT).mono ?_
            rintro e w3 ⟨t, ws, rfl, ht, jt, hT2⟩
            have hT := then_below hT hT2
            clear hT2 O2
            by_cases hz : eo = 0
            · subst hz
              obtain ⟨q1, q2, q3, q4⟩ := HQ.out ws jt (by trivial)
              have hTabx := hTab.later hT
              have LC := list_calls w3 hTabx ht.wds n
              rw [q1, listR, if_pos q1] at LC
              have hnl : (numsW ws).length ≤ 19200 := by omega
              have hsn := has_calls (v := t) (ws := ws)
              go_wp2_with fail
              refine LC.mono ?_
              rintro e w4 ⟨o, rfl, ho, hT2⟩
              have ht := ht.later hT2
              have hT := then_below hT hT2
              clear LC hT2 hTab hTabx jt
              have hoi := ho.its
              have hIl := hI.later hT
              obtain ⟨ao, co, rfl, hov⟩ := hoi.view
              rw [ofN_len] at hov ⊢
              have HOV : Hid (∀ k, k < (numsW ws).length → ∃ g off, ao = some ⟨g, off, none⟩ ∧ g < w4.heap.size ∧ w4.cell? ⟨g, off + k, none⟩ = some (I ((ofN (numsW ws)).getD k 0))) := hov
              obtain ⟨al2, cl2, el2, hlv⟩ := hIl.view
              obtain ⟨e1, -, e2⟩ := Value.slice.inj el2
              subst e1
              subst e2
              have HLV : Hid (∀ k, k < l.length → ∃ g off, al = some ⟨g, off, none⟩ ∧ g < w4.heap.size ∧ w4.cell? ⟨g, off + k, none⟩ = some (I (l.getD k 0))) := hlv
              have HHS : Hid (∀ (w' : World) (h : Below w4.heap.size w4 w') (i : Nat), i < l.length → Calls Tryd.prog 15 #[I n, t, I (l.getD i 0)] w' fun e W' => e = .returned (.tuple #[.bool true, I 0]) ∧ Below w'.heap.size w' W') := fun w' h i hi => by
                have := has_calls w' (ht.wds.later h) n (l.getD i 0)
                rwa [q3 i hi, q1] at this
              have HQ4 : Hid (∀ i, i < (numsW ws).length → inL l ((numsW ws).getD i 0) = true) := q4
              clear hov hlv hoi ho hIl hI q1 q3 q4 HQ hsn el2
              generalize numsW ws = ns at *
              have hq2 : decide (l.length < ns.length) = false := decide_eq_false (by omega)
              go_wp2
              try simp only [hq2]
              go_loopw [17] (fun i wr => ∃ k : Nat, k ≤ l.length ∧ i = .int .i64 k ∧ Below w4.heap.size w4 wr) (fun i _ => l.length - (intOf i).toNat)
              case atStart => exact ⟨0, by omega, rfl, Below.refl _ _⟩
              case round =>
                obtain ⟨k, hk, rfl, hB⟩ := hrel
                by_cases hlt : (k : Int) < (l.length : Int)
                · obtain ⟨g, off, rfl, hg, hc⟩ := HLV.out k (by omega)
                  have hc1 := (hB.cell (p := ⟨g, off + k, none⟩) hg).trans hc
                  have HH := HHS.out wr hB k (by omega)
                  generalize l.getD k 0 = y at *
                  clear hc
                  go_wp2_with fail
                  refine HH.mono ?_
                  rintro e w5 ⟨rfl, hB2⟩
                  have hB := then_below hB hB2
                  clear hB2 HH
                  go_wp2
                  go_roundw
                  case rel => exact ⟨k + 1, by omega, by go_num, hB⟩
                  case measure => simp [intOf]; omega
                · skip
                  go_wp2
                  go_loopw [20] (fun i wr2 => ∃ k : Nat, k ≤ ns.length ∧ i = .int .i64 k ∧ Below w4.heap.size w4 wr2) (fun i _ => ns.length - (intOf i).toNat)
                  case atStart => exact ⟨0, by omega, rfl, hB⟩
                  case round =>
                    clear hB
                    obtain ⟨k2, hk2, rfl, hB⟩ := hrel
                    by_cases hlt : (k2 : Int) < (ns.length : Int)
                    · have hk3 : k2 < ns.length := by omega
                      obtain ⟨go, oo, rfl, hgo, hco⟩ := HOV.out k2 hk3
                      rw [ofN_get] at hco
                      have hin := HQ4.out k2 hk3
                      generalize ns.getD k2 0 = y at *
                      have HIN : Hid (inL l y = true) := hin
                      clear hin
                      go_wp2
                      go_loopw [21, 22] (fun th i wr3 => ∃ j : Nat, j ≤ l.length ∧ i = .int .i64 j ∧ th = .bool (inL (l.take j) y) ∧ Below w4.heap.size w4 wr3) (fun th i _ => l.length - (intOf i).toNat)
                      case atStart => exact ⟨0, by omega, rfl, rfl, hB⟩
                      case round =>
                        clear hB
                        obtain ⟨j, hj, rfl, rfl, hB⟩ := hrel
                        by_cases hlj : (j : Int) < (l.length : Int)
                        · have hj2 : j < l.length := by omega
                          obtain ⟨gl, ol, rfl, hgl, hcl⟩ := HLV.out j hj2
                          have HT : Hid (inL (l.take (j + 1)) y = (inL (l.take j) y || (l.getD j 0 == (y : Int)))) := take_in hj2 y
                          have e0 : ∀ x : Ext wr, x.wd.cell? ⟨gl, ol + j, none⟩ = some (I (l.getD j 0)) := fun x => ((below_ext hB x).cell (p := ⟨gl, ol + j, none⟩) hgl).trans hcl
                          have e1 : ∀ x : Ext wr, x.wd.cell? ⟨go, oo + k2, none⟩ = some (I (y : Int)) := fun x => ((below_ext hB x).cell (p := ⟨go, oo + k2, none⟩) hgo).trans hco
                          clear hcl
                          generalize l.getD j 0 = x at *
                          cases hq : inL (l.take j) y
                          · rw [hq] at HT
                            go_wp2
                            refine wp_region_look hmx (by kernel_rfl) ?_
                            repeat (go_big_quiet_step (fail))
                            refine wpQuiet_nil ?_
                            intro v
                            have hB := then_below hB v.le
                            clear e0 e1
                            go_wp2
                            go_roundw
                            case rel => exact ⟨j + 1, by omega, by go_num, by rw [HT.out]; simp, hB⟩
                            case measure => simp [intOf]; omega
                          · rw [hq] at HT
                            go_wp2
                            refine wp_region_look hmx (by kernel_rfl) ?_
                            repeat (go_big_quiet_step (fail))
                            refine wpQuiet_nil ?_
                            intro v
                            have hB := then_below hB v.le
                            clear e0 e1
                            go_wp2
                            go_roundw
                            case rel => exact ⟨j + 1, by omega, by go_num, by rw [HT.out]; simp, hB⟩
                            case measure => simp [intOf]; omega
                        · have ej : j = l.length := by omega
                          subst ej
                          rw [List.take_length, HIN.out]
                          go_wp2
                          go_roundw
                          case rel => exact ⟨k2 + 1, by omega, by go_num, hB⟩
                          case measure => simp [intOf]; omega
                    · go_wp2
                      go_ret
                      exact ⟨rfl, then_below hT hB⟩
            · have hwe := HZ.out hz ws jt
              subst hwe
              obtain ⟨at_, ct, rfl, _⟩ := ht.wds.view
              clear ht jt
              go_wp2
              go_ret
              exact ⟨by simp, hT⟩

      · rw [← her] at L1
        clear her hA
        go_enter Tryd.func5, Tryd.ntmps5
        go_wp2_with fail
        refine AL.mono ?_
        rintro e w1 ⟨rfl, hT⟩
        go_wp2_with fail
        refine (L1 _ hT).mono ?_
        rintro e w2 ⟨m, rfl, hm, hT2⟩
        have hT := then_below hT hT2
        clear hT2 AL L1 hm
        go_wp2_with fail
        refine (O2 _ hT).mono ?_
        rintro e w3 ⟨t, ws, rfl, ht, jt, hT2⟩
        have hT := then_below hT hT2
        clear hT2 O2
        by_cases hz : eo = 0
        · subst hz
          obtain ⟨q1, q2, q3, q4⟩ := HQ.out ws jt (by trivial)
          have hTabx := hTab.later hT
          have LC := list_calls w3 hTabx ht.wds n
          rw [q1, listR, if_pos q1] at LC
          have hnl : (numsW ws).length ≤ 19200 := by omega
          have hsn := has_calls (v := t) (ws := ws)
          go_wp2_with fail
          refine LC.mono ?_
          rintro e w4 ⟨o, rfl, ho, hT2⟩
          have ht := ht.later hT2
          have hT := then_below hT hT2
          clear LC hT2 hTab hTabx jt
          have hoi := ho.its
          have hIl := hI.later hT
          obtain ⟨ao, co, rfl, hov⟩ := hoi.view
          rw [ofN_len] at hov ⊢
          have HOV : Hid (∀ k, k < (numsW ws).length → ∃ g off, ao = some ⟨g, off, none⟩ ∧ g < w4.heap.size ∧ w4.cell? ⟨g, off + k, none⟩ = some (I ((ofN (numsW ws)).getD k 0))) := hov
          obtain ⟨al2, cl2, el2, hlv⟩ := hIl.view
          obtain ⟨e1, -, e2⟩ := Value.slice.inj el2
          subst e1
          subst e2
          have HLV : Hid (∀ k, k < l.length → ∃ g off, al = some ⟨g, off, none⟩ ∧ g < w4.heap.size ∧ w4.cell? ⟨g, off + k, none⟩ = some (I (l.getD k 0))) := hlv
          have HHS : Hid (∀ (w' : World) (h : Below w4.heap.size w4 w') (i : Nat), i < l.length → Calls Tryd.prog 15 #[I n, t, I (l.getD i 0)] w' fun e W' => e = .returned (.tuple #[.bool true, I 0]) ∧ Below w'.heap.size w' W') := fun w' h i hi => by
            have := has_calls w' (ht.wds.later h) n (l.getD i 0)
            rwa [q3 i hi, q1] at this
          have HQ4 : Hid (∀ i, i < (numsW ws).length → inL l ((numsW ws).getD i 0) = true) := q4
          clear hov hlv hoi ho hIl hI q1 q3 q4 HQ hsn el2
          generalize numsW ws = ns at *
          have hq2 : decide (l.length < ns.length) = false := decide_eq_false (by omega)
          go_wp2
          try simp only [hq2]
          go_loopw [17] (fun i wr => ∃ k : Nat, k ≤ l.length ∧ i = .int .i64 k ∧ Below w4.heap.size w4 wr) (fun i _ => l.length - (intOf i).toNat)
          case atStart => exact ⟨0, by omega, rfl, Below.refl _ _⟩
          case round =>
            obtain ⟨k, hk, rfl, hB⟩ := hrel
            by_cases hlt : (k : Int) < (l.length : Int)
            · obtain ⟨g, off, rfl, hg, hc⟩ := HLV.out k (by omega)
              have hc1 := (hB.cell (p := ⟨g, off + k, none⟩) hg).trans hc
              have HH := HHS.out wr hB k (by omega)
              generalize l.getD k 0 = y at *
              clear hc
              go_wp2_with fail
              refine HH.mono ?_
              rintro e w5 ⟨rfl, hB2⟩
              have hB := then_below hB hB2
              clear hB2 HH
              go_wp2
              go_roundw
              case rel => exact ⟨k + 1, by omega, by go_num, hB⟩
              case measure => simp [intOf]; omega
            · skip
              go_wp2
              go_loopw [20] (fun i wr2 => ∃ k : Nat, k ≤ ns.length ∧ i = .int .i64 k ∧ Below w4.heap.size w4 wr2) (fun i _ => ns.length - (intOf i).toNat)
              case atStart => exact ⟨0, by omega, rfl, hB⟩
              case round =>
                clear hB
                obtain ⟨k2, hk2, rfl, hB⟩ := hrel
                by_cases hlt : (k2 : Int) < (ns.length : Int)
                · have hk3 : k2 < ns.length := by omega
                  obtain ⟨go, oo, rfl, hgo, hco⟩ := HOV.out k2 hk3
                  rw [ofN_get] at hco
                  have hin := HQ4.out k2 hk3
                  generalize ns.getD k2 0 = y at *
                  have HIN : Hid (inL l y = true) := hin
                  clear hin
                  go_wp2
                  go_loopw [21, 22] (fun th i wr3 => ∃ j : Nat, j ≤ l.length ∧ i = .int .i64 j ∧ th = .bool (inL (l.take j) y) ∧ Below w4.heap.size w4 wr3) (fun th i _ => l.length - (intOf i).toNat)
                  case atStart => exact ⟨0, by omega, rfl, rfl, hB⟩
                  case round =>
                    clear hB
                    obtain ⟨j, hj, rfl, rfl, hB⟩ := hrel
                    by_cases hlj : (j : Int) < (l.length : Int)
                    · have hj2 : j < l.length := by omega
                      obtain ⟨gl, ol, rfl, hgl, hcl⟩ := HLV.out j hj2
                      have HT : Hid (inL (l.take (j + 1)) y = (inL (l.take j) y || (l.getD j 0 == (y : Int)))) := take_in hj2 y
                      have e0 : ∀ x : Ext wr, x.wd.cell? ⟨gl, ol + j, none⟩ = some (I (l.getD j 0)) := fun x => ((below_ext hB x).cell (p := ⟨gl, ol + j, none⟩) hgl).trans hcl
                      have e1 : ∀ x : Ext wr, x.wd.cell? ⟨go, oo + k2, none⟩ = some (I (y : Int)) := fun x => ((below_ext hB x).cell (p := ⟨go, oo + k2, none⟩) hgo).trans hco
                      clear hcl
                      generalize l.getD j 0 = x at *
                      cases hq : inL (l.take j) y
                      · rw [hq] at HT
                        go_wp2
                        refine wp_region_look hmx (by kernel_rfl) ?_
                        repeat (go_big_quiet_step (fail))
                        refine wpQuiet_nil ?_
                        intro v
                        have hB := then_below hB v.le
                        clear e0 e1
                        go_wp2
                        go_roundw
                        case rel => exact ⟨j + 1, by omega, by go_num, by rw [HT.out]; simp, hB⟩
                        case measure => simp [intOf]; omega
                      · rw [hq] at HT
                        go_wp2
                        refine wp_region_look hmx (by kernel_rfl) ?_
                        repeat (go_big_quiet_step (fail))
                        refine wpQuiet_nil ?_
                        intro v
                        have hB := then_below hB v.le
                        clear e0 e1
                        go_wp2
                        go_roundw
                        case rel => exact ⟨j + 1, by omega, by go_num, by rw [HT.out]; simp, hB⟩
                        case measure => simp [intOf]; omega
                    · have ej : j = l.length := by omega
                      subst ej
                      rw [List.take_length, HIN.out]
                      go_wp2
                      go_roundw
                      case rel => exact ⟨k2 + 1, by omega, by go_num, hB⟩
                      case measure => simp [intOf]; omega
                · go_wp2
                  go_ret
                  exact ⟨rfl, then_below hT hB⟩
        · have hwe := HZ.out hz ws jt
          subst hwe
          obtain ⟨at_, ct, rfl, _⟩ := ht.wds.view
          clear ht jt
          go_wp2
          go_ret
          exact ⟨by simp, hT⟩

    · clear hA hI
      go_enter Tryd.func5, Tryd.ntmps5
      go_wp2_with fail
      refine AL.mono ?_
      rintro e w1 ⟨rfl, hT⟩
      go_wp2
      go_ret
      exact ⟨rfl, hT⟩
  · clear hA hI
    go_enter Tryd.func5, Tryd.ntmps5
    go_wp2_with fail
    refine AL.mono ?_
    rintro e w1 ⟨rfl, hT⟩
    go_wp2
    go_ret
    exact ⟨rfl, hT⟩

end Go.Proofs.YtckklobbbidonaaDoor
