/-
  The document's lists of calendars (tidehallref09): puts, ended, blocked; the sets busy and owned.
-/
import Derived.Test.YtabhlmckncgdjaaCalsRefA
import Derived.Test.YtabhlmckncgdjaaCalsNum
import Derived.Test.YtabhlmckncgdjaaCalsPutB
namespace Go.Proofs.Ytabhlmckncgdjaa
open Go Go.RowKit Go.Shelf

attribute [local go_sem] Oper.semAt_some ext_const

theorem from_numsTo {n : Nat} (p : Nat → Bool) (h1 : 1 ≤ n) (h2 : n ≤ 12288) : Hid (∀ (w : World) (b : Nat) (u : Value), Lst w b u (numsTo p n) → Calls Try.prog 102 #[I n, u] w fun e W' => ∃ v, e = .returned v ∧ SetR W' w.heap.size v (setOf n p) ∧ Below w.heap.size w W') := by
  intro w b u hu
  refine (from_calls w hu.its (by have := numsTo_len p n; omega) n h1 h2 (fun i hi => ?_)).mono ?_
  · have := numsTo_mem (List.getElem_mem hi)
    simpa [hi] using this
  · rintro e W' ⟨v, ws, rfl, hS, hI, hB⟩
    have : ws = setOf n p := (hI.congr (q := fun j => decide (j < (n : Int).toNat) && p j) (fun j => by rw [numsTo_in, Int.toNat_natCast])).ext (setOf_is n p)
    exact ⟨v, rfl, .inl (this ▸ hS), hB⟩

set_option maxRecDepth 100000 in
set_option maxHeartbeats 8000000 in
theorem rputs_calls {cs : List (List Slt)} {v vm : Value} {ws : List Nat} {f t o : Int} (w : World) (hS : Yl w v cs) (hn : cs.length ≤ 10000) (hx : ∀ k, (cs.getD k []).length ≤ 10000) (hM : Wds w vm ws) :
    Calls Try.prog 44 #[v, vm, V3 f t o] w fun e W' => ∃ u, e = .returned u ∧ Yo W' w.heap.size u (putsC cs (hasW ws) (f, t, o) cs.length) ∧ Below w.heap.size w W' := by
  obtain ⟨ao, cap, rfl, hS⟩ := hS.form
  obtain ⟨W, hW, hB, hK⟩ := one_start w (C3 f t o) 52
  have HW : Hid (w.alloc (.cells (C3 f t o) 52) = W) := hW
  have HS : Hid (Yl W (.slice ao cs.length cap) cs) := hS.later hB
  have HM : Hid (Wds W vm ws) := hM.later hB
  have HX : Hid (∀ k, (cs.getD k []).length ≤ 10000) := hx
  have HP : Hid (∀ k, putsC cs (hasW ws) (f, t, o) (k + 1) = putsC cs (hasW ws) (f, t, o) k ++ [if hasW ws k then withC (f, t, o) (cs.getD k []) else cs.getD k []]) := putsC_succ _ _ _
  have HL : Hid (∀ k, (putsC cs (hasW ws) (f, t, o) k).length = k) := putsC_len _ _ _
  have HZ : Hid (putsC cs (hasW ws) (f, t, o) 0 = []) := rfl
  generalize putsC cs (hasW ws) (f, t, o) = pt at *
  clear hW hS hM hx
  go_enter Try.func44, Try.ntmps44
  go_wp2
  rw [HW.out]
  go_loopw [7, 8] (fun u i wr => ∃ (k : Nat) (ao' : Option Addr) (n' cap' : Nat), k ≤ cs.length ∧ i = .int .i64 k ∧ u = .slice ao' n' cap' ∧ Hid (Yo wr W.heap.size (.slice ao' n' cap') (pt k)) ∧ Below W.heap.size W wr) (fun _ i _ => cs.length - (intOf i).toNat)
  case atStart => exact ⟨0, _, _, _, by omega, rfl, rfl, by show Yo _ _ _ _; rw [HZ.out]; exact Yo.nil _ _, Below.refl _ _⟩
  case round =>
    obtain ⟨k, ao', n', cap', hk, rfl, rfl, HY, hT⟩ := hrel
    by_cases hlt : (k : Int) < (cs.length : Int)
    · have hk' : k < cs.length := by omega
      obtain ⟨g, off, bo, m, c, rfl, hg, hcc, hs⟩ := (HS.out.later hT).get hk'
      have HSk : Hid (Ss wr (.slice bo m c) (cs.getD k [])) := hs
      have hlen := HX.out k
      have HTh : Hid (∀ w1, Below W.heap.size W w1 → Calls Try.prog 88 #[vm, I k] w1 fun e W' => e = .returned (.bool (hasW ws k)) ∧ W' = w1) := fun w1 hb => there_calls w1 (HM.out.later hb) k (by omega)
      have HWi : Hid (∀ w1 u, Ss w1 u (cs.getD k []) → Calls Try.prog 89 #[u, V3 f t o] w1 fun e W' => ∃ r, e = .returned r ∧ So W' w1.heap.size r (withC (f, t, o) (cs.getD k [])) ∧ Below w1.heap.size w1 W') := fun w1 u h => rwith_calls w1 h hlen
      have HPk : Hid (pt (k + 1) = pt k ++ [if hasW ws k then withC (f, t, o) (cs.getD k []) else cs.getD k []]) := HP.out k
      have HLk : (pt k).length ≤ 100000 := by rw [HL.out k]; omega
      have hsz := hT.size
      clear hs
      generalize withC (f, t, o) (cs.getD k []) = wi at *
      generalize cs.getD k [] = xs at *
      generalize hasW ws k = r at *
      go_wp2_with (first
        | (at_builtin; refine wpList_catS (base := wr.heap.size) (xs := []) (ys := xs) rfl _ _ rfl rfl rfl (So.nil _ _) HSk.out (by simp; omega) (Nat.le_refl _) ?_; intro ao4 n4 cap4 w4 hW4 hB4)
        | fail)
      have hT4 := then_below hT hB4
      have HC4 : Hid (So w4 W.heap.size (.slice ao4 n4 cap4) xs) := hW4.weak hsz
      have HY4 : Hid (Yo w4 W.heap.size (.slice ao' n' cap') (pt k)) := HY.out.later hB4
      clear hW4 hg hcc
      refine (HTh.out _ hT4).mono ?_
      rintro e w5 ⟨rfl, hw⟩
      subst hw
      cases r
      · rw [if_neg (by decide)] at HPk
        clear HWi
        go_wp2_with (first
          | (at_builtin; refine wpList_appY (base := W.heap.size) (cs := pt k) (c := xs) rfl _ _ rfl rfl rfl rfl HY4.out HC4.out HLk hT4.size ?_; intro ao6 n6 cap6 w6 hW6 hB6)
          | go_in)
        go_roundw
        case rel => exact ⟨k + 1, _, _, _, by omega, by go_num, rfl, by show Yo _ _ _ _; rw [HPk.out]; exact hW6, hT4.trans hB6⟩
        case measure => simp [intOf]; omega
      · rw [if_pos rfl] at HPk
        obtain ⟨s0, s1, s2, hz⟩ := hK.slot3 hT4
        go_wp2_with fail
        refine (HWi.out _ _ HC4.out.ss).mono ?_
        rintro e w6 ⟨u, rfl, hO, hB6⟩
        obtain ⟨ao6, n6, c6, rfl⟩ := hO.slice
        have hT6 := then_below hT4 hB6
        have HC6 : Hid (So w6 W.heap.size (.slice ao6 n6 c6) wi) := hO.weak hT4.size
        have HY6 : Hid (Yo w6 W.heap.size (.slice ao' n' cap') (pt k)) := HY4.out.later hB6
        clear hO s0 s1 s2 hz
        go_wp2_with (first
          | (at_builtin; refine wpList_appY (base := W.heap.size) (cs := pt k) (c := wi) rfl _ _ rfl rfl rfl rfl HY6.out HC6.out HLk hT6.size ?_; intro ao7 n7 cap7 w7 hW7 hB7)
          | go_in)
        go_roundw
        case rel => exact ⟨k + 1, _, _, _, by omega, by go_num, rfl, by show Yo _ _ _ _; rw [HPk.out]; exact hW7, hT6.trans hB7⟩
        case measure => simp [intOf]; omega
    · obtain rfl : k = cs.length := by omega
      have HY2 : Hid (Yo wr w.heap.size (.slice ao' n' cap') (pt cs.length)) := HY.out.weak hB.size
      go_wp2
      go_ret
      exact ⟨_, rfl, HY2.out, then_below hB hT⟩

set_option maxRecDepth 100000 in
set_option maxHeartbeats 8000000 in
theorem rendeds_calls {cs : List (List Slt)} {v : Value} {ow to : Int} (w : World) (hS : Yl w v cs) (hn : cs.length ≤ 10000) (hx : ∀ k, (cs.getD k []).length ≤ 10000) :
    Calls Try.prog 51 #[v, I ow, I to] w fun e W' => ∃ u, e = .returned u ∧ Yo W' w.heap.size u (cutsC cs ow to) ∧ Below w.heap.size w W' := by
  obtain ⟨ao, cap, rfl, hS⟩ := hS.form
  have HS : Hid (Yl w (.slice ao cs.length cap) cs) := hS
  have HX : Hid (∀ k, (cs.getD k []).length ≤ 10000) := hx
  have HP : Hid (∀ k, mapTo (fun k => endedC (cs.getD k []) ow to) (k + 1) = mapTo (fun k => endedC (cs.getD k []) ow to) k ++ [endedC (cs.getD k []) ow to]) := fun k => mapTo_succ _ _
  have HL : Hid (∀ k, (mapTo (fun k => endedC (cs.getD k []) ow to) k).length = k) := mapTo_len _
  have HZ : Hid (mapTo (fun k => endedC (cs.getD k []) ow to) 0 = []) := rfl
  have HE : Hid (mapTo (fun k => endedC (cs.getD k []) ow to) cs.length = cutsC cs ow to) := map_range
  generalize cutsC cs ow to = tgt at *
  generalize mapTo (fun k => endedC (cs.getD k []) ow to) = pt at *
  clear hS hx
  go_enter Try.func51, Try.ntmps51
  go_wp2
  go_loopw [7, 8] (fun u i wr => ∃ (k : Nat) (ao' : Option Addr) (n' cap' : Nat), k ≤ cs.length ∧ i = .int .i64 k ∧ u = .slice ao' n' cap' ∧ Hid (Yo wr w.heap.size (.slice ao' n' cap') (pt k)) ∧ Below w.heap.size w wr) (fun _ i _ => cs.length - (intOf i).toNat)
  case atStart => exact ⟨0, _, _, _, by omega, rfl, rfl, by show Yo _ _ _ _; rw [HZ.out]; exact Yo.nil _ _, Below.refl _ _⟩
  case round =>
    obtain ⟨k, ao', n', cap', hk, rfl, rfl, HY, hT⟩ := hrel
    by_cases hlt : (k : Int) < (cs.length : Int)
    · have hk' : k < cs.length := by omega
      obtain ⟨g, off, bo, m, c, rfl, hg, hcc, hs⟩ := (HS.out.later hT).get hk'
      have HC : Hid (Calls Try.prog 93 #[.slice bo m c, I ow, I to] wr fun e W' => ∃ r, e = .returned r ∧ So W' wr.heap.size r (endedC (cs.getD k []) ow to) ∧ Below wr.heap.size wr W') := rended_calls wr hs (by have := HX.out k; omega)
      have HPk : Hid (pt (k + 1) = pt k ++ [endedC (cs.getD k []) ow to]) := HP.out k
      have HLk : (pt k).length ≤ 100000 := by rw [HL.out k]; omega
      clear hs
      generalize endedC (cs.getD k []) ow to = xs at *
      go_wp2_with fail
      refine HC.out.mono ?_
      rintro e w6 ⟨u, rfl, hO, hB6⟩
      obtain ⟨ao6, n6, c6, rfl⟩ := hO.slice
      have hT6 := then_below hT hB6
      have HC6 : Hid (So w6 w.heap.size (.slice ao6 n6 c6) xs) := hO.weak hT.size
      have HY6 : Hid (Yo w6 w.heap.size (.slice ao' n' cap') (pt k)) := HY.out.later hB6
      clear hO hg hcc
      go_wp2_with (first
        | (at_builtin; refine wpList_appY (base := w.heap.size) (cs := pt k) (c := xs) rfl _ _ rfl rfl rfl rfl HY6.out HC6.out HLk hT6.size ?_; intro ao7 n7 cap7 w7 hW7 hB7)
        | go_in)
      go_roundw
      case rel => exact ⟨k + 1, _, _, _, by omega, by go_num, rfl, by show Yo _ _ _ _; rw [HPk.out]; exact hW7, hT6.trans hB7⟩
      case measure => simp [intOf]; omega
    · obtain rfl : k = cs.length := by omega
      have HY2 : Hid (Yo wr w.heap.size (.slice ao' n' cap') tgt) := by show Yo _ _ _ _; rw [← HE.out]; exact HY.out
      go_wp2
      go_ret
      exact ⟨_, rfl, HY2.out, hT⟩

set_option maxRecDepth 100000 in
set_option maxHeartbeats 16000000 in
theorem rblocked_calls {cs : List (List Slt)} {v vm : Value} {ws : List Nat} {x y : Int} (w : World) (hS : Yl w v cs) (hn : cs.length ≤ 10000) (hx : ∀ k, (cs.getD k []).length ≤ 10000) (hM : Wds w vm ws) :
    Calls Try.prog 48 #[v, vm, S2 x y] w fun e W' => e = .returned (.tuple #[.bool (takenC cs (hasW ws) x y cs.length), .bool (fullC cs (hasW ws) cs.length)]) ∧ Below w.heap.size w W' := by
  have hmx : Try.prog.follows .mixedOrders = true := by kernel_rfl
  obtain ⟨ao, cap, rfl, hS⟩ := hS.form
  obtain ⟨W, hW, hB, hK⟩ := one_start w (C2 x y) 36
  have HW : Hid (w.alloc (.cells (C2 x y) 36) = W) := hW
  have HS : Hid (Yl W (.slice ao cs.length cap) cs) := hS.later hB
  have HM : Hid (Wds W vm ws) := hM.later hB
  have HX : Hid (∀ k, (cs.getD k []).length ≤ 10000) := hx
  have HT1 : Hid (∀ k, takenC cs (hasW ws) x y (k + 1) = (takenC cs (hasW ws) x y k || (hasW ws k && !clearC (cs.getD k []) x y))) := fun k => takenC_succ _ _ _ _ _
  have HF1 : Hid (∀ k, fullC cs (hasW ws) (k + 1) = (fullC cs (hasW ws) k || (hasW ws k && decide (4096 ≤ (cs.getD k []).length)))) := fun k => fullC_succ _ _ _
  have HT0 : Hid (takenC cs (hasW ws) x y 0 = false) := rfl
  have HF0 : Hid (fullC cs (hasW ws) 0 = false) := rfl
  generalize takenC cs (hasW ws) x y = tk at *
  generalize fullC cs (hasW ws) = fl at *
  obtain ⟨P, hP⟩ : ∃ P, P = tk cs.length := ⟨_, rfl⟩
  obtain ⟨Q, hQ⟩ : ∃ Q, Q = fl cs.length := ⟨_, rfl⟩
  rw [← hP, ← hQ]
  have HPt : Hid (P = tk cs.length) := hP
  have HQt : Hid (Q = fl cs.length) := hQ
  clear hP hQ
  clear hW hS hM hx
  go_enter Try.func48, Try.ntmps48
  go_wp2
  rw [HW.out]
  go_loopw [8, 9, 10] (fun a b i wr => ∃ (k : Nat) (p q : Bool), k ≤ cs.length ∧ i = .int .i64 k ∧ a = .bool p ∧ b = .bool q ∧ Hid (tk k = p) ∧ Hid (fl k = q) ∧ Below W.heap.size W wr) (fun _ _ i _ => cs.length - (intOf i).toNat)
  case atStart => exact ⟨0, false, false, by omega, rfl, rfl, rfl, HT0, HF0, Below.refl _ _⟩
  case round =>
    obtain ⟨k, p, q, hk, rfl, rfl, rfl, HTk, HFk, hT⟩ := hrel
    by_cases hlt : (k : Int) < (cs.length : Int)
    · have hk' : k < cs.length := by omega
      obtain ⟨g, off, bo, m, c, rfl, hg, hcc, hmm, hs⟩ := (HS.out.later hT).at hk'
      have hlen := HX.out k
      have HTh : Hid (Calls Try.prog 88 #[vm, I k] wr fun e W' => e = .returned (.bool (hasW ws k)) ∧ W' = wr) := there_calls wr (HM.out.later hT) k (by omega)
      have HC : Hid (∀ X : Ext wr, Calls Try.prog 91 #[.slice bo m c, S2 x y] X.wd fun e W' => e = .returned (.bool (clearC (cs.getD k []) x y)) ∧ Below X.wd.heap.size X.wd W') := fun X => rclear_calls X.wd (hs.later X.le) (by omega)
      have HTn : Hid (tk (k + 1) = (p || (hasW ws k && !clearC (cs.getD k []) x y))) := by show _ = _; rw [HT1.out, HTk.out]
      have HFn : Hid (fl (k + 1) = (q || (hasW ws k && decide ((4096 : Int) ≤ (m : Int))))) := by
        show _ = _
        rw [HF1.out, HFk.out, hmm]
        congr 2
        rw [Bool.eq_iff_iff]
        simp only [decide_eq_true_eq]
        omega
      have y0 : ∀ X : Ext wr, X.wd.cell? ⟨g, off + k, none⟩ = some (.slice bo m c) := fun X => (X.le.cell (p := ⟨g, off + k, none⟩) hg).trans hcc
      have e0 := Ext.cell (hK.later hT) 0
      have e1 := Ext.cell (hK.later hT) 1
      simp at e0 e1
      clear hs hmm
      generalize clearC (cs.getD k []) x y = cl at *
      generalize hasW ws k = r at *
      go_wp2_with fail
      refine HTh.out.mono ?_
      rintro e w5 ⟨rfl, hw⟩
      subst hw
      cases r
      · have E1 : Hid (tk (k + 1) = p) := by show _ = _; rw [HTn.out]; simp
        have E2 : Hid (fl (k + 1) = q) := by show _ = _; rw [HFn.out]; simp
        clear HTn HFn HC
        go_wp2
        go_roundw
        case rel => exact ⟨k + 1, p, q, by omega, by go_num, rfl, rfl, E1, E2, hT⟩
        case measure => simp [intOf]; omega
      · have HTn2 : Hid (tk (k + 1) = (p || !cl)) := by show _ = _; rw [HTn.out, Bool.true_and]
        have HFn2 : Hid (fl (k + 1) = (q || decide ((4096 : Int) ≤ (m : Int)))) := by show _ = _; rw [HFn.out, Bool.true_and]
        clear HTn HFn
        cases p
        · cases q
          · rw [Bool.false_or] at HTn2 HFn2
            go_wp2_with fail
            refine wp_region_look hmx (by kernel_rfl) ?_
            repeat (go_big_quiet_step ((go_at_call 91; exact calls_ext (HC.out _))))
            refine wpQuiet_nil ?_
            intro X
            have hT := then_below hT X.le
            have y1 := y0 X
            have hg1 : g < X.wd.heap.size := Nat.lt_of_lt_of_le hg X.le.size
            generalize X.wd = wx at *
            go_wp2
            go_roundw
            case rel => exact ⟨k + 1, _, _, by omega, by go_num, rfl, rfl, HTn2, HFn2, hT⟩
            case measure => simp [intOf]; omega
          · rw [Bool.false_or] at HTn2
            rw [Bool.true_or] at HFn2
            go_wp2_with fail
            refine wp_region_look hmx (by kernel_rfl) ?_
            repeat (go_big_quiet_step ((go_at_call 91; exact calls_ext (HC.out _))))
            refine wpQuiet_nil ?_
            intro X
            have hT := then_below hT X.le
            generalize X.wd = wx at *
            go_wp2
            go_roundw
            case rel => exact ⟨k + 1, _, _, by omega, by go_num, rfl, rfl, HTn2, HFn2, hT⟩
            case measure => simp [intOf]; omega
        · cases q
          · rw [Bool.true_or] at HTn2
            rw [Bool.false_or] at HFn2
            go_wp2_with fail
            refine wp_region_look hmx (by kernel_rfl) ?_
            repeat (go_big_quiet_step (fail))
            refine wpQuiet_nil ?_
            intro X
            have hT := then_below hT X.le
            have y1 := y0 X
            have hg1 : g < X.wd.heap.size := Nat.lt_of_lt_of_le hg X.le.size
            generalize X.wd = wx at *
            go_wp2
            go_roundw
            case rel => exact ⟨k + 1, _, _, by omega, by go_num, rfl, rfl, HTn2, HFn2, hT⟩
            case measure => simp [intOf]; omega
          · rw [Bool.true_or] at HTn2 HFn2
            go_wp2_with fail
            refine wp_region_look hmx (by kernel_rfl) ?_
            repeat (go_big_quiet_step (fail))
            refine wpQuiet_nil ?_
            intro X
            have hT := then_below hT X.le
            generalize X.wd = wx at *
            go_wp2
            go_roundw
            case rel => exact ⟨k + 1, _, _, by omega, by go_num, rfl, rfl, HTn2, HFn2, hT⟩
            case measure => simp [intOf]; omega
    · obtain rfl : k = cs.length := by omega
      have E1 : P = p := HPt.out.trans HTk.out
      have E2 : Q = q := HQt.out.trans HFk.out
      subst E1 E2
      go_wp2
      go_ret2
      exact ⟨rfl, then_below hB hT⟩

set_option maxRecDepth 100000 in
set_option maxHeartbeats 8000000 in
theorem rbusyL_calls {cs : List (List Slt)} {v : Value} {x y : Int} (w : World) (hS : Yl w v cs) (h1 : 1 ≤ cs.length) (hn : cs.length ≤ 10000) (hx : ∀ k, (cs.getD k []).length ≤ 10000) :
    Calls Try.prog 98 #[v, S2 x y] w fun e W' => ∃ u, e = .returned u ∧ SetR W' w.heap.size u (setOf cs.length (busyP cs x y)) ∧ Below w.heap.size w W' := by
  have hmx : Try.prog.follows .mixedOrders = true := by kernel_rfl
  obtain ⟨ao, cap, rfl, hS⟩ := hS.form
  obtain ⟨W, hW, hB, hK⟩ := one_start w (C2 x y) 36
  have HW : Hid (w.alloc (.cells (C2 x y) 36) = W) := hW
  have HS : Hid (Yl W (.slice ao cs.length cap) cs) := hS.later hB
  have HX : Hid (∀ k, (cs.getD k []).length ≤ 10000) := hx
  have HO := from_numsTo (n := cs.length) (busyP cs x y) h1 (by omega)
  have HY : Hid (∀ k, clearC (cs.getD k []) x y = false → numsTo (busyP cs x y) (k + 1) = numsTo (busyP cs x y) k ++ [(k : Int)]) := fun k h => numsTo_yes (by show (!clearC (cs.getD k []) x y) = true; rw [h]; rfl)
  have HN : Hid (∀ k, clearC (cs.getD k []) x y = true → numsTo (busyP cs x y) (k + 1) = numsTo (busyP cs x y) k) := fun k h => numsTo_no (by show (!clearC (cs.getD k []) x y) = false; rw [h]; rfl)
  have HL : Hid (∀ k, (numsTo (busyP cs x y) k).length ≤ k) := numsTo_len _
  have H0 : Hid (numsTo (busyP cs x y) 0 = []) := rfl
  generalize setOf (cs.length : Int) (busyP cs x y) = tgt at *
  generalize numsTo (busyP cs x y) = nt at *
  clear hW hS hx
  go_enter Try.func98, Try.ntmps98
  go_wp2
  rw [HW.out]
  go_loopw [5, 6] (fun u i wr => ∃ k : Nat, k ≤ cs.length ∧ i = .int .i64 k ∧ Lst wr W.heap.size u (nt k) ∧ Below W.heap.size W wr) (fun _ i _ => cs.length - (intOf i).toNat)
  case atStart => exact ⟨0, by omega, rfl, by rw [H0.out]; exact Lst.nil _ _, Below.refl _ _⟩
  case round =>
    obtain ⟨k, hk, rfl, hL, hT⟩ := hrel
    by_cases hlt : (k : Int) < (cs.length : Int)
    · have hk' : k < cs.length := by omega
      obtain ⟨g, off, bo, m, c, rfl, hg, hcc, hs⟩ := (HS.out.later hT).get hk'
      have hlen := HL.out k
      have hlen : (nt k).length ≤ 100000 := by omega
      have HC : Hid (∀ X : Ext wr, Calls Try.prog 91 #[.slice bo m c, S2 x y] X.wd fun e W' => e = .returned (.bool (clearC (cs.getD k []) x y)) ∧ Below X.wd.heap.size X.wd W') := fun X => rclear_calls X.wd (hs.later X.le) (by have := HX.out k; omega)
      have HYk : Hid (clearC (cs.getD k []) x y = false → nt (k + 1) = nt k ++ [(k : Int)]) := HY.out k
      have HNk : Hid (clearC (cs.getD k []) x y = true → nt (k + 1) = nt k) := HN.out k
      have y0 : ∀ X : Ext wr, X.wd.cell? ⟨g, off + k, none⟩ = some (.slice bo m c) := fun X => (X.le.cell (p := ⟨g, off + k, none⟩) hg).trans hcc
      have e0 := Ext.cell (hK.later hT) 0
      have e1 := Ext.cell (hK.later hT) 1
      simp at e0 e1
      clear hs
      generalize clearC (cs.getD k []) x y = cl at *
      cases cl
      · have HE : Hid (nt (k + 1) = nt k ++ [(k : Int)]) := HYk.out rfl
        clear HYk HNk
        go_wp2_with fail
        refine wp_region_look hmx (by kernel_rfl) ?_
        repeat (go_big_quiet_step ((go_at_call 91; exact calls_ext (HC.out _))))
        refine wpQuiet_nil ?_
        intro X
        have hL1 := hL.later X.le
        have hT1 := then_below hT X.le
        clear hL hT HC y0 e0 e1
        generalize X.wd = wx at *
        go_wp2_with (at_builtin; refine wpList_app rfl _ _ rfl rfl rfl hL1 hlen hT1.size ?_; intro v5 w5 hL5 hT5)
        go_roundw
        case rel => exact ⟨k + 1, by omega, by go_num, by rw [HE.out]; exact hL5, hT1.trans hT5⟩
        case measure => simp [intOf]; omega
      · have HE : Hid (nt (k + 1) = nt k) := HNk.out rfl
        clear HYk HNk
        go_wp2_with fail
        refine wp_region_look hmx (by kernel_rfl) ?_
        repeat (go_big_quiet_step ((go_at_call 91; exact calls_ext (HC.out _))))
        refine wpQuiet_nil ?_
        intro X
        have hL1 := hL.later X.le
        have hT1 := then_below hT X.le
        clear hL hT HC y0 e0 e1
        generalize X.wd = wx at *
        go_wp2
        go_roundw
        case rel => exact ⟨k + 1, by omega, by go_num, by rw [HE.out]; exact hL1, hT1⟩
        case measure => simp [intOf]; omega
    · obtain rfl : k = cs.length := by omega
      go_wp2_with fail
      refine (HO.out _ _ _ hL).mono ?_
      rintro e w2 ⟨u, rfl, hR, hB2⟩
      have hR := hR.weak (Nat.le_trans hB.size hT.size)
      go_wp2
      go_ret
      exact ⟨_, rfl, hR, then_below hB (then_below hT hB2)⟩

def tailI (b : Bool) (i : Nat) : List Int := if b then [(i : Int)] else []

set_option maxRecDepth 100000 in
set_option maxHeartbeats 16000000 in
theorem rownL_calls {cs : List (List Slt)} {v : Value} {ow a : Int} (w : World) (hS : Yl w v cs) (h1 : 1 ≤ cs.length) (hn : cs.length ≤ 10000) (hm : maysC cs = true) :
    Calls Try.prog 68 #[v, I ow, I a] w fun e W' => ∃ u, e = .returned u ∧ SetR W' w.heap.size u (setOf cs.length (ownP cs ow a)) ∧ Below w.heap.size w W' := by
  obtain ⟨ao, cap, rfl, hS⟩ := hS.form
  have HS : Hid (Yl w (.slice ao cs.length cap) cs) := hS
  have HX : Hid (∀ k, (cs.getD k []).length ≤ 4096) := fun k => (maysC_may hm k).2.2
  have HI : Hid (∀ f t w, Calls Try.prog 101 #[S2 f t, I a] w fun e W' => e = .returned (.bool (inT f t a)) ∧ Below w.heap.size w W') := fun f t w => rinT_calls f t a w
  have HO := from_numsTo (n := cs.length) (ownP cs ow a) h1 (by omega)
  have HE : Hid (∀ k, numsTo (ownP cs ow a) k ++ tailI ((cs.getD k []).any (hereS ow a)) k = numsTo (ownP cs ow a) (k + 1)) := fun k => by
    rw [here_at (maysC_may hm k)]
    cases e : ownP cs ow a k
    · rw [numsTo_no e, show decide (atC (cs.getD k []) a = some ow) = false from e]; simp [tailI]
    · rw [numsTo_yes e, show decide (atC (cs.getD k []) a = some ow) = true from e]; simp [tailI]
  have HA1 : Hid (∀ k j, j < (cs.getD k []).length → hereS ow a ((cs.getD k []).getD j (0, 0, 0)) = true → ((cs.getD k []).take j).any (hereS ow a) = false ∧ ((cs.getD k []).take (j + 1)).any (hereS ow a) = true) := fun k j hj hh => ⟨here_one (maysC_may hm k) hj hh, by rw [any_snoc hj rfl, hh, Bool.or_true]⟩
  have HA0 : Hid (∀ k j, j < (cs.getD k []).length → hereS ow a ((cs.getD k []).getD j (0, 0, 0)) = false → ((cs.getD k []).take (j + 1)).any (hereS ow a) = ((cs.getD k []).take j).any (hereS ow a)) := fun k j hj hh => by rw [any_snoc hj rfl, hh, Bool.or_false]
  have HL : Hid (∀ k, (numsTo (ownP cs ow a) k).length ≤ k) := numsTo_len _
  have H0 : Hid (numsTo (ownP cs ow a) 0 = []) := rfl
  generalize setOf (cs.length : Int) (ownP cs ow a) = tgt at *
  generalize numsTo (ownP cs ow a) = nt at *
  clear hS hm
  go_enter Try.func68, Try.ntmps68
  go_wp2
  go_loopw [7, 8] (fun u i wr => ∃ k : Nat, k ≤ cs.length ∧ i = .int .i64 k ∧ Lst wr w.heap.size u (nt k) ∧ Below w.heap.size w wr) (fun _ i _ => cs.length - (intOf i).toNat)
  case atStart => exact ⟨0, by omega, rfl, by rw [H0.out]; exact Lst.nil _ _, Below.refl _ _⟩
  case round =>
    obtain ⟨k, hk, rfl, hL, hT⟩ := hrel
    by_cases hlt : (k : Int) < (cs.length : Int)
    · have hk' : k < cs.length := by omega
      obtain ⟨ml, hml⟩ : ∃ ml, ml = (cs.getD k []).length := ⟨_, rfl⟩
      have hml2 : ml ≤ 4096 := by rw [hml]; exact HX.out k
      have HML : Hid (ml = (cs.getD k []).length) := hml
      have hLk := HL.out k
      have hLk : (nt k).length ≤ 10000 := by omega
      clear hml
      go_wp2
      go_loopw [7, 9] (fun u i wx => ∃ j : Nat, j ≤ ml ∧ i = .int .i64 j ∧ Lst wx w.heap.size u (nt k ++ tailI (((cs.getD k []).take j).any (hereS ow a)) k) ∧ Below w.heap.size w wx) (fun _ i _ => ml - (intOf i).toNat)
      case atStart => exact ⟨0, by omega, rfl, by simpa [tailI] using hL, hT⟩
      case round =>
        rename World => wx
        clear hL hT
        obtain ⟨j, hj, rfl, hL, hT⟩ := hrel
        obtain ⟨g, off, bo, m, c, rfl, hg, hcc, hmm, hs⟩ := (HS.out.later hT).at hk'
        have e : m = ml := by rw [hmm, HML.out]
        subst e
        clear hmm
        by_cases hlj : (j : Int) < (m : Int)
        · have hj' : j < (cs.getD k []).length := by have := HML.out; omega
          obtain ⟨g2, off2, f, t, o, rfl, hu, hat⟩ := hs.at hj'
          obtain ⟨hg2, c0, c1, c2⟩ := hat.cells
          have HAy : Hid (hereS ow a (f, t, o) = true → nt k ++ tailI (((cs.getD k []).take (j + 1)).any (hereS ow a)) k = (nt k ++ tailI (((cs.getD k []).take j).any (hereS ow a)) k) ++ [(k : Int)]) := fun h => by
            obtain ⟨x1, x2⟩ := HA1.out k j hj' (by rw [hu]; exact h)
            rw [x1, x2]; simp [tailI]
          have HAn : Hid (hereS ow a (f, t, o) = false → nt k ++ tailI (((cs.getD k []).take (j + 1)).any (hereS ow a)) k = nt k ++ tailI (((cs.getD k []).take j).any (hereS ow a)) k) := fun h => by
            rw [HA0.out k j hj' (by rw [hu]; exact h)]
          have HH : Hid (hereS ow a (f, t, o) = (decide (o = ow) && inT f t a)) := rfl
          have hll : (nt k ++ tailI (((cs.getD k []).take j).any (hereS ow a)) k).length ≤ 100000 := by
            have : (tailI (((cs.getD k []).take j).any (hereS ow a)) k).length ≤ 1 := by unfold tailI; split <;> simp
            rw [List.length_append]; omega
          clear hs hu hat
          obtain ⟨nx, hnx⟩ : ∃ nx, nx = nt k ++ tailI (((cs.getD k []).take (j + 1)).any (hereS ow a)) k := ⟨_, rfl⟩
          rw [← hnx] at HAy HAn
          have HNX : Hid (nx = nt k ++ tailI (((cs.getD k []).take (j + 1)).any (hereS ow a)) k) := hnx
          clear hnx
          generalize nt k ++ tailI (((cs.getD k []).take j).any (hereS ow a)) k = ny at *
          generalize hereS ow a (f, t, o) = hh at *
          by_cases ho : o = ow
          · have hob : (o == ow) = true := by simpa using ho
            have HI1 : Hid (Calls Try.prog 101 #[S2 f t, I a] wx fun e W' => e = .returned (.bool (inT f t a)) ∧ Below wx.heap.size wx W') := HI.out f t wx
            have HH2 : Hid (hh = inT f t a) := by show _ = _; rw [HH.out, decide_eq_true ho, Bool.true_and]
            generalize inT f t a = it at *
            clear ho HH
            cases it
            · have HE2 : Hid (nx = ny) := HAn.out HH2.out
              clear HAy HAn
              go_wp2_with fail
              refine HI1.out.mono ?_
              rintro e w5 ⟨rfl, hB5⟩
              go_wp2
              go_roundw
              case rel => exact ⟨j + 1, by omega, by go_num, by rw [← HNX.out, HE2.out]; exact hL.later hB5, then_below hT hB5⟩
              case measure => simp [intOf]; omega
            · have HE2 : Hid (nx = ny ++ [(k : Int)]) := HAy.out HH2.out
              clear HAy HAn
              go_wp2_with fail
              refine HI1.out.mono ?_
              rintro e w5 ⟨rfl, hB5⟩
              have hL5 := hL.later hB5
              have hT5 := then_below hT hB5
              clear hL hT hB5
              go_wp2_with (at_builtin; refine wpList_app rfl _ _ rfl rfl rfl hL5 hll hT5.size ?_; intro v6 w6 hL6 hT6)
              go_roundw
              case rel => exact ⟨j + 1, by omega, by go_num, by rw [← HNX.out, HE2.out]; exact hL6, hT5.trans hT6⟩
              case measure => simp [intOf]; omega
          · have hob : (o == ow) = false := by simpa using ho
            have HE2 : Hid (nx = ny) := HAn.out (by rw [HH.out, decide_eq_false ho, Bool.false_and])
            clear ho HH HAy HAn
            go_wp2
            go_roundw
            case rel => exact ⟨j + 1, by omega, by go_num, by rw [← HNX.out, HE2.out]; exact hL, hT⟩
            case measure => simp [intOf]; omega
        · obtain rfl : j = m := by omega
          rw [HML.out, List.take_length, HE.out k] at hL
          clear hs
          go_wp2
          go_roundw
          case rel => exact ⟨k + 1, by omega, by go_num, hL, hT⟩
          case measure => simp [intOf]; omega
    · obtain rfl : k = cs.length := by omega
      go_wp2_with fail
      refine (HO.out _ _ _ hL).mono ?_
      rintro e w2 ⟨u, rfl, hR, hB2⟩
      have hR := hR.weak hT.size
      go_wp2
      go_ret
      exact ⟨_, rfl, hR, then_below hT hB2⟩

end Go.Proofs.Ytabhlmckncgdjaa
