/-
  The document's May, Check, Same of a machine's calendars (tidehallref09).
-/
import Derived.Test.YtabhlmckncgdjaaPart27
import Derived.Test.YtabhlmckncgdjaaPart28
import Derived.Test.YtabhlmckncgdjaaPart21
namespace Go.Proofs.Ytabhlmckncgdjaa
open Go Go.RowKit Go.Shelf

attribute [local go_sem] Oper.semAt_some ext_const

set_option maxRecDepth 100000 in
set_option maxHeartbeats 4000000 in
theorem rmays_calls {cs : List (List Slt)} {v : Value} (w : World) (hS : Yl w v cs) (hn : cs.length ≤ 100000) (hx : ∀ k, (cs.getD k []).length ≤ 10000) :
    Calls Try.prog 90 #[v] w fun e W' => e = .returned (.bool (maysC cs)) ∧ Below w.heap.size w W' := by
  obtain ⟨ao, cap, rfl, hS⟩ := hS.form
  have HS : Hid (Yl w (.slice ao cs.length cap) cs) := hS
  have HX : Hid (∀ k, (cs.getD k []).length ≤ 10000) := hx
  have H1 : Hid (∀ k : Nat, k < cs.length → mayCB (cs.getD k []) = false → maysC cs = false) := fun k hk h => firstBad ⟨k, hk, h⟩
  have H2 : Hid ((∀ j, j < cs.length → mayCB (cs.getD j []) = true) → maysC cs = true) := noneBad
  generalize maysC cs = ans at H1 H2 ⊢
  clear hS hx
  go_enter Try.func90, Try.ntmps90
  go_wp2
  go_loopw [3] (fun i wr => ∃ k : Nat, k ≤ cs.length ∧ i = .int .i64 k ∧ Hid (∀ j, j < k → mayCB (cs.getD j []) = true) ∧ Below w.heap.size w wr) (fun i _ => cs.length - (intOf i).toNat)
  case atStart => exact ⟨0, by omega, rfl, fun j hj => by omega, Below.refl _ _⟩
  case round =>
    obtain ⟨k, hk, rfl, H0, hT⟩ := hrel
    by_cases hlt : (k : Int) < (cs.length : Int)
    · have hk' : k < cs.length := by omega
      obtain ⟨g, off, bo, m, c, rfl, hg, hc, hs⟩ := (HS.out.later hT).get hk'
      have HC : Hid (∀ r, mayCB (cs.getD k []) = r → Calls Try.prog 114 #[.slice bo m c] wr fun e W' => e = .returned (.bool r) ∧ Below wr.heap.size wr W') := fun r hr => by
        have := rmayC_calls wr hs (by have := HX.out k; omega)
        rwa [hr] at this
      clear hs
      cases hm : mayCB (cs.getD k [])
      · have E : ans = false := H1.out k hk' hm
        subst E
        have HC1 : Hid (Calls Try.prog 114 #[.slice bo m c] wr fun e W' => e = .returned (.bool false) ∧ Below wr.heap.size wr W') := HC.out _ hm
        clear hm HC
        go_wp2_with fail
        refine HC1.out.mono ?_
        rintro e w1 ⟨rfl, hB1⟩
        go_wp2
        go_ret
        exact ⟨rfl, then_below hT hB1⟩
      · have HJ : Hid (∀ j, j < k + 1 → mayCB (cs.getD j []) = true) := fun j hj => by
          rcases Nat.lt_succ_iff_lt_or_eq.1 hj with h | rfl
          · exact H0.out j h
          · exact hm
        have HC1 : Hid (Calls Try.prog 114 #[.slice bo m c] wr fun e W' => e = .returned (.bool true) ∧ Below wr.heap.size wr W') := HC.out _ hm
        clear hm HC
        go_wp2_with fail
        refine HC1.out.mono ?_
        rintro e w1 ⟨rfl, hB1⟩
        go_wp2
        go_roundw
        case rel => exact ⟨k + 1, by omega, by go_num, HJ, then_below hT hB1⟩
        case measure => simp [intOf]; omega
    · have E : ans = true := H2.out fun j hj => H0.out j (by omega)
      subst E
      go_wp2
      go_ret
      exact ⟨rfl, hT⟩

set_option maxRecDepth 100000 in
set_option maxHeartbeats 8000000 in
theorem rmayY_calls {a b c : Int} {n l : Value} {ns ls : List (List Slt)} (w : World) (hN : Yl w n ns) (hL : Yl w l ls) (hs : Small ns ls) :
    Calls Try.prog 45 #[Y5 a b c n l] w fun e W' => e = .returned (.bool (mayYB a b c ns ls)) ∧ Below w.heap.size w W' := by
  obtain ⟨W, hW, hB, hK⟩ := one_start w (K5 a b c n l) 26
  have HW : Hid (w.alloc (.cells (K5 a b c n l) 26) = W) := hW
  have h200 := hs.nodes
  have h600 := hs.links
  have HN : Hid (∀ w1, Below W.heap.size W w1 → Calls Try.prog 90 #[n] w1 fun e W' => e = .returned (.bool (maysC ns)) ∧ Below w1.heap.size w1 W') := fun w1 hb => rmays_calls w1 (hN.later (then_below hB hb)) (by omega) hs.node
  have HL : Hid (∀ w1, Below W.heap.size W w1 → Calls Try.prog 90 #[l] w1 fun e W' => e = .returned (.bool (maysC ls)) ∧ Below w1.heap.size w1 W') := fun w1 hb => rmays_calls w1 (hL.later (then_below hB hb)) (by omega) hs.link
  obtain ⟨an, cn, rfl, _⟩ := hN.form
  obtain ⟨al, cl, rfl, _⟩ := hL.form
  unfold mayYB
  clear hW hN hL hs
  generalize maysC ns = q1 at *
  generalize maysC ls = q2 at *
  by_cases hd : mayD a b c
  · rw [mayDB_iff.2 hd, Bool.true_and]
    have HM : Hid (∀ w, Calls Try.prog 54 #[A3 a b c] w fun e W' => e = .returned (.bool true) ∧ Below w.heap.size w W') := fun w => rmay_yes w hd
    have HR : Hid (∀ w, Calls Try.prog 55 #[A3 a b c] w fun e W' => e = .returned (I (a * b * c)) ∧ Below w.heap.size w W') := fun w => rn_calls w hd
    have hbd := N_bd hd
    have hmul : wrap64 (3 * (a * b * c)) = 3 * (a * b * c) := wrap_in _ (by omega)
    generalize a * b * c = N at *
    generalize ns.length = nn at *
    generalize ls.length = ll at *
    clear hd
    by_cases h1 : (nn : Int) = N
    · rw [decide_eq_true h1, Bool.true_and]
      have h1b : ((nn : Int) == N) = true := by simpa using h1
      clear h1
      by_cases h2 : (ll : Int) = 3 * N
      · rw [decide_eq_true h2, Bool.true_and]
        have h2b : ((ll : Int) == 3 * N) = true := by simpa using h2
        clear h2
        cases q1
        · rw [Bool.false_and]
          go_enter Try.func45, Try.ntmps45
          go_wp2_with fail
          rw [HW.out]
          refine (HM.out _).mono ?_
          rintro e w1 ⟨rfl, hT⟩
          obtain ⟨p0, p1, p2, p3, p4, hz⟩ := hK.yard hT
          go_wp2_with fail
          refine (HR.out _).mono ?_
          rintro e w2 ⟨rfl, hB2⟩
          have hT2 := then_below hT hB2
          clear p0 p1 p2 p3 p4 hz
          obtain ⟨p0, p1, p2, p3, p4, hz⟩ := hK.yard hT2
          go_wp2_with fail
          refine (HN.out _ hT2).mono ?_
          rintro e w3 ⟨rfl, hB3⟩
          go_wp2
          go_ret
          exact ⟨rfl, then_below hB (then_below hT2 hB3)⟩
        · rw [Bool.true_and]
          go_enter Try.func45, Try.ntmps45
          go_wp2_with fail
          rw [HW.out]
          refine (HM.out _).mono ?_
          rintro e w1 ⟨rfl, hT⟩
          obtain ⟨p0, p1, p2, p3, p4, hz⟩ := hK.yard hT
          go_wp2_with fail
          refine (HR.out _).mono ?_
          rintro e w2 ⟨rfl, hB2⟩
          have hT2 := then_below hT hB2
          clear p0 p1 p2 p3 p4 hz
          obtain ⟨p0, p1, p2, p3, p4, hz⟩ := hK.yard hT2
          go_wp2_with fail
          refine (HN.out _ hT2).mono ?_
          rintro e w3 ⟨rfl, hB3⟩
          have hT3 := then_below hT2 hB3
          clear p0 p1 p2 p3 p4 hz
          obtain ⟨p0, p1, p2, p3, p4, hz⟩ := hK.yard hT3
          go_wp2_with fail
          refine (HL.out _ hT3).mono ?_
          rintro e w4 ⟨rfl, hB4⟩
          go_wp2
          go_ret
          exact ⟨rfl, then_below hB (then_below hT3 hB4)⟩
      · rw [decide_eq_false h2, Bool.false_and]
        have h2b : ((ll : Int) == 3 * N) = false := by simpa using h2
        clear h2 HN HL
        go_enter Try.func45, Try.ntmps45
        go_wp2_with fail
        rw [HW.out]
        refine (HM.out _).mono ?_
        rintro e w1 ⟨rfl, hT⟩
        obtain ⟨p0, p1, p2, p3, p4, hz⟩ := hK.yard hT
        go_wp2_with fail
        refine (HR.out _).mono ?_
        rintro e w2 ⟨rfl, hB2⟩
        have hT2 := then_below hT hB2
        clear p0 p1 p2 p3 p4 hz
        obtain ⟨p0, p1, p2, p3, p4, hz⟩ := hK.yard hT2
        go_wp2_with fail
        go_ret
        exact ⟨rfl, then_below hB hT2⟩
    · rw [decide_eq_false h1, Bool.false_and]
      have h1b : ((nn : Int) == N) = false := by simpa using h1
      clear h1 HN HL
      go_enter Try.func45, Try.ntmps45
      go_wp2_with fail
      rw [HW.out]
      refine (HM.out _).mono ?_
      rintro e w1 ⟨rfl, hT⟩
      obtain ⟨p0, p1, p2, p3, p4, hz⟩ := hK.yard hT
      go_wp2_with fail
      refine (HR.out _).mono ?_
      rintro e w2 ⟨rfl, hB2⟩
      have hT2 := then_below hT hB2
      clear p0 p1 p2 p3 p4 hz
      obtain ⟨p0, p1, p2, p3, p4, hz⟩ := hK.yard hT2
      go_wp2_with fail
      go_ret
      exact ⟨rfl, then_below hB hT2⟩
  · rw [show mayDB a b c = false by cases e : mayDB a b c; rfl; exact absurd (mayDB_iff.1 e) hd, Bool.false_and]
    have HM : Hid (∀ w, Calls Try.prog 54 #[A3 a b c] w fun e W' => e = .returned (.bool false) ∧ Below w.heap.size w W') := fun w => rmay_no w hd
    clear hd HN HL
    go_enter Try.func45, Try.ntmps45
    go_wp2_with fail
    rw [HW.out]
    refine (HM.out _).mono ?_
    rintro e w1 ⟨rfl, hT⟩
    go_wp2
    go_ret
    exact ⟨rfl, then_below hB hT⟩

theorem rcheckY_calls {a b c : Int} {n l : Value} {ns ls : List (List Slt)} (w : World) (hN : Yl w n ns) (hL : Yl w l ls) (hs : Small ns ls) :
    Calls Try.prog 23 #[Y5 a b c n l] w fun e W' => e = .returned (I (errY a b c ns ls)) ∧ Below w.heap.size w W' := by
  obtain ⟨W, hW, hB, hK⟩ := one_start w (K5 a b c n l) 26
  have HW : Hid (w.alloc (.cells (K5 a b c n l) 26) = W) := hW
  have HM : Hid (Calls Try.prog 45 #[Y5 a b c n l] W fun e W' => e = .returned (.bool (mayYB a b c ns ls)) ∧ Below W.heap.size W W') := rmayY_calls W (hN.later hB) (hL.later hB) hs
  unfold errY
  clear hW hN hL hs
  generalize mayYB a b c ns ls = q at *
  cases q
  all_goals
    go_enter Try.func23, Try.ntmps23
    go_wp2_with fail
    rw [HW.out]
    refine HM.out.mono ?_
    rintro e w1 ⟨rfl, hT⟩
    go_wp2
    go_ret
    exact ⟨rfl, then_below hB hT⟩

set_option maxRecDepth 100000 in
set_option maxHeartbeats 8000000 in
theorem rlists_calls {cs ds : List (List Slt)} {u v : Value} (w : World) (hu : Yl w u cs) (hv : Yl w v ds) (hn : cs.length ≤ 100000) (hx : ∀ k, (cs.getD k []).length ≤ 100000) :
    Calls Try.prog 56 #[u, v] w fun e W' => e = .returned (.bool (eqL2 cs ds)) ∧ Below w.heap.size w W' := by
  have hmx : Try.prog.follows .mixedOrders = true := by kernel_rfl
  obtain ⟨ao, cap, rfl, hu⟩ := hu.form
  obtain ⟨ao', cap', rfl, hv⟩ := hv.form
  have HA : Hid (Yl w (.slice ao cs.length cap) cs) := hu
  have HB : Hid (Yl w (.slice ao' ds.length cap') ds) := hv
  have HX : Hid (∀ k, (cs.getD k []).length ≤ 100000) := hx
  clear hu hv hx
  obtain ⟨ans, hans⟩ : ∃ ans, ans = eqL2 cs ds := ⟨_, rfl⟩
  rw [← hans]
  have HS : Hid (ans = eqL2 cs ds) := hans
  clear hans
  by_cases hl : (cs.length : Int) = ds.length
  · have hl' : ds.length = cs.length := by omega
    clear hl
    have HL : Hid (ds.length = cs.length) := hl'
    rw [hl'] at HB ⊢
    clear hl'
    go_enter Try.func56, Try.ntmps56
    go_wp2
    go_loopw [5] (fun i wr => ∃ k : Nat, k ≤ cs.length ∧ i = .int .i64 k ∧ Hid (cs.take k = ds.take k) ∧ Below w.heap.size w wr) (fun i _ => cs.length - (intOf i).toNat)
    case atStart => exact ⟨0, by omega, rfl, by show _ = _; simp, Below.refl _ _⟩
    case round =>
      obtain ⟨k, hk, rfl, HT, hT⟩ := hrel
      by_cases hlt : (k : Int) < (cs.length : Int)
      · have hkx : k < cs.length := by omega
        have hky : k < ds.length := by have := HL.out; omega
        obtain ⟨g, off, bo, m, c, rfl, hg, hc, hs⟩ := (HA.out.later hT).get hkx
        obtain ⟨g', off', bo', m', c', rfl, hg', hc', hs'⟩ := (HB.out.later hT).get hky
        have HE : Hid (eqC (cs.getD k []) (ds.getD k []) = true → cs.take (k + 1) = ds.take (k + 1)) := fun h => take_succL hkx hky HT.out (of_decide_eq_true h)
        have HD : Hid (eqC (cs.getD k []) (ds.getD k []) = false → ans = false) := fun h => by
          rw [HS.out]
          refine decide_eq_false fun he => ?_
          rw [he] at h
          exact absurd rfl (of_decide_eq_false h)
        have HC : Hid (∀ r, eqC (cs.getD k []) (ds.getD k []) = r → ∀ x : Ext wr, Calls Try.prog 95 #[.slice bo m c, .slice bo' m' c'] x.wd fun e W' => e = .returned (.bool r) ∧ Below x.wd.heap.size x.wd W') := fun r hr x => by
          have := rsameC_calls x.wd (hs.later x.le) (hs'.later x.le) (HX.out k)
          rwa [hr] at this
        have y0 : ∀ x : Ext wr, x.wd.cell? ⟨g, off + k, none⟩ = some (.slice bo m c) := fun x => (x.le.cell (p := ⟨g, off + k, none⟩) hg).trans hc
        have y1 : ∀ x : Ext wr, x.wd.cell? ⟨g', off' + k, none⟩ = some (.slice bo' m' c') := fun x => (x.le.cell (p := ⟨g', off' + k, none⟩) hg').trans hc'
        clear hs hs'
        cases hq : eqC (cs.getD k []) (ds.getD k [])
        · have hans := HD.out hq
          subst hans
          have HC1 : Hid (∀ x : Ext wr, Calls Try.prog 95 #[.slice bo m c, .slice bo' m' c'] x.wd fun e W' => e = .returned (.bool false) ∧ Below x.wd.heap.size x.wd W') := HC.out _ hq
          clear hq HC HE HD
          go_wp2_with fail
          refine wp_region_look hmx (by kernel_rfl) ?_
          repeat (go_big_quiet_step ((go_at_call 95; exact calls_ext (HC1.out _))))
          refine wpQuiet_nil ?_
          intro X
          have hT := then_below hT X.le
          go_wp2
          go_ret
          exact ⟨rfl, hT⟩
        · have HN : Hid (cs.take (k + 1) = ds.take (k + 1)) := HE.out hq
          have HC1 : Hid (∀ x : Ext wr, Calls Try.prog 95 #[.slice bo m c, .slice bo' m' c'] x.wd fun e W' => e = .returned (.bool true) ∧ Below x.wd.heap.size x.wd W') := HC.out _ hq
          clear hq HC HE HD
          go_wp2_with fail
          refine wp_region_look hmx (by kernel_rfl) ?_
          repeat (go_big_quiet_step ((go_at_call 95; exact calls_ext (HC1.out _))))
          refine wpQuiet_nil ?_
          intro X
          have hT := then_below hT X.le
          go_wp2
          go_roundw
          case rel => exact ⟨k + 1, by omega, by go_num, HN, hT⟩
          case measure => simp [intOf]; omega
      · have E : ans = true := by
          rw [HS.out]
          refine decide_eq_true ?_
          have h1 := HT.out
          rwa [List.take_of_length_le (by omega), List.take_of_length_le (by have := HL.out; omega)] at h1
        subst E
        go_wp2
        go_ret
        exact ⟨rfl, hT⟩
  · have E : ans = false := by rw [HS.out]; refine decide_eq_false fun he => ?_; rw [he] at hl; exact hl rfl
    subst E
    go_enter Try.func56, Try.ntmps56
    go_wp2
    go_ret
    exact ⟨rfl, Below.refl _ _⟩

attribute [local go_sem high] eqD_arrD

set_option maxRecDepth 100000 in
set_option maxHeartbeats 8000000 in
theorem rSameY_calls {a b c a' b' c' : Int} {n l n' l' : Value} {ns ls ns' ls' : List (List Slt)} (w : World) (hN : Yl w n ns) (hL : Yl w l ls) (hN' : Yl w n' ns') (hL' : Yl w l' ls') (h1 : ns.length ≤ 100000) (h2 : ls.length ≤ 100000) (hx1 : ∀ k, (ns.getD k []).length ≤ 100000) (hx2 : ∀ k, (ls.getD k []).length ≤ 100000) :
    Calls Try.prog 22 #[Y5 a b c n l, Y5 a' b' c' n' l'] w fun e W' => e = .returned (.bool (eqY a b c ns ls a' b' c' ns' ls')) ∧ Below w.heap.size w W' := by
  obtain ⟨W, hW, hB, hK, hK2⟩ := two_start w (K5 a b c n l) (K5 a' b' c' n' l') 26 26
  have HW : Hid ((w.alloc (.cells (K5 a b c n l) 26)).alloc (.cells (K5 a' b' c' n' l') 26) = W) := hW
  have H1 : Hid (Calls Try.prog 56 #[n, n'] W fun e W' => e = .returned (.bool (eqL2 ns ns')) ∧ Below W.heap.size W W') := rlists_calls W (hN.later hB) (hN'.later hB) h1 hx1
  have H2 : Hid (∀ w1, Below W.heap.size W w1 → Calls Try.prog 56 #[l, l'] w1 fun e W' => e = .returned (.bool (eqL2 ls ls')) ∧ Below w1.heap.size w1 W') := fun w1 hb => rlists_calls w1 (hL.later (then_below hB hb)) (hL'.later (then_below hB hb)) h2 hx2
  unfold eqY
  clear hW hN hL hN' hL' h1 h2 hx1 hx2
  generalize eqL2 ns ns' = q1 at *
  generalize eqL2 ls ls' = q2 at *
  cases hd : eqD a b c a' b' c'
  · clear H1 H2
    rw [Bool.false_and]
    go_enter Try.func22, Try.ntmps22
    go_wp2
    rw [HW.out]
    go_ret
    exact ⟨rfl, hB⟩
  · cases q1
    · clear H2
      go_enter Try.func22, Try.ntmps22
      go_wp2_with fail
      rw [HW.out]
      refine H1.out.mono ?_
      rintro e w1 ⟨rfl, hT⟩
      go_wp2
      go_ret
      exact ⟨rfl, then_below hB hT⟩
    · go_enter Try.func22, Try.ntmps22
      go_wp2_with fail
      rw [HW.out]
      refine H1.out.mono ?_
      rintro e w1 ⟨rfl, hT⟩
      obtain ⟨p0, p1, p2, p3, p4, hz⟩ := hK.yard hT
      obtain ⟨q0, q1, q2', q3, q4, hz'⟩ := hK2.yard hT
      go_wp2_with fail
      refine (H2.out _ hT).mono ?_
      rintro e w2 ⟨rfl, hB2⟩
      go_wp2
      go_ret
      exact ⟨rfl, then_below hB (then_below hT hB2)⟩

end Go.Proofs.Ytabhlmckncgdjaa
