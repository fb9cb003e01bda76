/-
  cals.Same: slices.Equal at slots, slices.EqualFunc over it.
-/
import Derived.Test.YtabhlmckncgdjaaCalsTurn
import Derived.Test.YtabhlmckncgdjaaPart6
import Derived.Test.YtabhlmckncgdjaaPart21
import Derived.Test.YtabhlmckncgdjaaCalsNew
import Derived.Test.YtabhlmckncgdjaaCalsPutB
import Derived.Test.YtabhlmckncgdjaaPart17
import Derived.BigRegion
import Derived.Test.YtabhlmckncgdjaaPart1
import Derived.Test.YtabhlmckncgdjaaRows
import Derived.ProofKit
import Derived.OpenShut
import Derived.ChangeOld
import Derived.Below
import Derived.Laws.IdiomArrays
import Derived.Test.YtabhlmckncgdjaaPart3
import Derived.ChangeSame
namespace Go.Proofs.Ytabhlmckncgdjaa
open Go Go.RowKit Go.Shelf

attribute [local go_sem] Oper.semAt_some ext_const
attribute [local go_sem high] eq_slot

set_option maxRecDepth 100000 in
set_option maxHeartbeats 4000000 in
theorem equal_calls {xs ys : List Slt} {u v : Value} (w : World) (hu : Ss w u xs) (hv : Ss w v ys) (hx : xs.length ≤ 100000) :
    Calls Try.prog 58 #[u, v] w fun e W' => e = .returned (.bool (eqC xs ys)) ∧ Below w.heap.size w W' := by
  have hmx : Try.prog.follows .mixedOrders = true := by kernel_rfl
  obtain ⟨ao, cap, rfl, hu⟩ := hu.form
  obtain ⟨ao', cap', rfl, hv⟩ := hv.form
  have HA : Hid (Ss w (.slice ao xs.length cap) xs) := hu
  have HB : Hid (Ss w (.slice ao' ys.length cap') ys) := hv
  clear hu hv
  obtain ⟨ans, hans⟩ : ∃ ans, ans = eqC xs ys := ⟨_, rfl⟩
  rw [← hans]
  have HS : Hid (ans = eqC xs ys) := hans
  clear hans
  by_cases hl : (xs.length : Int) = ys.length
  · have hl' : ys.length = xs.length := by omega
    clear hl
    have HL : Hid (ys.length = xs.length) := hl'
    rw [hl'] at HB ⊢
    clear hl'
    go_enter Try.func58, Try.ntmps58
    go_wp2
    go_loopw [13] (fun i wr => ∃ k : Nat, k ≤ xs.length ∧ i = .int .i64 k ∧ Hid (xs.take k = ys.take k) ∧ Below w.heap.size w wr) (fun i _ => xs.length - (intOf i).toNat)
    case atStart => exact ⟨0, by omega, rfl, by show _ = _; simp, Below.refl _ _⟩
    case round =>
      obtain ⟨k, hk, rfl, HT, hT⟩ := hrel
      by_cases hlt : (k : Int) < (xs.length : Int)
      · have hkx : k < xs.length := by omega
        have hky : k < ys.length := by have := HL.out; omega
        obtain ⟨g, off, f, t, o, rfl, hu1, hat1⟩ := (HA.out.later hT).at hkx
        obtain ⟨g', off', f', t', o', rfl, hu2, hat2⟩ := (HB.out.later hT).at hky
        obtain ⟨c0, c1, c2⟩ := hat1.ext
        obtain ⟨d0, d1, d2⟩ := hat2.ext
        have HE : Hid (eqSl (f, t, o) (f', t', o') = true → xs.take (k + 1) = ys.take (k + 1)) := fun h => takeC_succ hkx hky HT.out (by rw [hu1, hu2]; simpa [eqSl] using h)
        have HD : Hid (eqSl (f, t, o) (f', t', o') = false → ans = false) := fun h => by
          rw [HS.out]
          refine decide_eq_false fun he => ?_
          have : (f, t, o) = (f', t', o') := by rw [← hu1, ← hu2, he]
          rw [this] at h
          simp [eqSl] at h
        clear hu1 hu2 hat1 hat2
        cases hq : eqSl (f, t, o) (f', t', o')
        · have hans := HD.out hq
          subst hans
          go_wp2
          refine wp_region_look hmx (by kernel_rfl) ?_
          repeat (go_big_quiet_step (fail))
          refine wpQuiet_nil ?_
          intro X
          go_wp2
          go_ret
          exact ⟨rfl, then_below hT X.le⟩
        · have HN : Hid (xs.take (k + 1) = ys.take (k + 1)) := HE.out hq
          go_wp2
          refine wp_region_look hmx (by kernel_rfl) ?_
          repeat (go_big_quiet_step (fail))
          refine wpQuiet_nil ?_
          intro X
          go_wp2
          go_roundw
          case rel => exact ⟨k + 1, by omega, by go_num, HN, then_below hT X.le⟩
          case measure => simp [intOf]; omega
      · have E : ans = true := by
          rw [HS.out]
          refine decide_eq_true ?_
          have h1 := HT.out
          rwa [List.take_of_length_le (by omega), List.take_of_length_le (by have := HL.out; omega)] at h1
        subst E
        go_wp2
        go_ret
        exact ⟨rfl, hT⟩
  · have E : ans = false := by rw [HS.out]; refine decide_eq_false fun he => ?_; rw [he] at hl; exact hl rfl
    subst E
    go_enter Try.func58, Try.ntmps58
    go_wp2
    go_ret
    exact ⟨rfl, Below.refl _ _⟩

theorem samec_calls {xs ys : List Slt} {u v : Value} {r : Bool} (hr : eqC xs ys = r) (w : World) (hu : Ss w u xs) (hv : Ss w v ys) (hx : xs.length ≤ 100000) :
    Calls Try.prog 57 #[u, v] w fun e W' => e = .returned (.bool r) ∧ Below w.heap.size w W' := by
  have H : Hid (Calls Try.prog 58 #[u, v] w fun e W' => e = .returned (.bool r) ∧ Below w.heap.size w W') := by
    have := equal_calls w hu hv hx
    rwa [hr] at this
  clear hr hu hv
  go_enter Try.func57, Try.ntmps57
  go_wp2_with fail
  refine H.out.mono ?_
  rintro e w1 ⟨rfl, hT⟩
  go_wp2
  go_ret
  exact ⟨rfl, hT⟩

def eqL2 (cs ds : List (List Slt)) : Bool := decide (cs = ds)
theorem take_succL {xs ys : List (List Slt)} {k : Nat} (hx : k < xs.length) (hy : k < ys.length) (h : xs.take k = ys.take k) (he : xs.getD k [] = ys.getD k []) : xs.take (k + 1) = ys.take (k + 1) := by
  rw [List.take_succ_eq_append_getElem hx, List.take_succ_eq_append_getElem hy, h]
  simp [hx, hy] at he
  rw [he]

set_option maxRecDepth 100000 in
set_option maxHeartbeats 4000000 in
theorem equalF_calls {cs ds : List (List Slt)} {u v : Value} (w : World) (hu : Yl w u cs) (hv : Yl w v ds) (hn : cs.length ≤ 100000) (hx : ∀ k, (cs.getD k []).length ≤ 100000) :
    Calls Try.prog 59 #[u, v, .func (.func 57) #[] #[]] w fun e W' => e = .returned (.bool (eqL2 cs ds)) ∧ Below w.heap.size w W' := by
  obtain ⟨ao, cap, rfl, hu⟩ := hu.form
  obtain ⟨ao', cap', rfl, hv⟩ := hv.form
  have HA : Hid (Yl w (.slice ao cs.length cap) cs) := hu
  have HB : Hid (Yl w (.slice ao' ds.length cap') ds) := hv
  have HX : Hid (∀ k, (cs.getD k []).length ≤ 100000) := hx
  clear hu hv hx
  obtain ⟨ans, hans⟩ : ∃ ans, ans = eqL2 cs ds := ⟨_, rfl⟩
  rw [← hans]
  have HS : Hid (ans = eqL2 cs ds) := hans
  clear hans
  by_cases hl : (cs.length : Int) = ds.length
  · have hl' : ds.length = cs.length := by omega
    clear hl
    have HL : Hid (ds.length = cs.length) := hl'
    rw [hl'] at HB ⊢
    clear hl'
    go_enter Try.func59, Try.ntmps59
    go_wp2
    go_loopw [17] (fun i wr => ∃ k : Nat, k ≤ cs.length ∧ i = .int .i64 k ∧ Hid (cs.take k = ds.take k) ∧ Below w.heap.size w wr) (fun i _ => cs.length - (intOf i).toNat)
    case atStart => exact ⟨0, by omega, rfl, by show _ = _; simp, Below.refl _ _⟩
    case round =>
      obtain ⟨k, hk, rfl, HT, hT⟩ := hrel
      by_cases hlt : (k : Int) < (cs.length : Int)
      · have hkx : k < cs.length := by omega
        have hky : k < ds.length := by have := HL.out; omega
        obtain ⟨g, off, bo, m, c, rfl, hg, hc, hs⟩ := (HA.out.later hT).get hkx
        obtain ⟨g', off', bo', m', c', rfl, hg', hc', hs'⟩ := (HB.out.later hT).get hky
        have HE : Hid (eqC (cs.getD k []) (ds.getD k []) = true → cs.take (k + 1) = ds.take (k + 1)) := fun h => take_succL hkx hky HT.out (of_decide_eq_true h)
        have HD : Hid (eqC (cs.getD k []) (ds.getD k []) = false → ans = false) := fun h => by
          rw [HS.out]
          refine decide_eq_false fun he => ?_
          rw [he] at h
          exact absurd rfl (of_decide_eq_false h)
        have HC : Hid (∀ r, eqC (cs.getD k []) (ds.getD k []) = r → Calls Try.prog 57 #[.slice bo m c, .slice bo' m' c'] wr fun e W' => e = .returned (.bool r) ∧ Below wr.heap.size wr W') := fun r hr => samec_calls hr wr hs hs' (HX.out k)
        clear hs hs'
        cases hq : eqC (cs.getD k []) (ds.getD k [])
        · have hans := HD.out hq
          subst hans
          have HC1 : Hid (Calls Try.prog 57 #[.slice bo m c, .slice bo' m' c'] wr fun e W' => e = .returned (.bool false) ∧ Below wr.heap.size wr W') := HC.out _ hq
          clear hq HC HE HD
          go_wp2_with fail
          refine HC1.out.mono ?_
          rintro e w1 ⟨rfl, hB1⟩
          go_wp2
          go_ret
          exact ⟨rfl, then_below hT hB1⟩
        · have HN : Hid (cs.take (k + 1) = ds.take (k + 1)) := HE.out hq
          have HC1 : Hid (Calls Try.prog 57 #[.slice bo m c, .slice bo' m' c'] wr fun e W' => e = .returned (.bool true) ∧ Below wr.heap.size wr W') := HC.out _ hq
          clear hq HC HE HD
          go_wp2_with fail
          refine HC1.out.mono ?_
          rintro e w1 ⟨rfl, hB1⟩
          go_wp2
          go_roundw
          case rel => exact ⟨k + 1, by omega, by go_num, HN, then_below hT hB1⟩
          case measure => simp [intOf]; omega
      · have E : ans = true := by
          rw [HS.out]
          refine decide_eq_true ?_
          have h1 := HT.out
          rwa [List.take_of_length_le (by omega), List.take_of_length_le (by have := HL.out; omega)] at h1
        subst E
        go_wp2
        go_ret
        exact ⟨rfl, hT⟩
  · have E : ans = false := by rw [HS.out]; refine decide_eq_false fun he => ?_; rw [he] at hl; exact hl rfl
    subst E
    go_enter Try.func59, Try.ntmps59
    go_wp2
    go_ret
    exact ⟨rfl, Below.refl _ _⟩

def eqD (a b c a' b' c' : Int) : Bool := a == a' && (b == b' && c == c')
/-- Whether two machines' calendars are the same. -/
def eqY (a b c : Int) (ns ls : List (List Slt)) (a' b' c' : Int) (ns' ls' : List (List Slt)) : Bool := eqD a b c a' b' c' && (eqL2 ns ns' && eqL2 ls ls')
set_option maxRecDepth 100000 in
theorem eqD_arr (a b c a' b' c' : Int) (w : World) : (Op.equalIn 10000 22 (.agg #[.int .i64 a, .int .i64 b, .int .i64 c]) (.agg #[.int .i64 a', .int .i64 b', .int .i64 c'])).run Try.prog w = .ok (eqD a b c a' b' c') w := eq_arr a b c a' b' c' w
set_option maxRecDepth 100000 in
theorem eqD_arrD (a b c a' b' c' : Int) (w : World) : (Op.equalIn 10000 23 (.agg #[.int .i64 a, .int .i64 b, .int .i64 c]) (.agg #[.int .i64 a', .int .i64 b', .int .i64 c'])).run Try.prog w = .ok (eqD a b c a' b' c') w := by
  obtain ⟨i, hi⟩ : ∃ i, Try.prog.info? 3 = some i := ⟨_, rfl⟩
  exact eqIn_arr3 Try.underlying23 Try.underlying3 hi (by kernel_rfl) (by kernel_rfl) a b c a' b' c' w
attribute [local go_sem high] eqD_arrD

set_option maxRecDepth 100000 in
set_option maxHeartbeats 8000000 in
theorem ySame_calls {a b c a' b' c' : Int} {n l n' l' : Value} {ns ls ns' ls' : List (List Slt)} (w : World) (hN : Yl w n ns) (hL : Yl w l ls) (hN' : Yl w n' ns') (hL' : Yl w l' ls') (h1 : ns.length ≤ 100000) (h2 : ls.length ≤ 100000) (hx1 : ∀ k, (ns.getD k []).length ≤ 100000) (hx2 : ∀ k, (ls.getD k []).length ≤ 100000) :
    Calls Try.prog 24 #[Y5 a b c n l, Y5 a' b' c' n' l'] w fun e W' => e = .returned (.bool (eqY a b c ns ls a' b' c' ns' ls')) ∧ Below w.heap.size w W' := by
  obtain ⟨W, hW, hB, hK, hK2⟩ := two_start w (K5 a b c n l) (K5 a' b' c' n' l') 26 26
  have HW : Hid ((w.alloc (.cells (K5 a b c n l) 26)).alloc (.cells (K5 a' b' c' n' l') 26) = W) := hW
  have H1 : Hid (Calls Try.prog 59 #[n, n', .func (.func 57) #[] #[]] W fun e W' => e = .returned (.bool (eqL2 ns ns')) ∧ Below W.heap.size W W') := equalF_calls W (hN.later hB) (hN'.later hB) h1 hx1
  have H2 : Hid (∀ w1, Below W.heap.size W w1 → Calls Try.prog 59 #[l, l', .func (.func 57) #[] #[]] w1 fun e W' => e = .returned (.bool (eqL2 ls ls')) ∧ Below w1.heap.size w1 W') := fun w1 hb => equalF_calls w1 (hL.later (then_below hB hb)) (hL'.later (then_below hB hb)) h2 hx2
  unfold eqY
  clear hW hN hL hN' hL' h1 h2 hx1 hx2
  generalize eqL2 ns ns' = q1 at *
  generalize eqL2 ls ls' = q2 at *
  cases hd : eqD a b c a' b' c'
  · clear H1 H2
    rw [Bool.false_and]
    go_enter Try.func24, Try.ntmps24
    go_wp2
    rw [HW.out]
    go_ret
    exact ⟨rfl, hB⟩
  · cases q1
    · clear H2
      go_enter Try.func24, Try.ntmps24
      go_wp2_with fail
      rw [HW.out]
      refine H1.out.mono ?_
      rintro e w1 ⟨rfl, hT⟩
      go_wp2
      go_ret
      exact ⟨rfl, then_below hB hT⟩
    · go_enter Try.func24, Try.ntmps24
      go_wp2_with fail
      rw [HW.out]
      refine H1.out.mono ?_
      rintro e w1 ⟨rfl, hT⟩
      obtain ⟨p0, p1, p2, p3, p4, hz⟩ := hK.yard hT
      obtain ⟨q0, q1, q2', q3, q4, hz'⟩ := hK2.yard hT
      go_wp2_with fail
      refine (H2.out _ hT).mono ?_
      rintro e w2 ⟨rfl, hB2⟩
      go_wp2
      go_ret
      exact ⟨rfl, then_below hB (then_below hT hB2)⟩

end Go.Proofs.Ytabhlmckncgdjaa

/-
  The statements of cals: two, alive.
-/
namespace Go.Proofs.Ytabhlmckncgdjaa
open Go Go.RowKit Go.Shelf

attribute [local go_sem] Oper.semAt_some ext_const

def twoN : List (List Slt) := [[(0, 3, 5)], []]
def twoL : List (List Slt) := [[(0, 3, 5)], [], [], [], [], []]
theorem two_new : newE 2 1 1 = 0 := by decide +kernel
theorem two_n0 : emptyC 2 = [[], []] := by decide +kernel
theorem two_l0 : emptyC 6 = [[], [], [], [], [], []] := by decide +kernel
theorem two_err : putYE 2 1 1 [[], []] [[], [], [], [], [], []] [1] [1] 0 3 5 = 0 := by decide +kernel
theorem two_nodes : putsY [[], []] [1] (0, 3, 5) = twoN := by decide +kernel
theorem two_links : putsY [[], [], [], [], [], []] [1] (0, 3, 5) = twoL := by decide +kernel
theorem two_may : mayY 2 1 1 twoN twoL := mayYB_iff.1 (by decide +kernel)
theorem two_n : twoN.length = 2 := rfl
theorem two_l : twoL.length = 6 := rfl

theorem word1 {x : Nat} (h : x < 18446744073709551616) : ∀ y ∈ [x], y < 18446744073709551616 := by
  intro y hy
  simp at hy
  omega
theorem wds_lit {W : World} {g x : Nat} (h : x < 18446744073709551616) (hb : Blk W g 32 #[U x]) : Wds W (.slice (some ⟨g, 0, none⟩) 1 1) [x] := wds_of_blk (ws := [x]) (word1 h) hb 1

set_option maxRecDepth 100000 in
set_option maxHeartbeats 8000000 in
theorem two_calls2 (w : World) : Calls Try.prog 9 #[] w fun e W' => ∃ u v, e = .returned (.tuple #[Y5 2 1 1 u v, .bool true]) ∧ Yo W' w.heap.size u twoN ∧ Yo W' w.heap.size v twoL ∧ Below w.heap.size w W' := by
  have hmx : Try.prog.follows .mixedOrders = true := by kernel_rfl
  have H1 : Hid (∀ w, Calls Try.prog 20 #[A3 2 1 1] w fun e W' => ∃ u v, e = .returned (.tuple #[Y5 2 1 1 u v, I 0]) ∧ Yo W' w.heap.size u [[], []] ∧ Yo W' w.heap.size v [[], [], [], [], [], []] ∧ Below w.heap.size w W') := fun w => by
    have := yNew_calls (a := 2) (b := 1) (c := 1) w
    rw [two_new] at this
    simp only [dim_ok, rows_ok] at this
    rwa [show emptyC (2 * 1 * 1) = [[], []] from two_n0, show emptyC (3 * (2 * 1 * 1)) = [[], [], [], [], [], []] from two_l0] at this
  have H2 : Hid (∀ w n l vm vl, Yl w n [[], []] → Yl w l [[], [], [], [], [], []] → Wds w vm [1] → Wds w vl [1] → Calls Try.prog 10 #[Y5 2 1 1 n l, I 5, vm, vl, S2 0 3] w fun e W' => ∃ u v, e = .returned (.tuple #[Y5 2 1 1 u v, I 0]) ∧ Yo W' w.heap.size u twoN ∧ Yo W' w.heap.size v twoL ∧ Below w.heap.size w W') := fun w n l vm vl h1 h2 h3 h4 => by
    have := yPut_calls (a := 2) (b := 1) (c := 1) (f := 0) (t := 3) (o := 5) w h1 h2 h3 h4
    rw [two_err] at this
    simp only [dim_ok, rows_ok] at this
    rwa [two_nodes, two_links] at this
  obtain ⟨W0, hW0, hB0, hR⟩ := one_start w (K5 0 0 0 (.slice none 0 0) (.slice none 0 0)) 26
  have HW0 : Hid (w.alloc (.cells (K5 0 0 0 (.slice none 0 0) (.slice none 0 0)) 26) = W0) := hW0
  clear hW0
  go_enter Try.func9, Try.ntmps9
  go_wp2_with fail
  rw [HW0.out]
  refine (H1.out _).mono ?_
  rintro e w1 ⟨u, v, rfl, hU, hV, hT⟩
  obtain ⟨ao1, n1, c1, rfl⟩ := hU.slice
  obtain ⟨ao2, n2, c2, rfl⟩ := hV.slice
  obtain ⟨W1, hW1, hB1, hy, hm, hl⟩ := three_boxes w1 (K5 2 1 1 (.slice ao1 n1 c1) (.slice ao2 n2 c2)) #[.int .u64 1] #[.int .u64 1] 26 32 32
  have HW1 : Hid (((w1.alloc (.cells (K5 2 1 1 (.slice ao1 n1 c1) (.slice ao2 n2 c2)) 26)).alloc (.cells #[.int .u64 1] 32)).alloc (.cells #[.int .u64 1] 32) = W1) := hW1
  have HU : Hid (Yl W1 (.slice ao1 n1 c1) [[], []]) := (hU.later hB1).yl
  have HV : Hid (Yl W1 (.slice ao2 n2 c2) [[], [], [], [], [], []]) := (hV.later hB1).yl
  have HM : Hid (Wds W1 (.slice (some ⟨w1.heap.size + 1, 0, none⟩) 1 1) [1]) := wds_lit (x := 1) (by decide) hm
  have HL : Hid (Wds W1 (.slice (some ⟨w1.heap.size + 1 + 1, 0, none⟩) 1 1) [1]) := wds_lit (x := 1) (by decide) hl
  clear hU hV hW1 hm hl
  go_wp2_with fail
  rw [HW1.out]
  refine (H2.out _ _ _ _ _ HU.out HV.out HM.out HL.out).mono ?_
  rintro e w2 ⟨u, v, rfl, hU, hV, hT2⟩
  obtain ⟨ao3, c3, rfl, _⟩ := hU.yl.form
  obtain ⟨ao4, c4, rfl, _⟩ := hV.yl.form
  rw [two_n] at hU ⊢
  rw [two_l] at hV ⊢
  obtain ⟨W2, hW2, hB2, hy2⟩ := one_start w2 (K5 2 1 1 (.slice ao3 2 c3) (.slice ao4 6 c4)) 26
  have hT3 : Below w.heap.size w W2 := then_below hB0 (then_below hT (then_below hB1 (then_below hT2 hB2)))
  have hR2 : Blk W2 w.heap.size 26 (K5 0 0 0 (.slice none 0 0) (.slice none 0 0)) := hR.later (then_below hT (then_below hB1 (then_below hT2 hB2)))
  have HW2 : Hid (w2.alloc (.cells (K5 2 1 1 (.slice ao3 2 c3) (.slice ao4 6 c4)) 26) = W2) := hW2
  obtain ⟨p0, p1, p2, p3, p4, hz⟩ := hy2.five
  obtain ⟨q0, q1, q2, q3, q4, hzq⟩ := hR2.five
  obtain ⟨f0, f1, f2, f3, f4⟩ := hR2.row5
  clear hW2
  have hne : w.heap.size < w2.heap.size := (hR.later (then_below hT (then_below hB1 hT2))).lt
  go_wp2
  rw [HW2.out]
  go_region
  have HS := (hR2.set5 (.int .i64 2) (.int .i64 1) (.int .i64 1) (.slice ao3 2 c3) (.slice ao4 6 c4)).drew
  have hlow := (below_set5 hT3 (Nat.le_refl _) (.int .i64 2) (.int .i64 1) (.int .i64 1) (.slice ao3 2 c3) (.slice ao4 6 c4)).drew
  have hsz : w.heap.size < W1.heap.size := (hR.later (then_below hT hB1)).lt
  have hd := (Below.refl (put5 W2 w.heap.size (.int .i64 2) (.int .i64 1) (.int .i64 1) (.slice ao3 2 c3) (.slice ao4 6 c4)).heap.size (put5 W2 w.heap.size (.int .i64 2) (.int .i64 1) (.int .i64 1) (.slice ao3 2 c3) (.slice ao4 6 c4))).drew
  have HU2 : Hid (Yo (put5 W2 w.heap.size (.int .i64 2) (.int .i64 1) (.int .i64 1) (.slice ao3 2 c3) (.slice ao4 6 c4)).drew w.heap.size (.slice ao3 2 c3) twoN) := (((hU.later hB2).put5 hsz _ _ _ _ _).weak (Nat.le_of_lt hsz)).later hd
  have HV2 : Hid (Yo (put5 W2 w.heap.size (.int .i64 2) (.int .i64 1) (.int .i64 1) (.slice ao3 2 c3) (.slice ao4 6 c4)).drew w.heap.size (.slice ao4 6 c4) twoL) := (((hV.later hB2).put5 hsz _ _ _ _ _).weak (Nat.le_of_lt hsz)).later hd
  clear hU hV hd
  obtain ⟨j0, j1, j2, j3, j4, _⟩ := HS.five
  go_wp2
  exact bodyPost_ret (v := .tuple #[Y5 2 1 1 (.slice ao3 2 c3) (.slice ao4 6 c4), .bool true]) (by simp [results, Try.f9, go_sem, j0, j1, j2, j3, j4]) rfl ⟨_, _, rfl, HU2.out, HV2.out, hlow⟩

theorem two_busy1 : busyE 2 1 1 twoN twoL 2 4 = 0 := by decide +kernel
theorem two_busy2 : busyE 2 1 1 twoN twoL 3 4 = 0 := by decide +kernel
theorem two_set1 : wordsE 0 twoN.length (busyP twoN 2 4) = [1] := by decide +kernel
theorem two_set2 : wordsE 0 twoL.length (busyP twoL 2 4) = [1] := by decide +kernel
theorem two_set3 : wordsE 0 twoN.length (busyP twoN 3 4) = [0] := by decide +kernel
theorem two_set4 : wordsE 0 twoL.length (busyP twoL 3 4) = [0] := by decide +kernel

/-- What a set that is written out is held against. -/
theorem same_lit {x : Nat} (h : x < 18446744073709551616) {ws : List Nat} {u : Value} {g : Nat} (w : World) (hu : Wds w u ws) (hb : Blk w g 32 #[U x]) (hl : ws.length ≤ 100000) : Calls Try.prog 29 #[u, .slice (some ⟨g, 0, none⟩) 1 1] w fun e W' => e = .returned (.bool (decide (ws = [x]))) ∧ Below w.heap.size w W' := sameS_calls w hu (wds_lit h hb) hl

set_option maxRecDepth 100000 in
set_option maxHeartbeats 8000000 in
theorem aliveY_calls (w : World) : Calls Try.prog 11 #[] w fun e W' => e = .returned (.bool true) ∧ Below w.heap.size w W' := by
  have H2 : Hid (∀ w, Calls Try.prog 9 #[] w fun e W' => ∃ u v, e = .returned (.tuple #[Y5 2 1 1 u v, .bool true]) ∧ Yo W' w.heap.size u twoN ∧ Yo W' w.heap.size v twoL ∧ Below w.heap.size w W') := two_calls2
  have HB1 : Hid (∀ w n l, Yl w n twoN → Yl w l twoL → Calls Try.prog 25 #[Y5 2 1 1 n l, S2 2 4] w fun e W' => ∃ u v, e = .returned (.tuple #[u, v, I 0]) ∧ SetR W' w.heap.size u [1] ∧ SetR W' w.heap.size v [1] ∧ Below w.heap.size w W') := fun w n l h1 h2 => by
    have := yBusy_calls (a := 2) (b := 1) (c := 1) (x := 2) (y := 4) w h1 h2
    rwa [two_busy1, two_set1, two_set2] at this
  have HB2 : Hid (∀ w n l, Yl w n twoN → Yl w l twoL → Calls Try.prog 25 #[Y5 2 1 1 n l, S2 3 4] w fun e W' => ∃ u v, e = .returned (.tuple #[u, v, I 0]) ∧ SetR W' w.heap.size u [0] ∧ SetR W' w.heap.size v [0] ∧ Below w.heap.size w W') := fun w n l h1 h2 => by
    have := yBusy_calls (a := 2) (b := 1) (c := 1) (x := 3) (y := 4) w h1 h2
    rwa [two_busy2, two_set3, two_set4] at this
  have HS1 : Hid (∀ w u g, Wds w u [1] → Blk w g 32 #[.int .u64 1] → Calls Try.prog 29 #[u, .slice (some ⟨g, 0, none⟩) 1 1] w fun e W' => e = .returned (.bool true) ∧ Below w.heap.size w W') := fun w u g h1 h2 => same_lit (x := 1) (by decide) w h1 h2 (by simp)
  have HS0 : Hid (∀ w u g, Wds w u [0] → Blk w g 32 #[.int .u64 0] → Calls Try.prog 29 #[u, .slice (some ⟨g, 0, none⟩) 1 1] w fun e W' => e = .returned (.bool true) ∧ Below w.heap.size w W') := fun w u g h1 h2 => same_lit (x := 0) (by decide) w h1 h2 (by simp)
  go_enter Try.func11, Try.ntmps11
  go_wp2_with fail
  refine (H2.out _).mono ?_
  rintro e w1 ⟨u, v, rfl, hU, hV, hT⟩
  obtain ⟨ao1, n1, c1, rfl⟩ := hU.slice
  obtain ⟨ao2, n2, c2, rfl⟩ := hV.slice
  obtain ⟨W1, hW1, hB1, hy⟩ := one_start w1 (K5 2 1 1 (.slice ao1 n1 c1) (.slice ao2 n2 c2)) 26
  have HW1 : Hid (w1.alloc (.cells (K5 2 1 1 (.slice ao1 n1 c1) (.slice ao2 n2 c2)) 26) = W1) := hW1
  have HU : Hid (Yl W1 (.slice ao1 n1 c1) twoN) := (hU.later hB1).yl
  have HV : Hid (Yl W1 (.slice ao2 n2 c2) twoL) := (hV.later hB1).yl
  have hT1 := then_below hT hB1
  clear hU hV hW1 hT hB1
  go_wp2_with fail
  rw [HW1.out]
  refine (HB1.out _ _ _ HU.out HV.out).mono ?_
  rintro e w2 ⟨s1, s2, rfl, hs1, hs2, hB2⟩
  obtain ⟨p0, p1, p2, p3, p4, hz⟩ := hy.yard hB2
  go_wp2_with fail
  refine (HB2.out _ _ _ (HU.out.later hB2) (HV.out.later hB2)).mono ?_
  rintro e w3 ⟨s3, s4, rfl, hs3, hs4, hB3⟩
  have hT3 := then_below hT1 (then_below hB2 hB3)
  have hA1 := (Below.refl _ w3).alloc (Nat.le_refl _) (.cells #[.int .u64 1] 32)
  have G1 : Hid (Wds (w3.alloc (.cells #[.int .u64 1] 32)) s1 [1]) := (hs1.wds.later hB3).later hA1
  have G2 : Hid (Wds w3 s2 [1]) := hs2.wds.later hB3
  have G3 : Hid (Wds w3 s3 [0]) := hs3.wds
  have G4 : Hid (Wds w3 s4 [0]) := hs4.wds
  clear p0 p1 p2 p3 p4 hz hs1 hs2 hs3 hs4 hy hB2 hB3 hT1
  go_wp2_with fail
  refine (HS1.out _ _ _ G1.out (Blk.new _ _ _)).mono ?_
  rintro e w4 ⟨rfl, hB4⟩
  have hT4 := then_below hA1 hB4
  have hA2 := (Below.refl _ w4).alloc (Nat.le_refl _) (.cells #[.int .u64 1] 32)
  have G2' : Hid (Wds (w4.alloc (.cells #[.int .u64 1] 32)) s2 [1]) := (G2.out.later hT4).later hA2
  go_wp2_with fail
  refine (HS1.out _ _ _ G2'.out (Blk.new _ _ _)).mono ?_
  rintro e w5 ⟨rfl, hB5⟩
  have hT5 := then_below hT4 (then_below hA2 hB5)
  have hA3 := (Below.refl _ w5).alloc (Nat.le_refl _) (.cells #[.int .u64 0] 32)
  have G3' : Hid (Wds (w5.alloc (.cells #[.int .u64 0] 32)) s3 [0]) := (G3.out.later hT5).later hA3
  go_wp2_with fail
  refine (HS0.out _ _ _ G3'.out (Blk.new _ _ _)).mono ?_
  rintro e w6 ⟨rfl, hB6⟩
  have hT6 := then_below hT5 (then_below hA3 hB6)
  have hA4 := (Below.refl _ w6).alloc (Nat.le_refl _) (.cells #[.int .u64 0] 32)
  have G4' : Hid (Wds (w6.alloc (.cells #[.int .u64 0] 32)) s4 [0]) := (G4.out.later hT6).later hA4
  go_wp2_with fail
  refine (HS0.out _ _ _ G4'.out (Blk.new _ _ _)).mono ?_
  rintro e w7 ⟨rfl, hB7⟩
  have hT7 := then_below hT6 (then_below hA4 hB7)
  go_wp2
  go_ret
  exact ⟨rfl, then_below hT3 hT7⟩

end Go.Proofs.Ytabhlmckncgdjaa

/-
  How the arguments of this seat's statements are opened: whole numbers, and rows of three of them.
-/
namespace Go.Proofs.Ytabhlmckncgdjaa
open Go.ChangeShapes Go.WideShapes Go.ChangeAt Go.RowKit

theorem own : ownKnob Try.prog.godebug = none := by kernel_rfl
theorem laidOut : laidOutB Try.prog = true := by kernel_rfl

theorem list3 {α : Type} (l : List α) (h : (⟨l⟩ : Array α).size = 3) : ∃ a b c, l = [a, b, c] := by
  match l, h with
  | [a, b, c], _ => exact ⟨a, b, c, rfl⟩

/-- A row of three whole numbers, by value. -/
theorem open_arr3 {P : Program} {w : World} {H : Type} {enc : TypeId × Value → H} {r : Reach} {b0 base : Nat} {spare : Nat → Bool} {held : Bool} {t e : TypeId} {v : Value} {d : DataW H} {p : List MemPlace}
    (ht : P.underlying t = some (.array 3 e)) (he : P.underlying e = some (.int .i64)) (hce : P.cellsOf e = 1) (hct : P.cellsOf t = 3)
    (hv : Value.okWide P w r b0 t v) (h : DataW.Trod enc P w base spare held t v d p) :
    ∃ a b c : Int, v = A3 a b c ∧ (Lit.int .i64 a).wf = true ∧ (Lit.int .i64 b).wf = true ∧ (Lit.int .i64 c).wf = true := by
  obtain ⟨cs, rfl, hsz, _⟩ : ∃ cs, v = .agg cs ∧ cs.size = P.cellsOf t ∧ Row.okWide P w r b0 t cs := by
    simpa [Value.okWide, ht] using hv
  rw [hct] at hsz
  obtain ⟨l⟩ := cs
  obtain ⟨c0, c1, c2, rfl⟩ := list3 l hsz
  obtain ⟨fuel, hf⟩ := h
  obtain ⟨y0, y1, y2, m, hx, hy0, hy1, hy2⟩ := trod_array3 ht hce hf
  obtain ⟨x0, e0, rfl, w0⟩ := DataW.trod_int he hy0
  obtain ⟨x1, e1, rfl, w1⟩ := DataW.trod_int he hy1
  obtain ⟨x2, e2, rfl, w2⟩ := DataW.trod_int he hy2
  simp at e0 e1 e2
  subst e0 e1 e2
  exact ⟨x0, x1, x2, rfl, w0, w1, w2⟩

theorem open_num {P : Program} {w : World} {H : Type} {enc : TypeId × Value → H} {r : Reach} {b0 base : Nat} {spare : Nat → Bool} {held : Bool} {t : TypeId} {k : IntKind} {v : Value} {d : DataW H} {p : List MemPlace}
    (ht : P.underlying t = some (.int k)) (hv : Value.okWide P w r b0 t v) (h : DataW.Trod enc P w base spare held t v d p) :
    ∃ a : Int, v = .int k a ∧ (Lit.int k a).wf = true := by
  obtain ⟨x, rfl, rfl, rfl, wx⟩ := open_int ht hv h
  exact ⟨x, rfl, wx⟩

theorem trod_lt' {H : Type} {enc : TypeId × Value → H} {P : Program} {W : World} {t : TypeId} {v : Value} {d : DataW H} {ps : List MemPlace} {sp : Nat → Bool} (h : DataW.Trod enc P W 0 sp true t v d ps) : ∀ x ∈ ps, x.block < W.heap.size := by
  obtain ⟨m, hm⟩ := h; exact DataW.trod_lt m _ _ _ hm

end Go.Proofs.Ytabhlmckncgdjaa

/-
  How a span among a statement's arguments is opened: two whole numbers.
-/
namespace Go.Proofs.Ytabhlmckncgdjaa
open Go.ChangeShapes Go.WideShapes Go.ChangeAt Go.RowKit

theorem list2 {α : Type} (l : List α) (h : (⟨l⟩ : Array α).size = 2) : ∃ a b, l = [a, b] := by
  match l, h with
  | [a, b], _ => exact ⟨a, b, rfl⟩

set_option maxRecDepth 100000 in
theorem open_span {w : World} {H : Type} {enc : TypeId × Value → H} {r : Reach} {b0 base : Nat} {spare : Nat → Bool} {held : Bool} {v : Value} {d : DataW H} {p : List MemPlace}
    (hv : Value.okWide Try.prog w r b0 36 v) (h : DataW.Trod enc Try.prog w base spare held 36 v d p) : ∃ f t : Int, v = S2 f t := by
  obtain ⟨f0, f1, hu, t0, o0, t1, o1⟩ : ∃ f0 f1, Try.prog.underlying 36 = some (.struct #[f0, f1]) ∧ f0.type = 3 ∧ f0.offset = 0 ∧ f1.type = 3 ∧ f1.offset = 1 := ⟨_, _, rfl, rfl, rfl, rfl, rfl⟩
  obtain ⟨cs, rfl, hsz, _⟩ : ∃ cs, v = .agg cs ∧ cs.size = Try.prog.cellsOf 36 ∧ Row.okWide Try.prog w r b0 36 cs := by
    simpa [Value.okWide, hu] using hv
  have hct : Try.prog.cellsOf 36 = 2 := by kernel_rfl
  rw [hct] at hsz
  obtain ⟨l⟩ := cs
  obtain ⟨c0, c1, rfl⟩ := list2 l hsz
  obtain ⟨fuel, hf⟩ := h
  obtain ⟨x, y, n, _, _, h0, h1⟩ := trod_struct2 hu hf
  have hc1 : Try.prog.cellsOf 3 = 1 := by kernel_rfl
  rw [t0, o0, hc1] at h0
  rw [t1, o1, hc1] at h1
  have h0 : DataW.trod enc Try.prog w base spare held n 3 [c0] = some x := h0
  have h1 : DataW.trod enc Try.prog w base spare held n 3 [c1] = some y := h1
  obtain ⟨x0, e0, _, _⟩ := DataW.trod_int Try.underlying3 h0
  obtain ⟨x1, e1, _, _⟩ := DataW.trod_int Try.underlying3 h1
  simp at e0 e1
  subst e0 e1
  exact ⟨x0, x1, rfl⟩

end Go.Proofs.Ytabhlmckncgdjaa
