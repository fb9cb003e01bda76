/-
  The document's lists of calendars (tidehallref09): puts, ended, blocked; the sets busy and owned.
-/
import Derived.Test.YtkbdkhohecdbhaaPart27
import Derived.Test.YtkbdkhohecdbhaaPart19
import Derived.Test.YtkbdkhohecdbhaaPart21
import Derived.Test.YtkbdkhohecdbhaaPart23
import Derived.Test.YtkbdkhohecdbhaaPart6
namespace Go.Proofs.Ytkbdkhohecdbhaa
open Go Go.RowKit Go.Shelf

attribute [local go_sem] Oper.semAt_some ext_const

set_option maxRecDepth 100000 in
set_option maxHeartbeats 8000000 in
theorem rputs_calls {cs : List (List Slt)} {v vm : Value} {ws : List Nat} {f t o : Int} (w : World) (hS : Yl w v cs) (hn : cs.length ≤ 10000) (hx : ∀ k, (cs.getD k []).length ≤ 10000) (hM : Wds w vm ws) :
    Calls Try.prog 32 #[v, vm, V3 f t o] w fun e W' => ∃ u, e = .returned u ∧ Yo W' w.heap.size u (putsC cs (hasW ws) (f, t, o) cs.length) ∧ Below w.heap.size w W' := by
  obtain ⟨ao, cap, rfl, hS⟩ := hS.form
  obtain ⟨W, hW, hB, hK⟩ := one_start w (C3 f t o) 66
  have HW : Hid (w.alloc (.cells (C3 f t o) 66) = W) := hW
  have HS : Hid (Yl W (.slice ao cs.length cap) cs) := hS.later hB
  have HM : Hid (Wds W vm ws) := hM.later hB
  have HX : Hid (∀ k, (cs.getD k []).length ≤ 10000) := hx
  have HP : Hid (∀ k, putsC cs (hasW ws) (f, t, o) (k + 1) = putsC cs (hasW ws) (f, t, o) k ++ [if hasW ws k then withC (f, t, o) (cs.getD k []) else cs.getD k []]) := putsC_succ _ _ _
  have HL : Hid (∀ k, (putsC cs (hasW ws) (f, t, o) k).length = k) := putsC_len _ _ _
  have HZ : Hid (putsC cs (hasW ws) (f, t, o) 0 = []) := rfl
  generalize putsC cs (hasW ws) (f, t, o) = pt at *
  clear hW hS hM hx
  go_enter Try.func32, Try.ntmps32
  go_wp2
  rw [HW.out]
  go_loopw [7, 8] (fun u i wr => ∃ (k : Nat) (ao' : Option Addr) (n' cap' : Nat), k ≤ cs.length ∧ i = .int .i64 k ∧ u = .slice ao' n' cap' ∧ Hid (Yo wr W.heap.size (.slice ao' n' cap') (pt k)) ∧ Below W.heap.size W wr) (fun _ i _ => cs.length - (RowKit.intOf i).toNat)
  case atStart => exact ⟨0, _, _, _, by omega, rfl, rfl, by show Yo _ _ _ _; rw [HZ.out]; exact Yo.nil _ _, Below.refl _ _⟩
  case round =>
    obtain ⟨k, ao', n', cap', hk, rfl, rfl, HY, hT⟩ := hrel
    by_cases hlt : (k : Int) < (cs.length : Int)
    · have hk' : k < cs.length := by omega
      obtain ⟨g, off, bo, m, c, rfl, hg, hcc, hs⟩ := (HS.out.later hT).get hk'
      have HSk : Hid (Ss wr (.slice bo m c) (cs.getD k [])) := hs
      have hlen := HX.out k
      have HTh : Hid (∀ w1, Below W.heap.size W w1 → Calls Try.prog 56 #[vm, I k] w1 fun e W' => e = .returned (.bool (hasW ws k)) ∧ W' = w1) := fun w1 hb => there_calls w1 (HM.out.later hb) k (by omega)
      have HWi : Hid (∀ w1 u, Ss w1 u (cs.getD k []) → Calls Try.prog 57 #[u, V3 f t o] w1 fun e W' => ∃ r, e = .returned r ∧ So W' w1.heap.size r (withC (f, t, o) (cs.getD k [])) ∧ Below w1.heap.size w1 W') := fun w1 u h => rwith_calls w1 h hlen
      have HPk : Hid (pt (k + 1) = pt k ++ [if hasW ws k then withC (f, t, o) (cs.getD k []) else cs.getD k []]) := HP.out k
      have HLk : (pt k).length ≤ 100000 := by rw [HL.out k]; omega
      have hsz := hT.size
      clear hs
      generalize withC (f, t, o) (cs.getD k []) = wi at *
      generalize cs.getD k [] = xs at *
      generalize hasW ws k = r at *
      go_wp2_with (first
        | (at_builtin; refine wpList_catS (base := wr.heap.size) (xs := []) (ys := xs) rfl _ _ rfl rfl rfl (So.nil _ _) HSk.out (by simp; omega) (Nat.le_refl _) ?_; intro ao4 n4 cap4 w4 hW4 hB4)
        | fail)
      have hT4 := then_below hT hB4
      have HC4 : Hid (So w4 W.heap.size (.slice ao4 n4 cap4) xs) := hW4.weak hsz
      have HY4 : Hid (Yo w4 W.heap.size (.slice ao' n' cap') (pt k)) := HY.out.later hB4
      clear hW4 hg hcc
      refine (HTh.out _ hT4).mono ?_
      rintro e w5 ⟨rfl, hw⟩
      subst hw
      cases r
      · rw [if_neg (by decide)] at HPk
        clear HWi
        go_wp2_with (first
          | (at_builtin; refine wpList_appY (base := W.heap.size) (cs := pt k) (c := xs) rfl _ _ rfl rfl rfl rfl HY4.out HC4.out HLk hT4.size ?_; intro ao6 n6 cap6 w6 hW6 hB6)
          | go_in)
        go_roundw
        case rel => exact ⟨k + 1, _, _, _, by omega, by go_num, rfl, by show Yo _ _ _ _; rw [HPk.out]; exact hW6, hT4.trans hB6⟩
        case measure => simp [RowKit.intOf]; omega
      · rw [if_pos rfl] at HPk
        obtain ⟨s0, s1, s2, hz⟩ := hK.slot3 hT4
        go_wp2_with fail
        refine (HWi.out _ _ HC4.out.ss).mono ?_
        rintro e w6 ⟨u, rfl, hO, hB6⟩
        obtain ⟨ao6, n6, c6, rfl⟩ := hO.slice
        have hT6 := then_below hT4 hB6
        have HC6 : Hid (So w6 W.heap.size (.slice ao6 n6 c6) wi) := hO.weak hT4.size
        have HY6 : Hid (Yo w6 W.heap.size (.slice ao' n' cap') (pt k)) := HY4.out.later hB6
        clear hO s0 s1 s2 hz
        go_wp2_with (first
          | (at_builtin; refine wpList_appY (base := W.heap.size) (cs := pt k) (c := wi) rfl _ _ rfl rfl rfl rfl HY6.out HC6.out HLk hT6.size ?_; intro ao7 n7 cap7 w7 hW7 hB7)
          | go_in)
        go_roundw
        case rel => exact ⟨k + 1, _, _, _, by omega, by go_num, rfl, by show Yo _ _ _ _; rw [HPk.out]; exact hW7, hT6.trans hB7⟩
        case measure => simp [RowKit.intOf]; omega
    · obtain rfl : k = cs.length := by omega
      have HY2 : Hid (Yo wr w.heap.size (.slice ao' n' cap') (pt cs.length)) := HY.out.weak hB.size
      go_wp2
      go_ret
      exact ⟨_, rfl, HY2.out, then_below hB hT⟩

def tailI (b : Bool) (i : Nat) : List Int := if b then [(i : Int)] else []

end Go.Proofs.Ytkbdkhohecdbhaa

/-
  The document's Cut, Take, Put, Twin of a machine's calendars (tidehallref09). (Written by tools/gen/cals_refc.py.)
-/
namespace Go.Proofs.Ytkbdkhohecdbhaa
open Go Go.RowKit Go.Shelf

attribute [local go_sem] Oper.semAt_some ext_const

/-- What each operation of a last statement comes to that makes two lists anew. -/
def wordC (a b c : Int) (vn vl x y x' y' : Value) (B base : Nat) (r1 r2 : List (List Slt)) (i : Nat) (v : Value) (w : World) : Prop :=
  match i with
  | 0 => v = .pointer (some ⟨B, 0, none⟩)
  | 1 => v = A3 a b c
  | 2 => v = .pointer (some ⟨B, 3, none⟩)
  | 3 => v = vn
  | 4 => v = x
  | 5 => v = y
  | 6 => ∃ ao n1 c1, v = .slice ao n1 c1 ∧ Yo w base v r1
  | 7 => v = .pointer (some ⟨B, 4, none⟩)
  | 8 => v = vl
  | 9 => v = x'
  | 10 => v = y'
  | 11 => ∃ ao n1 c1, v = .slice ao n1 c1 ∧ Yo w base v r2
  | 12 => ∃ ao1 n1 c1 ao2 n2 c2, v = Y5 a b c (.slice ao1 n1 c1) (.slice ao2 n2 c2) ∧ Yo w base (.slice ao1 n1 c1) r1 ∧ Yo w base (.slice ao2 n2 c2) r2
  | _ => False
theorem wordC_later {a b c : Int} {vn vl x y x' y' : Value} {B base : Nat} {r1 r2 : List (List Slt)} (i : Nat) (v : Value) (w w' : World) (h : wordC a b c vn vl x y x' y' B base r1 r2 i v w) (hB : Below w.heap.size w w') : wordC a b c vn vl x y x' y' B base r1 r2 i v w' := by
  match i, h with
  | 0, h => exact h
  | 1, h => exact h
  | 2, h => exact h
  | 3, h => exact h
  | 4, h => exact h
  | 5, h => exact h
  | 6, ⟨ao, n1, c1, h1, h2⟩ => exact ⟨ao, n1, c1, h1, h2.later hB⟩
  | 7, h => exact h
  | 8, h => exact h
  | 9, h => exact h
  | 10, h => exact h
  | 11, ⟨ao, n1, c1, h1, h2⟩ => exact ⟨ao, n1, c1, h1, h2.later hB⟩
  | 12, ⟨o1, n1, c1, o2, n2, c2, h1, h2, h3⟩ => exact ⟨o1, n1, c1, o2, n2, c2, h1, h2.later hB, h3.later hB⟩
  | n + 13, h => exact h.elim

set_option maxRecDepth 100000 in
set_option maxHeartbeats 16000000 in
theorem twin_calls {a b c : Int} {n l : Value} {ns ls : List (List Slt)} (w : World) (hN : Yl w n ns) (hL : Yl w l ls) (hs : Small ns ls) :
    Calls Try.prog 14 #[Y5 a b c n l] w fun e W' => ∃ u v, e = .returned (Y5 a b c u v) ∧ Yo W' w.heap.size u ns ∧ Yo W' w.heap.size v ls ∧ Below w.heap.size w W' := by
  have hmx : Try.prog.follows .mixedOrders = true := by kernel_rfl
  obtain ⟨W, hW, hB, hK, hR⟩ := two_start w (K5 a b c n l) (K5 0 0 0 (.slice none 0 0) (.slice none 0 0)) 26 26
  have HW : Hid ((w.alloc (.cells (K5 a b c n l) 26)).alloc (.cells (K5 0 0 0 (.slice none 0 0) (.slice none 0 0)) 26) = W) := hW
  have hWs : w.heap.size + 1 < W.heap.size := hR.lt
  have h2 := hs.nodes
  have h6 := hs.links
  have none_set : ∀ cs : List (List Slt), putsC cs (hasW []) (0, 0, 0) cs.length = cs := fun cs => by
    have : (hasW []) = fun _ => false := funext fun k => by simp [hasW]
    rw [this, putsC_none]
  have HC1 : Hid (∀ w1, Below W.heap.size W w1 → Calls Try.prog 32 #[n, .slice none 0 0, V3 0 0 0] w1 fun e W' => ∃ u, e = .returned u ∧ Yo W' w1.heap.size u ns ∧ Below w1.heap.size w1 W') := fun w1 hb => by
    have := rputs_calls (f := 0) (t := 0) (o := 0) w1 (hN.later (then_below hB hb)) (by omega) hs.node (Wds.nil w1)
    rwa [none_set] at this
  have HC2 : Hid (∀ w1, Below W.heap.size W w1 → Calls Try.prog 32 #[l, .slice none 0 0, V3 0 0 0] w1 fun e W' => ∃ u, e = .returned u ∧ Yo W' w1.heap.size u ls ∧ Below w1.heap.size w1 W') := fun w1 hb => by
    have := rputs_calls (f := 0) (t := 0) (o := 0) w1 (hL.later (then_below hB hb)) (by omega) hs.link (Wds.nil w1)
    rwa [none_set] at this
  obtain ⟨an, cn, rfl, _⟩ := hN.form
  obtain ⟨al, cl, rfl, _⟩ := hL.form
  have hT := Below.refl W.heap.size W
  clear hW hN hL hs h2 h6 none_set
  go_enter Try.func14, Try.ntmps14
  go_wp2_with fail
  rw [HW.out]
  have q0 := hK
  refine wp_region_loud3 (w0 := W) 13 (wordC a b c (.slice an ns.length cn) (.slice al ls.length cl) (.slice none 0 0) (V3 0 0 0) (.slice none 0 0) (V3 0 0 0) w.heap.size W.heap.size ns ls) hmx (by kernel_rfl) wordC_later ?_ ?_
  · intro i op hi act w' hTT hL hpre
    have sb : act.tmps.getD 1 undef = .pointer (some ⟨w.heap.size, 0, none⟩) := by
      rw [Array.getD_eq_getD_getElem?, hL.out 1 (of_decide_eq_true (by kernel_rfl))]; rfl
    have s3 : act.tmps.getD 3 undef = .slice none 0 0 := by
      rw [Array.getD_eq_getD_getElem?, hL.out 3 (of_decide_eq_true (by kernel_rfl))]; rfl
    obtain ⟨p0, p1, p2, p3, p4, hz⟩ := q0.yard hTT
    clear hL
    match i, hi with
    | 0, hi =>
      obtain rfl := Option.some.inj hi
      refine .inl ⟨.pointer (some ⟨w.heap.size, 0, none⟩), ?_, rfl⟩
      simp [execOp, go_sem, Act.eval, sb]
    | 1, hi =>
      obtain rfl := Option.some.inj hi
      have x0 : act.tmps.getD 4 undef = .pointer (some ⟨w.heap.size, 0, none⟩) := hpre ⟨0, .data⟩ (by simp) rfl
      refine .inl ⟨A3 a b c, ?_, rfl⟩
      simp [execOp, go_sem, Act.eval, x0, p0, p1, p2]
    | 2, hi =>
      obtain rfl := Option.some.inj hi
      refine .inl ⟨.pointer (some ⟨w.heap.size, 3, none⟩), ?_, rfl⟩
      simp [execOp, go_sem, Act.eval, sb]
    | 3, hi =>
      obtain rfl := Option.some.inj hi
      have x0 : act.tmps.getD 6 undef = .pointer (some ⟨w.heap.size, 3, none⟩) := hpre ⟨2, .data⟩ (by simp) rfl
      refine .inl ⟨.slice an ns.length cn, ?_, rfl⟩
      simp [execOp, go_sem, Act.eval, x0, p3]
    | 4, hi =>
      obtain rfl := Option.some.inj hi
      refine .inl ⟨(.slice none 0 0), ?_, rfl⟩
      simp [execOp, go_sem, Act.eval, s3]
    | 5, hi =>
      obtain rfl := Option.some.inj hi
      refine .inl ⟨(V3 0 0 0), ?_, rfl⟩
      simp [execOp, go_sem, Act.eval]
    | 6, hi =>
      obtain rfl := Option.some.inj hi
      have x0 : act.tmps.getD 7 undef = .slice an ns.length cn := hpre ⟨3, .data⟩ (by simp) rfl
      have x1 : act.tmps.getD 8 undef = (.slice none 0 0) := hpre ⟨4, .data⟩ (by simp) rfl
      have x2 : act.tmps.getD 9 undef = (V3 0 0 0) := hpre ⟨5, .data⟩ (by simp) rfl
      refine .inr ⟨32, #[.slice an ns.length cn, (.slice none 0 0), (V3 0 0 0)], ?_, ?_⟩
      · simp [go_sem, Act.eval, x0, x1, x2]
      · refine (HC1.out w' (then_below hT hTT)).mono ?_
        rintro e w'' ⟨u, rfl, hU, hb⟩
        obtain ⟨ao1, n1, c1, rfl⟩ := hU.slice
        exact ⟨_, rfl, hb, ao1, n1, c1, rfl, hU.weak hTT.size⟩
    | 7, hi =>
      obtain rfl := Option.some.inj hi
      refine .inl ⟨.pointer (some ⟨w.heap.size, 4, none⟩), ?_, rfl⟩
      simp [execOp, go_sem, Act.eval, sb]
    | 8, hi =>
      obtain rfl := Option.some.inj hi
      have x0 : act.tmps.getD 11 undef = .pointer (some ⟨w.heap.size, 4, none⟩) := hpre ⟨7, .data⟩ (by simp) rfl
      refine .inl ⟨.slice al ls.length cl, ?_, rfl⟩
      simp [execOp, go_sem, Act.eval, x0, p4]
    | 9, hi =>
      obtain rfl := Option.some.inj hi
      refine .inl ⟨(.slice none 0 0), ?_, rfl⟩
      simp [execOp, go_sem, Act.eval, s3]
    | 10, hi =>
      obtain rfl := Option.some.inj hi
      refine .inl ⟨(V3 0 0 0), ?_, rfl⟩
      simp [execOp, go_sem, Act.eval]
    | 11, hi =>
      obtain rfl := Option.some.inj hi
      have x0 : act.tmps.getD 12 undef = .slice al ls.length cl := hpre ⟨8, .data⟩ (by simp) rfl
      have x1 : act.tmps.getD 13 undef = (.slice none 0 0) := hpre ⟨9, .data⟩ (by simp) rfl
      have x2 : act.tmps.getD 14 undef = (V3 0 0 0) := hpre ⟨10, .data⟩ (by simp) rfl
      refine .inr ⟨32, #[.slice al ls.length cl, (.slice none 0 0), (V3 0 0 0)], ?_, ?_⟩
      · simp [go_sem, Act.eval, x0, x1, x2]
      · refine (HC2.out w' (then_below hT hTT)).mono ?_
        rintro e w'' ⟨u, rfl, hU, hb⟩
        obtain ⟨ao1, n1, c1, rfl⟩ := hU.slice
        exact ⟨_, rfl, hb, ao1, n1, c1, rfl, hU.weak hTT.size⟩
    | 12, hi =>
      obtain rfl := Option.some.inj hi
      have x0 : act.tmps.getD 5 undef = A3 a b c := hpre ⟨1, .data⟩ (by simp) rfl
      obtain ⟨ao1, n1, c1, x1, k1⟩ : ∃ ao n1 c1, act.tmps.getD 10 undef = .slice ao n1 c1 ∧ Yo w' W.heap.size (act.tmps.getD 10 undef) ns := hpre ⟨6, .data⟩ (by simp) rfl
      obtain ⟨ao2, n2, c2, x2, k2⟩ : ∃ ao n1 c1, act.tmps.getD 15 undef = .slice ao n1 c1 ∧ Yo w' W.heap.size (act.tmps.getD 15 undef) ls := hpre ⟨11, .data⟩ (by simp) rfl
      rw [x1] at k1
      rw [x2] at k2
      refine .inl ⟨Y5 a b c (.slice ao1 n1 c1) (.slice ao2 n2 c2), ?_, _, _, _, _, _, _, rfl, k1, k2⟩
      rw [Array.getD_eq_getD_getElem?] at x0 x1 x2
      simp [execOp, go_sem, Act.eval, x0, x1, x2]
    | n + 13, hi => simp at hi
  · intro vs wv hTv hall
    obtain ⟨ao1, n1, c1, ao2, n2, c2, h12, hU, hV⟩ : ∃ ao1 n1 c1 ao2 n2 c2, vs 12 = Y5 a b c (.slice ao1 n1 c1) (.slice ao2 n2 c2) ∧ Yo wv W.heap.size (.slice ao1 n1 c1) ns ∧ Yo wv W.heap.size (.slice ao2 n2 c2) ls := hall 12 (by decide)
    clear hall
    simp only [List.take_succ_cons, List.take_zero, List.drop_succ_cons, List.drop_zero, List.length_cons, List.length_nil, Nat.zero_add, Nat.reduceAdd, List.range, List.range.loop, List.foldl_cons, List.foldl_nil, dstOf, List.getElem?_cons_zero, List.getElem?_cons_succ, Option.getD_some, Act.put, h12, List.setIfInBounds_toArray, List.set_cons_succ, List.set_cons_zero]
    clear h12
    generalize vs 0 = yy0
    generalize vs 1 = yy1
    generalize vs 2 = yy2
    generalize vs 3 = yy3
    generalize vs 4 = yy4
    generalize vs 5 = yy5
    generalize vs 6 = yy6
    generalize vs 7 = yy7
    generalize vs 8 = yy8
    generalize vs 9 = yy9
    generalize vs 10 = yy10
    generalize vs 11 = yy11
    clear vs
    have hTv2 := then_below hT hTv
    have hR2 := hR.later hTv2
    have HS := hR2.set5 (.int .i64 a) (.int .i64 b) (.int .i64 c) (.slice ao1 n1 c1) (.slice ao2 n2 c2)
    have hlow := below_set5 (then_below hB hTv2) (show w.heap.size ≤ w.heap.size + 1 by omega) (.int .i64 a) (.int .i64 b) (.int .i64 c) (.slice ao1 n1 c1) (.slice ao2 n2 c2)
    have HU : Hid (Yo (put5 wv (w.heap.size + 1) (.int .i64 a) (.int .i64 b) (.int .i64 c) (.slice ao1 n1 c1) (.slice ao2 n2 c2)) w.heap.size (.slice ao1 n1 c1) ns) := (hU.put5 (Nat.lt_of_lt_of_le hWs hT.size) _ _ _ _ _).weak (Nat.le_trans hB.size hT.size)
    have HV : Hid (Yo (put5 wv (w.heap.size + 1) (.int .i64 a) (.int .i64 b) (.int .i64 c) (.slice ao1 n1 c1) (.slice ao2 n2 c2)) w.heap.size (.slice ao2 n2 c2) ls) := (hV.put5 (Nat.lt_of_lt_of_le hWs hT.size) _ _ _ _ _).weak (Nat.le_trans hB.size hT.size)
    clear hU hV q0
    obtain ⟨q0, q1, q2, q3, q4, hzq⟩ := hR2.five
    obtain ⟨f0, f1, f2, f3, f4⟩ := hR2.row5
    gi_wp2
    go_wp2
    obtain ⟨j0, j1, j2, j3, j4, _⟩ := HS.five
    exact bodyPost_ret (v := Y5 a b c (.slice ao1 n1 c1) (.slice ao2 n2 c2)) (by simp [results, Try.f14, go_sem, j0, j1, j2, j3, j4]) rfl ⟨_, _, rfl, HU.out, HV.out, hlow⟩

end Go.Proofs.Ytkbdkhohecdbhaa

/-
  What the statements of cals ask, as plain facts of sets.
-/
namespace Go.Proofs.Ytkbdkhohecdbhaa
open Go Go.RowKit Go.Shelf

theorem both_ok {n : Nat} (h1 : 1 ≤ n) (h2 : n ≤ 12288) (p q : Nat → Bool) : errAll n [setOf n p, setOf n q] = 0 := errAll_both (setOf_err (by omega) (by omega) p) (setOf_err (by omega) (by omega) q)
theorem apart_meet {cs : List (List Slt)} (h1 : 1 ≤ cs.length) (h2 : cs.length ≤ 12288) {x y : Int} (m : Int) (hne : x ≠ y) : meetSB cs.length (setOf cs.length (ownP cs x m)) (setOf cs.length (ownP cs y m)) = false := by
  rw [setOf_meet (by omega) (by omega)]
  cases e : anyB (setOf cs.length (ownP cs x m)) (setOf cs.length (ownP cs y m))
  · rfl
  · obtain ⟨j, _, a, b⟩ := setOf_any.1 e
    exact (own_apart hne a b).elim
theorem own_in {cs : List (List Slt)} (hm : maysC cs = true) (h1 : 1 ≤ cs.length) (h2 : cs.length ≤ 12288) {x m f t : Int} (ha : f ≤ m ∧ m < t) : inSB cs.length (setOf cs.length (ownP cs x m)) (setOf cs.length (busyP cs f t)) = true :=
  setOf_in (by omega) (by omega) fun _ _ h => own_busy hm ha h
theorem busy_in {cs : List (List Slt)} (hm : maysC cs = true) (h1 : 1 ≤ cs.length) (h2 : cs.length ≤ 12288) {f t f' t' : Int} (h : f < t) (h' : f' ≤ f ∧ t ≤ t') : inSB cs.length (setOf cs.length (busyP cs f t)) (setOf cs.length (busyP cs f' t')) = true :=
  setOf_in (by omega) (by omega) fun _ _ hb => busy_within hm h h' hb
theorem busy_or {cs : List (List Slt)} (hm : maysC cs = true) (h1 : 1 ≤ cs.length) (h2 : cs.length ≤ 12288) {f m t : Int} (h : f < m) (h' : m < t) : joinW orW cs.length (setOf cs.length (busyP cs f m)) (setOf cs.length (busyP cs m t)) = setOf cs.length (busyP cs f t) := by
  rw [setOf_or2 (by omega) (by omega)]
  exact setOf_congr fun k _ => (busy_both hm h h' k).symm
theorem wordsE_len (er : Int) {n : Nat} (h : n ≤ 12288) (p : Nat → Bool) : (wordsE er n p).length ≤ 100000 := by
  unfold wordsE
  split
  · rw [setOf_len, Int.toNat_natCast]; omega
  · simp
theorem eqY_self (a b c : Int) (ns ls : List (List Slt)) : eqY a b c ns ls a b c ns ls = true := by simp [eqY, eqD, eqL2]

end Go.Proofs.Ytkbdkhohecdbhaa
