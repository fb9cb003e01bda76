/-
  The document's Cut, Take, Put, Twin of a machine's calendars (tidehallref09). (Written by tools/gen/cals_refc.py.)
-/
import Derived.Test.YtldcagjnngkabaaGreatDoorPart44
namespace Go.Proofs.YtldcagjnngkabaaGreatDoor
open Go Go.RowKit Go.Shelf

attribute [local go_sem] Oper.semAt_some ext_const

/-- What each operation of a last statement comes to that makes two lists anew. -/
def wordC (a b c : Int) (vn vl x y x' y' : Value) (B base : Nat) (r1 r2 : List (List Slt)) (i : Nat) (v : Value) (w : World) : Prop :=
  match i with
  | 0 => v = .pointer (some ⟨B, 0, none⟩)
  | 1 => v = A3 a b c
  | 2 => v = .pointer (some ⟨B, 3, none⟩)
  | 3 => v = vn
  | 4 => v = x
  | 5 => v = y
  | 6 => ∃ ao n1 c1, v = .slice ao n1 c1 ∧ Yo w base v r1
  | 7 => v = .pointer (some ⟨B, 4, none⟩)
  | 8 => v = vl
  | 9 => v = x'
  | 10 => v = y'
  | 11 => ∃ ao n1 c1, v = .slice ao n1 c1 ∧ Yo w base v r2
  | 12 => ∃ ao1 n1 c1 ao2 n2 c2, v = Y5 a b c (.slice ao1 n1 c1) (.slice ao2 n2 c2) ∧ Yo w base (.slice ao1 n1 c1) r1 ∧ Yo w base (.slice ao2 n2 c2) r2
  | _ => False
theorem wordC_later {a b c : Int} {vn vl x y x' y' : Value} {B base : Nat} {r1 r2 : List (List Slt)} (i : Nat) (v : Value) (w w' : World) (h : wordC a b c vn vl x y x' y' B base r1 r2 i v w) (hB : Below w.heap.size w w') : wordC a b c vn vl x y x' y' B base r1 r2 i v w' := by
  match i, h with
  | 0, h => exact h
  | 1, h => exact h
  | 2, h => exact h
  | 3, h => exact h
  | 4, h => exact h
  | 5, h => exact h
  | 6, ⟨ao, n1, c1, h1, h2⟩ => exact ⟨ao, n1, c1, h1, h2.later hB⟩
  | 7, h => exact h
  | 8, h => exact h
  | 9, h => exact h
  | 10, h => exact h
  | 11, ⟨ao, n1, c1, h1, h2⟩ => exact ⟨ao, n1, c1, h1, h2.later hB⟩
  | 12, ⟨o1, n1, c1, o2, n2, c2, h1, h2, h3⟩ => exact ⟨o1, n1, c1, o2, n2, c2, h1, h2.later hB, h3.later hB⟩
  | n + 13, h => exact h.elim

set_option maxRecDepth 100000 in
set_option maxHeartbeats 16000000 in
theorem twin_calls {a b c : Int} {n l : Value} {ns ls : List (List Slt)} (w : World) (hN : Yl w n ns) (hL : Yl w l ls) (hs : Small ns ls) :
    Calls Tryz.prog 16 #[Y5 a b c n l] w fun e W' => ∃ u v, e = .returned (Y5 a b c u v) ∧ Yo W' w.heap.size u ns ∧ Yo W' w.heap.size v ls ∧ Below w.heap.size w W' := by
  have hmx : Tryz.prog.follows .mixedOrders = true := by kernel_rfl
  obtain ⟨W, hW, hB, hK, hR⟩ := two_start w (K5 a b c n l) (K5 0 0 0 (.slice none 0 0) (.slice none 0 0)) 26 26
  have HW : Hid ((w.alloc (.cells (K5 a b c n l) 26)).alloc (.cells (K5 0 0 0 (.slice none 0 0) (.slice none 0 0)) 26) = W) := hW
  have hWs : w.heap.size + 1 < W.heap.size := hR.lt
  have h2 := hs.nodes
  have h6 := hs.links
  have none_set : ∀ cs : List (List Slt), putsC cs (hasW []) (0, 0, 0) cs.length = cs := fun cs => by
    have : (hasW []) = fun _ => false := funext fun k => by simp [hasW]
    rw [this, putsC_none]
  have HC1 : Hid (∀ w1, Below W.heap.size W w1 → Calls Tryz.prog 34 #[n, .slice none 0 0, V3 0 0 0] w1 fun e W' => ∃ u, e = .returned u ∧ Yo W' w1.heap.size u ns ∧ Below w1.heap.size w1 W') := fun w1 hb => by
    have := rputs_calls (f := 0) (t := 0) (o := 0) w1 (hN.later (then_below hB hb)) (by omega) hs.node (Wds.nil w1)
    rwa [none_set] at this
  have HC2 : Hid (∀ w1, Below W.heap.size W w1 → Calls Tryz.prog 34 #[l, .slice none 0 0, V3 0 0 0] w1 fun e W' => ∃ u, e = .returned u ∧ Yo W' w1.heap.size u ls ∧ Below w1.heap.size w1 W') := fun w1 hb => by
    have := rputs_calls (f := 0) (t := 0) (o := 0) w1 (hL.later (then_below hB hb)) (by omega) hs.link (Wds.nil w1)
    rwa [none_set] at this
  obtain ⟨an, cn, rfl, _⟩ := hN.form
  obtain ⟨al, cl, rfl, _⟩ := hL.form
  have hT := Below.refl W.heap.size W
  clear hW hN hL hs h2 h6 none_set
  go_enter Tryz.func16, Tryz.ntmps16
  go_wp2_with fail
  rw [HW.out]
  have q0 := hK
  refine wp_region_loud3 (w0 := W) 13 (wordC a b c (.slice an ns.length cn) (.slice al ls.length cl) (.slice none 0 0) (V3 0 0 0) (.slice none 0 0) (V3 0 0 0) w.heap.size W.heap.size ns ls) hmx (by kernel_rfl) wordC_later ?_ ?_
  · intro i op hi act w' hTT hL hpre
    have sb : act.tmps.getD 1 undef = .pointer (some ⟨w.heap.size, 0, none⟩) := by
      rw [Array.getD_eq_getD_getElem?, hL.out 1 (of_decide_eq_true (by kernel_rfl))]; rfl
    have s3 : act.tmps.getD 3 undef = .slice none 0 0 := by
      rw [Array.getD_eq_getD_getElem?, hL.out 3 (of_decide_eq_true (by kernel_rfl))]; rfl
    obtain ⟨p0, p1, p2, p3, p4, hz⟩ := q0.yard hTT
    clear hL
    match i, hi with
    | 0, hi =>
      obtain rfl := Option.some.inj hi
      refine .inl ⟨.pointer (some ⟨w.heap.size, 0, none⟩), ?_, rfl⟩
      simp [execOp, go_sem, Act.eval, sb]
    | 1, hi =>
      obtain rfl := Option.some.inj hi
      have x0 : act.tmps.getD 4 undef = .pointer (some ⟨w.heap.size, 0, none⟩) := hpre ⟨0, .data⟩ (by simp) rfl
      refine .inl ⟨A3 a b c, ?_, rfl⟩
      simp [execOp, go_sem, Act.eval, x0, p0, p1, p2]
    | 2, hi =>
      obtain rfl := Option.some.inj hi
      refine .inl ⟨.pointer (some ⟨w.heap.size, 3, none⟩), ?_, rfl⟩
      simp [execOp, go_sem, Act.eval, sb]
    | 3, hi =>
      obtain rfl := Option.some.inj hi
      have x0 : act.tmps.getD 6 undef = .pointer (some ⟨w.heap.size, 3, none⟩) := hpre ⟨2, .data⟩ (by simp) rfl
      refine .inl ⟨.slice an ns.length cn, ?_, rfl⟩
      simp [execOp, go_sem, Act.eval, x0, p3]
    | 4, hi =>
      obtain rfl := Option.some.inj hi
      refine .inl ⟨(.slice none 0 0), ?_, rfl⟩
      simp [execOp, go_sem, Act.eval, s3]
    | 5, hi =>
      obtain rfl := Option.some.inj hi
      refine .inl ⟨(V3 0 0 0), ?_, rfl⟩
      simp [execOp, go_sem, Act.eval]
    | 6, hi =>
      obtain rfl := Option.some.inj hi
      have x0 : act.tmps.getD 7 undef = .slice an ns.length cn := hpre ⟨3, .data⟩ (by simp) rfl
      have x1 : act.tmps.getD 8 undef = (.slice none 0 0) := hpre ⟨4, .data⟩ (by simp) rfl
      have x2 : act.tmps.getD 9 undef = (V3 0 0 0) := hpre ⟨5, .data⟩ (by simp) rfl
      refine .inr ⟨34, #[.slice an ns.length cn, (.slice none 0 0), (V3 0 0 0)], ?_, ?_⟩
      · simp [go_sem, Act.eval, x0, x1, x2]
      · refine (HC1.out w' (then_below hT hTT)).mono ?_
        rintro e w'' ⟨u, rfl, hU, hb⟩
        obtain ⟨ao1, n1, c1, rfl⟩ := hU.slice
        exact ⟨_, rfl, hb, ao1, n1, c1, rfl, hU.weak hTT.size⟩
    | 7, hi =>
      obtain rfl := Option.some.inj hi
      refine .inl ⟨.pointer (some ⟨w.heap.size, 4, none⟩), ?_, rfl⟩
      simp [execOp, go_sem, Act.eval, sb]
    | 8, hi =>
      obtain rfl := Option.some.inj hi
      have x0 : act.tmps.getD 11 undef = .pointer (some ⟨w.heap.size, 4, none⟩) := hpre ⟨7, .data⟩ (by simp) rfl
      refine .inl ⟨.slice al ls.length cl, ?_, rfl⟩
      simp [execOp, go_sem, Act.eval, x0, p4]
    | 9, hi =>
      obtain rfl := Option.some.inj hi
      refine .inl ⟨(.slice none 0 0), ?_, rfl⟩
      simp [execOp, go_sem, Act.eval, s3]
    | 10, hi =>
      obtain rfl := Option.some.inj hi
      refine .inl ⟨(V3 0 0 0), ?_, rfl⟩
      simp [execOp, go_sem, Act.eval]
    | 11, hi =>
      obtain rfl := Option.some.inj hi
      have x0 : act.tmps.getD 12 undef = .slice al ls.length cl := hpre ⟨8, .data⟩ (by simp) rfl
      have x1 : act.tmps.getD 13 undef = (.slice none 0 0) := hpre ⟨9, .data⟩ (by simp) rfl
      have x2 : act.tmps.getD 14 undef = (V3 0 0 0) := hpre ⟨10, .data⟩ (by simp) rfl
      refine .inr ⟨34, #[.slice al ls.length cl, (.slice none 0 0), (V3 0 0 0)], ?_, ?_⟩
      · simp [go_sem, Act.eval, x0, x1, x2]
      · refine (HC2.out w' (then_below hT hTT)).mono ?_
        rintro e w'' ⟨u, rfl, hU, hb⟩
        obtain ⟨ao1, n1, c1, rfl⟩ := hU.slice
        exact ⟨_, rfl, hb, ao1, n1, c1, rfl, hU.weak hTT.size⟩
    | 12, hi =>
      obtain rfl := Option.some.inj hi
      have x0 : act.tmps.getD 5 undef = A3 a b c := hpre ⟨1, .data⟩ (by simp) rfl
      obtain ⟨ao1, n1, c1, x1, k1⟩ : ∃ ao n1 c1, act.tmps.getD 10 undef = .slice ao n1 c1 ∧ Yo w' W.heap.size (act.tmps.getD 10 undef) ns := hpre ⟨6, .data⟩ (by simp) rfl
      obtain ⟨ao2, n2, c2, x2, k2⟩ : ∃ ao n1 c1, act.tmps.getD 15 undef = .slice ao n1 c1 ∧ Yo w' W.heap.size (act.tmps.getD 15 undef) ls := hpre ⟨11, .data⟩ (by simp) rfl
      rw [x1] at k1
      rw [x2] at k2
      refine .inl ⟨Y5 a b c (.slice ao1 n1 c1) (.slice ao2 n2 c2), ?_, _, _, _, _, _, _, rfl, k1, k2⟩
      rw [Array.getD_eq_getD_getElem?] at x0 x1 x2
      simp [execOp, go_sem, Act.eval, x0, x1, x2]
    | n + 13, hi => simp at hi
  · intro vs wv hTv hall
    obtain ⟨ao1, n1, c1, ao2, n2, c2, h12, hU, hV⟩ : ∃ ao1 n1 c1 ao2 n2 c2, vs 12 = Y5 a b c (.slice ao1 n1 c1) (.slice ao2 n2 c2) ∧ Yo wv W.heap.size (.slice ao1 n1 c1) ns ∧ Yo wv W.heap.size (.slice ao2 n2 c2) ls := hall 12 (by decide)
    clear hall
    simp only [List.take_succ_cons, List.take_zero, List.drop_succ_cons, List.drop_zero, List.length_cons, List.length_nil, Nat.zero_add, Nat.reduceAdd, List.range, List.range.loop, List.foldl_cons, List.foldl_nil, dstOf, List.getElem?_cons_zero, List.getElem?_cons_succ, Option.getD_some, Act.put, h12, List.setIfInBounds_toArray, List.set_cons_succ, List.set_cons_zero]
    clear h12
    generalize vs 0 = yy0
    generalize vs 1 = yy1
    generalize vs 2 = yy2
    generalize vs 3 = yy3
    generalize vs 4 = yy4
    generalize vs 5 = yy5
    generalize vs 6 = yy6
    generalize vs 7 = yy7
    generalize vs 8 = yy8
    generalize vs 9 = yy9
    generalize vs 10 = yy10
    generalize vs 11 = yy11
    clear vs
    have hTv2 := then_below hT hTv
    have hR2 := hR.later hTv2
    have HS := hR2.set5 (.int .i64 a) (.int .i64 b) (.int .i64 c) (.slice ao1 n1 c1) (.slice ao2 n2 c2)
    have hlow := below_set5 (then_below hB hTv2) (show w.heap.size ≤ w.heap.size + 1 by omega) (.int .i64 a) (.int .i64 b) (.int .i64 c) (.slice ao1 n1 c1) (.slice ao2 n2 c2)
    have HU : Hid (Yo (put5 wv (w.heap.size + 1) (.int .i64 a) (.int .i64 b) (.int .i64 c) (.slice ao1 n1 c1) (.slice ao2 n2 c2)) w.heap.size (.slice ao1 n1 c1) ns) := (hU.put5 (Nat.lt_of_lt_of_le hWs hT.size) _ _ _ _ _).weak (Nat.le_trans hB.size hT.size)
    have HV : Hid (Yo (put5 wv (w.heap.size + 1) (.int .i64 a) (.int .i64 b) (.int .i64 c) (.slice ao1 n1 c1) (.slice ao2 n2 c2)) w.heap.size (.slice ao2 n2 c2) ls) := (hV.put5 (Nat.lt_of_lt_of_le hWs hT.size) _ _ _ _ _).weak (Nat.le_trans hB.size hT.size)
    clear hU hV q0
    obtain ⟨q0, q1, q2, q3, q4, hzq⟩ := hR2.five
    obtain ⟨f0, f1, f2, f3, f4⟩ := hR2.row5
    gi_wp2
    go_wp2
    obtain ⟨j0, j1, j2, j3, j4, _⟩ := HS.five
    exact bodyPost_ret (v := Y5 a b c (.slice ao1 n1 c1) (.slice ao2 n2 c2)) (by simp [results, Tryz.f16, go_sem, j0, j1, j2, j3, j4]) rfl ⟨_, _, rfl, HU.out, HV.out, hlow⟩

end Go.Proofs.YtldcagjnngkabaaGreatDoor

/-
  The document's Put, Busy, Owned of a machine's calendars (tidehallref09). (Written by tools/gen/cals_refd.py.)
-/
namespace Go.Proofs.YtldcagjnngkabaaGreatDoor
open Go Go.RowKit Go.Shelf

attribute [local go_sem] Oper.semAt_some ext_const

theorem errAll_may2 {n : Nat} (h1 : 1 ≤ n) (h2 : n ≤ 12288) (ws : List Nat) : errAll n [ws] = if maySet n ws then 0 else 8 := by
  unfold errAll
  rw [show okN (n : Int) = true by simp [okN]; omega]
  simp
/-- Put's error, as the document looks for it. -/
def putD (q1 q2 q3 t1 t2 f1 f2 : Bool) : Int := if q1 && q2 then (if q3 then (if t1 || t2 then 80 else (if f1 || f2 then 4 else 0)) else 2) else 8
theorem putYE_D {a b c : Int} {ns ls : List (List Slt)} {mw lw : List Nat} {f t o : Int} (h : mayY a b c ns ls) : putYE a b c ns ls mw lw f t o = putD (maySet ns.length mw) (maySet ls.length lw) (maySlB (f, t, o)) (takenC ns (hasW mw) f t ns.length) (takenC ls (hasW lw) f t ls.length) (fullC ns (hasW mw) ns.length) (fullC ls (hasW lw) ls.length) := by
  have hbd := h.bd
  unfold putYE checkE putD freeYE takenY fullY
  rw [if_pos (mayYB_iff.2 h), errAll_may2 (by omega) (by omega), errAll_may2 (by omega) (by omega)]
  cases maySet ns.length mw <;> cases maySet ls.length lw <;> cases maySlB (f, t, o) <;> cases takenC ns (hasW mw) f t ns.length <;> cases takenC ls (hasW lw) f t ls.length <;> rfl

/-- What each operation of a statement comes to that makes two sets. -/
def wordTY (vn vl : Value) (xs : List Value) (B base : Nat) (s1 s2 : List Nat) (i : Nat) (v : Value) (w : World) : Prop :=
  if i = 0 then v = .pointer (some ⟨B, 3, none⟩) else if i = 1 then v = vn else if i < 2 + xs.length then v = xs.getD (i - 2) undef else if i = 2 + xs.length then SetR w base v s1
  else if i = 3 + xs.length then v = .pointer (some ⟨B, 4, none⟩) else if i = 4 + xs.length then v = vl else if i < 5 + 2 * xs.length then v = xs.getD (i - 5 - xs.length) undef else if i = 5 + 2 * xs.length then SetR w base v s2 else False
theorem wordTY_later {vn vl : Value} {xs : List Value} {B base : Nat} {s1 s2 : List Nat} (i : Nat) (v : Value) (w w' : World) (h : wordTY vn vl xs B base s1 s2 i v w) (hB : Below w.heap.size w w') : wordTY vn vl xs B base s1 s2 i v w' := by
  unfold wordTY at h ⊢
  by_cases c0 : i = 0
  · rw [if_pos c0] at h ⊢; exact h
  · rw [if_neg c0] at h ⊢
    by_cases c1 : i = 1
    · rw [if_pos c1] at h ⊢; exact h
    · rw [if_neg c1] at h ⊢
      by_cases c2 : i < 2 + xs.length
      · rw [if_pos c2] at h ⊢; exact h
      · rw [if_neg c2] at h ⊢
        by_cases c3 : i = 2 + xs.length
        · rw [if_pos c3] at h ⊢; exact SetR.later h hB
        · rw [if_neg c3] at h ⊢
          by_cases c4 : i = 3 + xs.length
          · rw [if_pos c4] at h ⊢; exact h
          · rw [if_neg c4] at h ⊢
            by_cases c5 : i = 4 + xs.length
            · rw [if_pos c5] at h ⊢; exact h
            · rw [if_neg c5] at h ⊢
              by_cases c6 : i < 5 + 2 * xs.length
              · rw [if_pos c6] at h ⊢; exact h
              · rw [if_neg c6] at h ⊢
                by_cases c7 : i = 5 + 2 * xs.length
                · rw [if_pos c7] at h ⊢; exact SetR.later h hB
                · rw [if_neg c7] at h ⊢
                  exact h

set_option maxRecDepth 100000 in
set_option maxHeartbeats 16000000 in
theorem rThrough_calls {a b c : Int} {n l : Value} {ns ls : List (List Slt)} {x y : Int} (w : World) (hN : Yl w n ns) (hL : Yl w l ls) (hs : Small ns ls) (h1 : 1 ≤ ns.length) (h2 : 1 ≤ ls.length) :
    Calls Tryz.prog 73 #[Y5 a b c n l, S2 x y] w fun e W' => ∃ u v, e = .returned (.tuple #[u, v]) ∧ SetR W' w.heap.size u (setOf ns.length (busyP ns x y)) ∧ SetR W' w.heap.size v (setOf ls.length (busyP ls x y)) ∧ Below w.heap.size w W' := by
  have hmx : Tryz.prog.follows .mixedOrders = true := by kernel_rfl
  obtain ⟨W, hW, hB, hK, hS⟩ := two_start w (K5 a b c n l) (C2 x y) 26 36
  have HW : Hid ((w.alloc (.cells (K5 a b c n l) 26)).alloc (.cells (C2 x y) 36) = W) := hW
  have h200 := hs.nodes
  have h600 := hs.links
  have HC1 : Hid (∀ w1, Below W.heap.size W w1 → Calls Tryz.prog 113 #[n, S2 x y] w1 fun e W' => ∃ u, e = .returned u ∧ SetR W' w1.heap.size u (setOf ns.length (busyP ns x y)) ∧ Below w1.heap.size w1 W') := fun w1 hb => rbusyL_calls w1 (hN.later (then_below hB hb)) h1 (by omega) hs.node
  have HC2 : Hid (∀ w1, Below W.heap.size W w1 → Calls Tryz.prog 113 #[l, S2 x y] w1 fun e W' => ∃ u, e = .returned u ∧ SetR W' w1.heap.size u (setOf ls.length (busyP ls x y)) ∧ Below w1.heap.size w1 W') := fun w1 hb => rbusyL_calls w1 (hL.later (then_below hB hb)) h2 (by omega) hs.link
  obtain ⟨an, cn, rfl, _⟩ := hN.form
  obtain ⟨al, cl, rfl, _⟩ := hL.form
  have hT := Below.refl W.heap.size W
  clear hW hN hL hs h1 h2 h200 h600
  generalize setOf (ns.length : Int) (busyP ns x y) = g1 at *
  generalize setOf (ls.length : Int) (busyP ls x y) = g2 at *
  generalize ns.length = nn at *
  generalize ls.length = ll at *
  go_enter Tryz.func73, Tryz.ntmps73
  go_wp2_with fail
  rw [HW.out]
  have q0 := hK.later hT
  refine wp_region_loud3 (w0 := W) 8 (wordTY (.slice an nn cn) (.slice al ll cl) [(S2 x y)] w.heap.size W.heap.size g1 g2) hmx (by kernel_rfl) wordTY_later ?_ ?_
  · intro i op hi act w' hTT hL hpre
    have sb : act.tmps.getD 2 undef = .pointer (some ⟨w.heap.size, 0, none⟩) := by
      rw [Array.getD_eq_getD_getElem?, hL.out 2 (of_decide_eq_true (by kernel_rfl))]; rfl
    have s3 : act.tmps.getD 3 undef = .pointer (some ⟨w.heap.size + 1, 0, none⟩) := by
      rw [Array.getD_eq_getD_getElem?, hL.out 3 (of_decide_eq_true (by kernel_rfl))]; rfl
    obtain ⟨d0, d1, hzd⟩ := hS.pair hTT
    obtain ⟨p0, p1, p2, p3, p4, hz⟩ := q0.yard hTT
    clear hL
    match i, hi with
    | 0, hi =>
      obtain rfl := Option.some.inj hi
      refine .inl ⟨.pointer (some ⟨w.heap.size, 3, none⟩), ?_, rfl⟩
      simp [execOp, go_sem, Act.eval, sb]
    | 1, hi =>
      obtain rfl := Option.some.inj hi
      have x0 : act.tmps.getD 6 undef = .pointer (some ⟨w.heap.size, 3, none⟩) := hpre ⟨0, .data⟩ (by simp) rfl
      refine .inl ⟨.slice an nn cn, ?_, rfl⟩
      simp [execOp, go_sem, Act.eval, x0, p3]
    | 2, hi =>
      obtain rfl := Option.some.inj hi
      refine .inl ⟨(S2 x y), ?_, rfl⟩
      simp [execOp, go_sem, Act.eval, s3, d0, d1]
    | 3, hi =>
      obtain rfl := Option.some.inj hi
      have x0 : act.tmps.getD 7 undef = .slice an nn cn := hpre ⟨1, .data⟩ (by simp) rfl
      have x1 : act.tmps.getD 8 undef = (S2 x y) := hpre ⟨2, .data⟩ (by simp) rfl
      refine .inr ⟨113, #[.slice an nn cn, (S2 x y)], ?_, ?_⟩
      · simp [go_sem, Act.eval, x0, x1]
      · refine (HC1.out w' (then_below hT hTT)).mono ?_
        rintro e w'' ⟨u, rfl, hU, hb⟩
        exact ⟨_, rfl, hb, hU.weak hTT.size⟩
    | 4, hi =>
      obtain rfl := Option.some.inj hi
      refine .inl ⟨.pointer (some ⟨w.heap.size, 4, none⟩), ?_, rfl⟩
      simp [execOp, go_sem, Act.eval, sb]
    | 5, hi =>
      obtain rfl := Option.some.inj hi
      have x0 : act.tmps.getD 10 undef = .pointer (some ⟨w.heap.size, 4, none⟩) := hpre ⟨4, .data⟩ (by simp) rfl
      refine .inl ⟨.slice al ll cl, ?_, rfl⟩
      simp [execOp, go_sem, Act.eval, x0, p4]
    | 6, hi =>
      obtain rfl := Option.some.inj hi
      refine .inl ⟨(S2 x y), ?_, rfl⟩
      simp [execOp, go_sem, Act.eval, s3, d0, d1]
    | 7, hi =>
      obtain rfl := Option.some.inj hi
      have x0 : act.tmps.getD 11 undef = .slice al ll cl := hpre ⟨5, .data⟩ (by simp) rfl
      have x1 : act.tmps.getD 12 undef = (S2 x y) := hpre ⟨6, .data⟩ (by simp) rfl
      refine .inr ⟨113, #[.slice al ll cl, (S2 x y)], ?_, ?_⟩
      · simp [go_sem, Act.eval, x0, x1]
      · refine (HC2.out w' (then_below hT hTT)).mono ?_
        rintro e w'' ⟨u, rfl, hU, hb⟩
        exact ⟨_, rfl, hb, hU.weak hTT.size⟩
    | n + 8, hi => simp at hi
  · intro vs wv hTv hall
    have hU : SetR wv W.heap.size (vs 3) g1 := hall 3 (by decide)
    have hV : SetR wv W.heap.size (vs 7) g2 := hall 7 (by decide)
    clear hall
    simp only [List.take_succ_cons, List.take_zero, List.drop_succ_cons, List.drop_zero, List.length_cons, List.length_nil, Nat.zero_add, Nat.reduceAdd, List.range, List.range.loop, List.foldl_cons, List.foldl_nil, dstOf, List.getElem?_cons_zero, List.getElem?_cons_succ, Option.getD_some, Act.put, List.setIfInBounds_toArray, List.set_cons_succ, List.set_cons_zero]
    generalize vs 0 = yy0 at *
    generalize vs 1 = yy1 at *
    generalize vs 2 = yy2 at *
    generalize vs 3 = yy3 at *
    generalize vs 4 = yy4 at *
    generalize vs 5 = yy5 at *
    generalize vs 6 = yy6 at *
    generalize vs 7 = yy7 at *
    clear vs
    have hTv2 := then_below hT hTv
    have HU : Hid (SetR wv w.heap.size yy3 g1) := hU.weak (Nat.le_trans hB.size hT.size)
    have HV : Hid (SetR wv w.heap.size yy7 g2) := hV.weak (Nat.le_trans hB.size hT.size)
    clear hU hV q0
    gi_wp2
    go_wp2
    go_ret2
    exact ⟨_, _, rfl, HU.out, HV.out, then_below hB hTv2⟩

set_option maxHeartbeats 8000000 in
theorem rBusyY_calls {a b c : Int} {n l : Value} {ns ls : List (List Slt)} {x y : Int} (w : World) (hN : Yl w n ns) (hL : Yl w l ls) (hs : Small ns ls) : Calls Tryz.prog 35 #[Y5 a b c n l, S2 x y] w fun e W' => ∃ u v, e = .returned (.tuple #[u, v, I (busyE a b c ns ls x y)]) ∧ SetR W' w.heap.size u (wordsE (busyE a b c ns ls x y) ns.length (busyP ns x y)) ∧ SetR W' w.heap.size v (wordsE (busyE a b c ns ls x y) ls.length (busyP ls x y)) ∧ Below w.heap.size w W' := by
  obtain ⟨W, hW, hB, hK, hK2⟩ := two_start w (K5 a b c n l) (C2 x y) 26 36
  have HW : Hid ((w.alloc (.cells (K5 a b c n l) 26)).alloc (.cells (C2 x y) 36) = W) := hW
  have HC : Hid (Calls Tryz.prog 41 #[Y5 a b c n l] W fun e W' => e = .returned (.bool (mayYB a b c ns ls)) ∧ Below W.heap.size W W') := rmayY_calls W (hN.later hB) (hL.later hB) hs
  have HT : Hid (∀ w, Calls Tryz.prog 72 #[S2 x y] w fun e W' => e = .returned (.bool (maySpB x y)) ∧ Below w.heap.size w W') := rmayS_calls x y
  have H1 : Hid (mayY a b c ns ls → ∀ w1, Below W.heap.size W w1 → Calls Tryz.prog 73 #[Y5 a b c n l, S2 x y] w1 fun e W' => ∃ u v, e = .returned (.tuple #[u, v]) ∧ SetR W' w1.heap.size u (setOf ns.length (busyP ns x y)) ∧ SetR W' w1.heap.size v (setOf ls.length (busyP ls x y)) ∧ Below w1.heap.size w1 W') := fun hm w1 hb => rThrough_calls w1 (hN.later (then_below hB hb)) (hL.later (then_below hB hb)) hs hm.bd.1 (by have := hm.bd; omega)
  by_cases hm : mayY a b c ns ls
  · rw [mayYB_iff.2 hm] at HC
    cases hsp : maySpB x y
    · have E : busyE a b c ns ls x y = 2 := by rw [busyE, if_pos (mayYB_iff.2 hm), hsp]; rfl
      rw [E, wordsE, if_neg (by decide), wordsE, if_neg (by decide)]
      rw [hsp] at HT
      clear hW hN hL hm hsp E H1 hs
      go_enter Tryz.func35, Tryz.ntmps35
      go_wp2_with fail
      rw [HW.out]
      refine HC.out.mono ?_
      rintro e w1 ⟨rfl, hT⟩
      obtain ⟨c0, c1, hz1⟩ := hK2.pair hT
      go_wp2_with fail
      refine (HT.out _).mono ?_
      rintro e w2 ⟨rfl, hB2⟩
      go_wp2
      refine bodyPost_ret (results_tmp3 rfl _ _ _) rfl ?_
      exact ⟨_, _, rfl, .inr ⟨rfl, rfl⟩, .inr ⟨rfl, rfl⟩, then_below hB (then_below hT hB2)⟩
    · have E : busyE a b c ns ls x y = 0 := by rw [busyE, if_pos (mayYB_iff.2 hm), if_pos hsp]
      rw [E, wordsE, if_pos rfl, wordsE, if_pos rfl]
      rw [hsp] at HT
      have H2 : Hid (∀ w1, Below W.heap.size W w1 → Calls Tryz.prog 73 #[Y5 a b c n l, S2 x y] w1 fun e W' => ∃ u v, e = .returned (.tuple #[u, v]) ∧ SetR W' w1.heap.size u (setOf ns.length (busyP ns x y)) ∧ SetR W' w1.heap.size v (setOf ls.length (busyP ls x y)) ∧ Below w1.heap.size w1 W') := H1.out hm
      clear hW hN hL hm hsp E H1 hs
      generalize setOf (ns.length : Int) (busyP ns x y) = s1 at *
      generalize setOf (ls.length : Int) (busyP ls x y) = s2 at *
      go_enter Tryz.func35, Tryz.ntmps35
      go_wp2_with fail
      rw [HW.out]
      refine HC.out.mono ?_
      rintro e w1 ⟨rfl, hT⟩
      obtain ⟨c0, c1, hz1⟩ := hK2.pair hT
      obtain ⟨p0, p1, p2, p3, p4, hz⟩ := hK.yard hT
      go_wp2_with fail
      refine (HT.out _).mono ?_
      rintro e w2 ⟨rfl, hB2⟩
      have hT2 := then_below hT hB2
      clear c0 c1 hz1 p0 p1 p2 p3 p4 hz
      obtain ⟨c0, c1, hz1⟩ := hK2.pair hT2
      obtain ⟨p0, p1, p2, p3, p4, hz⟩ := hK.yard hT2
      go_wp2_with fail
      refine (H2.out _ hT2).mono ?_
      rintro e w3 ⟨u, v, rfl, hR, hR2, hB3⟩
      have HR : Hid (SetR w3 w.heap.size u s1) := hR.weak (Nat.le_trans hB.size hT2.size)
      have HR2 : Hid (SetR w3 w.heap.size v s2) := hR2.weak (Nat.le_trans hB.size hT2.size)
      clear hR hR2
      go_wp2
      refine bodyPost_ret (results_tmp3 rfl _ _ _) rfl ?_
      exact ⟨_, _, rfl, HR.out, HR2.out, then_below hB (then_below hT2 hB3)⟩
  · rw [mayYB_no hm] at HC
    have E : busyE a b c ns ls x y = 8 := by rw [busyE, mayYB_no hm]; rfl
    rw [E, wordsE, if_neg (by decide), wordsE, if_neg (by decide)]
    clear hW hN hL hm E H1 hs
    go_enter Tryz.func35, Tryz.ntmps35
    go_wp2_with fail
    rw [HW.out]
    refine HC.out.mono ?_
    rintro e w1 ⟨rfl, hT⟩
    go_wp2
    refine bodyPost_ret (results_tmp3 rfl _ _ _) rfl ?_
    exact ⟨_, _, rfl, .inr ⟨rfl, rfl⟩, .inr ⟨rfl, rfl⟩, then_below hB hT⟩

end Go.Proofs.YtldcagjnngkabaaGreatDoor
