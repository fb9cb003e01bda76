/-
  The document's Cut, Take, Put, Twin of a machine's calendars (tidehallref09). (Written by tools/gen/cals_refc.py.)
-/
import Derived.Test.YtldcagjnngkabaaGreatDoorPart35
import Derived.Test.YtldcagjnngkabaaGreatDoorPart30
import Derived.Test.YtldcagjnngkabaaGreatDoorPart11
import Derived.Test.YtldcagjnngkabaaGreatDoorPart32
namespace Go.Proofs.YtldcagjnngkabaaGreatDoor
open Go Go.RowKit Go.Shelf

attribute [local go_sem] Oper.semAt_some ext_const

/-- What each operation of a last statement comes to that makes two lists anew. -/
def wordC (a b c : Int) (vn vl x y x' y' : Value) (B base : Nat) (r1 r2 : List (List Slt)) (i : Nat) (v : Value) (w : World) : Prop :=
  match i with
  | 0 => v = .pointer (some ⟨B, 0, none⟩)
  | 1 => v = A3 a b c
  | 2 => v = .pointer (some ⟨B, 3, none⟩)
  | 3 => v = vn
  | 4 => v = x
  | 5 => v = y
  | 6 => ∃ ao n1 c1, v = .slice ao n1 c1 ∧ Yo w base v r1
  | 7 => v = .pointer (some ⟨B, 4, none⟩)
  | 8 => v = vl
  | 9 => v = x'
  | 10 => v = y'
  | 11 => ∃ ao n1 c1, v = .slice ao n1 c1 ∧ Yo w base v r2
  | 12 => ∃ ao1 n1 c1 ao2 n2 c2, v = Y5 a b c (.slice ao1 n1 c1) (.slice ao2 n2 c2) ∧ Yo w base (.slice ao1 n1 c1) r1 ∧ Yo w base (.slice ao2 n2 c2) r2
  | _ => False
theorem wordC_later {a b c : Int} {vn vl x y x' y' : Value} {B base : Nat} {r1 r2 : List (List Slt)} (i : Nat) (v : Value) (w w' : World) (h : wordC a b c vn vl x y x' y' B base r1 r2 i v w) (hB : Below w.heap.size w w') : wordC a b c vn vl x y x' y' B base r1 r2 i v w' := by
  match i, h with
  | 0, h => exact h
  | 1, h => exact h
  | 2, h => exact h
  | 3, h => exact h
  | 4, h => exact h
  | 5, h => exact h
  | 6, ⟨ao, n1, c1, h1, h2⟩ => exact ⟨ao, n1, c1, h1, h2.later hB⟩
  | 7, h => exact h
  | 8, h => exact h
  | 9, h => exact h
  | 10, h => exact h
  | 11, ⟨ao, n1, c1, h1, h2⟩ => exact ⟨ao, n1, c1, h1, h2.later hB⟩
  | 12, ⟨o1, n1, c1, o2, n2, c2, h1, h2, h3⟩ => exact ⟨o1, n1, c1, o2, n2, c2, h1, h2.later hB, h3.later hB⟩
  | n + 13, h => exact h.elim

set_option maxRecDepth 100000 in
set_option maxHeartbeats 16000000 in
theorem twin_calls {a b c : Int} {n l : Value} {ns ls : List (List Slt)} (w : World) (hN : Yl w n ns) (hL : Yl w l ls) (hs : Small ns ls) :
    Calls Tryz.prog 16 #[Y5 a b c n l] w fun e W' => ∃ u v, e = .returned (Y5 a b c u v) ∧ Yo W' w.heap.size u ns ∧ Yo W' w.heap.size v ls ∧ Below w.heap.size w W' := by
  have hmx : Tryz.prog.follows .mixedOrders = true := by kernel_rfl
  obtain ⟨W, hW, hB, hK, hR⟩ := two_start w (K5 a b c n l) (K5 0 0 0 (.slice none 0 0) (.slice none 0 0)) 26 26
  have HW : Hid ((w.alloc (.cells (K5 a b c n l) 26)).alloc (.cells (K5 0 0 0 (.slice none 0 0) (.slice none 0 0)) 26) = W) := hW
  have hWs : w.heap.size + 1 < W.heap.size := hR.lt
  have h2 := hs.nodes
  have h6 := hs.links
  have none_set : ∀ cs : List (List Slt), putsC cs (hasW []) (0, 0, 0) cs.length = cs := fun cs => by
    have : (hasW []) = fun _ => false := funext fun k => by simp [hasW]
    rw [this, putsC_none]
  have HC1 : Hid (∀ w1, Below W.heap.size W w1 → Calls Tryz.prog 34 #[n, .slice none 0 0, V3 0 0 0] w1 fun e W' => ∃ u, e = .returned u ∧ Yo W' w1.heap.size u ns ∧ Below w1.heap.size w1 W') := fun w1 hb => by
    have := rputs_calls (f := 0) (t := 0) (o := 0) w1 (hN.later (then_below hB hb)) (by omega) hs.node (Wds.nil w1)
    rwa [none_set] at this
  have HC2 : Hid (∀ w1, Below W.heap.size W w1 → Calls Tryz.prog 34 #[l, .slice none 0 0, V3 0 0 0] w1 fun e W' => ∃ u, e = .returned u ∧ Yo W' w1.heap.size u ls ∧ Below w1.heap.size w1 W') := fun w1 hb => by
    have := rputs_calls (f := 0) (t := 0) (o := 0) w1 (hL.later (then_below hB hb)) (by omega) hs.link (Wds.nil w1)
    rwa [none_set] at this
  obtain ⟨an, cn, rfl, _⟩ := hN.form
  obtain ⟨al, cl, rfl, _⟩ := hL.form
  have hT := Below.refl W.heap.size W
  clear hW hN hL hs h2 h6 none_set
  go_enter Tryz.func16, Tryz.ntmps16
  go_wp2_with fail
  rw [HW.out]
  have q0 := hK
  refine wp_region_loud3 (w0 := W) 13 (wordC a b c (.slice an ns.length cn) (.slice al ls.length cl) (.slice none 0 0) (V3 0 0 0) (.slice none 0 0) (V3 0 0 0) w.heap.size W.heap.size ns ls) hmx (by kernel_rfl) wordC_later ?_ ?_
  · intro i op hi act w' hTT hL hpre
    have sb : act.tmps.getD 1 undef = .pointer (some ⟨w.heap.size, 0, none⟩) := by
      rw [Array.getD_eq_getD_getElem?, hL.out 1 (of_decide_eq_true (by kernel_rfl))]; rfl
    have s3 : act.tmps.getD 3 undef = .slice none 0 0 := by
      rw [Array.getD_eq_getD_getElem?, hL.out 3 (of_decide_eq_true (by kernel_rfl))]; rfl
    obtain ⟨p0, p1, p2, p3, p4, hz⟩ := q0.yard hTT
    clear hL
    match i, hi with
    | 0, hi =>
      obtain rfl := Option.some.inj hi
      refine .inl ⟨.pointer (some ⟨w.heap.size, 0, none⟩), ?_, rfl⟩
      simp [execOp, go_sem, Act.eval, sb]
    | 1, hi =>
      obtain rfl := Option.some.inj hi
      have x0 : act.tmps.getD 4 undef = .pointer (some ⟨w.heap.size, 0, none⟩) := hpre ⟨0, .data⟩ (by simp) rfl
      refine .inl ⟨A3 a b c, ?_, rfl⟩
      simp [execOp, go_sem, Act.eval, x0, p0, p1, p2]
    | 2, hi =>
      obtain rfl := Option.some.inj hi
      refine .inl ⟨.pointer (some ⟨w.heap.size, 3, none⟩), ?_, rfl⟩
      simp [execOp, go_sem, Act.eval, sb]
    | 3, hi =>
      obtain rfl := Option.some.inj hi
      have x0 : act.tmps.getD 6 undef = .pointer (some ⟨w.heap.size, 3, none⟩) := hpre ⟨2, .data⟩ (by simp) rfl
      refine .inl ⟨.slice an ns.length cn, ?_, rfl⟩
      simp [execOp, go_sem, Act.eval, x0, p3]
    | 4, hi =>
      obtain rfl := Option.some.inj hi
      refine .inl ⟨(.slice none 0 0), ?_, rfl⟩
      simp [execOp, go_sem, Act.eval, s3]
    | 5, hi =>
      obtain rfl := Option.some.inj hi
      refine .inl ⟨(V3 0 0 0), ?_, rfl⟩
      simp [execOp, go_sem, Act.eval]
    | 6, hi =>
      obtain rfl := Option.some.inj hi
      have x0 : act.tmps.getD 7 undef = .slice an ns.length cn := hpre ⟨3, .data⟩ (by simp) rfl
      have x1 : act.tmps.getD 8 undef = (.slice none 0 0) := hpre ⟨4, .data⟩ (by simp) rfl
      have x2 : act.tmps.getD 9 undef = (V3 0 0 0) := hpre ⟨5, .data⟩ (by simp) rfl
      refine .inr ⟨34, #[.slice an ns.length cn, (.slice none 0 0), (V3 0 0 0)], ?_, ?_⟩
      · simp [go_sem, Act.eval, x0, x1, x2]
      · refine (HC1.out w' (then_below hT hTT)).mono ?_
        rintro e w'' ⟨u, rfl, hU, hb⟩
        obtain ⟨ao1, n1, c1, rfl⟩ := hU.slice
        exact ⟨_, rfl, hb, ao1, n1, c1, rfl, hU.weak hTT.size⟩
    | 7, hi =>
      obtain rfl := Option.some.inj hi
      refine .inl ⟨.pointer (some ⟨w.heap.size, 4, none⟩), ?_, rfl⟩
      simp [execOp, go_sem, Act.eval, sb]
    | 8, hi =>
      obtain rfl := Option.some.inj hi
      have x0 : act.tmps.getD 11 undef = .pointer (some ⟨w.heap.size, 4, none⟩) := hpre ⟨7, .data⟩ (by simp) rfl
      refine .inl ⟨.slice al ls.length cl, ?_, rfl⟩
      simp [execOp, go_sem, Act.eval, x0, p4]
    | 9, hi =>
      obtain rfl := Option.some.inj hi
      refine .inl ⟨(.slice none 0 0), ?_, rfl⟩
      simp [execOp, go_sem, Act.eval, s3]
    | 10, hi =>
      obtain rfl := Option.some.inj hi
      refine .inl ⟨(V3 0 0 0), ?_, rfl⟩
      simp [execOp, go_sem, Act.eval]
    | 11, hi =>
      obtain rfl := Option.some.inj hi
      have x0 : act.tmps.getD 12 undef = .slice al ls.length cl := hpre ⟨8, .data⟩ (by simp) rfl
      have x1 : act.tmps.getD 13 undef = (.slice none 0 0) := hpre ⟨9, .data⟩ (by simp) rfl
      have x2 : act.tmps.getD 14 undef = (V3 0 0 0) := hpre ⟨10, .data⟩ (by simp) rfl
      refine .inr ⟨34, #[.slice al ls.length cl, (.slice none 0 0), (V3 0 0 0)], ?_, ?_⟩
      · simp [go_sem, Act.eval, x0, x1, x2]
      · refine (HC2.out w' (then_below hT hTT)).mono ?_
        rintro e w'' ⟨u, rfl, hU, hb⟩
        obtain ⟨ao1, n1, c1, rfl⟩ := hU.slice
        exact ⟨_, rfl, hb, ao1, n1, c1, rfl, hU.weak hTT.size⟩
    | 12, hi =>
      obtain rfl := Option.some.inj hi
      have x0 : act.tmps.getD 5 undef = A3 a b c := hpre ⟨1, .data⟩ (by simp) rfl
      obtain ⟨ao1, n1, c1, x1, k1⟩ : ∃ ao n1 c1, act.tmps.getD 10 undef = .slice ao n1 c1 ∧ Yo w' W.heap.size (act.tmps.getD 10 undef) ns := hpre ⟨6, .data⟩ (by simp) rfl
      obtain ⟨ao2, n2, c2, x2, k2⟩ : ∃ ao n1 c1, act.tmps.getD 15 undef = .slice ao n1 c1 ∧ Yo w' W.heap.size (act.tmps.getD 15 undef) ls := hpre ⟨11, .data⟩ (by simp) rfl
      rw [x1] at k1
      rw [x2] at k2
      refine .inl ⟨Y5 a b c (.slice ao1 n1 c1) (.slice ao2 n2 c2), ?_, _, _, _, _, _, _, rfl, k1, k2⟩
      rw [Array.getD_eq_getD_getElem?] at x0 x1 x2
      simp [execOp, go_sem, Act.eval, x0, x1, x2]
    | n + 13, hi => simp at hi
  · intro vs wv hTv hall
    obtain ⟨ao1, n1, c1, ao2, n2, c2, h12, hU, hV⟩ : ∃ ao1 n1 c1 ao2 n2 c2, vs 12 = Y5 a b c (.slice ao1 n1 c1) (.slice ao2 n2 c2) ∧ Yo wv W.heap.size (.slice ao1 n1 c1) ns ∧ Yo wv W.heap.size (.slice ao2 n2 c2) ls := hall 12 (by decide)
    clear hall
    simp only [List.take_succ_cons, List.take_zero, List.drop_succ_cons, List.drop_zero, List.length_cons, List.length_nil, Nat.zero_add, Nat.reduceAdd, List.range, List.range.loop, List.foldl_cons, List.foldl_nil, dstOf, List.getElem?_cons_zero, List.getElem?_cons_succ, Option.getD_some, Act.put, h12, List.setIfInBounds_toArray, List.set_cons_succ, List.set_cons_zero]
    clear h12
    generalize vs 0 = yy0
    generalize vs 1 = yy1
    generalize vs 2 = yy2
    generalize vs 3 = yy3
    generalize vs 4 = yy4
    generalize vs 5 = yy5
    generalize vs 6 = yy6
    generalize vs 7 = yy7
    generalize vs 8 = yy8
    generalize vs 9 = yy9
    generalize vs 10 = yy10
    generalize vs 11 = yy11
    clear vs
    have hTv2 := then_below hT hTv
    have hR2 := hR.later hTv2
    have HS := hR2.set5 (.int .i64 a) (.int .i64 b) (.int .i64 c) (.slice ao1 n1 c1) (.slice ao2 n2 c2)
    have hlow := below_set5 (then_below hB hTv2) (show w.heap.size ≤ w.heap.size + 1 by omega) (.int .i64 a) (.int .i64 b) (.int .i64 c) (.slice ao1 n1 c1) (.slice ao2 n2 c2)
    have HU : Hid (Yo (put5 wv (w.heap.size + 1) (.int .i64 a) (.int .i64 b) (.int .i64 c) (.slice ao1 n1 c1) (.slice ao2 n2 c2)) w.heap.size (.slice ao1 n1 c1) ns) := (hU.put5 (Nat.lt_of_lt_of_le hWs hT.size) _ _ _ _ _).weak (Nat.le_trans hB.size hT.size)
    have HV : Hid (Yo (put5 wv (w.heap.size + 1) (.int .i64 a) (.int .i64 b) (.int .i64 c) (.slice ao1 n1 c1) (.slice ao2 n2 c2)) w.heap.size (.slice ao2 n2 c2) ls) := (hV.put5 (Nat.lt_of_lt_of_le hWs hT.size) _ _ _ _ _).weak (Nat.le_trans hB.size hT.size)
    clear hU hV q0
    obtain ⟨q0, q1, q2, q3, q4, hzq⟩ := hR2.five
    obtain ⟨f0, f1, f2, f3, f4⟩ := hR2.row5
    gi_wp2
    go_wp2
    obtain ⟨j0, j1, j2, j3, j4, _⟩ := HS.five
    exact bodyPost_ret (v := Y5 a b c (.slice ao1 n1 c1) (.slice ao2 n2 c2)) (by simp [results, Tryz.f16, go_sem, j0, j1, j2, j3, j4]) rfl ⟨_, _, rfl, HU.out, HV.out, hlow⟩

end Go.Proofs.YtldcagjnngkabaaGreatDoor

/-
  The document's Put, Busy, Owned of a machine's calendars (tidehallref09). (Written by tools/gen/cals_refd.py.)
-/
namespace Go.Proofs.YtldcagjnngkabaaGreatDoor
open Go Go.RowKit Go.Shelf

attribute [local go_sem] Oper.semAt_some ext_const

theorem errAll_may2 {n : Nat} (h1 : 1 ≤ n) (h2 : n ≤ 12288) (ws : List Nat) : errAll n [ws] = if maySet n ws then 0 else 8 := by
  unfold errAll
  rw [show okN (n : Int) = true by simp [okN]; omega]
  simp
/-- Put's error, as the document looks for it. -/
def putD (q1 q2 q3 t1 t2 f1 f2 : Bool) : Int := if q1 && q2 then (if q3 then (if t1 || t2 then 80 else (if f1 || f2 then 4 else 0)) else 2) else 8
theorem putYE_D {a b c : Int} {ns ls : List (List Slt)} {mw lw : List Nat} {f t o : Int} (h : mayY a b c ns ls) : putYE a b c ns ls mw lw f t o = putD (maySet ns.length mw) (maySet ls.length lw) (maySlB (f, t, o)) (takenC ns (hasW mw) f t ns.length) (takenC ls (hasW lw) f t ls.length) (fullC ns (hasW mw) ns.length) (fullC ls (hasW lw) ls.length) := by
  have hbd := h.bd
  unfold putYE checkE putD freeYE takenY fullY
  rw [if_pos (mayYB_iff.2 h), errAll_may2 (by omega) (by omega), errAll_may2 (by omega) (by omega)]
  cases maySet ns.length mw <;> cases maySet ls.length lw <;> cases maySlB (f, t, o) <;> cases takenC ns (hasW mw) f t ns.length <;> cases takenC ls (hasW lw) f t ls.length <;> rfl

/-- What each operation of a statement comes to that makes two sets. -/
def wordTY (vn vl : Value) (xs : List Value) (B base : Nat) (s1 s2 : List Nat) (i : Nat) (v : Value) (w : World) : Prop :=
  if i = 0 then v = .pointer (some ⟨B, 3, none⟩) else if i = 1 then v = vn else if i < 2 + xs.length then v = xs.getD (i - 2) undef else if i = 2 + xs.length then SetR w base v s1
  else if i = 3 + xs.length then v = .pointer (some ⟨B, 4, none⟩) else if i = 4 + xs.length then v = vl else if i < 5 + 2 * xs.length then v = xs.getD (i - 5 - xs.length) undef else if i = 5 + 2 * xs.length then SetR w base v s2 else False
theorem wordTY_later {vn vl : Value} {xs : List Value} {B base : Nat} {s1 s2 : List Nat} (i : Nat) (v : Value) (w w' : World) (h : wordTY vn vl xs B base s1 s2 i v w) (hB : Below w.heap.size w w') : wordTY vn vl xs B base s1 s2 i v w' := by
  unfold wordTY at h ⊢
  by_cases c0 : i = 0
  · rw [if_pos c0] at h ⊢; exact h
  · rw [if_neg c0] at h ⊢
    by_cases c1 : i = 1
    · rw [if_pos c1] at h ⊢; exact h
    · rw [if_neg c1] at h ⊢
      by_cases c2 : i < 2 + xs.length
      · rw [if_pos c2] at h ⊢; exact h
      · rw [if_neg c2] at h ⊢
        by_cases c3 : i = 2 + xs.length
        · rw [if_pos c3] at h ⊢; exact SetR.later h hB
        · rw [if_neg c3] at h ⊢
          by_cases c4 : i = 3 + xs.length
          · rw [if_pos c4] at h ⊢; exact h
          · rw [if_neg c4] at h ⊢
            by_cases c5 : i = 4 + xs.length
            · rw [if_pos c5] at h ⊢; exact h
            · rw [if_neg c5] at h ⊢
              by_cases c6 : i < 5 + 2 * xs.length
              · rw [if_pos c6] at h ⊢; exact h
              · rw [if_neg c6] at h ⊢
                by_cases c7 : i = 5 + 2 * xs.length
                · rw [if_pos c7] at h ⊢; exact SetR.later h hB
                · rw [if_neg c7] at h ⊢
                  exact h

set_option maxRecDepth 100000 in
set_option maxHeartbeats 16000000 in
theorem rThrough_calls {a b c : Int} {n l : Value} {ns ls : List (List Slt)} {x y : Int} (w : World) (hN : Yl w n ns) (hL : Yl w l ls) (hs : Small ns ls) (h1 : 1 ≤ ns.length) (h2 : 1 ≤ ls.length) :
    Calls Tryz.prog 73 #[Y5 a b c n l, S2 x y] w fun e W' => ∃ u v, e = .returned (.tuple #[u, v]) ∧ SetR W' w.heap.size u (setOf ns.length (busyP ns x y)) ∧ SetR W' w.heap.size v (setOf ls.length (busyP ls x y)) ∧ Below w.heap.size w W' := by
  have hmx : Tryz.prog.follows .mixedOrders = true := by kernel_rfl
  obtain ⟨W, hW, hB, hK, hS⟩ := two_start w (K5 a b c n l) (C2 x y) 26 36
  have HW : Hid ((w.alloc (.cells (K5 a b c n l) 26)).alloc (.cells (C2 x y) 36) = W) := hW
  have h200 := hs.nodes
  have h600 := hs.links
  have HC1 : Hid (∀ w1, Below W.heap.size W w1 → Calls Tryz.prog 113 #[n, S2 x y] w1 fun e W' => ∃ u, e = .returned u ∧ SetR W' w1.heap.size u (setOf ns.length (busyP ns x y)) ∧ Below w1.heap.size w1 W') := fun w1 hb => rbusyL_calls w1 (hN.later (then_below hB hb)) h1 (by omega) hs.node
  have HC2 : Hid (∀ w1, Below W.heap.size W w1 → Calls Tryz.prog 113 #[l, S2 x y] w1 fun e W' => ∃ u, e = .returned u ∧ SetR W' w1.heap.size u (setOf ls.length (busyP ls x y)) ∧ Below w1.heap.size w1 W') := fun w1 hb => rbusyL_calls w1 (hL.later (then_below hB hb)) h2 (by omega) hs.link
  obtain ⟨an, cn, rfl, _⟩ := hN.form
  obtain ⟨al, cl, rfl, _⟩ := hL.form
  have hT := Below.refl W.heap.size W
  clear hW hN hL hs h1 h2 h200 h600
  generalize setOf (ns.length : Int) (busyP ns x y) = g1 at *
  generalize setOf (ls.length : Int) (busyP ls x y) = g2 at *
  generalize ns.length = nn at *
  generalize ls.length = ll at *
  go_enter Tryz.func73, Tryz.ntmps73
  go_wp2_with fail
  rw [HW.out]
  have q0 := hK.later hT
  refine wp_region_loud3 (w0 := W) 8 (wordTY (.slice an nn cn) (.slice al ll cl) [(S2 x y)] w.heap.size W.heap.size g1 g2) hmx (by kernel_rfl) wordTY_later ?_ ?_
  · intro i op hi act w' hTT hL hpre
    have sb : act.tmps.getD 2 undef = .pointer (some ⟨w.heap.size, 0, none⟩) := by
      rw [Array.getD_eq_getD_getElem?, hL.out 2 (of_decide_eq_true (by kernel_rfl))]; rfl
    have s3 : act.tmps.getD 3 undef = .pointer (some ⟨w.heap.size + 1, 0, none⟩) := by
      rw [Array.getD_eq_getD_getElem?, hL.out 3 (of_decide_eq_true (by kernel_rfl))]; rfl
    obtain ⟨d0, d1, hzd⟩ := hS.pair hTT
    obtain ⟨p0, p1, p2, p3, p4, hz⟩ := q0.yard hTT
    clear hL
    match i, hi with
    | 0, hi =>
      obtain rfl := Option.some.inj hi
      refine .inl ⟨.pointer (some ⟨w.heap.size, 3, none⟩), ?_, rfl⟩
      simp [execOp, go_sem, Act.eval, sb]
    | 1, hi =>
      obtain rfl := Option.some.inj hi
      have x0 : act.tmps.getD 6 undef = .pointer (some ⟨w.heap.size, 3, none⟩) := hpre ⟨0, .data⟩ (by simp) rfl
      refine .inl ⟨.slice an nn cn, ?_, rfl⟩
      simp [execOp, go_sem, Act.eval, x0, p3]
    | 2, hi =>
      obtain rfl := Option.some.inj hi
      refine .inl ⟨(S2 x y), ?_, rfl⟩
      simp [execOp, go_sem, Act.eval, s3, d0, d1]
    | 3, hi =>
      obtain rfl := Option.some.inj hi
      have x0 : act.tmps.getD 7 undef = .slice an nn cn := hpre ⟨1, .data⟩ (by simp) rfl
      have x1 : act.tmps.getD 8 undef = (S2 x y) := hpre ⟨2, .data⟩ (by simp) rfl
      refine .inr ⟨113, #[.slice an nn cn, (S2 x y)], ?_, ?_⟩
      · simp [go_sem, Act.eval, x0, x1]
      · refine (HC1.out w' (then_below hT hTT)).mono ?_
        rintro e w'' ⟨u, rfl, hU, hb⟩
        exact ⟨_, rfl, hb, hU.weak hTT.size⟩
    | 4, hi =>
      obtain rfl := Option.some.inj hi
      refine .inl ⟨.pointer (some ⟨w.heap.size, 4, none⟩), ?_, rfl⟩
      simp [execOp, go_sem, Act.eval, sb]
    | 5, hi =>
      obtain rfl := Option.some.inj hi
      have x0 : act.tmps.getD 10 undef = .pointer (some ⟨w.heap.size, 4, none⟩) := hpre ⟨4, .data⟩ (by simp) rfl
      refine .inl ⟨.slice al ll cl, ?_, rfl⟩
      simp [execOp, go_sem, Act.eval, x0, p4]
    | 6, hi =>
      obtain rfl := Option.some.inj hi
      refine .inl ⟨(S2 x y), ?_, rfl⟩
      simp [execOp, go_sem, Act.eval, s3, d0, d1]
    | 7, hi =>
      obtain rfl := Option.some.inj hi
      have x0 : act.tmps.getD 11 undef = .slice al ll cl := hpre ⟨5, .data⟩ (by simp) rfl
      have x1 : act.tmps.getD 12 undef = (S2 x y) := hpre ⟨6, .data⟩ (by simp) rfl
      refine .inr ⟨113, #[.slice al ll cl, (S2 x y)], ?_, ?_⟩
      · simp [go_sem, Act.eval, x0, x1]
      · refine (HC2.out w' (then_below hT hTT)).mono ?_
        rintro e w'' ⟨u, rfl, hU, hb⟩
        exact ⟨_, rfl, hb, hU.weak hTT.size⟩
    | n + 8, hi => simp at hi
  · intro vs wv hTv hall
    have hU : SetR wv W.heap.size (vs 3) g1 := hall 3 (by decide)
    have hV : SetR wv W.heap.size (vs 7) g2 := hall 7 (by decide)
    clear hall
    simp only [List.take_succ_cons, List.take_zero, List.drop_succ_cons, List.drop_zero, List.length_cons, List.length_nil, Nat.zero_add, Nat.reduceAdd, List.range, List.range.loop, List.foldl_cons, List.foldl_nil, dstOf, List.getElem?_cons_zero, List.getElem?_cons_succ, Option.getD_some, Act.put, List.setIfInBounds_toArray, List.set_cons_succ, List.set_cons_zero]
    generalize vs 0 = yy0 at *
    generalize vs 1 = yy1 at *
    generalize vs 2 = yy2 at *
    generalize vs 3 = yy3 at *
    generalize vs 4 = yy4 at *
    generalize vs 5 = yy5 at *
    generalize vs 6 = yy6 at *
    generalize vs 7 = yy7 at *
    clear vs
    have hTv2 := then_below hT hTv
    have HU : Hid (SetR wv w.heap.size yy3 g1) := hU.weak (Nat.le_trans hB.size hT.size)
    have HV : Hid (SetR wv w.heap.size yy7 g2) := hV.weak (Nat.le_trans hB.size hT.size)
    clear hU hV q0
    gi_wp2
    go_wp2
    go_ret2
    exact ⟨_, _, rfl, HU.out, HV.out, then_below hB hTv2⟩

set_option maxHeartbeats 8000000 in
theorem rBusyY_calls {a b c : Int} {n l : Value} {ns ls : List (List Slt)} {x y : Int} (w : World) (hN : Yl w n ns) (hL : Yl w l ls) (hs : Small ns ls) : Calls Tryz.prog 35 #[Y5 a b c n l, S2 x y] w fun e W' => ∃ u v, e = .returned (.tuple #[u, v, I (busyE a b c ns ls x y)]) ∧ SetR W' w.heap.size u (wordsE (busyE a b c ns ls x y) ns.length (busyP ns x y)) ∧ SetR W' w.heap.size v (wordsE (busyE a b c ns ls x y) ls.length (busyP ls x y)) ∧ Below w.heap.size w W' := by
  obtain ⟨W, hW, hB, hK, hK2⟩ := two_start w (K5 a b c n l) (C2 x y) 26 36
  have HW : Hid ((w.alloc (.cells (K5 a b c n l) 26)).alloc (.cells (C2 x y) 36) = W) := hW
  have HC : Hid (Calls Tryz.prog 41 #[Y5 a b c n l] W fun e W' => e = .returned (.bool (mayYB a b c ns ls)) ∧ Below W.heap.size W W') := rmayY_calls W (hN.later hB) (hL.later hB) hs
  have HT : Hid (∀ w, Calls Tryz.prog 72 #[S2 x y] w fun e W' => e = .returned (.bool (maySpB x y)) ∧ Below w.heap.size w W') := rmayS_calls x y
  have H1 : Hid (mayY a b c ns ls → ∀ w1, Below W.heap.size W w1 → Calls Tryz.prog 73 #[Y5 a b c n l, S2 x y] w1 fun e W' => ∃ u v, e = .returned (.tuple #[u, v]) ∧ SetR W' w1.heap.size u (setOf ns.length (busyP ns x y)) ∧ SetR W' w1.heap.size v (setOf ls.length (busyP ls x y)) ∧ Below w1.heap.size w1 W') := fun hm w1 hb => rThrough_calls w1 (hN.later (then_below hB hb)) (hL.later (then_below hB hb)) hs hm.bd.1 (by have := hm.bd; omega)
  by_cases hm : mayY a b c ns ls
  · rw [mayYB_iff.2 hm] at HC
    cases hsp : maySpB x y
    · have E : busyE a b c ns ls x y = 2 := by rw [busyE, if_pos (mayYB_iff.2 hm), hsp]; rfl
      rw [E, wordsE, if_neg (by decide), wordsE, if_neg (by decide)]
      rw [hsp] at HT
      clear hW hN hL hm hsp E H1 hs
      go_enter Tryz.func35, Tryz.ntmps35
      go_wp2_with fail
      rw [HW.out]
      refine HC.out.mono ?_
      rintro e w1 ⟨rfl, hT⟩
      obtain ⟨c0, c1, hz1⟩ := hK2.pair hT
      go_wp2_with fail
      refine (HT.out _).mono ?_
      rintro e w2 ⟨rfl, hB2⟩
      go_wp2
      refine bodyPost_ret (results_tmp3 rfl _ _ _) rfl ?_
      exact ⟨_, _, rfl, .inr ⟨rfl, rfl⟩, .inr ⟨rfl, rfl⟩, then_below hB (then_below hT hB2)⟩
    · have E : busyE a b c ns ls x y = 0 := by rw [busyE, if_pos (mayYB_iff.2 hm), if_pos hsp]
      rw [E, wordsE, if_pos rfl, wordsE, if_pos rfl]
      rw [hsp] at HT
      have H2 : Hid (∀ w1, Below W.heap.size W w1 → Calls Tryz.prog 73 #[Y5 a b c n l, S2 x y] w1 fun e W' => ∃ u v, e = .returned (.tuple #[u, v]) ∧ SetR W' w1.heap.size u (setOf ns.length (busyP ns x y)) ∧ SetR W' w1.heap.size v (setOf ls.length (busyP ls x y)) ∧ Below w1.heap.size w1 W') := H1.out hm
      clear hW hN hL hm hsp E H1 hs
      generalize setOf (ns.length : Int) (busyP ns x y) = s1 at *
      generalize setOf (ls.length : Int) (busyP ls x y) = s2 at *
      go_enter Tryz.func35, Tryz.ntmps35
      go_wp2_with fail
      rw [HW.out]
      refine HC.out.mono ?_
      rintro e w1 ⟨rfl, hT⟩
      obtain ⟨c0, c1, hz1⟩ := hK2.pair hT
      obtain ⟨p0, p1, p2, p3, p4, hz⟩ := hK.yard hT
      go_wp2_with fail
      refine (HT.out _).mono ?_
      rintro e w2 ⟨rfl, hB2⟩
      have hT2 := then_below hT hB2
      clear c0 c1 hz1 p0 p1 p2 p3 p4 hz
      obtain ⟨c0, c1, hz1⟩ := hK2.pair hT2
      obtain ⟨p0, p1, p2, p3, p4, hz⟩ := hK.yard hT2
      go_wp2_with fail
      refine (H2.out _ hT2).mono ?_
      rintro e w3 ⟨u, v, rfl, hR, hR2, hB3⟩
      have HR : Hid (SetR w3 w.heap.size u s1) := hR.weak (Nat.le_trans hB.size hT2.size)
      have HR2 : Hid (SetR w3 w.heap.size v s2) := hR2.weak (Nat.le_trans hB.size hT2.size)
      clear hR hR2
      go_wp2
      refine bodyPost_ret (results_tmp3 rfl _ _ _) rfl ?_
      exact ⟨_, _, rfl, HR.out, HR2.out, then_below hB (then_below hT2 hB3)⟩
  · rw [mayYB_no hm] at HC
    have E : busyE a b c ns ls x y = 8 := by rw [busyE, mayYB_no hm]; rfl
    rw [E, wordsE, if_neg (by decide), wordsE, if_neg (by decide)]
    clear hW hN hL hm E H1 hs
    go_enter Tryz.func35, Tryz.ntmps35
    go_wp2_with fail
    rw [HW.out]
    refine HC.out.mono ?_
    rintro e w1 ⟨rfl, hT⟩
    go_wp2
    refine bodyPost_ret (results_tmp3 rfl _ _ _) rfl ?_
    exact ⟨_, _, rfl, .inr ⟨rfl, rfl⟩, .inr ⟨rfl, rfl⟩, then_below hB hT⟩

end Go.Proofs.YtldcagjnngkabaaGreatDoor

/-
  The document's maySets, Joined, Clear, Avoid, Holds, At of layer 11.
-/
namespace Go.Proofs.YtldcagjnngkabaaGreatDoor
open Go Go.RowKit Go.Shelf

attribute [local go_sem] Oper.semAt_some ext_const

theorem rmayW_calls {n : Nat} (h1 : 1 ≤ n) (h2 : n ≤ 4096) {mw lw : List Nat} {vm vl : Value} (w : World) (hM : Wds w vm mw) (hL : Wds w vl lw) :
    Calls Tryz.prog 36 #[I n, vm, vl] w fun e W' => e = .returned (.bool (mayW n mw lw)) ∧ W' = w := by
  have H1 : Hid (Calls Tryz.prog 74 #[I n, vm] w fun e W' => e = .returned (.bool (maySet n mw)) ∧ W' = w) := may_calls w hM n h1 (by omega)
  have H2 : Hid (Calls Tryz.prog 74 #[I (3 * (n : Int)), vl] w fun e W' => e = .returned (.bool (maySet (3 * n) lw)) ∧ W' = w) := by
    have := may_calls w hL (3 * n) (by omega) (by omega)
    rwa [show ((3 * n : Nat) : Int) = 3 * (n : Int) by omega] at this
  have hw : wrap64 (3 * (n : Int)) = 3 * (n : Int) := wrap_in _ (by omega)
  unfold mayW
  clear hM hL
  generalize maySet n mw = q1 at *
  generalize maySet (3 * n) lw = q2 at *
  cases q1
  · rw [Bool.false_and]
    go_enter Tryz.func36, Tryz.ntmps36
    go_wp2_with fail
    refine H1.out.mono ?_
    rintro e w1 ⟨rfl, rfl⟩
    go_wp2
    go_ret
    exact ⟨rfl, rfl⟩
  · rw [Bool.true_and]
    go_enter Tryz.func36, Tryz.ntmps36
    go_wp2_with fail
    refine H1.out.mono ?_
    rintro e w1 ⟨rfl, hw1⟩
    subst hw1
    go_wp2_with fail
    refine H2.out.mono ?_
    rintro e w2 ⟨rfl, hw2⟩
    subst hw2
    go_wp2
    go_ret
    exact ⟨rfl, by trivial⟩

theorem inL_app (xs ys : List Int) (j : Nat) : inL (xs ++ ys) j = (inL xs j || inL ys j) := by
  unfold inL
  rw [Bool.eq_iff_iff]
  simp [List.mem_append]
theorem inL_nums (ws : List Nat) (j : Nat) : inL (ofN (numsW ws)) j = hasW ws j := by
  rw [inL_ofN, Bool.eq_iff_iff]
  unfold numsW
  rw [List.contains_iff_mem, listTo_mem]
  constructor
  · exact fun h => h.2
  · intro h
    refine ⟨?_, h⟩
    by_cases hj : j < 64 * ws.length
    · exact hj
    · rw [hasW_past (by omega)] at h; cases h

set_option maxRecDepth 100000 in
set_option maxHeartbeats 4000000 in
theorem rjoined_calls {n : Nat} (h1 : 1 ≤ n) (h2 : n ≤ 12288) (p : Nat → Bool) {ws : List Nat} {u v : Value} (w : World) (hU : Wds w u (setOf n p)) (hV : Wds w v ws) (he : errAll n [ws] = 0) :
    Calls Tryz.prog 37 #[I n, u, v] w fun e W' => ∃ r, e = .returned r ∧ SetR W' w.heap.size r (setOf n (fun k => p k || hasW ws k)) ∧ Below w.heap.size w W' := by
  obtain ⟨_, _, hms⟩ := err_one he
  obtain ⟨q1, q2⟩ := mayS_iff.1 hms
  rw [Int.toNat_natCast] at q1 q2
  have hl1 : (setOf (n : Int) p).length ≤ 192 := by rw [setOf_len]; omega
  have hl2 : ws.length ≤ 192 := by omega
  have H1 : Hid (Calls Tryz.prog 76 #[u] w fun e W' => ∃ r, e = .returned r ∧ Lst W' w.heap.size r (ofN (numsW (setOf n p))) ∧ Below w.heap.size w W') := all_calls w hU (by omega)
  have H2 : Hid (∀ w', Below w.heap.size w w' → Calls Tryz.prog 76 #[v] w' fun e W' => ∃ r, e = .returned r ∧ Lst W' w'.heap.size r (ofN (numsW ws)) ∧ Below w'.heap.size w' W') := fun w' hb => all_calls w' (hV.later hb) (by omega)
  have L1 : (ofN (numsW (setOf (n : Int) p))).length ≤ 12288 := by rw [ofN_len]; have := numsW_len (setOf (n : Int) p); omega
  have L2 : (ofN (numsW ws)).length ≤ 12288 := by rw [ofN_len]; have := numsW_len ws; omega
  have H3 : Hid (∀ w' b r, Lst w' b r (ofN (numsW (setOf n p)) ++ ofN (numsW ws)) → Calls Tryz.prog 75 #[I n, r] w' fun e W' => ∃ r, e = .returned r ∧ SetR W' w'.heap.size r (setOf n (fun k => p k || hasW ws k)) ∧ Below w'.heap.size w' W') := fun w' b r hr => by
    refine from_set w' hr (by rw [List.length_append]; omega) (by omega) (by omega) (fun x hx => ?_) (fun j => ?_)
    · have key : ∀ (s : List Nat), (∀ k, n ≤ k → hasW s k = false) → x ∈ ofN (numsW s) → 0 ≤ x ∧ x < (n : Int) := fun s hs hm => by
        obtain ⟨m, hmm, rfl⟩ := List.mem_map.1 hm
        have := (listTo_mem.1 hmm).2
        by_cases hk : n ≤ m
        · rw [hs m hk] at this; cases this
        · omega
      rcases List.mem_append.1 hx with hx | hx
      · refine key _ (fun k hk => ?_) hx
        rw [(setOf_is n p).has]; simp; omega
      · exact key _ (fun k hk => q2 k (by omega)) hx
    · rw [inL_app, inL_nums, inL_nums, (setOf_is n p).has]
      by_cases hj : j < n
      · simp [hj]
      · rw [q2 j (by omega)]; simp [hj]
  clear hU hV he hms q1 q2 hl1 hl2
  generalize setOf n (fun k => p k || hasW ws k) = T at *
  generalize ofN (numsW (setOf (n : Int) p)) = X at *
  generalize ofN (numsW ws) = Y at *
  go_enter Tryz.func37, Tryz.ntmps37
  go_wp2_with fail
  refine H1.out.mono ?_
  rintro e w1 ⟨r1, rfl, hr1, hT⟩
  go_wp2_with fail
  refine (H2.out _ hT).mono ?_
  rintro e w2 ⟨r2, rfl, hr2, hT2⟩
  have hr1 := hr1.later hT2
  have hT := then_below hT hT2
  have hsz := hT.size
  clear hT2
  go_wp2_with (at_builtin; refine wpList_cat (base := w.heap.size) rfl _ _ rfl rfl rfl hr1 hr2 (by omega) (by omega) hsz ?_; intro v5 w5 hS5 hT5)
  refine (H3.out _ _ _ hS5).mono ?_
  rintro e w6 ⟨r6, rfl, hr6, hT6⟩
  have HF : Hid (SetR w6 w.heap.size r6 T ∧ Below w.heap.size w w6) := ⟨hr6.weak (hT.trans hT5).size, then_below (hT.trans hT5) hT6⟩
  clear hr6
  go_wp2
  go_ret
  exact ⟨_, rfl, HF.out.1, HF.out.2⟩

theorem anyB_off {n : Nat} (p : Nat → Bool) (ws : List Nat) : (!anyB (setOf n p) ws) = offW n p ws := by
  refine bool_ext ?_
  rw [offW_iff, Bool.not_eq_true']
  unfold anyB
  rw [List.any_eq_false]
  constructor
  · intro h k hk hp
    have := h k (List.mem_range.2 (by rw [setOf_len]; omega))
    rw [(setOf_is n p).has] at this
    simpa [hk, hp] using this
  · intro h k _
    rw [(setOf_is n p).has]
    by_cases hk : k < n
    · cases hp : p k
      · simp
      · simp [h k hk hp]
    · simp [hk]
theorem well_any {a b c : Int} (hm : mayD a b c) (bx : Bx) (t0 t1 t2 : Bool) (mw lw : List Nat) : wellB a b c bx t0 t1 t2 mw lw = (!anyB (midW a b c bx) mw && !anyB (cabsW a b c bx t0 t1 t2) lw) := by
  have hb := N_bd hm
  obtain ⟨n, hn⟩ : ∃ n : Nat, a * b * c = n := ⟨(a * b * c).toNat, by omega⟩
  unfold midW cabsW wellB
  rw [hn, Int.toNat_natCast, anyB_off, show (3 * (n : Int)) = ((3 * n : Nat) : Int) by omega, anyB_off]
  rfl

set_option maxRecDepth 100000 in
set_option maxHeartbeats 4000000 in
theorem rfclear_calls {a b c : Int} {bx : Bx} {t0 t1 t2 : Bool} {mw lw : List Nat} {vm vl : Value} (w : World) (hm : mayD a b c) (hp : mayP a b c bx t0 t1 t2) (hM : Wds w vm mw) (hL : Wds w vl lw) :
    Calls Tryz.prog 40 #[A3 a b c, P9 bx t0 t1 t2, vm, vl] w fun e W' => e = .returned (.bool (wellB a b c bx t0 t1 t2 mw lw)) ∧ Below w.heap.size w W' := by
  rw [well_any hm]
  have hbd := N_bd hm
  have HT : Hid (∀ w, Calls Tryz.prog 79 #[A3 a b c, P9 bx t0 t1 t2] w fun e W' => ∃ u v, e = .returned (.tuple #[u, v]) ∧ SetR W' w.heap.size u (midW a b c bx) ∧ SetR W' w.heap.size v (cabsW a b c bx t0 t1 t2) ∧ Below w.heap.size w W') := fun w => rtaken_calls w hm hp
  obtain ⟨W, hW, hB0, k0, k1⟩ := two_start w #[I a, I b, I c] (C9 bx t0 t1 t2) 23 43
  have HW : Hid ((w.alloc (.cells #[I a, I b, I c] 23)).alloc (.cells (C9 bx t0 t1 t2) 43) = W) := hW
  have HM1 : Hid (∀ w' u, Below W.heap.size W w' → Wds w' u (midW a b c bx) → Calls Tryz.prog 80 #[u, vm] w' fun e W' => e = .returned (.bool (anyB (midW a b c bx) mw)) ∧ Below w'.heap.size w' W') := fun w' u hb hu => meetsS_calls w' hu (hM.later (then_below hB0 hb)) (by unfold midW; rw [setOf_len]; omega)
  have HM2 : Hid (∀ w' u, Below W.heap.size W w' → Wds w' u (cabsW a b c bx t0 t1 t2) → Calls Tryz.prog 80 #[u, vl] w' fun e W' => e = .returned (.bool (anyB (cabsW a b c bx t0 t1 t2) lw)) ∧ Below w'.heap.size w' W') := fun w' u hb hu => meetsS_calls w' hu (hL.later (then_below hB0 hb)) (by unfold cabsW; rw [setOf_len]; omega)
  clear hm hp hM hL hW hbd
  generalize anyB (midW a b c bx) mw = q1 at *
  generalize anyB (cabsW a b c bx t0 t1 t2) lw = q2 at *
  generalize midW a b c bx = S1 at *
  generalize cabsW a b c bx t0 t1 t2 = S2' at *
  obtain ⟨c0, c1, c2, hz⟩ := k0.three (Below.refl _ _)
  obtain ⟨⟨x0, x1, x2⟩, ⟨x3, x4, x5⟩, ⟨x6, x7, x8⟩, hz1⟩ := k1.nine (Below.refl _ _)
  cases q1
  · go_enter Tryz.func40, Tryz.ntmps40
    go_wp2_with fail
    rw [HW.out]
    refine (HT.out _).mono ?_
    rintro e w1 ⟨u, v, rfl, hu, hv, hT⟩
    have HV : Hid (Wds w1 v S2') := hv.wds
    have HU : Hid (Wds w1 u S1) := hu.wds
    clear hu hv c0 c1 c2 hz x0 x1 x2 x3 x4 x5 x6 x7 x8 hz1
    go_wp2_with fail
    refine (HM1.out _ _ hT HU.out).mono ?_
    rintro e w2 ⟨rfl, hT2⟩
    go_wp2_with fail
    refine (HM2.out _ _ (then_below hT hT2) (HV.out.later hT2)).mono ?_
    rintro e w3 ⟨rfl, hT3⟩
    go_wp2
    go_ret
    exact ⟨rfl, then_below hB0 (then_below (then_below hT hT2) hT3)⟩
  · go_enter Tryz.func40, Tryz.ntmps40
    go_wp2_with fail
    rw [HW.out]
    refine (HT.out _).mono ?_
    rintro e w1 ⟨u, v, rfl, hu, hv, hT⟩
    have HU : Hid (Wds w1 u S1) := hu.wds
    clear hu hv c0 c1 c2 hz x0 x1 x2 x3 x4 x5 x6 x7 x8 hz1
    go_wp2_with fail
    refine (HM1.out _ _ hT HU.out).mono ?_
    rintro e w2 ⟨rfl, hT2⟩
    go_wp2
    go_ret
    exact ⟨rfl, then_below hB0 (then_below hT hT2)⟩

set_option maxRecDepth 100000 in
set_option maxHeartbeats 4000000 in
/-- The document's Holds, whatever it is handed. -/
theorem rholds_calls {a b c : Int} {bx : Bx} (t0 t1 t2 : Bool) {mw lw : List Nat} {vm vl : Value} (w : World) (hM : Wds w vm mw) (hL : Wds w vl lw) :
    Calls Tryz.prog 18 #[A3 a b c, P9 bx t0 t1 t2, vm, vl] w fun e W' => e = .returned (.tuple #[.bool (hoB a b c bx t0 t1 t2 mw lw), I (hoE a b c bx t0 t1 t2 mw lw)]) ∧ Below w.heap.size w W' := by
  obtain ⟨W, hW, hB0, k0, k1⟩ := two_start w #[I a, I b, I c] (C9 bx t0 t1 t2) 23 43
  have HW : Hid ((w.alloc (.cells #[I a, I b, I c] 23)).alloc (.cells (C9 bx t0 t1 t2) 43) = W) := hW
  have HC : Hid (∀ w, Calls Tryz.prog 38 #[A3 a b c, P9 bx t0 t1 t2] w fun e W' => e = .returned (I (errP a b c bx t0 t1 t2)) ∧ Below w.heap.size w W') := fun w => rpcheck_calls a b c bx t0 t1 t2 w
  obtain ⟨c0, c1, c2, hz⟩ := k0.three (Below.refl _ _)
  obtain ⟨⟨x0, x1, x2⟩, ⟨x3, x4, x5⟩, ⟨x6, x7, x8⟩, hz1⟩ := k1.nine (Below.refl _ _)
  rcases errP_cases a b c bx t0 t1 t2 with ⟨hd, hp, he⟩ | ⟨he, _⟩
  · have hbd := N_bd hd
    obtain ⟨n, hn⟩ : ∃ n : Nat, a * b * c = n := ⟨(a * b * c).toNat, by omega⟩
    have e1 : hoE a b c bx t0 t1 t2 mw lw = if mayW n mw lw then 0 else 8 := by rw [hoE, if_pos he, hn, Int.toNat_natCast]
    have e2 : hoB a b c bx t0 t1 t2 mw lw = (mayW n mw lw && wellB a b c bx t0 t1 t2 mw lw) := by
      rw [hoB, e1]
      cases mayW n mw lw <;> rfl
    rw [e1, e2]
    have HN : Hid (∀ w, Calls Tryz.prog 39 #[A3 a b c] w fun e W' => e = .returned (I n) ∧ Below w.heap.size w W') := fun w => by have := rn_calls w hd; rwa [hn] at this
    have HQ : Hid (∀ w', Below W.heap.size W w' → Calls Tryz.prog 36 #[I n, vm, vl] w' fun e W' => e = .returned (.bool (mayW n mw lw)) ∧ W' = w') := fun w' hb => rmayW_calls (by omega) (by omega) w' (hM.later (then_below hB0 hb)) (hL.later (then_below hB0 hb))
    have HX : Hid (∀ w', Below W.heap.size W w' → Calls Tryz.prog 40 #[A3 a b c, P9 bx t0 t1 t2, vm, vl] w' fun e W' => e = .returned (.bool (wellB a b c bx t0 t1 t2 mw lw)) ∧ Below w'.heap.size w' W') := fun w' hb => rfclear_calls w' hd hp (hM.later (then_below hB0 hb)) (hL.later (then_below hB0 hb))
    rw [he] at HC
    clear e1 e2 hW hM hL hd hp he hbd hn
    generalize mayW n mw lw = q at *
    generalize wellB a b c bx t0 t1 t2 mw lw = r at *
    cases q
    · rw [Bool.false_and]
      go_enter Tryz.func18, Tryz.ntmps18
      go_wp2_with fail
      rw [HW.out]
      refine (HC.out _).mono ?_
      rintro e w1 ⟨rfl, hT⟩
      clear c0 c1 c2 hz x0 x1 x2 x3 x4 x5 x6 x7 x8 hz1
      obtain ⟨c0, c1, c2, hz⟩ := k0.three hT
      go_wp2_with fail
      refine (HN.out _).mono ?_
      rintro e w2 ⟨rfl, hT2⟩
      go_wp2_with fail
      refine (HQ.out _ (then_below hT hT2)).mono ?_
      rintro e w3 ⟨rfl, hw3⟩
      subst hw3
      go_wp2
      go_ret2
      exact ⟨rfl, then_below hB0 (then_below hT hT2)⟩
    · rw [Bool.true_and]
      go_enter Tryz.func18, Tryz.ntmps18
      go_wp2_with fail
      rw [HW.out]
      refine (HC.out _).mono ?_
      rintro e w1 ⟨rfl, hT⟩
      clear c0 c1 c2 hz x0 x1 x2 x3 x4 x5 x6 x7 x8 hz1
      obtain ⟨c0, c1, c2, hz⟩ := k0.three hT
      go_wp2_with fail
      refine (HN.out _).mono ?_
      rintro e w2 ⟨rfl, hT2⟩
      have hT := then_below hT hT2
      clear c0 c1 c2 hz hT2
      go_wp2_with fail
      refine (HQ.out _ hT).mono ?_
      rintro e w3 ⟨rfl, hw3⟩
      subst hw3
      obtain ⟨c0, c1, c2, hz⟩ := k0.three hT
      obtain ⟨⟨x0, x1, x2⟩, ⟨x3, x4, x5⟩, ⟨x6, x7, x8⟩, hz1⟩ := k1.nine hT
      go_wp2_with fail
      refine (HX.out _ hT).mono ?_
      rintro e w4 ⟨rfl, hT4⟩
      go_wp2
      go_ret2
      exact ⟨rfl, then_below hB0 (then_below hT hT4)⟩
  · have h0 : errP a b c bx t0 t1 t2 ≠ 0 := by rcases he with h | h <;> rw [h] <;> decide
    have e1 : hoE a b c bx t0 t1 t2 mw lw = errP a b c bx t0 t1 t2 := by rw [hoE, if_neg h0]
    have e2 : hoB a b c bx t0 t1 t2 mw lw = false := by rw [hoB, e1, decide_eq_false h0, Bool.false_and]
    rw [e1, e2]
    clear e1 e2 hW he
    generalize errP a b c bx t0 t1 t2 = er at *
    have hne : (er != 0) = true := by simpa using h0
    clear h0
    go_enter Tryz.func18, Tryz.ntmps18
    go_wp2_with fail
    rw [HW.out]
    refine (HC.out _).mono ?_
    rintro e w1 ⟨rfl, hT⟩
    go_wp2
    go_ret2
    exact ⟨rfl, then_below hB0 hT⟩

end Go.Proofs.YtldcagjnngkabaaGreatDoor

/-
  A place is free of what is busy through a span, just if none of what it takes is.
-/
namespace Go.Proofs.YtldcagjnngkabaaGreatDoor
open Go Go.RowKit Go.Shelf

theorem well_free {a b c : Int} {ns ls : List (List Slt)} (hm : mayY a b c ns ls) (bx : Bx) (t0 t1 t2 : Bool) {f t : Int} (h : f < t) :
    wellB a b c bx t0 t1 t2 (setOf ns.length (busyP ns f t)) (setOf ls.length (busyP ls f t)) = freeP ns ls (midP a b c bx) (cabP a b c bx t0 t1 t2) f t := by
  obtain ⟨h1, h2, h3⟩ := hm.bd
  have hn : (a * b * c).toNat = ns.length := by rw [← hm.2.1]; simp
  refine bool_ext ?_
  unfold wellB
  rw [hn, ← h3, Bool.and_eq_true, offW_iff, offW_iff, freeP_iff hm.2.2.2.1 hm.2.2.2.2 h]
  have key : ∀ (cs : List (List Slt)) (p : Nat → Bool), maysC cs = true → ((∀ k, k < cs.length → p k = true → hasW (setOf cs.length (busyP cs f t)) k = false) ↔ ∀ k, p k = true → busyP cs f t k = false) := fun cs p hc => by
    constructor
    · intro q k hp
      by_cases hk : k < cs.length
      · have := q k hk hp
        rw [(setOf_is cs.length (busyP cs f t)).has] at this
        simpa [hk] using this
      · exact busy_out hc h hk
    · intro q k hk hp
      rw [(setOf_is cs.length (busyP cs f t)).has, q k hp]
      simp
  rw [key ns _ hm.2.2.2.1, key ls _ hm.2.2.2.2]

end Go.Proofs.YtldcagjnngkabaaGreatDoor
