/-
  The statements of layer 11: alive, and FreeNames: the chapter's examples. (Written by tools/gen/law_free.py.)
-/
import Derived.Test.YtldcagjnngkabaaGreatDoorPart30
import Derived.Test.YtldcagjnngkabaaGreatDoorPart9
import Derived.Test.YtldcagjnngkabaaGreatDoorPart6
namespace Go.Proofs.YtldcagjnngkabaaGreatDoor
open Go Go.RowKit Go.Shelf

attribute [local go_sem] Oper.semAt_some ext_const

/-- A new set of one word. -/
def MadeU (x : Nat) (v : Value) (w : World) : Prop := ∃ g, v = .slice (some ⟨g, 0, none⟩) 1 1 ∧ Blk w g 34 #[U x]
theorem MadeU.later {x : Nat} {v : Value} {w w' : World} (h : MadeU x v w) (hB : Below w.heap.size w w') : MadeU x v w' := by
  obtain ⟨g, e, hk⟩ := h
  exact ⟨g, e, hk.later hB⟩
/-- What each operation comes to, where Soon is asked; where Holds is. -/
def wordO (y : Value) (x1 x2 : Nat) (rv re : Int) (i : Nat) (v : Value) (w : World) : Prop :=
  match i with
  | 0 => v = y
  | 1 => v = P9 oneB false false false
  | 2 => MadeU x1 v w
  | 3 => MadeU x2 v w
  | 4 => v = .tuple #[I rv, I re]
  | 5 => v = .tuple #[I rv, I re]
  | 6 => v = I rv
  | 7 => v = I re
  | 8 => v = I rv
  | 9 => v = I re
  | _ => False
theorem wordO_later {y : Value} {x1 x2 : Nat} {rv re : Int} (i : Nat) (v : Value) (w w' : World) (h : wordO y x1 x2 rv re i v w) (hB : Below w.heap.size w w') : wordO y x1 x2 rv re i v w' := by
  match i, h with
  | 0, h => exact h
  | 1, h => exact h
  | 2, h => exact MadeU.later h hB
  | 3, h => exact MadeU.later h hB
  | 4, h => exact h
  | 5, h => exact h
  | 6, h => exact h
  | 7, h => exact h
  | 8, h => exact h
  | 9, h => exact h
  | n + 10, h => exact h.elim
def wordQ (yb : Nat) (x1 x2 : Nat) (rb : Bool) (re : Int) (i : Nat) (v : Value) (w : World) : Prop :=
  match i with
  | 0 => v = .pointer (some ⟨yb, 0, none⟩)
  | 1 => v = A3 2 1 1
  | 2 => v = P9 oneB false false false
  | 3 => MadeU x1 v w
  | 4 => MadeU x2 v w
  | 5 => v = .tuple #[.bool rb, I re]
  | 6 => v = .tuple #[.bool rb, I re]
  | 7 => v = .bool rb
  | 8 => v = I re
  | 9 => v = .bool rb
  | 10 => v = I re
  | _ => False
theorem wordQ_later {yb : Nat} {x1 x2 : Nat} {rb : Bool} {re : Int} (i : Nat) (v : Value) (w w' : World) (h : wordQ yb x1 x2 rb re i v w) (hB : Below w.heap.size w w') : wordQ yb x1 x2 rb re i v w' := by
  match i, h with
  | 0, h => exact h
  | 1, h => exact h
  | 2, h => exact h
  | 3, h => exact MadeU.later h hB
  | 4, h => exact MadeU.later h hB
  | 5, h => exact h
  | 6, h => exact h
  | 7, h => exact h
  | 8, h => exact h
  | 9, h => exact h
  | 10, h => exact h
  | n + 11, h => exact h.elim

theorem two_av0 : avE 2 1 1 twoN twoL [0] [0] 2 4 = 0 := by decide +kernel
theorem two_av2 : avE 2 1 1 twoN twoL [2] [0] 2 4 = 0 := by decide +kernel
theorem two_avS : wordsE 0 twoN.length (fun k => busyP twoN 2 4 k || hasW [0] k) = [1] := by decide +kernel
theorem two_avL : wordsE 0 twoL.length (fun k => busyP twoL 2 4 k || hasW [0] k) = [1] := by decide +kernel
theorem two_avT : wordsE 0 twoN.length (fun k => busyP twoN 2 4 k || hasW [2] k) = [3] := by decide +kernel
theorem two_soE : soE 2 1 1 twoN twoL oneB false false false [0] [0] 0 2 = 0 := by decide +kernel
theorem two_soV : soV 2 1 1 twoN twoL oneB false false false [0] [0] 0 2 = 3 := by decide +kernel
theorem two_soE1 : soE 2 1 1 twoN twoL oneB false false false [1] [0] 0 2 = 6 := by decide +kernel
theorem two_soV1 : soV 2 1 1 twoN twoL oneB false false false [1] [0] 0 2 = 0 := by decide +kernel
theorem two_soE2 : soE 2 1 1 twoN twoL oneB false false false [0] [0] 0 0 = 2 := by decide +kernel
theorem two_soV2 : soV 2 1 1 twoN twoL oneB false false false [0] [0] 0 0 = 0 := by decide +kernel
theorem two_hoE : hoE 2 1 1 oneB false false false [4] [0] = 8 := by decide +kernel
theorem two_hoB : hoB 2 1 1 oneB false false false [4] [0] = false := by decide +kernel

theorem av_lit (x : Nat) (S : List Nat) (h1 : avE 2 1 1 twoN twoL [x] [0] 2 4 = 0) (h2 : wordsE 0 twoN.length (fun k => busyP twoN 2 4 k || hasW [x] k) = S) : Hid (∀ w n l vm vl, Yl w n twoN → Yl w l twoL → Wds w vm [x] → Wds w vl [0] → Calls Tryz.prog 9 #[Y5 2 1 1 n l, vm, vl, S2 2 4] w fun e W' => ∃ u v, e = .returned (.tuple #[u, v, I 0]) ∧ Wds W' u S ∧ Wds W' v [1] ∧ Below w.heap.size w W') := fun w n l vm vl q1 q2 q3 q4 => by
  have := avoid_calls (a := 2) (b := 1) (c := 1) (x := 2) (y := 4) w q1 q2 q3 q4
  rw [h1, h2, two_avL] at this
  refine this.mono ?_
  rintro e W' ⟨u, v, rfl, hu, hv, hB⟩
  exact ⟨u, v, rfl, hu.wds, hv.wds, hB⟩
theorem so_lit (x : Nat) (f long rv re : Int) (h1 : soV 2 1 1 twoN twoL oneB false false false [x] [0] f long = rv) (h2 : soE 2 1 1 twoN twoL oneB false false false [x] [0] f long = re) : Hid (∀ w n l vm vl, TabOk w → Yl w n twoN → Yl w l twoL → Wds w vm [x] → Wds w vl [0] → Calls Tryz.prog 10 #[Y5 2 1 1 n l, P9 oneB false false false, vm, vl, I f, I long] w fun e W' => e = .returned (.tuple #[I rv, I re]) ∧ Below w.heap.size w W') := fun w n l vm vl q0 q1 q2 q3 q4 => by
  have := soon_calls (a := 2) (b := 1) (c := 1) (f := f) (long := long) (bx := oneB) false false false w q0 q1 q2 q3 q4 (by decide +kernel)
  rw [h1, h2] at this
  exact this
theorem ho_lit : Hid (∀ w vm vl, Wds w vm [4] → Wds w vl [0] → Calls Tryz.prog 12 #[A3 2 1 1, P9 oneB false false false, vm, vl] w fun e W' => e = .returned (.tuple #[.bool false, I 8]) ∧ Below w.heap.size w W') := fun w vm vl q1 q2 => by
  have := holds_calls (a := 2) (b := 1) (c := 1) (bx := oneB) false false false w q1 q2
  rw [two_hoB, two_hoE] at this
  exact this
theorem sameU (x : Nat) (hx : x < 18446744073709551616) : Hid (∀ w u g, Wds w u [x] → Blk w g 34 #[U x] → Calls Tryz.prog 14 #[u, .slice (some ⟨g, 0, none⟩) 1 1] w fun e W' => e = .returned (.bool true) ∧ Below w.heap.size w W') := fun w u g h1 h2 => by
  have := same_lit hx w h1 h2 (by simp)
  rwa [decide_eq_true rfl] at this


set_option maxRecDepth 100000 in
set_option maxHeartbeats 16000000 in
theorem alive11_calls (w : World) (hTab : TabOk w) : Calls Tryz.prog 13 #[] w fun e W' => e = .returned (.bool true) ∧ Below w.heap.size w W' := by
  have hmx : Tryz.prog.follows .mixedOrders = true := by kernel_rfl
  have HTab0 : Hid (TabOk w) := hTab
  have HSome : Hid (∀ w, Calls Tryz.prog 8 #[] w fun e W' => ∃ u v, e = .returned (.tuple #[Y5 2 1 1 u v, .bool true]) ∧ Yo W' w.heap.size u twoN ∧ Yo W' w.heap.size v twoL ∧ Below w.heap.size w W') := some11_calls
  have HOne : Hid (∀ w, Calls Tryz.prog 11 #[] w fun e W' => e = .returned (P9 oneB false false false) ∧ Below w.heap.size w W') := one11_calls
  clear hTab
  have HAv := av_lit 0 [1] two_av0 two_avS
  have HSo := so_lit 0 0 2 3 0 two_soV two_soE
  have HSa := sameU 1 (by decide)
  go_enter Tryz.func13, Tryz.ntmps13
  go_wp2_with fail
  refine (HSome.out _).mono ?_
  rintro e w1 ⟨u, v, rfl, hU, hV, hT⟩
  obtain ⟨ao1, c1, rfl, _⟩ := hU.yl.form
  obtain ⟨ao2, c2, rfl, _⟩ := hV.yl.form
  rw [two_n] at hU ⊢
  rw [two_l] at hV ⊢
  obtain ⟨W1, hW1, hB1, ky, km, kl⟩ := three_boxes w1 (K5 2 1 1 (.slice ao1 2 c1) (.slice ao2 6 c2)) #[.int .u64 0] #[.int .u64 0] 26 34 34
  have HW1 : Hid (((w1.alloc (.cells (K5 2 1 1 (.slice ao1 2 c1) (.slice ao2 6 c2)) 26)).alloc (.cells #[.int .u64 0] 34)).alloc (.cells #[.int .u64 0] 34) = W1) := hW1
  have HU : Hid (Yl W1 (.slice ao1 2 c1) twoN) := (hU.later hB1).yl
  have HV : Hid (Yl W1 (.slice ao2 6 c2) twoL) := (hV.later hB1).yl
  have HM : Hid (Wds W1 (.slice (some ⟨w1.heap.size + 1, 0, none⟩) 1 1) [0]) := wds_lit (x := 0) (by decide) km
  have HL : Hid (Wds W1 (.slice (some ⟨w1.heap.size + 1 + 1, 0, none⟩) 1 1) [0]) := wds_lit (x := 0) (by decide) kl
  have hT := then_below hT hB1
  clear hU hV hW1 km kl
  go_wp2_with fail
  rw [HW1.out]
  refine (HAv.out _ _ _ _ _ HU.out HV.out HM.out HL.out).mono ?_
  rintro e w2 ⟨su, sv, rfl, hsu, hsv, hT2⟩
  have HSu : Hid (Wds w2 su [_]) := hsu
  have HSv : Hid (Wds w2 sv [1]) := hsv
  have HU : Hid (Yl w2 (.slice ao1 2 c1) twoN) := HU.out.later hT2
  have HV : Hid (Yl w2 (.slice ao2 6 c2) twoL) := HV.out.later hT2
  have HTab : Hid (TabOk w2) := HTab0.out.later (then_below hT hT2)
  replace ky := ky.later hT2
  replace hT := then_below hT hT2
  clear hsu hsv hT2 HM HL hB1
  generalize hyb : w1.heap.size = yb at *
  clear HW1
  go_wp2_with fail
  refine wp_region_loud2 (w0 := w2) (wordO (Y5 2 1 1 (.slice ao1 2 c1) (.slice ao2 6 c2)) 0 0 3 0) hmx (by kernel_rfl) wordO_later ?_ ?_
  · intro i op hi act w' hTT hL hpre
    have s1 : act.tmps.getD 1 undef = .pointer (some ⟨yb, 0, none⟩) := by
      rw [Array.getD_eq_getD_getElem?, hL.out 1 (of_decide_eq_true (by kernel_rfl))]; rfl
    obtain ⟨p0, p1, p2, p3, p4, hz⟩ := ky.yard hTT
    have hBw := Below.refl w'.heap.size w'
    clear hL
    match i, hi with
    | 0, hi =>
      obtain rfl := Option.some.inj hi
      refine .inl ⟨Y5 2 1 1 (.slice ao1 2 c1) (.slice ao2 6 c2), w', ?_, hBw, rfl⟩
      simp [execOp, go_sem, Act.eval, s1, p0, p1, p2, p3, p4]
    | 1, hi =>
      obtain rfl := Option.some.inj hi
      refine .inr ⟨11, #[], ?_, ?_⟩
      · simp [go_sem]
      · refine (HOne.out w').mono ?_
        rintro e w'' ⟨rfl, hB⟩
        exact ⟨_, rfl, hB, rfl⟩
    | 2, hi =>
      obtain rfl := Option.some.inj hi
      refine .inl ⟨.slice (some ⟨w'.heap.size, 0, none⟩) 1 1, w'.alloc (.cells #[U 0] 34), ?_, (Below.refl _ w').alloc (Nat.le_refl _) _, w'.heap.size, rfl, Blk.new w' _ _⟩
      simp [execOp, go_sem, Act.eval]
      rfl
    | 3, hi =>
      obtain rfl := Option.some.inj hi
      refine .inl ⟨.slice (some ⟨w'.heap.size, 0, none⟩) 1 1, w'.alloc (.cells #[U 0] 34), ?_, (Below.refl _ w').alloc (Nat.le_refl _) _, w'.heap.size, rfl, Blk.new w' _ _⟩
      simp [execOp, go_sem, Act.eval]
      rfl
    | 4, hi =>
      obtain rfl := Option.some.inj hi
      have q0 : act.tmps.getD 22 undef = Y5 2 1 1 (.slice ao1 2 c1) (.slice ao2 6 c2) := hpre ⟨0, .data⟩ (by simp) rfl
      have q1 : act.tmps.getD 23 undef = P9 oneB false false false := hpre ⟨1, .data⟩ (by simp) rfl
      obtain ⟨g1, q2, k1⟩ : MadeU 0 (act.tmps.getD 24 undef) w' := hpre ⟨2, .data⟩ (by simp) rfl
      obtain ⟨g2, q3, k2⟩ : MadeU 0 (act.tmps.getD 25 undef) w' := hpre ⟨3, .data⟩ (by simp) rfl
      refine .inr ⟨10, #[Y5 2 1 1 (.slice ao1 2 c1) (.slice ao2 6 c2), P9 oneB false false false, .slice (some ⟨g1, 0, none⟩) 1 1, .slice (some ⟨g2, 0, none⟩) 1 1, I 0, I 2], ?_, ?_⟩
      · simp [go_sem, Act.eval, q0, q1, q2, q3]
      · refine (HSo.out w' _ _ _ _ (HTab.out.later hTT) (HU.out.later hTT) (HV.out.later hTT) (wds_lit (by decide) k1) (wds_lit (by decide) k2)).mono ?_
        rintro e w'' ⟨rfl, hB⟩
        exact ⟨_, rfl, hB, rfl⟩
    | 5, hi =>
      obtain rfl := Option.some.inj hi
      have q0 : act.tmps.getD 26 undef = .tuple #[I 3, I 0] := hpre ⟨4, .data⟩ (by simp) rfl
      refine .inl ⟨.tuple #[I 3, I 0], w', ?_, hBw, rfl⟩
      simp [execOp, go_sem, Act.eval, q0]
    | 6, hi =>
      obtain rfl := Option.some.inj hi
      have q0 : act.tmps.getD 21 undef = .tuple #[I 3, I 0] := hpre ⟨5, .data⟩ (by simp) rfl
      refine .inl ⟨I 3, w', ?_, hBw, rfl⟩
      simp [execOp, go_sem, Act.eval, q0]
    | 7, hi =>
      obtain rfl := Option.some.inj hi
      have q0 : act.tmps.getD 21 undef = .tuple #[I 3, I 0] := hpre ⟨5, .data⟩ (by simp) rfl
      refine .inl ⟨I 0, w', ?_, hBw, rfl⟩
      simp [execOp, go_sem, Act.eval, q0]
    | 8, hi =>
      obtain rfl := Option.some.inj hi
      have q0 : act.tmps.getD 27 undef = I 3 := hpre ⟨6, .data⟩ (by simp) rfl
      refine .inl ⟨I 3, w', ?_, hBw, rfl⟩
      simp [execOp, go_sem, Act.eval, q0]
    | 9, hi =>
      obtain rfl := Option.some.inj hi
      have q0 : act.tmps.getD 28 undef = I 0 := hpre ⟨7, .data⟩ (by simp) rfl
      refine .inl ⟨I 0, w', ?_, hBw, rfl⟩
      simp [execOp, go_sem, Act.eval, q0]
    | n + 10, hi => simp at hi
  · intro vs w9 hT9 hall
    have g8 : vs 8 = I 3 := hall 8 (of_decide_eq_true (by kernel_rfl))
    have g9 : vs 9 = I 0 := hall 9 (of_decide_eq_true (by kernel_rfl))
    clear hall
    simp only [List.length_cons, List.length_nil, Nat.zero_add, Nat.reduceAdd, List.range, List.range.loop, List.foldl_cons, List.foldl_nil, dstOf, List.getElem?_cons_zero, List.getElem?_cons_succ, Option.getD_some, Act.put, List.setIfInBounds_toArray, List.set_cons_succ, List.set_cons_zero, g8, g9]
    clear g8 g9
    generalize vs 0 = y0
    generalize vs 1 = y1
    generalize vs 2 = y2
    generalize vs 3 = y3
    generalize vs 4 = y4
    generalize vs 5 = y5
    generalize vs 6 = y6
    generalize vs 7 = y7
    clear vs
    replace HU := HU.out.later hT9
    replace HV := HV.out.later hT9
    replace HTab := HTab.out.later hT9
    have HU : Hid (Yl w9 (.slice ao1 2 c1) twoN) := HU
    have HV : Hid (Yl w9 (.slice ao2 6 c2) twoL) := HV
    have HTab : Hid (TabOk w9) := HTab
    have HSu : Hid (Wds w9 su [_]) := HSu.out.later hT9
    have HSv : Hid (Wds w9 sv [1]) := HSv.out.later hT9
    replace ky := ky.later hT9
    replace hT := then_below hT hT9
    clear hT9
    clear ky HU HV HTab
    obtain ⟨V1, hV1, hC1, kc1⟩ := one_start w9 #[.int .u64 1] 34
    have HV1 : Hid (w9.alloc (.cells #[.int .u64 1] 34) = V1) := hV1
    have HX1 : Hid (Calls Tryz.prog 14 #[su, .slice (some ⟨w9.heap.size, 0, none⟩) 1 1] V1 fun e W' => e = .returned (.bool true) ∧ Below V1.heap.size V1 W') := HSa.out _ _ _ (HSu.out.later hC1) kc1
    clear hV1 kc1
    go_wp2_with fail
    rw [HV1.out]
    refine HX1.out.mono ?_
    rintro e w5 ⟨rfl, hT5⟩
    obtain ⟨V2, hV2, hC2, kc2⟩ := one_start w5 #[.int .u64 1] 34
    have HV2 : Hid (w5.alloc (.cells #[.int .u64 1] 34) = V2) := hV2
    have HX2 : Hid (Calls Tryz.prog 14 #[sv, .slice (some ⟨w5.heap.size, 0, none⟩) 1 1] V2 fun e W' => e = .returned (.bool true) ∧ Below V2.heap.size V2 W') := HSa.out _ _ _ (HSv.out.later (then_below (then_below hC1 hT5) hC2)) kc2
    clear hV2 kc2
    go_wp2_with fail
    rw [HV2.out]
    refine HX2.out.mono ?_
    rintro e w6 ⟨rfl, hT6⟩
    go_wp2
    go_ret
    exact ⟨rfl, then_below (then_below (then_below (then_below hT hC1) hT5) hC2) hT6⟩

set_option maxRecDepth 100000 in
set_option maxHeartbeats 16000000 in
theorem freeNames_walk (w : World) (hTab : TabOk w) : Calls Tryz.prog 3 #[] w fun e W' => e = .returned (.bool true) ∧ Below w.heap.size w W' := by
  have hmx : Tryz.prog.follows .mixedOrders = true := by kernel_rfl
  have HTab0 : Hid (TabOk w) := hTab
  have HSome : Hid (∀ w, Calls Tryz.prog 8 #[] w fun e W' => ∃ u v, e = .returned (.tuple #[Y5 2 1 1 u v, .bool true]) ∧ Yo W' w.heap.size u twoN ∧ Yo W' w.heap.size v twoL ∧ Below w.heap.size w W') := some11_calls
  have HOne : Hid (∀ w, Calls Tryz.prog 11 #[] w fun e W' => e = .returned (P9 oneB false false false) ∧ Below w.heap.size w W') := one11_calls
  clear hTab
  have HAl : Hid (∀ w, TabOk w → Calls Tryz.prog 13 #[] w fun e W' => e = .returned (.bool true) ∧ Below w.heap.size w W') := alive11_calls
  have HAv := av_lit 2 [3] two_av2 two_avT
  have HSo1 := so_lit 1 0 2 0 6 two_soV1 two_soE1
  have HSo2 := so_lit 0 0 0 0 2 two_soV2 two_soE2
  have HHo := ho_lit
  have HSa := sameU 1 (by decide)
  have HSb := sameU 3 (by decide)
  go_enter Tryz.func3, Tryz.ntmps3
  go_wp2_with fail
  refine (HSome.out _).mono ?_
  rintro e w1 ⟨u, v, rfl, hU, hV, hT⟩
  obtain ⟨ao1, c1, rfl, _⟩ := hU.yl.form
  obtain ⟨ao2, c2, rfl, _⟩ := hV.yl.form
  rw [two_n] at hU ⊢
  rw [two_l] at hV ⊢
  obtain ⟨W1, hW1, hB1, ky, km, kl⟩ := three_boxes w1 (K5 2 1 1 (.slice ao1 2 c1) (.slice ao2 6 c2)) #[.int .u64 2] #[.int .u64 0] 26 34 34
  have HW1 : Hid (((w1.alloc (.cells (K5 2 1 1 (.slice ao1 2 c1) (.slice ao2 6 c2)) 26)).alloc (.cells #[.int .u64 2] 34)).alloc (.cells #[.int .u64 0] 34) = W1) := hW1
  have HU : Hid (Yl W1 (.slice ao1 2 c1) twoN) := (hU.later hB1).yl
  have HV : Hid (Yl W1 (.slice ao2 6 c2) twoL) := (hV.later hB1).yl
  have HM : Hid (Wds W1 (.slice (some ⟨w1.heap.size + 1, 0, none⟩) 1 1) [2]) := wds_lit (x := 2) (by decide) km
  have HL : Hid (Wds W1 (.slice (some ⟨w1.heap.size + 1 + 1, 0, none⟩) 1 1) [0]) := wds_lit (x := 0) (by decide) kl
  have hT := then_below hT hB1
  clear hU hV hW1 km kl
  go_wp2_with fail
  rw [HW1.out]
  refine (HAv.out _ _ _ _ _ HU.out HV.out HM.out HL.out).mono ?_
  rintro e w2 ⟨su, sv, rfl, hsu, hsv, hT2⟩
  have HSu : Hid (Wds w2 su [_]) := hsu
  have HSv : Hid (Wds w2 sv [1]) := hsv
  have HU : Hid (Yl w2 (.slice ao1 2 c1) twoN) := HU.out.later hT2
  have HV : Hid (Yl w2 (.slice ao2 6 c2) twoL) := HV.out.later hT2
  have HTab : Hid (TabOk w2) := HTab0.out.later (then_below hT hT2)
  replace ky := ky.later hT2
  replace hT := then_below hT hT2
  clear hsu hsv hT2 HM HL hB1
  generalize hyb : w1.heap.size = yb at *
  clear HW1
  go_wp2_with fail
  refine wp_region_loud2 (w0 := w2) (wordO (Y5 2 1 1 (.slice ao1 2 c1) (.slice ao2 6 c2)) 1 0 0 6) hmx (by kernel_rfl) wordO_later ?_ ?_
  · intro i op hi act w' hTT hL hpre
    have s1 : act.tmps.getD 1 undef = .pointer (some ⟨yb, 0, none⟩) := by
      rw [Array.getD_eq_getD_getElem?, hL.out 1 (of_decide_eq_true (by kernel_rfl))]; rfl
    obtain ⟨p0, p1, p2, p3, p4, hz⟩ := ky.yard hTT
    have hBw := Below.refl w'.heap.size w'
    clear hL
    match i, hi with
    | 0, hi =>
      obtain rfl := Option.some.inj hi
      refine .inl ⟨Y5 2 1 1 (.slice ao1 2 c1) (.slice ao2 6 c2), w', ?_, hBw, rfl⟩
      simp [execOp, go_sem, Act.eval, s1, p0, p1, p2, p3, p4]
    | 1, hi =>
      obtain rfl := Option.some.inj hi
      refine .inr ⟨11, #[], ?_, ?_⟩
      · simp [go_sem]
      · refine (HOne.out w').mono ?_
        rintro e w'' ⟨rfl, hB⟩
        exact ⟨_, rfl, hB, rfl⟩
    | 2, hi =>
      obtain rfl := Option.some.inj hi
      refine .inl ⟨.slice (some ⟨w'.heap.size, 0, none⟩) 1 1, w'.alloc (.cells #[U 1] 34), ?_, (Below.refl _ w').alloc (Nat.le_refl _) _, w'.heap.size, rfl, Blk.new w' _ _⟩
      simp [execOp, go_sem, Act.eval]
      rfl
    | 3, hi =>
      obtain rfl := Option.some.inj hi
      refine .inl ⟨.slice (some ⟨w'.heap.size, 0, none⟩) 1 1, w'.alloc (.cells #[U 0] 34), ?_, (Below.refl _ w').alloc (Nat.le_refl _) _, w'.heap.size, rfl, Blk.new w' _ _⟩
      simp [execOp, go_sem, Act.eval]
      rfl
    | 4, hi =>
      obtain rfl := Option.some.inj hi
      have q0 : act.tmps.getD 26 undef = Y5 2 1 1 (.slice ao1 2 c1) (.slice ao2 6 c2) := hpre ⟨0, .data⟩ (by simp) rfl
      have q1 : act.tmps.getD 27 undef = P9 oneB false false false := hpre ⟨1, .data⟩ (by simp) rfl
      obtain ⟨g1, q2, k1⟩ : MadeU 1 (act.tmps.getD 28 undef) w' := hpre ⟨2, .data⟩ (by simp) rfl
      obtain ⟨g2, q3, k2⟩ : MadeU 0 (act.tmps.getD 29 undef) w' := hpre ⟨3, .data⟩ (by simp) rfl
      refine .inr ⟨10, #[Y5 2 1 1 (.slice ao1 2 c1) (.slice ao2 6 c2), P9 oneB false false false, .slice (some ⟨g1, 0, none⟩) 1 1, .slice (some ⟨g2, 0, none⟩) 1 1, I 0, I 2], ?_, ?_⟩
      · simp [go_sem, Act.eval, q0, q1, q2, q3]
      · refine (HSo1.out w' _ _ _ _ (HTab.out.later hTT) (HU.out.later hTT) (HV.out.later hTT) (wds_lit (by decide) k1) (wds_lit (by decide) k2)).mono ?_
        rintro e w'' ⟨rfl, hB⟩
        exact ⟨_, rfl, hB, rfl⟩
    | 5, hi =>
      obtain rfl := Option.some.inj hi
      have q0 : act.tmps.getD 30 undef = .tuple #[I 0, I 6] := hpre ⟨4, .data⟩ (by simp) rfl
      refine .inl ⟨.tuple #[I 0, I 6], w', ?_, hBw, rfl⟩
      simp [execOp, go_sem, Act.eval, q0]
    | 6, hi =>
      obtain rfl := Option.some.inj hi
      have q0 : act.tmps.getD 25 undef = .tuple #[I 0, I 6] := hpre ⟨5, .data⟩ (by simp) rfl
      refine .inl ⟨I 0, w', ?_, hBw, rfl⟩
      simp [execOp, go_sem, Act.eval, q0]
    | 7, hi =>
      obtain rfl := Option.some.inj hi
      have q0 : act.tmps.getD 25 undef = .tuple #[I 0, I 6] := hpre ⟨5, .data⟩ (by simp) rfl
      refine .inl ⟨I 6, w', ?_, hBw, rfl⟩
      simp [execOp, go_sem, Act.eval, q0]
    | 8, hi =>
      obtain rfl := Option.some.inj hi
      have q0 : act.tmps.getD 31 undef = I 0 := hpre ⟨6, .data⟩ (by simp) rfl
      refine .inl ⟨I 0, w', ?_, hBw, rfl⟩
      simp [execOp, go_sem, Act.eval, q0]
    | 9, hi =>
      obtain rfl := Option.some.inj hi
      have q0 : act.tmps.getD 32 undef = I 6 := hpre ⟨7, .data⟩ (by simp) rfl
      refine .inl ⟨I 6, w', ?_, hBw, rfl⟩
      simp [execOp, go_sem, Act.eval, q0]
    | n + 10, hi => simp at hi
  · intro vs w9 hT9 hall
    have g8 : vs 8 = I 0 := hall 8 (of_decide_eq_true (by kernel_rfl))
    have g9 : vs 9 = I 6 := hall 9 (of_decide_eq_true (by kernel_rfl))
    clear hall
    simp only [List.length_cons, List.length_nil, Nat.zero_add, Nat.reduceAdd, List.range, List.range.loop, List.foldl_cons, List.foldl_nil, dstOf, List.getElem?_cons_zero, List.getElem?_cons_succ, Option.getD_some, Act.put, List.setIfInBounds_toArray, List.set_cons_succ, List.set_cons_zero, g8, g9]
    clear g8 g9
    generalize vs 0 = y0
    generalize vs 1 = y1
    generalize vs 2 = y2
    generalize vs 3 = y3
    generalize vs 4 = y4
    generalize vs 5 = y5
    generalize vs 6 = y6
    generalize vs 7 = y7
    clear vs
    replace HU := HU.out.later hT9
    replace HV := HV.out.later hT9
    replace HTab := HTab.out.later hT9
    have HU : Hid (Yl w9 (.slice ao1 2 c1) twoN) := HU
    have HV : Hid (Yl w9 (.slice ao2 6 c2) twoL) := HV
    have HTab : Hid (TabOk w9) := HTab
    have HSu : Hid (Wds w9 su [_]) := HSu.out.later hT9
    have HSv : Hid (Wds w9 sv [1]) := HSv.out.later hT9
    replace ky := ky.later hT9
    replace hT := then_below hT hT9
    clear hT9
    go_wp2_with fail
    refine wp_region_loud2 (w0 := w9) (wordO (Y5 2 1 1 (.slice ao1 2 c1) (.slice ao2 6 c2)) 0 0 0 2) hmx (by kernel_rfl) wordO_later ?_ ?_
    · intro i op hi act w' hTT hL hpre
      have s1 : act.tmps.getD 1 undef = .pointer (some ⟨yb, 0, none⟩) := by
        rw [Array.getD_eq_getD_getElem?, hL.out 1 (of_decide_eq_true (by kernel_rfl))]; rfl
      obtain ⟨p0, p1, p2, p3, p4, hz⟩ := ky.yard hTT
      have hBw := Below.refl w'.heap.size w'
      clear hL
      match i, hi with
      | 0, hi =>
        obtain rfl := Option.some.inj hi
        refine .inl ⟨Y5 2 1 1 (.slice ao1 2 c1) (.slice ao2 6 c2), w', ?_, hBw, rfl⟩
        simp [execOp, go_sem, Act.eval, s1, p0, p1, p2, p3, p4]
      | 1, hi =>
        obtain rfl := Option.some.inj hi
        refine .inr ⟨11, #[], ?_, ?_⟩
        · simp [go_sem]
        · refine (HOne.out w').mono ?_
          rintro e w'' ⟨rfl, hB⟩
          exact ⟨_, rfl, hB, rfl⟩
      | 2, hi =>
        obtain rfl := Option.some.inj hi
        refine .inl ⟨.slice (some ⟨w'.heap.size, 0, none⟩) 1 1, w'.alloc (.cells #[U 0] 34), ?_, (Below.refl _ w').alloc (Nat.le_refl _) _, w'.heap.size, rfl, Blk.new w' _ _⟩
        simp [execOp, go_sem, Act.eval]
        rfl
      | 3, hi =>
        obtain rfl := Option.some.inj hi
        refine .inl ⟨.slice (some ⟨w'.heap.size, 0, none⟩) 1 1, w'.alloc (.cells #[U 0] 34), ?_, (Below.refl _ w').alloc (Nat.le_refl _) _, w'.heap.size, rfl, Blk.new w' _ _⟩
        simp [execOp, go_sem, Act.eval]
        rfl
      | 4, hi =>
        obtain rfl := Option.some.inj hi
        have q0 : act.tmps.getD 34 undef = Y5 2 1 1 (.slice ao1 2 c1) (.slice ao2 6 c2) := hpre ⟨0, .data⟩ (by simp) rfl
        have q1 : act.tmps.getD 35 undef = P9 oneB false false false := hpre ⟨1, .data⟩ (by simp) rfl
        obtain ⟨g1, q2, k1⟩ : MadeU 0 (act.tmps.getD 36 undef) w' := hpre ⟨2, .data⟩ (by simp) rfl
        obtain ⟨g2, q3, k2⟩ : MadeU 0 (act.tmps.getD 37 undef) w' := hpre ⟨3, .data⟩ (by simp) rfl
        refine .inr ⟨10, #[Y5 2 1 1 (.slice ao1 2 c1) (.slice ao2 6 c2), P9 oneB false false false, .slice (some ⟨g1, 0, none⟩) 1 1, .slice (some ⟨g2, 0, none⟩) 1 1, I 0, I 0], ?_, ?_⟩
        · simp [go_sem, Act.eval, q0, q1, q2, q3]
        · refine (HSo2.out w' _ _ _ _ (HTab.out.later hTT) (HU.out.later hTT) (HV.out.later hTT) (wds_lit (by decide) k1) (wds_lit (by decide) k2)).mono ?_
          rintro e w'' ⟨rfl, hB⟩
          exact ⟨_, rfl, hB, rfl⟩
      | 5, hi =>
        obtain rfl := Option.some.inj hi
        have q0 : act.tmps.getD 38 undef = .tuple #[I 0, I 2] := hpre ⟨4, .data⟩ (by simp) rfl
        refine .inl ⟨.tuple #[I 0, I 2], w', ?_, hBw, rfl⟩
        simp [execOp, go_sem, Act.eval, q0]
      | 6, hi =>
        obtain rfl := Option.some.inj hi
        have q0 : act.tmps.getD 33 undef = .tuple #[I 0, I 2] := hpre ⟨5, .data⟩ (by simp) rfl
        refine .inl ⟨I 0, w', ?_, hBw, rfl⟩
        simp [execOp, go_sem, Act.eval, q0]
      | 7, hi =>
        obtain rfl := Option.some.inj hi
        have q0 : act.tmps.getD 33 undef = .tuple #[I 0, I 2] := hpre ⟨5, .data⟩ (by simp) rfl
        refine .inl ⟨I 2, w', ?_, hBw, rfl⟩
        simp [execOp, go_sem, Act.eval, q0]
      | 8, hi =>
        obtain rfl := Option.some.inj hi
        have q0 : act.tmps.getD 39 undef = I 0 := hpre ⟨6, .data⟩ (by simp) rfl
        refine .inl ⟨I 0, w', ?_, hBw, rfl⟩
        simp [execOp, go_sem, Act.eval, q0]
      | 9, hi =>
        obtain rfl := Option.some.inj hi
        have q0 : act.tmps.getD 40 undef = I 2 := hpre ⟨7, .data⟩ (by simp) rfl
        refine .inl ⟨I 2, w', ?_, hBw, rfl⟩
        simp [execOp, go_sem, Act.eval, q0]
      | n + 10, hi => simp at hi
    · intro vs w10 hT10 hall
      have g8 : vs 8 = I 0 := hall 8 (of_decide_eq_true (by kernel_rfl))
      have g9 : vs 9 = I 2 := hall 9 (of_decide_eq_true (by kernel_rfl))
      clear hall
      simp only [List.length_cons, List.length_nil, Nat.zero_add, Nat.reduceAdd, List.range, List.range.loop, List.foldl_cons, List.foldl_nil, dstOf, List.getElem?_cons_zero, List.getElem?_cons_succ, Option.getD_some, Act.put, List.setIfInBounds_toArray, List.set_cons_succ, List.set_cons_zero, g8, g9]
      clear g8 g9
      generalize vs 0 = y0
      generalize vs 1 = y1
      generalize vs 2 = y2
      generalize vs 3 = y3
      generalize vs 4 = y4
      generalize vs 5 = y5
      generalize vs 6 = y6
      generalize vs 7 = y7
      clear vs
      replace HU := HU.out.later hT10
      replace HV := HV.out.later hT10
      replace HTab := HTab.out.later hT10
      have HU : Hid (Yl w10 (.slice ao1 2 c1) twoN) := HU
      have HV : Hid (Yl w10 (.slice ao2 6 c2) twoL) := HV
      have HTab : Hid (TabOk w10) := HTab
      have HSu : Hid (Wds w10 su [_]) := HSu.out.later hT10
      have HSv : Hid (Wds w10 sv [1]) := HSv.out.later hT10
      replace ky := ky.later hT10
      replace hT := then_below hT hT10
      clear hT10
      go_wp2_with fail
      refine wp_region_loud2 (w0 := w10) (wordQ yb 4 0 false 8) hmx (by kernel_rfl) wordQ_later ?_ ?_
      · intro i op hi act w' hTT hL hpre
        have s1 : act.tmps.getD 1 undef = .pointer (some ⟨yb, 0, none⟩) := by
          rw [Array.getD_eq_getD_getElem?, hL.out 1 (of_decide_eq_true (by kernel_rfl))]; rfl
        obtain ⟨p0, p1, p2, p3, p4, hz⟩ := ky.yard hTT
        have hBw := Below.refl w'.heap.size w'
        clear hL
        match i, hi with
        | 0, hi =>
          obtain rfl := Option.some.inj hi
          refine .inl ⟨.pointer (some ⟨yb, 0, none⟩), w', ?_, hBw, rfl⟩
          simp [execOp, go_sem, Act.eval, s1]
        | 1, hi =>
          obtain rfl := Option.some.inj hi
          have q0 : act.tmps.getD 42 undef = .pointer (some ⟨yb, 0, none⟩) := hpre ⟨0, .data⟩ (by simp) rfl
          refine .inl ⟨A3 2 1 1, w', ?_, hBw, rfl⟩
          simp [execOp, go_sem, Act.eval, q0, p0, p1, p2]
        | 2, hi =>
          obtain rfl := Option.some.inj hi
          refine .inr ⟨11, #[], ?_, ?_⟩
          · simp [go_sem]
          · refine (HOne.out w').mono ?_
            rintro e w'' ⟨rfl, hB⟩
            exact ⟨_, rfl, hB, rfl⟩
        | 3, hi =>
          obtain rfl := Option.some.inj hi
          refine .inl ⟨.slice (some ⟨w'.heap.size, 0, none⟩) 1 1, w'.alloc (.cells #[U 4] 34), ?_, (Below.refl _ w').alloc (Nat.le_refl _) _, w'.heap.size, rfl, Blk.new w' _ _⟩
          simp [execOp, go_sem, Act.eval]
          rfl
        | 4, hi =>
          obtain rfl := Option.some.inj hi
          refine .inl ⟨.slice (some ⟨w'.heap.size, 0, none⟩) 1 1, w'.alloc (.cells #[U 0] 34), ?_, (Below.refl _ w').alloc (Nat.le_refl _) _, w'.heap.size, rfl, Blk.new w' _ _⟩
          simp [execOp, go_sem, Act.eval]
          rfl
        | 5, hi =>
          obtain rfl := Option.some.inj hi
          have q0 : act.tmps.getD 43 undef = A3 2 1 1 := hpre ⟨1, .data⟩ (by simp) rfl
          have q1 : act.tmps.getD 44 undef = P9 oneB false false false := hpre ⟨2, .data⟩ (by simp) rfl
          obtain ⟨g1, q2, k1⟩ : MadeU 4 (act.tmps.getD 45 undef) w' := hpre ⟨3, .data⟩ (by simp) rfl
          obtain ⟨g2, q3, k2⟩ : MadeU 0 (act.tmps.getD 46 undef) w' := hpre ⟨4, .data⟩ (by simp) rfl
          refine .inr ⟨12, #[A3 2 1 1, P9 oneB false false false, .slice (some ⟨g1, 0, none⟩) 1 1, .slice (some ⟨g2, 0, none⟩) 1 1], ?_, ?_⟩
          · simp [go_sem, Act.eval, q0, q1, q2, q3]
          · refine (HHo.out w' _ _ (wds_lit (by decide) k1) (wds_lit (by decide) k2)).mono ?_
            rintro e w'' ⟨rfl, hB⟩
            exact ⟨_, rfl, hB, rfl⟩
        | 6, hi =>
          obtain rfl := Option.some.inj hi
          have q0 : act.tmps.getD 47 undef = .tuple #[.bool false, I 8] := hpre ⟨5, .data⟩ (by simp) rfl
          refine .inl ⟨.tuple #[.bool false, I 8], w', ?_, hBw, rfl⟩
          simp [execOp, go_sem, Act.eval, q0]
        | 7, hi =>
          obtain rfl := Option.some.inj hi
          have q0 : act.tmps.getD 41 undef = .tuple #[.bool false, I 8] := hpre ⟨6, .data⟩ (by simp) rfl
          refine .inl ⟨.bool false, w', ?_, hBw, rfl⟩
          simp [execOp, go_sem, Act.eval, q0]
        | 8, hi =>
          obtain rfl := Option.some.inj hi
          have q0 : act.tmps.getD 41 undef = .tuple #[.bool false, I 8] := hpre ⟨6, .data⟩ (by simp) rfl
          refine .inl ⟨I 8, w', ?_, hBw, rfl⟩
          simp [execOp, go_sem, Act.eval, q0]
        | 9, hi =>
          obtain rfl := Option.some.inj hi
          have q0 : act.tmps.getD 48 undef = .bool false := hpre ⟨7, .data⟩ (by simp) rfl
          refine .inl ⟨.bool false, w', ?_, hBw, rfl⟩
          simp [execOp, go_sem, Act.eval, q0]
        | 10, hi =>
          obtain rfl := Option.some.inj hi
          have q0 : act.tmps.getD 49 undef = I 8 := hpre ⟨8, .data⟩ (by simp) rfl
          refine .inl ⟨I 8, w', ?_, hBw, rfl⟩
          simp [execOp, go_sem, Act.eval, q0]
        | n + 11, hi => simp at hi
      · intro vs w11 hT11 hall
        have g8 : vs 9 = .bool false := hall 9 (of_decide_eq_true (by kernel_rfl))
        have g9 : vs 10 = I 8 := hall 10 (of_decide_eq_true (by kernel_rfl))
        clear hall
        simp only [List.length_cons, List.length_nil, Nat.zero_add, Nat.reduceAdd, List.range, List.range.loop, List.foldl_cons, List.foldl_nil, dstOf, List.getElem?_cons_zero, List.getElem?_cons_succ, Option.getD_some, Act.put, List.setIfInBounds_toArray, List.set_cons_succ, List.set_cons_zero, g8, g9]
        clear g8 g9
        generalize vs 0 = y0
        generalize vs 1 = y1
        generalize vs 2 = y2
        generalize vs 3 = y3
        generalize vs 4 = y4
        generalize vs 5 = y5
        generalize vs 6 = y6
        generalize vs 7 = y7
        generalize vs 8 = y8
        clear vs
        replace HU := HU.out.later hT11
        replace HV := HV.out.later hT11
        replace HTab := HTab.out.later hT11
        have HU : Hid (Yl w11 (.slice ao1 2 c1) twoN) := HU
        have HV : Hid (Yl w11 (.slice ao2 6 c2) twoL) := HV
        have HTab : Hid (TabOk w11) := HTab
        have HSu : Hid (Wds w11 su [_]) := HSu.out.later hT11
        have HSv : Hid (Wds w11 sv [1]) := HSv.out.later hT11
        replace ky := ky.later hT11
        replace hT := then_below hT hT11
        clear hT11
        have HAl1 := HAl.out w11 HTab.out
        go_wp2_with fail
        refine HAl1.mono ?_
        rintro e w12 ⟨rfl, hT12⟩
        have HSu : Hid (Wds w12 su [_]) := HSu.out.later hT12
        have HSv : Hid (Wds w12 sv [1]) := HSv.out.later hT12
        replace hT := then_below hT hT12
        clear hT12
        clear ky HU HV HTab
        obtain ⟨V1, hV1, hC1, kc1⟩ := one_start w12 #[.int .u64 3] 34
        have HV1 : Hid (w12.alloc (.cells #[.int .u64 3] 34) = V1) := hV1
        have HX1 : Hid (Calls Tryz.prog 14 #[su, .slice (some ⟨w12.heap.size, 0, none⟩) 1 1] V1 fun e W' => e = .returned (.bool true) ∧ Below V1.heap.size V1 W') := HSb.out _ _ _ (HSu.out.later hC1) kc1
        clear hV1 kc1
        go_wp2_with fail
        rw [HV1.out]
        refine HX1.out.mono ?_
        rintro e w5 ⟨rfl, hT5⟩
        obtain ⟨V2, hV2, hC2, kc2⟩ := one_start w5 #[.int .u64 1] 34
        have HV2 : Hid (w5.alloc (.cells #[.int .u64 1] 34) = V2) := hV2
        have HX2 : Hid (Calls Tryz.prog 14 #[sv, .slice (some ⟨w5.heap.size, 0, none⟩) 1 1] V2 fun e W' => e = .returned (.bool true) ∧ Below V2.heap.size V2 W') := HSa.out _ _ _ (HSv.out.later (then_below (then_below hC1 hT5) hC2)) kc2
        clear hV2 kc2
        go_wp2_with fail
        rw [HV2.out]
        refine HX2.out.mono ?_
        rintro e w6 ⟨rfl, hT6⟩
        go_wp2
        go_ret
        exact ⟨rfl, then_below (then_below (then_below (then_below hT hC1) hT5) hC2) hT6⟩

end Go.Proofs.YtldcagjnngkabaaGreatDoor
