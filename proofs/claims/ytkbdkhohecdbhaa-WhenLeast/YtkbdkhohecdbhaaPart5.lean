/-
  cal.mayBe, cal.Check, and the document's MaySlot, May, Check: what each call answers.
-/
import Derived.Test.YtkbdkhohecdbhaaPart4
namespace Go.Proofs.Ytkbdkhohecdbhaa
open Go Go.RowKit Go.Shelf

attribute [local go_sem] Oper.semAt_some ext_const

theorem At3.cells {W : World} {g n : Nat} {f t o : Int} (h : At3 W g n (f, t, o)) : g < W.heap.size ∧ W.cell? ⟨g, n, none⟩ = some (.int .i64 f) ∧ W.cell? ⟨g, n + 1, none⟩ = some (.int .i64 t) ∧ W.cell? ⟨g, n + 2, none⟩ = some (.int .i64 o) := h
theorem At3.ext {W : World} {g n : Nat} {f t o : Int} (h : At3 W g n (f, t, o)) :
    (∀ X : Ext W, X.wd.cell? ⟨g, n, none⟩ = some (.int .i64 f)) ∧ (∀ X : Ext W, X.wd.cell? ⟨g, n + 1, none⟩ = some (.int .i64 t)) ∧ (∀ X : Ext W, X.wd.cell? ⟨g, n + 2, none⟩ = some (.int .i64 o)) :=
  ⟨fun X => (h.later X.le).cells.2.1, fun X => (h.later X.le).cells.2.2.1, fun X => (h.later X.le).cells.2.2.2⟩

def maySlB (s : Slt) : Bool := maySpB s.1 s.2.1 && (decide (1 ≤ s.2.2) && decide (s.2.2 ≤ 1099511627776))
theorem maySlB_iff {s : Slt} : maySlB s = true ↔ maySl s := by
  unfold maySlB maySl
  rw [Bool.and_eq_true, maySpB_iff, Bool.and_eq_true, decide_eq_true_eq, decide_eq_true_eq]
/-- Slots that may be and rise, the first not ahead of e. -/
def good1 : Int → List Slt → Bool
  | _, [] => true
  | e, s :: r => maySlB s && (decide (e ≤ s.1) && good1 s.2.1 r)
def lastC : Int → List Slt → Int
  | e, [] => e
  | _, s :: r => lastC s.2.1 r
theorem good_app : ∀ (e : Int) (l m : List Slt), good1 e (l ++ m) = (good1 e l && good1 (lastC e l) m)
  | e, [], m => by simp [good1, lastC]
  | e, s :: r, m => by
    simp only [List.cons_append, good1, lastC, good_app s.2.1 r m, Bool.and_assoc]
theorem lastC_snoc : ∀ (e : Int) (l : List Slt) (s : Slt), lastC e (l ++ [s]) = s.2.1
  | _, [], _ => rfl
  | _, x :: r, s => lastC_snoc x.2.1 r s
theorem good_iff : ∀ {c : List Slt} {e : Int}, good1 e c = true ↔ (∀ s ∈ c, maySl s) ∧ riseC c ∧ ∀ s ∈ c, e ≤ s.1
  | [], e => by simp [good1, riseC]
  | s :: r, e => by
    unfold good1
    rw [Bool.and_eq_true, Bool.and_eq_true, maySlB_iff, decide_eq_true_eq, good_iff]
    constructor
    · rintro ⟨h1, h2, h3, h4, h5⟩
      refine ⟨fun x hx => ?_, List.pairwise_cons.2 ⟨h5, h4⟩, fun x hx => ?_⟩
      · rcases List.mem_cons.1 hx with rfl | hx
        · exact h1
        · exact h3 x hx
      · rcases List.mem_cons.1 hx with rfl | hx
        · exact h2
        · have := h5 x hx
          have := h1.1.2.1
          omega
    · rintro ⟨h1, h2, h3⟩
      obtain ⟨h4, h5⟩ := List.pairwise_cons.1 h2
      exact ⟨h1 s (by simp), h3 s (by simp), fun x hx => h1 x (by simp [hx]), h5, h4⟩
def mayCB (c : List Slt) : Bool := decide (c.length ≤ 4096) && good1 0 c
theorem mayCB_iff {c : List Slt} : mayCB c = true ↔ mayC c := by
  unfold mayCB mayC
  rw [Bool.and_eq_true, decide_eq_true_eq, good_iff]
  exact ⟨fun ⟨h1, h2, h3, _⟩ => ⟨h2, h3, h1⟩, fun ⟨h1, h2, h3⟩ => ⟨h3, h1, h2, fun s hs => (h1 s hs).1.1⟩⟩
def errC (c : List Slt) : Int := if mayCB c then 0 else 8
theorem errC_ok {c : List Slt} (h : mayC c) : errC c = 0 := by rw [errC, if_pos (mayCB_iff.2 h)]
theorem errC_no {c : List Slt} (h : ¬ mayC c) : errC c = 8 := by rw [errC, if_neg (by rw [mayCB_iff]; exact h)]
theorem take_snoc {c : List Slt} {k : Nat} {s : Slt} (hk : k < c.length) (hs : c.getD k (0, 0, 0) = s) : c.take (k + 1) = c.take k ++ [s] := by
  rw [List.take_succ_eq_append_getElem hk, ← hs]
  simp [hk]
theorem good_take {c : List Slt} {k : Nat} (h : good1 0 (c.take k) = false) : mayCB c = false := by
  unfold mayCB
  rw [← List.take_append_drop k c, good_app, h]
  simp
theorem errC_bad {c : List Slt} (h : mayCB c = false) : errC c = 8 := by rw [errC, h]; rfl
theorem errC_good {c : List Slt} (h : mayCB c = true) : errC c = 0 := by rw [errC, h]; rfl
/-- What a round of Check finds. -/
theorem good_next {c : List Slt} {k : Nat} {f t o en : Int} (hk : k < c.length) (hs : c.getD k (0, 0, 0) = (f, t, o)) (he : en = lastC 0 (c.take k)) (hg : good1 0 (c.take k) = true) :
    good1 0 (c.take (k + 1)) = (maySlB (f, t, o) && decide (en ≤ f)) ∧ t = lastC 0 (c.take (k + 1)) := by
  rw [take_snoc hk hs, good_app, lastC_snoc, hg, ← he]
  simp [good1]

theorem cmay_calls (f t o : Int) (w : World) : Calls Try.prog 71 #[V3 f t o] w fun e W' => e = .returned (.bool (maySlB (f, t, o))) ∧ Below w.heap.size w W' := by
  have H : Hid (∀ w, Calls Try.prog 40 #[S2 f t] w fun e W' => e = .returned (I (errS f t)) ∧ Below w.heap.size w W') := tcheck_calls f t
  have hB := (Below.refl _ w).alloc (Nat.le_refl _) (.cells (C3 f t o) 66)
  have hK := Blk.new w 66 (C3 f t o)
  have HW : Hid (∃ W, w.alloc (.cells (C3 f t o) 66) = W ∧ Below w.heap.size w W ∧ Blk W w.heap.size 66 (C3 f t o)) := ⟨_, rfl, hB, hK⟩
  clear hB hK
  obtain ⟨W, hW, hB, hK⟩ := HW.out
  clear HW
  have HW : Hid (w.alloc (.cells (C3 f t o) 66) = W) := hW
  clear hW
  unfold errS at H
  cases hs : maySpB f t
  · have E : maySlB (f, t, o) = false := by simp [maySlB, hs]
    rw [hs] at H
    simp only [Bool.false_eq_true, if_false] at H
    rw [E]
    clear hs E
    go_enter Try.func71, Try.ntmps71
    go_wp2_with fail
    rw [HW.out]
    refine (H.out _).mono ?_
    rintro e w1 ⟨rfl, hB1⟩
    go_wp2
    go_ret
    exact ⟨rfl, then_below hB hB1⟩
  · rw [hs] at H
    simp only [if_true] at H
    by_cases h1 : 1 ≤ o
    · by_cases h2 : o ≤ 1099511627776
      · have E : maySlB (f, t, o) = true := by simp [maySlB, hs, h1, h2]
        rw [E]
        clear hs E
        go_enter Try.func71, Try.ntmps71
        go_wp2_with fail
        rw [HW.out]
        refine (H.out _).mono ?_
        rintro e w1 ⟨rfl, hB1⟩
        have hc := (hK.later hB1).cell 2
        have hz := (hK.later hB1).lt
        go_wp2
        go_ret
        exact ⟨rfl, then_below hB hB1⟩
      · have E : maySlB (f, t, o) = false := by simp [maySlB, h2]
        have h2 : decide (o ≤ 1099511627776) = false := decide_eq_false h2
        rw [E]
        clear hs E
        go_enter Try.func71, Try.ntmps71
        go_wp2_with fail
        rw [HW.out]
        refine (H.out _).mono ?_
        rintro e w1 ⟨rfl, hB1⟩
        have hc := (hK.later hB1).cell 2
        have hz := (hK.later hB1).lt
        go_wp2
        go_ret
        exact ⟨rfl, then_below hB hB1⟩
    · have E : maySlB (f, t, o) = false := by simp [maySlB, h1]
      have h1 : decide (1 ≤ o) = false := decide_eq_false h1
      rw [E]
      clear hs E
      go_enter Try.func71, Try.ntmps71
      go_wp2_with fail
      rw [HW.out]
      refine (H.out _).mono ?_
      rintro e w1 ⟨rfl, hB1⟩
      have hc := (hK.later hB1).cell 2
      have hz := (hK.later hB1).lt
      go_wp2
      go_ret
      exact ⟨rfl, then_below hB hB1⟩

theorem ccheck_calls {xs : List Slt} {v : Value} (w : World) (hS : Ss w v xs) : Calls Try.prog 51 #[v] w fun e W' => e = .returned (I (errC xs)) ∧ Below w.heap.size w W' := by
  obtain ⟨ao, cap, rfl, hS⟩ := hS.form
  have HS : Hid (Ss w (.slice ao xs.length cap) xs) := hS
  clear hS
  have HM : Hid (∀ f t o w, Calls Try.prog 71 #[V3 f t o] w fun e W' => e = .returned (.bool (maySlB (f, t, o))) ∧ Below w.heap.size w W') := cmay_calls
  by_cases hl : (4096 : Int) < (xs.length : Int)
  · rw [errC_bad (by unfold mayCB; rw [decide_eq_false (by omega)]; rfl)]
    go_enter Try.func51, Try.ntmps51
    go_wp2
    go_ret
    exact ⟨rfl, Below.refl _ _⟩
  · have hn : xs.length ≤ 4096 := by omega
    have hl : decide ((4096 : Int) < (xs.length : Int)) = false := decide_eq_false hl
    have HG : Hid (mayCB xs = good1 0 xs) := by show _ = _; unfold mayCB; rw [decide_eq_true hn]; rfl
    have HB : Hid (mayCB xs = false → errC xs = 8) := errC_bad
    have HO : Hid (mayCB xs = true → errC xs = 0) := errC_good
    generalize errC xs = ans at HB HO ⊢
    go_enter Try.func51, Try.ntmps51
    go_wp2
    go_loopw [3, 11] (fun en i wr => ∃ (k : Nat) (e : Int), k ≤ xs.length ∧ i = .int .i64 k ∧ en = .int .i64 e ∧ Hid (e = lastC 0 (xs.take k)) ∧ Hid (good1 0 (xs.take k) = true) ∧ Below w.heap.size w wr) (fun _ i _ => xs.length - (RowKit.intOf i).toNat)
    case atStart => exact ⟨0, 0, by omega, rfl, rfl, by show _ = _; simp [lastC], by show _ = _; simp [good1], Below.refl _ _⟩
    case round =>
      obtain ⟨k, en, hk, rfl, rfl, HE, HK, hT⟩ := hrel
      by_cases hlt : (k : Int) < (xs.length : Int)
      · have hk' : k < xs.length := by omega
        obtain ⟨g, off, f, t, o, rfl, hu, ha⟩ := (HS.out.later hT).at hk'
        obtain ⟨hg, c0, c1, c2⟩ := ha.cells
        have HN : Hid (good1 0 (xs.take (k + 1)) = (maySlB (f, t, o) && decide (en ≤ f)) ∧ t = lastC 0 (xs.take (k + 1))) := good_next hk' hu HE.out HK.out
        have HM1 : Hid (∀ w, Calls Try.prog 71 #[V3 f t o] w fun e W' => e = .returned (.bool (maySlB (f, t, o))) ∧ Below w.heap.size w W') := HM.out f t o
        have hBN := (Below.refl _ wr).alloc (Nat.le_refl _) (.cells (C3 f t o) 66)
        have hKN := (Blk.new wr 66 (C3 f t o))
        clear hu ha
        cases hm : maySlB (f, t, o)
        · have E : ans = 8 := HB.out (good_take (k := k + 1) (by rw [HN.out.1, hm]; rfl))
          rw [hm] at HM1
          subst E
          clear hm HN
          go_wp2_with fail
          refine (HM1.out _).mono ?_
          rintro e w1 ⟨rfl, hB1⟩
          go_wp2
          go_ret
          exact ⟨rfl, then_below hT (then_below hBN hB1)⟩
        · rw [hm] at HM1 HN
          clear hm
          by_cases hf : f < en
          · have E : ans = 8 := HB.out (good_take (k := k + 1) (by rw [HN.out.1]; simp; omega))
            subst E
            clear HN
            go_wp2_with fail
            refine (HM1.out _).mono ?_
            rintro e w1 ⟨rfl, hB1⟩
            have hc := (hKN.later hB1).cell 0
            have hz := (hKN.later hB1).lt
            go_wp2
            go_ret
            exact ⟨rfl, then_below hT (then_below hBN hB1)⟩
          · have HN2 : Hid (good1 0 (xs.take (k + 1)) = true) := by show _ = _; rw [HN.out.1]; simp; omega
            have hf : decide (f < en) = false := decide_eq_false hf
            go_wp2_with fail
            refine (HM1.out _).mono ?_
            rintro e w1 ⟨rfl, hB1⟩
            have hc := (hKN.later hB1).cell 0
            have hc1 := (hKN.later hB1).cell 1
            have hz := (hKN.later hB1).lt
            go_wp2
            go_roundw
            case rel => exact ⟨k + 1, t, by omega, by go_num, rfl, HN.out.2, HN2.out, then_below hT (then_below hBN hB1)⟩
            case measure => simp [RowKit.intOf]; omega
      · have E : ans = 0 := HO.out (by rw [HG.out]; have := HK.out; rwa [List.take_of_length_le (by omega)] at this)
        subst E
        go_wp2
        go_ret
        exact ⟨rfl, hT⟩

end Go.Proofs.Ytkbdkhohecdbhaa

/-
  The document's MaySlot, May, Check, Same, Clear (tidehallref08): what each call answers.
-/
namespace Go.Proofs.Ytkbdkhohecdbhaa
open Go Go.RowKit Go.Shelf

def eqSl (a b : Slt) : Bool := decide (a = b)
theorem eqSl_parts (f t o f' t' o' : Int) : eqSl (f, t, o) (f', t', o') = ((f == f') && (t == t') && (o == o')) := by
  unfold eqSl
  rw [Bool.eq_iff_iff]
  simp [and_assoc]

set_option maxRecDepth 100000 in
theorem eq_slot (f t o f' t' o' : Int) (w : World) : (Op.equalIn 10000 66 (V3 f t o) (V3 f' t' o')).run Try.prog w = .ok (eqSl (f, t, o) (f', t', o')) w := by
  have e0 := fun w => run_equalIn_int (P := Try.prog) w 9998 3 .i64 .i64 o o' Try.underlying3
  have e1 := fun w => run_equalIn_int (P := Try.prog) w 9997 3 .i64 .i64 f f' Try.underlying3
  have e2 := fun w => run_equalIn_int (P := Try.prog) w 9997 3 .i64 .i64 t t' Try.underlying3
  have e3 : ∀ w, (Op.equalIn 9999 53 (S2 f t) (S2 f' t')).run Try.prog w = .ok ((f == f') && (t == t')) w := by
    intro w
    rw [run_equalIn_struct (P := Try.prog) w 9998 53 _ _ (by kernel_rfl) (by kernel_rfl)]
    generalize (f == f') = b0 at *
    generalize (t == t') = b1 at *
    cases b0 <;> cases b1 <;> go_simp
  rw [eqSl_parts, run_equalIn_struct (P := Try.prog) w 9999 66 _ _ (by kernel_rfl) (by kernel_rfl)]
  generalize ((f == f') && (t == t')) = b0 at *
  generalize (o == o') = b1 at *
  cases b0 <;> cases b1 <;> go_simp

attribute [local go_sem] Oper.semAt_some ext_const
attribute [local go_sem high] eq_slot

theorem rmaySl_calls (f t o : Int) (w : World) : Calls Try.prog 94 #[V3 f t o] w fun e W' => e = .returned (.bool (maySlB (f, t, o))) ∧ Below w.heap.size w W' := by
  have H : Hid (∀ w, Calls Try.prog 111 #[S2 f t] w fun e W' => e = .returned (.bool (maySpB f t)) ∧ Below w.heap.size w W') := rmayS_calls f t
  have HW : Hid (∃ W, w.alloc (.cells (C3 f t o) 66) = W ∧ Below w.heap.size w W ∧ Blk W w.heap.size 66 (C3 f t o)) := ⟨_, rfl, (Below.refl _ w).alloc (Nat.le_refl _) _, Blk.new w _ _⟩
  obtain ⟨W, hW, hB, hK⟩ := HW.out
  clear HW
  have HW : Hid (w.alloc (.cells (C3 f t o) 66) = W) := hW
  clear hW
  cases hs : maySpB f t
  · have E : maySlB (f, t, o) = false := by simp [maySlB, hs]
    rw [hs] at H
    rw [E]
    clear hs E
    go_enter Try.func94, Try.ntmps94
    go_wp2_with fail
    rw [HW.out]
    refine (H.out _).mono ?_
    rintro e w1 ⟨rfl, hB1⟩
    go_wp2
    go_ret
    exact ⟨rfl, then_below hB hB1⟩
  · rw [hs] at H
    by_cases h1 : 0 < o
    · by_cases h2 : o ≤ 1099511627776
      · have E : maySlB (f, t, o) = true := by simp [maySlB, hs, h2]; omega
        rw [E]
        clear hs E
        go_enter Try.func94, Try.ntmps94
        go_wp2_with fail
        rw [HW.out]
        refine (H.out _).mono ?_
        rintro e w1 ⟨rfl, hB1⟩
        have hc := (hK.later hB1).cell 2
        have hz := (hK.later hB1).lt
        go_wp2
        go_ret
        exact ⟨rfl, then_below hB hB1⟩
      · have E : maySlB (f, t, o) = false := by simp [maySlB, h2]
        have h2 : decide (o ≤ 1099511627776) = false := decide_eq_false h2
        rw [E]
        clear hs E
        go_enter Try.func94, Try.ntmps94
        go_wp2_with fail
        rw [HW.out]
        refine (H.out _).mono ?_
        rintro e w1 ⟨rfl, hB1⟩
        have hc := (hK.later hB1).cell 2
        have hz := (hK.later hB1).lt
        go_wp2
        go_ret
        exact ⟨rfl, then_below hB hB1⟩
    · have E : maySlB (f, t, o) = false := by simp [maySlB, show ¬ (1 ≤ o) by omega]
      have h1 : decide (0 < o) = false := decide_eq_false h1
      rw [E]
      clear hs E
      go_enter Try.func94, Try.ntmps94
      go_wp2_with fail
      rw [HW.out]
      refine (H.out _).mono ?_
      rintro e w1 ⟨rfl, hB1⟩
      have hc := (hK.later hB1).cell 2
      have hz := (hK.later hB1).lt
      go_wp2
      go_ret
      exact ⟨rfl, then_below hB hB1⟩

theorem last_prev {c : List Slt} {j : Nat} {f t o : Int} (hj : j < c.length) (hu : c.getD j (0, 0, 0) = (f, t, o)) : lastC 0 (c.take (j + 1)) = t := by
  rw [take_snoc hj hu, lastC_snoc]

set_option maxRecDepth 100000 in
set_option maxHeartbeats 8000000 in
theorem rmayC_calls {xs : List Slt} {v : Value} (w : World) (hS : Ss w v xs) (hn : xs.length ≤ 100000) : Calls Try.prog 81 #[v] w fun e W' => e = .returned (.bool (mayCB xs)) ∧ Below w.heap.size w W' := by
  have hmx : Try.prog.follows .mixedOrders = true := by kernel_rfl
  obtain ⟨ao, cap, rfl, hS⟩ := hS.form
  have HS : Hid (Ss w (.slice ao xs.length cap) xs) := hS
  clear hS
  have HM : Hid (∀ f t o w, Calls Try.prog 94 #[V3 f t o] w fun e W' => e = .returned (.bool (maySlB (f, t, o))) ∧ Below w.heap.size w W') := rmaySl_calls
  have HB : Hid (∀ k, good1 0 (xs.take k) = false → mayCB xs = false) := fun k => good_take
  have HG : Hid (good1 0 xs = true → mayCB xs = decide (xs.length ≤ 4096)) := fun h => by unfold mayCB; rw [h]; simp
  generalize mayCB xs = ans at HB HG ⊢
  go_enter Try.func81, Try.ntmps81
  go_wp2
  go_loopw [3] (fun i wr => ∃ k : Nat, k ≤ xs.length ∧ i = .int .i64 k ∧ Hid (good1 0 (xs.take k) = true) ∧ Below w.heap.size w wr) (fun i _ => xs.length - (RowKit.intOf i).toNat)
  case atStart => exact ⟨0, by omega, rfl, by show _ = _; simp [good1], Below.refl _ _⟩
  case round =>
    obtain ⟨k, hk, rfl, HK, hT⟩ := hrel
    by_cases hlt : (k : Int) < (xs.length : Int)
    · have hk' : k < xs.length := by omega
      obtain ⟨g, off, f, t, o, rfl, hu, ha⟩ := (HS.out.later hT).at hk'
      have hg := ha.1
      obtain ⟨c0, c1, c2⟩ := ha.ext
      have HN : Hid (good1 0 (xs.take (k + 1)) = (maySlB (f, t, o) && decide (lastC 0 (xs.take k) ≤ f))) := (good_next hk' hu rfl HK.out).1
      have HM1 := HM.out f t o
      clear hu ha
      cases hm : maySlB (f, t, o)
      · have E : ans = false := HB.out (k + 1) (by rw [HN.out, hm]; rfl)
        rw [hm] at HM1
        subst E
        clear hm HN
        go_wp2
        refine wp_region_look hmx (by kernel_rfl) ?_
        repeat (go_big_quiet_step ((go_at_call 94; exact calls_ext (HM1 _))))
        refine wpQuiet_nil ?_
        intro X
        go_wp2
        go_ret
        exact ⟨rfl, then_below hT X.le⟩
      · rw [hm] at HM1 HN
        by_cases hk0 : k = 0
        · have HN2 : Hid (good1 0 (xs.take (k + 1)) = true) := by
            show _ = _
            rw [HN.out]
            have := maySlB_iff.1 hm
            have := this.1.1
            subst hk0
            simpa [lastC] using this
          have hp0 : decide ((0 : Int) < (k : Int)) = false := decide_eq_false (by omega)
          have hp1 : decide (0 < k) = false := decide_eq_false (by omega)
          clear hm HN hk0
          go_wp2
          refine wp_region_look hmx (by kernel_rfl) ?_
          repeat (go_big_quiet_step ((go_at_call 94; exact calls_ext (HM1 _))))
          refine wpQuiet_nil ?_
          intro X
          go_wp2
          go_roundw
          case rel => exact ⟨k + 1, by omega, by go_num, HN2.out, then_below hT X.le⟩
          case measure => simp [RowKit.intOf]; omega
        · obtain ⟨j, hkk⟩ : ∃ j, k = j + 1 := ⟨k - 1, by omega⟩
          obtain ⟨g', off', f', t', o', e', hu', ha'⟩ := (HS.out.later hT).at (show j < xs.length by omega)
          simp only [Option.some.injEq, Addr.mk.injEq, and_true] at e'
          obtain ⟨rfl, rfl⟩ := e'
          obtain ⟨d0, d1, d2⟩ := ha'.ext
          have hp := last_prev (show j < xs.length by omega) hu'
          rw [← hkk] at hp
          rw [hp] at HN
          have hj1 : ((k : Nat) : Int) - 1 = (j : Int) := by omega
          have hp0 : decide ((0 : Int) < (k : Int)) = true := decide_eq_true (by omega)
          have hp1 : decide (0 < k) = true := decide_eq_true (by omega)
          have hjl : (j : Int) < (xs.length : Int) := by omega
          clear hm hu' ha' hp hkk hk0
          by_cases hft : f < t'
          · have E : ans = false := HB.out (k + 1) (by rw [HN.out]; simp; omega)
            subst E
            clear HN
            go_wp2
            refine wp_region_look hmx (by kernel_rfl) ?_
            repeat (go_big_quiet_step ((go_at_call 94; exact calls_ext (HM1 _))))
            refine wpQuiet_nil ?_
            intro X
            go_wp2
            go_ret
            exact ⟨rfl, then_below hT X.le⟩
          · have HN2 : Hid (good1 0 (xs.take (k + 1)) = true) := by show _ = _; rw [HN.out]; simp; omega
            have hft : decide (f < t') = false := decide_eq_false hft
            clear HN
            go_wp2
            refine wp_region_look hmx (by kernel_rfl) ?_
            repeat (go_big_quiet_step ((go_at_call 94; exact calls_ext (HM1 _))))
            refine wpQuiet_nil ?_
            intro X
            go_wp2
            go_roundw
            case rel => exact ⟨k + 1, by omega, by go_num, HN2.out, then_below hT X.le⟩
            case measure => simp [RowKit.intOf]; omega
    · have E := HG.out (by have := HK.out; rwa [List.take_of_length_le (by omega)] at this)
      by_cases hl : (xs.length : Int) ≤ 4096
      · have E2 : ans = true := by rw [E]; exact decide_eq_true (by omega)
        clear E
        subst E2
        go_wp2
        go_ret
        exact ⟨rfl, hT⟩
      · have E2 : ans = false := by rw [E]; exact decide_eq_false (by omega)
        have hl : decide ((xs.length : Int) ≤ 4096) = false := decide_eq_false hl
        clear E
        subst E2
        go_wp2
        go_ret
        exact ⟨rfl, hT⟩

def eqC (xs ys : List Slt) : Bool := decide (xs = ys)
theorem takeC_succ {xs ys : List Slt} {k : Nat} (hx : k < xs.length) (hy : k < ys.length) (h : xs.take k = ys.take k) (he : xs.getD k (0, 0, 0) = ys.getD k (0, 0, 0)) : xs.take (k + 1) = ys.take (k + 1) := by
  rw [take_snoc hx rfl, take_snoc hy rfl, h, he]

set_option maxRecDepth 100000 in
set_option maxHeartbeats 4000000 in
theorem rsameC_calls {xs ys : List Slt} {u v : Value} (w : World) (hu : Ss w u xs) (hv : Ss w v ys) (hx : xs.length ≤ 100000) :
    Calls Try.prog 61 #[u, v] w fun e W' => e = .returned (.bool (eqC xs ys)) ∧ Below w.heap.size w W' := by
  have hmx : Try.prog.follows .mixedOrders = true := by kernel_rfl
  obtain ⟨ao, cap, rfl, hu⟩ := hu.form
  obtain ⟨ao', cap', rfl, hv⟩ := hv.form
  have HA : Hid (Ss w (.slice ao xs.length cap) xs) := hu
  have HB : Hid (Ss w (.slice ao' ys.length cap') ys) := hv
  clear hu hv
  obtain ⟨ans, hans⟩ : ∃ ans, ans = eqC xs ys := ⟨_, rfl⟩
  rw [← hans]
  have HS : Hid (ans = eqC xs ys) := hans
  clear hans
  by_cases hl : (xs.length : Int) = ys.length
  · have hl' : ys.length = xs.length := by omega
    clear hl
    have HL : Hid (ys.length = xs.length) := hl'
    rw [hl'] at HB ⊢
    clear hl'
    go_enter Try.func61, Try.ntmps61
    go_wp2
    go_loopw [5] (fun i wr => ∃ k : Nat, k ≤ xs.length ∧ i = .int .i64 k ∧ Hid (xs.take k = ys.take k) ∧ Below w.heap.size w wr) (fun i _ => xs.length - (RowKit.intOf i).toNat)
    case atStart => exact ⟨0, by omega, rfl, by show _ = _; simp, Below.refl _ _⟩
    case round =>
      obtain ⟨k, hk, rfl, HT, hT⟩ := hrel
      by_cases hlt : (k : Int) < (xs.length : Int)
      · have hkx : k < xs.length := by omega
        have hky : k < ys.length := by have := HL.out; omega
        obtain ⟨g, off, f, t, o, rfl, hu1, hat1⟩ := (HA.out.later hT).at hkx
        obtain ⟨g', off', f', t', o', rfl, hu2, hat2⟩ := (HB.out.later hT).at hky
        obtain ⟨c0, c1, c2⟩ := hat1.ext
        obtain ⟨d0, d1, d2⟩ := hat2.ext
        have HE : Hid (eqSl (f, t, o) (f', t', o') = true → xs.take (k + 1) = ys.take (k + 1)) := fun h => takeC_succ hkx hky HT.out (by rw [hu1, hu2]; simpa [eqSl] using h)
        have HD : Hid (eqSl (f, t, o) (f', t', o') = false → ans = false) := fun h => by
          rw [HS.out]
          refine decide_eq_false fun he => ?_
          have : (f, t, o) = (f', t', o') := by rw [← hu1, ← hu2, he]
          rw [this] at h
          simp [eqSl] at h
        clear hu1 hu2 hat1 hat2
        cases hq : eqSl (f, t, o) (f', t', o')
        · have hans := HD.out hq
          subst hans
          go_wp2
          refine wp_region_look hmx (by kernel_rfl) ?_
          repeat (go_big_quiet_step (fail))
          refine wpQuiet_nil ?_
          intro X
          go_wp2
          go_ret
          exact ⟨rfl, then_below hT X.le⟩
        · have HN : Hid (xs.take (k + 1) = ys.take (k + 1)) := HE.out hq
          go_wp2
          refine wp_region_look hmx (by kernel_rfl) ?_
          repeat (go_big_quiet_step (fail))
          refine wpQuiet_nil ?_
          intro X
          go_wp2
          go_roundw
          case rel => exact ⟨k + 1, by omega, by go_num, HN, then_below hT X.le⟩
          case measure => simp [RowKit.intOf]; omega
      · have E : ans = true := by
          rw [HS.out]
          refine decide_eq_true ?_
          have h1 := HT.out
          rwa [List.take_of_length_le (by omega), List.take_of_length_le (by have := HL.out; omega)] at h1
        subst E
        go_wp2
        go_ret
        exact ⟨rfl, hT⟩
  · have E : ans = false := by rw [HS.out]; refine decide_eq_false fun he => ?_; rw [he] at hl; exact hl rfl
    subst E
    go_enter Try.func61, Try.ntmps61
    go_wp2
    go_ret
    exact ⟨rfl, Below.refl _ _⟩

end Go.Proofs.Ytkbdkhohecdbhaa

/-
  The closures that cal hands to keep: of Take, of Cut, of Put.
-/
namespace Go.Proofs.Ytkbdkhohecdbhaa
open Go Go.RowKit Go.Shelf

attribute [local go_sem] Oper.semAt_some ext_const

theorem Blk.drew3 {W : World} {B : Nat} {t : TypeId} {f x o : Int} (h : Blk W B t (C3 f x o)) : W.drew.cell? ⟨B, 0, none⟩ = some (.int .i64 f) ∧ W.drew.cell? ⟨B, 1, none⟩ = some (.int .i64 x) ∧ W.drew.cell? ⟨B, 2, none⟩ = some (.int .i64 o) := ⟨h.drew.cell 0, h.drew.cell 1, h.drew.cell 2⟩

theorem putc_calls {w : World} {A : Nat} {f t o x y p : Int} {r : Bool} (hr : decide (t ≤ x) = r) (ha : Blk w A 66 (C3 x y p)) : Calls Try.prog 74 #[V3 f t o, .pointer (some ⟨A, 0, none⟩)] w fun e W' => e = .returned (.tuple #[V3 f t o, .bool r]) ∧ Below w.heap.size w W' := by
  obtain ⟨W, hW, hB0, b0, b1⟩ := two_start w (C3 f t o) (C3 f t o) 66 66
  have HW : Hid ((w.alloc (.cells (C3 f t o) 66)).alloc (.cells (C3 f t o) 66) = W) := hW
  clear hW
  obtain ⟨j0, j1, j2⟩ := b1.drew3
  have hA := ha.lt
  have ha0 : w.cell? ⟨A, 0, none⟩ = some (.int .i64 x) := ha.cell 0
  clear ha
  cases r
  all_goals
    go_enter Try.func74, Try.ntmps74
    go_wp2
    go_region
    rw [HW.out]
    go_wp2
    exact bodyPost_ret (v := .tuple #[V3 f t o, .bool _]) (by simp [results, Try.f74, go_sem, j0, j1, j2]) rfl ⟨rfl, hB0.drew⟩

/-- Where a slot ends, cut for its owner. -/
def endS (ow to t o : Int) : Int := if o = ow then (if t ≤ to then t else to) else t

end Go.Proofs.Ytkbdkhohecdbhaa
