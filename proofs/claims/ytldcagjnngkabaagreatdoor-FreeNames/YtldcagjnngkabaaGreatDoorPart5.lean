/-
  The document's answers of layer 7 about two spans (tidehallref07.Meets, Meet, Within, Both): what each call answers.
-/
import Derived.Test.YtldcagjnngkabaaGreatDoorPart4
namespace Go.Proofs.YtldcagjnngkabaaGreatDoor
open Go.RowKit Go.Shelf

attribute [local go_sem] Oper.semAt_some ext_const

theorem rmeetsT_calls (f t f' t' : Int) (w : World) : Calls Tryz.prog 173 #[S2 f t, S2 f' t'] w fun e W' => e = .returned (.bool (meetsT f t f' t')) ∧ Below w.heap.size w W' := by
  have HA : Hid (∀ w, Calls Tryz.prog 194 #[S2 f t, I f'] w fun e W' => e = .returned (.bool (inT f t f')) ∧ Below w.heap.size w W') := rinT_calls f t f'
  have HB : Hid (∀ w, Calls Tryz.prog 194 #[S2 f' t', I f] w fun e W' => e = .returned (.bool (inT f' t' f)) ∧ Below w.heap.size w W') := rinT_calls f' t' f
  unfold meetsT
  generalize inT f t f' = p at *
  generalize inT f' t' f = q at *
  cases p
  · rw [Bool.false_or]
    go_enter Tryz.func173, Tryz.ntmps173
    go_wp2_with fail
    obtain ⟨W, hW, hB0, b0, b1⟩ := two_start w (C2 f t) (C2 f' t') 36 36
    rw [hW]
    clear hW
    refine (HA.out _).mono ?_
    rintro e w1 ⟨rfl, hT⟩
    obtain ⟨⟨c0, c1, hz0⟩, c2, c3, hz1⟩ := two_pairs b0 b1 hT
    go_wp2_with fail
    refine (HB.out _).mono ?_
    rintro e w2 ⟨rfl, hB2⟩
    go_wp2
    go_ret
    exact ⟨rfl, then_below hB0 (then_below hT hB2)⟩
  · rw [Bool.true_or]
    go_enter Tryz.func173, Tryz.ntmps173
    go_wp2_with fail
    obtain ⟨W, hW, hB0, b0, b1⟩ := two_start w (C2 f t) (C2 f' t') 36 36
    rw [hW]
    clear hW
    refine (HA.out _).mono ?_
    rintro e w1 ⟨rfl, hT⟩
    go_wp2
    go_ret
    exact ⟨rfl, then_below hB0 hT⟩

theorem may_yes {f t : Int} (h : maySp f t) (w : World) : Calls Tryz.prog 72 #[S2 f t] w fun e W' => e = .returned (.bool true) ∧ Below w.heap.size w W' := by
  rw [← (maySpB_iff f t).2 h]; exact rmayS_calls f t w
theorem may_no {f t : Int} (h : ¬ maySp f t) (w : World) : Calls Tryz.prog 72 #[S2 f t] w fun e W' => e = .returned (.bool false) ∧ Below w.heap.size w W' := by
  have hs : maySpB f t = false := by rw [Bool.eq_false_iff, ne_eq, maySpB_iff]; exact h
  rw [← hs]; exact rmayS_calls f t w

end Go.Proofs.YtldcagjnngkabaaGreatDoor

/-
  cal.mayBe, cal.Check, and the document's MaySlot, May, Check: what each call answers.
-/
namespace Go.Proofs.YtldcagjnngkabaaGreatDoor
open Go Go.RowKit Go.Shelf

attribute [local go_sem] Oper.semAt_some ext_const

theorem At3.cells {W : World} {g n : Nat} {f t o : Int} (h : At3 W g n (f, t, o)) : g < W.heap.size ∧ W.cell? ⟨g, n, none⟩ = some (.int .i64 f) ∧ W.cell? ⟨g, n + 1, none⟩ = some (.int .i64 t) ∧ W.cell? ⟨g, n + 2, none⟩ = some (.int .i64 o) := h
theorem At3.ext {W : World} {g n : Nat} {f t o : Int} (h : At3 W g n (f, t, o)) :
    (∀ X : Ext W, X.wd.cell? ⟨g, n, none⟩ = some (.int .i64 f)) ∧ (∀ X : Ext W, X.wd.cell? ⟨g, n + 1, none⟩ = some (.int .i64 t)) ∧ (∀ X : Ext W, X.wd.cell? ⟨g, n + 2, none⟩ = some (.int .i64 o)) :=
  ⟨fun X => (h.later X.le).cells.2.1, fun X => (h.later X.le).cells.2.2.1, fun X => (h.later X.le).cells.2.2.2⟩

def maySlB (s : Slt) : Bool := maySpB s.1 s.2.1 && (decide (1 ≤ s.2.2) && decide (s.2.2 ≤ 1099511627776))
theorem maySlB_iff {s : Slt} : maySlB s = true ↔ maySl s := by
  unfold maySlB maySl
  rw [Bool.and_eq_true, maySpB_iff, Bool.and_eq_true, decide_eq_true_eq, decide_eq_true_eq]
/-- Slots that may be and rise, the first not ahead of e. -/
def good1 : Int → List Slt → Bool
  | _, [] => true
  | e, s :: r => maySlB s && (decide (e ≤ s.1) && good1 s.2.1 r)
def lastC : Int → List Slt → Int
  | e, [] => e
  | _, s :: r => lastC s.2.1 r
theorem good_app : ∀ (e : Int) (l m : List Slt), good1 e (l ++ m) = (good1 e l && good1 (lastC e l) m)
  | e, [], m => by simp [good1, lastC]
  | e, s :: r, m => by
    simp only [List.cons_append, good1, lastC, good_app s.2.1 r m, Bool.and_assoc]
theorem lastC_snoc : ∀ (e : Int) (l : List Slt) (s : Slt), lastC e (l ++ [s]) = s.2.1
  | _, [], _ => rfl
  | _, x :: r, s => lastC_snoc x.2.1 r s
theorem good_iff : ∀ {c : List Slt} {e : Int}, good1 e c = true ↔ (∀ s ∈ c, maySl s) ∧ riseC c ∧ ∀ s ∈ c, e ≤ s.1
  | [], e => by simp [good1, riseC]
  | s :: r, e => by
    unfold good1
    rw [Bool.and_eq_true, Bool.and_eq_true, maySlB_iff, decide_eq_true_eq, good_iff]
    constructor
    · rintro ⟨h1, h2, h3, h4, h5⟩
      refine ⟨fun x hx => ?_, List.pairwise_cons.2 ⟨h5, h4⟩, fun x hx => ?_⟩
      · rcases List.mem_cons.1 hx with rfl | hx
        · exact h1
        · exact h3 x hx
      · rcases List.mem_cons.1 hx with rfl | hx
        · exact h2
        · have := h5 x hx
          have := h1.1.2.1
          omega
    · rintro ⟨h1, h2, h3⟩
      obtain ⟨h4, h5⟩ := List.pairwise_cons.1 h2
      exact ⟨h1 s (by simp), h3 s (by simp), fun x hx => h1 x (by simp [hx]), h5, h4⟩
def mayCB (c : List Slt) : Bool := decide (c.length ≤ 4096) && good1 0 c
theorem mayCB_iff {c : List Slt} : mayCB c = true ↔ mayC c := by
  unfold mayCB mayC
  rw [Bool.and_eq_true, decide_eq_true_eq, good_iff]
  exact ⟨fun ⟨h1, h2, h3, _⟩ => ⟨h2, h3, h1⟩, fun ⟨h1, h2, h3⟩ => ⟨h3, h1, h2, fun s hs => (h1 s hs).1.1⟩⟩
def errC (c : List Slt) : Int := if mayCB c then 0 else 8
theorem errC_ok {c : List Slt} (h : mayC c) : errC c = 0 := by rw [errC, if_pos (mayCB_iff.2 h)]
theorem errC_no {c : List Slt} (h : ¬ mayC c) : errC c = 8 := by rw [errC, if_neg (by rw [mayCB_iff]; exact h)]
theorem take_snoc {c : List Slt} {k : Nat} {s : Slt} (hk : k < c.length) (hs : c.getD k (0, 0, 0) = s) : c.take (k + 1) = c.take k ++ [s] := by
  rw [List.take_succ_eq_append_getElem hk, ← hs]
  simp [hk]
theorem good_take {c : List Slt} {k : Nat} (h : good1 0 (c.take k) = false) : mayCB c = false := by
  unfold mayCB
  rw [← List.take_append_drop k c, good_app, h]
  simp
theorem errC_bad {c : List Slt} (h : mayCB c = false) : errC c = 8 := by rw [errC, h]; rfl
theorem errC_good {c : List Slt} (h : mayCB c = true) : errC c = 0 := by rw [errC, h]; rfl
/-- What a round of Check finds. -/
theorem good_next {c : List Slt} {k : Nat} {f t o en : Int} (hk : k < c.length) (hs : c.getD k (0, 0, 0) = (f, t, o)) (he : en = lastC 0 (c.take k)) (hg : good1 0 (c.take k) = true) :
    good1 0 (c.take (k + 1)) = (maySlB (f, t, o) && decide (en ≤ f)) ∧ t = lastC 0 (c.take (k + 1)) := by
  rw [take_snoc hk hs, good_app, lastC_snoc, hg, ← he]
  simp [good1]

theorem cmay_calls (f t o : Int) (w : World) : Calls Tryz.prog 91 #[V3 f t o] w fun e W' => e = .returned (.bool (maySlB (f, t, o))) ∧ Below w.heap.size w W' := by
  have H : Hid (∀ w, Calls Tryz.prog 55 #[S2 f t] w fun e W' => e = .returned (I (errS f t)) ∧ Below w.heap.size w W') := tcheck_calls f t
  have hB := (Below.refl _ w).alloc (Nat.le_refl _) (.cells (C3 f t o) 85)
  have hK := Blk.new w 85 (C3 f t o)
  have HW : Hid (∃ W, w.alloc (.cells (C3 f t o) 85) = W ∧ Below w.heap.size w W ∧ Blk W w.heap.size 85 (C3 f t o)) := ⟨_, rfl, hB, hK⟩
  clear hB hK
  obtain ⟨W, hW, hB, hK⟩ := HW.out
  clear HW
  have HW : Hid (w.alloc (.cells (C3 f t o) 85) = W) := hW
  clear hW
  unfold errS at H
  cases hs : maySpB f t
  · have E : maySlB (f, t, o) = false := by simp [maySlB, hs]
    rw [hs] at H
    simp only [Bool.false_eq_true, if_false] at H
    rw [E]
    clear hs E
    go_enter Tryz.func91, Tryz.ntmps91
    go_wp2_with fail
    rw [HW.out]
    refine (H.out _).mono ?_
    rintro e w1 ⟨rfl, hB1⟩
    go_wp2
    go_ret
    exact ⟨rfl, then_below hB hB1⟩
  · rw [hs] at H
    simp only [if_true] at H
    by_cases h1 : 1 ≤ o
    · by_cases h2 : o ≤ 1099511627776
      · have E : maySlB (f, t, o) = true := by simp [maySlB, hs, h1, h2]
        rw [E]
        clear hs E
        go_enter Tryz.func91, Tryz.ntmps91
        go_wp2_with fail
        rw [HW.out]
        refine (H.out _).mono ?_
        rintro e w1 ⟨rfl, hB1⟩
        have hc := (hK.later hB1).cell 2
        have hz := (hK.later hB1).lt
        go_wp2
        go_ret
        exact ⟨rfl, then_below hB hB1⟩
      · have E : maySlB (f, t, o) = false := by simp [maySlB, h2]
        have h2 : decide (o ≤ 1099511627776) = false := decide_eq_false h2
        rw [E]
        clear hs E
        go_enter Tryz.func91, Tryz.ntmps91
        go_wp2_with fail
        rw [HW.out]
        refine (H.out _).mono ?_
        rintro e w1 ⟨rfl, hB1⟩
        have hc := (hK.later hB1).cell 2
        have hz := (hK.later hB1).lt
        go_wp2
        go_ret
        exact ⟨rfl, then_below hB hB1⟩
    · have E : maySlB (f, t, o) = false := by simp [maySlB, h1]
      have h1 : decide (1 ≤ o) = false := decide_eq_false h1
      rw [E]
      clear hs E
      go_enter Tryz.func91, Tryz.ntmps91
      go_wp2_with fail
      rw [HW.out]
      refine (H.out _).mono ?_
      rintro e w1 ⟨rfl, hB1⟩
      have hc := (hK.later hB1).cell 2
      have hz := (hK.later hB1).lt
      go_wp2
      go_ret
      exact ⟨rfl, then_below hB hB1⟩

theorem ccheck_calls {xs : List Slt} {v : Value} (w : World) (hS : Ss w v xs) : Calls Tryz.prog 58 #[v] w fun e W' => e = .returned (I (errC xs)) ∧ Below w.heap.size w W' := by
  obtain ⟨ao, cap, rfl, hS⟩ := hS.form
  have HS : Hid (Ss w (.slice ao xs.length cap) xs) := hS
  clear hS
  have HM : Hid (∀ f t o w, Calls Tryz.prog 91 #[V3 f t o] w fun e W' => e = .returned (.bool (maySlB (f, t, o))) ∧ Below w.heap.size w W') := cmay_calls
  by_cases hl : (4096 : Int) < (xs.length : Int)
  · rw [errC_bad (by unfold mayCB; rw [decide_eq_false (by omega)]; rfl)]
    go_enter Tryz.func58, Tryz.ntmps58
    go_wp2
    go_ret
    exact ⟨rfl, Below.refl _ _⟩
  · have hn : xs.length ≤ 4096 := by omega
    have hl : decide ((4096 : Int) < (xs.length : Int)) = false := decide_eq_false hl
    have HG : Hid (mayCB xs = good1 0 xs) := by show _ = _; unfold mayCB; rw [decide_eq_true hn]; rfl
    have HB : Hid (mayCB xs = false → errC xs = 8) := errC_bad
    have HO : Hid (mayCB xs = true → errC xs = 0) := errC_good
    generalize errC xs = ans at HB HO ⊢
    go_enter Tryz.func58, Tryz.ntmps58
    go_wp2
    go_loopw [3, 11] (fun en i wr => ∃ (k : Nat) (e : Int), k ≤ xs.length ∧ i = .int .i64 k ∧ en = .int .i64 e ∧ Hid (e = lastC 0 (xs.take k)) ∧ Hid (good1 0 (xs.take k) = true) ∧ Below w.heap.size w wr) (fun _ i _ => xs.length - (RowKit.intOf i).toNat)
    case atStart => exact ⟨0, 0, by omega, rfl, rfl, by show _ = _; simp [lastC], by show _ = _; simp [good1], Below.refl _ _⟩
    case round =>
      obtain ⟨k, en, hk, rfl, rfl, HE, HK, hT⟩ := hrel
      by_cases hlt : (k : Int) < (xs.length : Int)
      · have hk' : k < xs.length := by omega
        obtain ⟨g, off, f, t, o, rfl, hu, ha⟩ := (HS.out.later hT).at hk'
        obtain ⟨hg, c0, c1, c2⟩ := ha.cells
        have HN : Hid (good1 0 (xs.take (k + 1)) = (maySlB (f, t, o) && decide (en ≤ f)) ∧ t = lastC 0 (xs.take (k + 1))) := good_next hk' hu HE.out HK.out
        have HM1 : Hid (∀ w, Calls Tryz.prog 91 #[V3 f t o] w fun e W' => e = .returned (.bool (maySlB (f, t, o))) ∧ Below w.heap.size w W') := HM.out f t o
        have hBN := (Below.refl _ wr).alloc (Nat.le_refl _) (.cells (C3 f t o) 85)
        have hKN := (Blk.new wr 85 (C3 f t o))
        clear hu ha
        cases hm : maySlB (f, t, o)
        · have E : ans = 8 := HB.out (good_take (k := k + 1) (by rw [HN.out.1, hm]; rfl))
          rw [hm] at HM1
          subst E
          clear hm HN
          go_wp2_with fail
          refine (HM1.out _).mono ?_
          rintro e w1 ⟨rfl, hB1⟩
          go_wp2
          go_ret
          exact ⟨rfl, then_below hT (then_below hBN hB1)⟩
        · rw [hm] at HM1 HN
          clear hm
          by_cases hf : f < en
          · have E : ans = 8 := HB.out (good_take (k := k + 1) (by rw [HN.out.1]; simp; omega))
            subst E
            clear HN
            go_wp2_with fail
            refine (HM1.out _).mono ?_
            rintro e w1 ⟨rfl, hB1⟩
            have hc := (hKN.later hB1).cell 0
            have hz := (hKN.later hB1).lt
            go_wp2
            go_ret
            exact ⟨rfl, then_below hT (then_below hBN hB1)⟩
          · have HN2 : Hid (good1 0 (xs.take (k + 1)) = true) := by show _ = _; rw [HN.out.1]; simp; omega
            have hf : decide (f < en) = false := decide_eq_false hf
            go_wp2_with fail
            refine (HM1.out _).mono ?_
            rintro e w1 ⟨rfl, hB1⟩
            have hc := (hKN.later hB1).cell 0
            have hc1 := (hKN.later hB1).cell 1
            have hz := (hKN.later hB1).lt
            go_wp2
            go_roundw
            case rel => exact ⟨k + 1, t, by omega, by go_num, rfl, HN.out.2, HN2.out, then_below hT (then_below hBN hB1)⟩
            case measure => simp [RowKit.intOf]; omega
      · have E : ans = 0 := HO.out (by rw [HG.out]; have := HK.out; rwa [List.take_of_length_le (by omega)] at this)
        subst E
        go_wp2
        go_ret
        exact ⟨rfl, hT⟩

end Go.Proofs.YtldcagjnngkabaaGreatDoor
