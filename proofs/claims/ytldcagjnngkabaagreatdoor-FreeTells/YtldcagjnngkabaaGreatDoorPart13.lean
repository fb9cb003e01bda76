/-
  cals.Check: whether a machine's calendars may be.
-/
import Derived.Test.YtldcagjnngkabaaGreatDoorPart11
import Derived.Test.YtldcagjnngkabaaGreatDoorPart12
import Derived.Test.YtldcagjnngkabaaGreatDoorPart1
import Derived.Test.YtldcagjnngkabaaGreatDoorProg
import Derived.ChangeKeysEq
import Derived.KernelRfl
namespace Go.Proofs.YtldcagjnngkabaaGreatDoor
open Go Go.RowKit Go.Shelf

attribute [local go_sem] Oper.semAt_some ext_const

theorem ccheckc_calls {xs : List Slt} {v : Value} {r : Bool} (hr : mayCB xs = r) (w : World) (hS : Ss w v xs) : Calls Tryz.prog 57 #[v] w fun e W' => e = .returned (.bool (!r)) ∧ Below w.heap.size w W' := by
  have H : Hid (∀ w, Ss w v xs → Calls Tryz.prog 58 #[v] w fun e W' => e = .returned (I (if r then 0 else 8)) ∧ Below w.heap.size w W') := fun w h => by
    have := ccheck_calls w h
    rwa [errC, hr] at this
  have HS : Hid (Ss w v xs) := hS
  clear hr hS
  cases r
  all_goals
    go_enter Tryz.func57, Tryz.ntmps57
    go_wp2_with fail
    refine (H.out _ HS.out).mono ?_
    rintro e w1 ⟨rfl, hT⟩
    go_wp2
    go_ret
    exact ⟨rfl, hT⟩

/-- The number of the first calendar that may not be. -/
def firstN (cs : List (List Slt)) : Int := match cs.findIdx? fun c => !mayCB c with | some i => i | none => -1
theorem firstN_at {cs : List (List Slt)} {k : Nat} (hk : k < cs.length) (h0 : ∀ j, j < k → mayCB (cs.getD j []) = true) (h1 : mayCB (cs.getD k []) = false) : firstN cs = k := by
  unfold firstN
  rw [show (cs.findIdx? fun c => !mayCB c) = some k from ?_]
  rw [List.findIdx?_eq_some_iff_getElem]
  refine ⟨hk, ?_, fun j hj => ?_⟩
  · simpa [hk] using h1
  · have := h0 j hj
    simpa [show j < cs.length by omega] using this
theorem firstN_none {cs : List (List Slt)} (h0 : ∀ j, j < cs.length → mayCB (cs.getD j []) = true) : firstN cs = -1 := by
  unfold firstN
  rw [show (cs.findIdx? fun c => !mayCB c) = none from ?_]
  rw [List.findIdx?_eq_none_iff]
  intro c hc
  obtain ⟨j, hj, rfl⟩ := List.mem_iff_getElem.1 hc
  have := h0 j hj
  simpa [hj] using this
theorem firstN_any (cs : List (List Slt)) : decide (0 ≤ firstN cs) = !maysC cs := by
  cases e : maysC cs
  · unfold firstN
    cases h : cs.findIdx? fun c => !mayCB c
    · rw [List.findIdx?_eq_none_iff] at h
      have : maysC cs = true := List.all_eq_true.2 fun c hc => by have := h c hc; simpa using this
      rw [this] at e; cases e
    · simp
  · rw [firstN_none fun j _ => mayCB_iff.2 (maysC_may e j)]
    rfl

set_option maxRecDepth 100000 in
set_option maxHeartbeats 4000000 in
theorem yindex_calls {cs : List (List Slt)} {v : Value} (w : World) (hS : Yl w v cs) (hn : cs.length ≤ 100000) :
    Calls Tryz.prog 100 #[v, .func (.func 57) #[] #[]] w fun e W' => e = .returned (I (firstN cs)) ∧ Below w.heap.size w W' := by
  obtain ⟨ao, cap, rfl, hS⟩ := hS.form
  have HS : Hid (Yl w (.slice ao cs.length cap) cs) := hS
  have H1 : Hid (∀ k : Nat, k < cs.length → (∀ j, j < k → mayCB (cs.getD j []) = true) → mayCB (cs.getD k []) = false → firstN cs = k) := fun k => firstN_at
  have H2 : Hid ((∀ j, j < cs.length → mayCB (cs.getD j []) = true) → firstN cs = -1) := firstN_none
  generalize firstN cs = ans at H1 H2 ⊢
  clear hS
  go_enter Tryz.func100, Tryz.ntmps100
  go_wp2
  go_loopw [8] (fun i wr => ∃ k : Nat, k ≤ cs.length ∧ i = .int .i64 k ∧ Hid (∀ j, j < k → mayCB (cs.getD j []) = true) ∧ Below w.heap.size w wr) (fun i _ => cs.length - (RowKit.intOf i).toNat)
  case atStart => exact ⟨0, by omega, rfl, fun j hj => by omega, Below.refl _ _⟩
  case round =>
    obtain ⟨k, hk, rfl, H0, hT⟩ := hrel
    by_cases hlt : (k : Int) < (cs.length : Int)
    · have hk' : k < cs.length := by omega
      obtain ⟨g, off, bo, m, c, rfl, hg, hc, hs⟩ := (HS.out.later hT).get hk'
      have HC : Hid (∀ r, mayCB (cs.getD k []) = r → Calls Tryz.prog 57 #[.slice bo m c] wr fun e W' => e = .returned (.bool (!r)) ∧ Below wr.heap.size wr W') := fun r hr => ccheckc_calls hr wr hs
      clear hs
      cases hm : mayCB (cs.getD k [])
      · have E : ans = k := H1.out k hk' H0.out hm
        subst E
        have HC1 : Hid (Calls Tryz.prog 57 #[.slice bo m c] wr fun e W' => e = .returned (.bool (!false)) ∧ Below wr.heap.size wr W') := HC.out _ hm
        clear hm HC
        go_wp2_with fail
        refine HC1.out.mono ?_
        rintro e w1 ⟨rfl, hB1⟩
        go_wp2
        go_ret
        exact ⟨rfl, then_below hT hB1⟩
      · have HJ : Hid (∀ j, j < k + 1 → mayCB (cs.getD j []) = true) := fun j hj => by
          rcases Nat.lt_succ_iff_lt_or_eq.1 hj with h | rfl
          · exact H0.out j h
          · exact hm
        have HC1 : Hid (Calls Tryz.prog 57 #[.slice bo m c] wr fun e W' => e = .returned (.bool (!true)) ∧ Below wr.heap.size wr W') := HC.out _ hm
        clear hm HC
        go_wp2_with fail
        refine HC1.out.mono ?_
        rintro e w1 ⟨rfl, hB1⟩
        go_wp2
        go_roundw
        case rel => exact ⟨k + 1, by omega, by go_num, HJ, then_below hT hB1⟩
        case measure => simp [RowKit.intOf]; omega
    · have E : ans = -1 := H2.out fun j hj => H0.out j (by omega)
      subst E
      go_wp2
      go_ret
      exact ⟨rfl, hT⟩

theorem ycontains_calls {cs : List (List Slt)} {v : Value} {r : Bool} (hr : maysC cs = r) (w : World) (hS : Yl w v cs) (hn : cs.length ≤ 100000) :
    Calls Tryz.prog 59 #[v, .func (.func 57) #[] #[]] w fun e W' => e = .returned (.bool (!r)) ∧ Below w.heap.size w W' := by
  have E := firstN_any cs
  rw [hr] at E
  rw [← E]
  have H : Hid (Calls Tryz.prog 100 #[v, .func (.func 57) #[] #[]] w fun e W' => e = .returned (I (firstN cs)) ∧ Below w.heap.size w W') := yindex_calls w hS hn
  clear hS E hr
  generalize firstN cs = q at *
  by_cases hq : 0 ≤ q
  · rw [decide_eq_true hq]
    go_enter Tryz.func59, Tryz.ntmps59
    go_wp2_with fail
    refine H.out.mono ?_
    rintro e w1 ⟨rfl, hT⟩
    go_wp2
    go_ret
    exact ⟨rfl, hT⟩
  · rw [decide_eq_false hq]
    have hq : decide (0 ≤ q) = false := decide_eq_false hq
    go_enter Tryz.func59, Tryz.ntmps59
    go_wp2_with fail
    refine H.out.mono ?_
    rintro e w1 ⟨rfl, hT⟩
    go_wp2
    go_ret
    exact ⟨rfl, hT⟩

/-- What a later world reads of a machine's calendars that a call has. -/
theorem Blk.yard {W W' : World} {B : Nat} {t : TypeId} {a b c : Int} {n l : Value} (h : Blk W B t (K5 a b c n l)) (hb : Below W.heap.size W W') :
    W'.cell? ⟨B, 0, none⟩ = some (.int .i64 a) ∧ W'.cell? ⟨B, 1, none⟩ = some (.int .i64 b) ∧ W'.cell? ⟨B, 2, none⟩ = some (.int .i64 c) ∧ W'.cell? ⟨B, 3, none⟩ = some n ∧ W'.cell? ⟨B, 4, none⟩ = some l ∧ B < W'.heap.size := (h.later hb).five

set_option maxHeartbeats 4000000 in
theorem ycheck_yes {a b c : Int} {n l : Value} {ns ls : List (List Slt)} (w : World) (hN : Yl w n ns) (hL : Yl w l ls) (h : mayY a b c ns ls) : Calls Tryz.prog 28 #[Y5 a b c n l] w fun e W' => e = .returned (I 0) ∧ Below w.heap.size w W' := by
  obtain ⟨W, hW, hB, hK⟩ := one_start w (K5 a b c n l) 26
  have HW : Hid (w.alloc (.cells (K5 a b c n l) 26) = W) := hW
  have hbd := h.bd
  have HM : Hid (∀ w, Calls Tryz.prog 48 #[A3 a b c] w fun e W' => e = .returned (.tuple #[I ns.length, I 0]) ∧ Below w.heap.size w W') := fun w => by rw [h.2.1]; exact many_yes w h.1
  have HN : Hid (∀ w1, Below W.heap.size W w1 → Calls Tryz.prog 59 #[n, .func (.func 57) #[] #[]] w1 fun e W' => e = .returned (.bool false) ∧ Below w1.heap.size w1 W') := fun w1 hb => ycontains_calls (r := true) h.2.2.2.1 w1 (hN.later (then_below hB hb)) (by omega)
  have HL : Hid (∀ w1, Below W.heap.size W w1 → Calls Tryz.prog 59 #[l, .func (.func 57) #[] #[]] w1 fun e W' => e = .returned (.bool false) ∧ Below w1.heap.size w1 W') := fun w1 hb => ycontains_calls (r := true) h.2.2.2.2 w1 (hL.later (then_below hB hb)) (by omega)
  obtain ⟨an, cn, rfl, _⟩ := hN.form
  obtain ⟨al, cl, rfl, _⟩ := hL.form
  have hmul : wrap64 (3 * (ns.length : Int)) = (ls.length : Int) := by rw [wrap_in _ (by omega)]; omega
  clear hW h hN hL hbd
  generalize ns.length = nn at *
  generalize ls.length = ll at *
  obtain ⟨p0, p1, p2, p3, p4, hz⟩ := hK.five
  go_enter Tryz.func28, Tryz.ntmps28
  go_wp2_with fail
  rw [HW.out]
  go_wp2_with fail
  refine (HM.out _).mono ?_
  rintro e w1 ⟨rfl, hT⟩
  clear p0 p1 p2 p3 p4 hz
  obtain ⟨p0, p1, p2, p3, p4, hz⟩ := hK.yard hT
  go_wp2_with fail
  refine (HN.out _ hT).mono ?_
  rintro e w2 ⟨rfl, hB2⟩
  have hT2 := then_below hT hB2
  clear p0 p1 p2 p3 p4 hz
  obtain ⟨p0, p1, p2, p3, p4, hz⟩ := hK.yard hT2
  go_wp2_with fail
  refine (HL.out _ hT2).mono ?_
  rintro e w3 ⟨rfl, hB3⟩
  go_wp2
  go_ret
  exact ⟨rfl, then_below hB (then_below hT2 hB3)⟩

set_option maxHeartbeats 4000000 in
theorem ycheck_bad {a b c : Int} {n l : Value} (w : World) (h : ¬ mayD a b c) : Calls Tryz.prog 28 #[Y5 a b c n l] w fun e W' => e = .returned (I 8) ∧ Below w.heap.size w W' := by
  obtain ⟨W, hW, hB, hK⟩ := one_start w (K5 a b c n l) 26
  have HW : Hid (w.alloc (.cells (K5 a b c n l) 26) = W) := hW
  have HM : Hid (∀ w, Calls Tryz.prog 48 #[A3 a b c] w fun e W' => e = .returned (.tuple #[I 0, I 8]) ∧ Below w.heap.size w W') := fun w => many_no w h
  clear hW h
  obtain ⟨p0, p1, p2, p3, p4, hz⟩ := hK.five
  go_enter Tryz.func28, Tryz.ntmps28
  go_wp2_with fail
  rw [HW.out]
  go_wp2_with fail
  refine (HM.out _).mono ?_
  rintro e w1 ⟨rfl, hT⟩
  go_wp2
  go_ret
  exact ⟨rfl, then_below hB hT⟩

set_option maxHeartbeats 4000000 in
theorem ycheck_len {a b c : Int} {n l : Value} {ns ls : List (List Slt)} (w : World) (hN : Yl w n ns) (hL : Yl w l ls) (h : mayD a b c) (hl : ¬ ((ns.length : Int) = a * b * c ∧ (ls.length : Int) = 3 * (a * b * c))) : Calls Tryz.prog 28 #[Y5 a b c n l] w fun e W' => e = .returned (I 8) ∧ Below w.heap.size w W' := by
  obtain ⟨W, hW, hB, hK⟩ := one_start w (K5 a b c n l) 26
  have HW : Hid (w.alloc (.cells (K5 a b c n l) 26) = W) := hW
  have HM : Hid (∀ w, Calls Tryz.prog 48 #[A3 a b c] w fun e W' => e = .returned (.tuple #[I (a * b * c), I 0]) ∧ Below w.heap.size w W') := fun w => many_yes w h
  obtain ⟨an, cn, rfl, _⟩ := hN.form
  obtain ⟨al, cl, rfl, _⟩ := hL.form
  have hbd := N_bd h
  have hmul : wrap64 (3 * (a * b * c)) = 3 * (a * b * c) := wrap_in _ (by omega)
  generalize a * b * c = N at *
  clear hW h hN hL hbd
  generalize ns.length = nn at *
  generalize ls.length = ll at *
  obtain ⟨p0, p1, p2, p3, p4, hz⟩ := hK.five
  by_cases h1 : (nn : Int) = N
  · have h2 : ((ll : Int) != 3 * N) = true := by simp; omega
    have h1 : ((nn : Int) != N) = false := by simp [h1]
    clear hl
    go_enter Tryz.func28, Tryz.ntmps28
    go_wp2_with fail
    rw [HW.out]
    go_wp2_with fail
    refine (HM.out _).mono ?_
    rintro e w1 ⟨rfl, hT⟩
    clear p0 p1 p2 p3 p4 hz
    obtain ⟨p0, p1, p2, p3, p4, hz⟩ := hK.yard hT
    go_wp2
    go_ret
    exact ⟨rfl, then_below hB hT⟩
  · have h1 : ((nn : Int) != N) = true := by simp [h1]
    clear hl
    go_enter Tryz.func28, Tryz.ntmps28
    go_wp2_with fail
    rw [HW.out]
    go_wp2_with fail
    refine (HM.out _).mono ?_
    rintro e w1 ⟨rfl, hT⟩
    clear p0 p1 p2 p3 p4 hz
    obtain ⟨p0, p1, p2, p3, p4, hz⟩ := hK.yard hT
    go_wp2
    go_ret
    exact ⟨rfl, then_below hB hT⟩

set_option maxHeartbeats 4000000 in
theorem ycheck_cal {a b c : Int} {n l : Value} {ns ls : List (List Slt)} (w : World) (hN : Yl w n ns) (hL : Yl w l ls) (h : mayD a b c) (h1 : (ns.length : Int) = a * b * c) (h2 : (ls.length : Int) = 3 * (a * b * c)) (hm : (maysC ns && maysC ls) = false) : Calls Tryz.prog 28 #[Y5 a b c n l] w fun e W' => e = .returned (I 8) ∧ Below w.heap.size w W' := by
  obtain ⟨W, hW, hB, hK⟩ := one_start w (K5 a b c n l) 26
  have HW : Hid (w.alloc (.cells (K5 a b c n l) 26) = W) := hW
  have hbd := N_bd h
  have HM : Hid (∀ w, Calls Tryz.prog 48 #[A3 a b c] w fun e W' => e = .returned (.tuple #[I ns.length, I 0]) ∧ Below w.heap.size w W') := fun w => by rw [h1]; exact many_yes w h
  generalize a * b * c = N at *
  have HN : Hid (∀ r, maysC ns = r → ∀ w1, Below W.heap.size W w1 → Calls Tryz.prog 59 #[n, .func (.func 57) #[] #[]] w1 fun e W' => e = .returned (.bool (!r)) ∧ Below w1.heap.size w1 W') := fun r hr w1 hb => ycontains_calls hr w1 (hN.later (then_below hB hb)) (by omega)
  have HL : Hid (∀ r, maysC ls = r → ∀ w1, Below W.heap.size W w1 → Calls Tryz.prog 59 #[l, .func (.func 57) #[] #[]] w1 fun e W' => e = .returned (.bool (!r)) ∧ Below w1.heap.size w1 W') := fun r hr w1 hb => ycontains_calls hr w1 (hL.later (then_below hB hb)) (by omega)
  obtain ⟨an, cn, rfl, _⟩ := hN.form
  obtain ⟨al, cl, rfl, _⟩ := hL.form
  have hmul : wrap64 (3 * (ns.length : Int)) = (ls.length : Int) := by rw [wrap_in _ (by omega)]; omega
  clear hW h hN hL hbd h1 h2
  cases e1 : maysC ns
  · have HN1 : Hid (∀ w1, Below W.heap.size W w1 → Calls Tryz.prog 59 #[.slice an ns.length cn, .func (.func 57) #[] #[]] w1 fun e W' => e = .returned (.bool true) ∧ Below w1.heap.size w1 W') := fun w1 hb => HN.out false e1 w1 hb
    clear e1 hm HN HL
    generalize ns.length = nn at *
    generalize ls.length = ll at *
    obtain ⟨p0, p1, p2, p3, p4, hz⟩ := hK.five
    go_enter Tryz.func28, Tryz.ntmps28
    go_wp2_with fail
    rw [HW.out]
    go_wp2_with fail
    refine (HM.out _).mono ?_
    rintro e w1 ⟨rfl, hT⟩
    clear p0 p1 p2 p3 p4 hz
    obtain ⟨p0, p1, p2, p3, p4, hz⟩ := hK.yard hT
    go_wp2_with fail
    refine (HN1.out _ hT).mono ?_
    rintro e w2 ⟨rfl, hB2⟩
    go_wp2
    go_ret
    exact ⟨rfl, then_below hB (then_below hT hB2)⟩
  · have HN1 : Hid (∀ w1, Below W.heap.size W w1 → Calls Tryz.prog 59 #[.slice an ns.length cn, .func (.func 57) #[] #[]] w1 fun e W' => e = .returned (.bool false) ∧ Below w1.heap.size w1 W') := fun w1 hb => HN.out true e1 w1 hb
    have e2 : maysC ls = false := by rw [e1] at hm; exact hm
    have HL1 : Hid (∀ w1, Below W.heap.size W w1 → Calls Tryz.prog 59 #[.slice al ls.length cl, .func (.func 57) #[] #[]] w1 fun e W' => e = .returned (.bool true) ∧ Below w1.heap.size w1 W') := fun w1 hb => HL.out false e2 w1 hb
    clear e1 e2 hm HN HL
    generalize ns.length = nn at *
    generalize ls.length = ll at *
    obtain ⟨p0, p1, p2, p3, p4, hz⟩ := hK.five
    go_enter Tryz.func28, Tryz.ntmps28
    go_wp2_with fail
    rw [HW.out]
    go_wp2_with fail
    refine (HM.out _).mono ?_
    rintro e w1 ⟨rfl, hT⟩
    clear p0 p1 p2 p3 p4 hz
    obtain ⟨p0, p1, p2, p3, p4, hz⟩ := hK.yard hT
    go_wp2_with fail
    refine (HN1.out _ hT).mono ?_
    rintro e w2 ⟨rfl, hB2⟩
    have hT2 := then_below hT hB2
    clear p0 p1 p2 p3 p4 hz
    obtain ⟨p0, p1, p2, p3, p4, hz⟩ := hK.yard hT2
    go_wp2_with fail
    refine (HL1.out _ hT2).mono ?_
    rintro e w3 ⟨rfl, hB3⟩
    go_wp2
    go_ret
    exact ⟨rfl, then_below hB (then_below hT2 hB3)⟩

/-- cals.Check, whatever it is handed. -/
theorem ycheck_calls {a b c : Int} {n l : Value} {ns ls : List (List Slt)} (w : World) (hN : Yl w n ns) (hL : Yl w l ls) : Calls Tryz.prog 28 #[Y5 a b c n l] w fun e W' => e = .returned (I (errY a b c ns ls)) ∧ Below w.heap.size w W' := by
  by_cases h : mayY a b c ns ls
  · rw [errY_ok h]; exact ycheck_yes w hN hL h
  · rw [errY_no h]
    by_cases hd : mayD a b c
    · by_cases hl : (ns.length : Int) = a * b * c ∧ (ls.length : Int) = 3 * (a * b * c)
      · refine ycheck_cal w hN hL hd hl.1 hl.2 ?_
        cases e1 : maysC ns
        · rfl
        · cases e2 : maysC ls
          · rfl
          · exact absurd ⟨hd, hl.1, hl.2, e1, e2⟩ h
      · exact ycheck_len w hN hL hd hl
    · exact ycheck_bad w hd

end Go.Proofs.YtldcagjnngkabaaGreatDoor

/-
  cals.turnEach, cals.turn, handed the closure of Take, of Cut, of Put: what is made of each calendar. (Written by tools/gen/cals_turn.py.)
-/
namespace Go.Proofs.YtldcagjnngkabaaGreatDoor
open Go Go.RowKit Go.Shelf

attribute [local go_sem] Oper.semAt_some ext_const

/-- What is told where there is no error. -/
def rowsE {α : Type} (er : Int) (xs : List α) : List α := if er = 0 then xs else []
def dimE (er a : Int) : Int := if er = 0 then a else 0
def mapTo (ts : Nat → List Slt) (k : Nat) : List (List Slt) := (List.range k).map ts
theorem mapTo_succ (ts : Nat → List Slt) (k : Nat) : mapTo ts (k + 1) = mapTo ts k ++ [ts k] := by simp [mapTo, List.range_succ]
theorem mapTo_len (ts : Nat → List Slt) (k : Nat) : (mapTo ts k).length = k := by simp [mapTo]
def errT (x y : Int) : Int := if x = 0 then y else x

theorem Made.three {W : World} {base g n : Nat} {cs : List (List Slt)} (h : Made W base g cs n) {i : Nat} (hi : i < n) : (∃ u, W.cell? ⟨g, i, none⟩ = some u) ∧ W.frozen? ⟨g, i, none⟩ = false ∧ g < W.heap.size := ⟨h.cell hi, h.frozen i, h.lt⟩

set_option maxRecDepth 100000 in
set_option maxHeartbeats 8000000 in
theorem each_put {cs : List (List Slt)} {v : Value} {es : Nat → Int} {ts : Nat → List Slt} (w : World) (A B D : Nat) (hS : Yl w v cs) (hn : cs.length ≤ 12288)
    (hc : ∀ (wr : World) (k : Nat) (vc : Value), k < cs.length → Below w.heap.size w wr → Ss wr vc (cs.getD k []) → Calls Tryz.prog 51 #[I k, vc, .pointer (some ⟨A, 0, none⟩), .pointer (some ⟨B, 0, none⟩), .pointer (some ⟨D, 0, none⟩)] wr fun e W' => ∃ u, e = .returned (.tuple #[u, I (es k)]) ∧ So W' wr.heap.size u (ts k) ∧ Below wr.heap.size wr W') :
    Calls Tryz.prog 96 #[v, .func (.func 51) #[] #[.pointer (some ⟨A, 0, none⟩), .pointer (some ⟨B, 0, none⟩), .pointer (some ⟨D, 0, none⟩)]] w fun e W' => ∃ u, e = .returned (.tuple #[u, I (firstE es cs.length)]) ∧ Yo W' w.heap.size u (rowsE (firstE es cs.length) (mapTo ts cs.length)) ∧ Below w.heap.size w W' := by
  obtain ⟨ao, cap, rfl, hS⟩ := hS.form
  have HS : Hid (Yl w (.slice ao cs.length cap) cs) := hS
  have HC : Hid (∀ (wr : World) (k : Nat) (vc : Value), k < cs.length → Below w.heap.size w wr → Ss wr vc (cs.getD k []) → Calls Tryz.prog 51 #[I k, vc, .pointer (some ⟨A, 0, none⟩), .pointer (some ⟨B, 0, none⟩), .pointer (some ⟨D, 0, none⟩)] wr fun e W' => ∃ u, e = .returned (.tuple #[u, I (es k)]) ∧ So W' wr.heap.size u (ts k) ∧ Below wr.heap.size wr W') := hc
  have HF : Hid (∀ k, k < cs.length → firstE es k = 0 → es k ≠ 0 → firstE es cs.length = es k ∧ rowsE (firstE es cs.length) (mapTo ts cs.length) = []) := fun k hk h0 h1 => by
    have e1 := firstE_next h0
    have e2 := firstE_stay (by rw [e1]; exact h1) cs.length (show k + 1 ≤ cs.length by omega)
    rw [e2, e1]
    exact ⟨rfl, if_neg h1⟩
  have HG : Hid (firstE es cs.length = 0 → rowsE (firstE es cs.length) (mapTo ts cs.length) = mapTo ts cs.length) := fun h => by rw [h]; exact if_pos rfl
  have HN : Hid (∀ k, firstE es k = 0 → es k = 0 → firstE es (k + 1) = 0) := fun k h0 h1 => (firstE_next h0).trans h1
  have HM : Hid (∀ k, mapTo ts (k + 1) = mapTo ts k ++ [ts k]) := mapTo_succ ts
  have HL : Hid (∀ k, (mapTo ts k).length = k) := mapTo_len ts
  have HZ : Hid (mapTo ts 0 = []) := rfl
  have HZ0 : Hid (firstE es 0 = 0) := rfl
  generalize rowsE (firstE es cs.length) (mapTo ts cs.length) = tgt at *
  generalize mapTo ts = mt at *
  generalize firstE es = fe at *
  obtain ⟨er, her⟩ : ∃ er, er = fe cs.length := ⟨_, rfl⟩
  rw [← her] at HF HG ⊢
  have HER : Hid (er = fe cs.length) := her
  clear hS hc her
  go_enter Tryz.func96, Tryz.ntmps96
  go_wp2_with (at_make; refine wpList_mkY rfl _ _ rfl cs.length rfl rfl (by omega) ?_; intro w1 hK1 hT1)
  have HK1 : Hid (Made w1 w.heap.size w.heap.size (mt 0) cs.length) := by show Made _ _ _ _ _; rw [HZ.out]; exact Made.start hK1 (Nat.le_refl _)
  clear hK1
  go_wp2
  go_loopw [16] (fun i wr => ∃ k : Nat, k ≤ cs.length ∧ i = .int .i64 k ∧ Hid (Made wr w.heap.size w.heap.size (mt k) cs.length) ∧ Hid (fe k = 0) ∧ Below w.heap.size w wr) (fun i _ => cs.length - (RowKit.intOf i).toNat)
  case atStart => exact ⟨0, by omega, rfl, HK1, HZ0, hT1⟩
  case round =>
    clear HK1 hT1
    obtain ⟨k, hk, rfl, HD, H0, hT⟩ := hrel
    by_cases hlt : (k : Int) < (cs.length : Int)
    · have hk' : k < cs.length := by omega
      obtain ⟨g, off, bo, m, c, rfl, hg, hcc, hs⟩ := (HS.out.later hT).get hk'
      have HC1 : Hid (Calls Tryz.prog 51 #[I k, .slice bo m c, .pointer (some ⟨A, 0, none⟩), .pointer (some ⟨B, 0, none⟩), .pointer (some ⟨D, 0, none⟩)] wr fun e W' => ∃ u, e = .returned (.tuple #[u, I (es k)]) ∧ So W' wr.heap.size u (ts k) ∧ Below wr.heap.size wr W') := HC.out wr k _ hk' hT hs
      have HFk : Hid (es k ≠ 0 → er = es k ∧ tgt = []) := HF.out k hk' H0.out
      have HNk : Hid (es k = 0 → fe (k + 1) = 0) := HN.out k H0.out
      have HMk : Hid (mt (k + 1) = mt k ++ [ts k]) := HM.out k
      have HLk : Hid ((mt k).length = k) := HL.out k
      generalize es k = x at HC1 HFk HNk
      generalize ts k = y at HC1 HMk
      clear hs
      by_cases hx : x = 0
      · have HE : Hid (fe (k + 1) = 0) := HNk.out hx
        subst hx
        clear HFk HNk
        go_wp2_with fail
        refine HC1.out.mono ?_
        rintro e w2 ⟨u, rfl, hO, hB2⟩
        have HD2 := HD.out.later hB2
        obtain ⟨⟨u0, hc0⟩, hf0, hz0⟩ := HD2.three hk'
        have HP := HD2.put (hO.weak hT.size) (by rw [HLk.out]; exact hk')
        rw [HLk.out, ← HMk.out] at HP
        have HP : Hid (Made (w2.setCell ⟨w.heap.size, k, none⟩ u) w.heap.size w.heap.size (mt (k + 1)) cs.length) := HP
        have HT2 : Hid (Below w.heap.size w (w2.setCell ⟨w.heap.size, k, none⟩ u)) := (then_below hT hB2).setCell (p := ⟨w.heap.size, k, none⟩) (Nat.le_refl _) u
        obtain ⟨ao2, n2, c2, rfl⟩ := hO.slice
        clear hO HD2
        go_wp2
        go_roundw
        case rel => exact ⟨k + 1, by omega, by go_num, HP, HE, HT2.out⟩
        case measure => simp [RowKit.intOf]; omega
      · obtain ⟨E1, E2⟩ := HFk.out hx
        subst E1 E2
        clear HFk HNk
        go_wp2_with fail
        refine HC1.out.mono ?_
        rintro e w2 ⟨u, rfl, hO, hB2⟩
        clear hO
        have hxb : (er != 0) = true := by simpa using hx
        go_wp2
        go_ret2
        exact ⟨_, rfl, Yo.nil _ _, then_below hT hB2⟩
    · obtain rfl : k = cs.length := by omega
      have E : er = 0 := HER.out.trans H0.out
      have E2 : tgt = mt cs.length := HG.out E
      have HYY : Hid (Yo wr w.heap.size (.slice (some ⟨w.heap.size, 0, none⟩) cs.length cs.length) tgt) := by show Yo _ _ _ _; rw [E2]; exact HD.out.yo (HL.out _) (by omega)
      clear E2
      subst E
      go_wp2
      go_ret2
      exact ⟨_, rfl, HYY.out, hT⟩

set_option maxRecDepth 100000 in
set_option maxHeartbeats 8000000 in
theorem turn_put {a b c : Int} {n l : Value} {ns ls : List (List Slt)} {es fs : Nat → Int} {ts us : Nat → List Slt} {er : Int} (w : World) (A B D E G : Nat) (hN : Yl w n ns) (hL : Yl w l ls) (hn : ns.length ≤ 12288) (hl : ls.length ≤ 12288)
    (hc : ∀ (wr : World) (k : Nat) (vc : Value), k < ns.length → Below w.heap.size w wr → Ss wr vc (ns.getD k []) → Calls Tryz.prog 51 #[I k, vc, .pointer (some ⟨A, 0, none⟩), .pointer (some ⟨B, 0, none⟩), .pointer (some ⟨D, 0, none⟩)] wr fun e W' => ∃ u, e = .returned (.tuple #[u, I (es k)]) ∧ So W' wr.heap.size u (ts k) ∧ Below wr.heap.size wr W')
    (hd : ∀ (wr : World) (k : Nat) (vc : Value), k < ls.length → Below w.heap.size w wr → Ss wr vc (ls.getD k []) → Calls Tryz.prog 51 #[I k, vc, .pointer (some ⟨E, 0, none⟩), .pointer (some ⟨G, 0, none⟩), .pointer (some ⟨D, 0, none⟩)] wr fun e W' => ∃ u, e = .returned (.tuple #[u, I (fs k)]) ∧ So W' wr.heap.size u (us k) ∧ Below wr.heap.size wr W') (he : er = errT (firstE es ns.length) (firstE fs ls.length)) :
    Calls Tryz.prog 54 #[Y5 a b c n l, .func (.func 51) #[] #[.pointer (some ⟨A, 0, none⟩), .pointer (some ⟨B, 0, none⟩), .pointer (some ⟨D, 0, none⟩)], .func (.func 51) #[] #[.pointer (some ⟨E, 0, none⟩), .pointer (some ⟨G, 0, none⟩), .pointer (some ⟨D, 0, none⟩)]] w fun e W' => ∃ u v, e = .returned (.tuple #[Y5 (dimE er a) (dimE er b) (dimE er c) u v, I er]) ∧ Yo W' w.heap.size u (rowsE er (mapTo ts ns.length)) ∧ Yo W' w.heap.size v (rowsE er (mapTo us ls.length)) ∧ Below w.heap.size w W' := by
  obtain ⟨W, hW, hB, hK, hR⟩ := two_start w (K5 a b c n l) (K5 0 0 0 (.slice none 0 0) (.slice none 0 0)) 26 26
  have HW : Hid ((w.alloc (.cells (K5 a b c n l) 26)).alloc (.cells (K5 0 0 0 (.slice none 0 0) (.slice none 0 0)) 26) = W) := hW
  have H1 : Hid (Calls Tryz.prog 96 #[n, .func (.func 51) #[] #[.pointer (some ⟨A, 0, none⟩), .pointer (some ⟨B, 0, none⟩), .pointer (some ⟨D, 0, none⟩)]] W fun e W' => ∃ u, e = .returned (.tuple #[u, I (firstE es ns.length)]) ∧ Yo W' W.heap.size u (rowsE (firstE es ns.length) (mapTo ts ns.length)) ∧ Below W.heap.size W W') := each_put W A B D (hN.later hB) hn (fun wr k vc hk hb hs => hc wr k vc hk (then_below hB hb) hs)
  have H2 : Hid (∀ w1, Below W.heap.size W w1 → Calls Tryz.prog 96 #[l, .func (.func 51) #[] #[.pointer (some ⟨E, 0, none⟩), .pointer (some ⟨G, 0, none⟩), .pointer (some ⟨D, 0, none⟩)]] w1 fun e W' => ∃ u, e = .returned (.tuple #[u, I (firstE fs ls.length)]) ∧ Yo W' w1.heap.size u (rowsE (firstE fs ls.length) (mapTo us ls.length)) ∧ Below w1.heap.size w1 W') := fun w1 hb => each_put w1 E G D (hL.later (then_below hB hb)) hl (fun wr k vc hk hb' hs => hd wr k vc hk (then_below hB (then_below hb hb')) hs)
  clear hW hc hd hN hL
  generalize firstE es ns.length = x at *
  generalize firstE fs ls.length = y at *
  generalize mapTo ts ns.length = r1 at *
  generalize mapTo us ls.length = r2 at *
  clear hn hl
  have hWs : w.heap.size + 1 < W.heap.size := hR.lt
  by_cases hx : x = 0
  · subst hx
    have he2 : er = y := he
    clear he
    subst he2
    by_cases hy : er = 0
    · subst hy
      have HD : Hid (∀ a : Int, dimE 0 a = a) := fun a => if_pos rfl
      rw [HD.out, HD.out, HD.out]
      rw [show rowsE 0 r1 = r1 from if_pos rfl] at H1 ⊢
      rw [show rowsE 0 r2 = r2 from if_pos rfl] at H2 ⊢
      clear HD
      go_enter Tryz.func54, Tryz.ntmps54
      go_wp2_with fail
      rw [HW.out]
      go_wp2_with fail
      refine H1.out.mono ?_
      rintro e w1 ⟨u, rfl, hU, hT⟩
      obtain ⟨ao1, n1, c1, rfl⟩ := hU.slice
      obtain ⟨p0, p1, p2, p3, p4, hz⟩ := hK.yard hT
      go_wp2_with fail
      refine (H2.out _ hT).mono ?_
      rintro e w2 ⟨v, rfl, hV, hB2⟩
      obtain ⟨ao2, n2, c2, rfl⟩ := hV.slice
      have hT2 := then_below hT hB2
      have hR2 := hR.later hT2
      have HS := hR2.set5 (.int .i64 a) (.int .i64 b) (.int .i64 c) (.slice ao1 n1 c1) (.slice ao2 n2 c2)
      have hlow := below_set5 (then_below hB hT2) (show w.heap.size ≤ w.heap.size + 1 by omega) (.int .i64 a) (.int .i64 b) (.int .i64 c) (.slice ao1 n1 c1) (.slice ao2 n2 c2)
      have HU : Hid (Yo (put5 w2 (w.heap.size + 1) (.int .i64 a) (.int .i64 b) (.int .i64 c) (.slice ao1 n1 c1) (.slice ao2 n2 c2)) w.heap.size (.slice ao1 n1 c1) r1) := ((hU.later hB2).put5 hWs _ _ _ _ _).weak hB.size
      have HV : Hid (Yo (put5 w2 (w.heap.size + 1) (.int .i64 a) (.int .i64 b) (.int .i64 c) (.slice ao1 n1 c1) (.slice ao2 n2 c2)) w.heap.size (.slice ao2 n2 c2) r2) := (hV.put5 (Nat.lt_of_lt_of_le hWs hT.size) _ _ _ _ _).weak (Nat.le_trans hB.size hT.size)
      clear p0 p1 p2 p3 p4 hz
      obtain ⟨p0, p1, p2, p3, p4, hz⟩ := hK.yard hT2
      obtain ⟨q0, q1, q2, q3, q4, hzq⟩ := hR2.five
      obtain ⟨f0, f1, f2, f3, f4⟩ := hR2.row5
      go_wp2_with fail
      obtain ⟨j0, j1, j2, j3, j4, _⟩ := HS.five
      exact bodyPost_ret (v := .tuple #[Y5 a b c (.slice ao1 n1 c1) (.slice ao2 n2 c2), I 0]) (by simp [results, Tryz.f54, go_sem, j0, j1, j2, j3, j4]) rfl ⟨_, _, rfl, HU.out, HV.out, hlow⟩
    · have HD : Hid (∀ a : Int, dimE er a = 0) := fun a => if_neg hy
      rw [HD.out, HD.out, HD.out]
      rw [show rowsE 0 r1 = r1 from if_pos rfl] at H1
      rw [show rowsE er r2 = [] from if_neg hy] at H2 ⊢
      rw [show rowsE er r1 = [] from if_neg hy]
      have hyb : (er != 0) = true := by simpa using hy
      clear HD hy
      go_enter Tryz.func54, Tryz.ntmps54
      go_wp2_with fail
      rw [HW.out]
      go_wp2_with fail
      refine H1.out.mono ?_
      rintro e w1 ⟨u, rfl, hU, hT⟩
      clear hU
      obtain ⟨p0, p1, p2, p3, p4, hz⟩ := hK.yard hT
      go_wp2_with fail
      refine (H2.out _ hT).mono ?_
      rintro e w2 ⟨v, rfl, hV, hB2⟩
      clear hV
      have hT2 := then_below hT hB2
      have hR2 := hR.later hT2
      have HS := hR2.set5 (.int .i64 0) (.int .i64 0) (.int .i64 0) (.slice none 0 0) (.slice none 0 0)
      have hlow := below_set5 (then_below hB hT2) (show w.heap.size ≤ w.heap.size + 1 by omega) (.int .i64 0) (.int .i64 0) (.int .i64 0) (.slice none 0 0) (.slice none 0 0)
      try clear p0 p1 p2 p3 p4 hz
      obtain ⟨q0, q1, q2, q3, q4, hzq⟩ := hR2.five
      obtain ⟨f0, f1, f2, f3, f4⟩ := hR2.row5
      go_wp2_with fail
      obtain ⟨j0, j1, j2, j3, j4, _⟩ := HS.five
      exact bodyPost_ret (v := .tuple #[Y5 0 0 0 (.slice none 0 0) (.slice none 0 0), I er]) (by simp [results, Tryz.f54, go_sem, j0, j1, j2, j3, j4]) rfl ⟨_, _, rfl, Yo.nil _ _, Yo.nil _ _, hlow⟩
  · have he2 : er = x := by rw [he, errT, if_neg hx]
    clear he
    subst he2
    have HD : Hid (∀ a : Int, dimE er a = 0) := fun a => if_neg hx
    rw [HD.out, HD.out, HD.out]
    rw [show rowsE er r1 = [] from if_neg hx] at H1 ⊢
    rw [show rowsE er r2 = [] from if_neg hx]
    have hyb : (er != 0) = true := by simpa using hx
    clear HD hx
    go_enter Tryz.func54, Tryz.ntmps54
    go_wp2_with fail
    rw [HW.out]
    go_wp2_with fail
    refine H1.out.mono ?_
    rintro e w2 ⟨u, rfl, hU, hT2⟩
    clear hU
    have hR2 := hR.later hT2
    have HS := hR2.set5 (.int .i64 0) (.int .i64 0) (.int .i64 0) (.slice none 0 0) (.slice none 0 0)
    have hlow := below_set5 (then_below hB hT2) (show w.heap.size ≤ w.heap.size + 1 by omega) (.int .i64 0) (.int .i64 0) (.int .i64 0) (.slice none 0 0) (.slice none 0 0)
    try clear p0 p1 p2 p3 p4 hz
    obtain ⟨q0, q1, q2, q3, q4, hzq⟩ := hR2.five
    obtain ⟨f0, f1, f2, f3, f4⟩ := hR2.row5
    go_wp2_with fail
    obtain ⟨j0, j1, j2, j3, j4, _⟩ := HS.five
    exact bodyPost_ret (v := .tuple #[Y5 0 0 0 (.slice none 0 0) (.slice none 0 0), I er]) (by simp [results, Tryz.f54, go_sem, j0, j1, j2, j3, j4]) rfl ⟨_, _, rfl, Yo.nil _ _, Yo.nil _ _, hlow⟩

end Go.Proofs.YtldcagjnngkabaaGreatDoor

/-
  cals.Take, cals.Cut, and the closure of Put.
-/
namespace Go.Proofs.YtldcagjnngkabaaGreatDoor
open Go Go.RowKit Go.Shelf

attribute [local go_sem] Oper.semAt_some ext_const

/-- What is made of a calendar, where a slot is put to those of a set. -/
def putF (has : Bool) (xs : List Slt) (s : Slt) : List Slt := if has then putL xs s else xs
def putG (has : Bool) (xs : List Slt) (s : Slt) : Int := if has then putE xs s else 0

set_option maxHeartbeats 4000000 in
theorem yputc_calls {w : World} {A B D : Nat} {n : Int} {ws : List Nat} {vs : Value} {xs : List Slt} {v : Value} {k f t o : Int} {has : Bool} (hS : Ss w v xs) (hl : xs.length ≤ 100000) (hA : Blk w A 3 #[I n]) (hV : Wds w vs ws) (hB : Blk w B 30 #[vs]) (hD : Blk w D 85 (C3 f t o)) (he : errAll n [ws] = 0) (hh : hasR n ws k = has) :
    Calls Tryz.prog 51 #[I k, v, .pointer (some ⟨A, 0, none⟩), .pointer (some ⟨B, 0, none⟩), .pointer (some ⟨D, 0, none⟩)] w fun e W' => ∃ u, e = .returned (.tuple #[u, I (putG has xs (f, t, o))]) ∧ So W' w.heap.size u (putF has xs (f, t, o)) ∧ Below w.heap.size w W' := by
  have HH : Hid (Calls Tryz.prog 52 #[I n, vs, I k] w fun e W' => e = .returned (.tuple #[.bool has, I 0]) ∧ Below w.heap.size w W') := by
    have := hasSet_calls w hV n k
    rwa [he, hh] at this
  have HC : Hid (∀ w, Ss w v xs → Calls Tryz.prog 53 #[v, V3 f t o] w fun e W' => ∃ u, e = .returned (.tuple #[u, I (putE xs (f, t, o))]) ∧ So W' w.heap.size u (putL xs (f, t, o)) ∧ Below w.heap.size w W') := fun w h => cput_all w h
  obtain ⟨ao, cap, rfl, _⟩ := hS.form
  have HS : Hid (Ss w (.slice ao xs.length cap) xs) := hS
  obtain ⟨c0, hz⟩ := hA.one (Below.refl _ _)
  have c1 : w.cell? ⟨B, 0, none⟩ = some vs := hB.cell 0
  have hz1 := hB.lt
  clear hS he hh hV
  cases has
  · rw [show putG false xs (f, t, o) = 0 from rfl, show putF false xs (f, t, o) = xs from rfl]
    clear HC
    go_enter Tryz.func51, Tryz.ntmps51
    go_wp2_with fail
    refine HH.out.mono ?_
    rintro e w1 ⟨rfl, hT⟩
    go_wp2_with (first
      | (at_builtin; refine wpList_catS (base := w.heap.size) (xs := []) (ys := xs) rfl _ _ rfl rfl rfl (So.nil _ _) (HS.out.later hT) (by simpa using hl) hT.size ?_; intro ao4 n4 cap4 w4 hW4 hB4)
      | go_in)
    go_ret2
    exact ⟨_, rfl, hW4, hT.trans hB4⟩
  · rw [show putG true xs (f, t, o) = putE xs (f, t, o) from rfl, show putF true xs (f, t, o) = putL xs (f, t, o) from rfl]
    generalize putE xs (f, t, o) = er at *
    generalize putL xs (f, t, o) = tgt at *
    go_enter Tryz.func51, Tryz.ntmps51
    go_wp2_with fail
    refine HH.out.mono ?_
    rintro e w1 ⟨rfl, hT⟩
    obtain ⟨hg, s0, s1, s2⟩ := (hD.later hT).at3.cells
    go_wp2_with fail
    refine (HC.out _ (HS.out.later hT)).mono ?_
    rintro e w2 ⟨u, rfl, hO, hB2⟩
    have HO : Hid (So w2 w.heap.size u tgt) := hO.weak hT.size
    clear hO
    go_wp2
    go_ret2
    exact ⟨_, rfl, HO.out, then_below hT hB2⟩

/-- The blocks of a call that has a machine's calendars and some numbers, and answers such. -/
theorem yard3_start (w : World) (u0 u1 u2 : Array Value) (t0 t1 t2 : TypeId) : ∃ W : World, ((w.alloc (.cells u0 t0)).alloc (.cells u1 t1)).alloc (.cells u2 t2) = W ∧ Below w.heap.size w W ∧ Blk W w.heap.size t0 u0 ∧ Blk W (w.heap.size + 1) t1 u1 ∧ Blk W (w.heap.size + 1 + 1) t2 u2 := three_boxes w u0 u1 u2 t0 t1 t2

theorem yard4_start (w : World) (u0 u1 u2 u3 : Array Value) (t0 t1 t2 t3 : TypeId) : ∃ W : World, (((w.alloc (.cells u0 t0)).alloc (.cells u1 t1)).alloc (.cells u2 t2)).alloc (.cells u3 t3) = W ∧ Below w.heap.size w W ∧ Blk W w.heap.size t0 u0 ∧ Blk W (w.heap.size + 1) t1 u1 ∧ Blk W (w.heap.size + 1 + 1) t2 u2 ∧ Blk W (w.heap.size + 1 + 1 + 1) t3 u3 := by
  obtain ⟨W, hW, hB, b0, b1, b2⟩ := three_boxes w u0 u1 u2 t0 t1 t2
  refine ⟨_, rfl, ?_, ?_, ?_, ?_, ?_⟩
  · rw [hW]; exact hB.alloc hB.size _
  · rw [hW]; exact b0.alloc _
  · rw [hW]; exact b1.alloc _
  · rw [hW]; exact b2.alloc _
  · have := Blk.new (((w.alloc (.cells u0 t0)).alloc (.cells u1 t1)).alloc (.cells u2 t2)) t3 u3; simpa using this

theorem dim_ok (a : Int) : dimE 0 a = a := if_pos rfl
theorem dim_no {er : Int} (h : er ≠ 0) (a : Int) : dimE er a = 0 := if_neg h
theorem rows_ok {α : Type} (xs : List α) : rowsE 0 xs = xs := if_pos rfl
theorem rows_no {α : Type} {er : Int} (h : er ≠ 0) (xs : List α) : rowsE er xs = [] := if_neg h


end Go.Proofs.YtldcagjnngkabaaGreatDoor

/-
  '==' between two rows of three whole numbers: as the numbers are.
-/
namespace Go.Proofs.YtldcagjnngkabaaGreatDoor
open Go.RowKit

theorem eqIn_arr3 {P : Program} {t e : TypeId} {i : TypeInfo} (hu : P.underlying t = some (.array 3 e)) (he : P.underlying e = some (.int .i64)) (hi : P.info? e = some i) (hc : P.cellsOf e = 1) (hp : P.plainKey e = true)
    (a b c a' b' c' : Int) (w : World) : (Op.equalIn 10000 t (.agg #[.int .i64 a, .int .i64 b, .int .i64 c]) (.agg #[.int .i64 a', .int .i64 b', .int .i64 c'])).run P w = .ok (a == a' && (b == b' && c == c')) w := by
  rw [run_equalIn_array w 9999 _ _ hu hi, hc]
  have r3 : List.range 3 = [0, 1, 2] := rfl
  have p0 : ∀ (x y z : Value) (w : World), (part e #[x, y, z] 0).run P w = .ok x w := fun x y z w => run_part_plain w hp rfl
  have p1 : ∀ (x y z : Value) (w : World), (part e #[x, y, z] 1).run P w = .ok y w := fun x y z w => run_part_plain w hp rfl
  have p2 : ∀ (x y z : Value) (w : World), (part e #[x, y, z] 2).run P w = .ok z w := fun x y z w => run_part_plain w hp rfl
  have hq : ∀ (x y : Int) (w : World), (Op.equalIn 9999 e (.int .i64 x) (.int .i64 y)).run P w = .ok (x == y) w := fun x y w => run_equalIn_int w 9998 e .i64 .i64 x y he
  rw [r3]
  by_cases h0 : a = a' <;> by_cases h1 : b = b' <;> by_cases h2 : c = c' <;> simp [Op.eqItems, p0, p1, p2, hq, h0, h1, h2]

set_option maxRecDepth 100000 in
theorem eq_arr (a b c a' b' c' : Int) (w : World) : (Op.equalIn 10000 22 (.agg #[.int .i64 a, .int .i64 b, .int .i64 c]) (.agg #[.int .i64 a', .int .i64 b', .int .i64 c'])).run Tryz.prog w = .ok (a == a' && (b == b' && c == c')) w := by
  obtain ⟨i, hi⟩ : ∃ i, Tryz.prog.info? 3 = some i := ⟨_, rfl⟩
  exact eqIn_arr3 Tryz.underlying22 Tryz.underlying3 hi (by kernel_rfl) (by kernel_rfl) a b c a' b' c' w

end Go.Proofs.YtldcagjnngkabaaGreatDoor

/-
  What the document's own answer for layer 1 (tidehallref01) gives, for every input: dimensions, how many, the midplane at coordinates, the coordinates of one.
-/
namespace Go.Proofs.YtldcagjnngkabaaGreatDoor
open Go.RowKit Go.Shelf

attribute [local go_sem] Oper.semAt_some ext_const eq_arr

set_option maxRecDepth 100000 in
set_option maxHeartbeats 1000000 in
theorem rmay_calls (d0 d1 d2 : Int) (w : World) :
    Calls Tryz.prog 77 #[A3 d0 d1 d2] w fun e W' => ((mayD d0 d1 d2 ∧ e = .returned (.bool true)) ∨ (¬ mayD d0 d1 d2 ∧ e = .returned (.bool false))) ∧ Below w.heap.size w W' := by
  go_enter Tryz.func77, Tryz.ntmps77
  go_wp2
  go_loop [3] (fun i => i = .int .i64 0 ∨ (i = .int .i64 1 ∧ okD d0) ∨ (i = .int .i64 2 ∧ okD d0 ∧ okD d1) ∨ (i = .int .i64 3 ∧ mayD d0 d1 d2)) (fun i => 3 - (RowKit.intOf i).toNat)
  case atStart => exact .inl rfl
  case round =>
    have hB : Below w.heap.size w (w.alloc (.cells #[I d0, I d1, I d2] 23)) := (Below.refl _ w).alloc (Nat.le_refl _) _
    rcases hrel with rfl | ⟨rfl, h0⟩ | ⟨rfl, h0, h1⟩ | ⟨rfl, hm⟩
    · by_cases hl : d0 < 1
      · go_wp2
        go_ret
        exact ⟨.inr ⟨fun h => by have := h.1; unfold okD at this; omega, rfl⟩, hB⟩
      · by_cases hg : 16 < d0
        · go_wp2
          go_ret
          exact ⟨.inr ⟨fun h => by have := h.1; unfold okD at this; omega, rfl⟩, hB⟩
        · go_wp2
          go_round
          case rel => exact .inr (.inl ⟨rfl, by unfold okD; omega⟩)
          case measure => simp [RowKit.intOf]
    · by_cases hl : d1 < 1
      · go_wp2
        go_ret
        exact ⟨.inr ⟨fun h => by have := h.2.1; unfold okD at this; omega, rfl⟩, hB⟩
      · by_cases hg : 16 < d1
        · go_wp2
          go_ret
          exact ⟨.inr ⟨fun h => by have := h.2.1; unfold okD at this; omega, rfl⟩, hB⟩
        · go_wp2
          go_round
          case rel => exact .inr (.inr (.inl ⟨rfl, h0, by unfold okD; omega⟩))
          case measure => simp [RowKit.intOf]
    · by_cases hl : d2 < 1
      · go_wp2
        go_ret
        exact ⟨.inr ⟨fun h => by have := h.2.2; unfold okD at this; omega, rfl⟩, hB⟩
      · by_cases hg : 16 < d2
        · go_wp2
          go_ret
          exact ⟨.inr ⟨fun h => by have := h.2.2; unfold okD at this; omega, rfl⟩, hB⟩
        · go_wp2
          go_round
          case rel => exact .inr (.inr (.inr ⟨rfl, h0, h1, by unfold okD; omega⟩))
          case measure => simp [RowKit.intOf]
    · go_wp2
      go_ret
      exact ⟨rfl, hB⟩

theorem rmay_yes {d0 d1 d2 : Int} (w : World) (h : mayD d0 d1 d2) : Calls Tryz.prog 77 #[A3 d0 d1 d2] w fun e W' => e = .returned (.bool true) ∧ Below w.heap.size w W' := by
  refine (rmay_calls d0 d1 d2 w).mono ?_
  rintro e W' ⟨⟨_, rfl⟩ | ⟨hn, _⟩, hB⟩
  · exact ⟨rfl, hB⟩
  · exact absurd h hn
theorem rmay_no {d0 d1 d2 : Int} (w : World) (h : ¬ mayD d0 d1 d2) : Calls Tryz.prog 77 #[A3 d0 d1 d2] w fun e W' => e = .returned (.bool false) ∧ Below w.heap.size w W' := by
  refine (rmay_calls d0 d1 d2 w).mono ?_
  rintro e W' ⟨⟨hy, _⟩ | ⟨_, rfl⟩, hB⟩
  · exact absurd hy h
  · exact ⟨rfl, hB⟩

theorem rn_calls {d0 d1 d2 : Int} (w : World) (h : mayD d0 d1 d2) : Calls Tryz.prog 39 #[A3 d0 d1 d2] w fun e W' => e = .returned (I (d0 * d1 * d2)) ∧ Below w.heap.size w W' := by
  have hn := N_bd h
  have h' := h
  obtain ⟨h0, h1, h2⟩ := h'
  unfold okD at h0 h1 h2
  have hp : 0 ≤ d0 * d1 ∧ d0 * d1 ≤ 16 * 16 := mul_bd (by omega) h0.2 (by omega) h1.2
  go_enter Tryz.func39, Tryz.ntmps39
  go_wp2
  go_ret
  exact ⟨rfl, (Below.refl _ w).alloc (Nat.le_refl _) _⟩

theorem rnum_calls {d0 d1 d2 p0 p1 p2 : Int} (w : World) (h : mayD d0 d1 d2) (hp : inD d0 d1 d2 p0 p1 p2) : Calls Tryz.prog 210 #[A3 d0 d1 d2, A3 p0 p1 p2] w fun e W' => e = .returned (I (numD d0 d1 p0 p1 p2)) ∧ Below w.heap.size w W' := by
  have hn := (node_of_in h hp).1
  have hN := N_bd h
  have h' := h
  obtain ⟨h0, h1, h2⟩ := h'
  unfold okD at h0 h1 h2
  obtain ⟨q0, q1, q2⟩ := hp
  have a1 : 0 ≤ d1 * p2 ∧ d1 * p2 ≤ 16 * 16 := mul_bd (by omega) h1.2 (by omega) (by omega)
  have a2 : 0 ≤ d0 * (p1 + d1 * p2) ∧ d0 * (p1 + d1 * p2) ≤ 16 * 272 := mul_bd (by omega) h0.2 (by omega) (by omega)
  unfold numD at hn ⊢
  generalize d0 * d1 * d2 = N at hn hN
  go_enter Tryz.func210, Tryz.ntmps210
  go_wp2
  go_ret
  exact ⟨rfl, ((Below.refl _ w).alloc (Nat.le_refl _) _).alloc (by simp) _⟩

set_option maxRecDepth 100000 in
set_option maxHeartbeats 1000000 in
theorem rwhere_calls {d0 d1 d2 m : Int} (w : World) (h : mayD d0 d1 d2) (hm : 0 ≤ m ∧ m < d0 * d1 * d2) : Calls Tryz.prog 150 #[A3 d0 d1 d2, I m] w fun e W' => e = .returned (A3 (cx d0 m) (cy d0 d1 m) (cz d0 d1 m)) ∧ Below w.heap.size w W' := by
  have hN := N_bd h
  have hm0 : 0 ≤ m := hm.1
  have hm1 : m ≤ 4096 := by omega
  have h' := h
  obtain ⟨h0, h1, h2⟩ := h'
  unfold okD at h0 h1 h2
  have r0 : 0 ≤ m / d0 := Int.ediv_nonneg hm0 (by omega)
  have r1 : m / d0 ≤ 4096 := Int.le_trans (Int.ediv_le_self _ hm0) hm1
  unfold cx cy cz
  clear hN hm
  obtain ⟨h00, h01⟩ := h0
  obtain ⟨h10, h11⟩ := h1
  go_enter Tryz.func150, Tryz.ntmps150
  go_wp2
  obtain ⟨W, hW, hB0, b0, b1⟩ := two_start w #[I d0, I d1, I d2] #[I 0, I 0, I 0] 23 22
  rw [hW]
  clear hW
  have hmx : Tryz.prog.follows .mixedOrders = true := by kernel_rfl
  have e1 := Ext.cell b0 1
  simp at e1
  refine wp_region_tail 10 hmx (by kernel_rfl) ?_
  simp only [List.take_succ_cons, List.take_zero, List.drop_succ_cons, List.drop_zero]
  repeat (go_big_quiet_step (fail))
  refine wpQuiet_nil ?_
  intro x
  have q1 := b1.later x.le
  obtain ⟨c0, c1, c2, f0, f1, f2⟩ := q1.row
  gi_wp2
  have hBX := below_set3 (below_ext hB0 x) (Nat.le_succ _) (I (m % d0)) (I (m / d0 % d1)) (I (m / d0 / d1))
  have q3 := q1.set3 (I (m % d0)) (I (m / d0 % d1)) (I (m / d0 / d1))
  obtain ⟨j0, j1, j2, _, _, _⟩ := q3.row
  go_wp2
  exact bodyPost_ret (v := A3 (m % d0) (m / d0 % d1) (m / d0 / d1)) (by simp [results, Tryz.f150, go_sem, j0, j1, j2]) rfl ⟨rfl, hBX⟩

end Go.Proofs.YtldcagjnngkabaaGreatDoor
