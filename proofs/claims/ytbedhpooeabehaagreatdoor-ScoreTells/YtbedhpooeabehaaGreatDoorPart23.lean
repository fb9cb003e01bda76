/-
  tidehallref14.may, Open, Score, Of, Spread. (Written by tools/gen/score_refc.py.)
-/
import Derived.Test.YtbedhpooeabehaaGreatDoorPart19
import Derived.Test.YtbedhpooeabehaaGreatDoorPart17
import Derived.Test.YtbedhpooeabehaaGreatDoorPart20
import Derived.Test.YtbedhpooeabehaaGreatDoorRefSets
import Derived.Test.YtbedhpooeabehaaGreatDoorPart6
import Derived.Test.YtbedhpooeabehaaGreatDoorPart7
import Derived.Test.YtbedhpooeabehaaGreatDoorPart5
import Derived.Laws.AppendOwn
import Derived.Laws.AppendOwnNone
namespace Go.Proofs.YtbedhpooeabehaaGreatDoor
open Go Go.RowKit Go.Shelf

attribute [local go_sem] Oper.semAt_some ext_const

theorem errK_say {d0 d1 d2 : Int} (h : mayD d0 d1 d2) (a : List Nat) : decide (errK d0 d1 d2 [a] = 0) = maySet (d0 * d1 * d2).toNat a := by
  unfold errK
  rw [(okDB_iff _ _ _).2 h]
  cases hm : maySet (d0 * d1 * d2).toNat a <;> simp [hm]
theorem errK_both {d0 d1 d2 : Int} {a b : List Nat} : errK d0 d1 d2 [a, b] = 0 ↔ errK d0 d1 d2 [a] = 0 ∧ errK d0 d1 d2 [b] = 0 := by
  unfold errK
  cases okDB d0 d1 d2 <;> cases h1 : maySet (d0 * d1 * d2).toNat a <;> cases h2 : maySet (d0 * d1 * d2).toNat b <;> simp [h1, h2]

set_option maxRecDepth 100000 in
set_option maxHeartbeats 4000000 in
theorem rsmay_calls {va : Value} {a : List Nat} (d0 d1 d2 : Int) (w : World) (ha : Wds w va a) :
    Calls Tryz.prog 12 #[A3 d0 d1 d2, va] w fun e W' => e = .returned (.bool (decide (errK d0 d1 d2 [a] = 0))) ∧ Below w.heap.size w W' := by
  have hT : Below w.heap.size w (w.alloc (.cells #[I d0, I d1, I d2] 23)) := (Below.refl _ w).alloc (Nat.le_refl _) _
  have b0 := Blk.new w 23 #[I d0, I d1, I d2]
  obtain ⟨e0, e1, e2, ez⟩ := b0.three (Below.refl _ _)
  by_cases hd : mayD d0 d1 d2
  · have hN := N_bd hd
    have HD : Hid (∀ w, Calls Tryz.prog 25 #[A3 d0 d1 d2] w fun e W' => e = .returned (.bool true) ∧ Below w.heap.size w W') := fun w => rmay_yes w hd
    have HN : Hid (∀ w, Calls Tryz.prog 27 #[A3 d0 d1 d2] w fun e W' => e = .returned (I (d0 * d1 * d2)) ∧ Below w.heap.size w W') := fun w => rn_calls w hd
    rw [errK_say hd]
    obtain ⟨n, hn⟩ : ∃ n : Nat, d0 * d1 * d2 = n := ⟨(d0 * d1 * d2).toNat, by omega⟩
    rw [hn] at HN hN ⊢
    rw [Int.toNat_natCast]
    have HM : Hid (∀ w1, Below w.heap.size w w1 → Calls Tryz.prog 26 #[I n, va] w1 fun e W' => e = .returned (.bool (maySet n a)) ∧ W' = w1) := fun w1 h => may_calls w1 (ha.later h) n (by omega) (by omega)
    obtain ⟨ao, ca, rfl, _⟩ := ha.view
    clear ha hd hn hN
    generalize maySet n a = ans at *
    generalize a.length = na at *
    go_enter Tryz.func12, Tryz.ntmps12
    go_wp2_with fail
    refine (HD.out _).mono ?_
    rintro e w1 ⟨rfl, hB⟩
    replace b0 := b0.later hB
    replace hT := then_below hT hB
    clear hB e0 e1 e2 ez HD
    obtain ⟨e0, e1, e2, ez⟩ := b0.three (Below.refl _ _)
    go_wp2_with fail
    refine (HN.out _).mono ?_
    rintro e w2 ⟨rfl, hB⟩
    replace hT := then_below hT hB
    clear hB e0 e1 e2 ez HN b0
    go_wp2_with fail
    refine (HM.out _ hT).mono ?_
    rintro e w3 ⟨rfl, rfl⟩
    go_wp2
    go_ret
    exact ⟨rfl, hT⟩
  · have HD : Hid (∀ w, Calls Tryz.prog 25 #[A3 d0 d1 d2] w fun e W' => e = .returned (.bool false) ∧ Below w.heap.size w W') := fun w => rmay_no w hd
    rw [errK_no hd]
    obtain ⟨ao, ca, rfl, _⟩ := ha.view
    clear ha hd
    generalize a.length = na at *
    go_enter Tryz.func12, Tryz.ntmps12
    go_wp2_with fail
    refine (HD.out _).mono ?_
    rintro e w1 ⟨rfl, hB⟩
    replace hT := then_below hT hB
    clear hB e0 e1 e2 ez HD b0
    go_wp2
    go_ret
    exact ⟨rfl, hT⟩

/-- What each operation of Open's answer comes to. -/
def wordOp (d0 d1 d2 : Int) (va vb : Value) (A B : List Bool) (R : Int) (i : Nat) (v : Value) (W : World) : Prop :=
  match i with
  | 0 => v = A3 d0 d1 d2
  | 1 => v = A3 d0 d1 d2
  | 2 => v = va
  | 3 => Bo W 0 v A
  | 4 => v = A3 d0 d1 d2
  | 5 => v = vb
  | 6 => Bo W 0 v B
  | 7 => v = I R
  | _ => True
theorem wordOp_later {d0 d1 d2 : Int} {va vb : Value} {A B : List Bool} {R : Int} : ∀ (i : Nat) (v : Value) (w w' : World), wordOp d0 d1 d2 va vb A B R i v w → Below w.heap.size w w' → wordOp d0 d1 d2 va vb A B R i v w'
  | 0, _, _, _, h, _ => h
  | 1, _, _, _, h, _ => h
  | 2, _, _, _, h, _ => h
  | 3, _, _, _, h, hb => Bo.later h hb
  | 4, _, _, _, h, _ => h
  | 5, _, _, _, h, _ => h
  | 6, _, _, _, h, hb => Bo.later h hb
  | 7, _, _, _, h, _ => h
  | _ + 8, _, _, _, _, _ => trivial

set_option maxRecDepth 100000 in
set_option maxHeartbeats 8000000 in
theorem ropen_calls {va vb : Value} {a b : List Nat} (d0 d1 d2 : Int) (w : World) (ha : Wds w va a) (hb : Wds w vb b) :
    Calls Tryz.prog 5 #[A3 d0 d1 d2, va, vb] w fun e W' => e = .returned (.tuple #[I (opV d0 d1 d2 a b), I (errK d0 d1 d2 [a, b])]) ∧ Below w.heap.size w W' := by
  have mixed : Tryz.prog.follows .mixedOrders = true := by kernel_rfl
  have HA : Hid (∀ w1, Below w.heap.size w w1 → Calls Tryz.prog 12 #[A3 d0 d1 d2, va] w1 fun e W' => e = .returned (.bool (decide (errK d0 d1 d2 [a] = 0))) ∧ Below w1.heap.size w1 W') := fun w1 h => rsmay_calls d0 d1 d2 w1 (ha.later h)
  have HB : Hid (∀ w1, Below w.heap.size w w1 → Calls Tryz.prog 12 #[A3 d0 d1 d2, vb] w1 fun e W' => e = .returned (.bool (decide (errK d0 d1 d2 [b] = 0))) ∧ Below w1.heap.size w1 W') := fun w1 h => rsmay_calls d0 d1 d2 w1 (hb.later h)
  have hT : Below w.heap.size w (w.alloc (.cells #[I d0, I d1, I d2] 23)) := (Below.refl _ w).alloc (Nat.le_refl _) _
  have b0 := Blk.new w 23 #[I d0, I d1, I d2]
  obtain ⟨e0, e1, e2, ez⟩ := b0.three (Below.refl _ _)
  by_cases h0 : errK d0 d1 d2 [a, b] = 0
  · obtain ⟨hea, heb⟩ := errK_both.1 h0
    obtain ⟨hd, hall⟩ := errK_zero h0
    have HTa : Hid (∀ w1, Below w.heap.size w w1 → Calls Tryz.prog 14 #[A3 d0 d1 d2, va] w1 fun e W' => ∃ u, e = .returned u ∧ Bo W' w1.heap.size u (trL (inN a) (d0 * d1 * d2).toNat) ∧ Below w1.heap.size w1 W') := fun w1 h => truths_calls w1 hd (ha.later h)
    have HTb : Hid (∀ w1, Below w.heap.size w w1 → Calls Tryz.prog 14 #[A3 d0 d1 d2, vb] w1 fun e W' => ∃ u, e = .returned u ∧ Bo W' w1.heap.size u (trL (inN b) (d0 * d1 * d2).toNat) ∧ Below w1.heap.size w1 W') := fun w1 h => truths_calls w1 hd (hb.later h)
    have HCo : Hid (∀ (w1 : World) (u v : Value), Bo w1 0 u (trL (inN a) (d0 * d1 * d2).toNat) → Bo w1 0 v (trL (inN b) (d0 * d1 * d2).toNat) → Calls Tryz.prog 13 #[A3 d0 d1 d2, u, v] w1 fun e W' => e = .returned (I (openS d0 d1 d2 (inN a) (inN b))) ∧ Below w1.heap.size w1 W') := fun w1 u v h1 h2 => counted_calls w1 hd h1 h2
    rw [hea, decide_eq_true rfl] at HA
    rw [heb, decide_eq_true rfl] at HB
    rw [opV, if_pos h0, h0]
    obtain ⟨ao, ca, rfl, _⟩ := ha.view
    obtain ⟨bo, cb, rfl, _⟩ := hb.view
    clear ha hb hea heb hd hall h0
    generalize a.length = na at *
    generalize b.length = nb at *
    generalize openS d0 d1 d2 (inN a) (inN b) = R at *
    generalize trL (inN a) (d0 * d1 * d2).toNat = LA at *
    generalize trL (inN b) (d0 * d1 * d2).toNat = LB at *
    go_enter Tryz.func5, Tryz.ntmps5
    go_wp2_with fail
    refine (HA.out _ hT).mono ?_
    rintro e w1 ⟨rfl, hB⟩
    replace b0 := b0.later hB
    replace hT := then_below hT hB
    clear hB e0 e1 e2 ez HA
    obtain ⟨e0, e1, e2, ez⟩ := b0.three (Below.refl _ _)
    go_wp2_with fail
    refine (HB.out _ hT).mono ?_
    rintro e w2 ⟨rfl, hB⟩
    replace b0 := b0.later hB
    replace hT := then_below hT hB
    clear hB e0 e1 e2 ez HB
    have HB0 : Hid (Blk w2 w.heap.size 23 #[I d0, I d1, I d2] ∧ Below w.heap.size w w2) := ⟨b0, hT⟩
    clear b0 hT
    go_wp2_with fail
    refine wp_region_loud3 (w0 := w2) 8 (wordOp d0 d1 d2 (.slice ao na ca) (.slice bo nb cb) LA LB R) mixed (by kernel_rfl) wordOp_later ?_ ?_
    · intro i op hi a' w' hTT hL hpre
      have s3 : a'.tmps.getD 3 undef = .pointer (some ⟨w.heap.size, 0, none⟩) := by
        rw [Array.getD_eq_getD_getElem?, hL.out 3 (of_decide_eq_true (by kernel_rfl))]; rfl
      have s1 : a'.tmps.getD 1 undef = .slice ao na ca := by
        rw [Array.getD_eq_getD_getElem?, hL.out 1 (of_decide_eq_true (by kernel_rfl))]; rfl
      have s2 : a'.tmps.getD 2 undef = .slice bo nb cb := by
        rw [Array.getD_eq_getD_getElem?, hL.out 2 (of_decide_eq_true (by kernel_rfl))]; rfl
      obtain ⟨c0, c1, c2, hz⟩ := HB0.out.1.three hTT
      have hTw : Below w.heap.size w w' := then_below HB0.out.2 hTT
      clear hL
      match i, hi with
      | 0, hi =>
        obtain rfl := Option.some.inj hi
        refine .inl ⟨A3 d0 d1 d2, ?_, rfl⟩
        simp [execOp, go_sem, Act.eval, s3, c0, c1, c2]
      | 1, hi =>
        obtain rfl := Option.some.inj hi
        refine .inl ⟨A3 d0 d1 d2, ?_, rfl⟩
        simp [execOp, go_sem, Act.eval, s3, c0, c1, c2]
      | 2, hi =>
        obtain rfl := Option.some.inj hi
        refine .inl ⟨_, ?_, rfl⟩
        simp [execOp, go_sem, Act.eval, s1]
      | 3, hi =>
        obtain rfl := Option.some.inj hi
        have p0 : a'.tmps.getD 19 undef = A3 d0 d1 d2 := hpre ⟨1, .data⟩ (by simp) rfl
        have p1 : a'.tmps.getD 20 undef = .slice ao na ca := hpre ⟨2, .data⟩ (by simp) rfl
        refine .inr ⟨14, #[A3 d0 d1 d2, .slice ao na ca], ?_, ?_⟩
        · simp [go_sem, Act.eval, p0, p1]
        · refine (HTa.out _ hTw).mono ?_
          rintro e w'' ⟨u, rfl, hl, hB⟩
          exact ⟨_, rfl, hB, hl.weak (Nat.zero_le _)⟩
      | 4, hi =>
        obtain rfl := Option.some.inj hi
        refine .inl ⟨A3 d0 d1 d2, ?_, rfl⟩
        simp [execOp, go_sem, Act.eval, s3, c0, c1, c2]
      | 5, hi =>
        obtain rfl := Option.some.inj hi
        refine .inl ⟨_, ?_, rfl⟩
        simp [execOp, go_sem, Act.eval, s2]
      | 6, hi =>
        obtain rfl := Option.some.inj hi
        have p0 : a'.tmps.getD 22 undef = A3 d0 d1 d2 := hpre ⟨4, .data⟩ (by simp) rfl
        have p1 : a'.tmps.getD 23 undef = .slice bo nb cb := hpre ⟨5, .data⟩ (by simp) rfl
        refine .inr ⟨14, #[A3 d0 d1 d2, .slice bo nb cb], ?_, ?_⟩
        · simp [go_sem, Act.eval, p0, p1]
        · refine (HTb.out _ hTw).mono ?_
          rintro e w'' ⟨u, rfl, hl, hB⟩
          exact ⟨_, rfl, hB, hl.weak (Nat.zero_le _)⟩
      | 7, hi =>
        obtain rfl := Option.some.inj hi
        have p0 : a'.tmps.getD 18 undef = A3 d0 d1 d2 := hpre ⟨0, .data⟩ (by simp) rfl
        have p1 : Bo w' 0 (a'.tmps.getD 21 undef) LA := hpre ⟨3, .data⟩ (by simp) rfl
        have p2 : Bo w' 0 (a'.tmps.getD 24 undef) LB := hpre ⟨6, .data⟩ (by simp) rfl
        refine .inr ⟨13, #[A3 d0 d1 d2, a'.tmps.getD 21 undef, a'.tmps.getD 24 undef], ?_, ?_⟩
        · simp [go_sem, Act.eval, p0]
        · refine (HCo.out w' _ _ p1 p2).mono ?_
          rintro e w'' ⟨rfl, hB⟩
          exact ⟨_, rfl, hB, rfl⟩
      | n + 8, hi => simp at hi
    · intro vs w3 hT2 hall
      have h7 : vs 7 = I R := hall 7 (by decide)
      clear hall
      simp only [List.take_succ_cons, List.take_zero, List.drop_succ_cons, List.drop_zero, List.length_cons, List.length_nil, Nat.zero_add, Nat.reduceAdd, List.range, List.range.loop, List.foldl_cons, List.foldl_nil, dstOf, List.getElem?_cons_zero, List.getElem?_cons_succ, Option.getD_some, Act.put, h7, List.setIfInBounds_toArray, List.set_cons_succ, List.set_cons_zero]
      clear h7
      generalize vs 0 = y0
      generalize vs 1 = y1
      generalize vs 2 = y2
      generalize vs 3 = y3
      generalize vs 4 = y4
      generalize vs 5 = y5
      generalize vs 6 = y6
      clear vs
      have hT3 := then_below HB0.out.2 hT2
      refine wpListIn_value (loose_wide _) rfl (fun c e => by cases e) (v := I R) (w' := w3) (by simp [execOp, go_sem, Act.eval]) ?_
      refine wpListIn_value (loose_wide _) rfl (fun c e => by cases e) (v := I 0) (w' := w3) (by simp [execOp, go_sem, Act.eval]) ?_
      simp only [wpListIn, Act.put, List.setIfInBounds_toArray, List.set_cons_succ, List.set_cons_zero]
      go_wp2
      go_ret2
      exact ⟨rfl, hT3⟩
  · have h8 : errK d0 d1 d2 [a, b] = 8 := (errK_cases _ _ _ _).resolve_left h0
    rw [opV, if_neg h0, h8]
    obtain ⟨ao, ca, rfl, _⟩ := ha.view
    obtain ⟨bo, cb, rfl, _⟩ := hb.view
    clear ha hb h8
    by_cases hea : errK d0 d1 d2 [a] = 0
    · have heb : ¬ errK d0 d1 d2 [b] = 0 := fun h => h0 (errK_both.2 ⟨hea, h⟩)
      rw [hea, decide_eq_true rfl] at HA
      rw [decide_eq_false heb] at HB
      clear hea heb h0
      generalize a.length = na at *
      generalize b.length = nb at *
      go_enter Tryz.func5, Tryz.ntmps5
      go_wp2_with fail
      refine (HA.out _ hT).mono ?_
      rintro e w1 ⟨rfl, hB⟩
      replace b0 := b0.later hB
      replace hT := then_below hT hB
      clear hB e0 e1 e2 ez HA
      obtain ⟨e0, e1, e2, ez⟩ := b0.three (Below.refl _ _)
      go_wp2_with fail
      refine (HB.out _ hT).mono ?_
      rintro e w2 ⟨rfl, hB⟩
      replace hT := then_below hT hB
      clear hB e0 e1 e2 ez HB b0
      go_wp2
      go_ret2
      exact ⟨rfl, hT⟩
    · rw [decide_eq_false hea] at HA
      clear hea h0 HB
      generalize a.length = na at *
      generalize b.length = nb at *
      go_enter Tryz.func5, Tryz.ntmps5
      go_wp2_with fail
      refine (HA.out _ hT).mono ?_
      rintro e w1 ⟨rfl, hB⟩
      replace hT := then_below hT hB
      clear hB e0 e1 e2 ez HA b0
      go_wp2
      go_ret2
      exact ⟨rfl, hT⟩

/-- What each operation of Spread's answer comes to. -/
def wordSp (d0 d1 d2 : Int) (vl : Value) (A : List Bool) (R : Int) (i : Nat) (v : Value) (W : World) : Prop :=
  match i with
  | 0 => v = A3 d0 d1 d2
  | 1 => v = vl
  | 2 => v = vl
  | 3 => Bo W 0 v A
  | 4 => v = vl
  | 5 => v = I R
  | _ => True
theorem wordSp_later {d0 d1 d2 : Int} {vl : Value} {A : List Bool} {R : Int} : ∀ (i : Nat) (v : Value) (w w' : World), wordSp d0 d1 d2 vl A R i v w → Below w.heap.size w w' → wordSp d0 d1 d2 vl A R i v w'
  | 0, _, _, _, h, _ => h
  | 1, _, _, _, h, _ => h
  | 2, _, _, _, h, _ => h
  | 3, _, _, _, h, hb => Bo.later h hb
  | 4, _, _, _, h, _ => h
  | 5, _, _, _, h, _ => h
  | _ + 6, _, _, _, _, _ => trivial

set_option maxRecDepth 100000 in
set_option maxHeartbeats 8000000 in
theorem rspread_calls {va : Value} {a : List Nat} (d0 d1 d2 : Int) (w : World) (ha : Wds w va a) :
    Calls Tryz.prog 9 #[A3 d0 d1 d2, va] w fun e W' => e = .returned (.tuple #[I (spV d0 d1 d2 a), I (errK d0 d1 d2 [a])]) ∧ Below w.heap.size w W' := by
  have mixed : Tryz.prog.follows .mixedOrders = true := by kernel_rfl
  have HA : Hid (∀ w1, Below w.heap.size w w1 → Calls Tryz.prog 12 #[A3 d0 d1 d2, va] w1 fun e W' => e = .returned (.bool (decide (errK d0 d1 d2 [a] = 0))) ∧ Below w1.heap.size w1 W') := fun w1 h => rsmay_calls d0 d1 d2 w1 (ha.later h)
  have hT : Below w.heap.size w (w.alloc (.cells #[I d0, I d1, I d2] 23)) := (Below.refl _ w).alloc (Nat.le_refl _) _
  have b0 := Blk.new w 23 #[I d0, I d1, I d2]
  obtain ⟨e0, e1, e2, ez⟩ := b0.three (Below.refl _ _)
  by_cases h0 : errK d0 d1 d2 [a] = 0
  · obtain ⟨hd, hall⟩ := errK_zero h0
    have hN := N_bd hd
    have hLn : (trL (inN a) (d0 * d1 * d2).toNat).length ≤ 4096 := by rw [trL_len]; omega
    have HTa : Hid (∀ w1, Below w.heap.size w w1 → Calls Tryz.prog 14 #[A3 d0 d1 d2, va] w1 fun e W' => ∃ u, e = .returned u ∧ Bo W' w1.heap.size u (trL (inN a) (d0 * d1 * d2).toNat) ∧ Below w1.heap.size w1 W') := fun w1 h => truths_calls w1 hd (ha.later h)
    have HNo : Hid (∀ (w1 : World) (u : Value), Bo w1 0 u (trL (inN a) (d0 * d1 * d2).toNat) → Calls Tryz.prog 19 #[u, u] w1 fun e W' => ∃ r, e = .returned r ∧ Bo W' w1.heap.size r (trL (fun m => !inN a m && !inN a m) (d0 * d1 * d2).toNat) ∧ Below w1.heap.size w1 W') := fun w1 u h => not_calls w1 h h (by omega)
    have HCo : Hid (∀ (w1 : World) (u v : Value), Bo w1 0 u (trL (fun m => !inN a m && !inN a m) (d0 * d1 * d2).toNat) → Bo w1 0 v (trL (inN a) (d0 * d1 * d2).toNat) → Calls Tryz.prog 13 #[A3 d0 d1 d2, u, v] w1 fun e W' => e = .returned (I (spreadS d0 d1 d2 (inN a))) ∧ Below w1.heap.size w1 W') := fun w1 u v h1 h2 => by
      have := counted_calls w1 hd h1 h2
      rw [show openS d0 d1 d2 (fun m => !inN a m && !inN a m) (inN a) = spreadS d0 d1 d2 (inN a) from by unfold spreadS; congr 1; funext m; rw [Bool.and_self]] at this
      exact this
    rw [h0, decide_eq_true rfl] at HA
    rw [spV, if_pos h0, h0]
    obtain ⟨ao, ca, rfl, _⟩ := ha.view
    clear ha hd hall h0 hN hLn
    generalize a.length = na at *
    generalize spreadS d0 d1 d2 (inN a) = R at *
    generalize trL (fun m => !inN a m && !inN a m) (d0 * d1 * d2).toNat = LB at *
    generalize trL (inN a) (d0 * d1 * d2).toNat = LA at *
    go_enter Tryz.func9, Tryz.ntmps9
    go_wp2_with fail
    refine (HA.out _ hT).mono ?_
    rintro e w1 ⟨rfl, hB⟩
    replace b0 := b0.later hB
    replace hT := then_below hT hB
    clear hB e0 e1 e2 ez HA
    obtain ⟨e0, e1, e2, ez⟩ := b0.three (Below.refl _ _)
    go_wp2_with fail
    refine (HTa.out _ hT).mono ?_
    rintro e w2 ⟨vl, rfl, hl, hB⟩
    replace b0 := b0.later hB
    replace hT := then_below hT hB
    obtain ⟨lo, lc, rfl, hl0⟩ := hl.view
    clear hB e0 e1 e2 ez HTa hl0
    have HB0 : Hid (Blk w2 w.heap.size 23 #[I d0, I d1, I d2] ∧ Below w.heap.size w w2 ∧ Bo w2 0 (.slice lo LA.length lc) LA) := ⟨b0, hT, hl.weak (Nat.zero_le _)⟩
    clear b0 hT hl
    generalize hnl : LA.length = nl at *
    clear hnl
    go_wp2_with fail
    refine wp_region_loud3 (w0 := w2) 6 (wordSp d0 d1 d2 (.slice lo nl lc) LB R) mixed (by kernel_rfl) wordSp_later ?_ ?_
    · intro i op hi a' w' hTT hL hpre
      have s2 : a'.tmps.getD 2 undef = .pointer (some ⟨w.heap.size, 0, none⟩) := by
        rw [Array.getD_eq_getD_getElem?, hL.out 2 (of_decide_eq_true (by kernel_rfl))]; rfl
      have s6 : a'.tmps.getD 6 undef = .slice lo nl lc := by
        rw [Array.getD_eq_getD_getElem?, hL.out 6 (of_decide_eq_true (by kernel_rfl))]; rfl
      obtain ⟨c0, c1, c2, hz⟩ := HB0.out.1.three hTT
      have hbo : Bo w' 0 (.slice lo nl lc) LA := HB0.out.2.2.later hTT
      clear hL
      match i, hi with
      | 0, hi =>
        obtain rfl := Option.some.inj hi
        refine .inl ⟨A3 d0 d1 d2, ?_, rfl⟩
        simp [execOp, go_sem, Act.eval, s2, c0, c1, c2]
      | 1, hi =>
        obtain rfl := Option.some.inj hi
        refine .inl ⟨_, ?_, rfl⟩
        simp [execOp, go_sem, Act.eval, s6]
      | 2, hi =>
        obtain rfl := Option.some.inj hi
        refine .inl ⟨_, ?_, rfl⟩
        simp [execOp, go_sem, Act.eval, s6]
      | 3, hi =>
        obtain rfl := Option.some.inj hi
        have p0 : a'.tmps.getD 15 undef = .slice lo nl lc := hpre ⟨1, .data⟩ (by simp) rfl
        have p1 : a'.tmps.getD 16 undef = .slice lo nl lc := hpre ⟨2, .data⟩ (by simp) rfl
        refine .inr ⟨19, #[.slice lo nl lc, .slice lo nl lc], ?_, ?_⟩
        · simp [go_sem, Act.eval, p0, p1]
        · refine (HNo.out w' _ hbo).mono ?_
          rintro e w'' ⟨u, rfl, hl, hB⟩
          exact ⟨_, rfl, hB, hl.weak (Nat.zero_le _)⟩
      | 4, hi =>
        obtain rfl := Option.some.inj hi
        refine .inl ⟨_, ?_, rfl⟩
        simp [execOp, go_sem, Act.eval, s6]
      | 5, hi =>
        obtain rfl := Option.some.inj hi
        have p0 : a'.tmps.getD 14 undef = A3 d0 d1 d2 := hpre ⟨0, .data⟩ (by simp) rfl
        have p1 : Bo w' 0 (a'.tmps.getD 17 undef) LB := hpre ⟨3, .data⟩ (by simp) rfl
        have p2 : a'.tmps.getD 18 undef = .slice lo nl lc := hpre ⟨4, .data⟩ (by simp) rfl
        refine .inr ⟨13, #[A3 d0 d1 d2, a'.tmps.getD 17 undef, .slice lo nl lc], ?_, ?_⟩
        · simp [go_sem, Act.eval, p0, p2]
        · refine (HCo.out w' _ _ p1 hbo).mono ?_
          rintro e w'' ⟨rfl, hB⟩
          exact ⟨_, rfl, hB, rfl⟩
      | n + 6, hi => simp at hi
    · intro vs w3 hT2 hall
      have h5 : vs 5 = I R := hall 5 (by decide)
      clear hall
      simp only [List.take_succ_cons, List.take_zero, List.drop_succ_cons, List.drop_zero, List.length_cons, List.length_nil, Nat.zero_add, Nat.reduceAdd, List.range, List.range.loop, List.foldl_cons, List.foldl_nil, dstOf, List.getElem?_cons_zero, List.getElem?_cons_succ, Option.getD_some, Act.put, h5, List.setIfInBounds_toArray, List.set_cons_succ, List.set_cons_zero]
      clear h5
      generalize vs 0 = y0
      generalize vs 1 = y1
      generalize vs 2 = y2
      generalize vs 3 = y3
      generalize vs 4 = y4
      clear vs
      have hT3 := then_below HB0.out.2.1 hT2
      refine wpListIn_value (loose_wide _) rfl (fun c e => by cases e) (v := I R) (w' := w3) (by simp [execOp, go_sem, Act.eval]) ?_
      refine wpListIn_value (loose_wide _) rfl (fun c e => by cases e) (v := I 0) (w' := w3) (by simp [execOp, go_sem, Act.eval]) ?_
      simp only [wpListIn, Act.put, List.setIfInBounds_toArray, List.set_cons_succ, List.set_cons_zero]
      go_wp2
      go_ret2
      exact ⟨rfl, hT3⟩
  · have h8 : errK d0 d1 d2 [a] = 8 := (errK_cases _ _ _ _).resolve_left h0
    rw [decide_eq_false h0] at HA
    rw [spV, if_neg h0, h8]
    obtain ⟨ao, ca, rfl, _⟩ := ha.view
    clear ha h8 h0
    generalize a.length = na at *
    go_enter Tryz.func9, Tryz.ntmps9
    go_wp2_with fail
    refine (HA.out _ hT).mono ?_
    rintro e w1 ⟨rfl, hB⟩
    replace hT := then_below hT hB
    clear hB e0 e1 e2 ez HA b0
    go_wp2
    go_ret2
    exact ⟨rfl, hT⟩

theorem all_len {ws : List Nat} : (ofN (numsW ws)).length = manyS ws := by
  rw [ofN_len, manyS_to rfl]
  rfl
/-- What each operation of Score's answer comes to. -/
def wordSc (d0 d1 d2 : Int) (vo va vk : Value) (A B : List Bool) (R : Int) (cn : Nat) (i : Nat) (v : Value) (W : World) : Prop :=
  match i with
  | 0 => v = A3 d0 d1 d2
  | 1 => v = vo
  | 2 => v = A3 d0 d1 d2
  | 3 => v = va
  | 4 => Bo W 0 v A
  | 5 => v = vo
  | 6 => Bo W 0 v B
  | 7 => v = I R
  | 8 => v = I (2 * R)
  | 9 => v = vk
  | 10 => ∃ ao cap, v = .slice ao cn cap
  | 11 => v = I (cn : Int)
  | _ => True
theorem wordSc_later {d0 d1 d2 : Int} {vo va vk : Value} {A B : List Bool} {R : Int} {cn : Nat} : ∀ (i : Nat) (v : Value) (w w' : World), wordSc d0 d1 d2 vo va vk A B R cn i v w → Below w.heap.size w w' → wordSc d0 d1 d2 vo va vk A B R cn i v w'
  | 0, _, _, _, h, _ => h
  | 1, _, _, _, h, _ => h
  | 2, _, _, _, h, _ => h
  | 3, _, _, _, h, _ => h
  | 4, _, _, _, h, hb => Bo.later h hb
  | 5, _, _, _, h, _ => h
  | 6, _, _, _, h, hb => Bo.later h hb
  | 7, _, _, _, h, _ => h
  | 8, _, _, _, h, _ => h
  | 9, _, _, _, h, _ => h
  | 10, _, _, _, h, _ => h
  | 11, _, _, _, h, _ => h
  | _ + 12, _, _, _, _, _ => trivial

set_option maxRecDepth 100000 in
set_option maxHeartbeats 16000000 in
theorem rscore_calls {va : Value} {a : List Nat} {d0 d1 d2 : Int} {bx : Bx} {t0 t1 t2 : Bool} (w : World) (hd : mayD d0 d1 d2) (hp : mayP d0 d1 d2 bx t0 t1 t2) (ha : Wds w va a) :
    Calls Tryz.prog 18 #[A3 d0 d1 d2, P9 bx t0 t1 t2, va] w fun e W' => e = .returned (I (scoreS d0 d1 d2 (inN (midW d0 d1 d2 bx)) (inN a) (cabN d0 d1 d2 bx t0 t1 t2))) ∧ Below w.heap.size w W' := by
  have mixed : Tryz.prog.follows .mixedOrders = true := by kernel_rfl
  have hN := N_bd hd
  have HTk : Hid (∀ w, Calls Tryz.prog 36 #[A3 d0 d1 d2, P9 bx t0 t1 t2] w fun e W' => ∃ u v, e = .returned (.tuple #[u, v]) ∧ SetR W' w.heap.size u (midW d0 d1 d2 bx) ∧ SetR W' w.heap.size v (cabsW d0 d1 d2 bx t0 t1 t2) ∧ Below w.heap.size w W') := fun w => rtaken_calls w hd hp
  have HTa : Hid (∀ w1, Below w.heap.size w w1 → Calls Tryz.prog 14 #[A3 d0 d1 d2, va] w1 fun e W' => ∃ u, e = .returned u ∧ Bo W' w1.heap.size u (trL (inN a) (d0 * d1 * d2).toNat) ∧ Below w1.heap.size w1 W') := fun w1 h => truths_calls w1 hd (ha.later h)
  have HTo : Hid (∀ (w1 : World) (u : Value), Wds w1 u (midW d0 d1 d2 bx) → Calls Tryz.prog 14 #[A3 d0 d1 d2, u] w1 fun e W' => ∃ u, e = .returned u ∧ Bo W' w1.heap.size u (trL (inN (midW d0 d1 d2 bx)) (d0 * d1 * d2).toNat) ∧ Below w1.heap.size w1 W') := fun w1 u h => truths_calls w1 hd h
  have HNo : Hid (∀ (w1 : World) (u v : Value), Bo w1 0 u (trL (inN a) (d0 * d1 * d2).toNat) → Bo w1 0 v (trL (inN (midW d0 d1 d2 bx)) (d0 * d1 * d2).toNat) → Calls Tryz.prog 19 #[u, v] w1 fun e W' => ∃ r, e = .returned r ∧ Bo W' w1.heap.size r (trL (fun m => !inN a m && !inN (midW d0 d1 d2 bx) m) (d0 * d1 * d2).toNat) ∧ Below w1.heap.size w1 W') := fun w1 u v h h' => not_calls w1 h h' (by omega)
  have HCo : Hid (∀ (w1 : World) (u v : Value), Bo w1 0 u (trL (inN (midW d0 d1 d2 bx)) (d0 * d1 * d2).toNat) → Bo w1 0 v (trL (fun m => !inN a m && !inN (midW d0 d1 d2 bx) m) (d0 * d1 * d2).toNat) → Calls Tryz.prog 13 #[A3 d0 d1 d2, u, v] w1 fun e W' => e = .returned (I (openS d0 d1 d2 (inN (midW d0 d1 d2 bx)) (fun m => !inN a m && !inN (midW d0 d1 d2 bx) m))) ∧ Below w1.heap.size w1 W') := fun w1 u v h1 h2 => counted_calls w1 hd h1 h2
  have HAl : Hid (∀ (w1 : World) (v : Value), Wds w1 v (cabsW d0 d1 d2 bx t0 t1 t2) → Calls Tryz.prog 37 #[v] w1 fun e W' => ∃ u, e = .returned u ∧ (∃ ao cap, u = .slice ao (cabN d0 d1 d2 bx t0 t1 t2) cap) ∧ Below w1.heap.size w1 W') := fun w1 v h => (all_calls w1 h (by unfold cabsW; rw [setOf_len]; omega)).mono (by
    rintro e W' ⟨u, rfl, hl, hB⟩
    obtain ⟨ao, cap, e, _⟩ := hl.view
    refine ⟨u, rfl, ⟨ao, cap, ?_⟩, hB⟩
    rw [e, all_len, cabN, manyR_in (cabsW_err hd bx t0 t1 t2)])
  have HR : Hid (scoreS d0 d1 d2 (inN (midW d0 d1 d2 bx)) (inN a) (cabN d0 d1 d2 bx t0 t1 t2) = 2 * openS d0 d1 d2 (inN (midW d0 d1 d2 bx)) (fun m => !inN a m && !inN (midW d0 d1 d2 bx) m) + cabN d0 d1 d2 bx t0 t1 t2) := rfl
  have hob := open_bd hd (inN (midW d0 d1 d2 bx)) (fun m => !inN a m && !inN (midW d0 d1 d2 bx) m)
  have hcb := cabN_bd hd bx t0 t1 t2
  obtain ⟨ao, ca, rfl, _⟩ := ha.view
  clear ha hd hp hN
  generalize a.length = na at *
  generalize scoreS d0 d1 d2 (inN (midW d0 d1 d2 bx)) (inN a) (cabN d0 d1 d2 bx t0 t1 t2) = Z at *
  generalize openS d0 d1 d2 (inN (midW d0 d1 d2 bx)) (fun m => !inN a m && !inN (midW d0 d1 d2 bx) m) = R at *
  generalize trL (fun m => !inN a m && !inN (midW d0 d1 d2 bx) m) (d0 * d1 * d2).toNat = LB at *
  generalize trL (inN a) (d0 * d1 * d2).toNat = LA at *
  generalize trL (inN (midW d0 d1 d2 bx)) (d0 * d1 * d2).toNat = LO at *
  generalize cabN d0 d1 d2 bx t0 t1 t2 = cn at *
  generalize midW d0 d1 d2 bx = S at *
  generalize cabsW d0 d1 d2 bx t0 t1 t2 = S' at *
  obtain ⟨wz, hwz, hT, b0, b1⟩ := two_start w #[I d0, I d1, I d2] (C9 bx t0 t1 t2) 23 30
  have HWz : Hid ((w.alloc (.cells #[I d0, I d1, I d2] 23)).alloc (.cells (C9 bx t0 t1 t2) 30) = wz) := hwz
  rw [← hwz] at b0 b1
  obtain ⟨e0, e1, e2, ez⟩ := b0.three (Below.refl _ _)
  obtain ⟨⟨x0, x1, x2⟩, ⟨x3, x4, x5⟩, ⟨x6, x7, x8⟩, xz⟩ := b1.nine (Below.refl _ _)
  rw [hwz] at b0
  clear hwz b1
  go_enter Tryz.func18, Tryz.ntmps18
  go_wp2_with fail
  rw [HWz.out]
  refine (HTk.out _).mono ?_
  rintro e w1 ⟨u, v, rfl, hu, hv, hB⟩
  replace b0 := b0.later hB
  replace hT := then_below hT hB
  replace hu := hu.wds
  replace hv := hv.wds
  obtain ⟨uo, uc, rfl, hu0⟩ := hu.view
  obtain ⟨vo, vc, rfl, hv0⟩ := hv.view
  clear hB e0 e1 e2 ez x0 x1 x2 x3 x4 x5 x6 x7 x8 xz HTk HWz hu0 hv0
  have HTu := HTo.out w1 _ hu
  clear HTo hu
  generalize S.length = ns at *
  generalize hns : S'.length = ns' at *
  clear hns
  obtain ⟨e0, e1, e2, ez⟩ := b0.three (Below.refl _ _)
  go_wp2_with fail
  refine HTu.mono ?_
  rintro e w2 ⟨o, rfl, ho, hB⟩
  replace b0 := b0.later hB
  replace hT := then_below hT hB
  replace hv := hv.later hB
  obtain ⟨oo, oc, rfl, ho0⟩ := ho.view
  clear hB e0 e1 e2 ez HTu ho0
  have HB0 : Hid (Blk w2 w.heap.size 23 #[I d0, I d1, I d2] ∧ Below w.heap.size w w2 ∧ Bo w2 0 (.slice oo LO.length oc) LO ∧ Wds w2 (.slice vo ns' vc) S') := ⟨b0, hT, ho.weak (Nat.zero_le _), hv⟩
  clear b0 hT ho hv
  generalize hno : LO.length = no at *
  clear hno
  go_wp2_with fail
  refine wp_region_loud3 (w0 := w2) 12 (wordSc d0 d1 d2 (.slice oo no oc) (.slice ao na ca) (.slice vo ns' vc) LA LB R cn) mixed (by kernel_rfl) wordSc_later ?_ ?_
  · intro i op hi a' w' hTT hL hpre
    have s3 : a'.tmps.getD 3 undef = .pointer (some ⟨w.heap.size, 0, none⟩) := by
      rw [Array.getD_eq_getD_getElem?, hL.out 3 (of_decide_eq_true (by kernel_rfl))]; rfl
    have s2 : a'.tmps.getD 2 undef = .slice ao na ca := by
      rw [Array.getD_eq_getD_getElem?, hL.out 2 (of_decide_eq_true (by kernel_rfl))]; rfl
    have s8 : a'.tmps.getD 8 undef = .slice vo ns' vc := by
      rw [Array.getD_eq_getD_getElem?, hL.out 8 (of_decide_eq_true (by kernel_rfl))]; rfl
    have s9 : a'.tmps.getD 9 undef = .slice oo no oc := by
      rw [Array.getD_eq_getD_getElem?, hL.out 9 (of_decide_eq_true (by kernel_rfl))]; rfl
    obtain ⟨c0, c1, c2, hz⟩ := HB0.out.1.three hTT
    have hTw : Below w.heap.size w w' := then_below HB0.out.2.1 hTT
    have hbo : Bo w' 0 (.slice oo no oc) LO := HB0.out.2.2.1.later hTT
    have hwv : Wds w' (.slice vo ns' vc) S' := HB0.out.2.2.2.later hTT
    clear hL
    match i, hi with
    | 0, hi =>
      obtain rfl := Option.some.inj hi
      refine .inl ⟨A3 d0 d1 d2, ?_, rfl⟩
      simp [execOp, go_sem, Act.eval, s3, c0, c1, c2]
    | 1, hi =>
      obtain rfl := Option.some.inj hi
      refine .inl ⟨_, ?_, rfl⟩
      simp [execOp, go_sem, Act.eval, s9]
    | 2, hi =>
      obtain rfl := Option.some.inj hi
      refine .inl ⟨A3 d0 d1 d2, ?_, rfl⟩
      simp [execOp, go_sem, Act.eval, s3, c0, c1, c2]
    | 3, hi =>
      obtain rfl := Option.some.inj hi
      refine .inl ⟨_, ?_, rfl⟩
      simp [execOp, go_sem, Act.eval, s2]
    | 4, hi =>
      obtain rfl := Option.some.inj hi
      have p0 : a'.tmps.getD 21 undef = A3 d0 d1 d2 := hpre ⟨2, .data⟩ (by simp) rfl
      have p1 : a'.tmps.getD 22 undef = .slice ao na ca := hpre ⟨3, .data⟩ (by simp) rfl
      refine .inr ⟨14, #[A3 d0 d1 d2, .slice ao na ca], ?_, ?_⟩
      · simp [go_sem, Act.eval, p0, p1]
      · refine (HTa.out _ hTw).mono ?_
        rintro e w'' ⟨u, rfl, hl, hB⟩
        exact ⟨_, rfl, hB, hl.weak (Nat.zero_le _)⟩
    | 5, hi =>
      obtain rfl := Option.some.inj hi
      refine .inl ⟨_, ?_, rfl⟩
      simp [execOp, go_sem, Act.eval, s9]
    | 6, hi =>
      obtain rfl := Option.some.inj hi
      have p0 : Bo w' 0 (a'.tmps.getD 23 undef) LA := hpre ⟨4, .data⟩ (by simp) rfl
      have p1 : a'.tmps.getD 24 undef = .slice oo no oc := hpre ⟨5, .data⟩ (by simp) rfl
      refine .inr ⟨19, #[a'.tmps.getD 23 undef, .slice oo no oc], ?_, ?_⟩
      · simp [go_sem, Act.eval, p1]
      · refine (HNo.out w' _ _ p0 hbo).mono ?_
        rintro e w'' ⟨u, rfl, hl, hB⟩
        exact ⟨_, rfl, hB, hl.weak (Nat.zero_le _)⟩
    | 7, hi =>
      obtain rfl := Option.some.inj hi
      have p0 : a'.tmps.getD 19 undef = A3 d0 d1 d2 := hpre ⟨0, .data⟩ (by simp) rfl
      have p1 : a'.tmps.getD 20 undef = .slice oo no oc := hpre ⟨1, .data⟩ (by simp) rfl
      have p2 : Bo w' 0 (a'.tmps.getD 25 undef) LB := hpre ⟨6, .data⟩ (by simp) rfl
      refine .inr ⟨13, #[A3 d0 d1 d2, .slice oo no oc, a'.tmps.getD 25 undef], ?_, ?_⟩
      · simp [go_sem, Act.eval, p0, p1]
      · refine (HCo.out w' _ _ hbo p2).mono ?_
        rintro e w'' ⟨rfl, hB⟩
        exact ⟨_, rfl, hB, rfl⟩
    | 8, hi =>
      obtain rfl := Option.some.inj hi
      have p0 : a'.tmps.getD 26 undef = I R := hpre ⟨7, .data⟩ (by simp) rfl
      refine .inl ⟨I (2 * R), ?_, rfl⟩
      simp [execOp, go_sem, Act.eval, p0]
      rw [IntKind.wrap_i64]
      omega
    | 9, hi =>
      obtain rfl := Option.some.inj hi
      refine .inl ⟨_, ?_, rfl⟩
      simp [execOp, go_sem, Act.eval, s8]
    | 10, hi =>
      obtain rfl := Option.some.inj hi
      have p0 : a'.tmps.getD 28 undef = .slice vo ns' vc := hpre ⟨9, .data⟩ (by simp) rfl
      refine .inr ⟨37, #[.slice vo ns' vc], ?_, ?_⟩
      · simp [go_sem, Act.eval, p0]
      · refine (HAl.out w' _ hwv).mono ?_
        rintro e w'' ⟨u, rfl, hl, hB⟩
        exact ⟨_, rfl, hB, hl⟩
    | 11, hi =>
      obtain rfl := Option.some.inj hi
      obtain ⟨ao2, cap2, p0⟩ : ∃ ao2 cap2, a'.tmps.getD 29 undef = .slice ao2 cn cap2 := hpre ⟨10, .data⟩ (by simp) rfl
      refine .inl ⟨I (cn : Int), ?_, rfl⟩
      simp [go_sem, Act.eval, p0]
    | n + 12, hi => simp at hi
  · intro vs w3 hT2 hall
    have h8 : vs 8 = I (2 * R) := hall 8 (by decide)
    have h11 : vs 11 = I (cn : Int) := hall 11 (by decide)
    clear hall
    simp only [List.take_succ_cons, List.take_zero, List.drop_succ_cons, List.drop_zero, List.length_cons, List.length_nil, Nat.zero_add, Nat.reduceAdd, List.range, List.range.loop, List.foldl_cons, List.foldl_nil, dstOf, List.getElem?_cons_zero, List.getElem?_cons_succ, Option.getD_some, Act.put, h8, h11, List.setIfInBounds_toArray, List.set_cons_succ, List.set_cons_zero]
    clear h8 h11
    generalize vs 0 = y0
    generalize vs 1 = y1
    generalize vs 2 = y2
    generalize vs 3 = y3
    generalize vs 4 = y4
    generalize vs 5 = y5
    generalize vs 6 = y6
    generalize vs 7 = y7
    generalize vs 9 = y9
    generalize vs 10 = y10
    clear vs
    have hT3 := then_below HB0.out.2.1 hT2
    refine wpListIn_value (loose_wide _) rfl (fun c e => by cases e) (v := I (2 * R + cn)) (w' := w3) (by simp [execOp, go_sem, Act.eval]; rw [IntKind.wrap_i64]; omega) ?_
    refine wpListIn_value (loose_wide _) rfl (fun c e => by cases e) (v := I (2 * R + cn)) (w' := w3) (by simp [execOp, go_sem, Act.eval, Act.put]) ?_
    simp only [wpListIn, Act.put, List.setIfInBounds_toArray, List.set_cons_succ, List.set_cons_zero]
    go_wp2
    go_ret
    exact ⟨by rw [HR.out]; rfl, hT3⟩

set_option maxRecDepth 100000 in
set_option maxHeartbeats 8000000 in
theorem rscof_calls {va : Value} {a : List Nat} (d0 d1 d2 : Int) (bx : Bx) (t0 t1 t2 : Bool) (w : World) (ha : Wds w va a) :
    Calls Tryz.prog 7 #[A3 d0 d1 d2, P9 bx t0 t1 t2, va] w fun e W' => e = .returned (.tuple #[I (ofV d0 d1 d2 bx t0 t1 t2 a), I (ofE d0 d1 d2 bx t0 t1 t2 a)]) ∧ Below w.heap.size w W' := by
  have HA : Hid (∀ w1, Below w.heap.size w w1 → Calls Tryz.prog 12 #[A3 d0 d1 d2, va] w1 fun e W' => e = .returned (.bool (decide (errK d0 d1 d2 [a] = 0))) ∧ Below w1.heap.size w1 W') := fun w1 h => rsmay_calls d0 d1 d2 w1 (ha.later h)
  have HC : Hid (∀ w, Calls Tryz.prog 17 #[A3 d0 d1 d2, P9 bx t0 t1 t2] w fun e W' => e = .returned (I (errP d0 d1 d2 bx t0 t1 t2)) ∧ Below w.heap.size w W') := fun w => rpcheck_calls d0 d1 d2 bx t0 t1 t2 w
  have HS : Hid (errP d0 d1 d2 bx t0 t1 t2 = 0 → ∀ w1, Below w.heap.size w w1 → Calls Tryz.prog 18 #[A3 d0 d1 d2, P9 bx t0 t1 t2, va] w1 fun e W' => e = .returned (I (scoreS d0 d1 d2 (inN (midW d0 d1 d2 bx)) (inN a) (cabN d0 d1 d2 bx t0 t1 t2))) ∧ Below w1.heap.size w1 W') := fun he w1 h => by
    rcases errP_cases d0 d1 d2 bx t0 t1 t2 with ⟨hd, hp, _⟩ | ⟨h1, _⟩
    · exact rscore_calls w1 hd hp (ha.later h)
    · rw [he] at h1; omega
  obtain ⟨ao, ca, rfl, _⟩ := ha.view
  clear ha
  generalize a.length = na at *
  obtain ⟨wz, hwz, hT, b0, b1⟩ := two_start w #[I d0, I d1, I d2] (C9 bx t0 t1 t2) 23 30
  have HWz : Hid ((w.alloc (.cells #[I d0, I d1, I d2] 23)).alloc (.cells (C9 bx t0 t1 t2) 30) = wz) := hwz
  have b0' := b0
  rw [← hwz] at b0'
  obtain ⟨e0, e1, e2, ez⟩ := b0'.three (Below.refl _ _)
  clear hwz b0'
  by_cases h0 : errK d0 d1 d2 [a] = 0
  · rw [h0, decide_eq_true rfl] at HA
    have hE : ofE d0 d1 d2 bx t0 t1 t2 a = errP d0 d1 d2 bx t0 t1 t2 := if_pos h0
    have hV : ofV d0 d1 d2 bx t0 t1 t2 a = if errP d0 d1 d2 bx t0 t1 t2 = 0 then scoreS d0 d1 d2 (inN (midW d0 d1 d2 bx)) (inN a) (cabN d0 d1 d2 bx t0 t1 t2) else 0 := by rw [ofV, hE]
    rw [hE, hV]
    clear hE hV h0
    generalize scoreS d0 d1 d2 (inN (midW d0 d1 d2 bx)) (inN a) (cabN d0 d1 d2 bx t0 t1 t2) = Z at *
    generalize errP d0 d1 d2 bx t0 t1 t2 = er at *
    by_cases h1 : er = 0
    · rw [if_pos h1]
      subst h1
      have HS' : Hid (∀ w1, Below w.heap.size w w1 → Calls Tryz.prog 18 #[A3 d0 d1 d2, P9 bx t0 t1 t2, .slice ao na ca] w1 fun e W' => e = .returned (I Z) ∧ Below w1.heap.size w1 W') := HS.out rfl
      clear HS
      go_enter Tryz.func7, Tryz.ntmps7
      go_wp2_with fail
      rw [HWz.out]
      refine (HA.out _ hT).mono ?_
      rintro e w1 ⟨rfl, hB⟩
      replace b0 := b0.later hB
      replace b1 := b1.later hB
      replace hT := then_below hT hB
      clear hB e0 e1 e2 ez HA HWz
      obtain ⟨e0, e1, e2, ez⟩ := b0.three (Below.refl _ _)
      obtain ⟨⟨x0, x1, x2⟩, ⟨x3, x4, x5⟩, ⟨x6, x7, x8⟩, xz⟩ := b1.nine (Below.refl _ _)
      go_wp2_with fail
      refine (HC.out _).mono ?_
      rintro e w2 ⟨rfl, hB⟩
      replace b0 := b0.later hB
      replace b1 := b1.later hB
      replace hT := then_below hT hB
      clear hB e0 e1 e2 ez x0 x1 x2 x3 x4 x5 x6 x7 x8 xz HC
      obtain ⟨e0, e1, e2, ez⟩ := b0.three (Below.refl _ _)
      obtain ⟨⟨x0, x1, x2⟩, ⟨x3, x4, x5⟩, ⟨x6, x7, x8⟩, xz⟩ := b1.nine (Below.refl _ _)
      go_wp2_with fail
      refine (HS'.out _ hT).mono ?_
      rintro e w3 ⟨rfl, hB⟩
      replace hT := then_below hT hB
      clear hB e0 e1 e2 ez x0 x1 x2 x3 x4 x5 x6 x7 x8 xz b0 b1 HS'
      go_wp2
      go_ret2
      exact ⟨rfl, hT⟩
    · rw [if_neg h1]
      have hne : (er != 0) = true := by simpa using h1
      clear h1 HS
      go_enter Tryz.func7, Tryz.ntmps7
      go_wp2_with fail
      rw [HWz.out]
      refine (HA.out _ hT).mono ?_
      rintro e w1 ⟨rfl, hB⟩
      replace b0 := b0.later hB
      replace b1 := b1.later hB
      replace hT := then_below hT hB
      clear hB e0 e1 e2 ez HA HWz
      obtain ⟨e0, e1, e2, ez⟩ := b0.three (Below.refl _ _)
      obtain ⟨⟨x0, x1, x2⟩, ⟨x3, x4, x5⟩, ⟨x6, x7, x8⟩, xz⟩ := b1.nine (Below.refl _ _)
      go_wp2_with fail
      refine (HC.out _).mono ?_
      rintro e w2 ⟨rfl, hB⟩
      replace hT := then_below hT hB
      clear hB e0 e1 e2 ez x0 x1 x2 x3 x4 x5 x6 x7 x8 xz HC b0 b1
      go_wp2
      go_ret2
      exact ⟨rfl, hT⟩
  · rw [decide_eq_false h0] at HA
    have hE : ofE d0 d1 d2 bx t0 t1 t2 a = 8 := if_neg h0
    have hV : ofV d0 d1 d2 bx t0 t1 t2 a = 0 := by rw [ofV, hE]; rfl
    rw [hE, hV]
    clear hE hV h0 HS HC
    go_enter Tryz.func7, Tryz.ntmps7
    go_wp2_with fail
    rw [HWz.out]
    refine (HA.out _ hT).mono ?_
    rintro e w1 ⟨rfl, hB⟩
    replace hT := then_below hT hB
    clear hB e0 e1 e2 ez HA HWz b0 b1
    go_wp2
    go_ret2
    exact ⟨rfl, hT⟩

end Go.Proofs.YtbedhpooeabehaaGreatDoor

/-
  A set among the arguments: as it came in, and a copy of it.
-/
namespace Go.Proofs.YtbedhpooeabehaaGreatDoor
open Go Go.RowKit Go.Shelf

/-- A row of words that came in. -/
def ArgW (W : World) (v : Value) (ws : List Nat) : Prop := Wds W v ws ∧ (v = .slice none 0 0 ∨ ∃ ad cap, v = .slice (some ad) ws.length cap)
def ArgI (W : World) (v : Value) (xs : List Int) : Prop := Its W v xs ∧ (v = .slice none 0 0 ∨ ∃ ad cap, v = .slice (some ad) xs.length cap)

theorem owns_wds {W : World} {base : Nat} {v : Value} {ws : List Nat} (hw : ∀ x ∈ ws, x < 18446744073709551616) (h : W.ownsRow base 80 1 v ws.length (ws.map U)) : Wds W v ws := by
  obtain ⟨h1, h2⟩ := h
  refine ⟨hw, ?_⟩
  rcases h2 with ⟨rfl, hn⟩ | ⟨g, cap, cur, rfl, hg, hh, hc, hc2, hs, ht⟩
  · have : ws = [] := List.length_eq_zero_iff.1 hn
    subst this
    exact Sl.nil W
  · refine ⟨_, cap, by simp, fun k hk => ⟨g, 0, rfl, (Array.getElem?_eq_some_iff.1 hh).1, ?_⟩⟩
    have hb : Blk W g 80 cur := hh
    rw [Nat.zero_add, hb.cell k]
    have := congrArg (fun l => l[k]?) ht
    simp only [Nat.mul_one] at this
    rw [List.length_map] at hk
    rw [List.getElem?_take_of_lt hk, Array.getElem?_toList] at this
    exact this

/-- 'own = append(own, s...)', own nil. -/
theorem wpList_copy {ops : Array Oper} {rest : List Oper} {o : Oper} {a : Act} {Q : Exit → Act → World → Prop} {W : World} {v : Value} {ws : List Nat} (hgd : o.guard = none) (s x : Operand)
    (ho : o.op = .call { callee := .builtin .append, args := #[s, x], argTypes := #[25, 25] }) (hs : a.eval s = .slice none 0 0) (hx : a.eval x = v)
    (hA : ArgW W v ws) (hl : ws.length ≤ 1000)
    (h : ∀ v' w', Wds w' v' ws → Below W.heap.size W w' → wpList Tryz.prog ops Q rest (a.put o.dst v') w') : wpList Tryz.prog ops Q (o :: rest) a W := by
  obtain ⟨i0, hi, hz0, hz1, hz2⟩ := info_parts info_u64
  obtain ⟨hW, rfl | ⟨ad, cap, rfl⟩⟩ := hA
  · have e : ws = [] := by
      obtain ⟨ao, c, e, _⟩ := hW.view
      simp only [Value.slice.injEq] at e
      exact List.length_eq_zero_iff.1 e.2.1.symm
    subst e
    exact wpList_append_own_none hgd s x 25 ho W.heap.size 80 i0 1 Tryz.underlying25 hi (.slice none 0 0) 0 [] hs (World.ownsRow_nil _ _ _ _) hx (h _ _ (Wds.nil W) (Below.refl _ _))
  · refine wpList_append_own (w := W) hgd s x 25 ho W.heap.size 80 i0 (.int .u64 0) 1 8 Tryz.underlying25 hi hz0 hz1 hz2 rfl (by decide) (.slice none 0 0) 0 [] hs (World.ownsRow_nil _ _ _ _) ad ws.length cap (ws.map U) hx (by simp) ?_ ?_ ?_ ?_ ?_ ?_
    · intro j u hj
      obtain ⟨ao, c, e, hv⟩ := hW.view
      simp only [Value.slice.injEq] at e
      obtain ⟨rfl, -, -⟩ := e
      have hjl : j < ws.length := by
        have := (List.getElem?_eq_some_iff.1 hj).1
        simpa using this
      obtain ⟨g, off, e, hg, hc⟩ := hv j hjl
      simp only [Option.some.injEq] at e
      subst e
      have : (⟨g, off, none⟩ : Addr).add j = ⟨g, off + j, none⟩ := by
        unfold Addr.add
        split
        · rename_i h0; subst h0; rfl
        · rfl
      rw [this, hc, ← hj]
      simp [hjl]
    · intro u hu
      obtain ⟨y, _, rfl⟩ := List.mem_map.1 hu
      rfl
    · unfold maxLen; omega
    · omega
    · omega
    · intro v' w1 hown' hgrow _
      refine h v' w1 (owns_wds hW.1 (by simpa using hown')) ?_
      exact (Below.refl _ W).grown hgrow (Nat.le_refl _) (fun k hk => by cases hk)

end Go.Proofs.YtbedhpooeabehaaGreatDoor
