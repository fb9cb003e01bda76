/-
  cal.Put: what it answers.
-/
import Derived.Test.YtldcagjnngkabaaGreatDoorPart5
import Derived.Test.YtldcagjnngkabaaGreatDoorPart6
import Derived.Test.YtldcagjnngkabaaGreatDoorPart3
namespace Go.Proofs.YtldcagjnngkabaaGreatDoor
open Go Go.RowKit Go.Shelf

attribute [local go_sem] Oper.semAt_some ext_const

/-- A list without its first ones. -/
theorem Ss.drop {W : World} {ao : Option Addr} {n cap : Nat} {xs : List Slt} (h : Ss W (.slice ao n cap) xs) {l : Nat} (hl : l ≤ xs.length) : Ss W (sliced ao l n cap 3) (xs.drop l) := by
  obtain ⟨ao', cap', e, hc, hn, hv⟩ := h
  simp only [Value.slice.injEq] at e
  obtain ⟨rfl, rfl, rfl⟩ := e
  refine ⟨_, _, by unfold sliced; rw [List.length_drop], by rw [List.length_drop]; omega, ?_, fun k hk => ?_⟩
  · split
    · intro _; omega
    · intro h0
      have : ao = none := by simpa using h0
      have := hn this
      omega
  · rw [List.length_drop] at hk
    obtain ⟨g, off, rfl, ha⟩ := hv (l + k) (by omega)
    refine ⟨g, off + l * 3, ?_, ?_⟩
    · rw [if_neg (by omega)]
      simp only [Option.map_some, Option.some.injEq]
      unfold Addr.add
      split
      · rename_i h0; rw [h0]; rfl
      · rfl
    · have e1 : (xs.drop l).getD k (0, 0, 0) = xs.getD (l + k) (0, 0, 0) := by simp [List.getD_eq_getElem?_getD, List.getElem?_drop]
      rw [e1, show off + l * 3 + k * 3 = off + (l + k) * 3 by omega]
      exact ha
theorem Ss.one {W : World} {B : Nat} {t : TypeId} {f x o : Int} (h : Blk W B t (C3 f x o)) : Ss W (.slice (some ⟨B, 0, none⟩) 1 1) [(f, x, o)] :=
  ⟨_, 1, rfl, Nat.le_refl _, fun h => (by cases h), fun k hk => ⟨B, 0, rfl, by
    have : k = 0 := by simpa using hk
    subst this
    exact h.at3⟩⟩

def wordU (vA vC vD : Value) (nA : Nat) (f t o : Int) (base : Nat) (ys : List Slt) : Nat → Value → World → Prop
  | 0, v, _ => v = vA
  | 1, v, _ => v = V3 f t o
  | 2, v, w => ∃ B, v = .slice (some ⟨B, 0, none⟩) 1 1 ∧ Blk w B 85 (C3 f t o)
  | 3, v, _ => v = vC
  | 4, v, _ => v = vA
  | 5, v, _ => v = I nA
  | 6, v, _ => v = vD
  | 7, v, w => ∃ G B, v = .slice (some ⟨G, 0, none⟩) 3 3 ∧ Blk w G 79 #[vA, .slice (some ⟨B, 0, none⟩) 1 1, vD] ∧ Blk w B 85 (C3 f t o)
  | 8, v, w => So w base v ys
  | 9, v, w => So w base v ys
  | _, v, _ => v = I 0
theorem wordU_later (vA vC vD : Value) (nA : Nat) (f t o : Int) (base : Nat) (ys : List Slt) : ∀ i v w w', wordU vA vC vD nA f t o base ys i v w → Below w.heap.size w w' → wordU vA vC vD nA f t o base ys i v w' := by
  intro i v w w' h hb
  match i with
  | 0 => exact h
  | 1 => exact h
  | 2 => obtain ⟨B, e, k⟩ := h; exact ⟨B, e, k.later hb⟩
  | 3 => exact h
  | 4 => exact h
  | 5 => exact h
  | 6 => exact h
  | 7 => obtain ⟨G, B, e, k, k2⟩ := h; exact ⟨G, B, e, k.later hb, k2.later hb⟩
  | 8 => exact So.later h hb
  | 9 => exact So.later h hb
  | n + 10 => exact h

/-- What Put answers. -/
def putE (xs : List Slt) (s : Slt) : Int := if mayCB xs then (if maySlB s then (if clearC xs s.1 s.2.1 then (if xs.length = 4096 then 4 else 0) else 80) else 2) else 8

theorem maySlB_no {s : Slt} (h : ¬ maySl s) : maySlB s = false := by
  cases e : maySlB s
  · rfl
  · exact absurd (maySlB_iff.1 e) h

set_option maxRecDepth 100000 in
set_option maxHeartbeats 8000000 in
theorem cput_err {xs : List Slt} {v : Value} {f t o : Int} (w : World) (hS : Ss w v xs) (hne : putE xs (f, t, o) ≠ 0) : Calls Tryz.prog 53 #[v, V3 f t o] w fun e W' => e = .returned (.tuple #[.slice none 0 0, I (putE xs (f, t, o))]) ∧ Below w.heap.size w W' := by
  obtain ⟨ao, cap, rfl, hS⟩ := hS.form
  obtain ⟨W, hW, hB, hK⟩ := one_start w (C3 f t o) 85
  have HW : Hid (w.alloc (.cells (C3 f t o) 85) = W) := hW
  have HS : Hid (Ss W (.slice ao xs.length cap) xs) := hS.later hB
  have HM : Hid (∀ w, Calls Tryz.prog 91 #[V3 f t o] w fun e W' => e = .returned (.bool (maySlB (f, t, o))) ∧ Below w.heap.size w W') := cmay_calls f t o
  clear hS hW
  by_cases hm : mayC xs
  · have em := mayCB_iff.2 hm
    have HC := chk_yes (v := .slice ao xs.length cap) hm
    by_cases hs : maySl (f, t, o)
    · have es := maySlB_iff.2 hs
      rw [es] at HM
      have HF : Hid (∀ w, Ss w (.slice ao xs.length cap) xs → Calls Tryz.prog 92 #[.slice ao xs.length cap, S2 f t] w fun e W' => e = .returned (.bool (clearC xs f t)) ∧ Below w.heap.size w W') := fun w h => free_calls w h (by have := hm.2.2; omega) hm.1 hs.1
      cases hc : clearC xs f t
      · rw [show putE xs (f, t, o) = 80 by simp [putE, em, es, hc]]
        rw [hc] at HF
        clear hm em hs es hne hc
        go_enter Tryz.func53, Tryz.ntmps53
        go_wp2_with fail
        rw [HW.out]
        refine (HC.out _ HS.out).mono ?_
        rintro e w1 ⟨rfl, hT⟩
        obtain ⟨hz, c0, c1, c2⟩ := (hK.later hT).at3.cells
        go_wp2_with fail
        refine (HM.out _).mono ?_
        rintro e w2 ⟨rfl, hB2⟩
        have hT2 := then_below hT hB2
        clear hz c0 c1 c2
        obtain ⟨hz, c0, c1, c2⟩ := (hK.later hT2).at3.cells
        go_wp2_with fail
        refine (HF.out _ (HS.out.later hT2)).mono ?_
        rintro e w3 ⟨rfl, hB3⟩
        go_wp2
        go_ret2
        exact ⟨rfl, then_below hB (then_below hT2 hB3)⟩
      · by_cases hl : xs.length = 4096
        · rw [show putE xs (f, t, o) = 4 by simp [putE, em, es, hc, hl]]
          rw [hc] at HF
          rw [hl] at HC HS HF ⊢
          clear hm em hs es hne hc hl
          go_enter Tryz.func53, Tryz.ntmps53
          go_wp2_with fail
          rw [HW.out]
          refine (HC.out _ HS.out).mono ?_
          rintro e w1 ⟨rfl, hT⟩
          obtain ⟨hz, c0, c1, c2⟩ := (hK.later hT).at3.cells
          go_wp2_with fail
          refine (HM.out _).mono ?_
          rintro e w2 ⟨rfl, hB2⟩
          have hT2 := then_below hT hB2
          clear hz c0 c1 c2
          obtain ⟨hz, c0, c1, c2⟩ := (hK.later hT2).at3.cells
          go_wp2_with fail
          refine (HF.out _ (HS.out.later hT2)).mono ?_
          rintro e w3 ⟨rfl, hB3⟩
          go_wp2
          go_ret2
          exact ⟨rfl, then_below hB (then_below hT2 hB3)⟩
        · exfalso
          apply hne
          simp [putE, em, es, hc, hl]
    · have es := maySlB_no hs
      rw [show putE xs (f, t, o) = 2 by simp [putE, em, es]]
      rw [es] at HM
      clear hm em hs es hne
      go_enter Tryz.func53, Tryz.ntmps53
      go_wp2_with fail
      rw [HW.out]
      refine (HC.out _ HS.out).mono ?_
      rintro e w1 ⟨rfl, hT⟩
      obtain ⟨hz, c0, c1, c2⟩ := (hK.later hT).at3.cells
      go_wp2_with fail
      refine (HM.out _).mono ?_
      rintro e w2 ⟨rfl, hB2⟩
      go_wp2
      go_ret2
      exact ⟨rfl, then_below hB (then_below hT hB2)⟩
  · have em : mayCB xs = false := by cases e : mayCB xs; rfl; exact absurd (mayCB_iff.1 e) hm
    have HC := chk_no (v := .slice ao xs.length cap) hm
    rw [show putE xs (f, t, o) = 8 by simp [putE, em]]
    clear hm em hne
    go_enter Tryz.func53, Tryz.ntmps53
    go_wp2_with fail
    rw [HW.out]
    refine (HC.out _ HS.out).mono ?_
    rintro e w1 ⟨rfl, hT⟩
    go_wp2
    go_ret2
    exact ⟨rfl, then_below hB hT⟩

set_option maxRecDepth 100000 in
set_option maxHeartbeats 8000000 in
theorem cput_yes {xs : List Slt} {v : Value} {f t o : Int} (w : World) (hS : Ss w v xs) (hm : mayC xs) (hs : maySl (f, t, o)) (hc : clearC xs f t = true) (hl : xs.length < 4096) : Calls Tryz.prog 53 #[v, V3 f t o] w fun e W' => ∃ u, e = .returned (.tuple #[u, I 0]) ∧ So W' w.heap.size u (withC (f, t, o) xs) ∧ Below w.heap.size w W' := by
  have hmx : Tryz.prog.follows .mixedOrders = true := by kernel_rfl
  obtain ⟨ao, cap, rfl, hS⟩ := hS.form
  obtain ⟨W, hW, hB, hK⟩ := one_start w (C3 f t o) 85
  have HW : Hid (w.alloc (.cells (C3 f t o) 85) = W) := hW
  have HS : Hid (Ss W (.slice ao xs.length cap) xs) := hS.later hB
  have HM : Hid (∀ w, Calls Tryz.prog 91 #[V3 f t o] w fun e W' => e = .returned (.bool true) ∧ Below w.heap.size w W') := fun w => by rw [← maySlB_iff.2 hs]; exact cmay_calls f t o w
  have HC := chk_yes (v := .slice ao xs.length cap) hm
  have HF : Hid (∀ w, Ss w (.slice ao xs.length cap) xs → Calls Tryz.prog 92 #[.slice ao xs.length cap, S2 f t] w fun e W' => e = .returned (.bool true) ∧ Below w.heap.size w W') := fun w h => by rw [← hc]; exact free_calls w h (by omega) hm.1 hs.1
  have HE : Hid (xs.filterMap (putK f) ++ [(f, t, o)] ++ xs.drop (xs.filterMap (putK f)).length = withC (f, t, o) xs) := putK_with (s := (f, t, o)) hs.1.2.1 hm.2.1 (mayC_fine hm) ((clearC_iff (mayC_fine hm) hs.1.2.1).1 hc)
  have HKP : Hid (∀ w1, Below W.heap.size W w1 → Calls Tryz.prog 93 #[.slice ao xs.length cap, .func (.func 94) #[] #[.pointer (some ⟨w.heap.size, 0, none⟩)]] w1 fun e W' => ∃ u, e = .returned u ∧ So W' w1.heap.size u (xs.filterMap (putK f)) ∧ Below w1.heap.size w1 W') := fun w1 hT => by
    refine keep_put w1 w.heap.size (HS.out.later hT) (by omega) ?_
    intro wr f' t' o' hB'
    refine (putc_calls (r := decide (t' ≤ f)) rfl (hK.later (then_below hT hB'))).mono ?_
    rintro e W' ⟨rfl, hb⟩
    exact ⟨f', t', o', decide (t' ≤ f), rfl, fun hr => by show putK f (f', t', o') = _; rw [putK, if_pos (of_decide_eq_true hr)], fun hr => by show putK f (f', t', o') = _; rw [putK, if_neg (of_decide_eq_false hr)], hb⟩
  have hal : (xs.filterMap (putK f)).length ≤ xs.length := List.length_filterMap_le _ _
  have hln : ((xs.length : Int) == 4096) = false := by simp; omega
  generalize withC (f, t, o) xs = tgt at *
  generalize xs.filterMap (putK f) = bs at *
  clear hm hs hc hS hW
  go_enter Tryz.func53, Tryz.ntmps53
  go_wp2_with fail
  rw [HW.out]
  refine (HC.out _ HS.out).mono ?_
  rintro e w1 ⟨rfl, hT⟩
  obtain ⟨hz, c0, c1, c2⟩ := (hK.later hT).at3.cells
  go_wp2_with fail
  refine (HM.out _).mono ?_
  rintro e w2 ⟨rfl, hB2⟩
  have hT2 := then_below hT hB2
  clear hz c0 c1 c2
  obtain ⟨hz, c0, c1, c2⟩ := (hK.later hT2).at3.cells
  go_wp2_with fail
  refine (HF.out _ (HS.out.later hT2)).mono ?_
  rintro e w3 ⟨rfl, hB3⟩
  have hT3 := then_below hT2 hB3
  clear hz c0 c1 c2
  go_wp2_with fail
  refine (HKP.out _ hT3).mono ?_
  rintro e w4 ⟨u, rfl, hO, hB4⟩
  have hT4 := then_below hT3 hB4
  obtain ⟨aA, cA, rfl, hA⟩ := hO.ss.form
  have hK4 := hK.later hT4
  have hS4 := HS.out.later hT4
  have HD : Hid (Ss w4 (sliced ao bs.length xs.length cap 3) (xs.drop bs.length)) := hS4.drop hal
  have hB5 := then_below hB hT4
  clear hO hB2 hB3 hB4 hT hT2 hT3
  go_wp2
  refine wp_region_loud2 (w0 := w4) (wordU (.slice aA bs.length cA) (.slice ao xs.length cap) (sliced ao bs.length xs.length cap 3) bs.length f t o w.heap.size tgt) hmx (by kernel_rfl) (wordU_later _ _ _ _ _ _ _ _ _) ?_ ?_
  · intro i op hi a w' hT' hL hpre
    have t0 : a.tmps.getD 0 undef = .slice ao xs.length cap := by
      rw [Array.getD_eq_getD_getElem?, hL.out 0 (of_decide_eq_true (by kernel_rfl))]; rfl
    have t3 : a.tmps.getD 3 undef = .pointer (some ⟨w.heap.size, 0, none⟩) := by
      rw [Array.getD_eq_getD_getElem?, hL.out 3 (of_decide_eq_true (by kernel_rfl))]; rfl
    have t7 : a.tmps.getD 7 undef = .slice aA bs.length cA := by
      rw [Array.getD_eq_getD_getElem?, hL.out 7 (of_decide_eq_true (by kernel_rfl))]; rfl
    obtain ⟨hz, c0, c1, c2⟩ := (hK4.later hT').at3.cells
    clear hL
    match i, hi with
    | 0, hi =>
      obtain rfl := Option.some.inj hi
      refine .inl ⟨.slice aA bs.length cA, w', ?_, Below.refl _ _, rfl⟩
      simp [execOp, go_sem, Act.eval, t7]
    | 1, hi =>
      obtain rfl := Option.some.inj hi
      refine .inl ⟨V3 f t o, w', ?_, Below.refl _ _, rfl⟩
      simp [execOp, go_sem, Act.eval, t3, c0, c1, c2]
    | 2, hi =>
      obtain rfl := Option.some.inj hi
      have p1 : a.tmps.getD 28 undef = V3 f t o := hpre ⟨1, .data⟩ (by simp) rfl
      refine .inl ⟨.slice (some ⟨w'.heap.size, 0, none⟩) 1 1, w'.alloc (.cells (C3 f t o) 85), ?_, (Below.refl _ _).alloc (Nat.le_refl _) _, _, rfl, Blk.new w' _ _⟩
      rw [Array.getD_eq_getD_getElem?] at p1
      simp [execOp, go_sem, Act.eval, p1]
    | 3, hi =>
      obtain rfl := Option.some.inj hi
      refine .inl ⟨.slice ao xs.length cap, w', ?_, Below.refl _ _, rfl⟩
      simp [execOp, go_sem, Act.eval, t0]
    | 4, hi =>
      obtain rfl := Option.some.inj hi
      refine .inl ⟨.slice aA bs.length cA, w', ?_, Below.refl _ _, rfl⟩
      simp [execOp, go_sem, Act.eval, t7]
    | 5, hi =>
      obtain rfl := Option.some.inj hi
      have p1 : a.tmps.getD 31 undef = .slice aA bs.length cA := hpre ⟨4, .data⟩ (by simp) rfl
      refine .inl ⟨I bs.length, w', ?_, Below.refl _ _, rfl⟩
      simp [go_sem, Act.eval, p1]
    | 6, hi =>
      obtain rfl := Option.some.inj hi
      have p1 : a.tmps.getD 30 undef = .slice ao xs.length cap := hpre ⟨3, .data⟩ (by simp) rfl
      have p2 : a.tmps.getD 32 undef = I bs.length := hpre ⟨5, .data⟩ (by simp) rfl
      refine .inl ⟨sliced ao bs.length xs.length cap 3, w', ?_, Below.refl _ _, rfl⟩
      clear hpre hK4 hS4 HD HKP HE HF HC HM HS HW
      have hle : (bs.length : Int) ≤ (xs.length : Int) := by omega
      simp [execOp, go_sem, Act.eval, p1, p2, hle]
    | 7, hi =>
      obtain rfl := Option.some.inj hi
      have p1 : a.tmps.getD 27 undef = .slice aA bs.length cA := hpre ⟨0, .data⟩ (by simp) rfl
      obtain ⟨B, p2, hb⟩ : ∃ B, a.tmps.getD 29 undef = .slice (some ⟨B, 0, none⟩) 1 1 ∧ Blk w' B 85 (C3 f t o) := hpre ⟨2, .data⟩ (by simp) rfl
      have p3 : a.tmps.getD 33 undef = sliced ao bs.length xs.length cap 3 := hpre ⟨6, .data⟩ (by simp) rfl
      refine .inl ⟨.slice (some ⟨w'.heap.size, 0, none⟩) 3 3, w'.alloc (.cells #[.slice aA bs.length cA, .slice (some ⟨B, 0, none⟩) 1 1, sliced ao bs.length xs.length cap 3] 79), ?_, (Below.refl _ _).alloc (Nat.le_refl _) _, _, B, rfl, Blk.new w' _ _, hb.alloc _⟩
      unfold sliced at p3 ⊢
      rw [Array.getD_eq_getD_getElem?] at p1 p2 p3
      simp [execOp, go_sem, Act.eval, p1, p2, p3]
    | 8, hi =>
      obtain rfl := Option.some.inj hi
      obtain ⟨G, B, p1, hG, hb⟩ : ∃ G B, a.tmps.getD 34 undef = .slice (some ⟨G, 0, none⟩) 3 3 ∧ Blk w' G 79 #[.slice aA bs.length cA, .slice (some ⟨B, 0, none⟩) 1 1, sliced ao bs.length xs.length cap 3] ∧ Blk w' B 85 (C3 f t o) := hpre ⟨7, .data⟩ (by simp) rfl
      refine .inr ⟨95, #[.slice (some ⟨G, 0, none⟩) 3 3], ?_, ?_⟩
      · simp [go_sem, Act.eval, p1]
      · refine (concat_calls (xs1 := bs) (xs2 := [(f, t, o)]) (xs3 := xs.drop bs.length) hG (hA.later hT') (Ss.one hb) (HD.out.later hT') (by omega) (by omega)).mono ?_
        rintro e w'' ⟨u, rfl, hO, hB'⟩
        refine ⟨_, rfl, hB', ?_⟩
        rw [HE.out] at hO
        exact hO.weak (Nat.le_trans hB5.size hT'.size)
    | 9, hi =>
      obtain rfl := Option.some.inj hi
      have p1 : So w' w.heap.size (a.tmps.getD 35 undef) tgt := hpre ⟨8, .data⟩ (by simp) rfl
      refine .inl ⟨a.tmps.getD 35 undef, w', ?_, Below.refl _ _, p1⟩
      simp [execOp, go_sem, Act.eval]
    | 10, hi =>
      obtain rfl := Option.some.inj hi
      refine .inl ⟨I 0, w', ?_, Below.refl _ _, rfl⟩
      simp [execOp, go_sem, Act.eval]
    | n + 11, hi => simp at hi
  · intro vv w5 hT5 hw
    have e9 : So w5 w.heap.size (vv 9) tgt := hw 9 (by decide)
    have e10 : vv 10 = I 0 := hw 10 (by decide)
    have HO : Hid (So w5 w.heap.size (vv 9) tgt) := e9
    have HB5 : Hid (Below w.heap.size w w5) := then_below hB5 hT5
    clear e9 hw hT5
    simp only [List.length_cons, List.length_nil, Nat.zero_add, Nat.reduceAdd, List.range, List.range.loop, List.foldl_cons, List.foldl_nil, dstOf, List.getElem?_cons_zero, List.getElem?_cons_succ, Option.getD_some, Act.put, e10]
    clear e10
    generalize vv 9 = v9 at *
    generalize vv 0 = v0
    generalize vv 1 = v1
    generalize vv 2 = v2
    generalize vv 3 = v3
    generalize vv 4 = v4
    generalize vv 5 = v5
    generalize vv 6 = v6
    generalize vv 7 = v7
    generalize vv 8 = v8
    go_wp2
    simp only [List.setIfInBounds_toArray, List.set_cons_succ, List.set_cons_zero]
    go_ret2
    exact ⟨_, rfl, HO.out, HB5.out⟩

end Go.Proofs.YtldcagjnngkabaaGreatDoor

/-
  The document's Put, Take, Cut, Free, At (tidehallref08): what each call answers.
-/
namespace Go.Proofs.YtldcagjnngkabaaGreatDoor
open Go Go.RowKit Go.Shelf

attribute [local go_sem] Oper.semAt_some ext_const

theorem may_at {xs : List Slt} {v : Value} {r : Bool} (hn : xs.length ≤ 10000) (h : mayCB xs = r) : Hid (∀ w, Ss w v xs → Calls Tryz.prog 118 #[v] w fun e W' => e = .returned (.bool r) ∧ Below w.heap.size w W') := fun w hS => by rw [← h]; exact rmayC_calls w hS (by omega)
theorem mayCB_no {xs : List Slt} (hm : ¬ mayC xs) : mayCB xs = false := by cases e : mayCB xs; rfl; exact absurd (mayCB_iff.1 e) hm

end Go.Proofs.YtldcagjnngkabaaGreatDoor

/-
  The document's Next (tidehallref08): what it answers. (Written by tools/gen/cal_refnext.py.)
-/
namespace Go.Proofs.YtldcagjnngkabaaGreatDoor
open Go Go.RowKit Go.Shelf

attribute [local go_sem] Oper.semAt_some ext_const

def optV : Option Int → Int | none => -1 | some n => n
/-- The moments that Next looks at. -/
def candL (c : List Slt) (a : Int) : List Int := a :: c.map fun s => s.2.1
/-- The best of the first k of them is b, or there is none and b is -1. -/
def Nb (c : List Slt) (a long : Int) (k : Nat) (b : Int) : Prop := ∃ ob, ((candL c a).take k).foldl (leastN (okF c a long)) none = ob ∧ optV ob = b ∧ ∀ n, ob = some n → 0 ≤ n
theorem Nb.start (c : List Slt) (a long : Int) : Nb c a long 0 (-1) := ⟨none, rfl, rfl, fun n h => (by cases h)⟩
theorem Nb.snoc {c : List Slt} {a long p : Int} {k : Nat} (hk : (candL c a)[k]? = some p) (ob : Option Int) (h : ((candL c a).take k).foldl (leastN (okF c a long)) none = ob) : ((candL c a).take (k + 1)).foldl (leastN (okF c a long)) none = leastN (okF c a long) ob p := by
  obtain ⟨hlt, he⟩ := List.getElem?_eq_some_iff.1 hk
  rw [List.take_succ_eq_append_getElem hlt, List.foldl_append, h, he]
  rfl
theorem Nb.stay {c : List Slt} {a long p b : Int} {k : Nat} (N : Nb c a long k b) (hk : (candL c a)[k]? = some p) (h : okF c a long p = false ∨ (0 ≤ b ∧ b ≤ p)) : Nb c a long (k + 1) b := by
  obtain ⟨ob, h1, h2, h3⟩ := N
  refine ⟨leastN (okF c a long) ob p, Nb.snoc hk ob h1, ?_⟩
  have : leastN (okF c a long) ob p = ob := by
    unfold leastN
    rcases h with h | ⟨h4, h5⟩
    · rw [if_neg (by rw [h]; decide)]
    · split
      · cases ob with
        | none => rw [← h2] at h4; simp [optV] at h4
        | some x =>
          have : x = b := h2
          dsimp only
          rw [if_neg (by omega)]
      · rfl
  rw [this]
  exact ⟨h2, h3⟩
theorem Nb.take {c : List Slt} {a long p b : Int} {k : Nat} (N : Nb c a long k b) (hk : (candL c a)[k]? = some p) (hp : 0 ≤ p) (ho : okF c a long p = true) (h : ¬ (0 ≤ b ∧ b ≤ p)) : Nb c a long (k + 1) p := by
  obtain ⟨ob, h1, h2, h3⟩ := N
  refine ⟨leastN (okF c a long) ob p, Nb.snoc hk ob h1, ?_⟩
  have : leastN (okF c a long) ob p = some p := by
    unfold leastN
    rw [if_pos ho]
    cases ob with
    | none => rfl
    | some x =>
      have h4 : x = b := h2
      have := h3 x rfl
      dsimp only
      rw [if_pos (by omega)]
  rw [this]
  exact ⟨rfl, fun n h => by cases h; exact hp⟩
theorem Nb.end {c : List Slt} {a long b : Int} {k : Nat} (N : Nb c a long k b) (hk : k = c.length + 1) : (b < 0 → nextC c a long = none) ∧ (0 ≤ b → nextC c a long = some b) := by
  obtain ⟨ob, h1, h2, h3⟩ := N
  rw [List.take_of_length_le (by simp [candL]; omega)] at h1
  have h1 : nextC c a long = ob := h1
  rw [h1]
  cases ob with
  | none =>
    have : (-1 : Int) = b := h2
    exact ⟨fun _ => rfl, fun h => by omega⟩
  | some x =>
    have h4 : x = b := h2
    have := h3 x rfl
    exact ⟨fun h => by omega, fun _ => by rw [h4]⟩
theorem okF_lo {c : List Slt} {a long p : Int} (h : p < a) : okF c a long p = false := by unfold okF; rw [decide_eq_false (by omega)]; rfl
theorem okF_hi {c : List Slt} {a long p : Int} (h : 1099511627776 - p < long) : okF c a long p = false := by
  unfold okF
  rw [show decide (long ≤ 1099511627776 - p) = false from decide_eq_false (by omega)]
  simp
theorem okF_at {c : List Slt} {a long p : Int} (h : ¬ p < a) (h1 : ¬ 1099511627776 - p < long) : okF c a long p = clearC c p (p + long) := by
  unfold okF
  rw [decide_eq_true (show a ≤ p by omega), decide_eq_true (show long ≤ 1099511627776 - p by omega)]
  rfl

end Go.Proofs.YtldcagjnngkabaaGreatDoor

/-
  The statements of cal: slot, some, alive; CalNames.
-/
namespace Go.Proofs.YtldcagjnngkabaaGreatDoor
open Go Go.RowKit Go.Shelf

attribute [local go_sem] Oper.semAt_some ext_const

theorem So.laid (W : World) (base : Nat) (hb : base ≤ W.heap.size) (xs : List Slt) (hl : xs.length ≤ 100) : So (W.alloc (.cells (flatS xs).toArray 85)) base (.slice (some ⟨W.heap.size, 0, none⟩) xs.length xs.length) xs :=
  ⟨flatS_len xs, .inr ⟨W.heap.size, xs.length, (flatS xs).toArray, rfl, hb, Blk.new W _ _, Nat.le_refl _, by unfold maxLen; omega, by simp [flatS_len], by simp [← flatS_len]⟩⟩

def someC : List Slt := [(1, 3, 7), (5, 9, 8)]
theorem some_may : mayC someC := mayCB_iff.1 (by decide)

end Go.Proofs.YtldcagjnngkabaaGreatDoor

/-
  Put, Take, Cut, of the program and of the document: one contract each for all inputs.
-/
namespace Go.Proofs.YtldcagjnngkabaaGreatDoor
open Go Go.RowKit Go.Shelf

def putL (xs : List Slt) (s : Slt) : List Slt := if putE xs s = 0 then withC s xs else []
def takeL (xs : List Slt) (ow : Int) : List Slt := if mayCB xs then lessC xs ow else []
def cutL (xs : List Slt) (ow to : Int) : List Slt := if mayCB xs then endedC xs ow to else []
theorem putE_zero {xs : List Slt} {f t o : Int} (h : putE xs (f, t, o) = 0) : mayC xs ∧ maySl (f, t, o) ∧ clearC xs f t = true ∧ xs.length < 4096 := by
  unfold putE at h
  split at h
  · rename_i h1
    split at h
    · rename_i h2
      split at h
      · rename_i h3
        split at h
        · cases h
        · rename_i h4
          have hm := mayCB_iff.1 h1
          exact ⟨hm, maySlB_iff.1 h2, h3, by have := hm.2.2; omega⟩
      · cases h
    · cases h
  · cases h
theorem putE_ok {xs : List Slt} {f t o : Int} (h1 : mayC xs) (h2 : maySl (f, t, o)) (h3 : clearC xs f t = true) (h4 : xs.length < 4096) : putE xs (f, t, o) = 0 := by
  unfold putE
  rw [if_pos (mayCB_iff.2 h1), if_pos (maySlB_iff.2 h2), if_pos h3, if_neg (by omega)]
theorem withC_few (xs : List Slt) (s : Slt) : (putL xs s).length ≤ xs.length + 1 := by
  unfold putL
  split
  · rw [withC_len]; omega
  · simp
theorem takeL_few (xs : List Slt) (ow : Int) : (takeL xs ow).length ≤ xs.length := by
  unfold takeL
  split
  · exact List.length_filter_le _ _
  · simp
theorem cutL_few (xs : List Slt) (ow to : Int) : (cutL xs ow to).length ≤ xs.length := by
  unfold cutL
  split
  · exact List.length_filterMap_le _ _
  · simp

theorem cput_all {xs : List Slt} {v : Value} {f t o : Int} (w : World) (hS : Ss w v xs) : Calls Tryz.prog 53 #[v, V3 f t o] w fun e W' => ∃ u, e = .returned (.tuple #[u, I (putE xs (f, t, o))]) ∧ So W' w.heap.size u (putL xs (f, t, o)) ∧ Below w.heap.size w W' := by
  unfold putL
  by_cases h : putE xs (f, t, o) = 0
  · obtain ⟨h1, h2, h3, h4⟩ := putE_zero h
    rw [if_pos h, h]
    exact cput_yes w hS h1 h2 h3 h4
  · rw [if_neg h]
    refine (cput_err w hS h).mono ?_
    rintro e W' ⟨rfl, hb⟩
    exact ⟨_, rfl, So.nil _ _, hb⟩
/-- An empty list, written out. -/
theorem So.zero (W : World) (base : Nat) (hb : base ≤ W.heap.size) : So (W.alloc (.cells #[] 85)) base (.slice (some ⟨W.heap.size, 0, none⟩) 0 0) [] :=
  ⟨rfl, .inr ⟨W.heap.size, 0, #[], rfl, hb, Blk.new W _ _, Nat.le_refl _, Nat.zero_le _, rfl, rfl⟩⟩
theorem eqC_self (xs : List Slt) : eqC xs xs = true := decide_eq_true rfl
theorem same_true {xs : List Slt} {u v : Value} (w : World) (hu : Ss w u xs) (hv : Ss w v xs) (hx : xs.length ≤ 100000) : Calls Tryz.prog 84 #[u, v] w fun e W' => e = .returned (.bool true) ∧ Below w.heap.size w W' := by
  have := rsameC_calls w hu hv hx
  rwa [eqC_self] at this

/-- A row of slots whose owners may be written anew. -/
def Ownd (W : World) (g n : Nat) : Prop := ∃ vs : Array Value, Blk W g 85 vs ∧ ∀ k, k < n → ∃ z : Int, vs[k * 3 + 2]? = some (I z)
theorem Ownd.cell {W : World} {g n k : Nat} (h : Ownd W g n) (hk : k < n) : (∃ z : Int, W.cell? ⟨g, k * 3 + 2, none⟩ = some (.int .i64 z)) ∧ W.frozen? ⟨g, k * 3 + 2, none⟩ = false := by
  obtain ⟨vs, hb, hv⟩ := h
  obtain ⟨z, hz⟩ := hv k hk
  exact ⟨⟨z, by rw [hb.cell, hz]⟩, hb.frozen _⟩
theorem Ownd.lt {W : World} {g n : Nat} (h : Ownd W g n) : g < W.heap.size := by
  obtain ⟨vs, hb, _⟩ := h
  exact hb.lt
theorem Ownd.set {W : World} {g n : Nat} (h : Ownd W g n) (i : Nat) (z : Int) : Ownd (W.setCell ⟨g, i, none⟩ (.int .i64 z)) g n := by
  obtain ⟨vs, hb, hv⟩ := h
  refine ⟨_, hb.set i _, fun k hk => ?_⟩
  obtain ⟨z', hz'⟩ := hv k hk
  by_cases e : i = k * 3 + 2
  · subst e
    refine ⟨z, ?_⟩
    have hlt : k * 3 + 2 < vs.size := (Array.getElem?_eq_some_iff.1 hz').1
    simp [hlt]
  · refine ⟨z', ?_⟩
    rw [← hz']
    simp [e]
theorem Ownd.later {W W' : World} {g n : Nat} (h : Ownd W g n) (hb : Below W.heap.size W W') : Ownd W' g n := by
  obtain ⟨vs, h1, h2⟩ := h
  exact ⟨vs, h1.later hb, h2⟩
theorem Ownd.other {W : World} {g g' n : Nat} (h : Ownd W g n) (hne : g ≠ g') (i : Nat) (x : Value) : Ownd (W.setCell ⟨g', i, none⟩ x) g n := by
  obtain ⟨vs, h1, h2⟩ := h
  exact ⟨vs, h1.other i x hne, h2⟩
/-- A list of a call's own is none, or such a row. -/
theorem So.ownd {W : World} {base : Nat} {v : Value} {xs : List Slt} (h : So W base v xs) : (v = .slice none 0 0 ∧ xs = []) ∨ ∃ g cap, v = .slice (some ⟨g, 0, none⟩) xs.length cap ∧ base ≤ g ∧ Ownd W g xs.length := by
  obtain ⟨h1, h2⟩ := h
  rcases h2 with ⟨rfl, hn⟩ | ⟨g, cap, cur, rfl, hg, hh, hc, hc2, hs, ht⟩
  · exact .inl ⟨rfl, List.length_eq_zero_iff.1 hn⟩
  · refine .inr ⟨g, cap, rfl, hg, cur, hh, fun k hk => ⟨(xs.getD k (0, 0, 0)).2.2, ?_⟩⟩
    have := congrArg (fun l => l[k * 3 + 2]?) ht
    simp only [List.getElem?_take_of_lt (show k * 3 + 2 < xs.length * 3 by omega), Array.getElem?_toList] at this
    rw [this, flatS_get xs k 2 (by omega) hk]
    rfl

end Go.Proofs.YtldcagjnngkabaaGreatDoor

/-
  The calls of set, and of the document's answer, that only look: whether a number is in a set, whether a set may be.
-/
namespace Go.Proofs.YtldcagjnngkabaaGreatDoor
open Go Go.RowKit Go.Shelf

set_option maxRecDepth 100000 in
set_option maxHeartbeats 2000000 in
theorem there_calls {v : Value} {ws : List Nat} (w : World) (h : Wds w v ws) (k : Nat) (hk : k ≤ 9223372036854775807) :
    Calls Tryz.prog 70 #[v, I k] w fun e W' => e = .returned (.bool (hasW ws k)) ∧ W' = w := by
  obtain ⟨ao, cap, rfl, hv⟩ := h.view
  have hw := h.word (k / 64)
  by_cases hlt : k / 64 < ws.length
  · obtain ⟨g, off, rfl, hg, hc⟩ := hv _ hlt
    have hb := bit_of _ (k % 64) hw
    have e : hasW ws k = (ws.getD (k / 64) 0).testBit (k % 64) := rfl
    rw [e, ← hb]
    clear hb e hv h
    generalize ws.getD (k / 64) 0 = x at *
    go_enter Tryz.func70, Tryz.ntmps70
    go_wp2
    go_ret
    exact ⟨rfl, rfl⟩
  · rw [hasW_out (Nat.not_lt.1 hlt)]
    clear hv h hw
    have hlt' : ¬ ((k : Int) / 64 < ws.length) := by omega
    go_enter Tryz.func70, Tryz.ntmps70
    go_wp2
    go_ret
    exact ⟨rfl, rfl⟩

theorem there_neg {ao : Option Addr} {len cap : Nat} (w : World) (k : Int) (hk : k < 0) :
    Calls Tryz.prog 70 #[.slice ao len cap, I k] w fun e W' => e = .returned (.bool false) ∧ W' = w := by
  go_enter Tryz.func70, Tryz.ntmps70
  go_wp2
  go_ret
  exact ⟨rfl, rfl⟩

theorem words_calls (n : Nat) (w : World) (hn : n ≤ 12288) : Calls Tryz.prog 86 #[I n] w fun e W' => e = .returned (I ((n + 63) / 64 : Nat)) ∧ W' = w := by
  go_enter Tryz.func86, Tryz.ntmps86
  go_wp2
  go_ret
  exact ⟨by go_num, rfl⟩

set_option maxRecDepth 100000 in
set_option maxHeartbeats 2000000 in
theorem mayBe_calls {v : Value} {ws : List Nat} (w : World) (h : Wds w v ws) (n : Nat) (h1 : 1 ≤ n) (h2 : n ≤ 12288) :
    Calls Tryz.prog 119 #[I n, v] w fun e W' => e = .returned (.bool (maySet n ws)) ∧ W' = w := by
  obtain ⟨ao, cap, rfl, hv⟩ := h.view
  have hwc := fun w => words_calls n w h2
  by_cases hl : ws.length = (n + 63) / 64
  · by_cases h0 : n % 64 = 0
    · rw [mayS_full hl h0]
      rw [← hl] at hwc
      clear hv h hl
      generalize ws.length = l at *
      have h0' : (n : Int) % 64 = 0 := by omega
      go_enter Tryz.func119, Tryz.ntmps119
      go_wp2_with fail
      refine (hwc _).mono ?_
      rintro e w1 ⟨rfl, rfl⟩
      go_wp2
      go_ret
      exact ⟨rfl, rfl⟩
    · rw [mayS_last (h.word _) h1 hl h0]
      have h0' : ¬ ((n : Int) % 64 = 0) := by omega
      have hlt : ws.length - 1 < ws.length := by omega
      obtain ⟨g, off, rfl, hg, hc⟩ := hv _ hlt
      have hw := h.word (ws.length - 1)
      generalize ws.getD (ws.length - 1) 0 = x at *
      have hub : ws.length ≤ 200 := by omega
      rw [← hl] at hwc
      clear hv h hl
      generalize ws.length = l at *
      have hpos : 1 ≤ l := by omega
      go_enter Tryz.func119, Tryz.ntmps119
      go_wp2_with fail
      refine (hwc _).mono ?_
      rintro e w1 ⟨rfl, rfl⟩
      go_wp2
      go_ret
      refine ⟨?_, rfl⟩
      show Ending.returned (Value.bool (((n : Int) % 64 == 0) || _)) = _
      rw [show ((n : Int) % 64 == 0) = false from by simpa using h0']
      rfl
  · rw [mayS_len hl]
    clear hv h
    generalize (n + 63) / 64 = l at *
    have hl' : ¬ ((ws.length : Int) = (l : Int)) := by omega
    go_enter Tryz.func119, Tryz.ntmps119
    go_wp2_with fail
    refine (hwc _).mono ?_
    rintro e w1 ⟨rfl, rfl⟩
    go_wp2
    go_ret
    exact ⟨rfl, rfl⟩

set_option maxRecDepth 100000 in
set_option maxHeartbeats 2000000 in
theorem check_calls {v : Value} {vs : List Value} {wss : List (List Nat)} (w : World) (hv : Sl w v vs) (hl : vs.length = wss.length) (hs : vs.length ≤ 2) (hw : ∀ i, i < vs.length → Wds w (vs.getD i undef) (wss.getD i [])) (n : Int) :
    Calls Tryz.prog 85 #[I n, v] w fun e W' => e = .returned (I (errAll n wss)) ∧ W' = w := by
  obtain ⟨ao, cap, rfl, hv⟩ := hv
  by_cases hn : 1 ≤ n ∧ n ≤ 12288
  · obtain ⟨m, rfl⟩ : ∃ m : Nat, n = m := ⟨n.toNat, by omega⟩
    obtain ⟨h1, h2⟩ := hn
    have HV : Hid (∀ k, k < vs.length → ∃ g off, ao = some ⟨g, off, none⟩ ∧ g < w.heap.size ∧ w.cell? ⟨g, off + k, none⟩ = vs[k]?) := hv
    have HW : Hid (∀ i, i < vs.length → Wds w (vs.getD i undef) (wss.getD i [])) := hw
    obtain ⟨ans, hans⟩ : ∃ ans, ans = errAll m wss := ⟨_, rfl⟩
    rw [← hans]
    have HS : Hid (ans = errAll m wss) := hans
    clear hans hv hw
    go_enter Tryz.func85, Tryz.ntmps85
    go_wp2
    go_loopw [15] (fun i wr => ∃ k : Nat, k ≤ vs.length ∧ i = .int .i64 k ∧ Hid (∀ j, j < k → maySet m (wss.getD j []) = true) ∧ wr = w) (fun i _ => vs.length - (RowKit.intOf i).toNat)
    case atStart => exact ⟨0, by omega, rfl, fun j hj => by omega, rfl⟩
    case round =>
      obtain ⟨k, hk, rfl, HT, rfl⟩ := hrel
      by_cases hlt : (k : Int) < (vs.length : Int)
      · have hkx : k < vs.length := by omega
        obtain ⟨g, off, rfl, hg, hc⟩ := HV.out k hkx
        have hW := HW.out k hkx
        rw [show vs[k]? = some (vs.getD k undef) by simp [hkx]] at hc
        have HX : Hid (Wds wr (vs.getD k undef) (wss.getD k [])) := hW
        have H8 : Hid (maySet m (wss.getD k []) = false → ans = 8) := fun hm => by rw [HS.out]; exact errAll_not ⟨by omega, by omega⟩ (by omega) hm
        have H0 : Hid (maySet m (wss.getD k []) = true → ∀ j, j < k + 1 → maySet m (wss.getD j []) = true) := fun hm j hj => by
          rcases Nat.lt_succ_iff_lt_or_eq.1 hj with hj | rfl
          · exact HT.out j hj
          · exact hm
        clear hW
        obtain ⟨u, hu⟩ : ∃ u, u = vs.getD k undef := ⟨_, rfl⟩
        rw [← hu] at hc HX
        have hone : u.oneCell' = true := by
          obtain ⟨ao', cap', e, _⟩ := HX.out.view
          rw [e]; rfl
        clear hu
        go_wp2_with fail
        refine (mayBe_calls _ HX.out m (by omega) (by omega)).mono ?_
        rintro e w1 ⟨rfl, rfl⟩
        cases hm : maySet m (wss.getD k [])
        · have E := H8.out hm
          subst E
          go_wp2
          go_ret
          exact ⟨rfl, rfl⟩
        · go_wp2
          go_roundw
          case rel => exact ⟨k + 1, by omega, by go_num, H0.out hm, by trivial⟩
          case measure => simp [RowKit.intOf]; omega
      · have E : ans = 0 := by
          rw [HS.out]
          exact errAll_ok ⟨by omega, by omega⟩ (fun j hj => HT.out j (by omega))
        subst E
        go_wp2
        go_ret
        exact ⟨rfl, rfl⟩
  · rw [errAll_bad hn]
    clear hv hw
    by_cases h1 : 1 ≤ n
    · have h2 : ¬ n ≤ 12288 := fun h => hn ⟨h1, h⟩
      clear hn
      go_enter Tryz.func85, Tryz.ntmps85
      go_wp2
      go_ret
      exact ⟨rfl, rfl⟩
    · clear hn
      go_enter Tryz.func85, Tryz.ntmps85
      go_wp2
      go_ret
      exact ⟨rfl, rfl⟩

set_option maxRecDepth 100000 in
set_option maxHeartbeats 2000000 in
theorem may_calls {v : Value} {ws : List Nat} (w : World) (h : Wds w v ws) (n : Nat) (h1 : 1 ≤ n) (h2 : n ≤ 12288) :
    Calls Tryz.prog 74 #[I n, v] w fun e W' => e = .returned (.bool (maySet n ws)) ∧ W' = w := by
  have HW : Hid (Wds w v ws) := h
  obtain ⟨ao, cap, rfl, _⟩ := h.view
  obtain ⟨ans, hans⟩ : ∃ ans, ans = maySet n ws := ⟨_, rfl⟩
  rw [← hans]
  have HS : Hid (ans = maySet n ws) := hans
  clear hans h
  go_enter Tryz.func74, Tryz.ntmps74
  go_wp2
  go_loopw [5] (fun i wr => ∃ m : Nat, m ≤ (n + 63) / 64 ∧ i = .int .i64 m ∧ wr = w) (fun i _ => (n + 63) / 64 - (RowKit.intOf i).toNat)
  case atStart => exact ⟨0, by omega, rfl, rfl⟩
  case round =>
    obtain ⟨m, hm, rfl, rfl⟩ := hrel
    by_cases hlt : (64 : Int) * (m : Int) < (n : Int)
    · go_wp2
      go_roundw
      case rel => exact ⟨m + 1, by omega, by go_num, by trivial⟩
      case measure => simp [RowKit.intOf]; omega
    · have em : m = (n + 63) / 64 := by omega
      by_cases hl : m = ws.length
      · have EM : Hid (m = (n + 63) / 64) := em
        clear em
        subst hl
        go_wp2
        go_loopw [6] (fun i wr' => ∃ k : Nat, n ≤ k ∧ k ≤ 64 * ws.length ∧ i = .int .i64 k ∧ Hid (∀ j, n ≤ j → j < k → hasW ws j = false) ∧ wr' = wr) (fun i _ => 64 * ws.length - (RowKit.intOf i).toNat)
        case atStart => exact ⟨n, by omega, by have := EM.out; omega, rfl, fun j h1 h2 => by omega, rfl⟩
        case round =>
          obtain ⟨k, hk1, hk2, rfl, HT, rfl⟩ := hrel
          by_cases hlt2 : (k : Int) < (64 : Int) * (ws.length : Int)
          · go_wp2_with fail
            refine (there_calls _ HW.out k (by omega)).mono ?_
            rintro e w1 ⟨rfl, rfl⟩
            cases hq : hasW ws k
            · have H0 : Hid (∀ j, n ≤ j → j < k + 1 → hasW ws j = false) := fun j h1 h2 => by
                rcases Nat.lt_succ_iff_lt_or_eq.1 h2 with hj | rfl
                · exact HT.out j h1 hj
                · exact hq
              go_wp2
              go_roundw
              case rel => exact ⟨k + 1, by omega, by omega, by go_num, H0, by trivial⟩
              case measure => simp [RowKit.intOf]; omega
            · have E : ans = false := by rw [HS.out]; exact mayS_no hk1 hq
              subst E
              go_wp2
              go_ret
              exact ⟨rfl, rfl⟩
          · have E : ans = true := by
              rw [HS.out]
              refine mayS_iff.2 ⟨EM.out, fun j hj => ?_⟩
              by_cases hj2 : j < k
              · exact HT.out j hj hj2
              · exact hasW_past (by omega)
            subst E
            go_wp2
            go_ret
            exact ⟨rfl, rfl⟩
      · have E : ans = false := by rw [HS.out]; exact mayS_len (by omega)
        have hl' : ¬ ((ws.length : Int) = (m : Int)) := by omega
        clear em hl
        subst E
        go_wp2
        go_ret
        exact ⟨rfl, rfl⟩

end Go.Proofs.YtldcagjnngkabaaGreatDoor
