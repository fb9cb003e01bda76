/-
  cals.Put. (Written by tools/gen/cals_putb.py.)
-/
import Derived.Test.YtldcagjnngkabaaGreatDoorPart15
import Derived.Test.YtldcagjnngkabaaGreatDoorPart14
import Derived.Test.YtldcagjnngkabaaGreatDoorPart13
import Derived.Test.YtldcagjnngkabaaGreatDoorPart5
import Derived.Test.YtldcagjnngkabaaGreatDoorPart11
import Derived.BigRegion
namespace Go.Proofs.YtldcagjnngkabaaGreatDoor
open Go Go.RowKit Go.Shelf

attribute [local go_sem] Oper.semAt_some ext_const

/-- What each operation of Put's last statement comes to, ahead of turn's call: where blocks B and D lie y and the slot. -/
def wordP (y vn vl vm vk : Value) (nn ll B D : Nat) (da db dc er : Int) (base : Nat) (r1 r2 : List (List Slt)) (i : Nat) (v : Value) (w : World) : Prop :=
  match i with
  | 0 => v = y
  | 1 => v = .func (.func 50) #[] #[.pointer (some ⟨D, 0, none⟩)]
  | 2 => v = .pointer (some ⟨B, 3, none⟩)
  | 3 => v = vn
  | 4 => v = I nn
  | 5 => v = vm
  | 6 => ∃ g, v = .func (.func 51) #[] #[.pointer (some ⟨g, 0, none⟩), .pointer (some ⟨g + 1, 0, none⟩), .pointer (some ⟨D, 0, none⟩)] ∧ Blk w g 3 #[I nn] ∧ Blk w (g + 1) 30 #[vm]
  | 7 => v = .func (.func 50) #[] #[.pointer (some ⟨D, 0, none⟩)]
  | 8 => v = .pointer (some ⟨B, 4, none⟩)
  | 9 => v = vl
  | 10 => v = I ll
  | 11 => v = vk
  | 12 => ∃ g, v = .func (.func 51) #[] #[.pointer (some ⟨g, 0, none⟩), .pointer (some ⟨g + 1, 0, none⟩), .pointer (some ⟨D, 0, none⟩)] ∧ Blk w g 3 #[I ll] ∧ Blk w (g + 1) 30 #[vk]
  | 13 => ∃ ao1 n1 c1 ao2 n2 c2, v = .tuple #[Y5 da db dc (.slice ao1 n1 c1) (.slice ao2 n2 c2), I er] ∧ Yo w base (.slice ao1 n1 c1) r1 ∧ Yo w base (.slice ao2 n2 c2) r2
  | 14 => ∃ ao1 n1 c1 ao2 n2 c2, v = Y5 da db dc (.slice ao1 n1 c1) (.slice ao2 n2 c2) ∧ Yo w base (.slice ao1 n1 c1) r1 ∧ Yo w base (.slice ao2 n2 c2) r2
  | 15 => v = I er
  | _ => False
theorem wordP_later {y vn vl vm vk : Value} {nn ll B D : Nat} {da db dc er : Int} {base : Nat} {r1 r2 : List (List Slt)} (i : Nat) (v : Value) (w w' : World) (h : wordP y vn vl vm vk nn ll B D da db dc er base r1 r2 i v w) (hB : Below w.heap.size w w') : wordP y vn vl vm vk nn ll B D da db dc er base r1 r2 i v w' := by
  match i, h with
  | 0, h => exact h
  | 1, h => exact h
  | 2, h => exact h
  | 3, h => exact h
  | 4, h => exact h
  | 5, h => exact h
  | 6, ⟨g, h1, h2, h3⟩ => exact ⟨g, h1, h2.later hB, h3.later hB⟩
  | 7, h => exact h
  | 8, h => exact h
  | 9, h => exact h
  | 10, h => exact h
  | 11, h => exact h
  | 12, ⟨g, h1, h2, h3⟩ => exact ⟨g, h1, h2.later hB, h3.later hB⟩
  | 13, ⟨o1, n1, c1, o2, n2, c2, h1, h2, h3⟩ => exact ⟨o1, n1, c1, o2, n2, c2, h1, h2.later hB, h3.later hB⟩
  | 14, ⟨o1, n1, c1, o2, n2, c2, h1, h2, h3⟩ => exact ⟨o1, n1, c1, o2, n2, c2, h1, h2.later hB, h3.later hB⟩
  | 15, h => exact h
  | n + 16, h => exact h.elim

/-- Put's error; the calendars with the slot. -/
def putYE (a b c : Int) (ns ls : List (List Slt)) (mw lw : List Nat) (f t o : Int) : Int := if checkE a b c ns ls mw lw f t o = 0 then (if fullY ns ls mw lw then 4 else 0) else checkE a b c ns ls mw lw f t o
def putsY (cs : List (List Slt)) (ws : List Nat) (s : Slt) : List (List Slt) := putsC cs (hasW ws) s cs.length

/-- What turn makes of it. -/
theorem put_turns {a b c : Int} {n l vm vl : Value} {ns ls : List (List Slt)} {mw lw : List Nat} {f t o : Int} {er : Int} (w : World) (g g' D : Nat) (hN : Yl w n ns) (hL : Yl w l ls) (hM : Wds w vm mw) (hK : Wds w vl lw) (hc : CheckOk a b c ns ls mw lw f t o) (ht : takenY ns ls mw lw f t = false) (he : er = if fullY ns ls mw lw then 4 else 0)
    (h1 : Blk w g 3 #[I ns.length]) (h2 : Blk w (g + 1) 30 #[vm]) (h3 : Blk w g' 3 #[I ls.length]) (h4 : Blk w (g' + 1) 30 #[vl]) (hD : Blk w D 85 (C3 f t o)) :
    Calls Tryz.prog 54 #[Y5 a b c n l, .func (.func 51) #[] #[.pointer (some ⟨g, 0, none⟩), .pointer (some ⟨g + 1, 0, none⟩), .pointer (some ⟨D, 0, none⟩)], .func (.func 51) #[] #[.pointer (some ⟨g', 0, none⟩), .pointer (some ⟨g' + 1, 0, none⟩), .pointer (some ⟨D, 0, none⟩)]] w fun e W' => ∃ u v, e = .returned (.tuple #[Y5 (dimE er a) (dimE er b) (dimE er c) u v, I er]) ∧ Yo W' w.heap.size u (rowsE er (putsY ns mw (f, t, o))) ∧ Yo W' w.heap.size v (rowsE er (putsY ls lw (f, t, o))) ∧ Below w.heap.size w W' := by
  have hbd := hc.may.bd
  have hmn := hc.may.2.2.2.1
  have hml := hc.may.2.2.2.2
  have t1 : takenC ns (hasW mw) f t ns.length = false := by
    unfold takenY at ht; rw [Bool.or_eq_false_iff] at ht; exact ht.1
  have t2 : takenC ls (hasW lw) f t ls.length = false := by
    unfold takenY at ht; rw [Bool.or_eq_false_iff] at ht; exact ht.2
  have := turn_put (a := a) (b := b) (c := c) (es := putEs ns (hasW mw) (f, t, o)) (fs := putEs ls (hasW lw) (f, t, o)) (ts := putTs ns (hasW mw) (f, t, o)) (us := putTs ls (hasW lw) (f, t, o)) (er := er) w g (g + 1) D g' (g' + 1) hN hL (by omega) (by omega)
    (fun wr k vc hk hb hs => yputc_calls hs (by have := (maysC_may hmn k).2.2; omega) (h1.later hb) (hM.later hb) (h2.later hb) (hD.later hb) hc.mids (hasR_in hc.mids))
    (fun wr k vc hk hb hs => yputc_calls hs (by have := (maysC_may hml k).2.2; omega) (h3.later hb) (hK.later hb) (h4.later hb) (hD.later hb) hc.links (hasR_in hc.links))
    (by
      rw [he, putEs_full hmn hc.slot t1 _ (Nat.le_refl _), putEs_full hml hc.slot t2 _ (Nat.le_refl _)]
      unfold fullY errT
      cases fullC ns (hasW mw) ns.length
      · cases fullC ls (hasW lw) ls.length <;> rfl
      · rfl)
  refine this.mono ?_
  rintro e W' ⟨u, v, rfl, hU, hV, hB⟩
  refine ⟨u, v, rfl, ?_, ?_, hB⟩
  · cases hf : fullY ns ls mw lw
    · have f1 : fullC ns (hasW mw) ns.length = false := by
        unfold fullY at hf; rw [Bool.or_eq_false_iff] at hf; exact hf.1
      have := putTs_puts hmn hc.slot t1 f1
      unfold mapTo at hU
      rw [this] at hU
      exact hU
    · rw [he, hf] at hU ⊢
      exact hU
  · cases hf : fullY ns ls mw lw
    · have f1 : fullC ls (hasW lw) ls.length = false := by
        unfold fullY at hf; rw [Bool.or_eq_false_iff] at hf; exact hf.2
      have := putTs_puts hml hc.slot t2 f1
      unfold mapTo at hV
      rw [this] at hV
      exact hV
    · rw [he, hf] at hV ⊢
      exact hV

set_option maxRecDepth 100000 in
set_option maxHeartbeats 16000000 in
theorem yPut_calls {a b c : Int} {n l vm vl : Value} {ns ls : List (List Slt)} {mw lw : List Nat} {f t o : Int} (w : World) (hN : Yl w n ns) (hL : Yl w l ls) (hM : Wds w vm mw) (hK' : Wds w vl lw) :
    Calls Tryz.prog 25 #[Y5 a b c n l, I o, vm, vl, S2 f t] w fun e W' => ∃ u v, e = .returned (.tuple #[Y5 (dimE (putYE a b c ns ls mw lw f t o) a) (dimE (putYE a b c ns ls mw lw f t o) b) (dimE (putYE a b c ns ls mw lw f t o) c) u v, I (putYE a b c ns ls mw lw f t o)]) ∧ Yo W' w.heap.size u (rowsE (putYE a b c ns ls mw lw f t o) (putsY ns mw (f, t, o))) ∧ Yo W' w.heap.size v (rowsE (putYE a b c ns ls mw lw f t o) (putsY ls lw (f, t, o))) ∧ Below w.heap.size w W' := by
  have hmx : Tryz.prog.follows .mixedOrders = true := by kernel_rfl
  obtain ⟨W, hW, hB, hK, hS2, hR, hD⟩ := yard4_start w (K5 a b c n l) (C2 f t) (K5 0 0 0 (.slice none 0 0) (.slice none 0 0)) (C3 f t o) 26 36 26 85
  have HW : Hid ((((w.alloc (.cells (K5 a b c n l) 26)).alloc (.cells (C2 f t) 36)).alloc (.cells (K5 0 0 0 (.slice none 0 0) (.slice none 0 0)) 26)).alloc (.cells (C3 f t o) 85) = W) := hW
  have HC : Hid (Calls Tryz.prog 49 #[Y5 a b c n l, V3 f t o, vm, vl] W fun e W' => e = .returned (I (checkE a b c ns ls mw lw f t o)) ∧ Below W.heap.size W W') := ccheckPut_calls W (hN.later hB) (hL.later hB) (hM.later hB) (hK'.later hB)
  have hWs : w.heap.size + 1 + 1 < W.heap.size := hR.lt
  obtain ⟨an, cn, rfl, hN2⟩ := hN.form
  obtain ⟨al, cl, rfl, hL2⟩ := hL.form
  obtain ⟨am, cm, rfl, _⟩ := hM.view
  obtain ⟨ak, ck, rfl, _⟩ := hK'.view
  by_cases h0 : checkE a b c ns ls mw lw f t o = 0
  · obtain ⟨hc, ht⟩ := checkE_zero h0
    have E : putYE a b c ns ls mw lw f t o = if fullY ns ls mw lw then 4 else 0 := by rw [putYE, if_pos h0]
    obtain ⟨er, her⟩ : ∃ er, er = putYE a b c ns ls mw lw f t o := ⟨_, rfl⟩
    rw [← her] at E ⊢
    rw [h0] at HC
    have HT : Hid (∀ (w1 : World) (g g' : Nat), Below W.heap.size W w1 → Blk w1 g 3 #[I ns.length] → Blk w1 (g + 1) 30 #[.slice am mw.length cm] → Blk w1 g' 3 #[I ls.length] → Blk w1 (g' + 1) 30 #[.slice ak lw.length ck] →
        Calls Tryz.prog 54 #[Y5 a b c (.slice an ns.length cn) (.slice al ls.length cl), .func (.func 51) #[] #[.pointer (some ⟨g, 0, none⟩), .pointer (some ⟨g + 1, 0, none⟩), .pointer (some ⟨w.heap.size + 1 + 1 + 1, 0, none⟩)], .func (.func 51) #[] #[.pointer (some ⟨g', 0, none⟩), .pointer (some ⟨g' + 1, 0, none⟩), .pointer (some ⟨w.heap.size + 1 + 1 + 1, 0, none⟩)]] w1 fun e W' => ∃ u v, e = .returned (.tuple #[Y5 (dimE er a) (dimE er b) (dimE er c) u v, I er]) ∧ Yo W' w1.heap.size u (rowsE er (putsY ns mw (f, t, o))) ∧ Yo W' w1.heap.size v (rowsE er (putsY ls lw (f, t, o))) ∧ Below w1.heap.size w1 W') :=
      fun w1 g g' hb h1 h2 h3 h4 => put_turns w1 g g' _ (hN.later (then_below hB hb)) (hL.later (then_below hB hb)) (hM.later (then_below hB hb)) (hK'.later (then_below hB hb)) hc ht E h1 h2 h3 h4 (hD.later hb)
    clear hW hN hL hM hK' hc ht E her h0 hN2 hL2
    generalize rowsE er (putsY ns mw (f, t, o)) = r1 at *
    generalize rowsE er (putsY ls lw (f, t, o)) = r2 at *
    generalize dimE er a = da at *
    generalize dimE er b = db at *
    generalize dimE er c = dc at *
    generalize ns.length = nn at *
    generalize ls.length = ll at *
    generalize mw.length = mn at *
    generalize lw.length = ln at *
    go_enter Tryz.func25, Tryz.ntmps25
    go_wp2_with fail
    rw [HW.out]
    refine HC.out.mono ?_
    rintro e w1 ⟨rfl, hT⟩
    have q0 := hK.later hT
    have qS := hD.later hT
    go_wp2_with fail
    refine wp_region_loud3 (w0 := w1) 16 (wordP (Y5 a b c (.slice an nn cn) (.slice al ll cl)) (.slice an nn cn) (.slice al ll cl) (.slice am mn cm) (.slice ak ln ck) nn ll w.heap.size (w.heap.size + 1 + 1 + 1) da db dc er w1.heap.size r1 r2) hmx (by kernel_rfl) wordP_later ?_ ?_
    · intro i op hi act w' hTT hL hpre
      have s5 : act.tmps.getD 5 undef = .pointer (some ⟨w.heap.size, 0, none⟩) := by
        rw [Array.getD_eq_getD_getElem?, hL.out 5 (of_decide_eq_true (by kernel_rfl))]; rfl
      have s14 : act.tmps.getD 14 undef = .func (.func 50) #[] #[.pointer (some ⟨w.heap.size + 1 + 1 + 1, 0, none⟩)] := by
        rw [Array.getD_eq_getD_getElem?, hL.out 14 (of_decide_eq_true (by kernel_rfl))]; rfl
      have s2 : act.tmps.getD 2 undef = .slice am mn cm := by
        rw [Array.getD_eq_getD_getElem?, hL.out 2 (of_decide_eq_true (by kernel_rfl))]; rfl
      have s3 : act.tmps.getD 3 undef = .slice ak ln ck := by
        rw [Array.getD_eq_getD_getElem?, hL.out 3 (of_decide_eq_true (by kernel_rfl))]; rfl
      obtain ⟨p0, p1, p2, p3, p4, hz⟩ := q0.yard hTT
      clear hL
      match i, hi with
      | 0, hi =>
        obtain rfl := Option.some.inj hi
        refine .inl ⟨Y5 a b c (.slice an nn cn) (.slice al ll cl), ?_, rfl⟩
        simp [execOp, go_sem, Act.eval, s5, p0, p1, p2, p3, p4]
      | 1, hi =>
        obtain rfl := Option.some.inj hi
        refine .inl ⟨_, ?_, rfl⟩
        simp [execOp, go_sem, Act.eval, s14]
      | 2, hi =>
        obtain rfl := Option.some.inj hi
        refine .inl ⟨.pointer (some ⟨w.heap.size, 3, none⟩), ?_, rfl⟩
        simp [execOp, go_sem, Act.eval, s5]
      | 3, hi =>
        obtain rfl := Option.some.inj hi
        have x0 : act.tmps.getD 30 undef = .pointer (some ⟨w.heap.size, 3, none⟩) := hpre ⟨2, .data⟩ (by simp) rfl
        refine .inl ⟨.slice an nn cn, ?_, rfl⟩
        simp [execOp, go_sem, Act.eval, x0, p3]
      | 4, hi =>
        obtain rfl := Option.some.inj hi
        have x0 : act.tmps.getD 31 undef = .slice an nn cn := hpre ⟨3, .data⟩ (by simp) rfl
        refine .inl ⟨I nn, ?_, rfl⟩
        simp [go_sem, Act.eval, x0]
      | 5, hi =>
        obtain rfl := Option.some.inj hi
        refine .inl ⟨_, ?_, rfl⟩
        simp [execOp, go_sem, Act.eval, s2]
      | 6, hi =>
        obtain rfl := Option.some.inj hi
        have x0 : act.tmps.getD 29 undef = .func (.func 50) #[] #[.pointer (some ⟨w.heap.size + 1 + 1 + 1, 0, none⟩)] := hpre ⟨1, .data⟩ (by simp) rfl
        have x1 : act.tmps.getD 32 undef = I nn := hpre ⟨4, .data⟩ (by simp) rfl
        have x2 : act.tmps.getD 33 undef = .slice am mn cm := hpre ⟨5, .data⟩ (by simp) rfl
        refine .inr ⟨50, #[I nn, .slice am mn cm, .pointer (some ⟨w.heap.size + 1 + 1 + 1, 0, none⟩)], ?_, ?_⟩
        · simp [execOp, go_sem, Act.eval, x0, x1, x2]
        · refine (cput1_calls w').mono ?_
          rintro e w'' ⟨rfl, h1, h2, hb⟩
          exact ⟨_, rfl, hb, _, rfl, h1, h2⟩
      | 7, hi =>
        obtain rfl := Option.some.inj hi
        refine .inl ⟨_, ?_, rfl⟩
        simp [execOp, go_sem, Act.eval, s14]
      | 8, hi =>
        obtain rfl := Option.some.inj hi
        refine .inl ⟨.pointer (some ⟨w.heap.size, 4, none⟩), ?_, rfl⟩
        simp [execOp, go_sem, Act.eval, s5]
      | 9, hi =>
        obtain rfl := Option.some.inj hi
        have x0 : act.tmps.getD 36 undef = .pointer (some ⟨w.heap.size, 4, none⟩) := hpre ⟨8, .data⟩ (by simp) rfl
        refine .inl ⟨.slice al ll cl, ?_, rfl⟩
        simp [execOp, go_sem, Act.eval, x0, p4]
      | 10, hi =>
        obtain rfl := Option.some.inj hi
        have x0 : act.tmps.getD 37 undef = .slice al ll cl := hpre ⟨9, .data⟩ (by simp) rfl
        refine .inl ⟨I ll, ?_, rfl⟩
        simp [go_sem, Act.eval, x0]
      | 11, hi =>
        obtain rfl := Option.some.inj hi
        refine .inl ⟨_, ?_, rfl⟩
        simp [execOp, go_sem, Act.eval, s3]
      | 12, hi =>
        obtain rfl := Option.some.inj hi
        have x0 : act.tmps.getD 35 undef = .func (.func 50) #[] #[.pointer (some ⟨w.heap.size + 1 + 1 + 1, 0, none⟩)] := hpre ⟨7, .data⟩ (by simp) rfl
        have x1 : act.tmps.getD 38 undef = I ll := hpre ⟨10, .data⟩ (by simp) rfl
        have x2 : act.tmps.getD 39 undef = .slice ak ln ck := hpre ⟨11, .data⟩ (by simp) rfl
        refine .inr ⟨50, #[I ll, .slice ak ln ck, .pointer (some ⟨w.heap.size + 1 + 1 + 1, 0, none⟩)], ?_, ?_⟩
        · simp [execOp, go_sem, Act.eval, x0, x1, x2]
        · refine (cput1_calls w').mono ?_
          rintro e w'' ⟨rfl, h1, h2, hb⟩
          exact ⟨_, rfl, hb, _, rfl, h1, h2⟩
      | 13, hi =>
        obtain rfl := Option.some.inj hi
        have x0 : act.tmps.getD 28 undef = Y5 a b c (.slice an nn cn) (.slice al ll cl) := hpre ⟨0, .data⟩ (by simp) rfl
        obtain ⟨g, x1, k1, k2⟩ : ∃ g, act.tmps.getD 34 undef = .func (.func 51) #[] #[.pointer (some ⟨g, 0, none⟩), .pointer (some ⟨g + 1, 0, none⟩), .pointer (some ⟨w.heap.size + 1 + 1 + 1, 0, none⟩)] ∧ Blk w' g 3 #[I nn] ∧ Blk w' (g + 1) 30 #[.slice am mn cm] := hpre ⟨6, .data⟩ (by simp) rfl
        obtain ⟨g', x2, k3, k4⟩ : ∃ g', act.tmps.getD 40 undef = .func (.func 51) #[] #[.pointer (some ⟨g', 0, none⟩), .pointer (some ⟨g' + 1, 0, none⟩), .pointer (some ⟨w.heap.size + 1 + 1 + 1, 0, none⟩)] ∧ Blk w' g' 3 #[I ll] ∧ Blk w' (g' + 1) 30 #[.slice ak ln ck] := hpre ⟨12, .data⟩ (by simp) rfl
        refine .inr ⟨54, #[Y5 a b c (.slice an nn cn) (.slice al ll cl), .func (.func 51) #[] #[.pointer (some ⟨g, 0, none⟩), .pointer (some ⟨g + 1, 0, none⟩), .pointer (some ⟨w.heap.size + 1 + 1 + 1, 0, none⟩)], .func (.func 51) #[] #[.pointer (some ⟨g', 0, none⟩), .pointer (some ⟨g' + 1, 0, none⟩), .pointer (some ⟨w.heap.size + 1 + 1 + 1, 0, none⟩)]], ?_, ?_⟩
        · simp [go_sem, Act.eval, x0, x1, x2]
        · refine (HT.out w' g g' (then_below hT hTT) k1 k2 k3 k4).mono ?_
          rintro e w'' ⟨u, v, rfl, hU, hV, hb⟩
          obtain ⟨ao1, n1, c1, rfl⟩ := hU.slice
          obtain ⟨ao2, n2, c2, rfl⟩ := hV.slice
          exact ⟨_, rfl, hb, ao1, n1, c1, ao2, n2, c2, rfl, hU.weak hTT.size, hV.weak hTT.size⟩
      | 14, hi =>
        obtain rfl := Option.some.inj hi
        obtain ⟨ao1, n1, c1, ao2, n2, c2, x0, hU, hV⟩ : ∃ ao1 n1 c1 ao2 n2 c2, act.tmps.getD 41 undef = .tuple #[Y5 da db dc (.slice ao1 n1 c1) (.slice ao2 n2 c2), I er] ∧ Yo w' w1.heap.size (.slice ao1 n1 c1) r1 ∧ Yo w' w1.heap.size (.slice ao2 n2 c2) r2 := hpre ⟨13, .data⟩ (by simp) rfl
        refine .inl ⟨_, ?_, ao1, n1, c1, ao2, n2, c2, rfl, hU, hV⟩
        simp [execOp, go_sem, Act.eval, x0]
      | 15, hi =>
        obtain rfl := Option.some.inj hi
        obtain ⟨ao1, n1, c1, ao2, n2, c2, x0, _, _⟩ : ∃ ao1 n1 c1 ao2 n2 c2, act.tmps.getD 41 undef = .tuple #[Y5 da db dc (.slice ao1 n1 c1) (.slice ao2 n2 c2), I er] ∧ Yo w' w1.heap.size (.slice ao1 n1 c1) r1 ∧ Yo w' w1.heap.size (.slice ao2 n2 c2) r2 := hpre ⟨13, .data⟩ (by simp) rfl
        refine .inl ⟨I er, ?_, rfl⟩
        simp [execOp, go_sem, Act.eval, x0]
      | n + 16, hi => simp at hi
    · intro vs w2 hT2 hall
      obtain ⟨ao1, n1, c1, ao2, n2, c2, h14, hU, hV⟩ : ∃ ao1 n1 c1 ao2 n2 c2, vs 14 = Y5 da db dc (.slice ao1 n1 c1) (.slice ao2 n2 c2) ∧ Yo w2 w1.heap.size (.slice ao1 n1 c1) r1 ∧ Yo w2 w1.heap.size (.slice ao2 n2 c2) r2 := hall 14 (by decide)
      have h15 : vs 15 = I er := hall 15 (by decide)
      clear hall
      simp only [List.take_succ_cons, List.take_zero, List.drop_succ_cons, List.drop_zero, List.length_cons, List.length_nil, Nat.zero_add, Nat.reduceAdd, List.range, List.range.loop, List.foldl_cons, List.foldl_nil, dstOf, List.getElem?_cons_zero, List.getElem?_cons_succ, Option.getD_some, Act.put, h14, h15, List.setIfInBounds_toArray, List.set_cons_succ, List.set_cons_zero]
      clear h14 h15
      generalize vs 0 = y0
      generalize vs 1 = y1
      generalize vs 2 = y2
      generalize vs 3 = y3
      generalize vs 4 = y4
      generalize vs 5 = y5
      generalize vs 6 = y6
      generalize vs 7 = y7
      generalize vs 8 = y8
      generalize vs 9 = y9
      generalize vs 10 = y10
      generalize vs 11 = y11
      generalize vs 12 = y12
      generalize vs 13 = y13
      clear vs
      have hT2 := then_below hT hT2
      have hR2 := hR.later hT2
      have HS := hR2.set5 (.int .i64 da) (.int .i64 db) (.int .i64 dc) (.slice ao1 n1 c1) (.slice ao2 n2 c2)
      have hlow := below_set5 (then_below hB hT2) (show w.heap.size ≤ w.heap.size + 1 + 1 by omega) (.int .i64 da) (.int .i64 db) (.int .i64 dc) (.slice ao1 n1 c1) (.slice ao2 n2 c2)
      have HU : Hid (Yo (put5 w2 (w.heap.size + 1 + 1) (.int .i64 da) (.int .i64 db) (.int .i64 dc) (.slice ao1 n1 c1) (.slice ao2 n2 c2)) w.heap.size (.slice ao1 n1 c1) r1) := (hU.put5 (Nat.lt_of_lt_of_le hWs hT.size) _ _ _ _ _).weak (Nat.le_trans hB.size hT.size)
      have HV : Hid (Yo (put5 w2 (w.heap.size + 1 + 1) (.int .i64 da) (.int .i64 db) (.int .i64 dc) (.slice ao1 n1 c1) (.slice ao2 n2 c2)) w.heap.size (.slice ao2 n2 c2) r2) := (hV.put5 (Nat.lt_of_lt_of_le hWs hT.size) _ _ _ _ _).weak (Nat.le_trans hB.size hT.size)
      clear hU hV q0 qS
      obtain ⟨q0, q1, q2, q3, q4, hzq⟩ := hR2.five
      obtain ⟨f0, f1, f2, f3, f4⟩ := hR2.row5
      gi_wp2
      go_wp2
      obtain ⟨j0, j1, j2, j3, j4, _⟩ := HS.five
      exact bodyPost_ret (v := .tuple #[Y5 da db dc (.slice ao1 n1 c1) (.slice ao2 n2 c2), I er]) (by simp [results, Tryz.f25, go_sem, j0, j1, j2, j3, j4]) rfl ⟨_, _, rfl, HU.out, HV.out, hlow⟩
  · have E : putYE a b c ns ls mw lw f t o = checkE a b c ns ls mw lw f t o := by rw [putYE, if_neg h0]
    rw [E]
    simp only [dim_no h0, rows_no h0]
    clear hW hN hL hM hK' E hN2 hL2
    generalize checkE a b c ns ls mw lw f t o = er at *
    have hyb : (er != 0) = true := by simpa using h0
    clear h0
    generalize ns.length = nn at *
    generalize ls.length = ll at *
    generalize mw.length = mn at *
    generalize lw.length = ln at *
    go_enter Tryz.func25, Tryz.ntmps25
    go_wp2_with fail
    rw [HW.out]
    refine HC.out.mono ?_
    rintro e w1 ⟨rfl, hT⟩
    have hR2 := hR.later hT
    have HS := hR2.set5 (.int .i64 0) (.int .i64 0) (.int .i64 0) (.slice none 0 0) (.slice none 0 0)
    have hlow := below_set5 (then_below hB hT) (show w.heap.size ≤ w.heap.size + 1 + 1 by omega) (.int .i64 0) (.int .i64 0) (.int .i64 0) (.slice none 0 0) (.slice none 0 0)
    obtain ⟨q0, q1, q2, q3, q4, hzq⟩ := hR2.five
    obtain ⟨f0, f1, f2, f3, f4⟩ := hR2.row5
    go_wp2_with fail
    obtain ⟨j0, j1, j2, j3, j4, _⟩ := HS.five
    exact bodyPost_ret (v := .tuple #[Y5 0 0 0 (.slice none 0 0) (.slice none 0 0), I er]) (by simp [results, Tryz.f25, go_sem, j0, j1, j2, j3, j4]) rfl ⟨_, _, rfl, Yo.nil _ _, Yo.nil _ _, hlow⟩

end Go.Proofs.YtldcagjnngkabaaGreatDoor

/-
  cals.Same: slices.Equal at slots, slices.EqualFunc over it.
-/
namespace Go.Proofs.YtldcagjnngkabaaGreatDoor
open Go Go.RowKit Go.Shelf

attribute [local go_sem] Oper.semAt_some ext_const
attribute [local go_sem high] eq_slot

def eqL2 (cs ds : List (List Slt)) : Bool := decide (cs = ds)
theorem take_succL {xs ys : List (List Slt)} {k : Nat} (hx : k < xs.length) (hy : k < ys.length) (h : xs.take k = ys.take k) (he : xs.getD k [] = ys.getD k []) : xs.take (k + 1) = ys.take (k + 1) := by
  rw [List.take_succ_eq_append_getElem hx, List.take_succ_eq_append_getElem hy, h]
  simp [hx, hy] at he
  rw [he]

def eqD (a b c a' b' c' : Int) : Bool := a == a' && (b == b' && c == c')
/-- Whether two machines' calendars are the same. -/
def eqY (a b c : Int) (ns ls : List (List Slt)) (a' b' c' : Int) (ns' ls' : List (List Slt)) : Bool := eqD a b c a' b' c' && (eqL2 ns ns' && eqL2 ls ls')
set_option maxRecDepth 100000 in
theorem eqD_arr (a b c a' b' c' : Int) (w : World) : (Op.equalIn 10000 22 (.agg #[.int .i64 a, .int .i64 b, .int .i64 c]) (.agg #[.int .i64 a', .int .i64 b', .int .i64 c'])).run Tryz.prog w = .ok (eqD a b c a' b' c') w := eq_arr a b c a' b' c' w
set_option maxRecDepth 100000 in
theorem eqD_arrD (a b c a' b' c' : Int) (w : World) : (Op.equalIn 10000 23 (.agg #[.int .i64 a, .int .i64 b, .int .i64 c]) (.agg #[.int .i64 a', .int .i64 b', .int .i64 c'])).run Tryz.prog w = .ok (eqD a b c a' b' c') w := by
  obtain ⟨i, hi⟩ : ∃ i, Tryz.prog.info? 3 = some i := ⟨_, rfl⟩
  exact eqIn_arr3 Tryz.underlying23 Tryz.underlying3 hi (by kernel_rfl) (by kernel_rfl) a b c a' b' c' w
attribute [local go_sem high] eqD_arrD

end Go.Proofs.YtldcagjnngkabaaGreatDoor

/-
  The statements of cals: two, alive.
-/
namespace Go.Proofs.YtldcagjnngkabaaGreatDoor
open Go Go.RowKit Go.Shelf

attribute [local go_sem] Oper.semAt_some ext_const

def twoN : List (List Slt) := [[(0, 3, 5)], []]
def twoL : List (List Slt) := [[(0, 3, 5)], [], [], [], [], []]
theorem two_new : newE 2 1 1 = 0 := by decide +kernel
theorem two_n0 : emptyC 2 = [[], []] := by decide +kernel
theorem two_l0 : emptyC 6 = [[], [], [], [], [], []] := by decide +kernel
theorem two_err : putYE 2 1 1 [[], []] [[], [], [], [], [], []] [1] [1] 0 3 5 = 0 := by decide +kernel
theorem two_nodes : putsY [[], []] [1] (0, 3, 5) = twoN := by decide +kernel
theorem two_links : putsY [[], [], [], [], [], []] [1] (0, 3, 5) = twoL := by decide +kernel
theorem two_may : mayY 2 1 1 twoN twoL := mayYB_iff.1 (by decide +kernel)
theorem two_n : twoN.length = 2 := rfl
theorem two_l : twoL.length = 6 := rfl

theorem word1 {x : Nat} (h : x < 18446744073709551616) : ∀ y ∈ [x], y < 18446744073709551616 := by
  intro y hy
  simp at hy
  omega
theorem wds_lit {W : World} {g x : Nat} (h : x < 18446744073709551616) (hb : Blk W g 34 #[U x]) : Wds W (.slice (some ⟨g, 0, none⟩) 1 1) [x] := wds_of_blk (ws := [x]) (word1 h) hb 1

theorem two_busy1 : busyE 2 1 1 twoN twoL 2 4 = 0 := by decide +kernel
theorem two_busy2 : busyE 2 1 1 twoN twoL 3 4 = 0 := by decide +kernel
theorem two_set1 : wordsE 0 twoN.length (busyP twoN 2 4) = [1] := by decide +kernel
theorem two_set2 : wordsE 0 twoL.length (busyP twoL 2 4) = [1] := by decide +kernel
theorem two_set3 : wordsE 0 twoN.length (busyP twoN 3 4) = [0] := by decide +kernel
theorem two_set4 : wordsE 0 twoL.length (busyP twoL 3 4) = [0] := by decide +kernel

/-- What a set that is written out is held against. -/
theorem same_lit {x : Nat} (h : x < 18446744073709551616) {ws : List Nat} {u : Value} {g : Nat} (w : World) (hu : Wds w u ws) (hb : Blk w g 34 #[U x]) (hl : ws.length ≤ 100000) : Calls Tryz.prog 14 #[u, .slice (some ⟨g, 0, none⟩) 1 1] w fun e W' => e = .returned (.bool (decide (ws = [x]))) ∧ Below w.heap.size w W' := sameS_calls w hu (wds_lit h hb) hl

end Go.Proofs.YtldcagjnngkabaaGreatDoor

/-
  The statements of layer 10: some: chapter 9's calendars; a store of a machine's calendars, as one step.
-/
namespace Go.Proofs.YtldcagjnngkabaaGreatDoor
open Go Go.RowKit Go.Shelf

attribute [local go_sem] Oper.semAt_some ext_const

theorem run_storeY {W : World} {B : Nat} {x0 x1 x2 x3 x4 : Value} (hB : Blk W B 26 #[x0, x1, x2, x3, x4]) (a b c : Int) (a1 a2 : Option Addr) (n1 n2 c1 c2 : Nat) :
    (Instr.storeAt 26 (.pointer (some ⟨B, 0, none⟩)) (Y5 a b c (.slice a1 n1 c1) (.slice a2 n2 c2))).run Tryz.prog W = .ok () (put5 W B (.int .i64 a) (.int .i64 b) (.int .i64 c) (.slice a1 n1 c1) (.slice a2 n2 c2)) := by
  obtain ⟨q0, q1, q2, q3, q4, hz⟩ := hB.five
  obtain ⟨f0, f1, f2, f3, f4⟩ := hB.row5
  have hB1 := hB.set 0 (.int .i64 a)
  have hB2 := hB1.set 1 (.int .i64 b)
  have hB3 := hB2.set 2 (.int .i64 c)
  have hB4 := hB3.set 3 (.slice a1 n1 c1)
  have r1 := hB1.cell 1
  have r2 := hB2.cell 2
  have r3 := hB3.cell 3
  have r4 := hB4.cell 4
  have g1 := hB1.frozen 1
  have g2 := hB2.frozen 2
  have g3 := hB3.frozen 3
  have g4 := hB4.frozen 4
  simp at r1 r2 r3 r4
  clear hB hB1 hB2 hB3 hB4
  go_simp

theorem wpList_storeY {ops : Array Oper} {rest : List Oper} {o : Oper} {act : Act} {Q : Exit → Act → World → Prop} {W : World} {B : Nat} {x0 x1 x2 x3 x4 : Value} {a b c : Int} {a1 a2 : Option Addr} {n1 n2 c1 c2 : Nat} (hgd : o.guard = none) (p x : Operand) (ho : o.op = Op.store 26 p x)
    (hp : act.eval p = .pointer (some ⟨B, 0, none⟩)) (hx : act.eval x = Y5 a b c (.slice a1 n1 c1) (.slice a2 n2 c2)) (hB : Blk W B 26 #[x0, x1, x2, x3, x4])
    (h : wpList Tryz.prog ops Q rest (act.put o.dst undef) (put5 W B (.int .i64 a) (.int .i64 b) (.int .i64 c) (.slice a1 n1 c1) (.slice a2 n2 c2))) : wpList Tryz.prog ops Q (o :: rest) act W := by
  refine wpList_plain hgd fun K hK => ?_
  have hrun := run_storeY hB a b c a1 a2 n1 n2 c1 c2
  unfold Oper.wp
  simp [execOp, ho, hp, hx, hrun, Result.andThen]
  exact hK _ _ h

end Go.Proofs.YtldcagjnngkabaaGreatDoor

/-
  Plain arithmetic of the moments at which something comes free: put together, rising, each once; the least one from which something is free; the last. No program is walked here.
-/
namespace Go.Proofs.YtldcagjnngkabaaGreatDoor
open Go Go.RowKit Go.Shelf

/-- The slots of a machine's calendars, one behind another. -/
def slotsY (ns ls : List (List Slt)) : List Slt := ns.flatten ++ ls.flatten
theorem slotsY_mem {ns ls : List (List Slt)} {s : Slt} : s ∈ slotsY ns ls ↔ (∃ c ∈ ns, s ∈ c) ∨ ∃ c ∈ ls, s ∈ c := by simp [slotsY, List.mem_flatten]
theorem mays_slot {cs : List (List Slt)} (h : maysC cs = true) {c : List Slt} (hc : c ∈ cs) {s : Slt} (hs : s ∈ c) : maySl s := by
  obtain ⟨k, hk, rfl⟩ := List.mem_iff_getElem.1 hc
  have := maysC_may h k
  rw [List.getD_eq_getElem?_getD, List.getElem?_eq_getElem hk] at this
  exact this.1 s hs
theorem slotsY_may {ns ls : List (List Slt)} (hn : maysC ns = true) (hl : maysC ls = true) {s : Slt} (hs : s ∈ slotsY ns ls) : maySl s := by
  rcases slotsY_mem.1 hs with ⟨c, hc, h⟩ | ⟨c, hc, h⟩
  · exact mays_slot hn hc h
  · exact mays_slot hl hc h

/-- Rising, each once. -/
def UpI (l : List Int) : Prop := l.Pairwise (· < ·)
theorem up_ext : ∀ {a b : List Int}, UpI a → UpI b → (∀ x, x ∈ a ↔ x ∈ b) → a = b
  | [], [], _, _, _ => rfl
  | [], y :: b, _, _, h => by have := (h y).2 (by simp); simp at this
  | x :: a, [], _, _, h => by have := (h x).1 (by simp); simp at this
  | x :: a, y :: b, ha, hb, h => by
    have ha1 := (List.pairwise_cons.1 ha).1
    have hb1 := (List.pairwise_cons.1 hb).1
    have hxy : x = y := by
      rcases List.mem_cons.1 ((h x).1 (by simp)) with e | e
      · exact e
      · rcases List.mem_cons.1 ((h y).2 (by simp)) with e2 | e2
        · exact e2.symm
        · have := hb1 x e; have := ha1 y e2; omega
    subst hxy
    congr 1
    refine up_ext (List.pairwise_cons.1 ha).2 (List.pairwise_cons.1 hb).2 fun z => ⟨fun hz => ?_, fun hz => ?_⟩
    · rcases List.mem_cons.1 ((h z).1 (List.mem_cons_of_mem _ hz)) with e | e
      · have := ha1 z hz; omega
      · exact e
    · rcases List.mem_cons.1 ((h z).2 (List.mem_cons_of_mem _ hz)) with e | e
      · have := hb1 z hz; omega
      · exact e

/-- A rising list with one more, if it is not there. -/
def insI (n : Int) : List Int → List Int
  | [] => [n]
  | x :: r => if n < x then n :: x :: r else if n = x then x :: r else x :: insI n r
theorem insI_mem {n x : Int} : ∀ {l : List Int}, x ∈ insI n l ↔ x = n ∨ x ∈ l
  | [] => by simp [insI]
  | y :: r => by
    unfold insI
    split
    · simp
    · split
      · rename_i h; subst h; simp
      · rw [List.mem_cons, insI_mem, List.mem_cons]
        constructor
        · rintro (h | h | h)
          · exact .inr (.inl h)
          · exact .inl h
          · exact .inr (.inr h)
        · rintro (h | h | h)
          · exact .inr (.inl h)
          · exact .inl h
          · exact .inr (.inr h)
theorem insI_up {n : Int} : ∀ {l : List Int}, UpI l → UpI (insI n l)
  | [], _ => by simp [insI, UpI]
  | y :: r, h => by
    have h1 := (List.pairwise_cons.1 h).1
    have h2 := (List.pairwise_cons.1 h).2
    unfold insI
    split
    · rename_i hlt
      refine List.pairwise_cons.2 ⟨fun z hz => ?_, h⟩
      rcases List.mem_cons.1 hz with rfl | hz
      · exact hlt
      · have := h1 z hz; omega
    · split
      · exact h
      · rename_i hlt hne
        refine List.pairwise_cons.2 ⟨fun z hz => ?_, insI_up h2⟩
        rcases insI_mem.1 hz with rfl | hz
        · omega
        · exact h1 z hz
theorem insI_in {n : Int} : ∀ {l : List Int}, UpI l → n ∈ l → insI n l = l
  | y :: r, h, hn => by
    have h1 := (List.pairwise_cons.1 h).1
    unfold insI
    rcases List.mem_cons.1 hn with rfl | hn
    · simp
    · have := h1 n hn
      rw [if_neg (by omega), if_neg (by omega), insI_in (List.pairwise_cons.1 h).2 hn]
theorem insI_end {n : Int} : ∀ {l : List Int}, (∀ y ∈ l, y < n) → insI n l = l ++ [n]
  | [], _ => rfl
  | y :: r, h => by
    have := h y (by simp)
    unfold insI
    rw [if_neg (by omega), if_neg (by omega), insI_end fun z hz => h z (List.mem_cons_of_mem _ hz)]
    rfl
theorem insI_new {n x : Int} (hx : n < x) : ∀ {l : List Int}, (∀ y ∈ l, y < n) → insI n (l ++ [x]) = l ++ [n] ++ [x]
  | [], _ => by simp [insI, hx]
  | y :: r, h => by
    have := h y (by simp)
    rw [List.cons_append]
    unfold insI
    rw [if_neg (by omega), if_neg (by omega), insI_new hx fun z hz => h z (List.mem_cons_of_mem _ hz)]
    simp
theorem insI_more {n x : Int} : ∀ {l : List Int}, (∃ y ∈ l, n ≤ y) → insI n (l ++ [x]) = insI n l ++ [x]
  | [], h => by obtain ⟨y, hy, _⟩ := h; cases hy
  | y :: r, h => by
    rw [List.cons_append]
    unfold insI
    split
    · rfl
    · split
      · rfl
      · rename_i h1 h2
        obtain ⟨z, hz, hzn⟩ := h
        rcases List.mem_cons.1 hz with rfl | hz
        · omega
        · rw [insI_more ⟨z, hz, hzn⟩]; rfl
theorem insI_len (n : Int) : ∀ l : List Int, (insI n l).length ≤ l.length + 1
  | [] => by simp [insI]
  | y :: r => by
    unfold insI
    split
    · simp
    · split
      · simp
      · have := insI_len n r; simp only [List.length_cons]; omega

/-- The Tos of those slots that p asks for, put to a rising list. -/
def gathT (p : Slt → Bool) (l : List Int) (sl : List Slt) : List Int := sl.foldl (fun l s => if p s then insI s.2.1 l else l) l
theorem gathT_snoc (p : Slt → Bool) (l : List Int) (sl : List Slt) (s : Slt) : gathT p l (sl ++ [s]) = if p s then insI s.2.1 (gathT p l sl) else gathT p l sl := by simp [gathT, List.foldl_append]
theorem gathT_mem {p : Slt → Bool} {x : Int} : ∀ {sl : List Slt} {l : List Int}, x ∈ gathT p l sl ↔ x ∈ l ∨ ∃ s ∈ sl, p s = true ∧ s.2.1 = x
  | [], l => by simp [gathT]
  | s :: r, l => by
    show x ∈ gathT p (if p s then insI s.2.1 l else l) r ↔ _
    rw [gathT_mem]
    cases hp : p s
    · simp [hp]
    · simp only [if_true, insI_mem, List.mem_cons, exists_eq_or_imp, hp, true_and]
      constructor
      · rintro ((h | h) | h)
        · exact .inr (.inl h.symm)
        · exact .inl h
        · exact .inr (.inr h)
      · rintro (h | h | h)
        · exact .inl (.inr h)
        · exact .inl (.inl h.symm)
        · exact .inr h
theorem gathT_up {p : Slt → Bool} : ∀ {sl : List Slt} {l : List Int}, UpI l → UpI (gathT p l sl)
  | [], _, h => h
  | s :: r, l, h => by
    show UpI (gathT p (if p s then insI s.2.1 l else l) r)
    refine gathT_up ?_
    split
    · exact insI_up h
    · exact h
theorem gathT_len (p : Slt → Bool) : ∀ (sl : List Slt) (l : List Int), (gathT p l sl).length ≤ l.length + sl.length
  | [], l => by simp [gathT]
  | s :: r, l => by
    have h := gathT_len p r (if p s then insI s.2.1 l else l)
    have h2 : (if p s then insI s.2.1 l else l).length ≤ l.length + 1 := by
      split
      · exact insI_len _ _
      · omega
    show (gathT p (if p s then insI s.2.1 l else l) r).length ≤ _
    rw [List.length_cons]
    omega
/-- From a moment on those at which something comes free. -/
def timeP (from' : Int) (s : Slt) : Bool := decide (from' < s.2.1) && decide (s.2.1 < 1099511627776)
def timesT (from' : Int) (sl : List Slt) : List Int := gathT (timeP from') [from'] sl
theorem timesT_mem {from' x : Int} {sl : List Slt} : x ∈ timesT from' sl ↔ x = from' ∨ (from' < x ∧ x < 1099511627776 ∧ ∃ s ∈ sl, s.2.1 = x) := by
  unfold timesT
  rw [gathT_mem]
  simp only [List.mem_singleton, timeP, Bool.and_eq_true, decide_eq_true_eq]
  constructor
  · rintro (h | ⟨s, hs, h, rfl⟩)
    · exact .inl h
    · exact .inr ⟨h.1, h.2, s, hs, rfl⟩
  · rintro (h | ⟨h1, h2, s, hs, rfl⟩)
    · exact .inl h
    · exact .inr ⟨s, hs, ⟨h1, h2⟩, rfl⟩
theorem timesT_up (from' : Int) (sl : List Slt) : UpI (timesT from' sl) := gathT_up (by simp [UpI])
/-- An owner's ends. -/
def endsT (o : Int) (sl : List Slt) : List Int := gathT (fun s => decide (s.2.2 = o)) [] sl
theorem endsT_mem {o x : Int} {sl : List Slt} : x ∈ endsT o sl ↔ ∃ s ∈ sl, s.2.2 = o ∧ s.2.1 = x := by
  unfold endsT
  rw [gathT_mem]
  simp
theorem endsT_up (o : Int) (sl : List Slt) : UpI (endsT o sl) := gathT_up List.Pairwise.nil
/-- The later of a moment and a slot's To. -/
def maxS (m : Int) (s : Slt) : Int := if m < s.2.1 then s.2.1 else m
theorem maxS_is (m : Int) (s : Slt) : m ≤ maxS m s ∧ s.2.1 ≤ maxS m s ∧ (maxS m s = m ∨ maxS m s = s.2.1) := by
  unfold maxS
  split
  · exact ⟨by omega, by omega, .inr rfl⟩
  · exact ⟨by omega, by omega, .inl rfl⟩
/-- The last moment at which something comes free. -/
def lastT (sl : List Slt) : Int := sl.foldl maxS 0
theorem lastT_snoc (sl : List Slt) (s : Slt) : lastT (sl ++ [s]) = maxS (lastT sl) s := by simp [lastT, List.foldl_append]
theorem lastT_all (sl : List Slt) : ∀ m : Int, m ≤ sl.foldl maxS m ∧ (∀ s ∈ sl, s.2.1 ≤ sl.foldl maxS m) ∧ (sl.foldl maxS m = m ∨ ∃ s ∈ sl, s.2.1 = sl.foldl maxS m) := by
  induction sl with
  | nil => exact fun m => ⟨Int.le_refl _, fun s hs => (by cases hs), .inl rfl⟩
  | cons s r ih =>
    intro m
    obtain ⟨h1, h2, h3⟩ := ih (maxS m s)
    obtain ⟨a, b, c⟩ := maxS_is m s
    rw [List.foldl_cons]
    refine ⟨Int.le_trans a h1, fun x hx => ?_, ?_⟩
    · rcases List.mem_cons.1 hx with rfl | hx
      · exact Int.le_trans b h1
      · exact h2 x hx
    · rcases h3 with h3 | ⟨x, hx, h3⟩
      · rcases c with c | c
        · exact .inl (by rw [h3, c])
        · exact .inr ⟨s, by simp, by rw [h3, c]⟩
      · exact .inr ⟨x, List.mem_cons_of_mem _ hx, h3⟩
theorem lastT_ge {sl : List Slt} {s : Slt} (h : s ∈ sl) : s.2.1 ≤ lastT sl := (lastT_all sl 0).2.1 s h
theorem lastT_pos (sl : List Slt) : 0 ≤ lastT sl := (lastT_all sl 0).1
theorem lastT_at {sl : List Slt} (h : 0 < lastT sl) : ∃ s ∈ sl, s.2.1 = lastT sl := by
  rcases (lastT_all sl 0).2.2 with e | e
  · unfold lastT at h; rw [e] at h; omega
  · exact e

theorem cal_mem {cs : List (List Slt)} {k : Nat} {s : Slt} (h : s ∈ cs.getD k []) : ∃ c ∈ cs, s ∈ c := by
  by_cases hk : k < cs.length
  · rw [List.getD_eq_getElem?_getD, List.getElem?_eq_getElem hk] at h
    exact ⟨_, List.getElem_mem hk, h⟩
  · rw [List.getD_eq_getElem?_getD, List.getElem?_eq_none (by omega)] at h
    cases h
theorem busy_no {cs : List (List Slt)} (hm : maysC cs = true) {f t : Int} (h : f < t) (k : Nat) : busyP cs f t k = false ↔ ∀ s ∈ cs.getD k [], t ≤ s.1 ∨ s.2.1 ≤ f := by
  unfold busyP
  rw [Bool.not_eq_false', clearC_iff (mayC_fine (maysC_may hm k)) h]
/-- The last of Times up to a moment. -/
theorem times_last {from' at' : Int} (sl : List Slt) (h : from' ≤ at') (hM : at' < 1099511627776) : ∃ n ∈ timesT from' sl, n ≤ at' ∧ ∀ s ∈ sl, s.2.1 ≤ at' → s.2.1 ≤ n := by
  obtain ⟨n, ⟨h1, h2⟩, h3, h4⟩ := cand_last from' at' h sl
  refine ⟨n, timesT_mem.2 ?_, h3, h4⟩
  rcases h2 with rfl | ⟨s, hs, rfl⟩
  · exact .inl rfl
  · by_cases e : s.2.1 = from'
    · exact .inl e
    · exact .inr ⟨by omega, by omega, s, hs, rfl⟩
/-- THE STAGE'S THEOREM: what is free from a moment on is so from one of Times' on that is not later. -/
theorem when_least {ns ls : List (List Slt)} (hn : maysC ns = true) (hl : maysC ls = true) {p q : Nat → Bool} {from' at' long : Int} (h : from' ≤ at') (hM : at' < 1099511627776) (h1 : 1 ≤ long)
    (hp : ∀ k, p k = true → busyP ns at' (at' + long) k = false) (hq : ∀ k, q k = true → busyP ls at' (at' + long) k = false) :
    ∃ n ∈ timesT from' (slotsY ns ls), n ≤ at' ∧ (∀ k, p k = true → busyP ns n (n + long) k = false) ∧ ∀ k, q k = true → busyP ls n (n + long) k = false := by
  obtain ⟨n, hn1, hn2, hn3⟩ := times_last (slotsY ns ls) h hM
  refine ⟨n, hn1, hn2, fun k hk => ?_, fun k hk => ?_⟩
  · have := (busy_no hn (by omega) k).1 (hp k hk)
    refine (busy_no hn (by omega) k).2 fun s hs => ?_
    have h2 := this s hs
    by_cases e : s.2.1 ≤ at'
    · exact .inr (hn3 s (slotsY_mem.2 (.inl (cal_mem hs))) e)
    · left; omega
  · have := (busy_no hl (by omega) k).1 (hq k hk)
    refine (busy_no hl (by omega) k).2 fun s hs => ?_
    have h2 := this s hs
    by_cases e : s.2.1 ≤ at'
    · exact .inr (hn3 s (slotsY_mem.2 (.inr (cal_mem hs))) e)
    · left; omega
/-- From the last moment on nothing is busy. -/
theorem last_free {ns ls : List (List Slt)} (hn : maysC ns = true) (hl : maysC ls = true) (hM : lastT (slotsY ns ls) < 1099511627776) (k : Nat) :
    busyP ns (lastT (slotsY ns ls)) 1099511627776 k = false ∧ busyP ls (lastT (slotsY ns ls)) 1099511627776 k = false := by
  refine ⟨(busy_no hn hM k).2 fun s hs => .inr (lastT_ge (slotsY_mem.2 (.inl (cal_mem hs)))), (busy_no hl hM k).2 fun s hs => .inr (lastT_ge (slotsY_mem.2 (.inr (cal_mem hs))))⟩
/-- Ahead of it something is. -/
theorem last_busy {ns ls : List (List Slt)} (hn : maysC ns = true) (hl : maysC ls = true) (h0 : 0 < lastT (slotsY ns ls)) :
    (∃ k, k < ns.length ∧ busyP ns (lastT (slotsY ns ls) - 1) (lastT (slotsY ns ls)) k = true) ∨ ∃ k, k < ls.length ∧ busyP ls (lastT (slotsY ns ls) - 1) (lastT (slotsY ns ls)) k = true := by
  have key : ∀ {cs : List (List Slt)}, maysC cs = true → ∀ {c : List Slt} {s : Slt}, c ∈ cs → s ∈ c → s.2.1 = lastT (slotsY ns ls) → ∃ k, k < cs.length ∧ busyP cs (lastT (slotsY ns ls) - 1) (lastT (slotsY ns ls)) k = true := by
    intro cs hm c s hc hs he
    obtain ⟨k, hk, rfl⟩ := List.mem_iff_getElem.1 hc
    refine ⟨k, hk, ?_⟩
    cases e : busyP cs (lastT (slotsY ns ls) - 1) (lastT (slotsY ns ls)) k
    · have := (busy_no hm (by omega) k).1 e s (by rw [List.getD_eq_getElem?_getD, List.getElem?_eq_getElem hk]; exact hs)
      have h2 := (mays_slot hm hc hs).1.2.1
      omega
    · rfl
  obtain ⟨s, hs, he⟩ := lastT_at h0
  rcases slotsY_mem.1 hs with ⟨c, hc, h⟩ | ⟨c, hc, h⟩
  · exact .inl (key hn hc h he)
  · exact .inr (key hl hc h he)
/-- An owner's ends lie within. -/
theorem endsT_in {ns ls : List (List Slt)} (hn : maysC ns = true) (hl : maysC ls = true) {o x : Int} (h : x ∈ endsT o (slotsY ns ls)) : 1 ≤ x ∧ x ≤ lastT (slotsY ns ls) := by
  obtain ⟨s, hs, _, rfl⟩ := endsT_mem.1 h
  have := (slotsY_may hn hl hs).1
  obtain ⟨h1, h2, _⟩ := this
  exact ⟨by omega, lastT_ge hs⟩
theorem ends_times {sl : List Slt} {o x from' : Int} (h : x ∈ endsT o sl) (h1 : from' < x) (h2 : x < 1099511627776) : x ∈ timesT from' sl := by
  obtain ⟨s, hs, _, rfl⟩ := endsT_mem.1 h
  exact timesT_mem.2 (.inr ⟨h1, h2, s, hs, rfl⟩)
theorem up_getD {l : List Int} (h : UpI l) {i j : Nat} (hij : i < j) (hj : j < l.length) : l.getD i 0 < l.getD j 0 := by
  have := List.pairwise_iff_getElem.1 h i j (by omega) hj hij
  simpa [List.getD_eq_getElem?_getD, show i < l.length by omega, hj] using this
theorem ofList_mem {l : List Int} {i : Nat} (h : i < l.length) : l.getD i 0 ∈ l := by
  simp [List.getD_eq_getElem?_getD, h]
theorem times_pos (from' : Int) (sl : List Slt) : 0 < (timesT from' sl).length := List.length_pos_of_mem (timesT_mem.2 (.inl rfl))
theorem times_head (from' : Int) (sl : List Slt) : (timesT from' sl).getD 0 0 = from' := by
  obtain ⟨i, hi, e⟩ := List.mem_iff_getElem.1 (timesT_mem (sl := sl).2 (.inl (rfl : from' = from')))
  have h0 := ofList_mem (times_pos from' sl)
  rcases timesT_mem.1 h0 with h | ⟨h, _⟩
  · exact h
  · by_cases e0 : i = 0
    · subst e0; simp [List.getD_eq_getElem?_getD, hi, e]
    · have := up_getD (timesT_up from' sl) (i := 0) (j := i) (by omega) hi
      rw [List.getD_eq_getElem?_getD (l := timesT from' sl) (i := i), List.getElem?_eq_getElem hi, Option.getD_some, e] at this
      omega
theorem times_end {from' : Int} {sl : List Slt} (h1 : from' < lastT sl) (h2 : lastT sl < 1099511627776) (h0 : 0 ≤ from') : (timesT from' sl).getD ((timesT from' sl).length - 1) 0 = lastT sl := by
  obtain ⟨s, hs, he⟩ := lastT_at (sl := sl) (by omega)
  have hin : lastT sl ∈ timesT from' sl := timesT_mem.2 (.inr ⟨h1, h2, s, hs, he⟩)
  obtain ⟨i, hi, e⟩ := List.mem_iff_getElem.1 hin
  have hl := ofList_mem (l := timesT from' sl) (i := (timesT from' sl).length - 1) (by omega)
  have hle : (timesT from' sl).getD ((timesT from' sl).length - 1) 0 ≤ lastT sl := by
    rcases timesT_mem.1 hl with h | ⟨_, _, s, hs, h⟩
    · omega
    · rw [← h]; exact lastT_ge hs
  by_cases e0 : i = (timesT from' sl).length - 1
  · rw [← e0, List.getD_eq_getElem?_getD, List.getElem?_eq_getElem hi, Option.getD_some, e]
  · have := up_getD (timesT_up from' sl) (i := i) (j := (timesT from' sl).length - 1) (by omega) (by omega)
    rw [List.getD_eq_getElem?_getD (l := timesT from' sl) (i := i), List.getElem?_eq_getElem hi, Option.getD_some, e] at this
    omega

end Go.Proofs.YtldcagjnngkabaaGreatDoor
