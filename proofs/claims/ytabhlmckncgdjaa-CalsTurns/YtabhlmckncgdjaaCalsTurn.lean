/-
  cals.turnEach, cals.turn, handed the closure of Take, of Cut, of Put: what is made of each calendar. (Written by tools/gen/cals_turn.py.)
-/
import Derived.Test.YtabhlmckncgdjaaPart19
namespace Go.Proofs.Ytabhlmckncgdjaa
open Go Go.RowKit Go.Shelf

attribute [local go_sem] Oper.semAt_some ext_const

/-- What is told where there is no error. -/
def rowsE {α : Type} (er : Int) (xs : List α) : List α := if er = 0 then xs else []
def dimE (er a : Int) : Int := if er = 0 then a else 0
def mapTo (ts : Nat → List Slt) (k : Nat) : List (List Slt) := (List.range k).map ts
theorem mapTo_succ (ts : Nat → List Slt) (k : Nat) : mapTo ts (k + 1) = mapTo ts k ++ [ts k] := by simp [mapTo, List.range_succ]
theorem mapTo_len (ts : Nat → List Slt) (k : Nat) : (mapTo ts k).length = k := by simp [mapTo]
def errT (x y : Int) : Int := if x = 0 then y else x

theorem Made.three {W : World} {base g n : Nat} {cs : List (List Slt)} (h : Made W base g cs n) {i : Nat} (hi : i < n) : (∃ u, W.cell? ⟨g, i, none⟩ = some u) ∧ W.frozen? ⟨g, i, none⟩ = false ∧ g < W.heap.size := ⟨h.cell hi, h.frozen i, h.lt⟩

set_option maxRecDepth 100000 in
set_option maxHeartbeats 8000000 in
theorem each_take {cs : List (List Slt)} {v : Value} {es : Nat → Int} {ts : Nat → List Slt} (w : World) (A : Nat) (hS : Yl w v cs) (hn : cs.length ≤ 12288)
    (hc : ∀ (wr : World) (k : Nat) (vc : Value), k < cs.length → Below w.heap.size w wr → Ss wr vc (cs.getD k []) → Calls Try.prog 52 #[I k, vc, .pointer (some ⟨A, 0, none⟩)] wr fun e W' => ∃ u, e = .returned (.tuple #[u, I (es k)]) ∧ So W' wr.heap.size u (ts k) ∧ Below wr.heap.size wr W') :
    Calls Try.prog 84 #[v, .func (.func 52) #[] #[.pointer (some ⟨A, 0, none⟩)]] w fun e W' => ∃ u, e = .returned (.tuple #[u, I (firstE es cs.length)]) ∧ Yo W' w.heap.size u (rowsE (firstE es cs.length) (mapTo ts cs.length)) ∧ Below w.heap.size w W' := by
  obtain ⟨ao, cap, rfl, hS⟩ := hS.form
  have HS : Hid (Yl w (.slice ao cs.length cap) cs) := hS
  have HC : Hid (∀ (wr : World) (k : Nat) (vc : Value), k < cs.length → Below w.heap.size w wr → Ss wr vc (cs.getD k []) → Calls Try.prog 52 #[I k, vc, .pointer (some ⟨A, 0, none⟩)] wr fun e W' => ∃ u, e = .returned (.tuple #[u, I (es k)]) ∧ So W' wr.heap.size u (ts k) ∧ Below wr.heap.size wr W') := hc
  have HF : Hid (∀ k, k < cs.length → firstE es k = 0 → es k ≠ 0 → firstE es cs.length = es k ∧ rowsE (firstE es cs.length) (mapTo ts cs.length) = []) := fun k hk h0 h1 => by
    have e1 := firstE_next h0
    have e2 := firstE_stay (by rw [e1]; exact h1) cs.length (show k + 1 ≤ cs.length by omega)
    rw [e2, e1]
    exact ⟨rfl, if_neg h1⟩
  have HG : Hid (firstE es cs.length = 0 → rowsE (firstE es cs.length) (mapTo ts cs.length) = mapTo ts cs.length) := fun h => by rw [h]; exact if_pos rfl
  have HN : Hid (∀ k, firstE es k = 0 → es k = 0 → firstE es (k + 1) = 0) := fun k h0 h1 => (firstE_next h0).trans h1
  have HM : Hid (∀ k, mapTo ts (k + 1) = mapTo ts k ++ [ts k]) := mapTo_succ ts
  have HL : Hid (∀ k, (mapTo ts k).length = k) := mapTo_len ts
  have HZ : Hid (mapTo ts 0 = []) := rfl
  have HZ0 : Hid (firstE es 0 = 0) := rfl
  generalize rowsE (firstE es cs.length) (mapTo ts cs.length) = tgt at *
  generalize mapTo ts = mt at *
  generalize firstE es = fe at *
  obtain ⟨er, her⟩ : ∃ er, er = fe cs.length := ⟨_, rfl⟩
  rw [← her] at HF HG ⊢
  have HER : Hid (er = fe cs.length) := her
  clear hS hc her
  go_enter Try.func84, Try.ntmps84
  go_wp2_with (at_make; refine wpList_mkY rfl _ _ rfl cs.length rfl rfl (by omega) ?_; intro w1 hK1 hT1)
  have HK1 : Hid (Made w1 w.heap.size w.heap.size (mt 0) cs.length) := by show Made _ _ _ _ _; rw [HZ.out]; exact Made.start hK1 (Nat.le_refl _)
  clear hK1
  go_wp2
  go_loopw [16] (fun i wr => ∃ k : Nat, k ≤ cs.length ∧ i = .int .i64 k ∧ Hid (Made wr w.heap.size w.heap.size (mt k) cs.length) ∧ Hid (fe k = 0) ∧ Below w.heap.size w wr) (fun i _ => cs.length - (intOf i).toNat)
  case atStart => exact ⟨0, by omega, rfl, HK1, HZ0, hT1⟩
  case round =>
    clear HK1 hT1
    obtain ⟨k, hk, rfl, HD, H0, hT⟩ := hrel
    by_cases hlt : (k : Int) < (cs.length : Int)
    · have hk' : k < cs.length := by omega
      obtain ⟨g, off, bo, m, c, rfl, hg, hcc, hs⟩ := (HS.out.later hT).get hk'
      have HC1 : Hid (Calls Try.prog 52 #[I k, .slice bo m c, .pointer (some ⟨A, 0, none⟩)] wr fun e W' => ∃ u, e = .returned (.tuple #[u, I (es k)]) ∧ So W' wr.heap.size u (ts k) ∧ Below wr.heap.size wr W') := HC.out wr k _ hk' hT hs
      have HFk : Hid (es k ≠ 0 → er = es k ∧ tgt = []) := HF.out k hk' H0.out
      have HNk : Hid (es k = 0 → fe (k + 1) = 0) := HN.out k H0.out
      have HMk : Hid (mt (k + 1) = mt k ++ [ts k]) := HM.out k
      have HLk : Hid ((mt k).length = k) := HL.out k
      generalize es k = x at HC1 HFk HNk
      generalize ts k = y at HC1 HMk
      clear hs
      by_cases hx : x = 0
      · have HE : Hid (fe (k + 1) = 0) := HNk.out hx
        subst hx
        clear HFk HNk
        go_wp2_with fail
        refine HC1.out.mono ?_
        rintro e w2 ⟨u, rfl, hO, hB2⟩
        have HD2 := HD.out.later hB2
        obtain ⟨⟨u0, hc0⟩, hf0, hz0⟩ := HD2.three hk'
        have HP := HD2.put (hO.weak hT.size) (by rw [HLk.out]; exact hk')
        rw [HLk.out, ← HMk.out] at HP
        have HP : Hid (Made (w2.setCell ⟨w.heap.size, k, none⟩ u) w.heap.size w.heap.size (mt (k + 1)) cs.length) := HP
        have HT2 : Hid (Below w.heap.size w (w2.setCell ⟨w.heap.size, k, none⟩ u)) := (then_below hT hB2).setCell (p := ⟨w.heap.size, k, none⟩) (Nat.le_refl _) u
        obtain ⟨ao2, n2, c2, rfl⟩ := hO.slice
        clear hO HD2
        go_wp2
        go_roundw
        case rel => exact ⟨k + 1, by omega, by go_num, HP, HE, HT2.out⟩
        case measure => simp [intOf]; omega
      · obtain ⟨E1, E2⟩ := HFk.out hx
        subst E1 E2
        clear HFk HNk
        go_wp2_with fail
        refine HC1.out.mono ?_
        rintro e w2 ⟨u, rfl, hO, hB2⟩
        clear hO
        have hxb : (er != 0) = true := by simpa using hx
        go_wp2
        go_ret2
        exact ⟨_, rfl, Yo.nil _ _, then_below hT hB2⟩
    · obtain rfl : k = cs.length := by omega
      have E : er = 0 := HER.out.trans H0.out
      have E2 : tgt = mt cs.length := HG.out E
      have HYY : Hid (Yo wr w.heap.size (.slice (some ⟨w.heap.size, 0, none⟩) cs.length cs.length) tgt) := by show Yo _ _ _ _; rw [E2]; exact HD.out.yo (HL.out _) (by omega)
      clear E2
      subst E
      go_wp2
      go_ret2
      exact ⟨_, rfl, HYY.out, hT⟩

set_option maxRecDepth 100000 in
set_option maxHeartbeats 8000000 in
theorem turn_take {a b c : Int} {n l : Value} {ns ls : List (List Slt)} {es fs : Nat → Int} {ts us : Nat → List Slt} {er : Int} (w : World) (A : Nat) (hN : Yl w n ns) (hL : Yl w l ls) (hn : ns.length ≤ 12288) (hl : ls.length ≤ 12288)
    (hc : ∀ (wr : World) (k : Nat) (vc : Value), k < ns.length → Below w.heap.size w wr → Ss wr vc (ns.getD k []) → Calls Try.prog 52 #[I k, vc, .pointer (some ⟨A, 0, none⟩)] wr fun e W' => ∃ u, e = .returned (.tuple #[u, I (es k)]) ∧ So W' wr.heap.size u (ts k) ∧ Below wr.heap.size wr W')
    (hd : ∀ (wr : World) (k : Nat) (vc : Value), k < ls.length → Below w.heap.size w wr → Ss wr vc (ls.getD k []) → Calls Try.prog 52 #[I k, vc, .pointer (some ⟨A, 0, none⟩)] wr fun e W' => ∃ u, e = .returned (.tuple #[u, I (fs k)]) ∧ So W' wr.heap.size u (us k) ∧ Below wr.heap.size wr W') (he : er = errT (firstE es ns.length) (firstE fs ls.length)) :
    Calls Try.prog 39 #[Y5 a b c n l, .func (.func 52) #[] #[.pointer (some ⟨A, 0, none⟩)], .func (.func 52) #[] #[.pointer (some ⟨A, 0, none⟩)]] w fun e W' => ∃ u v, e = .returned (.tuple #[Y5 (dimE er a) (dimE er b) (dimE er c) u v, I er]) ∧ Yo W' w.heap.size u (rowsE er (mapTo ts ns.length)) ∧ Yo W' w.heap.size v (rowsE er (mapTo us ls.length)) ∧ Below w.heap.size w W' := by
  obtain ⟨W, hW, hB, hK, hR⟩ := two_start w (K5 a b c n l) (K5 0 0 0 (.slice none 0 0) (.slice none 0 0)) 26 26
  have HW : Hid ((w.alloc (.cells (K5 a b c n l) 26)).alloc (.cells (K5 0 0 0 (.slice none 0 0) (.slice none 0 0)) 26) = W) := hW
  have H1 : Hid (Calls Try.prog 84 #[n, .func (.func 52) #[] #[.pointer (some ⟨A, 0, none⟩)]] W fun e W' => ∃ u, e = .returned (.tuple #[u, I (firstE es ns.length)]) ∧ Yo W' W.heap.size u (rowsE (firstE es ns.length) (mapTo ts ns.length)) ∧ Below W.heap.size W W') := each_take W A (hN.later hB) hn (fun wr k vc hk hb hs => hc wr k vc hk (then_below hB hb) hs)
  have H2 : Hid (∀ w1, Below W.heap.size W w1 → Calls Try.prog 84 #[l, .func (.func 52) #[] #[.pointer (some ⟨A, 0, none⟩)]] w1 fun e W' => ∃ u, e = .returned (.tuple #[u, I (firstE fs ls.length)]) ∧ Yo W' w1.heap.size u (rowsE (firstE fs ls.length) (mapTo us ls.length)) ∧ Below w1.heap.size w1 W') := fun w1 hb => each_take w1 A (hL.later (then_below hB hb)) hl (fun wr k vc hk hb' hs => hd wr k vc hk (then_below hB (then_below hb hb')) hs)
  clear hW hc hd hN hL
  generalize firstE es ns.length = x at *
  generalize firstE fs ls.length = y at *
  generalize mapTo ts ns.length = r1 at *
  generalize mapTo us ls.length = r2 at *
  clear hn hl
  have hWs : w.heap.size + 1 < W.heap.size := hR.lt
  by_cases hx : x = 0
  · subst hx
    have he2 : er = y := he
    clear he
    subst he2
    by_cases hy : er = 0
    · subst hy
      have HD : Hid (∀ a : Int, dimE 0 a = a) := fun a => if_pos rfl
      rw [HD.out, HD.out, HD.out]
      rw [show rowsE 0 r1 = r1 from if_pos rfl] at H1 ⊢
      rw [show rowsE 0 r2 = r2 from if_pos rfl] at H2 ⊢
      clear HD
      go_enter Try.func39, Try.ntmps39
      go_wp2_with fail
      rw [HW.out]
      go_wp2_with fail
      refine H1.out.mono ?_
      rintro e w1 ⟨u, rfl, hU, hT⟩
      obtain ⟨ao1, n1, c1, rfl⟩ := hU.slice
      obtain ⟨p0, p1, p2, p3, p4, hz⟩ := hK.yard hT
      go_wp2_with fail
      refine (H2.out _ hT).mono ?_
      rintro e w2 ⟨v, rfl, hV, hB2⟩
      obtain ⟨ao2, n2, c2, rfl⟩ := hV.slice
      have hT2 := then_below hT hB2
      have hR2 := hR.later hT2
      have HS := hR2.set5 (.int .i64 a) (.int .i64 b) (.int .i64 c) (.slice ao1 n1 c1) (.slice ao2 n2 c2)
      have hlow := below_set5 (then_below hB hT2) (show w.heap.size ≤ w.heap.size + 1 by omega) (.int .i64 a) (.int .i64 b) (.int .i64 c) (.slice ao1 n1 c1) (.slice ao2 n2 c2)
      have HU : Hid (Yo (put5 w2 (w.heap.size + 1) (.int .i64 a) (.int .i64 b) (.int .i64 c) (.slice ao1 n1 c1) (.slice ao2 n2 c2)) w.heap.size (.slice ao1 n1 c1) r1) := ((hU.later hB2).put5 hWs _ _ _ _ _).weak hB.size
      have HV : Hid (Yo (put5 w2 (w.heap.size + 1) (.int .i64 a) (.int .i64 b) (.int .i64 c) (.slice ao1 n1 c1) (.slice ao2 n2 c2)) w.heap.size (.slice ao2 n2 c2) r2) := (hV.put5 (Nat.lt_of_lt_of_le hWs hT.size) _ _ _ _ _).weak (Nat.le_trans hB.size hT.size)
      clear p0 p1 p2 p3 p4 hz
      obtain ⟨p0, p1, p2, p3, p4, hz⟩ := hK.yard hT2
      obtain ⟨q0, q1, q2, q3, q4, hzq⟩ := hR2.five
      obtain ⟨f0, f1, f2, f3, f4⟩ := hR2.row5
      go_wp2_with fail
      obtain ⟨j0, j1, j2, j3, j4, _⟩ := HS.five
      exact bodyPost_ret (v := .tuple #[Y5 a b c (.slice ao1 n1 c1) (.slice ao2 n2 c2), I 0]) (by simp [results, Try.f39, go_sem, j0, j1, j2, j3, j4]) rfl ⟨_, _, rfl, HU.out, HV.out, hlow⟩
    · have HD : Hid (∀ a : Int, dimE er a = 0) := fun a => if_neg hy
      rw [HD.out, HD.out, HD.out]
      rw [show rowsE 0 r1 = r1 from if_pos rfl] at H1
      rw [show rowsE er r2 = [] from if_neg hy] at H2 ⊢
      rw [show rowsE er r1 = [] from if_neg hy]
      have hyb : (er != 0) = true := by simpa using hy
      clear HD hy
      go_enter Try.func39, Try.ntmps39
      go_wp2_with fail
      rw [HW.out]
      go_wp2_with fail
      refine H1.out.mono ?_
      rintro e w1 ⟨u, rfl, hU, hT⟩
      clear hU
      obtain ⟨p0, p1, p2, p3, p4, hz⟩ := hK.yard hT
      go_wp2_with fail
      refine (H2.out _ hT).mono ?_
      rintro e w2 ⟨v, rfl, hV, hB2⟩
      clear hV
      have hT2 := then_below hT hB2
      have hR2 := hR.later hT2
      have HS := hR2.set5 (.int .i64 0) (.int .i64 0) (.int .i64 0) (.slice none 0 0) (.slice none 0 0)
      have hlow := below_set5 (then_below hB hT2) (show w.heap.size ≤ w.heap.size + 1 by omega) (.int .i64 0) (.int .i64 0) (.int .i64 0) (.slice none 0 0) (.slice none 0 0)
      try clear p0 p1 p2 p3 p4 hz
      obtain ⟨q0, q1, q2, q3, q4, hzq⟩ := hR2.five
      obtain ⟨f0, f1, f2, f3, f4⟩ := hR2.row5
      go_wp2_with fail
      obtain ⟨j0, j1, j2, j3, j4, _⟩ := HS.five
      exact bodyPost_ret (v := .tuple #[Y5 0 0 0 (.slice none 0 0) (.slice none 0 0), I er]) (by simp [results, Try.f39, go_sem, j0, j1, j2, j3, j4]) rfl ⟨_, _, rfl, Yo.nil _ _, Yo.nil _ _, hlow⟩
  · have he2 : er = x := by rw [he, errT, if_neg hx]
    clear he
    subst he2
    have HD : Hid (∀ a : Int, dimE er a = 0) := fun a => if_neg hx
    rw [HD.out, HD.out, HD.out]
    rw [show rowsE er r1 = [] from if_neg hx] at H1 ⊢
    rw [show rowsE er r2 = [] from if_neg hx]
    have hyb : (er != 0) = true := by simpa using hx
    clear HD hx
    go_enter Try.func39, Try.ntmps39
    go_wp2_with fail
    rw [HW.out]
    go_wp2_with fail
    refine H1.out.mono ?_
    rintro e w2 ⟨u, rfl, hU, hT2⟩
    clear hU
    have hR2 := hR.later hT2
    have HS := hR2.set5 (.int .i64 0) (.int .i64 0) (.int .i64 0) (.slice none 0 0) (.slice none 0 0)
    have hlow := below_set5 (then_below hB hT2) (show w.heap.size ≤ w.heap.size + 1 by omega) (.int .i64 0) (.int .i64 0) (.int .i64 0) (.slice none 0 0) (.slice none 0 0)
    try clear p0 p1 p2 p3 p4 hz
    obtain ⟨q0, q1, q2, q3, q4, hzq⟩ := hR2.five
    obtain ⟨f0, f1, f2, f3, f4⟩ := hR2.row5
    go_wp2_with fail
    obtain ⟨j0, j1, j2, j3, j4, _⟩ := HS.five
    exact bodyPost_ret (v := .tuple #[Y5 0 0 0 (.slice none 0 0) (.slice none 0 0), I er]) (by simp [results, Try.f39, go_sem, j0, j1, j2, j3, j4]) rfl ⟨_, _, rfl, Yo.nil _ _, Yo.nil _ _, hlow⟩

set_option maxRecDepth 100000 in
set_option maxHeartbeats 8000000 in
theorem each_cut {cs : List (List Slt)} {v : Value} {es : Nat → Int} {ts : Nat → List Slt} (w : World) (A B : Nat) (hS : Yl w v cs) (hn : cs.length ≤ 12288)
    (hc : ∀ (wr : World) (k : Nat) (vc : Value), k < cs.length → Below w.heap.size w wr → Ss wr vc (cs.getD k []) → Calls Try.prog 49 #[I k, vc, .pointer (some ⟨A, 0, none⟩), .pointer (some ⟨B, 0, none⟩)] wr fun e W' => ∃ u, e = .returned (.tuple #[u, I (es k)]) ∧ So W' wr.heap.size u (ts k) ∧ Below wr.heap.size wr W') :
    Calls Try.prog 84 #[v, .func (.func 49) #[] #[.pointer (some ⟨A, 0, none⟩), .pointer (some ⟨B, 0, none⟩)]] w fun e W' => ∃ u, e = .returned (.tuple #[u, I (firstE es cs.length)]) ∧ Yo W' w.heap.size u (rowsE (firstE es cs.length) (mapTo ts cs.length)) ∧ Below w.heap.size w W' := by
  obtain ⟨ao, cap, rfl, hS⟩ := hS.form
  have HS : Hid (Yl w (.slice ao cs.length cap) cs) := hS
  have HC : Hid (∀ (wr : World) (k : Nat) (vc : Value), k < cs.length → Below w.heap.size w wr → Ss wr vc (cs.getD k []) → Calls Try.prog 49 #[I k, vc, .pointer (some ⟨A, 0, none⟩), .pointer (some ⟨B, 0, none⟩)] wr fun e W' => ∃ u, e = .returned (.tuple #[u, I (es k)]) ∧ So W' wr.heap.size u (ts k) ∧ Below wr.heap.size wr W') := hc
  have HF : Hid (∀ k, k < cs.length → firstE es k = 0 → es k ≠ 0 → firstE es cs.length = es k ∧ rowsE (firstE es cs.length) (mapTo ts cs.length) = []) := fun k hk h0 h1 => by
    have e1 := firstE_next h0
    have e2 := firstE_stay (by rw [e1]; exact h1) cs.length (show k + 1 ≤ cs.length by omega)
    rw [e2, e1]
    exact ⟨rfl, if_neg h1⟩
  have HG : Hid (firstE es cs.length = 0 → rowsE (firstE es cs.length) (mapTo ts cs.length) = mapTo ts cs.length) := fun h => by rw [h]; exact if_pos rfl
  have HN : Hid (∀ k, firstE es k = 0 → es k = 0 → firstE es (k + 1) = 0) := fun k h0 h1 => (firstE_next h0).trans h1
  have HM : Hid (∀ k, mapTo ts (k + 1) = mapTo ts k ++ [ts k]) := mapTo_succ ts
  have HL : Hid (∀ k, (mapTo ts k).length = k) := mapTo_len ts
  have HZ : Hid (mapTo ts 0 = []) := rfl
  have HZ0 : Hid (firstE es 0 = 0) := rfl
  generalize rowsE (firstE es cs.length) (mapTo ts cs.length) = tgt at *
  generalize mapTo ts = mt at *
  generalize firstE es = fe at *
  obtain ⟨er, her⟩ : ∃ er, er = fe cs.length := ⟨_, rfl⟩
  rw [← her] at HF HG ⊢
  have HER : Hid (er = fe cs.length) := her
  clear hS hc her
  go_enter Try.func84, Try.ntmps84
  go_wp2_with (at_make; refine wpList_mkY rfl _ _ rfl cs.length rfl rfl (by omega) ?_; intro w1 hK1 hT1)
  have HK1 : Hid (Made w1 w.heap.size w.heap.size (mt 0) cs.length) := by show Made _ _ _ _ _; rw [HZ.out]; exact Made.start hK1 (Nat.le_refl _)
  clear hK1
  go_wp2
  go_loopw [16] (fun i wr => ∃ k : Nat, k ≤ cs.length ∧ i = .int .i64 k ∧ Hid (Made wr w.heap.size w.heap.size (mt k) cs.length) ∧ Hid (fe k = 0) ∧ Below w.heap.size w wr) (fun i _ => cs.length - (intOf i).toNat)
  case atStart => exact ⟨0, by omega, rfl, HK1, HZ0, hT1⟩
  case round =>
    clear HK1 hT1
    obtain ⟨k, hk, rfl, HD, H0, hT⟩ := hrel
    by_cases hlt : (k : Int) < (cs.length : Int)
    · have hk' : k < cs.length := by omega
      obtain ⟨g, off, bo, m, c, rfl, hg, hcc, hs⟩ := (HS.out.later hT).get hk'
      have HC1 : Hid (Calls Try.prog 49 #[I k, .slice bo m c, .pointer (some ⟨A, 0, none⟩), .pointer (some ⟨B, 0, none⟩)] wr fun e W' => ∃ u, e = .returned (.tuple #[u, I (es k)]) ∧ So W' wr.heap.size u (ts k) ∧ Below wr.heap.size wr W') := HC.out wr k _ hk' hT hs
      have HFk : Hid (es k ≠ 0 → er = es k ∧ tgt = []) := HF.out k hk' H0.out
      have HNk : Hid (es k = 0 → fe (k + 1) = 0) := HN.out k H0.out
      have HMk : Hid (mt (k + 1) = mt k ++ [ts k]) := HM.out k
      have HLk : Hid ((mt k).length = k) := HL.out k
      generalize es k = x at HC1 HFk HNk
      generalize ts k = y at HC1 HMk
      clear hs
      by_cases hx : x = 0
      · have HE : Hid (fe (k + 1) = 0) := HNk.out hx
        subst hx
        clear HFk HNk
        go_wp2_with fail
        refine HC1.out.mono ?_
        rintro e w2 ⟨u, rfl, hO, hB2⟩
        have HD2 := HD.out.later hB2
        obtain ⟨⟨u0, hc0⟩, hf0, hz0⟩ := HD2.three hk'
        have HP := HD2.put (hO.weak hT.size) (by rw [HLk.out]; exact hk')
        rw [HLk.out, ← HMk.out] at HP
        have HP : Hid (Made (w2.setCell ⟨w.heap.size, k, none⟩ u) w.heap.size w.heap.size (mt (k + 1)) cs.length) := HP
        have HT2 : Hid (Below w.heap.size w (w2.setCell ⟨w.heap.size, k, none⟩ u)) := (then_below hT hB2).setCell (p := ⟨w.heap.size, k, none⟩) (Nat.le_refl _) u
        obtain ⟨ao2, n2, c2, rfl⟩ := hO.slice
        clear hO HD2
        go_wp2
        go_roundw
        case rel => exact ⟨k + 1, by omega, by go_num, HP, HE, HT2.out⟩
        case measure => simp [intOf]; omega
      · obtain ⟨E1, E2⟩ := HFk.out hx
        subst E1 E2
        clear HFk HNk
        go_wp2_with fail
        refine HC1.out.mono ?_
        rintro e w2 ⟨u, rfl, hO, hB2⟩
        clear hO
        have hxb : (er != 0) = true := by simpa using hx
        go_wp2
        go_ret2
        exact ⟨_, rfl, Yo.nil _ _, then_below hT hB2⟩
    · obtain rfl : k = cs.length := by omega
      have E : er = 0 := HER.out.trans H0.out
      have E2 : tgt = mt cs.length := HG.out E
      have HYY : Hid (Yo wr w.heap.size (.slice (some ⟨w.heap.size, 0, none⟩) cs.length cs.length) tgt) := by show Yo _ _ _ _; rw [E2]; exact HD.out.yo (HL.out _) (by omega)
      clear E2
      subst E
      go_wp2
      go_ret2
      exact ⟨_, rfl, HYY.out, hT⟩

set_option maxRecDepth 100000 in
set_option maxHeartbeats 8000000 in
theorem turn_cut {a b c : Int} {n l : Value} {ns ls : List (List Slt)} {es fs : Nat → Int} {ts us : Nat → List Slt} {er : Int} (w : World) (A B : Nat) (hN : Yl w n ns) (hL : Yl w l ls) (hn : ns.length ≤ 12288) (hl : ls.length ≤ 12288)
    (hc : ∀ (wr : World) (k : Nat) (vc : Value), k < ns.length → Below w.heap.size w wr → Ss wr vc (ns.getD k []) → Calls Try.prog 49 #[I k, vc, .pointer (some ⟨A, 0, none⟩), .pointer (some ⟨B, 0, none⟩)] wr fun e W' => ∃ u, e = .returned (.tuple #[u, I (es k)]) ∧ So W' wr.heap.size u (ts k) ∧ Below wr.heap.size wr W')
    (hd : ∀ (wr : World) (k : Nat) (vc : Value), k < ls.length → Below w.heap.size w wr → Ss wr vc (ls.getD k []) → Calls Try.prog 49 #[I k, vc, .pointer (some ⟨A, 0, none⟩), .pointer (some ⟨B, 0, none⟩)] wr fun e W' => ∃ u, e = .returned (.tuple #[u, I (fs k)]) ∧ So W' wr.heap.size u (us k) ∧ Below wr.heap.size wr W') (he : er = errT (firstE es ns.length) (firstE fs ls.length)) :
    Calls Try.prog 39 #[Y5 a b c n l, .func (.func 49) #[] #[.pointer (some ⟨A, 0, none⟩), .pointer (some ⟨B, 0, none⟩)], .func (.func 49) #[] #[.pointer (some ⟨A, 0, none⟩), .pointer (some ⟨B, 0, none⟩)]] w fun e W' => ∃ u v, e = .returned (.tuple #[Y5 (dimE er a) (dimE er b) (dimE er c) u v, I er]) ∧ Yo W' w.heap.size u (rowsE er (mapTo ts ns.length)) ∧ Yo W' w.heap.size v (rowsE er (mapTo us ls.length)) ∧ Below w.heap.size w W' := by
  obtain ⟨W, hW, hB, hK, hR⟩ := two_start w (K5 a b c n l) (K5 0 0 0 (.slice none 0 0) (.slice none 0 0)) 26 26
  have HW : Hid ((w.alloc (.cells (K5 a b c n l) 26)).alloc (.cells (K5 0 0 0 (.slice none 0 0) (.slice none 0 0)) 26) = W) := hW
  have H1 : Hid (Calls Try.prog 84 #[n, .func (.func 49) #[] #[.pointer (some ⟨A, 0, none⟩), .pointer (some ⟨B, 0, none⟩)]] W fun e W' => ∃ u, e = .returned (.tuple #[u, I (firstE es ns.length)]) ∧ Yo W' W.heap.size u (rowsE (firstE es ns.length) (mapTo ts ns.length)) ∧ Below W.heap.size W W') := each_cut W A B (hN.later hB) hn (fun wr k vc hk hb hs => hc wr k vc hk (then_below hB hb) hs)
  have H2 : Hid (∀ w1, Below W.heap.size W w1 → Calls Try.prog 84 #[l, .func (.func 49) #[] #[.pointer (some ⟨A, 0, none⟩), .pointer (some ⟨B, 0, none⟩)]] w1 fun e W' => ∃ u, e = .returned (.tuple #[u, I (firstE fs ls.length)]) ∧ Yo W' w1.heap.size u (rowsE (firstE fs ls.length) (mapTo us ls.length)) ∧ Below w1.heap.size w1 W') := fun w1 hb => each_cut w1 A B (hL.later (then_below hB hb)) hl (fun wr k vc hk hb' hs => hd wr k vc hk (then_below hB (then_below hb hb')) hs)
  clear hW hc hd hN hL
  generalize firstE es ns.length = x at *
  generalize firstE fs ls.length = y at *
  generalize mapTo ts ns.length = r1 at *
  generalize mapTo us ls.length = r2 at *
  clear hn hl
  have hWs : w.heap.size + 1 < W.heap.size := hR.lt
  by_cases hx : x = 0
  · subst hx
    have he2 : er = y := he
    clear he
    subst he2
    by_cases hy : er = 0
    · subst hy
      have HD : Hid (∀ a : Int, dimE 0 a = a) := fun a => if_pos rfl
      rw [HD.out, HD.out, HD.out]
      rw [show rowsE 0 r1 = r1 from if_pos rfl] at H1 ⊢
      rw [show rowsE 0 r2 = r2 from if_pos rfl] at H2 ⊢
      clear HD
      go_enter Try.func39, Try.ntmps39
      go_wp2_with fail
      rw [HW.out]
      go_wp2_with fail
      refine H1.out.mono ?_
      rintro e w1 ⟨u, rfl, hU, hT⟩
      obtain ⟨ao1, n1, c1, rfl⟩ := hU.slice
      obtain ⟨p0, p1, p2, p3, p4, hz⟩ := hK.yard hT
      go_wp2_with fail
      refine (H2.out _ hT).mono ?_
      rintro e w2 ⟨v, rfl, hV, hB2⟩
      obtain ⟨ao2, n2, c2, rfl⟩ := hV.slice
      have hT2 := then_below hT hB2
      have hR2 := hR.later hT2
      have HS := hR2.set5 (.int .i64 a) (.int .i64 b) (.int .i64 c) (.slice ao1 n1 c1) (.slice ao2 n2 c2)
      have hlow := below_set5 (then_below hB hT2) (show w.heap.size ≤ w.heap.size + 1 by omega) (.int .i64 a) (.int .i64 b) (.int .i64 c) (.slice ao1 n1 c1) (.slice ao2 n2 c2)
      have HU : Hid (Yo (put5 w2 (w.heap.size + 1) (.int .i64 a) (.int .i64 b) (.int .i64 c) (.slice ao1 n1 c1) (.slice ao2 n2 c2)) w.heap.size (.slice ao1 n1 c1) r1) := ((hU.later hB2).put5 hWs _ _ _ _ _).weak hB.size
      have HV : Hid (Yo (put5 w2 (w.heap.size + 1) (.int .i64 a) (.int .i64 b) (.int .i64 c) (.slice ao1 n1 c1) (.slice ao2 n2 c2)) w.heap.size (.slice ao2 n2 c2) r2) := (hV.put5 (Nat.lt_of_lt_of_le hWs hT.size) _ _ _ _ _).weak (Nat.le_trans hB.size hT.size)
      clear p0 p1 p2 p3 p4 hz
      obtain ⟨p0, p1, p2, p3, p4, hz⟩ := hK.yard hT2
      obtain ⟨q0, q1, q2, q3, q4, hzq⟩ := hR2.five
      obtain ⟨f0, f1, f2, f3, f4⟩ := hR2.row5
      go_wp2_with fail
      obtain ⟨j0, j1, j2, j3, j4, _⟩ := HS.five
      exact bodyPost_ret (v := .tuple #[Y5 a b c (.slice ao1 n1 c1) (.slice ao2 n2 c2), I 0]) (by simp [results, Try.f39, go_sem, j0, j1, j2, j3, j4]) rfl ⟨_, _, rfl, HU.out, HV.out, hlow⟩
    · have HD : Hid (∀ a : Int, dimE er a = 0) := fun a => if_neg hy
      rw [HD.out, HD.out, HD.out]
      rw [show rowsE 0 r1 = r1 from if_pos rfl] at H1
      rw [show rowsE er r2 = [] from if_neg hy] at H2 ⊢
      rw [show rowsE er r1 = [] from if_neg hy]
      have hyb : (er != 0) = true := by simpa using hy
      clear HD hy
      go_enter Try.func39, Try.ntmps39
      go_wp2_with fail
      rw [HW.out]
      go_wp2_with fail
      refine H1.out.mono ?_
      rintro e w1 ⟨u, rfl, hU, hT⟩
      clear hU
      obtain ⟨p0, p1, p2, p3, p4, hz⟩ := hK.yard hT
      go_wp2_with fail
      refine (H2.out _ hT).mono ?_
      rintro e w2 ⟨v, rfl, hV, hB2⟩
      clear hV
      have hT2 := then_below hT hB2
      have hR2 := hR.later hT2
      have HS := hR2.set5 (.int .i64 0) (.int .i64 0) (.int .i64 0) (.slice none 0 0) (.slice none 0 0)
      have hlow := below_set5 (then_below hB hT2) (show w.heap.size ≤ w.heap.size + 1 by omega) (.int .i64 0) (.int .i64 0) (.int .i64 0) (.slice none 0 0) (.slice none 0 0)
      try clear p0 p1 p2 p3 p4 hz
      obtain ⟨q0, q1, q2, q3, q4, hzq⟩ := hR2.five
      obtain ⟨f0, f1, f2, f3, f4⟩ := hR2.row5
      go_wp2_with fail
      obtain ⟨j0, j1, j2, j3, j4, _⟩ := HS.five
      exact bodyPost_ret (v := .tuple #[Y5 0 0 0 (.slice none 0 0) (.slice none 0 0), I er]) (by simp [results, Try.f39, go_sem, j0, j1, j2, j3, j4]) rfl ⟨_, _, rfl, Yo.nil _ _, Yo.nil _ _, hlow⟩
  · have he2 : er = x := by rw [he, errT, if_neg hx]
    clear he
    subst he2
    have HD : Hid (∀ a : Int, dimE er a = 0) := fun a => if_neg hx
    rw [HD.out, HD.out, HD.out]
    rw [show rowsE er r1 = [] from if_neg hx] at H1 ⊢
    rw [show rowsE er r2 = [] from if_neg hx]
    have hyb : (er != 0) = true := by simpa using hx
    clear HD hx
    go_enter Try.func39, Try.ntmps39
    go_wp2_with fail
    rw [HW.out]
    go_wp2_with fail
    refine H1.out.mono ?_
    rintro e w2 ⟨u, rfl, hU, hT2⟩
    clear hU
    have hR2 := hR.later hT2
    have HS := hR2.set5 (.int .i64 0) (.int .i64 0) (.int .i64 0) (.slice none 0 0) (.slice none 0 0)
    have hlow := below_set5 (then_below hB hT2) (show w.heap.size ≤ w.heap.size + 1 by omega) (.int .i64 0) (.int .i64 0) (.int .i64 0) (.slice none 0 0) (.slice none 0 0)
    try clear p0 p1 p2 p3 p4 hz
    obtain ⟨q0, q1, q2, q3, q4, hzq⟩ := hR2.five
    obtain ⟨f0, f1, f2, f3, f4⟩ := hR2.row5
    go_wp2_with fail
    obtain ⟨j0, j1, j2, j3, j4, _⟩ := HS.five
    exact bodyPost_ret (v := .tuple #[Y5 0 0 0 (.slice none 0 0) (.slice none 0 0), I er]) (by simp [results, Try.f39, go_sem, j0, j1, j2, j3, j4]) rfl ⟨_, _, rfl, Yo.nil _ _, Yo.nil _ _, hlow⟩

set_option maxRecDepth 100000 in
set_option maxHeartbeats 8000000 in
theorem each_put {cs : List (List Slt)} {v : Value} {es : Nat → Int} {ts : Nat → List Slt} (w : World) (A B D : Nat) (hS : Yl w v cs) (hn : cs.length ≤ 12288)
    (hc : ∀ (wr : World) (k : Nat) (vc : Value), k < cs.length → Below w.heap.size w wr → Ss wr vc (cs.getD k []) → Calls Try.prog 36 #[I k, vc, .pointer (some ⟨A, 0, none⟩), .pointer (some ⟨B, 0, none⟩), .pointer (some ⟨D, 0, none⟩)] wr fun e W' => ∃ u, e = .returned (.tuple #[u, I (es k)]) ∧ So W' wr.heap.size u (ts k) ∧ Below wr.heap.size wr W') :
    Calls Try.prog 84 #[v, .func (.func 36) #[] #[.pointer (some ⟨A, 0, none⟩), .pointer (some ⟨B, 0, none⟩), .pointer (some ⟨D, 0, none⟩)]] w fun e W' => ∃ u, e = .returned (.tuple #[u, I (firstE es cs.length)]) ∧ Yo W' w.heap.size u (rowsE (firstE es cs.length) (mapTo ts cs.length)) ∧ Below w.heap.size w W' := by
  obtain ⟨ao, cap, rfl, hS⟩ := hS.form
  have HS : Hid (Yl w (.slice ao cs.length cap) cs) := hS
  have HC : Hid (∀ (wr : World) (k : Nat) (vc : Value), k < cs.length → Below w.heap.size w wr → Ss wr vc (cs.getD k []) → Calls Try.prog 36 #[I k, vc, .pointer (some ⟨A, 0, none⟩), .pointer (some ⟨B, 0, none⟩), .pointer (some ⟨D, 0, none⟩)] wr fun e W' => ∃ u, e = .returned (.tuple #[u, I (es k)]) ∧ So W' wr.heap.size u (ts k) ∧ Below wr.heap.size wr W') := hc
  have HF : Hid (∀ k, k < cs.length → firstE es k = 0 → es k ≠ 0 → firstE es cs.length = es k ∧ rowsE (firstE es cs.length) (mapTo ts cs.length) = []) := fun k hk h0 h1 => by
    have e1 := firstE_next h0
    have e2 := firstE_stay (by rw [e1]; exact h1) cs.length (show k + 1 ≤ cs.length by omega)
    rw [e2, e1]
    exact ⟨rfl, if_neg h1⟩
  have HG : Hid (firstE es cs.length = 0 → rowsE (firstE es cs.length) (mapTo ts cs.length) = mapTo ts cs.length) := fun h => by rw [h]; exact if_pos rfl
  have HN : Hid (∀ k, firstE es k = 0 → es k = 0 → firstE es (k + 1) = 0) := fun k h0 h1 => (firstE_next h0).trans h1
  have HM : Hid (∀ k, mapTo ts (k + 1) = mapTo ts k ++ [ts k]) := mapTo_succ ts
  have HL : Hid (∀ k, (mapTo ts k).length = k) := mapTo_len ts
  have HZ : Hid (mapTo ts 0 = []) := rfl
  have HZ0 : Hid (firstE es 0 = 0) := rfl
  generalize rowsE (firstE es cs.length) (mapTo ts cs.length) = tgt at *
  generalize mapTo ts = mt at *
  generalize firstE es = fe at *
  obtain ⟨er, her⟩ : ∃ er, er = fe cs.length := ⟨_, rfl⟩
  rw [← her] at HF HG ⊢
  have HER : Hid (er = fe cs.length) := her
  clear hS hc her
  go_enter Try.func84, Try.ntmps84
  go_wp2_with (at_make; refine wpList_mkY rfl _ _ rfl cs.length rfl rfl (by omega) ?_; intro w1 hK1 hT1)
  have HK1 : Hid (Made w1 w.heap.size w.heap.size (mt 0) cs.length) := by show Made _ _ _ _ _; rw [HZ.out]; exact Made.start hK1 (Nat.le_refl _)
  clear hK1
  go_wp2
  go_loopw [16] (fun i wr => ∃ k : Nat, k ≤ cs.length ∧ i = .int .i64 k ∧ Hid (Made wr w.heap.size w.heap.size (mt k) cs.length) ∧ Hid (fe k = 0) ∧ Below w.heap.size w wr) (fun i _ => cs.length - (intOf i).toNat)
  case atStart => exact ⟨0, by omega, rfl, HK1, HZ0, hT1⟩
  case round =>
    clear HK1 hT1
    obtain ⟨k, hk, rfl, HD, H0, hT⟩ := hrel
    by_cases hlt : (k : Int) < (cs.length : Int)
    · have hk' : k < cs.length := by omega
      obtain ⟨g, off, bo, m, c, rfl, hg, hcc, hs⟩ := (HS.out.later hT).get hk'
      have HC1 : Hid (Calls Try.prog 36 #[I k, .slice bo m c, .pointer (some ⟨A, 0, none⟩), .pointer (some ⟨B, 0, none⟩), .pointer (some ⟨D, 0, none⟩)] wr fun e W' => ∃ u, e = .returned (.tuple #[u, I (es k)]) ∧ So W' wr.heap.size u (ts k) ∧ Below wr.heap.size wr W') := HC.out wr k _ hk' hT hs
      have HFk : Hid (es k ≠ 0 → er = es k ∧ tgt = []) := HF.out k hk' H0.out
      have HNk : Hid (es k = 0 → fe (k + 1) = 0) := HN.out k H0.out
      have HMk : Hid (mt (k + 1) = mt k ++ [ts k]) := HM.out k
      have HLk : Hid ((mt k).length = k) := HL.out k
      generalize es k = x at HC1 HFk HNk
      generalize ts k = y at HC1 HMk
      clear hs
      by_cases hx : x = 0
      · have HE : Hid (fe (k + 1) = 0) := HNk.out hx
        subst hx
        clear HFk HNk
        go_wp2_with fail
        refine HC1.out.mono ?_
        rintro e w2 ⟨u, rfl, hO, hB2⟩
        have HD2 := HD.out.later hB2
        obtain ⟨⟨u0, hc0⟩, hf0, hz0⟩ := HD2.three hk'
        have HP := HD2.put (hO.weak hT.size) (by rw [HLk.out]; exact hk')
        rw [HLk.out, ← HMk.out] at HP
        have HP : Hid (Made (w2.setCell ⟨w.heap.size, k, none⟩ u) w.heap.size w.heap.size (mt (k + 1)) cs.length) := HP
        have HT2 : Hid (Below w.heap.size w (w2.setCell ⟨w.heap.size, k, none⟩ u)) := (then_below hT hB2).setCell (p := ⟨w.heap.size, k, none⟩) (Nat.le_refl _) u
        obtain ⟨ao2, n2, c2, rfl⟩ := hO.slice
        clear hO HD2
        go_wp2
        go_roundw
        case rel => exact ⟨k + 1, by omega, by go_num, HP, HE, HT2.out⟩
        case measure => simp [intOf]; omega
      · obtain ⟨E1, E2⟩ := HFk.out hx
        subst E1 E2
        clear HFk HNk
        go_wp2_with fail
        refine HC1.out.mono ?_
        rintro e w2 ⟨u, rfl, hO, hB2⟩
        clear hO
        have hxb : (er != 0) = true := by simpa using hx
        go_wp2
        go_ret2
        exact ⟨_, rfl, Yo.nil _ _, then_below hT hB2⟩
    · obtain rfl : k = cs.length := by omega
      have E : er = 0 := HER.out.trans H0.out
      have E2 : tgt = mt cs.length := HG.out E
      have HYY : Hid (Yo wr w.heap.size (.slice (some ⟨w.heap.size, 0, none⟩) cs.length cs.length) tgt) := by show Yo _ _ _ _; rw [E2]; exact HD.out.yo (HL.out _) (by omega)
      clear E2
      subst E
      go_wp2
      go_ret2
      exact ⟨_, rfl, HYY.out, hT⟩

set_option maxRecDepth 100000 in
set_option maxHeartbeats 8000000 in
theorem turn_put {a b c : Int} {n l : Value} {ns ls : List (List Slt)} {es fs : Nat → Int} {ts us : Nat → List Slt} {er : Int} (w : World) (A B D E G : Nat) (hN : Yl w n ns) (hL : Yl w l ls) (hn : ns.length ≤ 12288) (hl : ls.length ≤ 12288)
    (hc : ∀ (wr : World) (k : Nat) (vc : Value), k < ns.length → Below w.heap.size w wr → Ss wr vc (ns.getD k []) → Calls Try.prog 36 #[I k, vc, .pointer (some ⟨A, 0, none⟩), .pointer (some ⟨B, 0, none⟩), .pointer (some ⟨D, 0, none⟩)] wr fun e W' => ∃ u, e = .returned (.tuple #[u, I (es k)]) ∧ So W' wr.heap.size u (ts k) ∧ Below wr.heap.size wr W')
    (hd : ∀ (wr : World) (k : Nat) (vc : Value), k < ls.length → Below w.heap.size w wr → Ss wr vc (ls.getD k []) → Calls Try.prog 36 #[I k, vc, .pointer (some ⟨E, 0, none⟩), .pointer (some ⟨G, 0, none⟩), .pointer (some ⟨D, 0, none⟩)] wr fun e W' => ∃ u, e = .returned (.tuple #[u, I (fs k)]) ∧ So W' wr.heap.size u (us k) ∧ Below wr.heap.size wr W') (he : er = errT (firstE es ns.length) (firstE fs ls.length)) :
    Calls Try.prog 39 #[Y5 a b c n l, .func (.func 36) #[] #[.pointer (some ⟨A, 0, none⟩), .pointer (some ⟨B, 0, none⟩), .pointer (some ⟨D, 0, none⟩)], .func (.func 36) #[] #[.pointer (some ⟨E, 0, none⟩), .pointer (some ⟨G, 0, none⟩), .pointer (some ⟨D, 0, none⟩)]] w fun e W' => ∃ u v, e = .returned (.tuple #[Y5 (dimE er a) (dimE er b) (dimE er c) u v, I er]) ∧ Yo W' w.heap.size u (rowsE er (mapTo ts ns.length)) ∧ Yo W' w.heap.size v (rowsE er (mapTo us ls.length)) ∧ Below w.heap.size w W' := by
  obtain ⟨W, hW, hB, hK, hR⟩ := two_start w (K5 a b c n l) (K5 0 0 0 (.slice none 0 0) (.slice none 0 0)) 26 26
  have HW : Hid ((w.alloc (.cells (K5 a b c n l) 26)).alloc (.cells (K5 0 0 0 (.slice none 0 0) (.slice none 0 0)) 26) = W) := hW
  have H1 : Hid (Calls Try.prog 84 #[n, .func (.func 36) #[] #[.pointer (some ⟨A, 0, none⟩), .pointer (some ⟨B, 0, none⟩), .pointer (some ⟨D, 0, none⟩)]] W fun e W' => ∃ u, e = .returned (.tuple #[u, I (firstE es ns.length)]) ∧ Yo W' W.heap.size u (rowsE (firstE es ns.length) (mapTo ts ns.length)) ∧ Below W.heap.size W W') := each_put W A B D (hN.later hB) hn (fun wr k vc hk hb hs => hc wr k vc hk (then_below hB hb) hs)
  have H2 : Hid (∀ w1, Below W.heap.size W w1 → Calls Try.prog 84 #[l, .func (.func 36) #[] #[.pointer (some ⟨E, 0, none⟩), .pointer (some ⟨G, 0, none⟩), .pointer (some ⟨D, 0, none⟩)]] w1 fun e W' => ∃ u, e = .returned (.tuple #[u, I (firstE fs ls.length)]) ∧ Yo W' w1.heap.size u (rowsE (firstE fs ls.length) (mapTo us ls.length)) ∧ Below w1.heap.size w1 W') := fun w1 hb => each_put w1 E G D (hL.later (then_below hB hb)) hl (fun wr k vc hk hb' hs => hd wr k vc hk (then_below hB (then_below hb hb')) hs)
  clear hW hc hd hN hL
  generalize firstE es ns.length = x at *
  generalize firstE fs ls.length = y at *
  generalize mapTo ts ns.length = r1 at *
  generalize mapTo us ls.length = r2 at *
  clear hn hl
  have hWs : w.heap.size + 1 < W.heap.size := hR.lt
  by_cases hx : x = 0
  · subst hx
    have he2 : er = y := he
    clear he
    subst he2
    by_cases hy : er = 0
    · subst hy
      have HD : Hid (∀ a : Int, dimE 0 a = a) := fun a => if_pos rfl
      rw [HD.out, HD.out, HD.out]
      rw [show rowsE 0 r1 = r1 from if_pos rfl] at H1 ⊢
      rw [show rowsE 0 r2 = r2 from if_pos rfl] at H2 ⊢
      clear HD
      go_enter Try.func39, Try.ntmps39
      go_wp2_with fail
      rw [HW.out]
      go_wp2_with fail
      refine H1.out.mono ?_
      rintro e w1 ⟨u, rfl, hU, hT⟩
      obtain ⟨ao1, n1, c1, rfl⟩ := hU.slice
      obtain ⟨p0, p1, p2, p3, p4, hz⟩ := hK.yard hT
      go_wp2_with fail
      refine (H2.out _ hT).mono ?_
      rintro e w2 ⟨v, rfl, hV, hB2⟩
      obtain ⟨ao2, n2, c2, rfl⟩ := hV.slice
      have hT2 := then_below hT hB2
      have hR2 := hR.later hT2
      have HS := hR2.set5 (.int .i64 a) (.int .i64 b) (.int .i64 c) (.slice ao1 n1 c1) (.slice ao2 n2 c2)
      have hlow := below_set5 (then_below hB hT2) (show w.heap.size ≤ w.heap.size + 1 by omega) (.int .i64 a) (.int .i64 b) (.int .i64 c) (.slice ao1 n1 c1) (.slice ao2 n2 c2)
      have HU : Hid (Yo (put5 w2 (w.heap.size + 1) (.int .i64 a) (.int .i64 b) (.int .i64 c) (.slice ao1 n1 c1) (.slice ao2 n2 c2)) w.heap.size (.slice ao1 n1 c1) r1) := ((hU.later hB2).put5 hWs _ _ _ _ _).weak hB.size
      have HV : Hid (Yo (put5 w2 (w.heap.size + 1) (.int .i64 a) (.int .i64 b) (.int .i64 c) (.slice ao1 n1 c1) (.slice ao2 n2 c2)) w.heap.size (.slice ao2 n2 c2) r2) := (hV.put5 (Nat.lt_of_lt_of_le hWs hT.size) _ _ _ _ _).weak (Nat.le_trans hB.size hT.size)
      clear p0 p1 p2 p3 p4 hz
      obtain ⟨p0, p1, p2, p3, p4, hz⟩ := hK.yard hT2
      obtain ⟨q0, q1, q2, q3, q4, hzq⟩ := hR2.five
      obtain ⟨f0, f1, f2, f3, f4⟩ := hR2.row5
      go_wp2_with fail
      obtain ⟨j0, j1, j2, j3, j4, _⟩ := HS.five
      exact bodyPost_ret (v := .tuple #[Y5 a b c (.slice ao1 n1 c1) (.slice ao2 n2 c2), I 0]) (by simp [results, Try.f39, go_sem, j0, j1, j2, j3, j4]) rfl ⟨_, _, rfl, HU.out, HV.out, hlow⟩
    · have HD : Hid (∀ a : Int, dimE er a = 0) := fun a => if_neg hy
      rw [HD.out, HD.out, HD.out]
      rw [show rowsE 0 r1 = r1 from if_pos rfl] at H1
      rw [show rowsE er r2 = [] from if_neg hy] at H2 ⊢
      rw [show rowsE er r1 = [] from if_neg hy]
      have hyb : (er != 0) = true := by simpa using hy
      clear HD hy
      go_enter Try.func39, Try.ntmps39
      go_wp2_with fail
      rw [HW.out]
      go_wp2_with fail
      refine H1.out.mono ?_
      rintro e w1 ⟨u, rfl, hU, hT⟩
      clear hU
      obtain ⟨p0, p1, p2, p3, p4, hz⟩ := hK.yard hT
      go_wp2_with fail
      refine (H2.out _ hT).mono ?_
      rintro e w2 ⟨v, rfl, hV, hB2⟩
      clear hV
      have hT2 := then_below hT hB2
      have hR2 := hR.later hT2
      have HS := hR2.set5 (.int .i64 0) (.int .i64 0) (.int .i64 0) (.slice none 0 0) (.slice none 0 0)
      have hlow := below_set5 (then_below hB hT2) (show w.heap.size ≤ w.heap.size + 1 by omega) (.int .i64 0) (.int .i64 0) (.int .i64 0) (.slice none 0 0) (.slice none 0 0)
      try clear p0 p1 p2 p3 p4 hz
      obtain ⟨q0, q1, q2, q3, q4, hzq⟩ := hR2.five
      obtain ⟨f0, f1, f2, f3, f4⟩ := hR2.row5
      go_wp2_with fail
      obtain ⟨j0, j1, j2, j3, j4, _⟩ := HS.five
      exact bodyPost_ret (v := .tuple #[Y5 0 0 0 (.slice none 0 0) (.slice none 0 0), I er]) (by simp [results, Try.f39, go_sem, j0, j1, j2, j3, j4]) rfl ⟨_, _, rfl, Yo.nil _ _, Yo.nil _ _, hlow⟩
  · have he2 : er = x := by rw [he, errT, if_neg hx]
    clear he
    subst he2
    have HD : Hid (∀ a : Int, dimE er a = 0) := fun a => if_neg hx
    rw [HD.out, HD.out, HD.out]
    rw [show rowsE er r1 = [] from if_neg hx] at H1 ⊢
    rw [show rowsE er r2 = [] from if_neg hx]
    have hyb : (er != 0) = true := by simpa using hx
    clear HD hx
    go_enter Try.func39, Try.ntmps39
    go_wp2_with fail
    rw [HW.out]
    go_wp2_with fail
    refine H1.out.mono ?_
    rintro e w2 ⟨u, rfl, hU, hT2⟩
    clear hU
    have hR2 := hR.later hT2
    have HS := hR2.set5 (.int .i64 0) (.int .i64 0) (.int .i64 0) (.slice none 0 0) (.slice none 0 0)
    have hlow := below_set5 (then_below hB hT2) (show w.heap.size ≤ w.heap.size + 1 by omega) (.int .i64 0) (.int .i64 0) (.int .i64 0) (.slice none 0 0) (.slice none 0 0)
    try clear p0 p1 p2 p3 p4 hz
    obtain ⟨q0, q1, q2, q3, q4, hzq⟩ := hR2.five
    obtain ⟨f0, f1, f2, f3, f4⟩ := hR2.row5
    go_wp2_with fail
    obtain ⟨j0, j1, j2, j3, j4, _⟩ := HS.five
    exact bodyPost_ret (v := .tuple #[Y5 0 0 0 (.slice none 0 0) (.slice none 0 0), I er]) (by simp [results, Try.f39, go_sem, j0, j1, j2, j3, j4]) rfl ⟨_, _, rfl, Yo.nil _ _, Yo.nil _ _, hlow⟩

end Go.Proofs.Ytabhlmckncgdjaa
