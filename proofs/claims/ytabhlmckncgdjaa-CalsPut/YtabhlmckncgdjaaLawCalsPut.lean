/-
  CalsPut: what is put, as facts of sets; the walk. (Written by tools/gen/lawcals_put.py.)
-/
import Derived.Test.YtabhlmckncgdjaaPart28
import Derived.Test.YtabhlmckncgdjaaSetArg
namespace Go.Proofs.Ytabhlmckncgdjaa
open Go Go.RowKit Go.Shelf

attribute [local go_sem] Oper.semAt_some ext_const

theorem putsY_len (cs : List (List Slt)) (ws : List Nat) (s : Slt) : (putsY cs ws s).length = cs.length := putsC_len _ _ _ _
/-- What holds where Put tells no error. -/
structure PutYes (a b c : Int) (ns ls : List (List Slt)) (mw lw : List Nat) (f t o : Int) : Prop where
  chk : CheckOk a b c ns ls mw lw f t o
  nodes : PutOk ns (hasW mw) f t o
  links : PutOk ls (hasW lw) f t o
theorem putYE_zero {a b c : Int} {ns ls : List (List Slt)} {mw lw : List Nat} {f t o : Int} (h : putYE a b c ns ls mw lw f t o = 0) : PutYes a b c ns ls mw lw f t o := by
  unfold putYE at h
  split at h
  · rename_i h0
    obtain ⟨hc, ht⟩ := checkE_zero h0
    have hf : fullY ns ls mw lw = false := by
      cases e : fullY ns ls mw lw
      · rfl
      · rw [e] at h; cases h
    unfold takenY at ht
    unfold fullY at hf
    rw [Bool.or_eq_false_iff] at ht hf
    exact ⟨hc, ⟨hc.may.2.2.2.1, hc.slot, ht.1, hf.1⟩, ⟨hc.may.2.2.2.2, hc.slot, ht.2, hf.2⟩⟩
  · rename_i h0
    exact absurd h h0
theorem PutYes.may {a b c : Int} {ns ls : List (List Slt)} {mw lw : List Nat} {f t o : Int} (h : PutYes a b c ns ls mw lw f t o) : mayY a b c (putsY ns mw (f, t, o)) (putsY ls lw (f, t, o)) := by
  obtain ⟨m1, m2, m3, _, _⟩ := h.chk.may
  exact ⟨m1, by rw [putsY_len]; exact m2, by rw [putsY_len]; exact m3, h.nodes.may_put, h.links.may_put⟩
theorem ownE_put {a b c : Int} {ns ls : List (List Slt)} {mw lw : List Nat} {f t o : Int} (h : PutYes a b c ns ls mw lw f t o) (m : Int) : ownE a b c (putsY ns mw (f, t, o)) (putsY ls lw (f, t, o)) m = ownE a b c ns ls m := by
  rw [ownE, ownE, if_pos (mayYB_iff.2 h.may), if_pos (mayYB_iff.2 h.chk.may)]
theorem put_own {cs : List (List Slt)} {ws : List Nat} {f t o m : Int} (h : PutOk cs (hasW ws) f t o) (hw : ∀ x ∈ ws, x < 18446744073709551616) (he : errAll cs.length [ws] = 0) (h1 : 1 ≤ cs.length) (h2 : cs.length ≤ 12288) (ha : f ≤ m ∧ m < t) :
    joinW orW cs.length (setOf cs.length (ownP cs o m)) ws = setOf cs.length (ownP (putsY cs ws (f, t, o)) o m) := by
  rw [setOf_or (by omega) (by omega) _ hw he]
  exact setOf_congr fun k hk => (h.own ha (by omega)).symm
theorem put_out {cs : List (List Slt)} {ws : List Nat} {f t o m : Int} (h : PutOk cs (hasW ws) f t o) (ha : ¬ (f ≤ m ∧ m < t)) (ow : Int) : setOf cs.length (ownP (putsY cs ws (f, t, o)) ow m) = setOf cs.length (ownP cs ow m) :=
  setOf_congr fun k hk => h.out ha ow (by omega)
theorem put_other {cs : List (List Slt)} {ws : List Nat} {f t o ow : Int} (h : PutOk cs (hasW ws) f t o) (hne : ow ≠ o) (m : Int) : setOf cs.length (ownP (putsY cs ws (f, t, o)) ow m) = setOf cs.length (ownP cs ow m) :=
  setOf_congr fun k hk => h.other hne m (by omega)
theorem put_taken (cs : List (List Slt)) (ws : List Nat) (f t o : Int) : takesC (putsY cs ws (f, t, o)) o = takesC cs o := puts_taken cs (hasW ws) f t o
theorem wordsE_congr {er : Int} {n : Nat} {p q : Nat → Bool} (h : er = 0 → setOf n p = setOf n q) : wordsE er n p = wordsE er n q := by
  unfold wordsE
  split
  · rename_i h0; exact h h0
  · rfl
theorem takes_long {cs : List (List Slt)} (h : maysC cs = true) (ow : Int) (k : Nat) : ((takesC cs ow).getD k []).length ≤ 100000 := by
  unfold takesC
  by_cases hk : k < cs.length
  · have hm := (maysC_may h k).2.2
    have : (lessC (cs.getD k []) ow).length ≤ (cs.getD k []).length := List.length_filter_le _ _
    simp [hk] at this hm ⊢
    omega
  · simp [hk]
theorem takes_len (cs : List (List Slt)) (ow : Int) : (takesC cs ow).length = cs.length := by simp [takesC]
theorem eqY_self (a b c : Int) (ns ls : List (List Slt)) : eqY a b c ns ls a b c ns ls = true := by simp [eqY, eqD, eqL2]

set_option maxRecDepth 100000 in
set_option maxHeartbeats 64000000 in
theorem calsPut_walk (a b c o f t m y : Int) (w : World) {n l vm vk : Value} {ns ls : List (List Slt)} {mw lw : List Nat} (hN : Yl w n ns) (hL : Yl w l ls) (bN : Lids ns) (bL : Lids ls) (hM : ArgW w vm mw) (hK' : ArgW w vk lw) :
    Calls Try.prog 6 #[Y5 a b c n l, I o, vm, vk, S2 f t, I m, I y] w fun e W' => e = .returned (.bool true) ∧ Below w.heap.size w W' := by
  obtain ⟨W, hW, hB, hK, hS⟩ := two_start w (K5 a b c n l) (C2 f t) 26 36
  have HW : Hid ((w.alloc (.cells (K5 a b c n l) 26)).alloc (.cells (C2 f t) 36) = W) := hW
  have hT0 := Below.refl W.heap.size W
  have hM := hM.1
  have hK' := hK'.1
  have wm := hM.1
  have wk := hK'.1
  have HN : Hid (Yl w n ns) := hN
  have HL : Hid (Yl w l ls) := hL
  have HMw : Hid (∀ w1, Below W.heap.size W w1 → Wds w1 vm mw) := fun w1 hb => hM.later (then_below hB hb)
  have HKw : Hid (∀ w1, Below W.heap.size W w1 → Wds w1 vk lw) := fun w1 hb => hK'.later (then_below hB hb)
  have HA : Hid (∀ w, Calls Try.prog 11 #[] w fun e W' => e = .returned (.bool true) ∧ Below w.heap.size w W') := aliveY_calls
  have HG : Hid (∀ w1, Below W.heap.size W w1 → Calls Try.prog 13 #[Y5 a b c n l] w1 fun e W' => e = .returned (.bool (greatB ns ls)) ∧ Below w1.heap.size w1 W') := fun w1 hb => great_calls w1 (hN.later (then_below hB hb)) (hL.later (then_below hB hb)) bN bL
  have HP : Hid (∀ w1, Below W.heap.size W w1 → Calls Try.prog 10 #[Y5 a b c n l, I o, vm, vk, S2 f t] w1 fun e W' => ∃ u v, e = .returned (.tuple #[Y5 (dimE (putYE a b c ns ls mw lw f t o) a) (dimE (putYE a b c ns ls mw lw f t o) b) (dimE (putYE a b c ns ls mw lw f t o) c) u v, I (putYE a b c ns ls mw lw f t o)]) ∧ Yo W' w1.heap.size u (rowsE (putYE a b c ns ls mw lw f t o) (putsY ns mw (f, t, o))) ∧ Yo W' w1.heap.size v (rowsE (putYE a b c ns ls mw lw f t o) (putsY ls lw (f, t, o))) ∧ Below w1.heap.size w1 W') := fun w1 hb => yPut_calls w1 (hN.later (then_below hB hb)) (hL.later (then_below hB hb)) (hM.later (then_below hB hb)) (hK'.later (then_below hB hb))
  have HY : Hid (∀ w1, Below W.heap.size W w1 → Calls Try.prog 25 #[Y5 a b c n l, S2 f t] w1 fun e W' => ∃ u v, e = .returned (.tuple #[u, v, I (busyE a b c ns ls f t)]) ∧ SetR W' w1.heap.size u (wordsE (busyE a b c ns ls f t) ns.length (busyP ns f t)) ∧ SetR W' w1.heap.size v (wordsE (busyE a b c ns ls f t) ls.length (busyP ls f t)) ∧ Below w1.heap.size w1 W') := fun w1 hb => yBusy_calls w1 (hN.later (then_below hB hb)) (hL.later (then_below hB hb))
  have HO : Hid (∀ ow w1, Below W.heap.size W w1 → Calls Try.prog 27 #[Y5 a b c n l, I ow, I m] w1 fun e W' => ∃ u v, e = .returned (.tuple #[u, v, I (ownE a b c ns ls m)]) ∧ SetR W' w1.heap.size u (wordsE (ownE a b c ns ls m) ns.length (ownP ns ow m)) ∧ SetR W' w1.heap.size v (wordsE (ownE a b c ns ls m) ls.length (ownP ls ow m)) ∧ Below w1.heap.size w1 W') := fun ow w1 hb => yOwned_calls w1 (hN.later (then_below hB hb)) (hL.later (then_below hB hb))
  have HK : Hid (∀ w1, Below W.heap.size W w1 → Calls Try.prog 18 #[Y5 a b c n l, I o] w1 fun e W' => ∃ u v, e = .returned (.tuple #[Y5 (dimE (errY a b c ns ls) a) (dimE (errY a b c ns ls) b) (dimE (errY a b c ns ls) c) u v, I (errY a b c ns ls)]) ∧ Yo W' w1.heap.size u (rowsE (errY a b c ns ls) (takesC ns o)) ∧ Yo W' w1.heap.size v (rowsE (errY a b c ns ls) (takesC ls o)) ∧ Below w1.heap.size w1 W') := fun w1 hb => yTake_calls w1 (hN.later (then_below hB hb)) (hL.later (then_below hB hb))
  obtain ⟨an, cn, rfl, _⟩ := hN.form
  obtain ⟨al, cl, rfl, _⟩ := hL.form
  obtain ⟨am, cm, rfl, _⟩ := hM.view
  obtain ⟨ak, ck, rfl, _⟩ := hK'.view
  obtain ⟨gr, hgr⟩ : ∃ gr, gr = greatB ns ls := ⟨_, rfl⟩
  rw [← hgr] at HG
  obtain ⟨er, her⟩ : ∃ er, er = putYE a b c ns ls mw lw f t o := ⟨_, rfl⟩
  rw [← her] at HP
  have HSm : Hid (gr = false → Small ns ls) := fun h => small_of bN bL (hgr ▸ h)
  have HYes : Hid (er = 0 → PutYes a b c ns ls mw lw f t o) := fun h => putYE_zero (her ▸ h)
  have HWm : Hid ((∀ x ∈ mw, x < 18446744073709551616) ∧ ∀ x ∈ lw, x < 18446744073709551616) := ⟨wm, wk⟩
  clear hW hN hL bN bL hgr her hM hK' wm wk
  go_enter Try.func6, Try.ntmps6
  go_wp2_with fail
  rw [HW.out]
  refine (HA.out _).mono ?_
  rintro e w1 ⟨rfl, hB1⟩
  have hT1 := hB1
  obtain ⟨p0, p1, p2, p3, p4, hz⟩ := hK.yard hT1
  obtain ⟨s0, s1, hz1⟩ := hS.pair hT1
  go_wp2_with fail
  refine (HG.out _ hT1).mono ?_
  rintro e w2 ⟨rfl, hB2⟩
  clear p0 p1 p2 p3 p4 hz s0 s1 hz1
  have hT2 := then_below hT1 hB2
  obtain ⟨p0, p1, p2, p3, p4, hz⟩ := hK.yard hT2
  obtain ⟨s0, s1, hz1⟩ := hS.pair hT2
  cases gr
  · have hsm := HSm.out rfl
    have hb1 := hsm.nodes
    have hb2 := hsm.links
    clear HSm hsm
    by_cases hl1 : 100 < (mw.length : Int)
    · clear HMw HKw HP HO HK HY HYes HWm
      generalize mw.length = mn at *
      generalize lw.length = ln at *
      go_wp2
      go_ret
      exact ⟨rfl, then_below hB hT2⟩
    · have hl1b : decide (100 < (mw.length : Int)) = false := decide_eq_false hl1
      by_cases hl2 : 100 < (lw.length : Int)
      · clear HMw HKw HP HO HK HY HYes HWm hl1
        generalize mw.length = mn at *
        generalize lw.length = ln at *
        go_wp2
        go_ret
        exact ⟨rfl, then_below hB hT2⟩
      · have hl2b : decide (100 < (lw.length : Int)) = false := decide_eq_false hl2
        clear hl1 hl2
        by_cases h0 : er = 0
        · subst h0
          have hy := HYes.out rfl
          clear HYes
          have hc := hy.chk
          have hbd := hc.may.bd
          have hmay2 := hy.may
          simp only [dim_ok, rows_ok] at HP
          have hl3 : (ls.length : Int) = 3 * (ns.length : Int) := by omega
          have hY0 : busyE a b c ns ls f t = 0 := by rw [busyE, if_pos (mayYB_iff.2 hc.may), if_pos ((maySpB_iff f t).2 hc.slot.1)]
          rw [hY0, wordsE, if_pos rfl, wordsE, if_pos rfl] at HY
          rw [errY_ok hc.may] at HK
          simp only [dim_ok, rows_ok] at HK
          have ln1 : (putsY ns mw (f, t, o)).length = ns.length := putsY_len _ _ _
          have ln2 : (putsY ls lw (f, t, o)).length = ls.length := putsY_len _ _ _
          have M1 : Hid (∀ w u v, Wds w u (setOf ns.length (busyP ns f t)) → Wds w v mw → Calls Try.prog 30 #[I ns.length, u, v] w fun e W' => e = .returned (.tuple #[.bool false, I 0]) ∧ Below w.heap.size w W') := fun w u v h1 h2 => by
            have := meet_calls w h1 h2 ns.length
            rwa [taken_meets (by omega) (by omega) f t hc.mids, hy.nodes.clear, errAll_both (setOf_err (by omega) (by omega) _) hc.mids] at this
          have M2 : Hid (∀ w u v, Wds w u (setOf ls.length (busyP ls f t)) → Wds w v lw → Calls Try.prog 30 #[I (3 * (ns.length : Int)), u, v] w fun e W' => e = .returned (.tuple #[.bool false, I 0]) ∧ Below w.heap.size w W') := fun w u v h1 h2 => by
            have := meet_calls w h1 h2 ls.length
            rw [taken_meets (by omega) (by omega) f t hc.links, hy.links.clear, errAll_both (setOf_err (by omega) (by omega) _) hc.links] at this
            rw [← hl3]
            exact this
          have HC : Hid (∀ w u v, Yl w u (putsY ns mw (f, t, o)) → Yl w v (putsY ls lw (f, t, o)) → Calls Try.prog 12 #[Y5 a b c u v] w fun e W' => e = .returned (I 0) ∧ Below w.heap.size w W') := fun w u v h1 h2 => ycheck_yes w h1 h2 hmay2
          have HO2 : Hid (∀ ow w u v, Yl w u (putsY ns mw (f, t, o)) → Yl w v (putsY ls lw (f, t, o)) → Calls Try.prog 27 #[Y5 a b c u v, I ow, I m] w fun e W' => ∃ x z, e = .returned (.tuple #[x, z, I (ownE a b c ns ls m)]) ∧ SetR W' w.heap.size x (wordsE (ownE a b c ns ls m) ns.length (ownP (putsY ns mw (f, t, o)) ow m)) ∧ SetR W' w.heap.size z (wordsE (ownE a b c ns ls m) ls.length (ownP (putsY ls lw (f, t, o)) ow m)) ∧ Below w.heap.size w W') := fun ow w u v h1 h2 => by
            have := yOwned_calls (a := a) (b := b) (c := c) (ow := ow) (m := m) w h1 h2
            rwa [ownE_put hy m, ln1, ln2] at this
          have HK2 : Hid (∀ w u v, Yl w u (putsY ns mw (f, t, o)) → Yl w v (putsY ls lw (f, t, o)) → Calls Try.prog 18 #[Y5 a b c u v, I o] w fun e W' => ∃ x z, e = .returned (.tuple #[Y5 a b c x z, I 0]) ∧ Yo W' w.heap.size x (takesC ns o) ∧ Yo W' w.heap.size z (takesC ls o) ∧ Below w.heap.size w W') := fun w u v h1 h2 => by
            have := yTake_calls (a := a) (b := b) (c := c) (ow := o) w h1 h2
            rw [errY_ok hmay2, put_taken, put_taken] at this
            simpa only [dim_ok, rows_ok] using this
          have HS3 : Hid (∀ w u v u' v', Yl w u (takesC ns o) → Yl w v (takesC ls o) → Yl w u' (takesC ns o) → Yl w v' (takesC ls o) → Calls Try.prog 24 #[Y5 a b c u v, Y5 a b c u' v'] w fun e W' => e = .returned (.bool true) ∧ Below w.heap.size w W') := fun w u v u' v' h1 h2 h3 h4 => by
            have := ySame_calls (a := a) (b := b) (c := c) (a' := a) (b' := b) (c' := c) w h1 h2 h3 h4 (by rw [takes_len]; omega) (by rw [takes_len]; omega) (takes_long hc.may.2.2.2.1 o) (takes_long hc.may.2.2.2.2 o)
            rwa [eqY_self] at this
          have O1 : Hid (ownE a b c ns ls m = 0 → f ≤ m ∧ m < t → ∀ w u v, Wds w u (setOf ns.length (ownP ns o m)) → Wds w v mw → Calls Try.prog 31 #[I ns.length, u, v] w fun e W' => ∃ r, e = .returned (.tuple #[r, I 0]) ∧ SetR W' w.heap.size r (setOf ns.length (ownP (putsY ns mw (f, t, o)) o m)) ∧ Below w.heap.size w W') := fun _ ha w u v h1 h2 => by
            have := or_calls w h1 h2 ns.length
            rwa [put_own hy.nodes HWm.out.1 hc.mids (by omega) (by omega) ha, errAll_both (setOf_err (by omega) (by omega) _) hc.mids] at this
          have O2 : Hid (ownE a b c ns ls m = 0 → f ≤ m ∧ m < t → ∀ w u v, Wds w u (setOf ls.length (ownP ls o m)) → Wds w v lw → Calls Try.prog 31 #[I (3 * (ns.length : Int)), u, v] w fun e W' => ∃ r, e = .returned (.tuple #[r, I 0]) ∧ SetR W' w.heap.size r (setOf ls.length (ownP (putsY ls lw (f, t, o)) o m)) ∧ Below w.heap.size w W') := fun _ ha w u v h1 h2 => by
            have := or_calls w h1 h2 ls.length
            rw [put_own hy.links HWm.out.2 hc.links (by omega) (by omega) ha, errAll_both (setOf_err (by omega) (by omega) _) hc.links] at this
            rw [← hl3]
            exact this
          have E1 : Hid (¬ (f ≤ m ∧ m < t) → setOf ns.length (ownP (putsY ns mw (f, t, o)) o m) = setOf ns.length (ownP ns o m) ∧ setOf ls.length (ownP (putsY ls lw (f, t, o)) o m) = setOf ls.length (ownP ls o m)) := fun h => ⟨put_out hy.nodes h o, put_out hy.links h o⟩
          have E2 : Hid (y ≠ o → wordsE (ownE a b c ns ls m) ns.length (ownP (putsY ns mw (f, t, o)) y m) = wordsE (ownE a b c ns ls m) ns.length (ownP ns y m) ∧ wordsE (ownE a b c ns ls m) ls.length (ownP (putsY ls lw (f, t, o)) y m) = wordsE (ownE a b c ns ls m) ls.length (ownP ls y m)) := fun h => ⟨wordsE_congr fun _ => put_other hy.nodes h m, wordsE_congr fun _ => put_other hy.links h m⟩
          have Z0 : Hid (ownE a b c ns ls m = 0 → wordsE (ownE a b c ns ls m) ns.length (ownP (putsY ns mw (f, t, o)) o m) = setOf ns.length (ownP (putsY ns mw (f, t, o)) o m) ∧ wordsE (ownE a b c ns ls m) ls.length (ownP (putsY ls lw (f, t, o)) o m) = setOf ls.length (ownP (putsY ls lw (f, t, o)) o m) ∧ wordsE (ownE a b c ns ls m) ns.length (ownP ns o m) = setOf ns.length (ownP ns o m) ∧ wordsE (ownE a b c ns ls m) ls.length (ownP ls o m) = setOf ls.length (ownP ls o m)) := fun h => by rw [h]; exact ⟨if_pos rfl, if_pos rfl, if_pos rfl, if_pos rfl⟩
          have K1 : (wordsE (ownE a b c ns ls m) ns.length (ownP (putsY ns mw (f, t, o)) y m)).length ≤ 100000 := wordsE_len _ (by omega) _
          have K2 : (wordsE (ownE a b c ns ls m) ls.length (ownP (putsY ls lw (f, t, o)) y m)).length ≤ 100000 := wordsE_len _ (by omega) _
          have K3 : (setOf ns.length (ownP (putsY ns mw (f, t, o)) o m)).length ≤ 100000 := by rw [setOf_len, Int.toNat_natCast]; omega
          have K4 : (setOf ls.length (ownP (putsY ls lw (f, t, o)) o m)).length ≤ 100000 := by rw [setOf_len, Int.toNat_natCast]; omega
          have hnn : ns.length ≤ 200 := hb1
          clear hb1 hb2 hc hy hbd hmay2 hl3 hY0 HWm
          obtain ⟨e3, he3⟩ : ∃ e3, e3 = ownE a b c ns ls m := ⟨_, rfl⟩
          rw [← he3] at HO HO2 O1 O2 E2 Z0 K1 K2
          have HOo : Hid (∀ w1, Below W.heap.size W w1 → Calls Try.prog 27 #[Y5 a b c (.slice an ns.length cn) (.slice al ls.length cl), I o, I m] w1 fun e W' => ∃ u v, e = .returned (.tuple #[u, v, I e3]) ∧ SetR W' w1.heap.size u (wordsE e3 ns.length (ownP ns o m)) ∧ SetR W' w1.heap.size v (wordsE e3 ls.length (ownP ls o m)) ∧ Below w1.heap.size w1 W') := HO.out o
          have HOy : Hid (∀ w1, Below W.heap.size W w1 → Calls Try.prog 27 #[Y5 a b c (.slice an ns.length cn) (.slice al ls.length cl), I y, I m] w1 fun e W' => ∃ u v, e = .returned (.tuple #[u, v, I e3]) ∧ SetR W' w1.heap.size u (wordsE e3 ns.length (ownP ns y m)) ∧ SetR W' w1.heap.size v (wordsE e3 ls.length (ownP ls y m)) ∧ Below w1.heap.size w1 W') := HO.out y
          have HPo : Hid (∀ w u v, Yl w u (putsY ns mw (f, t, o)) → Yl w v (putsY ls lw (f, t, o)) → Calls Try.prog 27 #[Y5 a b c u v, I o, I m] w fun e W' => ∃ x z, e = .returned (.tuple #[x, z, I e3]) ∧ SetR W' w.heap.size x (wordsE e3 ns.length (ownP (putsY ns mw (f, t, o)) o m)) ∧ SetR W' w.heap.size z (wordsE e3 ls.length (ownP (putsY ls lw (f, t, o)) o m)) ∧ Below w.heap.size w W') := HO2.out o
          have HPy : Hid (∀ w u v, Yl w u (putsY ns mw (f, t, o)) → Yl w v (putsY ls lw (f, t, o)) → Calls Try.prog 27 #[Y5 a b c u v, I y, I m] w fun e W' => ∃ x z, e = .returned (.tuple #[x, z, I e3]) ∧ SetR W' w.heap.size x (wordsE e3 ns.length (ownP (putsY ns mw (f, t, o)) y m)) ∧ SetR W' w.heap.size z (wordsE e3 ls.length (ownP (putsY ls lw (f, t, o)) y m)) ∧ Below w.heap.size w W') := HO2.out y
          clear HO HO2 he3
          generalize wordsE e3 ns.length (ownP (putsY ns mw (f, t, o)) o m) = A1 at *
          generalize wordsE e3 ls.length (ownP (putsY ls lw (f, t, o)) o m) = A2 at *
          generalize wordsE e3 ns.length (ownP (putsY ns mw (f, t, o)) y m) = B1 at *
          generalize wordsE e3 ls.length (ownP (putsY ls lw (f, t, o)) y m) = B2 at *
          generalize wordsE e3 ns.length (ownP ns o m) = D1 at *
          generalize wordsE e3 ls.length (ownP ls o m) = D2 at *
          generalize wordsE e3 ns.length (ownP ns y m) = C1 at *
          generalize wordsE e3 ls.length (ownP ls y m) = C2 at *
          generalize setOf (ns.length : Int) (ownP ns o m) = G1 at *
          generalize setOf (ls.length : Int) (ownP ls o m) = G2 at *
          generalize setOf (ns.length : Int) (busyP ns f t) = S1 at *
          generalize setOf (ls.length : Int) (busyP ls f t) = S2' at *
          generalize setOf (ns.length : Int) (ownP (putsY ns mw (f, t, o)) o m) = T1 at *
          generalize setOf (ls.length : Int) (ownP (putsY ls lw (f, t, o)) o m) = T2 at *
          generalize putsY ns mw (f, t, o) = NN at *
          generalize putsY ls lw (f, t, o) = LL at *
          generalize takesC ns o = R1 at *
          generalize takesC ls o = R2 at *
          
          go_wp2_with fail
          refine (HP.out _ hT2).mono ?_
          rintro e w3 ⟨u1, v1, rfl, hu, hv, hB3⟩
          clear p0 p1 p2 p3 p4 hz s0 s1 hz1
          have hT3 := then_below hT2 hB3
          obtain ⟨p0, p1, p2, p3, p4, hz⟩ := hK.yard hT3
          obtain ⟨s0, s1, hz1⟩ := hS.pair hT3
          obtain ⟨ao1, n1, c1, rfl⟩ := hu.slice
          obtain ⟨ao2, n2, c2, rfl⟩ := hv.slice
          obtain ⟨XA, hXA, hBA, hA⟩ := one_start w3 (K5 a b c (.slice ao1 n1 c1) (.slice ao2 n2 c2)) 26
          have HXA : Hid (w3.alloc (.cells (K5 a b c (.slice ao1 n1 c1) (.slice ao2 n2 c2)) 26) = XA) := hXA
          have hTA := then_below hT3 hBA
          clear hXA
          have NU : Hid (Yl w3 (.slice ao1 n1 c1) NN) := hu.yl
          have NV : Hid (Yl w3 (.slice ao2 n2 c2) LL) := hv.yl
          clear hu hv
          go_wp2_with fail
          rw [HXA.out]
          refine (HY.out _ hTA).mono ?_
          rintro e w4 ⟨u2, v2, rfl, hu, hv, hB4⟩
          clear p0 p1 p2 p3 p4 hz s0 s1 hz1
          have hT4 := then_below hTA hB4
          have hU4 := hB4
          replace NU : Hid (Yl w4 (.slice ao1 n1 c1) NN) := NU.out.later (then_below hBA hB4)
          replace NV : Hid (Yl w4 (.slice ao2 n2 c2) LL) := NV.out.later (then_below hBA hB4)
          have W1 : Hid (Wds w4 u2 S1) := hu.wds
          have W2 : Hid (Wds w4 v2 S2') := hv.wds
          obtain ⟨p0, p1, p2, p3, p4, hz⟩ := hK.yard hT4
          obtain ⟨s0, s1, hz1⟩ := hS.pair hT4
          obtain ⟨a0, a1, a2, a3, a4, hza⟩ := hA.yard hU4
          clear hu hv
          go_wp2_with fail
          refine (M1.out _ _ _ W1.out (HMw.out _ hT4)).mono ?_
          rintro e w5 ⟨rfl, hB5⟩
          clear p0 p1 p2 p3 p4 hz s0 s1 hz1 a0 a1 a2 a3 a4 hza
          have hT5 := then_below hT4 hB5
          have hU5 := then_below hU4 hB5
          replace NU : Hid (Yl w5 (.slice ao1 n1 c1) NN) := NU.out.later hB5
          replace NV : Hid (Yl w5 (.slice ao2 n2 c2) LL) := NV.out.later hB5
          replace W1 : Hid (Wds w5 u2 S1) := W1.out.later hB5
          replace W2 : Hid (Wds w5 v2 S2') := W2.out.later hB5
          obtain ⟨p0, p1, p2, p3, p4, hz⟩ := hK.yard hT5
          obtain ⟨s0, s1, hz1⟩ := hS.pair hT5
          obtain ⟨a0, a1, a2, a3, a4, hza⟩ := hA.yard hU5
          go_wp2_with fail
          refine (M2.out _ _ _ W2.out (HKw.out _ hT5)).mono ?_
          rintro e w6 ⟨rfl, hB6⟩
          clear p0 p1 p2 p3 p4 hz s0 s1 hz1 a0 a1 a2 a3 a4 hza
          have hT6 := then_below hT5 hB6
          have hU6 := then_below hU5 hB6
          replace NU : Hid (Yl w6 (.slice ao1 n1 c1) NN) := NU.out.later hB6
          replace NV : Hid (Yl w6 (.slice ao2 n2 c2) LL) := NV.out.later hB6
          replace W1 : Hid (Wds w6 u2 S1) := W1.out.later hB6
          replace W2 : Hid (Wds w6 v2 S2') := W2.out.later hB6
          obtain ⟨p0, p1, p2, p3, p4, hz⟩ := hK.yard hT6
          obtain ⟨s0, s1, hz1⟩ := hS.pair hT6
          obtain ⟨a0, a1, a2, a3, a4, hza⟩ := hA.yard hU6
          clear W1 W2
          go_wp2_with fail
          refine (HC.out _ _ _ NU.out NV.out).mono ?_
          rintro e w7 ⟨rfl, hB7⟩
          clear p0 p1 p2 p3 p4 hz s0 s1 hz1 a0 a1 a2 a3 a4 hza
          have hT7 := then_below hT6 hB7
          have hU7 := then_below hU6 hB7
          replace NU : Hid (Yl w7 (.slice ao1 n1 c1) NN) := NU.out.later hB7
          replace NV : Hid (Yl w7 (.slice ao2 n2 c2) LL) := NV.out.later hB7
          obtain ⟨p0, p1, p2, p3, p4, hz⟩ := hK.yard hT7
          obtain ⟨s0, s1, hz1⟩ := hS.pair hT7
          obtain ⟨a0, a1, a2, a3, a4, hza⟩ := hA.yard hU7
          go_wp2_with fail
          refine (HPo.out _ _ _ NU.out NV.out).mono ?_
          rintro e w8 ⟨u3, v3, rfl, hu, hv, hB8⟩
          clear p0 p1 p2 p3 p4 hz s0 s1 hz1 a0 a1 a2 a3 a4 hza
          have hT8 := then_below hT7 hB8
          have hU8 := then_below hU7 hB8
          replace NU : Hid (Yl w8 (.slice ao1 n1 c1) NN) := NU.out.later hB8
          replace NV : Hid (Yl w8 (.slice ao2 n2 c2) LL) := NV.out.later hB8
          have P1 : Hid (Wds w8 u3 A1) := hu.wds
          have P2 : Hid (Wds w8 v3 A2) := hv.wds
          obtain ⟨p0, p1, p2, p3, p4, hz⟩ := hK.yard hT8
          obtain ⟨s0, s1, hz1⟩ := hS.pair hT8
          obtain ⟨a0, a1, a2, a3, a4, hza⟩ := hA.yard hU8
          clear hu hv
          go_wp2_with fail
          refine (HOo.out _ hT8).mono ?_
          rintro e w9 ⟨u4, v4, rfl, hu, hv, hB9⟩
          clear p0 p1 p2 p3 p4 hz s0 s1 hz1 a0 a1 a2 a3 a4 hza
          have hT9 := then_below hT8 hB9
          have hU9 := then_below hU8 hB9
          replace NU : Hid (Yl w9 (.slice ao1 n1 c1) NN) := NU.out.later hB9
          replace NV : Hid (Yl w9 (.slice ao2 n2 c2) LL) := NV.out.later hB9
          replace P1 : Hid (Wds w9 u3 A1) := P1.out.later hB9
          replace P2 : Hid (Wds w9 v3 A2) := P2.out.later hB9
          have Q1 : Hid (Wds w9 u4 D1) := hu.wds
          have Q2 : Hid (Wds w9 v4 D2) := hv.wds
          obtain ⟨p0, p1, p2, p3, p4, hz⟩ := hK.yard hT9
          obtain ⟨s0, s1, hz1⟩ := hS.pair hT9
          obtain ⟨a0, a1, a2, a3, a4, hza⟩ := hA.yard hU9
          clear hu hv
          by_cases h3 : e3 = 0
          · subst h3
            obtain ⟨z1, z2, z3, z4⟩ := Z0.out rfl
            subst z1 z2 z3 z4
            clear Z0
            by_cases ha : f ≤ m ∧ m < t
            · obtain ⟨ha1, ha2⟩ := ha
              have ha : Hid (f ≤ m ∧ m < t) := ⟨ha1, ha2⟩
              go_wp2_with fail
              refine (O1.out (by trivial) ha.out _ _ _ Q1.out (HMw.out _ hT9)).mono ?_
              rintro e w10 ⟨u5, rfl, hu, hB10⟩
              clear p0 p1 p2 p3 p4 hz s0 s1 hz1 a0 a1 a2 a3 a4 hza
              have hT10 := then_below hT9 hB10
              have hU10 := then_below hU9 hB10
              replace NU : Hid (Yl w10 (.slice ao1 n1 c1) NN) := NU.out.later hB10
              replace NV : Hid (Yl w10 (.slice ao2 n2 c2) LL) := NV.out.later hB10
              replace P1 : Hid (Wds w10 u3 A1) := P1.out.later hB10
              replace P2 : Hid (Wds w10 v3 A2) := P2.out.later hB10
              replace Q1 : Hid (Wds w10 u4 D1) := Q1.out.later hB10
              replace Q2 : Hid (Wds w10 v4 D2) := Q2.out.later hB10
              have R1w : Hid (Wds w10 u5 A1) := hu.wds
              obtain ⟨p0, p1, p2, p3, p4, hz⟩ := hK.yard hT10
              obtain ⟨s0, s1, hz1⟩ := hS.pair hT10
              obtain ⟨a0, a1, a2, a3, a4, hza⟩ := hA.yard hU10
              clear hu
              go_wp2_with fail
              refine (O2.out (by trivial) ha.out _ _ _ Q2.out (HKw.out _ hT10)).mono ?_
              rintro e w11 ⟨v5, rfl, hv, hB11⟩
              clear p0 p1 p2 p3 p4 hz s0 s1 hz1 a0 a1 a2 a3 a4 hza
              have hT11 := then_below hT10 hB11
              have hU11 := then_below hU10 hB11
              replace NU : Hid (Yl w11 (.slice ao1 n1 c1) NN) := NU.out.later hB11
              replace NV : Hid (Yl w11 (.slice ao2 n2 c2) LL) := NV.out.later hB11
              replace P1 : Hid (Wds w11 u3 A1) := P1.out.later hB11
              replace P2 : Hid (Wds w11 v3 A2) := P2.out.later hB11
              replace Q1 : Hid (Wds w11 u4 D1) := Q1.out.later hB11
              replace Q2 : Hid (Wds w11 v4 D2) := Q2.out.later hB11
              replace R1w : Hid (Wds w11 u5 A1) := R1w.out.later hB11
              have R2w : Hid (Wds w11 v5 A2) := hv.wds
              obtain ⟨p0, p1, p2, p3, p4, hz⟩ := hK.yard hT11
              obtain ⟨s0, s1, hz1⟩ := hS.pair hT11
              obtain ⟨a0, a1, a2, a3, a4, hza⟩ := hA.yard hU11
              clear hv
              have R : Hid (Calls Try.prog 29 #[u3, u5] w11 fun e W' => e = .returned (.bool true) ∧ Below w11.heap.size w11 W') := by
                have := sameS_calls w11 P1.out R1w.out K3
                rwa [decide_eq_true rfl] at this
              go_wp2_with fail
              refine (R.out).mono ?_
              rintro e w12 ⟨rfl, hB12⟩
              clear p0 p1 p2 p3 p4 hz s0 s1 hz1 a0 a1 a2 a3 a4 hza
              have hT12 := then_below hT11 hB12
              have hU12 := then_below hU11 hB12
              replace NU : Hid (Yl w12 (.slice ao1 n1 c1) NN) := NU.out.later hB12
              replace NV : Hid (Yl w12 (.slice ao2 n2 c2) LL) := NV.out.later hB12
              replace P1 : Hid (Wds w12 u3 A1) := P1.out.later hB12
              replace P2 : Hid (Wds w12 v3 A2) := P2.out.later hB12
              replace Q1 : Hid (Wds w12 u4 D1) := Q1.out.later hB12
              replace Q2 : Hid (Wds w12 v4 D2) := Q2.out.later hB12
              replace R1w : Hid (Wds w12 u5 A1) := R1w.out.later hB12
              replace R2w : Hid (Wds w12 v5 A2) := R2w.out.later hB12
              obtain ⟨p0, p1, p2, p3, p4, hz⟩ := hK.yard hT12
              obtain ⟨s0, s1, hz1⟩ := hS.pair hT12
              obtain ⟨a0, a1, a2, a3, a4, hza⟩ := hA.yard hU12
              clear R
              have R : Hid (Calls Try.prog 29 #[v3, v5] w12 fun e W' => e = .returned (.bool true) ∧ Below w12.heap.size w12 W') := by
                have := sameS_calls w12 P2.out R2w.out K4
                rwa [decide_eq_true rfl] at this
              go_wp2_with fail
              refine (R.out).mono ?_
              rintro e w13 ⟨rfl, hB13⟩
              clear p0 p1 p2 p3 p4 hz s0 s1 hz1 a0 a1 a2 a3 a4 hza
              have hT13 := then_below hT12 hB13
              have hU13 := then_below hU12 hB13
              replace NU : Hid (Yl w13 (.slice ao1 n1 c1) NN) := NU.out.later hB13
              replace NV : Hid (Yl w13 (.slice ao2 n2 c2) LL) := NV.out.later hB13
              replace P1 : Hid (Wds w13 u3 A1) := P1.out.later hB13
              replace P2 : Hid (Wds w13 v3 A2) := P2.out.later hB13
              replace Q1 : Hid (Wds w13 u4 D1) := Q1.out.later hB13
              replace Q2 : Hid (Wds w13 v4 D2) := Q2.out.later hB13
              replace R1w : Hid (Wds w13 u5 A1) := R1w.out.later hB13
              replace R2w : Hid (Wds w13 v5 A2) := R2w.out.later hB13
              obtain ⟨p0, p1, p2, p3, p4, hz⟩ := hK.yard hT13
              obtain ⟨s0, s1, hz1⟩ := hS.pair hT13
              obtain ⟨a0, a1, a2, a3, a4, hza⟩ := hA.yard hU13
              clear R
              clear P1 P2 Q1 Q2 R1w R2w ha ha1 ha2 E1 O1 O2 HMw HKw M1 M2
              by_cases hyo : y = o
              · have hyb : (y != o) = false := by simpa using hyo
                clear hyo E2
                go_wp2_with fail
                refine (HK2.out _ _ _ NU.out NV.out).mono ?_
                rintro e w14 ⟨u8, v8, rfl, hu, hv, hB14⟩
                clear p0 p1 p2 p3 p4 hz s0 s1 hz1 a0 a1 a2 a3 a4 hza
                have hT14 := then_below hT13 hB14
                have hU14 := then_below hU13 hB14
                replace NU : Hid (Yl w14 (.slice ao1 n1 c1) NN) := NU.out.later hB14
                replace NV : Hid (Yl w14 (.slice ao2 n2 c2) LL) := NV.out.later hB14
                obtain ⟨p0, p1, p2, p3, p4, hz⟩ := hK.yard hT14
                obtain ⟨s0, s1, hz1⟩ := hS.pair hT14
                obtain ⟨a0, a1, a2, a3, a4, hza⟩ := hA.yard hU14
                obtain ⟨ao3, n3, c3, rfl⟩ := hu.slice
                obtain ⟨ao4, n4, c4, rfl⟩ := hv.slice
                have TU : Hid (Yl w14 (.slice ao3 n3 c3) R1) := hu.yl
                have TV : Hid (Yl w14 (.slice ao4 n4 c4) R2) := hv.yl
                clear hu hv NU NV
                obtain ⟨XB, hXB, hBB, hBx⟩ := one_start w14 (K5 a b c (.slice ao3 n3 c3) (.slice ao4 n4 c4)) 26
                have HXB : Hid (w14.alloc (.cells (K5 a b c (.slice ao3 n3 c3) (.slice ao4 n4 c4)) 26) = XB) := hXB
                have hTB := then_below hT14 hBB
                clear hXB
                go_wp2_with fail
                rw [HXB.out]
                refine (HK.out _ hTB).mono ?_
                rintro e w15 ⟨u9, v9, rfl, hu, hv, hB15⟩
                clear p0 p1 p2 p3 p4 hz s0 s1 hz1 a0 a1 a2 a3 a4 hza
                have hT15 := then_below hTB hB15
                have hU15 := then_below (then_below hU14 hBB) hB15
                have hV15 := hB15
                replace TU : Hid (Yl w15 (.slice ao3 n3 c3) R1) := TU.out.later (then_below hBB hB15)
                replace TV : Hid (Yl w15 (.slice ao4 n4 c4) R2) := TV.out.later (then_below hBB hB15)
                obtain ⟨p0, p1, p2, p3, p4, hz⟩ := hK.yard hT15
                obtain ⟨s0, s1, hz1⟩ := hS.pair hT15
                obtain ⟨a0, a1, a2, a3, a4, hza⟩ := hA.yard hU15
                obtain ⟨b0, b1, b2, b3, b4, hzb⟩ := hBx.yard hV15
                obtain ⟨ao5, n5, c5, rfl⟩ := hu.slice
                obtain ⟨ao6, n6, c6, rfl⟩ := hv.slice
                obtain ⟨XC, hXC, hBC, hCx⟩ := one_start w15 (K5 a b c (.slice ao5 n5 c5) (.slice ao6 n6 c6)) 26
                have HXC : Hid (w15.alloc (.cells (K5 a b c (.slice ao5 n5 c5) (.slice ao6 n6 c6)) 26) = XC) := hXC
                have hTC := then_below hT15 hBC
                clear hXC
                have SU : Hid (Yl XC (.slice ao5 n5 c5) R1) := (hu.later hBC).yl
                have SV : Hid (Yl XC (.slice ao6 n6 c6) R2) := (hv.later hBC).yl
                replace TU : Hid (Yl XC (.slice ao3 n3 c3) R1) := TU.out.later hBC
                replace TV : Hid (Yl XC (.slice ao4 n4 c4) R2) := TV.out.later hBC
                clear hu hv
                go_wp2_with fail
                rw [HXC.out]
                refine (HS3.out _ _ _ _ _ TU.out TV.out SU.out SV.out).mono ?_
                rintro e wz ⟨rfl, hBz⟩
                have hTz := then_below hTC hBz
                go_wp2
                go_ret
                exact ⟨rfl, then_below hB hTz⟩
              · have hyb : (y != o) = true := by simpa using hyo
                obtain ⟨E3, E4⟩ := E2.out hyo
                subst E3 E4
                clear hyo E2
                go_wp2_with fail
                refine (HPy.out _ _ _ NU.out NV.out).mono ?_
                rintro e w14 ⟨u6, v6, rfl, hu, hv, hB14⟩
                clear p0 p1 p2 p3 p4 hz s0 s1 hz1 a0 a1 a2 a3 a4 hza
                have hT14 := then_below hT13 hB14
                have hU14 := then_below hU13 hB14
                replace NU : Hid (Yl w14 (.slice ao1 n1 c1) NN) := NU.out.later hB14
                replace NV : Hid (Yl w14 (.slice ao2 n2 c2) LL) := NV.out.later hB14
                have B1w : Hid (Wds w14 u6 B1) := hu.wds
                have B2w : Hid (Wds w14 v6 B2) := hv.wds
                obtain ⟨p0, p1, p2, p3, p4, hz⟩ := hK.yard hT14
                obtain ⟨s0, s1, hz1⟩ := hS.pair hT14
                obtain ⟨a0, a1, a2, a3, a4, hza⟩ := hA.yard hU14
                clear hu hv
                go_wp2_with fail
                refine (HOy.out _ hT14).mono ?_
                rintro e w15 ⟨u7, v7, rfl, hu, hv, hB15⟩
                clear p0 p1 p2 p3 p4 hz s0 s1 hz1 a0 a1 a2 a3 a4 hza
                have hT15 := then_below hT14 hB15
                have hU15 := then_below hU14 hB15
                replace NU : Hid (Yl w15 (.slice ao1 n1 c1) NN) := NU.out.later hB15
                replace NV : Hid (Yl w15 (.slice ao2 n2 c2) LL) := NV.out.later hB15
                replace B1w : Hid (Wds w15 u6 B1) := B1w.out.later hB15
                replace B2w : Hid (Wds w15 v6 B2) := B2w.out.later hB15
                have C1w : Hid (Wds w15 u7 B1) := hu.wds
                have C2w : Hid (Wds w15 v7 B2) := hv.wds
                obtain ⟨p0, p1, p2, p3, p4, hz⟩ := hK.yard hT15
                obtain ⟨s0, s1, hz1⟩ := hS.pair hT15
                obtain ⟨a0, a1, a2, a3, a4, hza⟩ := hA.yard hU15
                clear hu hv
                have R : Hid (Calls Try.prog 29 #[u6, u7] w15 fun e W' => e = .returned (.bool true) ∧ Below w15.heap.size w15 W') := by
                  have := sameS_calls w15 B1w.out C1w.out K1
                  rwa [decide_eq_true rfl] at this
                go_wp2_with fail
                refine (R.out).mono ?_
                rintro e w16 ⟨rfl, hB16⟩
                clear p0 p1 p2 p3 p4 hz s0 s1 hz1 a0 a1 a2 a3 a4 hza
                have hT16 := then_below hT15 hB16
                have hU16 := then_below hU15 hB16
                replace NU : Hid (Yl w16 (.slice ao1 n1 c1) NN) := NU.out.later hB16
                replace NV : Hid (Yl w16 (.slice ao2 n2 c2) LL) := NV.out.later hB16
                replace B1w : Hid (Wds w16 u6 B1) := B1w.out.later hB16
                replace B2w : Hid (Wds w16 v6 B2) := B2w.out.later hB16
                replace C1w : Hid (Wds w16 u7 B1) := C1w.out.later hB16
                replace C2w : Hid (Wds w16 v7 B2) := C2w.out.later hB16
                obtain ⟨p0, p1, p2, p3, p4, hz⟩ := hK.yard hT16
                obtain ⟨s0, s1, hz1⟩ := hS.pair hT16
                obtain ⟨a0, a1, a2, a3, a4, hza⟩ := hA.yard hU16
                clear R
                have R : Hid (Calls Try.prog 29 #[v6, v7] w16 fun e W' => e = .returned (.bool true) ∧ Below w16.heap.size w16 W') := by
                  have := sameS_calls w16 B2w.out C2w.out K2
                  rwa [decide_eq_true rfl] at this
                go_wp2_with fail
                refine (R.out).mono ?_
                rintro e w17 ⟨rfl, hB17⟩
                clear p0 p1 p2 p3 p4 hz s0 s1 hz1 a0 a1 a2 a3 a4 hza
                have hT17 := then_below hT16 hB17
                have hU17 := then_below hU16 hB17
                replace NU : Hid (Yl w17 (.slice ao1 n1 c1) NN) := NU.out.later hB17
                replace NV : Hid (Yl w17 (.slice ao2 n2 c2) LL) := NV.out.later hB17
                replace B1w : Hid (Wds w17 u6 B1) := B1w.out.later hB17
                replace B2w : Hid (Wds w17 v6 B2) := B2w.out.later hB17
                replace C1w : Hid (Wds w17 u7 B1) := C1w.out.later hB17
                replace C2w : Hid (Wds w17 v7 B2) := C2w.out.later hB17
                obtain ⟨p0, p1, p2, p3, p4, hz⟩ := hK.yard hT17
                obtain ⟨s0, s1, hz1⟩ := hS.pair hT17
                obtain ⟨a0, a1, a2, a3, a4, hza⟩ := hA.yard hU17
                clear R
                clear B1w B2w C1w C2w
                go_wp2_with fail
                refine (HK2.out _ _ _ NU.out NV.out).mono ?_
                rintro e w18 ⟨u8, v8, rfl, hu, hv, hB18⟩
                clear p0 p1 p2 p3 p4 hz s0 s1 hz1 a0 a1 a2 a3 a4 hza
                have hT18 := then_below hT17 hB18
                have hU18 := then_below hU17 hB18
                replace NU : Hid (Yl w18 (.slice ao1 n1 c1) NN) := NU.out.later hB18
                replace NV : Hid (Yl w18 (.slice ao2 n2 c2) LL) := NV.out.later hB18
                obtain ⟨p0, p1, p2, p3, p4, hz⟩ := hK.yard hT18
                obtain ⟨s0, s1, hz1⟩ := hS.pair hT18
                obtain ⟨a0, a1, a2, a3, a4, hza⟩ := hA.yard hU18
                obtain ⟨ao3, n3, c3, rfl⟩ := hu.slice
                obtain ⟨ao4, n4, c4, rfl⟩ := hv.slice
                have TU : Hid (Yl w18 (.slice ao3 n3 c3) R1) := hu.yl
                have TV : Hid (Yl w18 (.slice ao4 n4 c4) R2) := hv.yl
                clear hu hv NU NV
                obtain ⟨XB, hXB, hBB, hBx⟩ := one_start w18 (K5 a b c (.slice ao3 n3 c3) (.slice ao4 n4 c4)) 26
                have HXB : Hid (w18.alloc (.cells (K5 a b c (.slice ao3 n3 c3) (.slice ao4 n4 c4)) 26) = XB) := hXB
                have hTB := then_below hT18 hBB
                clear hXB
                go_wp2_with fail
                rw [HXB.out]
                refine (HK.out _ hTB).mono ?_
                rintro e w19 ⟨u9, v9, rfl, hu, hv, hB19⟩
                clear p0 p1 p2 p3 p4 hz s0 s1 hz1 a0 a1 a2 a3 a4 hza
                have hT19 := then_below hTB hB19
                have hU19 := then_below (then_below hU18 hBB) hB19
                have hV19 := hB19
                replace TU : Hid (Yl w19 (.slice ao3 n3 c3) R1) := TU.out.later (then_below hBB hB19)
                replace TV : Hid (Yl w19 (.slice ao4 n4 c4) R2) := TV.out.later (then_below hBB hB19)
                obtain ⟨p0, p1, p2, p3, p4, hz⟩ := hK.yard hT19
                obtain ⟨s0, s1, hz1⟩ := hS.pair hT19
                obtain ⟨a0, a1, a2, a3, a4, hza⟩ := hA.yard hU19
                obtain ⟨b0, b1, b2, b3, b4, hzb⟩ := hBx.yard hV19
                obtain ⟨ao5, n5, c5, rfl⟩ := hu.slice
                obtain ⟨ao6, n6, c6, rfl⟩ := hv.slice
                obtain ⟨XC, hXC, hBC, hCx⟩ := one_start w19 (K5 a b c (.slice ao5 n5 c5) (.slice ao6 n6 c6)) 26
                have HXC : Hid (w19.alloc (.cells (K5 a b c (.slice ao5 n5 c5) (.slice ao6 n6 c6)) 26) = XC) := hXC
                have hTC := then_below hT19 hBC
                clear hXC
                have SU : Hid (Yl XC (.slice ao5 n5 c5) R1) := (hu.later hBC).yl
                have SV : Hid (Yl XC (.slice ao6 n6 c6) R2) := (hv.later hBC).yl
                replace TU : Hid (Yl XC (.slice ao3 n3 c3) R1) := TU.out.later hBC
                replace TV : Hid (Yl XC (.slice ao4 n4 c4) R2) := TV.out.later hBC
                clear hu hv
                go_wp2_with fail
                rw [HXC.out]
                refine (HS3.out _ _ _ _ _ TU.out TV.out SU.out SV.out).mono ?_
                rintro e wz ⟨rfl, hBz⟩
                have hTz := then_below hTC hBz
                go_wp2
                go_ret
                exact ⟨rfl, then_below hB hTz⟩
            · obtain ⟨E3, E4⟩ := E1.out ha
              subst E3 E4
              clear E1
              by_cases g1 : f ≤ m
              · have g2b : decide (m < t) = false := decide_eq_false fun h => ha ⟨g1, h⟩
                clear ha
                have R : Hid (Calls Try.prog 29 #[u3, u4] w9 fun e W' => e = .returned (.bool true) ∧ Below w9.heap.size w9 W') := by
                  have := sameS_calls w9 P1.out Q1.out K3
                  rwa [decide_eq_true rfl] at this
                go_wp2_with fail
                refine (R.out).mono ?_
                rintro e w10 ⟨rfl, hB10⟩
                clear p0 p1 p2 p3 p4 hz s0 s1 hz1 a0 a1 a2 a3 a4 hza
                have hT10 := then_below hT9 hB10
                have hU10 := then_below hU9 hB10
                replace NU : Hid (Yl w10 (.slice ao1 n1 c1) NN) := NU.out.later hB10
                replace NV : Hid (Yl w10 (.slice ao2 n2 c2) LL) := NV.out.later hB10
                replace P1 : Hid (Wds w10 u3 A1) := P1.out.later hB10
                replace P2 : Hid (Wds w10 v3 A2) := P2.out.later hB10
                replace Q1 : Hid (Wds w10 u4 A1) := Q1.out.later hB10
                replace Q2 : Hid (Wds w10 v4 A2) := Q2.out.later hB10
                obtain ⟨p0, p1, p2, p3, p4, hz⟩ := hK.yard hT10
                obtain ⟨s0, s1, hz1⟩ := hS.pair hT10
                obtain ⟨a0, a1, a2, a3, a4, hza⟩ := hA.yard hU10
                clear R
                have R : Hid (Calls Try.prog 29 #[v3, v4] w10 fun e W' => e = .returned (.bool true) ∧ Below w10.heap.size w10 W') := by
                  have := sameS_calls w10 P2.out Q2.out K4
                  rwa [decide_eq_true rfl] at this
                go_wp2_with fail
                refine (R.out).mono ?_
                rintro e w11 ⟨rfl, hB11⟩
                clear p0 p1 p2 p3 p4 hz s0 s1 hz1 a0 a1 a2 a3 a4 hza
                have hT11 := then_below hT10 hB11
                have hU11 := then_below hU10 hB11
                replace NU : Hid (Yl w11 (.slice ao1 n1 c1) NN) := NU.out.later hB11
                replace NV : Hid (Yl w11 (.slice ao2 n2 c2) LL) := NV.out.later hB11
                replace P1 : Hid (Wds w11 u3 A1) := P1.out.later hB11
                replace P2 : Hid (Wds w11 v3 A2) := P2.out.later hB11
                replace Q1 : Hid (Wds w11 u4 A1) := Q1.out.later hB11
                replace Q2 : Hid (Wds w11 v4 A2) := Q2.out.later hB11
                obtain ⟨p0, p1, p2, p3, p4, hz⟩ := hK.yard hT11
                obtain ⟨s0, s1, hz1⟩ := hS.pair hT11
                obtain ⟨a0, a1, a2, a3, a4, hza⟩ := hA.yard hU11
                clear R
                clear P1 P2 Q1 Q2 O1 O2 HMw HKw M1 M2
                by_cases hyo : y = o
                · have hyb : (y != o) = false := by simpa using hyo
                  clear hyo E2
                  go_wp2_with fail
                  refine (HK2.out _ _ _ NU.out NV.out).mono ?_
                  rintro e w12 ⟨u8, v8, rfl, hu, hv, hB12⟩
                  clear p0 p1 p2 p3 p4 hz s0 s1 hz1 a0 a1 a2 a3 a4 hza
                  have hT12 := then_below hT11 hB12
                  have hU12 := then_below hU11 hB12
                  replace NU : Hid (Yl w12 (.slice ao1 n1 c1) NN) := NU.out.later hB12
                  replace NV : Hid (Yl w12 (.slice ao2 n2 c2) LL) := NV.out.later hB12
                  obtain ⟨p0, p1, p2, p3, p4, hz⟩ := hK.yard hT12
                  obtain ⟨s0, s1, hz1⟩ := hS.pair hT12
                  obtain ⟨a0, a1, a2, a3, a4, hza⟩ := hA.yard hU12
                  obtain ⟨ao3, n3, c3, rfl⟩ := hu.slice
                  obtain ⟨ao4, n4, c4, rfl⟩ := hv.slice
                  have TU : Hid (Yl w12 (.slice ao3 n3 c3) R1) := hu.yl
                  have TV : Hid (Yl w12 (.slice ao4 n4 c4) R2) := hv.yl
                  clear hu hv NU NV
                  obtain ⟨XB, hXB, hBB, hBx⟩ := one_start w12 (K5 a b c (.slice ao3 n3 c3) (.slice ao4 n4 c4)) 26
                  have HXB : Hid (w12.alloc (.cells (K5 a b c (.slice ao3 n3 c3) (.slice ao4 n4 c4)) 26) = XB) := hXB
                  have hTB := then_below hT12 hBB
                  clear hXB
                  go_wp2_with fail
                  rw [HXB.out]
                  refine (HK.out _ hTB).mono ?_
                  rintro e w13 ⟨u9, v9, rfl, hu, hv, hB13⟩
                  clear p0 p1 p2 p3 p4 hz s0 s1 hz1 a0 a1 a2 a3 a4 hza
                  have hT13 := then_below hTB hB13
                  have hU13 := then_below (then_below hU12 hBB) hB13
                  have hV13 := hB13
                  replace TU : Hid (Yl w13 (.slice ao3 n3 c3) R1) := TU.out.later (then_below hBB hB13)
                  replace TV : Hid (Yl w13 (.slice ao4 n4 c4) R2) := TV.out.later (then_below hBB hB13)
                  obtain ⟨p0, p1, p2, p3, p4, hz⟩ := hK.yard hT13
                  obtain ⟨s0, s1, hz1⟩ := hS.pair hT13
                  obtain ⟨a0, a1, a2, a3, a4, hza⟩ := hA.yard hU13
                  obtain ⟨b0, b1, b2, b3, b4, hzb⟩ := hBx.yard hV13
                  obtain ⟨ao5, n5, c5, rfl⟩ := hu.slice
                  obtain ⟨ao6, n6, c6, rfl⟩ := hv.slice
                  obtain ⟨XC, hXC, hBC, hCx⟩ := one_start w13 (K5 a b c (.slice ao5 n5 c5) (.slice ao6 n6 c6)) 26
                  have HXC : Hid (w13.alloc (.cells (K5 a b c (.slice ao5 n5 c5) (.slice ao6 n6 c6)) 26) = XC) := hXC
                  have hTC := then_below hT13 hBC
                  clear hXC
                  have SU : Hid (Yl XC (.slice ao5 n5 c5) R1) := (hu.later hBC).yl
                  have SV : Hid (Yl XC (.slice ao6 n6 c6) R2) := (hv.later hBC).yl
                  replace TU : Hid (Yl XC (.slice ao3 n3 c3) R1) := TU.out.later hBC
                  replace TV : Hid (Yl XC (.slice ao4 n4 c4) R2) := TV.out.later hBC
                  clear hu hv
                  go_wp2_with fail
                  rw [HXC.out]
                  refine (HS3.out _ _ _ _ _ TU.out TV.out SU.out SV.out).mono ?_
                  rintro e wz ⟨rfl, hBz⟩
                  have hTz := then_below hTC hBz
                  go_wp2
                  go_ret
                  exact ⟨rfl, then_below hB hTz⟩
                · have hyb : (y != o) = true := by simpa using hyo
                  obtain ⟨E3, E4⟩ := E2.out hyo
                  subst E3 E4
                  clear hyo E2
                  go_wp2_with fail
                  refine (HPy.out _ _ _ NU.out NV.out).mono ?_
                  rintro e w12 ⟨u6, v6, rfl, hu, hv, hB12⟩
                  clear p0 p1 p2 p3 p4 hz s0 s1 hz1 a0 a1 a2 a3 a4 hza
                  have hT12 := then_below hT11 hB12
                  have hU12 := then_below hU11 hB12
                  replace NU : Hid (Yl w12 (.slice ao1 n1 c1) NN) := NU.out.later hB12
                  replace NV : Hid (Yl w12 (.slice ao2 n2 c2) LL) := NV.out.later hB12
                  have B1w : Hid (Wds w12 u6 B1) := hu.wds
                  have B2w : Hid (Wds w12 v6 B2) := hv.wds
                  obtain ⟨p0, p1, p2, p3, p4, hz⟩ := hK.yard hT12
                  obtain ⟨s0, s1, hz1⟩ := hS.pair hT12
                  obtain ⟨a0, a1, a2, a3, a4, hza⟩ := hA.yard hU12
                  clear hu hv
                  go_wp2_with fail
                  refine (HOy.out _ hT12).mono ?_
                  rintro e w13 ⟨u7, v7, rfl, hu, hv, hB13⟩
                  clear p0 p1 p2 p3 p4 hz s0 s1 hz1 a0 a1 a2 a3 a4 hza
                  have hT13 := then_below hT12 hB13
                  have hU13 := then_below hU12 hB13
                  replace NU : Hid (Yl w13 (.slice ao1 n1 c1) NN) := NU.out.later hB13
                  replace NV : Hid (Yl w13 (.slice ao2 n2 c2) LL) := NV.out.later hB13
                  replace B1w : Hid (Wds w13 u6 B1) := B1w.out.later hB13
                  replace B2w : Hid (Wds w13 v6 B2) := B2w.out.later hB13
                  have C1w : Hid (Wds w13 u7 B1) := hu.wds
                  have C2w : Hid (Wds w13 v7 B2) := hv.wds
                  obtain ⟨p0, p1, p2, p3, p4, hz⟩ := hK.yard hT13
                  obtain ⟨s0, s1, hz1⟩ := hS.pair hT13
                  obtain ⟨a0, a1, a2, a3, a4, hza⟩ := hA.yard hU13
                  clear hu hv
                  have R : Hid (Calls Try.prog 29 #[u6, u7] w13 fun e W' => e = .returned (.bool true) ∧ Below w13.heap.size w13 W') := by
                    have := sameS_calls w13 B1w.out C1w.out K1
                    rwa [decide_eq_true rfl] at this
                  go_wp2_with fail
                  refine (R.out).mono ?_
                  rintro e w14 ⟨rfl, hB14⟩
                  clear p0 p1 p2 p3 p4 hz s0 s1 hz1 a0 a1 a2 a3 a4 hza
                  have hT14 := then_below hT13 hB14
                  have hU14 := then_below hU13 hB14
                  replace NU : Hid (Yl w14 (.slice ao1 n1 c1) NN) := NU.out.later hB14
                  replace NV : Hid (Yl w14 (.slice ao2 n2 c2) LL) := NV.out.later hB14
                  replace B1w : Hid (Wds w14 u6 B1) := B1w.out.later hB14
                  replace B2w : Hid (Wds w14 v6 B2) := B2w.out.later hB14
                  replace C1w : Hid (Wds w14 u7 B1) := C1w.out.later hB14
                  replace C2w : Hid (Wds w14 v7 B2) := C2w.out.later hB14
                  obtain ⟨p0, p1, p2, p3, p4, hz⟩ := hK.yard hT14
                  obtain ⟨s0, s1, hz1⟩ := hS.pair hT14
                  obtain ⟨a0, a1, a2, a3, a4, hza⟩ := hA.yard hU14
                  clear R
                  have R : Hid (Calls Try.prog 29 #[v6, v7] w14 fun e W' => e = .returned (.bool true) ∧ Below w14.heap.size w14 W') := by
                    have := sameS_calls w14 B2w.out C2w.out K2
                    rwa [decide_eq_true rfl] at this
                  go_wp2_with fail
                  refine (R.out).mono ?_
                  rintro e w15 ⟨rfl, hB15⟩
                  clear p0 p1 p2 p3 p4 hz s0 s1 hz1 a0 a1 a2 a3 a4 hza
                  have hT15 := then_below hT14 hB15
                  have hU15 := then_below hU14 hB15
                  replace NU : Hid (Yl w15 (.slice ao1 n1 c1) NN) := NU.out.later hB15
                  replace NV : Hid (Yl w15 (.slice ao2 n2 c2) LL) := NV.out.later hB15
                  replace B1w : Hid (Wds w15 u6 B1) := B1w.out.later hB15
                  replace B2w : Hid (Wds w15 v6 B2) := B2w.out.later hB15
                  replace C1w : Hid (Wds w15 u7 B1) := C1w.out.later hB15
                  replace C2w : Hid (Wds w15 v7 B2) := C2w.out.later hB15
                  obtain ⟨p0, p1, p2, p3, p4, hz⟩ := hK.yard hT15
                  obtain ⟨s0, s1, hz1⟩ := hS.pair hT15
                  obtain ⟨a0, a1, a2, a3, a4, hza⟩ := hA.yard hU15
                  clear R
                  clear B1w B2w C1w C2w
                  go_wp2_with fail
                  refine (HK2.out _ _ _ NU.out NV.out).mono ?_
                  rintro e w16 ⟨u8, v8, rfl, hu, hv, hB16⟩
                  clear p0 p1 p2 p3 p4 hz s0 s1 hz1 a0 a1 a2 a3 a4 hza
                  have hT16 := then_below hT15 hB16
                  have hU16 := then_below hU15 hB16
                  replace NU : Hid (Yl w16 (.slice ao1 n1 c1) NN) := NU.out.later hB16
                  replace NV : Hid (Yl w16 (.slice ao2 n2 c2) LL) := NV.out.later hB16
                  obtain ⟨p0, p1, p2, p3, p4, hz⟩ := hK.yard hT16
                  obtain ⟨s0, s1, hz1⟩ := hS.pair hT16
                  obtain ⟨a0, a1, a2, a3, a4, hza⟩ := hA.yard hU16
                  obtain ⟨ao3, n3, c3, rfl⟩ := hu.slice
                  obtain ⟨ao4, n4, c4, rfl⟩ := hv.slice
                  have TU : Hid (Yl w16 (.slice ao3 n3 c3) R1) := hu.yl
                  have TV : Hid (Yl w16 (.slice ao4 n4 c4) R2) := hv.yl
                  clear hu hv NU NV
                  obtain ⟨XB, hXB, hBB, hBx⟩ := one_start w16 (K5 a b c (.slice ao3 n3 c3) (.slice ao4 n4 c4)) 26
                  have HXB : Hid (w16.alloc (.cells (K5 a b c (.slice ao3 n3 c3) (.slice ao4 n4 c4)) 26) = XB) := hXB
                  have hTB := then_below hT16 hBB
                  clear hXB
                  go_wp2_with fail
                  rw [HXB.out]
                  refine (HK.out _ hTB).mono ?_
                  rintro e w17 ⟨u9, v9, rfl, hu, hv, hB17⟩
                  clear p0 p1 p2 p3 p4 hz s0 s1 hz1 a0 a1 a2 a3 a4 hza
                  have hT17 := then_below hTB hB17
                  have hU17 := then_below (then_below hU16 hBB) hB17
                  have hV17 := hB17
                  replace TU : Hid (Yl w17 (.slice ao3 n3 c3) R1) := TU.out.later (then_below hBB hB17)
                  replace TV : Hid (Yl w17 (.slice ao4 n4 c4) R2) := TV.out.later (then_below hBB hB17)
                  obtain ⟨p0, p1, p2, p3, p4, hz⟩ := hK.yard hT17
                  obtain ⟨s0, s1, hz1⟩ := hS.pair hT17
                  obtain ⟨a0, a1, a2, a3, a4, hza⟩ := hA.yard hU17
                  obtain ⟨b0, b1, b2, b3, b4, hzb⟩ := hBx.yard hV17
                  obtain ⟨ao5, n5, c5, rfl⟩ := hu.slice
                  obtain ⟨ao6, n6, c6, rfl⟩ := hv.slice
                  obtain ⟨XC, hXC, hBC, hCx⟩ := one_start w17 (K5 a b c (.slice ao5 n5 c5) (.slice ao6 n6 c6)) 26
                  have HXC : Hid (w17.alloc (.cells (K5 a b c (.slice ao5 n5 c5) (.slice ao6 n6 c6)) 26) = XC) := hXC
                  have hTC := then_below hT17 hBC
                  clear hXC
                  have SU : Hid (Yl XC (.slice ao5 n5 c5) R1) := (hu.later hBC).yl
                  have SV : Hid (Yl XC (.slice ao6 n6 c6) R2) := (hv.later hBC).yl
                  replace TU : Hid (Yl XC (.slice ao3 n3 c3) R1) := TU.out.later hBC
                  replace TV : Hid (Yl XC (.slice ao4 n4 c4) R2) := TV.out.later hBC
                  clear hu hv
                  go_wp2_with fail
                  rw [HXC.out]
                  refine (HS3.out _ _ _ _ _ TU.out TV.out SU.out SV.out).mono ?_
                  rintro e wz ⟨rfl, hBz⟩
                  have hTz := then_below hTC hBz
                  go_wp2
                  go_ret
                  exact ⟨rfl, then_below hB hTz⟩
              · have g1b : decide (f ≤ m) = false := decide_eq_false g1
                clear ha g1
                have R : Hid (Calls Try.prog 29 #[u3, u4] w9 fun e W' => e = .returned (.bool true) ∧ Below w9.heap.size w9 W') := by
                  have := sameS_calls w9 P1.out Q1.out K3
                  rwa [decide_eq_true rfl] at this
                go_wp2_with fail
                refine (R.out).mono ?_
                rintro e w10 ⟨rfl, hB10⟩
                clear p0 p1 p2 p3 p4 hz s0 s1 hz1 a0 a1 a2 a3 a4 hza
                have hT10 := then_below hT9 hB10
                have hU10 := then_below hU9 hB10
                replace NU : Hid (Yl w10 (.slice ao1 n1 c1) NN) := NU.out.later hB10
                replace NV : Hid (Yl w10 (.slice ao2 n2 c2) LL) := NV.out.later hB10
                replace P1 : Hid (Wds w10 u3 A1) := P1.out.later hB10
                replace P2 : Hid (Wds w10 v3 A2) := P2.out.later hB10
                replace Q1 : Hid (Wds w10 u4 A1) := Q1.out.later hB10
                replace Q2 : Hid (Wds w10 v4 A2) := Q2.out.later hB10
                obtain ⟨p0, p1, p2, p3, p4, hz⟩ := hK.yard hT10
                obtain ⟨s0, s1, hz1⟩ := hS.pair hT10
                obtain ⟨a0, a1, a2, a3, a4, hza⟩ := hA.yard hU10
                clear R
                have R : Hid (Calls Try.prog 29 #[v3, v4] w10 fun e W' => e = .returned (.bool true) ∧ Below w10.heap.size w10 W') := by
                  have := sameS_calls w10 P2.out Q2.out K4
                  rwa [decide_eq_true rfl] at this
                go_wp2_with fail
                refine (R.out).mono ?_
                rintro e w11 ⟨rfl, hB11⟩
                clear p0 p1 p2 p3 p4 hz s0 s1 hz1 a0 a1 a2 a3 a4 hza
                have hT11 := then_below hT10 hB11
                have hU11 := then_below hU10 hB11
                replace NU : Hid (Yl w11 (.slice ao1 n1 c1) NN) := NU.out.later hB11
                replace NV : Hid (Yl w11 (.slice ao2 n2 c2) LL) := NV.out.later hB11
                replace P1 : Hid (Wds w11 u3 A1) := P1.out.later hB11
                replace P2 : Hid (Wds w11 v3 A2) := P2.out.later hB11
                replace Q1 : Hid (Wds w11 u4 A1) := Q1.out.later hB11
                replace Q2 : Hid (Wds w11 v4 A2) := Q2.out.later hB11
                obtain ⟨p0, p1, p2, p3, p4, hz⟩ := hK.yard hT11
                obtain ⟨s0, s1, hz1⟩ := hS.pair hT11
                obtain ⟨a0, a1, a2, a3, a4, hza⟩ := hA.yard hU11
                clear R
                clear P1 P2 Q1 Q2 O1 O2 HMw HKw M1 M2
                by_cases hyo : y = o
                · have hyb : (y != o) = false := by simpa using hyo
                  clear hyo E2
                  go_wp2_with fail
                  refine (HK2.out _ _ _ NU.out NV.out).mono ?_
                  rintro e w12 ⟨u8, v8, rfl, hu, hv, hB12⟩
                  clear p0 p1 p2 p3 p4 hz s0 s1 hz1 a0 a1 a2 a3 a4 hza
                  have hT12 := then_below hT11 hB12
                  have hU12 := then_below hU11 hB12
                  replace NU : Hid (Yl w12 (.slice ao1 n1 c1) NN) := NU.out.later hB12
                  replace NV : Hid (Yl w12 (.slice ao2 n2 c2) LL) := NV.out.later hB12
                  obtain ⟨p0, p1, p2, p3, p4, hz⟩ := hK.yard hT12
                  obtain ⟨s0, s1, hz1⟩ := hS.pair hT12
                  obtain ⟨a0, a1, a2, a3, a4, hza⟩ := hA.yard hU12
                  obtain ⟨ao3, n3, c3, rfl⟩ := hu.slice
                  obtain ⟨ao4, n4, c4, rfl⟩ := hv.slice
                  have TU : Hid (Yl w12 (.slice ao3 n3 c3) R1) := hu.yl
                  have TV : Hid (Yl w12 (.slice ao4 n4 c4) R2) := hv.yl
                  clear hu hv NU NV
                  obtain ⟨XB, hXB, hBB, hBx⟩ := one_start w12 (K5 a b c (.slice ao3 n3 c3) (.slice ao4 n4 c4)) 26
                  have HXB : Hid (w12.alloc (.cells (K5 a b c (.slice ao3 n3 c3) (.slice ao4 n4 c4)) 26) = XB) := hXB
                  have hTB := then_below hT12 hBB
                  clear hXB
                  go_wp2_with fail
                  rw [HXB.out]
                  refine (HK.out _ hTB).mono ?_
                  rintro e w13 ⟨u9, v9, rfl, hu, hv, hB13⟩
                  clear p0 p1 p2 p3 p4 hz s0 s1 hz1 a0 a1 a2 a3 a4 hza
                  have hT13 := then_below hTB hB13
                  have hU13 := then_below (then_below hU12 hBB) hB13
                  have hV13 := hB13
                  replace TU : Hid (Yl w13 (.slice ao3 n3 c3) R1) := TU.out.later (then_below hBB hB13)
                  replace TV : Hid (Yl w13 (.slice ao4 n4 c4) R2) := TV.out.later (then_below hBB hB13)
                  obtain ⟨p0, p1, p2, p3, p4, hz⟩ := hK.yard hT13
                  obtain ⟨s0, s1, hz1⟩ := hS.pair hT13
                  obtain ⟨a0, a1, a2, a3, a4, hza⟩ := hA.yard hU13
                  obtain ⟨b0, b1, b2, b3, b4, hzb⟩ := hBx.yard hV13
                  obtain ⟨ao5, n5, c5, rfl⟩ := hu.slice
                  obtain ⟨ao6, n6, c6, rfl⟩ := hv.slice
                  obtain ⟨XC, hXC, hBC, hCx⟩ := one_start w13 (K5 a b c (.slice ao5 n5 c5) (.slice ao6 n6 c6)) 26
                  have HXC : Hid (w13.alloc (.cells (K5 a b c (.slice ao5 n5 c5) (.slice ao6 n6 c6)) 26) = XC) := hXC
                  have hTC := then_below hT13 hBC
                  clear hXC
                  have SU : Hid (Yl XC (.slice ao5 n5 c5) R1) := (hu.later hBC).yl
                  have SV : Hid (Yl XC (.slice ao6 n6 c6) R2) := (hv.later hBC).yl
                  replace TU : Hid (Yl XC (.slice ao3 n3 c3) R1) := TU.out.later hBC
                  replace TV : Hid (Yl XC (.slice ao4 n4 c4) R2) := TV.out.later hBC
                  clear hu hv
                  go_wp2_with fail
                  rw [HXC.out]
                  refine (HS3.out _ _ _ _ _ TU.out TV.out SU.out SV.out).mono ?_
                  rintro e wz ⟨rfl, hBz⟩
                  have hTz := then_below hTC hBz
                  go_wp2
                  go_ret
                  exact ⟨rfl, then_below hB hTz⟩
                · have hyb : (y != o) = true := by simpa using hyo
                  obtain ⟨E3, E4⟩ := E2.out hyo
                  subst E3 E4
                  clear hyo E2
                  go_wp2_with fail
                  refine (HPy.out _ _ _ NU.out NV.out).mono ?_
                  rintro e w12 ⟨u6, v6, rfl, hu, hv, hB12⟩
                  clear p0 p1 p2 p3 p4 hz s0 s1 hz1 a0 a1 a2 a3 a4 hza
                  have hT12 := then_below hT11 hB12
                  have hU12 := then_below hU11 hB12
                  replace NU : Hid (Yl w12 (.slice ao1 n1 c1) NN) := NU.out.later hB12
                  replace NV : Hid (Yl w12 (.slice ao2 n2 c2) LL) := NV.out.later hB12
                  have B1w : Hid (Wds w12 u6 B1) := hu.wds
                  have B2w : Hid (Wds w12 v6 B2) := hv.wds
                  obtain ⟨p0, p1, p2, p3, p4, hz⟩ := hK.yard hT12
                  obtain ⟨s0, s1, hz1⟩ := hS.pair hT12
                  obtain ⟨a0, a1, a2, a3, a4, hza⟩ := hA.yard hU12
                  clear hu hv
                  go_wp2_with fail
                  refine (HOy.out _ hT12).mono ?_
                  rintro e w13 ⟨u7, v7, rfl, hu, hv, hB13⟩
                  clear p0 p1 p2 p3 p4 hz s0 s1 hz1 a0 a1 a2 a3 a4 hza
                  have hT13 := then_below hT12 hB13
                  have hU13 := then_below hU12 hB13
                  replace NU : Hid (Yl w13 (.slice ao1 n1 c1) NN) := NU.out.later hB13
                  replace NV : Hid (Yl w13 (.slice ao2 n2 c2) LL) := NV.out.later hB13
                  replace B1w : Hid (Wds w13 u6 B1) := B1w.out.later hB13
                  replace B2w : Hid (Wds w13 v6 B2) := B2w.out.later hB13
                  have C1w : Hid (Wds w13 u7 B1) := hu.wds
                  have C2w : Hid (Wds w13 v7 B2) := hv.wds
                  obtain ⟨p0, p1, p2, p3, p4, hz⟩ := hK.yard hT13
                  obtain ⟨s0, s1, hz1⟩ := hS.pair hT13
                  obtain ⟨a0, a1, a2, a3, a4, hza⟩ := hA.yard hU13
                  clear hu hv
                  have R : Hid (Calls Try.prog 29 #[u6, u7] w13 fun e W' => e = .returned (.bool true) ∧ Below w13.heap.size w13 W') := by
                    have := sameS_calls w13 B1w.out C1w.out K1
                    rwa [decide_eq_true rfl] at this
                  go_wp2_with fail
                  refine (R.out).mono ?_
                  rintro e w14 ⟨rfl, hB14⟩
                  clear p0 p1 p2 p3 p4 hz s0 s1 hz1 a0 a1 a2 a3 a4 hza
                  have hT14 := then_below hT13 hB14
                  have hU14 := then_below hU13 hB14
                  replace NU : Hid (Yl w14 (.slice ao1 n1 c1) NN) := NU.out.later hB14
                  replace NV : Hid (Yl w14 (.slice ao2 n2 c2) LL) := NV.out.later hB14
                  replace B1w : Hid (Wds w14 u6 B1) := B1w.out.later hB14
                  replace B2w : Hid (Wds w14 v6 B2) := B2w.out.later hB14
                  replace C1w : Hid (Wds w14 u7 B1) := C1w.out.later hB14
                  replace C2w : Hid (Wds w14 v7 B2) := C2w.out.later hB14
                  obtain ⟨p0, p1, p2, p3, p4, hz⟩ := hK.yard hT14
                  obtain ⟨s0, s1, hz1⟩ := hS.pair hT14
                  obtain ⟨a0, a1, a2, a3, a4, hza⟩ := hA.yard hU14
                  clear R
                  have R : Hid (Calls Try.prog 29 #[v6, v7] w14 fun e W' => e = .returned (.bool true) ∧ Below w14.heap.size w14 W') := by
                    have := sameS_calls w14 B2w.out C2w.out K2
                    rwa [decide_eq_true rfl] at this
                  go_wp2_with fail
                  refine (R.out).mono ?_
                  rintro e w15 ⟨rfl, hB15⟩
                  clear p0 p1 p2 p3 p4 hz s0 s1 hz1 a0 a1 a2 a3 a4 hza
                  have hT15 := then_below hT14 hB15
                  have hU15 := then_below hU14 hB15
                  replace NU : Hid (Yl w15 (.slice ao1 n1 c1) NN) := NU.out.later hB15
                  replace NV : Hid (Yl w15 (.slice ao2 n2 c2) LL) := NV.out.later hB15
                  replace B1w : Hid (Wds w15 u6 B1) := B1w.out.later hB15
                  replace B2w : Hid (Wds w15 v6 B2) := B2w.out.later hB15
                  replace C1w : Hid (Wds w15 u7 B1) := C1w.out.later hB15
                  replace C2w : Hid (Wds w15 v7 B2) := C2w.out.later hB15
                  obtain ⟨p0, p1, p2, p3, p4, hz⟩ := hK.yard hT15
                  obtain ⟨s0, s1, hz1⟩ := hS.pair hT15
                  obtain ⟨a0, a1, a2, a3, a4, hza⟩ := hA.yard hU15
                  clear R
                  clear B1w B2w C1w C2w
                  go_wp2_with fail
                  refine (HK2.out _ _ _ NU.out NV.out).mono ?_
                  rintro e w16 ⟨u8, v8, rfl, hu, hv, hB16⟩
                  clear p0 p1 p2 p3 p4 hz s0 s1 hz1 a0 a1 a2 a3 a4 hza
                  have hT16 := then_below hT15 hB16
                  have hU16 := then_below hU15 hB16
                  replace NU : Hid (Yl w16 (.slice ao1 n1 c1) NN) := NU.out.later hB16
                  replace NV : Hid (Yl w16 (.slice ao2 n2 c2) LL) := NV.out.later hB16
                  obtain ⟨p0, p1, p2, p3, p4, hz⟩ := hK.yard hT16
                  obtain ⟨s0, s1, hz1⟩ := hS.pair hT16
                  obtain ⟨a0, a1, a2, a3, a4, hza⟩ := hA.yard hU16
                  obtain ⟨ao3, n3, c3, rfl⟩ := hu.slice
                  obtain ⟨ao4, n4, c4, rfl⟩ := hv.slice
                  have TU : Hid (Yl w16 (.slice ao3 n3 c3) R1) := hu.yl
                  have TV : Hid (Yl w16 (.slice ao4 n4 c4) R2) := hv.yl
                  clear hu hv NU NV
                  obtain ⟨XB, hXB, hBB, hBx⟩ := one_start w16 (K5 a b c (.slice ao3 n3 c3) (.slice ao4 n4 c4)) 26
                  have HXB : Hid (w16.alloc (.cells (K5 a b c (.slice ao3 n3 c3) (.slice ao4 n4 c4)) 26) = XB) := hXB
                  have hTB := then_below hT16 hBB
                  clear hXB
                  go_wp2_with fail
                  rw [HXB.out]
                  refine (HK.out _ hTB).mono ?_
                  rintro e w17 ⟨u9, v9, rfl, hu, hv, hB17⟩
                  clear p0 p1 p2 p3 p4 hz s0 s1 hz1 a0 a1 a2 a3 a4 hza
                  have hT17 := then_below hTB hB17
                  have hU17 := then_below (then_below hU16 hBB) hB17
                  have hV17 := hB17
                  replace TU : Hid (Yl w17 (.slice ao3 n3 c3) R1) := TU.out.later (then_below hBB hB17)
                  replace TV : Hid (Yl w17 (.slice ao4 n4 c4) R2) := TV.out.later (then_below hBB hB17)
                  obtain ⟨p0, p1, p2, p3, p4, hz⟩ := hK.yard hT17
                  obtain ⟨s0, s1, hz1⟩ := hS.pair hT17
                  obtain ⟨a0, a1, a2, a3, a4, hza⟩ := hA.yard hU17
                  obtain ⟨b0, b1, b2, b3, b4, hzb⟩ := hBx.yard hV17
                  obtain ⟨ao5, n5, c5, rfl⟩ := hu.slice
                  obtain ⟨ao6, n6, c6, rfl⟩ := hv.slice
                  obtain ⟨XC, hXC, hBC, hCx⟩ := one_start w17 (K5 a b c (.slice ao5 n5 c5) (.slice ao6 n6 c6)) 26
                  have HXC : Hid (w17.alloc (.cells (K5 a b c (.slice ao5 n5 c5) (.slice ao6 n6 c6)) 26) = XC) := hXC
                  have hTC := then_below hT17 hBC
                  clear hXC
                  have SU : Hid (Yl XC (.slice ao5 n5 c5) R1) := (hu.later hBC).yl
                  have SV : Hid (Yl XC (.slice ao6 n6 c6) R2) := (hv.later hBC).yl
                  replace TU : Hid (Yl XC (.slice ao3 n3 c3) R1) := TU.out.later hBC
                  replace TV : Hid (Yl XC (.slice ao4 n4 c4) R2) := TV.out.later hBC
                  clear hu hv
                  go_wp2_with fail
                  rw [HXC.out]
                  refine (HS3.out _ _ _ _ _ TU.out TV.out SU.out SV.out).mono ?_
                  rintro e wz ⟨rfl, hBz⟩
                  have hTz := then_below hTC hBz
                  go_wp2
                  go_ret
                  exact ⟨rfl, then_below hB hTz⟩
          · have h3b : (e3 == 0) = false := by simpa using h3
            clear h3 Z0 E1 O1 O2 HMw HKw M1 M2 P1 P2 Q1 Q2
            by_cases hyo : y = o
            · have hyb : (y != o) = false := by simpa using hyo
              clear hyo E2
              go_wp2_with fail
              refine (HK2.out _ _ _ NU.out NV.out).mono ?_
              rintro e w10 ⟨u8, v8, rfl, hu, hv, hB10⟩
              clear p0 p1 p2 p3 p4 hz s0 s1 hz1 a0 a1 a2 a3 a4 hza
              have hT10 := then_below hT9 hB10
              have hU10 := then_below hU9 hB10
              replace NU : Hid (Yl w10 (.slice ao1 n1 c1) NN) := NU.out.later hB10
              replace NV : Hid (Yl w10 (.slice ao2 n2 c2) LL) := NV.out.later hB10
              obtain ⟨p0, p1, p2, p3, p4, hz⟩ := hK.yard hT10
              obtain ⟨s0, s1, hz1⟩ := hS.pair hT10
              obtain ⟨a0, a1, a2, a3, a4, hza⟩ := hA.yard hU10
              obtain ⟨ao3, n3, c3, rfl⟩ := hu.slice
              obtain ⟨ao4, n4, c4, rfl⟩ := hv.slice
              have TU : Hid (Yl w10 (.slice ao3 n3 c3) R1) := hu.yl
              have TV : Hid (Yl w10 (.slice ao4 n4 c4) R2) := hv.yl
              clear hu hv NU NV
              obtain ⟨XB, hXB, hBB, hBx⟩ := one_start w10 (K5 a b c (.slice ao3 n3 c3) (.slice ao4 n4 c4)) 26
              have HXB : Hid (w10.alloc (.cells (K5 a b c (.slice ao3 n3 c3) (.slice ao4 n4 c4)) 26) = XB) := hXB
              have hTB := then_below hT10 hBB
              clear hXB
              go_wp2_with fail
              rw [HXB.out]
              refine (HK.out _ hTB).mono ?_
              rintro e w11 ⟨u9, v9, rfl, hu, hv, hB11⟩
              clear p0 p1 p2 p3 p4 hz s0 s1 hz1 a0 a1 a2 a3 a4 hza
              have hT11 := then_below hTB hB11
              have hU11 := then_below (then_below hU10 hBB) hB11
              have hV11 := hB11
              replace TU : Hid (Yl w11 (.slice ao3 n3 c3) R1) := TU.out.later (then_below hBB hB11)
              replace TV : Hid (Yl w11 (.slice ao4 n4 c4) R2) := TV.out.later (then_below hBB hB11)
              obtain ⟨p0, p1, p2, p3, p4, hz⟩ := hK.yard hT11
              obtain ⟨s0, s1, hz1⟩ := hS.pair hT11
              obtain ⟨a0, a1, a2, a3, a4, hza⟩ := hA.yard hU11
              obtain ⟨b0, b1, b2, b3, b4, hzb⟩ := hBx.yard hV11
              obtain ⟨ao5, n5, c5, rfl⟩ := hu.slice
              obtain ⟨ao6, n6, c6, rfl⟩ := hv.slice
              obtain ⟨XC, hXC, hBC, hCx⟩ := one_start w11 (K5 a b c (.slice ao5 n5 c5) (.slice ao6 n6 c6)) 26
              have HXC : Hid (w11.alloc (.cells (K5 a b c (.slice ao5 n5 c5) (.slice ao6 n6 c6)) 26) = XC) := hXC
              have hTC := then_below hT11 hBC
              clear hXC
              have SU : Hid (Yl XC (.slice ao5 n5 c5) R1) := (hu.later hBC).yl
              have SV : Hid (Yl XC (.slice ao6 n6 c6) R2) := (hv.later hBC).yl
              replace TU : Hid (Yl XC (.slice ao3 n3 c3) R1) := TU.out.later hBC
              replace TV : Hid (Yl XC (.slice ao4 n4 c4) R2) := TV.out.later hBC
              clear hu hv
              go_wp2_with fail
              rw [HXC.out]
              refine (HS3.out _ _ _ _ _ TU.out TV.out SU.out SV.out).mono ?_
              rintro e wz ⟨rfl, hBz⟩
              have hTz := then_below hTC hBz
              go_wp2
              go_ret
              exact ⟨rfl, then_below hB hTz⟩
            · have hyb : (y != o) = true := by simpa using hyo
              obtain ⟨E3, E4⟩ := E2.out hyo
              subst E3 E4
              clear hyo E2
              go_wp2_with fail
              refine (HPy.out _ _ _ NU.out NV.out).mono ?_
              rintro e w10 ⟨u6, v6, rfl, hu, hv, hB10⟩
              clear p0 p1 p2 p3 p4 hz s0 s1 hz1 a0 a1 a2 a3 a4 hza
              have hT10 := then_below hT9 hB10
              have hU10 := then_below hU9 hB10
              replace NU : Hid (Yl w10 (.slice ao1 n1 c1) NN) := NU.out.later hB10
              replace NV : Hid (Yl w10 (.slice ao2 n2 c2) LL) := NV.out.later hB10
              have B1w : Hid (Wds w10 u6 B1) := hu.wds
              have B2w : Hid (Wds w10 v6 B2) := hv.wds
              obtain ⟨p0, p1, p2, p3, p4, hz⟩ := hK.yard hT10
              obtain ⟨s0, s1, hz1⟩ := hS.pair hT10
              obtain ⟨a0, a1, a2, a3, a4, hza⟩ := hA.yard hU10
              clear hu hv
              go_wp2_with fail
              refine (HOy.out _ hT10).mono ?_
              rintro e w11 ⟨u7, v7, rfl, hu, hv, hB11⟩
              clear p0 p1 p2 p3 p4 hz s0 s1 hz1 a0 a1 a2 a3 a4 hza
              have hT11 := then_below hT10 hB11
              have hU11 := then_below hU10 hB11
              replace NU : Hid (Yl w11 (.slice ao1 n1 c1) NN) := NU.out.later hB11
              replace NV : Hid (Yl w11 (.slice ao2 n2 c2) LL) := NV.out.later hB11
              replace B1w : Hid (Wds w11 u6 B1) := B1w.out.later hB11
              replace B2w : Hid (Wds w11 v6 B2) := B2w.out.later hB11
              have C1w : Hid (Wds w11 u7 B1) := hu.wds
              have C2w : Hid (Wds w11 v7 B2) := hv.wds
              obtain ⟨p0, p1, p2, p3, p4, hz⟩ := hK.yard hT11
              obtain ⟨s0, s1, hz1⟩ := hS.pair hT11
              obtain ⟨a0, a1, a2, a3, a4, hza⟩ := hA.yard hU11
              clear hu hv
              have R : Hid (Calls Try.prog 29 #[u6, u7] w11 fun e W' => e = .returned (.bool true) ∧ Below w11.heap.size w11 W') := by
                have := sameS_calls w11 B1w.out C1w.out K1
                rwa [decide_eq_true rfl] at this
              go_wp2_with fail
              refine (R.out).mono ?_
              rintro e w12 ⟨rfl, hB12⟩
              clear p0 p1 p2 p3 p4 hz s0 s1 hz1 a0 a1 a2 a3 a4 hza
              have hT12 := then_below hT11 hB12
              have hU12 := then_below hU11 hB12
              replace NU : Hid (Yl w12 (.slice ao1 n1 c1) NN) := NU.out.later hB12
              replace NV : Hid (Yl w12 (.slice ao2 n2 c2) LL) := NV.out.later hB12
              replace B1w : Hid (Wds w12 u6 B1) := B1w.out.later hB12
              replace B2w : Hid (Wds w12 v6 B2) := B2w.out.later hB12
              replace C1w : Hid (Wds w12 u7 B1) := C1w.out.later hB12
              replace C2w : Hid (Wds w12 v7 B2) := C2w.out.later hB12
              obtain ⟨p0, p1, p2, p3, p4, hz⟩ := hK.yard hT12
              obtain ⟨s0, s1, hz1⟩ := hS.pair hT12
              obtain ⟨a0, a1, a2, a3, a4, hza⟩ := hA.yard hU12
              clear R
              have R : Hid (Calls Try.prog 29 #[v6, v7] w12 fun e W' => e = .returned (.bool true) ∧ Below w12.heap.size w12 W') := by
                have := sameS_calls w12 B2w.out C2w.out K2
                rwa [decide_eq_true rfl] at this
              go_wp2_with fail
              refine (R.out).mono ?_
              rintro e w13 ⟨rfl, hB13⟩
              clear p0 p1 p2 p3 p4 hz s0 s1 hz1 a0 a1 a2 a3 a4 hza
              have hT13 := then_below hT12 hB13
              have hU13 := then_below hU12 hB13
              replace NU : Hid (Yl w13 (.slice ao1 n1 c1) NN) := NU.out.later hB13
              replace NV : Hid (Yl w13 (.slice ao2 n2 c2) LL) := NV.out.later hB13
              replace B1w : Hid (Wds w13 u6 B1) := B1w.out.later hB13
              replace B2w : Hid (Wds w13 v6 B2) := B2w.out.later hB13
              replace C1w : Hid (Wds w13 u7 B1) := C1w.out.later hB13
              replace C2w : Hid (Wds w13 v7 B2) := C2w.out.later hB13
              obtain ⟨p0, p1, p2, p3, p4, hz⟩ := hK.yard hT13
              obtain ⟨s0, s1, hz1⟩ := hS.pair hT13
              obtain ⟨a0, a1, a2, a3, a4, hza⟩ := hA.yard hU13
              clear R
              clear B1w B2w C1w C2w
              go_wp2_with fail
              refine (HK2.out _ _ _ NU.out NV.out).mono ?_
              rintro e w14 ⟨u8, v8, rfl, hu, hv, hB14⟩
              clear p0 p1 p2 p3 p4 hz s0 s1 hz1 a0 a1 a2 a3 a4 hza
              have hT14 := then_below hT13 hB14
              have hU14 := then_below hU13 hB14
              replace NU : Hid (Yl w14 (.slice ao1 n1 c1) NN) := NU.out.later hB14
              replace NV : Hid (Yl w14 (.slice ao2 n2 c2) LL) := NV.out.later hB14
              obtain ⟨p0, p1, p2, p3, p4, hz⟩ := hK.yard hT14
              obtain ⟨s0, s1, hz1⟩ := hS.pair hT14
              obtain ⟨a0, a1, a2, a3, a4, hza⟩ := hA.yard hU14
              obtain ⟨ao3, n3, c3, rfl⟩ := hu.slice
              obtain ⟨ao4, n4, c4, rfl⟩ := hv.slice
              have TU : Hid (Yl w14 (.slice ao3 n3 c3) R1) := hu.yl
              have TV : Hid (Yl w14 (.slice ao4 n4 c4) R2) := hv.yl
              clear hu hv NU NV
              obtain ⟨XB, hXB, hBB, hBx⟩ := one_start w14 (K5 a b c (.slice ao3 n3 c3) (.slice ao4 n4 c4)) 26
              have HXB : Hid (w14.alloc (.cells (K5 a b c (.slice ao3 n3 c3) (.slice ao4 n4 c4)) 26) = XB) := hXB
              have hTB := then_below hT14 hBB
              clear hXB
              go_wp2_with fail
              rw [HXB.out]
              refine (HK.out _ hTB).mono ?_
              rintro e w15 ⟨u9, v9, rfl, hu, hv, hB15⟩
              clear p0 p1 p2 p3 p4 hz s0 s1 hz1 a0 a1 a2 a3 a4 hza
              have hT15 := then_below hTB hB15
              have hU15 := then_below (then_below hU14 hBB) hB15
              have hV15 := hB15
              replace TU : Hid (Yl w15 (.slice ao3 n3 c3) R1) := TU.out.later (then_below hBB hB15)
              replace TV : Hid (Yl w15 (.slice ao4 n4 c4) R2) := TV.out.later (then_below hBB hB15)
              obtain ⟨p0, p1, p2, p3, p4, hz⟩ := hK.yard hT15
              obtain ⟨s0, s1, hz1⟩ := hS.pair hT15
              obtain ⟨a0, a1, a2, a3, a4, hza⟩ := hA.yard hU15
              obtain ⟨b0, b1, b2, b3, b4, hzb⟩ := hBx.yard hV15
              obtain ⟨ao5, n5, c5, rfl⟩ := hu.slice
              obtain ⟨ao6, n6, c6, rfl⟩ := hv.slice
              obtain ⟨XC, hXC, hBC, hCx⟩ := one_start w15 (K5 a b c (.slice ao5 n5 c5) (.slice ao6 n6 c6)) 26
              have HXC : Hid (w15.alloc (.cells (K5 a b c (.slice ao5 n5 c5) (.slice ao6 n6 c6)) 26) = XC) := hXC
              have hTC := then_below hT15 hBC
              clear hXC
              have SU : Hid (Yl XC (.slice ao5 n5 c5) R1) := (hu.later hBC).yl
              have SV : Hid (Yl XC (.slice ao6 n6 c6) R2) := (hv.later hBC).yl
              replace TU : Hid (Yl XC (.slice ao3 n3 c3) R1) := TU.out.later hBC
              replace TV : Hid (Yl XC (.slice ao4 n4 c4) R2) := TV.out.later hBC
              clear hu hv
              go_wp2_with fail
              rw [HXC.out]
              refine (HS3.out _ _ _ _ _ TU.out TV.out SU.out SV.out).mono ?_
              rintro e wz ⟨rfl, hBz⟩
              have hTz := then_below hTC hBz
              go_wp2
              go_ret
              exact ⟨rfl, then_below hB hTz⟩
        · simp only [dim_no h0, rows_no h0] at HP
          have h0b : (er != 0) = true := by simpa using h0
          clear h0 HYes HWm HO HK
          generalize busyE a b c ns ls f t = e2 at *
          go_wp2_with fail
          refine (HP.out _ hT2).mono ?_
          rintro e w3 ⟨u1, v1, rfl, hu, hv, hB3⟩
          clear p0 p1 p2 p3 p4 hz s0 s1 hz1
          have hT3 := then_below hT2 hB3
          obtain ⟨p0, p1, p2, p3, p4, hz⟩ := hK.yard hT3
          obtain ⟨s0, s1, hz1⟩ := hS.pair hT3
          obtain ⟨ao1, c1, rfl, _⟩ := hu.yl.form
          obtain ⟨ao2, c2, rfl, _⟩ := hv.yl.form
          simp only [List.length_nil] at hu hv
          clear hu hv
          obtain ⟨XA, hXA, hBA, hA⟩ := one_start w3 (K5 0 0 0 (.slice ao1 0 c1) (.slice ao2 0 c2)) 26
          have HXA : Hid (w3.alloc (.cells (K5 0 0 0 (.slice ao1 0 c1) (.slice ao2 0 c2)) 26) = XA) := hXA
          have hTA := then_below hT3 hBA
          clear hXA
          clear p0 p1 p2 p3 p4 hz s0 s1 hz1
          obtain ⟨p0, p1, p2, p3, p4, hz⟩ := hK.yard hT3
          obtain ⟨s0, s1, hz1⟩ := hS.pair hT3
          go_wp2_with fail
          rw [HXA.out]
          refine (HY.out _ hTA).mono ?_
          rintro e w4 ⟨u2, v2, rfl, hu, hv, hB4⟩
          clear p0 p1 p2 p3 p4 hz s0 s1 hz1
          have hT4 := then_below hTA hB4
          have hU4 := hB4
          obtain ⟨p0, p1, p2, p3, p4, hz⟩ := hK.yard hT4
          obtain ⟨s0, s1, hz1⟩ := hS.pair hT4
          obtain ⟨a0, a1, a2, a3, a4, hza⟩ := hA.yard hU4
          clear hu hv
          go_wp2
          go_ret
          exact ⟨rfl, then_below hB hT4⟩
  · clear HMw HKw HP HO HK HY HYes HWm
    generalize mw.length = mn at *
    generalize lw.length = ln at *
    go_wp2
    go_ret
    exact ⟨rfl, then_below hB hT2⟩

end Go.Proofs.Ytabhlmckncgdjaa
