/-
  slices.IndexFunc and slices.ContainsFunc over slots, cal.free and its closure, cal.Free: what each call answers.
-/
import Derived.Test.YtabhlmckncgdjaaPart5
import Derived.Test.YtabhlmckncgdjaaPart7
namespace Go.Proofs.Ytabhlmckncgdjaa
open Go Go.RowKit Go.Shelf

attribute [local go_sem] Oper.semAt_some ext_const

/-- The closure of free: whether a slot meets the span that it was made with. -/
theorem freec_calls {w : World} {A : Nat} {f t o x y : Int} (hm : maySp f t) (hs : maySp x y) (ha : Blk w A 36 (C2 x y)) : Calls Try.prog 110 #[V3 f t o, .pointer (some ⟨A, 0, none⟩)] w fun e W' => e = .returned (.bool (meetsT f t x y)) ∧ Below w.heap.size w W' := by
  have H : Hid (∀ w, Calls Try.prog 111 #[S2 f t, S2 x y] w fun e W' => e = .returned (.tuple #[.bool (meetsT f t x y), I 0]) ∧ Below w.heap.size w W') := fun w => tmeet_yes w hm hs
  have hB : Below w.heap.size w (w.alloc (.cells (C3 f t o) 52)) := (Below.refl _ w).alloc (Nat.le_refl _) _
  obtain ⟨c0, c1, hz⟩ := ha.pair (Below.refl _ _)
  generalize meetsT f t x y = r at *
  clear hm hs ha
  go_enter Try.func110, Try.ntmps110
  go_wp2_with fail
  refine (H.out _).mono ?_
  rintro e w1 ⟨rfl, hB1⟩
  go_wp2
  go_ret
  exact ⟨rfl, then_below hB hB1⟩

def meetAny (xs : List Slt) (x y : Int) : Bool := !clearC xs x y
/-- The first slot that meets a span, or -1. -/
def firstM (xs : List Slt) (x y : Int) : Int := match xs.findIdx? fun s => meetsT s.1 s.2.1 x y with | some i => i | none => -1
theorem firstM_at {xs : List Slt} {x y f t o : Int} {k : Nat} (hk : k < xs.length) (hu : xs.getD k (0, 0, 0) = (f, t, o)) (h0 : ∀ j, j < k → meetsT (xs.getD j (0, 0, 0)).1 (xs.getD j (0, 0, 0)).2.1 x y = false) (hm : meetsT f t x y = true) : firstM xs x y = k := by
  have : xs.findIdx? (fun s => meetsT s.1 s.2.1 x y) = some k := by
    rw [List.findIdx?_eq_some_iff_getElem]
    have hs : xs[k] = (f, t, o) := by simpa [hk] using hu
    refine ⟨hk, by rw [hs]; exact hm, fun j hj => ?_⟩
    have := h0 j hj
    simp [show j < xs.length by omega] at this
    simp [this]
  unfold firstM
  rw [this]
theorem firstM_none {xs : List Slt} {x y : Int} (h0 : ∀ j, j < xs.length → meetsT (xs.getD j (0, 0, 0)).1 (xs.getD j (0, 0, 0)).2.1 x y = false) : firstM xs x y = -1 := by
  have : xs.findIdx? (fun s => meetsT s.1 s.2.1 x y) = none := by
    rw [List.findIdx?_eq_none_iff]
    intro s hs
    obtain ⟨i, hi, rfl⟩ := List.mem_iff_getElem.1 hs
    have := h0 i hi
    simp [hi] at this
    simp [this]
  unfold firstM
  rw [this]
theorem firstM_any (xs : List Slt) (x y : Int) : decide (0 ≤ firstM xs x y) = meetAny xs x y := by
  unfold firstM meetAny clearC
  cases h : xs.findIdx? fun s => meetsT s.1 s.2.1 x y with
  | some i =>
    obtain ⟨hi, hm, _⟩ := List.findIdx?_eq_some_iff_getElem.1 h
    have : xs.all (fun s => !meetsT s.1 s.2.1 x y) = false := by
      rw [List.all_eq_false]
      exact ⟨xs[i], List.getElem_mem hi, by simpa using hm⟩
    rw [this]
    simp
  | none =>
    have : xs.all (fun s => !meetsT s.1 s.2.1 x y) = true := by
      rw [List.all_eq_true]
      intro s hs
      have := List.findIdx?_eq_none_iff.1 h s hs
      simpa using this
    rw [this]
    simp

set_option maxRecDepth 100000 in
set_option maxHeartbeats 4000000 in
theorem index_calls {xs : List Slt} {v : Value} {w : World} {A : Nat} {x y : Int} (hS : Ss w v xs) (hn : xs.length ≤ 100000) (hm : ∀ s ∈ xs, maySl s) (hs : maySp x y) (ha : Blk w A 36 (C2 x y)) :
    Calls Try.prog 119 #[v, .func (.func 110) #[] #[.pointer (some ⟨A, 0, none⟩)]] w fun e W' => e = .returned (I (firstM xs x y)) ∧ Below w.heap.size w W' := by
  obtain ⟨ao, cap, rfl, hS⟩ := hS.form
  have HS : Hid (Ss w (.slice ao xs.length cap) xs) := hS
  have HA : Hid (Blk w A 36 (C2 x y)) := ha
  have HC : Hid (∀ (w : World) (f t o : Int), maySp f t → Blk w A 36 (C2 x y) → Calls Try.prog 110 #[V3 f t o, .pointer (some ⟨A, 0, none⟩)] w fun e W' => e = .returned (.bool (meetsT f t x y)) ∧ Below w.heap.size w W') := fun w f t o h1 h2 => freec_calls h1 hs h2
  have HM : Hid (∀ k, k < xs.length → maySl (xs.getD k (0, 0, 0))) := fun k hk => hm _ (by simp [hk])
  have H1 : Hid (∀ (k : Nat) (f t o : Int), k < xs.length → xs.getD k (0, 0, 0) = (f, t, o) → (∀ j, j < k → meetsT (xs.getD j (0, 0, 0)).1 (xs.getD j (0, 0, 0)).2.1 x y = false) → meetsT f t x y = true → firstM xs x y = k) := fun k f t o => firstM_at
  have H2 : Hid ((∀ j, j < xs.length → meetsT (xs.getD j (0, 0, 0)).1 (xs.getD j (0, 0, 0)).2.1 x y = false) → firstM xs x y = -1) := firstM_none
  generalize firstM xs x y = ans at H1 H2 ⊢
  clear hS ha hm hs
  go_enter Try.func119, Try.ntmps119
  go_wp2
  go_loopw [8] (fun i wr => ∃ k : Nat, k ≤ xs.length ∧ i = .int .i64 k ∧ Hid (∀ j, j < k → meetsT (xs.getD j (0, 0, 0)).1 (xs.getD j (0, 0, 0)).2.1 x y = false) ∧ Below w.heap.size w wr) (fun i _ => xs.length - (intOf i).toNat)
  case atStart => exact ⟨0, by omega, rfl, fun j hj => by omega, Below.refl _ _⟩
  case round =>
    obtain ⟨k, hk, rfl, H0, hT⟩ := hrel
    by_cases hlt : (k : Int) < (xs.length : Int)
    · have hk' : k < xs.length := by omega
      obtain ⟨g, off, f, t, o, rfl, hu, ha⟩ := (HS.out.later hT).at hk'
      obtain ⟨hg, c0, c1, c2⟩ := ha.cells
      have HU : Hid (xs.getD k (0, 0, 0) = (f, t, o)) := hu
      have hmy := HM.out k hk'
      rw [hu] at hmy
      have HC1 : Hid (Calls Try.prog 110 #[V3 f t o, .pointer (some ⟨A, 0, none⟩)] wr fun e W' => e = .returned (.bool (meetsT f t x y)) ∧ Below wr.heap.size wr W') := HC.out wr f t o hmy.1 (HA.out.later hT)
      clear hu ha hmy
      cases hm : meetsT f t x y
      · have HJ : Hid (∀ j, j < k + 1 → meetsT (xs.getD j (0, 0, 0)).1 (xs.getD j (0, 0, 0)).2.1 x y = false) := fun j hj => by
          rcases Nat.lt_succ_iff_lt_or_eq.1 hj with h | rfl
          · exact H0.out j h
          · rw [HU.out]; exact hm
        rw [hm] at HC1
        clear hm
        go_wp2_with fail
        refine HC1.out.mono ?_
        rintro e w1 ⟨rfl, hB1⟩
        go_wp2
        go_roundw
        case rel => exact ⟨k + 1, by omega, by go_num, HJ, then_below hT hB1⟩
        case measure => simp [intOf]; omega
      · have E : ans = k := H1.out k f t o hk' HU.out H0.out hm
        subst E
        rw [hm] at HC1
        clear hm
        go_wp2_with fail
        refine HC1.out.mono ?_
        rintro e w1 ⟨rfl, hB1⟩
        go_wp2
        go_ret
        exact ⟨rfl, then_below hT hB1⟩
    · have E : ans = -1 := H2.out fun j hj => H0.out j (by omega)
      subst E
      go_wp2
      go_ret
      exact ⟨rfl, hT⟩

theorem contains_calls {xs : List Slt} {v : Value} {w : World} {A : Nat} {x y : Int} (hS : Ss w v xs) (hn : xs.length ≤ 100000) (hm : ∀ s ∈ xs, maySl s) (hs : maySp x y) (ha : Blk w A 36 (C2 x y)) :
    Calls Try.prog 109 #[v, .func (.func 110) #[] #[.pointer (some ⟨A, 0, none⟩)]] w fun e W' => e = .returned (.bool (meetAny xs x y)) ∧ Below w.heap.size w W' := by
  rw [← firstM_any]
  have H : Hid (Calls Try.prog 119 #[v, .func (.func 110) #[] #[.pointer (some ⟨A, 0, none⟩)]] w fun e W' => e = .returned (I (firstM xs x y)) ∧ Below w.heap.size w W') := index_calls hS hn hm hs ha
  clear hS hm hs ha
  generalize firstM xs x y = r at *
  by_cases hr : 0 ≤ r
  · rw [decide_eq_true hr]
    go_enter Try.func109, Try.ntmps109
    go_wp2_with fail
    refine H.out.mono ?_
    rintro e w1 ⟨rfl, hT⟩
    go_wp2
    go_ret
    exact ⟨rfl, hT⟩
  · rw [decide_eq_false hr]
    have hr : decide (0 ≤ r) = false := decide_eq_false hr
    go_enter Try.func109, Try.ntmps109
    go_wp2_with fail
    refine H.out.mono ?_
    rintro e w1 ⟨rfl, hT⟩
    go_wp2
    go_ret
    exact ⟨rfl, hT⟩

theorem free_calls {xs : List Slt} {v : Value} {x y : Int} (w : World) (hS : Ss w v xs) (hn : xs.length ≤ 100000) (hm : ∀ s ∈ xs, maySl s) (hs : maySp x y) :
    Calls Try.prog 80 #[v, S2 x y] w fun e W' => e = .returned (.bool (clearC xs x y)) ∧ Below w.heap.size w W' := by
  have hB := (Below.refl _ w).alloc (Nat.le_refl _) (.cells (C2 x y) 36)
  have H := contains_calls (hS.later hB) hn hm hs (Blk.new w 36 (C2 x y))
  have H : Hid (Calls Try.prog 109 #[v, .func (.func 110) #[] #[.pointer (some ⟨w.heap.size, 0, none⟩)]] (w.alloc (.cells (C2 x y) 36)) fun e W' => e = .returned (.bool (meetAny xs x y)) ∧ Below (w.alloc (.cells (C2 x y) 36)).heap.size (w.alloc (.cells (C2 x y) 36)) W') := H
  have E : clearC xs x y = !meetAny xs x y := by simp [meetAny]
  rw [E]
  clear hS hm hs E
  generalize meetAny xs x y = r at *
  cases r
  all_goals
    go_enter Try.func80, Try.ntmps80
    go_wp2_with fail
    refine H.out.mono ?_
    rintro e w1 ⟨rfl, hT⟩
    go_wp2
    go_ret
    exact ⟨rfl, then_below hB hT⟩

end Go.Proofs.Ytabhlmckncgdjaa

/-
  cal.Take, cal.Cut, cal.Free: what each call answers.
-/
namespace Go.Proofs.Ytabhlmckncgdjaa
open Go Go.RowKit Go.Shelf

attribute [local go_sem] Oper.semAt_some ext_const

theorem chk_no {xs : List Slt} {v : Value} (h : ¬ mayC xs) : Hid (∀ w, Ss w v xs → Calls Try.prog 42 #[v] w fun e W' => e = .returned (I 8) ∧ Below w.heap.size w W') := fun w hS => by rw [← errC_no h]; exact ccheck_calls w hS
theorem chk_yes {xs : List Slt} {v : Value} (h : mayC xs) : Hid (∀ w, Ss w v xs → Calls Try.prog 42 #[v] w fun e W' => e = .returned (I 0) ∧ Below w.heap.size w W') := fun w hS => by rw [← errC_ok h]; exact ccheck_calls w hS
theorem Blk.one {W W' : World} {B : Nat} {t : TypeId} {a : Int} (h : Blk W B t #[I a]) (hb : Below W.heap.size W W') : W'.cell? ⟨B, 0, none⟩ = some (.int .i64 a) ∧ B < W'.heap.size := ⟨(h.later hb).cell 0, (h.later hb).lt⟩
theorem one_start (w : World) (u : Array Value) (t : TypeId) : ∃ W, w.alloc (.cells u t) = W ∧ Below w.heap.size w W ∧ Blk W w.heap.size t u := ⟨_, rfl, (Below.refl _ w).alloc (Nat.le_refl _) _, Blk.new w _ _⟩

theorem ctake_no {xs : List Slt} {v : Value} {ow : Int} (w : World) (hS : Ss w v xs) (h : ¬ mayC xs) : Calls Try.prog 53 #[v, I ow] w fun e W' => e = .returned (.tuple #[.slice none 0 0, I 8]) ∧ Below w.heap.size w W' := by
  have HC := chk_no (v := v) h
  obtain ⟨W, hW, hB, hK⟩ := one_start w #[I ow] 3
  have HW : Hid (w.alloc (.cells #[I ow] 3) = W) := hW
  have HS : Hid (Ss W v xs) := hS.later hB
  clear hW h hS
  go_enter Try.func53, Try.ntmps53
  go_wp2_with fail
  rw [HW.out]
  refine (HC.out _ HS.out).mono ?_
  rintro e w1 ⟨rfl, hT⟩
  go_wp2
  go_ret2
  exact ⟨rfl, then_below hB hT⟩

theorem ctake_yes {xs : List Slt} {v : Value} {ow : Int} (w : World) (hS : Ss w v xs) (h : mayC xs) : Calls Try.prog 53 #[v, I ow] w fun e W' => ∃ u, e = .returned (.tuple #[u, I 0]) ∧ So W' w.heap.size u (lessC xs ow) ∧ Below w.heap.size w W' := by
  have HC := chk_yes (v := v) h
  obtain ⟨W, hW, hB, hK⟩ := one_start w #[I ow] 3
  have HW : Hid (w.alloc (.cells #[I ow] 3) = W) := hW
  have HS : Hid (Ss W v xs) := hS.later hB
  have HK : Hid (∀ w1, Below W.heap.size W w1 → Calls Try.prog 81 #[v, .func (.func 94) #[] #[.pointer (some ⟨w.heap.size, 0, none⟩)]] w1 fun e W' => ∃ u, e = .returned u ∧ So W' w1.heap.size u (lessC xs ow) ∧ Below w1.heap.size w1 W') := fun w1 hT => by
    rw [← takeK_less]
    refine keep_take w1 w.heap.size (HS.out.later hT) (by have := h.2.2; omega) ?_
    intro wr f t o hB'
    obtain ⟨c, hc⟩ := hK.one (then_below hT hB')
    refine (takec_calls (r := (o != ow)) rfl c hc).mono ?_
    rintro e W' ⟨rfl, hb⟩
    exact ⟨f, t, o, (o != ow), rfl, fun hr => by show takeK ow (f, t, o) = _; rw [takeK, if_pos hr], fun hr => by show takeK ow (f, t, o) = _; rw [takeK, if_neg (by simp only [hr]; decide)], hb⟩
  clear hW h hS hK
  generalize lessC xs ow = tgt at *
  go_enter Try.func53, Try.ntmps53
  go_wp2_with fail
  rw [HW.out]
  refine (HC.out _ HS.out).mono ?_
  rintro e w1 ⟨rfl, hT⟩
  go_wp2_with fail
  refine (HK.out _ hT).mono ?_
  rintro e w2 ⟨u, rfl, hO, hB2⟩
  have HO : Hid (So w2 w.heap.size u tgt) := hO.weak (Nat.le_trans hB.size hT.size)
  clear hO
  go_wp2
  go_ret2
  exact ⟨_, rfl, HO.out, then_below hB (then_below hT hB2)⟩

theorem ccut_no {xs : List Slt} {v : Value} {ow to : Int} (w : World) (hS : Ss w v xs) (h : ¬ mayC xs) : Calls Try.prog 50 #[v, I ow, I to] w fun e W' => e = .returned (.tuple #[.slice none 0 0, I 8]) ∧ Below w.heap.size w W' := by
  have HC := chk_no (v := v) h
  obtain ⟨W, hW, hB, hK, hK2⟩ := two_start w #[I ow] #[I to] 3 3
  have HW : Hid ((w.alloc (.cells #[I ow] 3)).alloc (.cells #[I to] 3) = W) := hW
  have HS : Hid (Ss W v xs) := hS.later hB
  clear hW h hS
  go_enter Try.func50, Try.ntmps50
  go_wp2_with fail
  rw [HW.out]
  refine (HC.out _ HS.out).mono ?_
  rintro e w1 ⟨rfl, hT⟩
  go_wp2
  go_ret2
  exact ⟨rfl, then_below hB hT⟩

theorem ccut_yes {xs : List Slt} {v : Value} {ow to : Int} (w : World) (hS : Ss w v xs) (h : mayC xs) : Calls Try.prog 50 #[v, I ow, I to] w fun e W' => ∃ u, e = .returned (.tuple #[u, I 0]) ∧ So W' w.heap.size u (endedC xs ow to) ∧ Below w.heap.size w W' := by
  have HC := chk_yes (v := v) h
  obtain ⟨W, hW, hB, hK, hK2⟩ := two_start w #[I ow] #[I to] 3 3
  have HW : Hid ((w.alloc (.cells #[I ow] 3)).alloc (.cells #[I to] 3) = W) := hW
  have HS : Hid (Ss W v xs) := hS.later hB
  have HK : Hid (∀ w1, Below W.heap.size W w1 → Calls Try.prog 81 #[v, .func (.func 92) #[] #[.pointer (some ⟨w.heap.size, 0, none⟩), .pointer (some ⟨w.heap.size + 1, 0, none⟩)]] w1 fun e W' => ∃ u, e = .returned u ∧ So W' w1.heap.size u (endedC xs ow to) ∧ Below w1.heap.size w1 W') := fun w1 hT => by
    rw [← cutK_ended (mayC_fine h)]
    refine keep_cut w1 w.heap.size (w.heap.size + 1) (HS.out.later hT) (by have := h.2.2; omega) ?_
    intro wr f t o hB'
    obtain ⟨c, hc⟩ := hK.one (then_below hT hB')
    obtain ⟨d, hd⟩ := hK2.one (then_below hT hB')
    refine (cutc_calls (r := decide (f < endS ow to t o)) rfl c hc d hd).mono ?_
    rintro e W' ⟨rfl, hb⟩
    exact ⟨f, _, o, decide (f < endS ow to t o), rfl, fun hr => by show cutK ow to (f, t, o) = _; rw [cutK, if_pos (of_decide_eq_true hr)], fun hr => by show cutK ow to (f, t, o) = _; rw [cutK, if_neg (of_decide_eq_false hr)], hb⟩
  clear hW h hS hK hK2
  generalize endedC xs ow to = tgt at *
  go_enter Try.func50, Try.ntmps50
  go_wp2_with fail
  rw [HW.out]
  refine (HC.out _ HS.out).mono ?_
  rintro e w1 ⟨rfl, hT⟩
  go_wp2_with fail
  refine (HK.out _ hT).mono ?_
  rintro e w2 ⟨u, rfl, hO, hB2⟩
  have HO : Hid (So w2 w.heap.size u tgt) := hO.weak (Nat.le_trans hB.size hT.size)
  clear hO
  go_wp2
  go_ret2
  exact ⟨_, rfl, HO.out, then_below hB (then_below hT hB2)⟩

/-- What Free answers. -/
def freeE (xs : List Slt) (x y : Int) : Int := if mayCB xs then (if maySpB x y then 0 else 2) else 8
def freeB (xs : List Slt) (x y : Int) : Bool := mayCB xs && (maySpB x y && clearC xs x y)

theorem cfree_calls {xs : List Slt} {v : Value} {x y : Int} (w : World) (hS : Ss w v xs) : Calls Try.prog 97 #[v, S2 x y] w fun e W' => e = .returned (.tuple #[.bool (freeB xs x y), I (freeE xs x y)]) ∧ Below w.heap.size w W' := by
  obtain ⟨W, hW, hB, hK⟩ := one_start w (C2 x y) 36
  have HW : Hid (w.alloc (.cells (C2 x y) 36) = W) := hW
  have HS : Hid (Ss W v xs) := hS.later hB
  by_cases hm : mayC xs
  · have HC := chk_yes (v := v) hm
    have em := mayCB_iff.2 hm
    by_cases hs : maySp x y
    · have es := (maySpB_iff x y).2 hs
      have HT : Hid (∀ w, Calls Try.prog 60 #[S2 x y] w fun e W' => e = .returned (I 0) ∧ Below w.heap.size w W') := fun w => by rw [← errS_ok hs]; exact tcheck_calls x y w
      have HF : Hid (∀ w, Ss w v xs → Calls Try.prog 80 #[v, S2 x y] w fun e W' => e = .returned (.bool (clearC xs x y)) ∧ Below w.heap.size w W') := fun w h => free_calls w h (by have := hm.2.2; omega) hm.1 hs
      rw [show freeB xs x y = clearC xs x y by simp [freeB, em, es], show freeE xs x y = 0 by simp [freeE, em, es]]
      clear hW hm em hs es hS
      generalize clearC xs x y = r at *
      go_enter Try.func97, Try.ntmps97
      go_wp2_with fail
      rw [HW.out]
      refine (HC.out _ HS.out).mono ?_
      rintro e w1 ⟨rfl, hT⟩
      obtain ⟨c0, c1, hz⟩ := hK.pair hT
      go_wp2_with fail
      refine (HT.out _).mono ?_
      rintro e w2 ⟨rfl, hB2⟩
      have hT2 := then_below hT hB2
      clear c0 c1 hz
      obtain ⟨c0, c1, hz⟩ := hK.pair hT2
      go_wp2_with fail
      refine (HF.out _ (HS.out.later hT2)).mono ?_
      rintro e w3 ⟨rfl, hB3⟩
      go_wp2
      go_ret2
      exact ⟨rfl, then_below hB (then_below hT2 hB3)⟩
    · have es : maySpB x y = false := by cases e : maySpB x y; rfl; exact absurd ((maySpB_iff x y).1 e) hs
      have HT : Hid (∀ w, Calls Try.prog 60 #[S2 x y] w fun e W' => e = .returned (I 2) ∧ Below w.heap.size w W') := fun w => by rw [← errS_no hs]; exact tcheck_calls x y w
      rw [show freeB xs x y = false by simp [freeB, es], show freeE xs x y = 2 by simp [freeE, em, es]]
      clear hW hm em hs es hS
      go_enter Try.func97, Try.ntmps97
      go_wp2_with fail
      rw [HW.out]
      refine (HC.out _ HS.out).mono ?_
      rintro e w1 ⟨rfl, hT⟩
      obtain ⟨c0, c1, hz⟩ := hK.pair hT
      go_wp2_with fail
      refine (HT.out _).mono ?_
      rintro e w2 ⟨rfl, hB2⟩
      go_wp2
      go_ret2
      exact ⟨rfl, then_below hB (then_below hT hB2)⟩
  · have em : mayCB xs = false := by cases e : mayCB xs; rfl; exact absurd (mayCB_iff.1 e) hm
    have HC := chk_no (v := v) hm
    rw [show freeB xs x y = false by simp [freeB, em], show freeE xs x y = 8 by simp [freeE, em]]
    clear hW hm em hS
    go_enter Try.func97, Try.ntmps97
    go_wp2_with fail
    rw [HW.out]
    refine (HC.out _ HS.out).mono ?_
    rintro e w1 ⟨rfl, hT⟩
    go_wp2
    go_ret2
    exact ⟨rfl, then_below hB hT⟩

end Go.Proofs.Ytabhlmckncgdjaa
