/-
  The document's Put, Take, Cut, Free, At (tidehallref08): what each call answers.
-/
import Derived.Test.YtikjgfjahjlbaaaCalLists
import Derived.Test.YtikjgfjahjlbaaaCalNext
import Derived.Test.YtikjgfjahjlbaaaCalPut
namespace Go.Proofs.Ytikjgfjahjlbaaa
open Go Go.RowKit Go.Shelf

attribute [local go_sem] Oper.semAt_some ext_const

theorem may_at {xs : List Slt} {v : Value} {r : Bool} (hn : xs.length ≤ 10000) (h : mayCB xs = r) : Hid (∀ w, Ss w v xs → Calls Try.prog 36 #[v] w fun e W' => e = .returned (.bool r) ∧ Below w.heap.size w W') := fun w hS => by rw [← h]; exact rmayC_calls w hS (by omega)
theorem mayCB_no {xs : List Slt} (hm : ¬ mayC xs) : mayCB xs = false := by cases e : mayCB xs; rfl; exact absurd (mayCB_iff.1 e) hm

theorem rtake_no {xs : List Slt} {v : Value} {ow : Int} (w : World) (hS : Ss w v xs) (hn : xs.length ≤ 10000) (h : ¬ mayC xs) : Calls Try.prog 19 #[v, I ow] w fun e W' => e = .returned (.tuple #[.slice none 0 0, I 8]) ∧ Below w.heap.size w W' := by
  have HC := may_at (v := v) hn (mayCB_no h)
  have HS : Hid (Ss w v xs) := hS
  clear h hS
  go_enter Try.func19, Try.ntmps19
  go_wp2_with fail
  refine (HC.out _ HS.out).mono ?_
  rintro e w1 ⟨rfl, hT⟩
  go_wp2
  go_ret2
  exact ⟨rfl, hT⟩

theorem rtake_yes {xs : List Slt} {v : Value} {ow : Int} (w : World) (hS : Ss w v xs) (hn : xs.length ≤ 10000) (h : mayC xs) : Calls Try.prog 19 #[v, I ow] w fun e W' => ∃ u, e = .returned (.tuple #[u, I 0]) ∧ So W' w.heap.size u (lessC xs ow) ∧ Below w.heap.size w W' := by
  have HC := may_at (v := v) hn (mayCB_iff.2 h)
  have HS : Hid (Ss w v xs) := hS
  have HL : Hid (∀ w, Ss w v xs → Calls Try.prog 40 #[v, I ow] w fun e W' => ∃ u, e = .returned u ∧ So W' w.heap.size u (lessC xs ow) ∧ Below w.heap.size w W') := fun w hS => rless_calls w hS (by omega)
  clear h hS
  generalize lessC xs ow = tgt at *
  go_enter Try.func19, Try.ntmps19
  go_wp2_with fail
  refine (HC.out _ HS.out).mono ?_
  rintro e w1 ⟨rfl, hT⟩
  go_wp2_with fail
  refine (HL.out _ (HS.out.later hT)).mono ?_
  rintro e w2 ⟨u, rfl, hO, hB2⟩
  have HO : Hid (So w2 w.heap.size u tgt) := hO.weak hT.size
  clear hO
  go_wp2
  go_ret2
  exact ⟨_, rfl, HO.out, then_below hT hB2⟩

theorem rcut_no {xs : List Slt} {v : Value} {ow to : Int} (w : World) (hS : Ss w v xs) (hn : xs.length ≤ 10000) (h : ¬ mayC xs) : Calls Try.prog 20 #[v, I ow, I to] w fun e W' => e = .returned (.tuple #[.slice none 0 0, I 8]) ∧ Below w.heap.size w W' := by
  have HC := may_at (v := v) hn (mayCB_no h)
  have HS : Hid (Ss w v xs) := hS
  clear h hS
  go_enter Try.func20, Try.ntmps20
  go_wp2_with fail
  refine (HC.out _ HS.out).mono ?_
  rintro e w1 ⟨rfl, hT⟩
  go_wp2
  go_ret2
  exact ⟨rfl, hT⟩

theorem rcut_yes {xs : List Slt} {v : Value} {ow to : Int} (w : World) (hS : Ss w v xs) (hn : xs.length ≤ 10000) (h : mayC xs) : Calls Try.prog 20 #[v, I ow, I to] w fun e W' => ∃ u, e = .returned (.tuple #[u, I 0]) ∧ So W' w.heap.size u (endedC xs ow to) ∧ Below w.heap.size w W' := by
  have HC := may_at (v := v) hn (mayCB_iff.2 h)
  have HS : Hid (Ss w v xs) := hS
  have HL : Hid (∀ w, Ss w v xs → Calls Try.prog 41 #[v, I ow, I to] w fun e W' => ∃ u, e = .returned u ∧ So W' w.heap.size u (endedC xs ow to) ∧ Below w.heap.size w W') := fun w hS => rended_calls w hS (by omega)
  clear h hS
  generalize endedC xs ow to = tgt at *
  go_enter Try.func20, Try.ntmps20
  go_wp2_with fail
  refine (HC.out _ HS.out).mono ?_
  rintro e w1 ⟨rfl, hT⟩
  go_wp2_with fail
  refine (HL.out _ (HS.out.later hT)).mono ?_
  rintro e w2 ⟨u, rfl, hO, hB2⟩
  have HO : Hid (So w2 w.heap.size u tgt) := hO.weak hT.size
  clear hO
  go_wp2
  go_ret2
  exact ⟨_, rfl, HO.out, then_below hT hB2⟩

theorem rfree_calls {xs : List Slt} {v : Value} {x y : Int} (w : World) (hS : Ss w v xs) (hn : xs.length ≤ 10000) : Calls Try.prog 24 #[v, S2 x y] w fun e W' => e = .returned (.tuple #[.bool (freeB xs x y), I (freeE xs x y)]) ∧ Below w.heap.size w W' := by
  obtain ⟨W, hW, hB, hK⟩ := one_start w (C2 x y) 34
  have HW : Hid (w.alloc (.cells (C2 x y) 34) = W) := hW
  have HS : Hid (Ss W v xs) := hS.later hB
  have HP : Hid (∀ w, Calls Try.prog 43 #[S2 x y] w fun e W' => e = .returned (.bool (maySpB x y)) ∧ Below w.heap.size w W') := rmayS_calls x y
  have HF : Hid (∀ w, Ss w v xs → Calls Try.prog 38 #[v, S2 x y] w fun e W' => e = .returned (.bool (clearC xs x y)) ∧ Below w.heap.size w W') := fun w h => rclear_calls w h (by omega)
  cases em : mayCB xs
  · have HC := may_at (v := v) hn em
    rw [show freeB xs x y = false by simp [freeB, em], show freeE xs x y = 8 by simp [freeE, em]]
    clear hW em hS
    go_enter Try.func24, Try.ntmps24
    go_wp2_with fail
    rw [HW.out]
    refine (HC.out _ HS.out).mono ?_
    rintro e w1 ⟨rfl, hT⟩
    go_wp2
    go_ret2
    exact ⟨rfl, then_below hB hT⟩
  · have HC := may_at (v := v) hn em
    cases es : maySpB x y
    · rw [show freeB xs x y = false by simp [freeB, es], show freeE xs x y = 2 by simp [freeE, em, es]]
      rw [es] at HP
      clear hW em es hS
      go_enter Try.func24, Try.ntmps24
      go_wp2_with fail
      rw [HW.out]
      refine (HC.out _ HS.out).mono ?_
      rintro e w1 ⟨rfl, hT⟩
      obtain ⟨c0, c1, hz⟩ := hK.pair hT
      go_wp2_with fail
      refine (HP.out _).mono ?_
      rintro e w2 ⟨rfl, hB2⟩
      go_wp2
      go_ret2
      exact ⟨rfl, then_below hB (then_below hT hB2)⟩
    · rw [show freeB xs x y = clearC xs x y by simp [freeB, em, es], show freeE xs x y = 0 by simp [freeE, em, es]]
      rw [es] at HP
      clear hW em es hS
      generalize clearC xs x y = r at *
      go_enter Try.func24, Try.ntmps24
      go_wp2_with fail
      rw [HW.out]
      refine (HC.out _ HS.out).mono ?_
      rintro e w1 ⟨rfl, hT⟩
      obtain ⟨c0, c1, hz⟩ := hK.pair hT
      go_wp2_with fail
      refine (HP.out _).mono ?_
      rintro e w2 ⟨rfl, hB2⟩
      have hT2 := then_below hT hB2
      clear c0 c1 hz
      obtain ⟨c0, c1, hz⟩ := hK.pair hT2
      go_wp2_with fail
      refine (HF.out _ (HS.out.later hT2)).mono ?_
      rintro e w3 ⟨rfl, hB3⟩
      go_wp2
      go_ret2
      exact ⟨rfl, then_below hB (then_below hT2 hB3)⟩

set_option maxRecDepth 100000 in
set_option maxHeartbeats 8000000 in
theorem rat_calls {xs : List Slt} {v : Value} {a : Int} (w : World) (hS : Ss w v xs) (hn : xs.length ≤ 10000) : Calls Try.prog 25 #[v, I a] w fun e W' => e = .returned (.tuple #[I (atV xs a), I (atE xs a)]) ∧ Below w.heap.size w W' := by
  obtain ⟨ao, cap, rfl, hS⟩ := hS.form
  have HS : Hid (Ss w (.slice ao xs.length cap) xs) := hS
  clear hS
  by_cases hm : mayC xs
  · have em := mayCB_iff.2 hm
    have HC := may_at (v := .slice ao xs.length cap) hn em
    by_cases ha : 0 ≤ a ∧ a < 1099511627776
    · have HI : Hid (∀ f t w, Calls Try.prog 44 #[S2 f t, I a] w fun e W' => e = .returned (.bool (inT f t a)) ∧ Below w.heap.size w W') := fun f t w => rinT_calls f t a w
      have HV : Hid (∀ k f t o, k < xs.length → xs.getD k (0, 0, 0) = (f, t, o) → inT f t a = true → atV xs a = o ∧ atE xs a = 0) := fun k f t o hk hu h1 => by
        have : atC xs a = some o := (atC_some hm.2.1 (mayC_fine hm)).2 ⟨(f, t, o), by rw [← hu]; simp [hk], inT_iff.1 h1, rfl⟩
        simp [atV, atE, em, momB_yes ha, this]
      have HN : Hid ((∀ j, j < xs.length → inT (xs.getD j (0, 0, 0)).1 (xs.getD j (0, 0, 0)).2.1 a = false) → atV xs a = 0 ∧ atE xs a = 6) := fun h => by
        have : atC xs a = none := atC_none.2 fun s hs hh => by
          obtain ⟨i, hi, rfl⟩ := List.mem_iff_getElem.1 hs
          have := h i hi
          simp [hi] at this
          rw [inT_iff.2 hh] at this
          cases this
        simp [atV, atE, em, momB_yes ha, this]
      have h0 : decide (a < 0) = false := decide_eq_false (by omega)
      have h1 : decide ((1099511627776 : Int) ≤ a) = false := decide_eq_false (by omega)
      clear hm em ha
      generalize atV xs a = rv at *
      generalize atE xs a = re at *
      go_enter Try.func25, Try.ntmps25
      go_wp2_with fail
      refine (HC.out _ HS.out).mono ?_
      rintro e W ⟨rfl, hT3⟩
      have HS3 : Hid (Ss W (.slice ao xs.length cap) xs) := HS.out.later hT3
      go_wp2
      go_loopw [6] (fun i wr => ∃ k : Nat, k ≤ xs.length ∧ i = .int .i64 k ∧ Hid (∀ j, j < k → inT (xs.getD j (0, 0, 0)).1 (xs.getD j (0, 0, 0)).2.1 a = false) ∧ Below W.heap.size W wr) (fun i _ => xs.length - (intOf i).toNat)
      case atStart => exact ⟨0, by omega, rfl, fun j hj => by omega, Below.refl _ _⟩
      case round =>
        obtain ⟨k, hk, rfl, H0, hT⟩ := hrel
        by_cases hlt : (k : Int) < (xs.length : Int)
        · have hk' : k < xs.length := by omega
          obtain ⟨g, off, f, t, o, rfl, hu, hat⟩ := (HS3.out.later hT).at hk'
          obtain ⟨hg, c0, c1, c2⟩ := hat.cells
          have HU : Hid (xs.getD k (0, 0, 0) = (f, t, o)) := hu
          have HI1 : Hid (∀ w, Calls Try.prog 44 #[S2 f t, I a] w fun e W' => e = .returned (.bool (inT f t a)) ∧ Below w.heap.size w W') := HI.out f t
          clear hu
          cases hi : inT f t a
          · have HJ : Hid (∀ j, j < k + 1 → inT (xs.getD j (0, 0, 0)).1 (xs.getD j (0, 0, 0)).2.1 a = false) := fun j hj => by
              rcases Nat.lt_succ_iff_lt_or_eq.1 hj with h | rfl
              · exact H0.out j h
              · rw [HU.out]; exact hi
            rw [hi] at HI1
            clear hi hat
            go_wp2_with fail
            refine (HI1.out _).mono ?_
            rintro e w1 ⟨rfl, hB1⟩
            go_wp2
            go_roundw
            case rel => exact ⟨k + 1, by omega, by go_num, HJ, then_below hT hB1⟩
            case measure => simp [intOf]; omega
          · obtain ⟨e1, e2⟩ := HV.out k f t o hk' HU.out hi
            subst e1 e2
            rw [hi] at HI1
            clear hi
            go_wp2_with fail
            refine (HI1.out _).mono ?_
            rintro e w1 ⟨rfl, hB1⟩
            clear hg c0 c1 c2
            obtain ⟨hg, c0, c1, c2⟩ := (hat.later hB1).cells
            go_wp2
            go_ret2
            exact ⟨rfl, then_below hT3 (then_below hT hB1)⟩
        · obtain ⟨e1, e2⟩ := HN.out fun j hj => H0.out j (by omega)
          subst e1 e2
          go_wp2
          go_ret2
          exact ⟨rfl, then_below hT3 hT⟩
    · rw [show atV xs a = 0 by simp [atV, momB_no ha], show atE xs a = 2 by simp [atE, em, momB_no ha]]
      by_cases h0 : a < 0
      · clear hm em ha
        go_enter Try.func25, Try.ntmps25
        go_wp2_with fail
        refine (HC.out _ HS.out).mono ?_
        rintro e w1 ⟨rfl, hT⟩
        go_wp2
        go_ret2
        exact ⟨rfl, hT⟩
      · have h1 : (1099511627776 : Int) ≤ a := by omega
        have h0 : decide (a < 0) = false := decide_eq_false h0
        clear hm em ha
        go_enter Try.func25, Try.ntmps25
        go_wp2_with fail
        refine (HC.out _ HS.out).mono ?_
        rintro e w1 ⟨rfl, hT⟩
        go_wp2
        go_ret2
        exact ⟨rfl, hT⟩
  · have em := mayCB_no hm
    have HC := may_at (v := .slice ao xs.length cap) hn em
    rw [show atV xs a = 0 by simp [atV, em], show atE xs a = 8 by simp [atE, em]]
    clear hm em
    go_enter Try.func25, Try.ntmps25
    go_wp2_with fail
    refine (HC.out _ HS.out).mono ?_
    rintro e w1 ⟨rfl, hT⟩
    go_wp2
    go_ret2
    exact ⟨rfl, hT⟩

set_option maxRecDepth 100000 in
set_option maxHeartbeats 8000000 in
theorem rput_err {xs : List Slt} {v : Value} {f t o : Int} (w : World) (hS : Ss w v xs) (hn : xs.length ≤ 10000) (hne : putE xs (f, t, o) ≠ 0) : Calls Try.prog 18 #[v, V3 f t o] w fun e W' => e = .returned (.tuple #[.slice none 0 0, I (putE xs (f, t, o))]) ∧ Below w.heap.size w W' := by
  obtain ⟨ao, cap, rfl, hS⟩ := hS.form
  obtain ⟨W, hW, hB, hK⟩ := one_start w (C3 f t o) 36
  have HW : Hid (w.alloc (.cells (C3 f t o) 36) = W) := hW
  have HS : Hid (Ss W (.slice ao xs.length cap) xs) := hS.later hB
  have HM : Hid (∀ w, Calls Try.prog 37 #[V3 f t o] w fun e W' => e = .returned (.bool (maySlB (f, t, o))) ∧ Below w.heap.size w W') := rmaySl_calls f t o
  have HF : Hid (∀ w, Ss w (.slice ao xs.length cap) xs → Calls Try.prog 38 #[.slice ao xs.length cap, S2 f t] w fun e W' => e = .returned (.bool (clearC xs f t)) ∧ Below w.heap.size w W') := fun w h => rclear_calls w h (by omega)
  clear hS hW
  cases em : mayCB xs
  · have HC := may_at (v := .slice ao xs.length cap) hn em
    rw [show putE xs (f, t, o) = 8 by simp [putE, em]]
    clear em hne
    go_enter Try.func18, Try.ntmps18
    go_wp2_with fail
    rw [HW.out]
    refine (HC.out _ HS.out).mono ?_
    rintro e w1 ⟨rfl, hT⟩
    go_wp2
    go_ret2
    exact ⟨rfl, then_below hB hT⟩
  · have HC := may_at (v := .slice ao xs.length cap) hn em
    cases es : maySlB (f, t, o)
    · rw [show putE xs (f, t, o) = 2 by simp [putE, em, es]]
      rw [es] at HM
      clear em es hne
      go_enter Try.func18, Try.ntmps18
      go_wp2_with fail
      rw [HW.out]
      refine (HC.out _ HS.out).mono ?_
      rintro e w1 ⟨rfl, hT⟩
      obtain ⟨hz, c0, c1, c2⟩ := (hK.later hT).at3.cells
      go_wp2_with fail
      refine (HM.out _).mono ?_
      rintro e w2 ⟨rfl, hB2⟩
      go_wp2
      go_ret2
      exact ⟨rfl, then_below hB (then_below hT hB2)⟩
    · rw [es] at HM
      cases hc : clearC xs f t
      · rw [show putE xs (f, t, o) = 80 by simp [putE, em, es, hc]]
        rw [hc] at HF
        clear em es hne hc
        go_enter Try.func18, Try.ntmps18
        go_wp2_with fail
        rw [HW.out]
        refine (HC.out _ HS.out).mono ?_
        rintro e w1 ⟨rfl, hT⟩
        obtain ⟨hz, c0, c1, c2⟩ := (hK.later hT).at3.cells
        go_wp2_with fail
        refine (HM.out _).mono ?_
        rintro e w2 ⟨rfl, hB2⟩
        have hT2 := then_below hT hB2
        clear hz c0 c1 c2
        obtain ⟨hz, c0, c1, c2⟩ := (hK.later hT2).at3.cells
        go_wp2_with fail
        refine (HF.out _ (HS.out.later hT2)).mono ?_
        rintro e w3 ⟨rfl, hB3⟩
        go_wp2
        go_ret2
        exact ⟨rfl, then_below hB (then_below hT2 hB3)⟩
      · by_cases hl : xs.length = 4096
        · rw [show putE xs (f, t, o) = 4 by simp [putE, em, es, hc, hl]]
          rw [hc] at HF
          rw [hl] at HC HS HF ⊢
          clear em es hne hc hl hn
          go_enter Try.func18, Try.ntmps18
          go_wp2_with fail
          rw [HW.out]
          refine (HC.out _ HS.out).mono ?_
          rintro e w1 ⟨rfl, hT⟩
          obtain ⟨hz, c0, c1, c2⟩ := (hK.later hT).at3.cells
          go_wp2_with fail
          refine (HM.out _).mono ?_
          rintro e w2 ⟨rfl, hB2⟩
          have hT2 := then_below hT hB2
          clear hz c0 c1 c2
          obtain ⟨hz, c0, c1, c2⟩ := (hK.later hT2).at3.cells
          go_wp2_with fail
          refine (HF.out _ (HS.out.later hT2)).mono ?_
          rintro e w3 ⟨rfl, hB3⟩
          go_wp2
          go_ret2
          exact ⟨rfl, then_below hB (then_below hT2 hB3)⟩
        · exfalso
          apply hne
          simp [putE, em, es, hc, hl]

set_option maxRecDepth 100000 in
set_option maxHeartbeats 8000000 in
theorem rput_yes {xs : List Slt} {v : Value} {f t o : Int} (w : World) (hS : Ss w v xs) (hm : mayC xs) (hs : maySl (f, t, o)) (hc : clearC xs f t = true) (hl : xs.length < 4096) : Calls Try.prog 18 #[v, V3 f t o] w fun e W' => ∃ u, e = .returned (.tuple #[u, I 0]) ∧ So W' w.heap.size u (withC (f, t, o) xs) ∧ Below w.heap.size w W' := by
  obtain ⟨ao, cap, rfl, hS⟩ := hS.form
  obtain ⟨W, hW, hB, hK⟩ := one_start w (C3 f t o) 36
  have HW : Hid (w.alloc (.cells (C3 f t o) 36) = W) := hW
  have HS : Hid (Ss W (.slice ao xs.length cap) xs) := hS.later hB
  have HM : Hid (∀ w, Calls Try.prog 37 #[V3 f t o] w fun e W' => e = .returned (.bool true) ∧ Below w.heap.size w W') := fun w => by rw [← maySlB_iff.2 hs]; exact rmaySl_calls f t o w
  have HC := may_at (v := .slice ao xs.length cap) (by omega) (mayCB_iff.2 hm)
  have HF : Hid (∀ w, Ss w (.slice ao xs.length cap) xs → Calls Try.prog 38 #[.slice ao xs.length cap, S2 f t] w fun e W' => e = .returned (.bool true) ∧ Below w.heap.size w W') := fun w h => by rw [← hc]; exact rclear_calls w h (by omega)
  have HL : Hid (∀ w, Ss w (.slice ao xs.length cap) xs → Calls Try.prog 39 #[.slice ao xs.length cap, V3 f t o] w fun e W' => ∃ u, e = .returned u ∧ So W' w.heap.size u (withC (f, t, o) xs) ∧ Below w.heap.size w W') := fun w h => rwith_calls w h (by omega)
  have hln : decide ((4096 : Int) ≤ (xs.length : Int)) = false := decide_eq_false (by omega)
  generalize withC (f, t, o) xs = tgt at *
  clear hm hs hc hS hW
  go_enter Try.func18, Try.ntmps18
  go_wp2_with fail
  rw [HW.out]
  refine (HC.out _ HS.out).mono ?_
  rintro e w1 ⟨rfl, hT⟩
  obtain ⟨hz, c0, c1, c2⟩ := (hK.later hT).at3.cells
  go_wp2_with fail
  refine (HM.out _).mono ?_
  rintro e w2 ⟨rfl, hB2⟩
  have hT2 := then_below hT hB2
  clear hz c0 c1 c2
  obtain ⟨hz, c0, c1, c2⟩ := (hK.later hT2).at3.cells
  go_wp2_with fail
  refine (HF.out _ (HS.out.later hT2)).mono ?_
  rintro e w3 ⟨rfl, hB3⟩
  have hT3 := then_below hT2 hB3
  clear hz c0 c1 c2
  obtain ⟨hz, c0, c1, c2⟩ := (hK.later hT3).at3.cells
  go_wp2_with fail
  refine (HL.out _ (HS.out.later hT3)).mono ?_
  rintro e w4 ⟨u, rfl, hO, hB4⟩
  have HO : Hid (So w4 w.heap.size u tgt) := hO.weak (Nat.le_trans hB.size hT3.size)
  clear hO
  go_wp2
  go_ret2
  exact ⟨_, rfl, HO.out, then_below hB (then_below hT3 hB4)⟩

end Go.Proofs.Ytikjgfjahjlbaaa
