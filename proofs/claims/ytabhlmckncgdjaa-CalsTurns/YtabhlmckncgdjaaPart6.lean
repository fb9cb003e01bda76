/-
  The document's MaySlot, May, Check, Same, Clear (tidehallref08): what each call answers.
-/
import Derived.Test.YtabhlmckncgdjaaPart5
namespace Go.Proofs.Ytabhlmckncgdjaa
open Go Go.RowKit Go.Shelf

def eqSl (a b : Slt) : Bool := decide (a = b)
theorem eqSl_parts (f t o f' t' o' : Int) : eqSl (f, t, o) (f', t', o') = ((f == f') && (t == t') && (o == o')) := by
  unfold eqSl
  rw [Bool.eq_iff_iff]
  simp [and_assoc]

set_option maxRecDepth 100000 in
theorem eq_slot (f t o f' t' o' : Int) (w : World) : (Op.equalIn 10000 52 (V3 f t o) (V3 f' t' o')).run Try.prog w = .ok (eqSl (f, t, o) (f', t', o')) w := by
  have e0 := fun w => run_equalIn_int (P := Try.prog) w 9998 3 .i64 .i64 o o' Try.underlying3
  have e1 := fun w => run_equalIn_int (P := Try.prog) w 9997 3 .i64 .i64 f f' Try.underlying3
  have e2 := fun w => run_equalIn_int (P := Try.prog) w 9997 3 .i64 .i64 t t' Try.underlying3
  have e3 : ∀ w, (Op.equalIn 9999 36 (S2 f t) (S2 f' t')).run Try.prog w = .ok ((f == f') && (t == t')) w := by
    intro w
    rw [run_equalIn_struct (P := Try.prog) w 9998 36 _ _ (by kernel_rfl) (by kernel_rfl)]
    generalize (f == f') = b0 at *
    generalize (t == t') = b1 at *
    cases b0 <;> cases b1 <;> go_simp
  rw [eqSl_parts, run_equalIn_struct (P := Try.prog) w 9999 52 _ _ (by kernel_rfl) (by kernel_rfl)]
  generalize ((f == f') && (t == t')) = b0 at *
  generalize (o == o') = b1 at *
  cases b0 <;> cases b1 <;> go_simp

attribute [local go_sem] Oper.semAt_some ext_const
attribute [local go_sem high] eq_slot

theorem rmaySl_calls (f t o : Int) (w : World) : Calls Try.prog 47 #[V3 f t o] w fun e W' => e = .returned (.bool (maySlB (f, t, o))) ∧ Below w.heap.size w W' := by
  have H : Hid (∀ w, Calls Try.prog 62 #[S2 f t] w fun e W' => e = .returned (.bool (maySpB f t)) ∧ Below w.heap.size w W') := rmayS_calls f t
  have HW : Hid (∃ W, w.alloc (.cells (C3 f t o) 52) = W ∧ Below w.heap.size w W ∧ Blk W w.heap.size 52 (C3 f t o)) := ⟨_, rfl, (Below.refl _ w).alloc (Nat.le_refl _) _, Blk.new w _ _⟩
  obtain ⟨W, hW, hB, hK⟩ := HW.out
  clear HW
  have HW : Hid (w.alloc (.cells (C3 f t o) 52) = W) := hW
  clear hW
  cases hs : maySpB f t
  · have E : maySlB (f, t, o) = false := by simp [maySlB, hs]
    rw [hs] at H
    rw [E]
    clear hs E
    go_enter Try.func47, Try.ntmps47
    go_wp2_with fail
    rw [HW.out]
    refine (H.out _).mono ?_
    rintro e w1 ⟨rfl, hB1⟩
    go_wp2
    go_ret
    exact ⟨rfl, then_below hB hB1⟩
  · rw [hs] at H
    by_cases h1 : 0 < o
    · by_cases h2 : o ≤ 1099511627776
      · have E : maySlB (f, t, o) = true := by simp [maySlB, hs, h2]; omega
        rw [E]
        clear hs E
        go_enter Try.func47, Try.ntmps47
        go_wp2_with fail
        rw [HW.out]
        refine (H.out _).mono ?_
        rintro e w1 ⟨rfl, hB1⟩
        have hc := (hK.later hB1).cell 2
        have hz := (hK.later hB1).lt
        go_wp2
        go_ret
        exact ⟨rfl, then_below hB hB1⟩
      · have E : maySlB (f, t, o) = false := by simp [maySlB, h2]
        have h2 : decide (o ≤ 1099511627776) = false := decide_eq_false h2
        rw [E]
        clear hs E
        go_enter Try.func47, Try.ntmps47
        go_wp2_with fail
        rw [HW.out]
        refine (H.out _).mono ?_
        rintro e w1 ⟨rfl, hB1⟩
        have hc := (hK.later hB1).cell 2
        have hz := (hK.later hB1).lt
        go_wp2
        go_ret
        exact ⟨rfl, then_below hB hB1⟩
    · have E : maySlB (f, t, o) = false := by simp [maySlB, show ¬ (1 ≤ o) by omega]
      have h1 : decide (0 < o) = false := decide_eq_false h1
      rw [E]
      clear hs E
      go_enter Try.func47, Try.ntmps47
      go_wp2_with fail
      rw [HW.out]
      refine (H.out _).mono ?_
      rintro e w1 ⟨rfl, hB1⟩
      have hc := (hK.later hB1).cell 2
      have hz := (hK.later hB1).lt
      go_wp2
      go_ret
      exact ⟨rfl, then_below hB hB1⟩

theorem last_prev {c : List Slt} {j : Nat} {f t o : Int} (hj : j < c.length) (hu : c.getD j (0, 0, 0) = (f, t, o)) : lastC 0 (c.take (j + 1)) = t := by
  rw [take_snoc hj hu, lastC_snoc]

set_option maxRecDepth 100000 in
set_option maxHeartbeats 8000000 in
theorem rmayC_calls {xs : List Slt} {v : Value} (w : World) (hS : Ss w v xs) (hn : xs.length ≤ 100000) : Calls Try.prog 114 #[v] w fun e W' => e = .returned (.bool (mayCB xs)) ∧ Below w.heap.size w W' := by
  have hmx : Try.prog.follows .mixedOrders = true := by kernel_rfl
  obtain ⟨ao, cap, rfl, hS⟩ := hS.form
  have HS : Hid (Ss w (.slice ao xs.length cap) xs) := hS
  clear hS
  have HM : Hid (∀ f t o w, Calls Try.prog 47 #[V3 f t o] w fun e W' => e = .returned (.bool (maySlB (f, t, o))) ∧ Below w.heap.size w W') := rmaySl_calls
  have HB : Hid (∀ k, good1 0 (xs.take k) = false → mayCB xs = false) := fun k => good_take
  have HG : Hid (good1 0 xs = true → mayCB xs = decide (xs.length ≤ 4096)) := fun h => by unfold mayCB; rw [h]; simp
  generalize mayCB xs = ans at HB HG ⊢
  go_enter Try.func114, Try.ntmps114
  go_wp2
  go_loopw [3] (fun i wr => ∃ k : Nat, k ≤ xs.length ∧ i = .int .i64 k ∧ Hid (good1 0 (xs.take k) = true) ∧ Below w.heap.size w wr) (fun i _ => xs.length - (intOf i).toNat)
  case atStart => exact ⟨0, by omega, rfl, by show _ = _; simp [good1], Below.refl _ _⟩
  case round =>
    obtain ⟨k, hk, rfl, HK, hT⟩ := hrel
    by_cases hlt : (k : Int) < (xs.length : Int)
    · have hk' : k < xs.length := by omega
      obtain ⟨g, off, f, t, o, rfl, hu, ha⟩ := (HS.out.later hT).at hk'
      have hg := ha.1
      obtain ⟨c0, c1, c2⟩ := ha.ext
      have HN : Hid (good1 0 (xs.take (k + 1)) = (maySlB (f, t, o) && decide (lastC 0 (xs.take k) ≤ f))) := (good_next hk' hu rfl HK.out).1
      have HM1 := HM.out f t o
      clear hu ha
      cases hm : maySlB (f, t, o)
      · have E : ans = false := HB.out (k + 1) (by rw [HN.out, hm]; rfl)
        rw [hm] at HM1
        subst E
        clear hm HN
        go_wp2
        refine wp_region_look hmx (by kernel_rfl) ?_
        repeat (go_big_quiet_step ((go_at_call 47; exact calls_ext (HM1 _))))
        refine wpQuiet_nil ?_
        intro X
        go_wp2
        go_ret
        exact ⟨rfl, then_below hT X.le⟩
      · rw [hm] at HM1 HN
        by_cases hk0 : k = 0
        · have HN2 : Hid (good1 0 (xs.take (k + 1)) = true) := by
            show _ = _
            rw [HN.out]
            have := maySlB_iff.1 hm
            have := this.1.1
            subst hk0
            simpa [lastC] using this
          have hp0 : decide ((0 : Int) < (k : Int)) = false := decide_eq_false (by omega)
          have hp1 : decide (0 < k) = false := decide_eq_false (by omega)
          clear hm HN hk0
          go_wp2
          refine wp_region_look hmx (by kernel_rfl) ?_
          repeat (go_big_quiet_step ((go_at_call 47; exact calls_ext (HM1 _))))
          refine wpQuiet_nil ?_
          intro X
          go_wp2
          go_roundw
          case rel => exact ⟨k + 1, by omega, by go_num, HN2.out, then_below hT X.le⟩
          case measure => simp [intOf]; omega
        · obtain ⟨j, hkk⟩ : ∃ j, k = j + 1 := ⟨k - 1, by omega⟩
          obtain ⟨g', off', f', t', o', e', hu', ha'⟩ := (HS.out.later hT).at (show j < xs.length by omega)
          simp only [Option.some.injEq, Addr.mk.injEq, and_true] at e'
          obtain ⟨rfl, rfl⟩ := e'
          obtain ⟨d0, d1, d2⟩ := ha'.ext
          have hp := last_prev (show j < xs.length by omega) hu'
          rw [← hkk] at hp
          rw [hp] at HN
          have hj1 : ((k : Nat) : Int) - 1 = (j : Int) := by omega
          have hp0 : decide ((0 : Int) < (k : Int)) = true := decide_eq_true (by omega)
          have hp1 : decide (0 < k) = true := decide_eq_true (by omega)
          have hjl : (j : Int) < (xs.length : Int) := by omega
          clear hm hu' ha' hp hkk hk0
          by_cases hft : f < t'
          · have E : ans = false := HB.out (k + 1) (by rw [HN.out]; simp; omega)
            subst E
            clear HN
            go_wp2
            refine wp_region_look hmx (by kernel_rfl) ?_
            repeat (go_big_quiet_step ((go_at_call 47; exact calls_ext (HM1 _))))
            refine wpQuiet_nil ?_
            intro X
            go_wp2
            go_ret
            exact ⟨rfl, then_below hT X.le⟩
          · have HN2 : Hid (good1 0 (xs.take (k + 1)) = true) := by show _ = _; rw [HN.out]; simp; omega
            have hft : decide (f < t') = false := decide_eq_false hft
            clear HN
            go_wp2
            refine wp_region_look hmx (by kernel_rfl) ?_
            repeat (go_big_quiet_step ((go_at_call 47; exact calls_ext (HM1 _))))
            refine wpQuiet_nil ?_
            intro X
            go_wp2
            go_roundw
            case rel => exact ⟨k + 1, by omega, by go_num, HN2.out, then_below hT X.le⟩
            case measure => simp [intOf]; omega
    · have E := HG.out (by have := HK.out; rwa [List.take_of_length_le (by omega)] at this)
      by_cases hl : (xs.length : Int) ≤ 4096
      · have E2 : ans = true := by rw [E]; exact decide_eq_true (by omega)
        clear E
        subst E2
        go_wp2
        go_ret
        exact ⟨rfl, hT⟩
      · have E2 : ans = false := by rw [E]; exact decide_eq_false (by omega)
        have hl : decide ((xs.length : Int) ≤ 4096) = false := decide_eq_false hl
        clear E
        subst E2
        go_wp2
        go_ret
        exact ⟨rfl, hT⟩

def eqC (xs ys : List Slt) : Bool := decide (xs = ys)
theorem takeC_succ {xs ys : List Slt} {k : Nat} (hx : k < xs.length) (hy : k < ys.length) (h : xs.take k = ys.take k) (he : xs.getD k (0, 0, 0) = ys.getD k (0, 0, 0)) : xs.take (k + 1) = ys.take (k + 1) := by
  rw [take_snoc hx rfl, take_snoc hy rfl, h, he]

set_option maxRecDepth 100000 in
set_option maxHeartbeats 4000000 in
theorem rsameC_calls {xs ys : List Slt} {u v : Value} (w : World) (hu : Ss w u xs) (hv : Ss w v ys) (hx : xs.length ≤ 100000) :
    Calls Try.prog 95 #[u, v] w fun e W' => e = .returned (.bool (eqC xs ys)) ∧ Below w.heap.size w W' := by
  have hmx : Try.prog.follows .mixedOrders = true := by kernel_rfl
  obtain ⟨ao, cap, rfl, hu⟩ := hu.form
  obtain ⟨ao', cap', rfl, hv⟩ := hv.form
  have HA : Hid (Ss w (.slice ao xs.length cap) xs) := hu
  have HB : Hid (Ss w (.slice ao' ys.length cap') ys) := hv
  clear hu hv
  obtain ⟨ans, hans⟩ : ∃ ans, ans = eqC xs ys := ⟨_, rfl⟩
  rw [← hans]
  have HS : Hid (ans = eqC xs ys) := hans
  clear hans
  by_cases hl : (xs.length : Int) = ys.length
  · have hl' : ys.length = xs.length := by omega
    clear hl
    have HL : Hid (ys.length = xs.length) := hl'
    rw [hl'] at HB ⊢
    clear hl'
    go_enter Try.func95, Try.ntmps95
    go_wp2
    go_loopw [5] (fun i wr => ∃ k : Nat, k ≤ xs.length ∧ i = .int .i64 k ∧ Hid (xs.take k = ys.take k) ∧ Below w.heap.size w wr) (fun i _ => xs.length - (intOf i).toNat)
    case atStart => exact ⟨0, by omega, rfl, by show _ = _; simp, Below.refl _ _⟩
    case round =>
      obtain ⟨k, hk, rfl, HT, hT⟩ := hrel
      by_cases hlt : (k : Int) < (xs.length : Int)
      · have hkx : k < xs.length := by omega
        have hky : k < ys.length := by have := HL.out; omega
        obtain ⟨g, off, f, t, o, rfl, hu1, hat1⟩ := (HA.out.later hT).at hkx
        obtain ⟨g', off', f', t', o', rfl, hu2, hat2⟩ := (HB.out.later hT).at hky
        obtain ⟨c0, c1, c2⟩ := hat1.ext
        obtain ⟨d0, d1, d2⟩ := hat2.ext
        have HE : Hid (eqSl (f, t, o) (f', t', o') = true → xs.take (k + 1) = ys.take (k + 1)) := fun h => takeC_succ hkx hky HT.out (by rw [hu1, hu2]; simpa [eqSl] using h)
        have HD : Hid (eqSl (f, t, o) (f', t', o') = false → ans = false) := fun h => by
          rw [HS.out]
          refine decide_eq_false fun he => ?_
          have : (f, t, o) = (f', t', o') := by rw [← hu1, ← hu2, he]
          rw [this] at h
          simp [eqSl] at h
        clear hu1 hu2 hat1 hat2
        cases hq : eqSl (f, t, o) (f', t', o')
        · have hans := HD.out hq
          subst hans
          go_wp2
          refine wp_region_look hmx (by kernel_rfl) ?_
          repeat (go_big_quiet_step (fail))
          refine wpQuiet_nil ?_
          intro X
          go_wp2
          go_ret
          exact ⟨rfl, then_below hT X.le⟩
        · have HN : Hid (xs.take (k + 1) = ys.take (k + 1)) := HE.out hq
          go_wp2
          refine wp_region_look hmx (by kernel_rfl) ?_
          repeat (go_big_quiet_step (fail))
          refine wpQuiet_nil ?_
          intro X
          go_wp2
          go_roundw
          case rel => exact ⟨k + 1, by omega, by go_num, HN, then_below hT X.le⟩
          case measure => simp [intOf]; omega
      · have E : ans = true := by
          rw [HS.out]
          refine decide_eq_true ?_
          have h1 := HT.out
          rwa [List.take_of_length_le (by omega), List.take_of_length_le (by have := HL.out; omega)] at h1
        subst E
        go_wp2
        go_ret
        exact ⟨rfl, hT⟩
  · have E : ans = false := by rw [HS.out]; refine decide_eq_false fun he => ?_; rw [he] at hl; exact hl rfl
    subst E
    go_enter Try.func95, Try.ntmps95
    go_wp2
    go_ret
    exact ⟨rfl, Below.refl _ _⟩

set_option maxRecDepth 100000 in
set_option maxHeartbeats 4000000 in
theorem rclear_calls {xs : List Slt} {v : Value} {x y : Int} (w : World) (hS : Ss w v xs) (hn : xs.length ≤ 100000) : Calls Try.prog 91 #[v, S2 x y] w fun e W' => e = .returned (.bool (clearC xs x y)) ∧ Below w.heap.size w W' := by
  have hmx : Try.prog.follows .mixedOrders = true := by kernel_rfl
  obtain ⟨ao, cap, rfl, hS⟩ := hS.form
  obtain ⟨W, hW, hB, hK, hS⟩ : ∃ W, w.alloc (.cells (C2 x y) 36) = W ∧ Below w.heap.size w W ∧ Blk W w.heap.size 36 (C2 x y) ∧ Ss W (.slice ao xs.length cap) xs :=
    ⟨_, rfl, (Below.refl _ w).alloc (Nat.le_refl _) _, Blk.new w _ _, hS.later ((Below.refl _ w).alloc (Nat.le_refl _) _)⟩
  have HW : Hid (w.alloc (.cells (C2 x y) 36) = W) := hW
  have HS : Hid (Ss W (.slice ao xs.length cap) xs) := hS
  clear hW hS
  have HM : Hid (∀ f t w, Calls Try.prog 115 #[S2 f t, S2 x y] w fun e W' => e = .returned (.bool (meetsT f t x y)) ∧ Below w.heap.size w W') := fun f t w => rmeetsT_calls f t x y w
  have HN : Hid (∀ k, k < xs.length → meetsT (xs.getD k (0, 0, 0)).1 (xs.getD k (0, 0, 0)).2.1 x y = true → clearC xs x y = false) := fun k hk h => by
    unfold clearC
    rw [List.all_eq_false]
    refine ⟨xs[k], List.getElem_mem hk, ?_⟩
    simp [hk] at h
    simp [h]
  have HY : Hid ((∀ j, j < xs.length → meetsT (xs.getD j (0, 0, 0)).1 (xs.getD j (0, 0, 0)).2.1 x y = false) → clearC xs x y = true) := fun h => by
    unfold clearC
    rw [List.all_eq_true]
    intro s hs
    obtain ⟨i, hi, rfl⟩ := List.mem_iff_getElem.1 hs
    have := h i hi
    simp [hi] at this
    simp [this]
  generalize clearC xs x y = ans at HN HY ⊢
  go_enter Try.func91, Try.ntmps91
  go_wp2
  rw [HW.out]
  go_loopw [5] (fun i wr => ∃ k : Nat, k ≤ xs.length ∧ i = .int .i64 k ∧ Hid (∀ j, j < k → meetsT (xs.getD j (0, 0, 0)).1 (xs.getD j (0, 0, 0)).2.1 x y = false) ∧ Below W.heap.size W wr) (fun i _ => xs.length - (intOf i).toNat)
  case atStart => exact ⟨0, by omega, rfl, fun j hj => by omega, Below.refl _ _⟩
  case round =>
    obtain ⟨k, hk, rfl, H0, hT⟩ := hrel
    by_cases hlt : (k : Int) < (xs.length : Int)
    · have hk' : k < xs.length := by omega
      obtain ⟨g, off, f, t, o, rfl, hu, ha⟩ := (HS.out.later hT).at hk'
      obtain ⟨c0, c1, c2⟩ := ha.ext
      have b0 : ∀ X : Ext wr, X.wd.cell? ⟨w.heap.size, 0, none⟩ = some (.int .i64 x) := fun X => (hK.later (then_below hT X.le)).cell 0
      have b1 : ∀ X : Ext wr, X.wd.cell? ⟨w.heap.size, 1, none⟩ = some (.int .i64 y) := fun X => (hK.later (then_below hT X.le)).cell 1
      have HM1 := HM.out f t
      have HU : Hid (xs.getD k (0, 0, 0) = (f, t, o)) := hu
      clear hu ha
      cases hm : meetsT f t x y
      · have HJ : Hid (∀ j, j < k + 1 → meetsT (xs.getD j (0, 0, 0)).1 (xs.getD j (0, 0, 0)).2.1 x y = false) := fun j hj => by
          rcases Nat.lt_succ_iff_lt_or_eq.1 hj with h | rfl
          · exact H0.out j h
          · rw [HU.out]; exact hm
        rw [hm] at HM1
        clear hm
        go_wp2
        refine wp_region_look hmx (by kernel_rfl) ?_
        repeat (go_big_quiet_step ((go_at_call 115; exact calls_ext (HM1 _))))
        refine wpQuiet_nil ?_
        intro X
        go_wp2
        go_roundw
        case rel => exact ⟨k + 1, by omega, by go_num, HJ, then_below hT X.le⟩
        case measure => simp [intOf]; omega
      · have E : ans = false := HN.out k hk' (by rw [HU.out]; exact hm)
        subst E
        rw [hm] at HM1
        clear hm
        go_wp2
        refine wp_region_look hmx (by kernel_rfl) ?_
        repeat (go_big_quiet_step ((go_at_call 115; exact calls_ext (HM1 _))))
        refine wpQuiet_nil ?_
        intro X
        go_wp2
        go_ret
        exact ⟨rfl, then_below hB (then_below hT X.le)⟩
    · have E : ans = true := HY.out fun j hj => H0.out j (by omega)
      subst E
      go_wp2
      go_ret
      exact ⟨rfl, then_below hB hT⟩

end Go.Proofs.Ytabhlmckncgdjaa

/-
  The closures that cal hands to keep: of Take, of Cut, of Put.
-/
namespace Go.Proofs.Ytabhlmckncgdjaa
open Go Go.RowKit Go.Shelf

attribute [local go_sem] Oper.semAt_some ext_const

theorem Blk.drew3 {W : World} {B : Nat} {t : TypeId} {f x o : Int} (h : Blk W B t (C3 f x o)) : W.drew.cell? ⟨B, 0, none⟩ = some (.int .i64 f) ∧ W.drew.cell? ⟨B, 1, none⟩ = some (.int .i64 x) ∧ W.drew.cell? ⟨B, 2, none⟩ = some (.int .i64 o) := ⟨h.drew.cell 0, h.drew.cell 1, h.drew.cell 2⟩

theorem takec_calls {w : World} {A : Nat} {f t o ow : Int} {r : Bool} (hr : (o != ow) = r) (ha : w.cell? ⟨A, 0, none⟩ = some (.int .i64 ow)) (hA : A < w.heap.size) : Calls Try.prog 94 #[V3 f t o, .pointer (some ⟨A, 0, none⟩)] w fun e W' => e = .returned (.tuple #[V3 f t o, .bool r]) ∧ Below w.heap.size w W' := by
  obtain ⟨W, hW, hB0, b0, b1⟩ := two_start w (C3 f t o) (C3 f t o) 52 52
  have HW : Hid ((w.alloc (.cells (C3 f t o) 52)).alloc (.cells (C3 f t o) 52) = W) := hW
  clear hW
  obtain ⟨j0, j1, j2⟩ := b1.drew3
  cases r
  all_goals
    go_enter Try.func94, Try.ntmps94
    go_wp2
    go_region
    rw [HW.out]
    go_wp2
    exact bodyPost_ret (v := .tuple #[V3 f t o, .bool _]) (by simp [results, Try.f94, go_sem, j0, j1, j2]) rfl ⟨rfl, hB0.drew⟩

theorem putc_calls {w : World} {A : Nat} {f t o x y p : Int} {r : Bool} (hr : decide (t ≤ x) = r) (ha : Blk w A 52 (C3 x y p)) : Calls Try.prog 82 #[V3 f t o, .pointer (some ⟨A, 0, none⟩)] w fun e W' => e = .returned (.tuple #[V3 f t o, .bool r]) ∧ Below w.heap.size w W' := by
  obtain ⟨W, hW, hB0, b0, b1⟩ := two_start w (C3 f t o) (C3 f t o) 52 52
  have HW : Hid ((w.alloc (.cells (C3 f t o) 52)).alloc (.cells (C3 f t o) 52) = W) := hW
  clear hW
  obtain ⟨j0, j1, j2⟩ := b1.drew3
  have hA := ha.lt
  have ha0 : w.cell? ⟨A, 0, none⟩ = some (.int .i64 x) := ha.cell 0
  clear ha
  cases r
  all_goals
    go_enter Try.func82, Try.ntmps82
    go_wp2
    go_region
    rw [HW.out]
    go_wp2
    exact bodyPost_ret (v := .tuple #[V3 f t o, .bool _]) (by simp [results, Try.f82, go_sem, j0, j1, j2]) rfl ⟨rfl, hB0.drew⟩

/-- Where a slot ends, cut for its owner. -/
def endS (ow to t o : Int) : Int := if o = ow then (if t ≤ to then t else to) else t

theorem cutc_calls {w : World} {A B : Nat} {f t o ow to : Int} {r : Bool} (hr : decide (f < endS ow to t o) = r) (ha : w.cell? ⟨A, 0, none⟩ = some (.int .i64 ow)) (hA : A < w.heap.size) (hb : w.cell? ⟨B, 0, none⟩ = some (.int .i64 to)) (hB : B < w.heap.size) : Calls Try.prog 92 #[V3 f t o, .pointer (some ⟨A, 0, none⟩), .pointer (some ⟨B, 0, none⟩)] w fun e W' => e = .returned (.tuple #[V3 f (endS ow to t o) o, .bool r]) ∧ Below w.heap.size w W' := by
  by_cases ho : o = ow
  · by_cases ht : t ≤ to
    · rw [endS, if_pos ho, if_pos ht] at *
      obtain ⟨W, hW, hB0, b0, b1⟩ := two_start w (C3 f t o) (C3 f t o) 52 52
      have HW : Hid ((w.alloc (.cells (C3 f t o) 52)).alloc (.cells (C3 f t o) 52) = W) := hW
      clear hW
      obtain ⟨j0, j1, j2⟩ := b1.drew3
      subst ho
      cases r
      all_goals
        go_enter Try.func92, Try.ntmps92
        go_wp2
        all_goals (try (exfalso; omega))
        go_region
        rw [HW.out]
        go_wp2
        exact bodyPost_ret (v := .tuple #[V3 f t o, .bool _]) (by simp [results, Try.f92, go_sem, j0, j1, j2]) rfl ⟨rfl, hB0.drew⟩
    · rw [endS, if_pos ho, if_neg ht] at *
      obtain ⟨W, hW, hB0, b0, b1⟩ := two_start w (C3 f to o) (C3 f to o) 52 52
      have HW : Hid ((w.alloc (.cells (C3 f to o) 52)).alloc (.cells (C3 f to o) 52) = W) := hW
      clear hW
      obtain ⟨j0, j1, j2⟩ := b1.drew3
      subst ho
      cases r
      all_goals
        go_enter Try.func92, Try.ntmps92
        go_wp2
        all_goals (try (exfalso; omega))
        go_region
        rw [HW.out]
        go_wp2
        exact bodyPost_ret (v := .tuple #[V3 f to o, .bool _]) (by simp [results, Try.f92, go_sem, j0, j1, j2]) rfl ⟨rfl, hB0.drew⟩
  · rw [endS, if_neg ho] at *
    obtain ⟨W, hW, hB0, b0, b1⟩ := two_start w (C3 f t o) (C3 f t o) 52 52
    have HW : Hid ((w.alloc (.cells (C3 f t o) 52)).alloc (.cells (C3 f t o) 52) = W) := hW
    clear hW
    obtain ⟨j0, j1, j2⟩ := b1.drew3
    have ho : (o == ow) = false := by simpa using ho
    cases r
    all_goals
      go_enter Try.func92, Try.ntmps92
      go_wp2
      go_region
      rw [HW.out]
      go_wp2
      exact bodyPost_ret (v := .tuple #[V3 f t o, .bool _]) (by simp [results, Try.f92, go_sem, j0, j1, j2]) rfl ⟨rfl, hB0.drew⟩

end Go.Proofs.Ytabhlmckncgdjaa
