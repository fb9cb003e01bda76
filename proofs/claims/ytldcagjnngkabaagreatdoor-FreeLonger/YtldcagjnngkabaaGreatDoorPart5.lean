/-
  The document's MaySlot, May, Check, Same, Clear (tidehallref08): what each call answers.
-/
import Derived.Test.YtldcagjnngkabaaGreatDoorPart4
namespace Go.Proofs.YtldcagjnngkabaaGreatDoor
open Go Go.RowKit Go.Shelf

def eqSl (a b : Slt) : Bool := decide (a = b)
theorem eqSl_parts (f t o f' t' o' : Int) : eqSl (f, t, o) (f', t', o') = ((f == f') && (t == t') && (o == o')) := by
  unfold eqSl
  rw [Bool.eq_iff_iff]
  simp [and_assoc]

set_option maxRecDepth 100000 in
theorem eq_slot (f t o f' t' o' : Int) (w : World) : (Op.equalIn 10000 85 (V3 f t o) (V3 f' t' o')).run Tryz.prog w = .ok (eqSl (f, t, o) (f', t', o')) w := by
  have e0 := fun w => run_equalIn_int (P := Tryz.prog) w 9998 3 .i64 .i64 o o' Tryz.underlying3
  have e1 := fun w => run_equalIn_int (P := Tryz.prog) w 9997 3 .i64 .i64 f f' Tryz.underlying3
  have e2 := fun w => run_equalIn_int (P := Tryz.prog) w 9997 3 .i64 .i64 t t' Tryz.underlying3
  have e3 : ∀ w, (Op.equalIn 9999 36 (S2 f t) (S2 f' t')).run Tryz.prog w = .ok ((f == f') && (t == t')) w := by
    intro w
    rw [run_equalIn_struct (P := Tryz.prog) w 9998 36 _ _ (by kernel_rfl) (by kernel_rfl)]
    generalize (f == f') = b0 at *
    generalize (t == t') = b1 at *
    cases b0 <;> cases b1 <;> go_simp
  rw [eqSl_parts, run_equalIn_struct (P := Tryz.prog) w 9999 85 _ _ (by kernel_rfl) (by kernel_rfl)]
  generalize ((f == f') && (t == t')) = b0 at *
  generalize (o == o') = b1 at *
  cases b0 <;> cases b1 <;> go_simp

attribute [local go_sem] Oper.semAt_some ext_const
attribute [local go_sem high] eq_slot

theorem rmaySl_calls (f t o : Int) (w : World) : Calls Tryz.prog 152 #[V3 f t o] w fun e W' => e = .returned (.bool (maySlB (f, t, o))) ∧ Below w.heap.size w W' := by
  have H : Hid (∀ w, Calls Tryz.prog 72 #[S2 f t] w fun e W' => e = .returned (.bool (maySpB f t)) ∧ Below w.heap.size w W') := rmayS_calls f t
  have HW : Hid (∃ W, w.alloc (.cells (C3 f t o) 85) = W ∧ Below w.heap.size w W ∧ Blk W w.heap.size 85 (C3 f t o)) := ⟨_, rfl, (Below.refl _ w).alloc (Nat.le_refl _) _, Blk.new w _ _⟩
  obtain ⟨W, hW, hB, hK⟩ := HW.out
  clear HW
  have HW : Hid (w.alloc (.cells (C3 f t o) 85) = W) := hW
  clear hW
  cases hs : maySpB f t
  · have E : maySlB (f, t, o) = false := by simp [maySlB, hs]
    rw [hs] at H
    rw [E]
    clear hs E
    go_enter Tryz.func152, Tryz.ntmps152
    go_wp2_with fail
    rw [HW.out]
    refine (H.out _).mono ?_
    rintro e w1 ⟨rfl, hB1⟩
    go_wp2
    go_ret
    exact ⟨rfl, then_below hB hB1⟩
  · rw [hs] at H
    by_cases h1 : 0 < o
    · by_cases h2 : o ≤ 1099511627776
      · have E : maySlB (f, t, o) = true := by simp [maySlB, hs, h2]; omega
        rw [E]
        clear hs E
        go_enter Tryz.func152, Tryz.ntmps152
        go_wp2_with fail
        rw [HW.out]
        refine (H.out _).mono ?_
        rintro e w1 ⟨rfl, hB1⟩
        have hc := (hK.later hB1).cell 2
        have hz := (hK.later hB1).lt
        go_wp2
        go_ret
        exact ⟨rfl, then_below hB hB1⟩
      · have E : maySlB (f, t, o) = false := by simp [maySlB, h2]
        have h2 : decide (o ≤ 1099511627776) = false := decide_eq_false h2
        rw [E]
        clear hs E
        go_enter Tryz.func152, Tryz.ntmps152
        go_wp2_with fail
        rw [HW.out]
        refine (H.out _).mono ?_
        rintro e w1 ⟨rfl, hB1⟩
        have hc := (hK.later hB1).cell 2
        have hz := (hK.later hB1).lt
        go_wp2
        go_ret
        exact ⟨rfl, then_below hB hB1⟩
    · have E : maySlB (f, t, o) = false := by simp [maySlB, show ¬ (1 ≤ o) by omega]
      have h1 : decide (0 < o) = false := decide_eq_false h1
      rw [E]
      clear hs E
      go_enter Tryz.func152, Tryz.ntmps152
      go_wp2_with fail
      rw [HW.out]
      refine (H.out _).mono ?_
      rintro e w1 ⟨rfl, hB1⟩
      have hc := (hK.later hB1).cell 2
      have hz := (hK.later hB1).lt
      go_wp2
      go_ret
      exact ⟨rfl, then_below hB hB1⟩

theorem last_prev {c : List Slt} {j : Nat} {f t o : Int} (hj : j < c.length) (hu : c.getD j (0, 0, 0) = (f, t, o)) : lastC 0 (c.take (j + 1)) = t := by
  rw [take_snoc hj hu, lastC_snoc]

set_option maxRecDepth 100000 in
set_option maxHeartbeats 8000000 in
theorem rmayC_calls {xs : List Slt} {v : Value} (w : World) (hS : Ss w v xs) (hn : xs.length ≤ 100000) : Calls Tryz.prog 118 #[v] w fun e W' => e = .returned (.bool (mayCB xs)) ∧ Below w.heap.size w W' := by
  have hmx : Tryz.prog.follows .mixedOrders = true := by kernel_rfl
  obtain ⟨ao, cap, rfl, hS⟩ := hS.form
  have HS : Hid (Ss w (.slice ao xs.length cap) xs) := hS
  clear hS
  have HM : Hid (∀ f t o w, Calls Tryz.prog 152 #[V3 f t o] w fun e W' => e = .returned (.bool (maySlB (f, t, o))) ∧ Below w.heap.size w W') := rmaySl_calls
  have HB : Hid (∀ k, good1 0 (xs.take k) = false → mayCB xs = false) := fun k => good_take
  have HG : Hid (good1 0 xs = true → mayCB xs = decide (xs.length ≤ 4096)) := fun h => by unfold mayCB; rw [h]; simp
  generalize mayCB xs = ans at HB HG ⊢
  go_enter Tryz.func118, Tryz.ntmps118
  go_wp2
  go_loopw [3] (fun i wr => ∃ k : Nat, k ≤ xs.length ∧ i = .int .i64 k ∧ Hid (good1 0 (xs.take k) = true) ∧ Below w.heap.size w wr) (fun i _ => xs.length - (RowKit.intOf i).toNat)
  case atStart => exact ⟨0, by omega, rfl, by show _ = _; simp [good1], Below.refl _ _⟩
  case round =>
    obtain ⟨k, hk, rfl, HK, hT⟩ := hrel
    by_cases hlt : (k : Int) < (xs.length : Int)
    · have hk' : k < xs.length := by omega
      obtain ⟨g, off, f, t, o, rfl, hu, ha⟩ := (HS.out.later hT).at hk'
      have hg := ha.1
      obtain ⟨c0, c1, c2⟩ := ha.ext
      have HN : Hid (good1 0 (xs.take (k + 1)) = (maySlB (f, t, o) && decide (lastC 0 (xs.take k) ≤ f))) := (good_next hk' hu rfl HK.out).1
      have HM1 := HM.out f t o
      clear hu ha
      cases hm : maySlB (f, t, o)
      · have E : ans = false := HB.out (k + 1) (by rw [HN.out, hm]; rfl)
        rw [hm] at HM1
        subst E
        clear hm HN
        go_wp2
        refine wp_region_look hmx (by kernel_rfl) ?_
        repeat (go_big_quiet_step ((go_at_call 152; exact calls_ext (HM1 _))))
        refine wpQuiet_nil ?_
        intro X
        go_wp2
        go_ret
        exact ⟨rfl, then_below hT X.le⟩
      · rw [hm] at HM1 HN
        by_cases hk0 : k = 0
        · have HN2 : Hid (good1 0 (xs.take (k + 1)) = true) := by
            show _ = _
            rw [HN.out]
            have := maySlB_iff.1 hm
            have := this.1.1
            subst hk0
            simpa [lastC] using this
          have hp0 : decide ((0 : Int) < (k : Int)) = false := decide_eq_false (by omega)
          have hp1 : decide (0 < k) = false := decide_eq_false (by omega)
          clear hm HN hk0
          go_wp2
          refine wp_region_look hmx (by kernel_rfl) ?_
          repeat (go_big_quiet_step ((go_at_call 152; exact calls_ext (HM1 _))))
          refine wpQuiet_nil ?_
          intro X
          go_wp2
          go_roundw
          case rel => exact ⟨k + 1, by omega, by go_num, HN2.out, then_below hT X.le⟩
          case measure => simp [RowKit.intOf]; omega
        · obtain ⟨j, hkk⟩ : ∃ j, k = j + 1 := ⟨k - 1, by omega⟩
          obtain ⟨g', off', f', t', o', e', hu', ha'⟩ := (HS.out.later hT).at (show j < xs.length by omega)
          simp only [Option.some.injEq, Addr.mk.injEq, and_true] at e'
          obtain ⟨rfl, rfl⟩ := e'
          obtain ⟨d0, d1, d2⟩ := ha'.ext
          have hp := last_prev (show j < xs.length by omega) hu'
          rw [← hkk] at hp
          rw [hp] at HN
          have hj1 : ((k : Nat) : Int) - 1 = (j : Int) := by omega
          have hp0 : decide ((0 : Int) < (k : Int)) = true := decide_eq_true (by omega)
          have hp1 : decide (0 < k) = true := decide_eq_true (by omega)
          have hjl : (j : Int) < (xs.length : Int) := by omega
          clear hm hu' ha' hp hkk hk0
          by_cases hft : f < t'
          · have E : ans = false := HB.out (k + 1) (by rw [HN.out]; simp; omega)
            subst E
            clear HN
            go_wp2
            refine wp_region_look hmx (by kernel_rfl) ?_
            repeat (go_big_quiet_step ((go_at_call 152; exact calls_ext (HM1 _))))
            refine wpQuiet_nil ?_
            intro X
            go_wp2
            go_ret
            exact ⟨rfl, then_below hT X.le⟩
          · have HN2 : Hid (good1 0 (xs.take (k + 1)) = true) := by show _ = _; rw [HN.out]; simp; omega
            have hft : decide (f < t') = false := decide_eq_false hft
            clear HN
            go_wp2
            refine wp_region_look hmx (by kernel_rfl) ?_
            repeat (go_big_quiet_step ((go_at_call 152; exact calls_ext (HM1 _))))
            refine wpQuiet_nil ?_
            intro X
            go_wp2
            go_roundw
            case rel => exact ⟨k + 1, by omega, by go_num, HN2.out, then_below hT X.le⟩
            case measure => simp [RowKit.intOf]; omega
    · have E := HG.out (by have := HK.out; rwa [List.take_of_length_le (by omega)] at this)
      by_cases hl : (xs.length : Int) ≤ 4096
      · have E2 : ans = true := by rw [E]; exact decide_eq_true (by omega)
        clear E
        subst E2
        go_wp2
        go_ret
        exact ⟨rfl, hT⟩
      · have E2 : ans = false := by rw [E]; exact decide_eq_false (by omega)
        have hl : decide ((xs.length : Int) ≤ 4096) = false := decide_eq_false hl
        clear E
        subst E2
        go_wp2
        go_ret
        exact ⟨rfl, hT⟩

def eqC (xs ys : List Slt) : Bool := decide (xs = ys)
theorem takeC_succ {xs ys : List Slt} {k : Nat} (hx : k < xs.length) (hy : k < ys.length) (h : xs.take k = ys.take k) (he : xs.getD k (0, 0, 0) = ys.getD k (0, 0, 0)) : xs.take (k + 1) = ys.take (k + 1) := by
  rw [take_snoc hx rfl, take_snoc hy rfl, h, he]

set_option maxRecDepth 100000 in
set_option maxHeartbeats 4000000 in
theorem rsameC_calls {xs ys : List Slt} {u v : Value} (w : World) (hu : Ss w u xs) (hv : Ss w v ys) (hx : xs.length ≤ 100000) :
    Calls Tryz.prog 84 #[u, v] w fun e W' => e = .returned (.bool (eqC xs ys)) ∧ Below w.heap.size w W' := by
  have hmx : Tryz.prog.follows .mixedOrders = true := by kernel_rfl
  obtain ⟨ao, cap, rfl, hu⟩ := hu.form
  obtain ⟨ao', cap', rfl, hv⟩ := hv.form
  have HA : Hid (Ss w (.slice ao xs.length cap) xs) := hu
  have HB : Hid (Ss w (.slice ao' ys.length cap') ys) := hv
  clear hu hv
  obtain ⟨ans, hans⟩ : ∃ ans, ans = eqC xs ys := ⟨_, rfl⟩
  rw [← hans]
  have HS : Hid (ans = eqC xs ys) := hans
  clear hans
  by_cases hl : (xs.length : Int) = ys.length
  · have hl' : ys.length = xs.length := by omega
    clear hl
    have HL : Hid (ys.length = xs.length) := hl'
    rw [hl'] at HB ⊢
    clear hl'
    go_enter Tryz.func84, Tryz.ntmps84
    go_wp2
    go_loopw [5] (fun i wr => ∃ k : Nat, k ≤ xs.length ∧ i = .int .i64 k ∧ Hid (xs.take k = ys.take k) ∧ Below w.heap.size w wr) (fun i _ => xs.length - (RowKit.intOf i).toNat)
    case atStart => exact ⟨0, by omega, rfl, by show _ = _; simp, Below.refl _ _⟩
    case round =>
      obtain ⟨k, hk, rfl, HT, hT⟩ := hrel
      by_cases hlt : (k : Int) < (xs.length : Int)
      · have hkx : k < xs.length := by omega
        have hky : k < ys.length := by have := HL.out; omega
        obtain ⟨g, off, f, t, o, rfl, hu1, hat1⟩ := (HA.out.later hT).at hkx
        obtain ⟨g', off', f', t', o', rfl, hu2, hat2⟩ := (HB.out.later hT).at hky
        obtain ⟨c0, c1, c2⟩ := hat1.ext
        obtain ⟨d0, d1, d2⟩ := hat2.ext
        have HE : Hid (eqSl (f, t, o) (f', t', o') = true → xs.take (k + 1) = ys.take (k + 1)) := fun h => takeC_succ hkx hky HT.out (by rw [hu1, hu2]; simpa [eqSl] using h)
        have HD : Hid (eqSl (f, t, o) (f', t', o') = false → ans = false) := fun h => by
          rw [HS.out]
          refine decide_eq_false fun he => ?_
          have : (f, t, o) = (f', t', o') := by rw [← hu1, ← hu2, he]
          rw [this] at h
          simp [eqSl] at h
        clear hu1 hu2 hat1 hat2
        cases hq : eqSl (f, t, o) (f', t', o')
        · have hans := HD.out hq
          subst hans
          go_wp2
          refine wp_region_look hmx (by kernel_rfl) ?_
          repeat (go_big_quiet_step (fail))
          refine wpQuiet_nil ?_
          intro X
          go_wp2
          go_ret
          exact ⟨rfl, then_below hT X.le⟩
        · have HN : Hid (xs.take (k + 1) = ys.take (k + 1)) := HE.out hq
          go_wp2
          refine wp_region_look hmx (by kernel_rfl) ?_
          repeat (go_big_quiet_step (fail))
          refine wpQuiet_nil ?_
          intro X
          go_wp2
          go_roundw
          case rel => exact ⟨k + 1, by omega, by go_num, HN, then_below hT X.le⟩
          case measure => simp [RowKit.intOf]; omega
      · have E : ans = true := by
          rw [HS.out]
          refine decide_eq_true ?_
          have h1 := HT.out
          rwa [List.take_of_length_le (by omega), List.take_of_length_le (by have := HL.out; omega)] at h1
        subst E
        go_wp2
        go_ret
        exact ⟨rfl, hT⟩
  · have E : ans = false := by rw [HS.out]; refine decide_eq_false fun he => ?_; rw [he] at hl; exact hl rfl
    subst E
    go_enter Tryz.func84, Tryz.ntmps84
    go_wp2
    go_ret
    exact ⟨rfl, Below.refl _ _⟩

set_option maxRecDepth 100000 in
set_option maxHeartbeats 4000000 in
theorem rclear_calls {xs : List Slt} {v : Value} {x y : Int} (w : World) (hS : Ss w v xs) (hn : xs.length ≤ 100000) : Calls Tryz.prog 148 #[v, S2 x y] w fun e W' => e = .returned (.bool (clearC xs x y)) ∧ Below w.heap.size w W' := by
  have hmx : Tryz.prog.follows .mixedOrders = true := by kernel_rfl
  obtain ⟨ao, cap, rfl, hS⟩ := hS.form
  obtain ⟨W, hW, hB, hK, hS⟩ : ∃ W, w.alloc (.cells (C2 x y) 36) = W ∧ Below w.heap.size w W ∧ Blk W w.heap.size 36 (C2 x y) ∧ Ss W (.slice ao xs.length cap) xs :=
    ⟨_, rfl, (Below.refl _ w).alloc (Nat.le_refl _) _, Blk.new w _ _, hS.later ((Below.refl _ w).alloc (Nat.le_refl _) _)⟩
  have HW : Hid (w.alloc (.cells (C2 x y) 36) = W) := hW
  have HS : Hid (Ss W (.slice ao xs.length cap) xs) := hS
  clear hW hS
  have HM : Hid (∀ f t w, Calls Tryz.prog 173 #[S2 f t, S2 x y] w fun e W' => e = .returned (.bool (meetsT f t x y)) ∧ Below w.heap.size w W') := fun f t w => rmeetsT_calls f t x y w
  have HN : Hid (∀ k, k < xs.length → meetsT (xs.getD k (0, 0, 0)).1 (xs.getD k (0, 0, 0)).2.1 x y = true → clearC xs x y = false) := fun k hk h => by
    unfold clearC
    rw [List.all_eq_false]
    refine ⟨xs[k], List.getElem_mem hk, ?_⟩
    simp [hk] at h
    simp [h]
  have HY : Hid ((∀ j, j < xs.length → meetsT (xs.getD j (0, 0, 0)).1 (xs.getD j (0, 0, 0)).2.1 x y = false) → clearC xs x y = true) := fun h => by
    unfold clearC
    rw [List.all_eq_true]
    intro s hs
    obtain ⟨i, hi, rfl⟩ := List.mem_iff_getElem.1 hs
    have := h i hi
    simp [hi] at this
    simp [this]
  generalize clearC xs x y = ans at HN HY ⊢
  go_enter Tryz.func148, Tryz.ntmps148
  go_wp2
  rw [HW.out]
  go_loopw [5] (fun i wr => ∃ k : Nat, k ≤ xs.length ∧ i = .int .i64 k ∧ Hid (∀ j, j < k → meetsT (xs.getD j (0, 0, 0)).1 (xs.getD j (0, 0, 0)).2.1 x y = false) ∧ Below W.heap.size W wr) (fun i _ => xs.length - (RowKit.intOf i).toNat)
  case atStart => exact ⟨0, by omega, rfl, fun j hj => by omega, Below.refl _ _⟩
  case round =>
    obtain ⟨k, hk, rfl, H0, hT⟩ := hrel
    by_cases hlt : (k : Int) < (xs.length : Int)
    · have hk' : k < xs.length := by omega
      obtain ⟨g, off, f, t, o, rfl, hu, ha⟩ := (HS.out.later hT).at hk'
      obtain ⟨c0, c1, c2⟩ := ha.ext
      have b0 : ∀ X : Ext wr, X.wd.cell? ⟨w.heap.size, 0, none⟩ = some (.int .i64 x) := fun X => (hK.later (then_below hT X.le)).cell 0
      have b1 : ∀ X : Ext wr, X.wd.cell? ⟨w.heap.size, 1, none⟩ = some (.int .i64 y) := fun X => (hK.later (then_below hT X.le)).cell 1
      have HM1 := HM.out f t
      have HU : Hid (xs.getD k (0, 0, 0) = (f, t, o)) := hu
      clear hu ha
      cases hm : meetsT f t x y
      · have HJ : Hid (∀ j, j < k + 1 → meetsT (xs.getD j (0, 0, 0)).1 (xs.getD j (0, 0, 0)).2.1 x y = false) := fun j hj => by
          rcases Nat.lt_succ_iff_lt_or_eq.1 hj with h | rfl
          · exact H0.out j h
          · rw [HU.out]; exact hm
        rw [hm] at HM1
        clear hm
        go_wp2
        refine wp_region_look hmx (by kernel_rfl) ?_
        repeat (go_big_quiet_step ((go_at_call 173; exact calls_ext (HM1 _))))
        refine wpQuiet_nil ?_
        intro X
        go_wp2
        go_roundw
        case rel => exact ⟨k + 1, by omega, by go_num, HJ, then_below hT X.le⟩
        case measure => simp [RowKit.intOf]; omega
      · have E : ans = false := HN.out k hk' (by rw [HU.out]; exact hm)
        subst E
        rw [hm] at HM1
        clear hm
        go_wp2
        refine wp_region_look hmx (by kernel_rfl) ?_
        repeat (go_big_quiet_step ((go_at_call 173; exact calls_ext (HM1 _))))
        refine wpQuiet_nil ?_
        intro X
        go_wp2
        go_ret
        exact ⟨rfl, then_below hB (then_below hT X.le)⟩
    · have E : ans = true := HY.out fun j hj => H0.out j (by omega)
      subst E
      go_wp2
      go_ret
      exact ⟨rfl, then_below hB hT⟩

end Go.Proofs.YtldcagjnngkabaaGreatDoor

/-
  The closures that cal hands to keep: of Take, of Cut, of Put.
-/
namespace Go.Proofs.YtldcagjnngkabaaGreatDoor
open Go Go.RowKit Go.Shelf

attribute [local go_sem] Oper.semAt_some ext_const

theorem Blk.drew3 {W : World} {B : Nat} {t : TypeId} {f x o : Int} (h : Blk W B t (C3 f x o)) : W.drew.cell? ⟨B, 0, none⟩ = some (.int .i64 f) ∧ W.drew.cell? ⟨B, 1, none⟩ = some (.int .i64 x) ∧ W.drew.cell? ⟨B, 2, none⟩ = some (.int .i64 o) := ⟨h.drew.cell 0, h.drew.cell 1, h.drew.cell 2⟩

theorem putc_calls {w : World} {A : Nat} {f t o x y p : Int} {r : Bool} (hr : decide (t ≤ x) = r) (ha : Blk w A 85 (C3 x y p)) : Calls Tryz.prog 94 #[V3 f t o, .pointer (some ⟨A, 0, none⟩)] w fun e W' => e = .returned (.tuple #[V3 f t o, .bool r]) ∧ Below w.heap.size w W' := by
  obtain ⟨W, hW, hB0, b0, b1⟩ := two_start w (C3 f t o) (C3 f t o) 85 85
  have HW : Hid ((w.alloc (.cells (C3 f t o) 85)).alloc (.cells (C3 f t o) 85) = W) := hW
  clear hW
  obtain ⟨j0, j1, j2⟩ := b1.drew3
  have hA := ha.lt
  have ha0 : w.cell? ⟨A, 0, none⟩ = some (.int .i64 x) := ha.cell 0
  clear ha
  cases r
  all_goals
    go_enter Tryz.func94, Tryz.ntmps94
    go_wp2
    go_region
    rw [HW.out]
    go_wp2
    exact bodyPost_ret (v := .tuple #[V3 f t o, .bool _]) (by simp [results, Tryz.f94, go_sem, j0, j1, j2]) rfl ⟨rfl, hB0.drew⟩

/-- Where a slot ends, cut for its owner. -/
def endS (ow to t o : Int) : Int := if o = ow then (if t ≤ to then t else to) else t

end Go.Proofs.YtldcagjnngkabaaGreatDoor

/-
  cal.keep over slots, handed the closure of Take, of Cut, of Put: the list of what stays. (Written by tools/gen/cal_keep.py.)
-/
namespace Go.Proofs.YtldcagjnngkabaaGreatDoor
open Go Go.RowKit Go.Shelf

attribute [local go_sem] Oper.semAt_some ext_const

theorem fm_snoc {st : Slt → Option Slt} {c : List Slt} {k : Nat} {s : Slt} (hk : k < c.length) (hs : c.getD k (0, 0, 0) = s) : (c.take (k + 1)).filterMap st = (c.take k).filterMap st ++ (st s).toList := by
  rw [take_snoc hk hs, List.filterMap_append]
  cases h : st s <;> simp [h]
theorem fm_len {st : Slt → Option Slt} {c : List Slt} {k : Nat} : ((c.take k).filterMap st).length ≤ c.length :=
  Nat.le_trans (List.length_filterMap_le _ _) (by rw [List.length_take]; omega)

set_option maxRecDepth 100000 in
set_option maxHeartbeats 8000000 in
theorem keep_put {xs : List Slt} {v : Value} {st : Slt → Option Slt} (w : World) (A : Nat) (hS : Ss w v xs) (hn : xs.length ≤ 100000)
    (hc : ∀ (wr : World) (f t o : Int), Below w.heap.size w wr → Calls Tryz.prog 94 #[V3 f t o, .pointer (some ⟨A, 0, none⟩)] wr fun e W' => ∃ f' t' o' b, e = .returned (.tuple #[V3 f' t' o', .bool b]) ∧ Hid (b = true → st (f, t, o) = some (f', t', o')) ∧ Hid (b = false → st (f, t, o) = none) ∧ Below wr.heap.size wr W') :
    Calls Tryz.prog 93 #[v, .func (.func 94) #[] #[.pointer (some ⟨A, 0, none⟩)]] w fun e W' => ∃ u, e = .returned u ∧ So W' w.heap.size u (xs.filterMap st) ∧ Below w.heap.size w W' := by
  obtain ⟨ao, cap, rfl, hS⟩ := hS.form
  have HS : Hid (Ss w (.slice ao xs.length cap) xs) := hS
  have HC : Hid (∀ (wr : World) (f t o : Int), Below w.heap.size w wr → Calls Tryz.prog 94 #[V3 f t o, .pointer (some ⟨A, 0, none⟩)] wr fun e W' => ∃ f' t' o' b, e = .returned (.tuple #[V3 f' t' o', .bool b]) ∧ Hid (b = true → st (f, t, o) = some (f', t', o')) ∧ Hid (b = false → st (f, t, o) = none) ∧ Below wr.heap.size wr W') := hc
  clear hS hc
  have HE : Hid ((xs.take xs.length).filterMap st = xs.filterMap st) := by show _ = _; rw [List.take_length]
  generalize xs.filterMap st = tgt at HE ⊢
  go_enter Tryz.func93, Tryz.ntmps93
  go_wp2_with (at_make; refine wpList_mkS (base := w.heap.size) rfl _ _ rfl xs.length rfl rfl (by omega) (by omega) (Nat.le_refl _) ?_; intro ao1 cap1 w1 hL1 hT1)
  go_loopw [5, 15] (fun u i wr => ∃ (k : Nat) (ao' : Option Addr) (n' cap' : Nat) (ys : List Slt), k ≤ xs.length ∧ i = .int .i64 k ∧ u = .slice ao' n' cap' ∧ Hid (So wr w.heap.size (.slice ao' n' cap') ys) ∧ Hid (ys = (xs.take k).filterMap st) ∧ Below w.heap.size w wr) (fun _ i _ => xs.length - (RowKit.intOf i).toNat)
  case atStart => exact ⟨0, _, _, _, [], by omega, rfl, rfl, hL1, by show _ = _; simp, hT1⟩
  case round =>
    obtain ⟨k, ao', n', cap', ys, hk, rfl, rfl, HY, HF, hT⟩ := hrel
    by_cases hlt : (k : Int) < (xs.length : Int)
    · have hk' : k < xs.length := by omega
      obtain ⟨g, off, f, t, o, rfl, hu, ha⟩ := (HS.out.later hT).at hk'
      obtain ⟨hg, c0, c1, c2⟩ := ha.cells
      have HU : Hid ((xs.take (k + 1)).filterMap st = ys ++ (st (f, t, o)).toList) := by show _ = _; rw [fm_snoc hk' hu, HF.out]
      have hBN := (Below.refl _ wr).alloc (Nat.le_refl _) (.cells (C3 f t o) 85)
      have hyl : ys.length ≤ 100000 := by rw [HF.out]; exact Nat.le_trans fm_len hn
      clear hu ha
      have HC1 : Hid (Calls Tryz.prog 94 #[V3 f t o, .pointer (some ⟨A, 0, none⟩)] (wr.alloc (.cells (C3 f t o) 85)) fun e W' => ∃ f' t' o' b, e = .returned (.tuple #[V3 f' t' o', .bool b]) ∧ Hid (b = true → st (f, t, o) = some (f', t', o')) ∧ Hid (b = false → st (f, t, o) = none) ∧ Below (wr.alloc (.cells (C3 f t o) 85)).heap.size (wr.alloc (.cells (C3 f t o) 85)) W') := HC.out _ f t o (then_below hT hBN)
      go_wp2_with fail
      refine HC1.out.mono ?_
      rintro e w2 ⟨f', t', o', b, rfl, H1, H0, hB2⟩
      have hT2 := then_below hBN hB2
      have hBN2 := (Below.refl _ w2).alloc (Nat.le_refl _) (.cells (C3 f' t' o') 85)
      have hT3 := then_below hT2 hBN2
      have hz3 : w.heap.size ≤ (w2.alloc (.cells (C3 f' t' o') 85)).heap.size := Nat.le_trans hT.size hT3.size
      have HY3 : Hid (So (w2.alloc (.cells (C3 f' t' o') 85)) w.heap.size (.slice ao' n' cap') ys) := HY.out.later hT3
      have HT3 : Hid (Below w.heap.size w (w2.alloc (.cells (C3 f' t' o') 85))) := then_below hT hT3
      clear hB2 hT2 hBN2 hT3 hBN HC1 c0 c1 c2
      cases b
      · have hn1 := H0.out rfl
        have HK : Hid (ys = (xs.take (k + 1)).filterMap st) := by show _ = _; rw [HU.out, hn1]; simp
        clear H1 H0 hn1 HU
        go_wp2
        go_roundw
        case rel => exact ⟨k + 1, _, _, _, ys, by omega, by go_num, rfl, HY3.out, HK, HT3.out⟩
        case measure => simp [RowKit.intOf]; omega
      · have hn1 := H1.out rfl
        have HK : Hid (ys ++ [(f', t', o')] = (xs.take (k + 1)).filterMap st) := by show _ = _; rw [HU.out, hn1]; simp
        clear H1 H0 hn1 HU
        go_wp2_with (first
          | (at_builtin; refine wpList_appS (base := w.heap.size) (xs := ys) rfl _ _ rfl rfl rfl (by simp) HY3.out hyl hz3 ?_; intro ao4 n4 cap4 w4 hW4 hB4)
          | go_in)
        go_roundw
        case rel => exact ⟨k + 1, _, _, _, _, by omega, by go_num, rfl, hW4, HK, HT3.out.trans hB4⟩
        case measure => simp [RowKit.intOf]; omega
    · obtain rfl : k = xs.length := by omega
      have hE : ys = tgt := HF.out.trans HE.out
      subst hE
      have HY2 : Hid (So wr w.heap.size (.slice ao' n' cap') ys) := HY
      go_wp2
      go_ret
      exact ⟨_, rfl, HY2.out, hT⟩

end Go.Proofs.YtldcagjnngkabaaGreatDoor

/-
  What the calls of cal come to, without a program: what keep keeps, what Concat puts together.
-/
namespace Go.Proofs.YtldcagjnngkabaaGreatDoor
open Go Go.RowKit Go.Shelf

def takeK (ow : Int) (s : Slt) : Option Slt := if (s.2.2 != ow) = true then some s else none
def cutK (ow to : Int) (s : Slt) : Option Slt := if s.1 < endS ow to s.2.1 s.2.2 then some (s.1, endS ow to s.2.1 s.2.2, s.2.2) else none
def putK (x : Int) (s : Slt) : Option Slt := if s.2.1 ≤ x then some s else none
theorem takeK_less (c : List Slt) (ow : Int) : c.filterMap (takeK ow) = lessC c ow := by
  unfold lessC
  rw [← List.filterMap_eq_filter]
  refine fm_congr fun s _ => ?_
  unfold takeK
  simp [Option.guard]
theorem cutK_ended {c : List Slt} (hf : fineC c) (ow to : Int) : c.filterMap (cutK ow to) = endedC c ow to := by
  refine fm_congr fun s hs => ?_
  obtain ⟨f, t, o⟩ := s
  have := hf _ hs
  simp only at this
  unfold cutK cutS endS
  simp only
  by_cases ho : o = ow
  · rw [if_pos ho]
    by_cases ht : t ≤ to
    · rw [if_pos ht, if_pos this, if_neg (by omega), if_neg (by omega)]
    · rw [if_neg ht]
      by_cases hx : f < to
      · rw [if_pos hx, if_neg (by omega), if_pos (by omega)]
      · rw [if_neg hx, if_pos (by omega)]
  · rw [if_neg ho, if_pos this, if_neg (fun h => ho h.1), if_neg (fun h => ho h.1)]
theorem putK_none {c : List Slt} {x : Int} (h : ∀ s ∈ c, x < s.2.1) : c.filterMap (putK x) = [] := by
  rw [List.filterMap_eq_nil_iff]
  intro s hs
  unfold putK
  rw [if_neg (by have := h s hs; omega)]
theorem putK_with {s : Slt} (hs : s.1 < s.2.1) : ∀ {c : List Slt}, riseC c → fineC c → (∀ y ∈ c, s.2.1 ≤ y.1 ∨ y.2.1 ≤ s.1) → c.filterMap (putK s.1) ++ [s] ++ c.drop (c.filterMap (putK s.1)).length = withC s c
  | [], _, _, _ => by simp [withC]
  | y :: r, hr, hf, hc => by
    obtain ⟨h1, h2⟩ := List.pairwise_cons.1 hr
    have hy := hc y (by simp)
    have hfy := hf y (by simp)
    unfold withC
    by_cases h : y.2.1 ≤ s.1
    · have e : (y :: r).filterMap (putK s.1) = y :: r.filterMap (putK s.1) := by
        rw [List.filterMap_cons, putK, if_pos h]
      rw [e, if_neg (by omega)]
      have ih := putK_with hs h2 (fun z hz => hf z (by simp [hz])) (fun z hz => hc z (by simp [hz]))
      rw [← ih]
      simp
    · have e : (y :: r).filterMap (putK s.1) = [] := putK_none fun z hz => by
        rcases List.mem_cons.1 hz with rfl | hz
        · omega
        · have := h1 z hz
          have := hf z (by simp [hz])
          omega
      rw [e, if_pos (by omega)]
      simp

end Go.Proofs.YtldcagjnngkabaaGreatDoor

/-
  time.Meet, time.Within, time.Both: what each call answers.
-/
namespace Go.Proofs.YtldcagjnngkabaaGreatDoor
open Go.RowKit Go.Shelf

attribute [local go_sem] Oper.semAt_some ext_const

theorem tmeet_no {f t f' t' : Int} (w : World) (h : ¬ (maySp f t ∧ maySp f' t')) : Calls Tryz.prog 123 #[S2 f t, S2 f' t'] w fun e W' => e = .returned (.tuple #[.bool false, I 2]) ∧ Below w.heap.size w W' := by
  have H : Hid (∀ g w, Calls Tryz.prog 155 #[S2 f t, S2 f' t', g] w fun e W' => e = .returned (.tuple #[.bool false, I 2]) ∧ Below w.heap.size w W') := fun g w => ask_no g w h
  clear h
  go_enter Tryz.func123, Tryz.ntmps123
  go_wp2_with fail
  obtain ⟨W, hW, hB0, b0, b1⟩ := two_start w (C2 f t) (C2 f' t') 36 36
  rw [hW]
  clear hW
  refine (H.out _ _).mono ?_
  rintro e w1 ⟨rfl, hT⟩
  go_wp2
  go_ret2
  exact ⟨rfl, then_below hB0 hT⟩

theorem tmeet_yes {f t f' t' : Int} (w : World) (h : maySp f t) (h' : maySp f' t') : Calls Tryz.prog 123 #[S2 f t, S2 f' t'] w fun e W' => e = .returned (.tuple #[.bool (meetsT f t f' t'), I 0]) ∧ Below w.heap.size w W' := by
  have H : Hid (∀ w, Calls Tryz.prog 155 #[S2 f t, S2 f' t', .func (.func 156) #[] #[]] w fun e W' => e = .returned (.tuple #[.bool (meetsT f t f' t'), I 0]) ∧ Below w.heap.size w W') := fun w => ask_meet w h h'
  clear h h'
  generalize meetsT f t f' t' = r at *
  go_enter Tryz.func123, Tryz.ntmps123
  go_wp2_with fail
  obtain ⟨W, hW, hB0, b0, b1⟩ := two_start w (C2 f t) (C2 f' t') 36 36
  rw [hW]
  clear hW
  refine (H.out _).mono ?_
  rintro e w1 ⟨rfl, hT⟩
  go_wp2
  go_ret2
  exact ⟨rfl, then_below hB0 hT⟩

end Go.Proofs.YtldcagjnngkabaaGreatDoor

/-
  slices.IndexFunc and slices.ContainsFunc over slots, cal.free and its closure, cal.Free: what each call answers.
-/
namespace Go.Proofs.YtldcagjnngkabaaGreatDoor
open Go Go.RowKit Go.Shelf

attribute [local go_sem] Oper.semAt_some ext_const

/-- The closure of free: whether a slot meets the span that it was made with. -/
theorem freec_calls {w : World} {A : Nat} {f t o x y : Int} (hm : maySp f t) (hs : maySp x y) (ha : Blk w A 36 (C2 x y)) : Calls Tryz.prog 122 #[V3 f t o, .pointer (some ⟨A, 0, none⟩)] w fun e W' => e = .returned (.bool (meetsT f t x y)) ∧ Below w.heap.size w W' := by
  have H : Hid (∀ w, Calls Tryz.prog 123 #[S2 f t, S2 x y] w fun e W' => e = .returned (.tuple #[.bool (meetsT f t x y), I 0]) ∧ Below w.heap.size w W') := fun w => tmeet_yes w hm hs
  have hB : Below w.heap.size w (w.alloc (.cells (C3 f t o) 85)) := (Below.refl _ w).alloc (Nat.le_refl _) _
  obtain ⟨c0, c1, hz⟩ := ha.pair (Below.refl _ _)
  generalize meetsT f t x y = r at *
  clear hm hs ha
  go_enter Tryz.func122, Tryz.ntmps122
  go_wp2_with fail
  refine (H.out _).mono ?_
  rintro e w1 ⟨rfl, hB1⟩
  go_wp2
  go_ret
  exact ⟨rfl, then_below hB hB1⟩

def meetAny (xs : List Slt) (x y : Int) : Bool := !clearC xs x y
/-- The first slot that meets a span, or -1. -/
def firstM (xs : List Slt) (x y : Int) : Int := match xs.findIdx? fun s => meetsT s.1 s.2.1 x y with | some i => i | none => -1
theorem firstM_at {xs : List Slt} {x y f t o : Int} {k : Nat} (hk : k < xs.length) (hu : xs.getD k (0, 0, 0) = (f, t, o)) (h0 : ∀ j, j < k → meetsT (xs.getD j (0, 0, 0)).1 (xs.getD j (0, 0, 0)).2.1 x y = false) (hm : meetsT f t x y = true) : firstM xs x y = k := by
  have : xs.findIdx? (fun s => meetsT s.1 s.2.1 x y) = some k := by
    rw [List.findIdx?_eq_some_iff_getElem]
    have hs : xs[k] = (f, t, o) := by simpa [hk] using hu
    refine ⟨hk, by rw [hs]; exact hm, fun j hj => ?_⟩
    have := h0 j hj
    simp [show j < xs.length by omega] at this
    simp [this]
  unfold firstM
  rw [this]
theorem firstM_none {xs : List Slt} {x y : Int} (h0 : ∀ j, j < xs.length → meetsT (xs.getD j (0, 0, 0)).1 (xs.getD j (0, 0, 0)).2.1 x y = false) : firstM xs x y = -1 := by
  have : xs.findIdx? (fun s => meetsT s.1 s.2.1 x y) = none := by
    rw [List.findIdx?_eq_none_iff]
    intro s hs
    obtain ⟨i, hi, rfl⟩ := List.mem_iff_getElem.1 hs
    have := h0 i hi
    simp [hi] at this
    simp [this]
  unfold firstM
  rw [this]
theorem firstM_any (xs : List Slt) (x y : Int) : decide (0 ≤ firstM xs x y) = meetAny xs x y := by
  unfold firstM meetAny clearC
  cases h : xs.findIdx? fun s => meetsT s.1 s.2.1 x y with
  | some i =>
    obtain ⟨hi, hm, _⟩ := List.findIdx?_eq_some_iff_getElem.1 h
    have : xs.all (fun s => !meetsT s.1 s.2.1 x y) = false := by
      rw [List.all_eq_false]
      exact ⟨xs[i], List.getElem_mem hi, by simpa using hm⟩
    rw [this]
    simp
  | none =>
    have : xs.all (fun s => !meetsT s.1 s.2.1 x y) = true := by
      rw [List.all_eq_true]
      intro s hs
      have := List.findIdx?_eq_none_iff.1 h s hs
      simpa using this
    rw [this]
    simp

set_option maxRecDepth 100000 in
set_option maxHeartbeats 4000000 in
theorem index_calls {xs : List Slt} {v : Value} {w : World} {A : Nat} {x y : Int} (hS : Ss w v xs) (hn : xs.length ≤ 100000) (hm : ∀ s ∈ xs, maySl s) (hs : maySp x y) (ha : Blk w A 36 (C2 x y)) :
    Calls Tryz.prog 154 #[v, .func (.func 122) #[] #[.pointer (some ⟨A, 0, none⟩)]] w fun e W' => e = .returned (I (firstM xs x y)) ∧ Below w.heap.size w W' := by
  obtain ⟨ao, cap, rfl, hS⟩ := hS.form
  have HS : Hid (Ss w (.slice ao xs.length cap) xs) := hS
  have HA : Hid (Blk w A 36 (C2 x y)) := ha
  have HC : Hid (∀ (w : World) (f t o : Int), maySp f t → Blk w A 36 (C2 x y) → Calls Tryz.prog 122 #[V3 f t o, .pointer (some ⟨A, 0, none⟩)] w fun e W' => e = .returned (.bool (meetsT f t x y)) ∧ Below w.heap.size w W') := fun w f t o h1 h2 => freec_calls h1 hs h2
  have HM : Hid (∀ k, k < xs.length → maySl (xs.getD k (0, 0, 0))) := fun k hk => hm _ (by simp [hk])
  have H1 : Hid (∀ (k : Nat) (f t o : Int), k < xs.length → xs.getD k (0, 0, 0) = (f, t, o) → (∀ j, j < k → meetsT (xs.getD j (0, 0, 0)).1 (xs.getD j (0, 0, 0)).2.1 x y = false) → meetsT f t x y = true → firstM xs x y = k) := fun k f t o => firstM_at
  have H2 : Hid ((∀ j, j < xs.length → meetsT (xs.getD j (0, 0, 0)).1 (xs.getD j (0, 0, 0)).2.1 x y = false) → firstM xs x y = -1) := firstM_none
  generalize firstM xs x y = ans at H1 H2 ⊢
  clear hS ha hm hs
  go_enter Tryz.func154, Tryz.ntmps154
  go_wp2
  go_loopw [8] (fun i wr => ∃ k : Nat, k ≤ xs.length ∧ i = .int .i64 k ∧ Hid (∀ j, j < k → meetsT (xs.getD j (0, 0, 0)).1 (xs.getD j (0, 0, 0)).2.1 x y = false) ∧ Below w.heap.size w wr) (fun i _ => xs.length - (RowKit.intOf i).toNat)
  case atStart => exact ⟨0, by omega, rfl, fun j hj => by omega, Below.refl _ _⟩
  case round =>
    obtain ⟨k, hk, rfl, H0, hT⟩ := hrel
    by_cases hlt : (k : Int) < (xs.length : Int)
    · have hk' : k < xs.length := by omega
      obtain ⟨g, off, f, t, o, rfl, hu, ha⟩ := (HS.out.later hT).at hk'
      obtain ⟨hg, c0, c1, c2⟩ := ha.cells
      have HU : Hid (xs.getD k (0, 0, 0) = (f, t, o)) := hu
      have hmy := HM.out k hk'
      rw [hu] at hmy
      have HC1 : Hid (Calls Tryz.prog 122 #[V3 f t o, .pointer (some ⟨A, 0, none⟩)] wr fun e W' => e = .returned (.bool (meetsT f t x y)) ∧ Below wr.heap.size wr W') := HC.out wr f t o hmy.1 (HA.out.later hT)
      clear hu ha hmy
      cases hm : meetsT f t x y
      · have HJ : Hid (∀ j, j < k + 1 → meetsT (xs.getD j (0, 0, 0)).1 (xs.getD j (0, 0, 0)).2.1 x y = false) := fun j hj => by
          rcases Nat.lt_succ_iff_lt_or_eq.1 hj with h | rfl
          · exact H0.out j h
          · rw [HU.out]; exact hm
        rw [hm] at HC1
        clear hm
        go_wp2_with fail
        refine HC1.out.mono ?_
        rintro e w1 ⟨rfl, hB1⟩
        go_wp2
        go_roundw
        case rel => exact ⟨k + 1, by omega, by go_num, HJ, then_below hT hB1⟩
        case measure => simp [RowKit.intOf]; omega
      · have E : ans = k := H1.out k f t o hk' HU.out H0.out hm
        subst E
        rw [hm] at HC1
        clear hm
        go_wp2_with fail
        refine HC1.out.mono ?_
        rintro e w1 ⟨rfl, hB1⟩
        go_wp2
        go_ret
        exact ⟨rfl, then_below hT hB1⟩
    · have E : ans = -1 := H2.out fun j hj => H0.out j (by omega)
      subst E
      go_wp2
      go_ret
      exact ⟨rfl, hT⟩

theorem contains_calls {xs : List Slt} {v : Value} {w : World} {A : Nat} {x y : Int} (hS : Ss w v xs) (hn : xs.length ≤ 100000) (hm : ∀ s ∈ xs, maySl s) (hs : maySp x y) (ha : Blk w A 36 (C2 x y)) :
    Calls Tryz.prog 121 #[v, .func (.func 122) #[] #[.pointer (some ⟨A, 0, none⟩)]] w fun e W' => e = .returned (.bool (meetAny xs x y)) ∧ Below w.heap.size w W' := by
  rw [← firstM_any]
  have H : Hid (Calls Tryz.prog 154 #[v, .func (.func 122) #[] #[.pointer (some ⟨A, 0, none⟩)]] w fun e W' => e = .returned (I (firstM xs x y)) ∧ Below w.heap.size w W') := index_calls hS hn hm hs ha
  clear hS hm hs ha
  generalize firstM xs x y = r at *
  by_cases hr : 0 ≤ r
  · rw [decide_eq_true hr]
    go_enter Tryz.func121, Tryz.ntmps121
    go_wp2_with fail
    refine H.out.mono ?_
    rintro e w1 ⟨rfl, hT⟩
    go_wp2
    go_ret
    exact ⟨rfl, hT⟩
  · rw [decide_eq_false hr]
    have hr : decide (0 ≤ r) = false := decide_eq_false hr
    go_enter Tryz.func121, Tryz.ntmps121
    go_wp2_with fail
    refine H.out.mono ?_
    rintro e w1 ⟨rfl, hT⟩
    go_wp2
    go_ret
    exact ⟨rfl, hT⟩

theorem free_calls {xs : List Slt} {v : Value} {x y : Int} (w : World) (hS : Ss w v xs) (hn : xs.length ≤ 100000) (hm : ∀ s ∈ xs, maySl s) (hs : maySp x y) :
    Calls Tryz.prog 92 #[v, S2 x y] w fun e W' => e = .returned (.bool (clearC xs x y)) ∧ Below w.heap.size w W' := by
  have hB := (Below.refl _ w).alloc (Nat.le_refl _) (.cells (C2 x y) 36)
  have H := contains_calls (hS.later hB) hn hm hs (Blk.new w 36 (C2 x y))
  have H : Hid (Calls Tryz.prog 121 #[v, .func (.func 122) #[] #[.pointer (some ⟨w.heap.size, 0, none⟩)]] (w.alloc (.cells (C2 x y) 36)) fun e W' => e = .returned (.bool (meetAny xs x y)) ∧ Below (w.alloc (.cells (C2 x y) 36)).heap.size (w.alloc (.cells (C2 x y) 36)) W') := H
  have E : clearC xs x y = !meetAny xs x y := by simp [meetAny]
  rw [E]
  clear hS hm hs E
  generalize meetAny xs x y = r at *
  cases r
  all_goals
    go_enter Tryz.func92, Tryz.ntmps92
    go_wp2_with fail
    refine H.out.mono ?_
    rintro e w1 ⟨rfl, hT⟩
    go_wp2
    go_ret
    exact ⟨rfl, then_below hB hT⟩

end Go.Proofs.YtldcagjnngkabaaGreatDoor

/-
  cal.Take, cal.Cut, cal.Free: what each call answers.
-/
namespace Go.Proofs.YtldcagjnngkabaaGreatDoor
open Go Go.RowKit Go.Shelf

attribute [local go_sem] Oper.semAt_some ext_const

theorem chk_no {xs : List Slt} {v : Value} (h : ¬ mayC xs) : Hid (∀ w, Ss w v xs → Calls Tryz.prog 58 #[v] w fun e W' => e = .returned (I 8) ∧ Below w.heap.size w W') := fun w hS => by rw [← errC_no h]; exact ccheck_calls w hS
theorem chk_yes {xs : List Slt} {v : Value} (h : mayC xs) : Hid (∀ w, Ss w v xs → Calls Tryz.prog 58 #[v] w fun e W' => e = .returned (I 0) ∧ Below w.heap.size w W') := fun w hS => by rw [← errC_ok h]; exact ccheck_calls w hS
theorem Blk.one {W W' : World} {B : Nat} {t : TypeId} {a : Int} (h : Blk W B t #[I a]) (hb : Below W.heap.size W W') : W'.cell? ⟨B, 0, none⟩ = some (.int .i64 a) ∧ B < W'.heap.size := ⟨(h.later hb).cell 0, (h.later hb).lt⟩
theorem one_start (w : World) (u : Array Value) (t : TypeId) : ∃ W, w.alloc (.cells u t) = W ∧ Below w.heap.size w W ∧ Blk W w.heap.size t u := ⟨_, rfl, (Below.refl _ w).alloc (Nat.le_refl _) _, Blk.new w _ _⟩

/-- What Free answers. -/
def freeE (xs : List Slt) (x y : Int) : Int := if mayCB xs then (if maySpB x y then 0 else 2) else 8
def freeB (xs : List Slt) (x y : Int) : Bool := mayCB xs && (maySpB x y && clearC xs x y)

theorem cfree_calls {xs : List Slt} {v : Value} {x y : Int} (w : World) (hS : Ss w v xs) : Calls Tryz.prog 99 #[v, S2 x y] w fun e W' => e = .returned (.tuple #[.bool (freeB xs x y), I (freeE xs x y)]) ∧ Below w.heap.size w W' := by
  obtain ⟨W, hW, hB, hK⟩ := one_start w (C2 x y) 36
  have HW : Hid (w.alloc (.cells (C2 x y) 36) = W) := hW
  have HS : Hid (Ss W v xs) := hS.later hB
  by_cases hm : mayC xs
  · have HC := chk_yes (v := v) hm
    have em := mayCB_iff.2 hm
    by_cases hs : maySp x y
    · have es := (maySpB_iff x y).2 hs
      have HT : Hid (∀ w, Calls Tryz.prog 55 #[S2 x y] w fun e W' => e = .returned (I 0) ∧ Below w.heap.size w W') := fun w => by rw [← errS_ok hs]; exact tcheck_calls x y w
      have HF : Hid (∀ w, Ss w v xs → Calls Tryz.prog 92 #[v, S2 x y] w fun e W' => e = .returned (.bool (clearC xs x y)) ∧ Below w.heap.size w W') := fun w h => free_calls w h (by have := hm.2.2; omega) hm.1 hs
      rw [show freeB xs x y = clearC xs x y by simp [freeB, em, es], show freeE xs x y = 0 by simp [freeE, em, es]]
      clear hW hm em hs es hS
      generalize clearC xs x y = r at *
      go_enter Tryz.func99, Tryz.ntmps99
      go_wp2_with fail
      rw [HW.out]
      refine (HC.out _ HS.out).mono ?_
      rintro e w1 ⟨rfl, hT⟩
      obtain ⟨c0, c1, hz⟩ := hK.pair hT
      go_wp2_with fail
      refine (HT.out _).mono ?_
      rintro e w2 ⟨rfl, hB2⟩
      have hT2 := then_below hT hB2
      clear c0 c1 hz
      obtain ⟨c0, c1, hz⟩ := hK.pair hT2
      go_wp2_with fail
      refine (HF.out _ (HS.out.later hT2)).mono ?_
      rintro e w3 ⟨rfl, hB3⟩
      go_wp2
      go_ret2
      exact ⟨rfl, then_below hB (then_below hT2 hB3)⟩
    · have es : maySpB x y = false := by cases e : maySpB x y; rfl; exact absurd ((maySpB_iff x y).1 e) hs
      have HT : Hid (∀ w, Calls Tryz.prog 55 #[S2 x y] w fun e W' => e = .returned (I 2) ∧ Below w.heap.size w W') := fun w => by rw [← errS_no hs]; exact tcheck_calls x y w
      rw [show freeB xs x y = false by simp [freeB, es], show freeE xs x y = 2 by simp [freeE, em, es]]
      clear hW hm em hs es hS
      go_enter Tryz.func99, Tryz.ntmps99
      go_wp2_with fail
      rw [HW.out]
      refine (HC.out _ HS.out).mono ?_
      rintro e w1 ⟨rfl, hT⟩
      obtain ⟨c0, c1, hz⟩ := hK.pair hT
      go_wp2_with fail
      refine (HT.out _).mono ?_
      rintro e w2 ⟨rfl, hB2⟩
      go_wp2
      go_ret2
      exact ⟨rfl, then_below hB (then_below hT hB2)⟩
  · have em : mayCB xs = false := by cases e : mayCB xs; rfl; exact absurd (mayCB_iff.1 e) hm
    have HC := chk_no (v := v) hm
    rw [show freeB xs x y = false by simp [freeB, em], show freeE xs x y = 8 by simp [freeE, em]]
    clear hW hm em hS
    go_enter Tryz.func99, Tryz.ntmps99
    go_wp2_with fail
    rw [HW.out]
    refine (HC.out _ HS.out).mono ?_
    rintro e w1 ⟨rfl, hT⟩
    go_wp2
    go_ret2
    exact ⟨rfl, then_below hB hT⟩

end Go.Proofs.YtldcagjnngkabaaGreatDoor
