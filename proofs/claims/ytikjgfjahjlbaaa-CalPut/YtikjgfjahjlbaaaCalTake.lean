/-
  cal.Take, cal.Cut, cal.Free: what each call answers.
-/
import Derived.Test.YtikjgfjahjlbaaaCalKeep
import Derived.Test.YtikjgfjahjlbaaaCalSums
import Derived.Test.YtikjgfjahjlbaaaCalFind
namespace Go.Proofs.Ytikjgfjahjlbaaa
open Go Go.RowKit Go.Shelf

attribute [local go_sem] Oper.semAt_some ext_const

theorem chk_no {xs : List Slt} {v : Value} (h : ¬ mayC xs) : Hid (∀ w, Ss w v xs → Calls Try.prog 21 #[v] w fun e W' => e = .returned (I 8) ∧ Below w.heap.size w W') := fun w hS => by rw [← errC_no h]; exact ccheck_calls w hS
theorem chk_yes {xs : List Slt} {v : Value} (h : mayC xs) : Hid (∀ w, Ss w v xs → Calls Try.prog 21 #[v] w fun e W' => e = .returned (I 0) ∧ Below w.heap.size w W') := fun w hS => by rw [← errC_ok h]; exact ccheck_calls w hS
theorem Blk.one {W W' : World} {B : Nat} {t : TypeId} {a : Int} (h : Blk W B t #[I a]) (hb : Below W.heap.size W W') : W'.cell? ⟨B, 0, none⟩ = some (.int .i64 a) ∧ B < W'.heap.size := ⟨(h.later hb).cell 0, (h.later hb).lt⟩
theorem one_start (w : World) (u : Array Value) (t : TypeId) : ∃ W, w.alloc (.cells u t) = W ∧ Below w.heap.size w W ∧ Blk W w.heap.size t u := ⟨_, rfl, (Below.refl _ w).alloc (Nat.le_refl _) _, Blk.new w _ _⟩

theorem ctake_no {xs : List Slt} {v : Value} {ow : Int} (w : World) (hS : Ss w v xs) (h : ¬ mayC xs) : Calls Try.prog 13 #[v, I ow] w fun e W' => e = .returned (.tuple #[.slice none 0 0, I 8]) ∧ Below w.heap.size w W' := by
  have HC := chk_no (v := v) h
  obtain ⟨W, hW, hB, hK⟩ := one_start w #[I ow] 3
  have HW : Hid (w.alloc (.cells #[I ow] 3) = W) := hW
  have HS : Hid (Ss W v xs) := hS.later hB
  clear hW h hS
  go_enter Try.func13, Try.ntmps13
  go_wp2_with fail
  rw [HW.out]
  refine (HC.out _ HS.out).mono ?_
  rintro e w1 ⟨rfl, hT⟩
  go_wp2
  go_ret2
  exact ⟨rfl, then_below hB hT⟩

theorem ctake_yes {xs : List Slt} {v : Value} {ow : Int} (w : World) (hS : Ss w v xs) (h : mayC xs) : Calls Try.prog 13 #[v, I ow] w fun e W' => ∃ u, e = .returned (.tuple #[u, I 0]) ∧ So W' w.heap.size u (lessC xs ow) ∧ Below w.heap.size w W' := by
  have HC := chk_yes (v := v) h
  obtain ⟨W, hW, hB, hK⟩ := one_start w #[I ow] 3
  have HW : Hid (w.alloc (.cells #[I ow] 3) = W) := hW
  have HS : Hid (Ss W v xs) := hS.later hB
  have HK : Hid (∀ w1, Below W.heap.size W w1 → Calls Try.prog 29 #[v, .func (.func 31) #[] #[.pointer (some ⟨w.heap.size, 0, none⟩)]] w1 fun e W' => ∃ u, e = .returned u ∧ So W' w1.heap.size u (lessC xs ow) ∧ Below w1.heap.size w1 W') := fun w1 hT => by
    rw [← takeK_less]
    refine keep_take w1 w.heap.size (HS.out.later hT) (by have := h.2.2; omega) ?_
    intro wr f t o hB'
    obtain ⟨c, hc⟩ := hK.one (then_below hT hB')
    refine (takec_calls (r := (o != ow)) rfl c hc).mono ?_
    rintro e W' ⟨rfl, hb⟩
    exact ⟨f, t, o, (o != ow), rfl, fun hr => by show takeK ow (f, t, o) = _; rw [takeK, if_pos hr], fun hr => by show takeK ow (f, t, o) = _; rw [takeK, if_neg (by simp only [hr]; decide)], hb⟩
  clear hW h hS hK
  generalize lessC xs ow = tgt at *
  go_enter Try.func13, Try.ntmps13
  go_wp2_with fail
  rw [HW.out]
  refine (HC.out _ HS.out).mono ?_
  rintro e w1 ⟨rfl, hT⟩
  go_wp2_with fail
  refine (HK.out _ hT).mono ?_
  rintro e w2 ⟨u, rfl, hO, hB2⟩
  have HO : Hid (So w2 w.heap.size u tgt) := hO.weak (Nat.le_trans hB.size hT.size)
  clear hO
  go_wp2
  go_ret2
  exact ⟨_, rfl, HO.out, then_below hB (then_below hT hB2)⟩

theorem ccut_no {xs : List Slt} {v : Value} {ow to : Int} (w : World) (hS : Ss w v xs) (h : ¬ mayC xs) : Calls Try.prog 12 #[v, I ow, I to] w fun e W' => e = .returned (.tuple #[.slice none 0 0, I 8]) ∧ Below w.heap.size w W' := by
  have HC := chk_no (v := v) h
  obtain ⟨W, hW, hB, hK, hK2⟩ := two_start w #[I ow] #[I to] 3 3
  have HW : Hid ((w.alloc (.cells #[I ow] 3)).alloc (.cells #[I to] 3) = W) := hW
  have HS : Hid (Ss W v xs) := hS.later hB
  clear hW h hS
  go_enter Try.func12, Try.ntmps12
  go_wp2_with fail
  rw [HW.out]
  refine (HC.out _ HS.out).mono ?_
  rintro e w1 ⟨rfl, hT⟩
  go_wp2
  go_ret2
  exact ⟨rfl, then_below hB hT⟩

theorem ccut_yes {xs : List Slt} {v : Value} {ow to : Int} (w : World) (hS : Ss w v xs) (h : mayC xs) : Calls Try.prog 12 #[v, I ow, I to] w fun e W' => ∃ u, e = .returned (.tuple #[u, I 0]) ∧ So W' w.heap.size u (endedC xs ow to) ∧ Below w.heap.size w W' := by
  have HC := chk_yes (v := v) h
  obtain ⟨W, hW, hB, hK, hK2⟩ := two_start w #[I ow] #[I to] 3 3
  have HW : Hid ((w.alloc (.cells #[I ow] 3)).alloc (.cells #[I to] 3) = W) := hW
  have HS : Hid (Ss W v xs) := hS.later hB
  have HK : Hid (∀ w1, Below W.heap.size W w1 → Calls Try.prog 29 #[v, .func (.func 30) #[] #[.pointer (some ⟨w.heap.size, 0, none⟩), .pointer (some ⟨w.heap.size + 1, 0, none⟩)]] w1 fun e W' => ∃ u, e = .returned u ∧ So W' w1.heap.size u (endedC xs ow to) ∧ Below w1.heap.size w1 W') := fun w1 hT => by
    rw [← cutK_ended (mayC_fine h)]
    refine keep_cut w1 w.heap.size (w.heap.size + 1) (HS.out.later hT) (by have := h.2.2; omega) ?_
    intro wr f t o hB'
    obtain ⟨c, hc⟩ := hK.one (then_below hT hB')
    obtain ⟨d, hd⟩ := hK2.one (then_below hT hB')
    refine (cutc_calls (r := decide (f < endS ow to t o)) rfl c hc d hd).mono ?_
    rintro e W' ⟨rfl, hb⟩
    exact ⟨f, _, o, decide (f < endS ow to t o), rfl, fun hr => by show cutK ow to (f, t, o) = _; rw [cutK, if_pos (of_decide_eq_true hr)], fun hr => by show cutK ow to (f, t, o) = _; rw [cutK, if_neg (of_decide_eq_false hr)], hb⟩
  clear hW h hS hK hK2
  generalize endedC xs ow to = tgt at *
  go_enter Try.func12, Try.ntmps12
  go_wp2_with fail
  rw [HW.out]
  refine (HC.out _ HS.out).mono ?_
  rintro e w1 ⟨rfl, hT⟩
  go_wp2_with fail
  refine (HK.out _ hT).mono ?_
  rintro e w2 ⟨u, rfl, hO, hB2⟩
  have HO : Hid (So w2 w.heap.size u tgt) := hO.weak (Nat.le_trans hB.size hT.size)
  clear hO
  go_wp2
  go_ret2
  exact ⟨_, rfl, HO.out, then_below hB (then_below hT hB2)⟩

/-- What Free answers. -/
def freeE (xs : List Slt) (x y : Int) : Int := if mayCB xs then (if maySpB x y then 0 else 2) else 8
def freeB (xs : List Slt) (x y : Int) : Bool := mayCB xs && (maySpB x y && clearC xs x y)

theorem cfree_calls {xs : List Slt} {v : Value} {x y : Int} (w : World) (hS : Ss w v xs) : Calls Try.prog 23 #[v, S2 x y] w fun e W' => e = .returned (.tuple #[.bool (freeB xs x y), I (freeE xs x y)]) ∧ Below w.heap.size w W' := by
  obtain ⟨W, hW, hB, hK⟩ := one_start w (C2 x y) 34
  have HW : Hid (w.alloc (.cells (C2 x y) 34) = W) := hW
  have HS : Hid (Ss W v xs) := hS.later hB
  by_cases hm : mayC xs
  · have HC := chk_yes (v := v) hm
    have em := mayCB_iff.2 hm
    by_cases hs : maySp x y
    · have es := (maySpB_iff x y).2 hs
      have HT : Hid (∀ w, Calls Try.prog 42 #[S2 x y] w fun e W' => e = .returned (I 0) ∧ Below w.heap.size w W') := fun w => by rw [← errS_ok hs]; exact tcheck_calls x y w
      have HF : Hid (∀ w, Ss w v xs → Calls Try.prog 33 #[v, S2 x y] w fun e W' => e = .returned (.bool (clearC xs x y)) ∧ Below w.heap.size w W') := fun w h => free_calls w h (by have := hm.2.2; omega) hm.1 hs
      rw [show freeB xs x y = clearC xs x y by simp [freeB, em, es], show freeE xs x y = 0 by simp [freeE, em, es]]
      clear hW hm em hs es hS
      generalize clearC xs x y = r at *
      go_enter Try.func23, Try.ntmps23
      go_wp2_with fail
      rw [HW.out]
      refine (HC.out _ HS.out).mono ?_
      rintro e w1 ⟨rfl, hT⟩
      obtain ⟨c0, c1, hz⟩ := hK.pair hT
      go_wp2_with fail
      refine (HT.out _).mono ?_
      rintro e w2 ⟨rfl, hB2⟩
      have hT2 := then_below hT hB2
      clear c0 c1 hz
      obtain ⟨c0, c1, hz⟩ := hK.pair hT2
      go_wp2_with fail
      refine (HF.out _ (HS.out.later hT2)).mono ?_
      rintro e w3 ⟨rfl, hB3⟩
      go_wp2
      go_ret2
      exact ⟨rfl, then_below hB (then_below hT2 hB3)⟩
    · have es : maySpB x y = false := by cases e : maySpB x y; rfl; exact absurd ((maySpB_iff x y).1 e) hs
      have HT : Hid (∀ w, Calls Try.prog 42 #[S2 x y] w fun e W' => e = .returned (I 2) ∧ Below w.heap.size w W') := fun w => by rw [← errS_no hs]; exact tcheck_calls x y w
      rw [show freeB xs x y = false by simp [freeB, es], show freeE xs x y = 2 by simp [freeE, em, es]]
      clear hW hm em hs es hS
      go_enter Try.func23, Try.ntmps23
      go_wp2_with fail
      rw [HW.out]
      refine (HC.out _ HS.out).mono ?_
      rintro e w1 ⟨rfl, hT⟩
      obtain ⟨c0, c1, hz⟩ := hK.pair hT
      go_wp2_with fail
      refine (HT.out _).mono ?_
      rintro e w2 ⟨rfl, hB2⟩
      go_wp2
      go_ret2
      exact ⟨rfl, then_below hB (then_below hT hB2)⟩
  · have em : mayCB xs = false := by cases e : mayCB xs; rfl; exact absurd (mayCB_iff.1 e) hm
    have HC := chk_no (v := v) hm
    rw [show freeB xs x y = false by simp [freeB, em], show freeE xs x y = 8 by simp [freeE, em]]
    clear hW hm em hS
    go_enter Try.func23, Try.ntmps23
    go_wp2_with fail
    rw [HW.out]
    refine (HC.out _ HS.out).mono ?_
    rintro e w1 ⟨rfl, hT⟩
    go_wp2
    go_ret2
    exact ⟨rfl, then_below hB hT⟩

end Go.Proofs.Ytikjgfjahjlbaaa
