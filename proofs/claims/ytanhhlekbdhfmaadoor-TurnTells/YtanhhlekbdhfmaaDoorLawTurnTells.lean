/-
  The statement TurnTells, walked.
-/
import Derived.Test.YtanhhlekbdhfmaaDoorLawTurn
namespace Go.Proofs.YtanhhlekbdhfmaaDoor
open Go Go.RowKit Go.Shelf

attribute [local go_sem] Oper.semAt_some ext_const eq_ints_at eq_bools_at
attribute [local go_sem high] eq_wants

theorem four_start (w : World) (u0 u1 u2 u3 : Array Value) (t0 t1 t2 t3 : TypeId) :
    ∃ W : World, (((w.alloc (.cells u0 t0)).alloc (.cells u1 t1)).alloc (.cells u2 t2)).alloc (.cells u3 t3) = W ∧ Below w.heap.size w W ∧ Blk W w.heap.size t0 u0 ∧ Blk W (w.heap.size + 1) t1 u1 ∧ Blk W (w.heap.size + 1 + 1) t2 u2 ∧ Blk W (w.heap.size + 1 + 1 + 1) t3 u3 := by
  obtain ⟨W, hW, hB, b0, b1, b2⟩ := three_turn w u0 u1 u2 t0 t1 t2
  have hs : W.heap.size = w.heap.size + 1 + 1 + 1 := by rw [← hW]; simp
  refine ⟨_, rfl, ?_, ?_, ?_, ?_, ?_⟩
  · rw [hW]; exact then_alloc hB _
  · rw [hW]; exact b0.alloc _
  · rw [hW]; exact b1.alloc _
  · rw [hW]; exact b2.alloc _
  · rw [hW, ← hs]; exact Blk.new W t3 u3

/-- What both sides answer to the last questions. -/
structure Asked (w : World) (d0 d1 d2 x y z : Int) (p q r t : Bool) (a b c : Int) (f g h : Bool) (F : Bool) (E : Int) (O : Bool) (K : Int) (C : Int) : Prop where
  fit : ∀ w', OrdOk w' → Calls Tryd.prog 9 #[A3 d0 d1 d2, V7 x y z p q r t] w' fun e W' => e = .returned (.tuple #[.bool F, I E]) ∧ Below w'.heap.size w' W'
  fit' : ∀ w', Calls Tryd.prog 13 #[A3 d0 d1 d2, V7 x y z p q r t] w' fun e W' => e = .returned (.tuple #[.bool F, I E]) ∧ Below w'.heap.size w' W'
  is : ∀ w', OrdOk w' → Calls Tryd.prog 14 #[V7 x y z p q r t, A3 a b c, B3 f g h] w' fun e W' => e = .returned (.tuple #[.bool O, I K]) ∧ Below w'.heap.size w' W'
  is' : ∀ w', Calls Tryd.prog 15 #[V7 x y z p q r t, A3 a b c, B3 f g h] w' fun e W' => e = .returned (.tuple #[.bool O, I K]) ∧ Below w'.heap.size w' W'
  ck : ∀ w', Calls Tryd.prog 11 #[V7 x y z p q r t] w' fun e W' => e = .returned (I C) ∧ Below w'.heap.size w' W'
  ck' : ∀ w', Calls Tryd.prog 16 #[V7 x y z p q r t] w' fun e W' => e = .returned (I C) ∧ Below w'.heap.size w' W'

theorem asked (w : World) (d0 d1 d2 x y z : Int) (p q r t : Bool) (a b c : Int) (f g h : Bool) : ∃ F E O K C, Asked w d0 d1 d2 x y z p q r t a b c f g h F E O K C := by
  by_cases hm : mayD x y z
  · by_cases hd : mayD d0 d1 d2
    · exact ⟨_, 0, _, 0, 0, fun w' hO => fits_yes w' hO hd hm, fun w' => wfits_yes w' hd hm, fun w' hO => tof_yes w' hO hm, fun w' => wof_yes w' hm, fun w' => tcheck_yes w' hm, fun w' => wcheck_yes w' hm⟩
    · exact ⟨false, 8, _, 0, 0, fun w' _ => fits_no w' (fun k => hd k.1), fun w' => wfits_no w' (fun k => hd k.1), fun w' hO => tof_yes w' hO hm, fun w' => wof_yes w' hm, fun w' => tcheck_yes w' hm, fun w' => wcheck_yes w' hm⟩
  · exact ⟨false, 8, false, 8, 8, fun w' _ => fits_no w' (fun k => hm k.2), fun w' => wfits_no w' (fun k => hm k.2), fun w' _ => tof_no w' hm, fun w' => wof_no w' hm, fun w' => tcheck_no w' hm, fun w' => wcheck_no w' hm⟩

/-- The lists that both sides answer. -/
theorem both_all (x y z : Int) (p q r t : Bool) : ∃ (l : List Wt) (E : Int), l.length ≤ 6 ∧
    (∀ w', OrdOk w' → Calls Tryd.prog 7 #[V7 x y z p q r t] w' fun e W' => ∃ v, e = .returned (.tuple #[v, I E]) ∧ Wl W' w'.heap.size v l ∧ Below w'.heap.size w' W') ∧
    (∀ w', Calls Tryd.prog 12 #[V7 x y z p q r t] w' fun e W' => ∃ v, e = .returned (.tuple #[v, I E]) ∧ Wl W' w'.heap.size v l ∧ Below w'.heap.size w' W') := by
  by_cases hm : mayD x y z
  · exact ⟨_, 0, turns_len (mayT_D.2 hm), fun w' hO => all_yes w' hO hm, fun w' => wall_yes w' hm⟩
  · refine ⟨[], 8, by simp, fun w' _ => (all_no w' hm).mono ?_, fun w' => (wall_no w' hm).mono ?_⟩
    · rintro e W' ⟨he, hB⟩
      exact ⟨_, he, Wl.nil _ _, hB⟩
    · rintro e W' ⟨he, hB⟩
      exact ⟨_, he, Wl.nil _ _, hB⟩

set_option maxRecDepth 100000 in
set_option maxHeartbeats 8000000 in
theorem turnTells_walk (d0 d1 d2 x y z : Int) (p q r t : Bool) (a b c : Int) (f g h : Bool) (_ : (Lit.int .i64 d0).wf = true) (_ : (Lit.int .i64 d1).wf = true) (_ : (Lit.int .i64 d2).wf = true) (_ : (Lit.int .i64 x).wf = true) (_ : (Lit.int .i64 y).wf = true) (_ : (Lit.int .i64 z).wf = true) (_ : (Lit.int .i64 a).wf = true) (_ : (Lit.int .i64 b).wf = true) (_ : (Lit.int .i64 c).wf = true) (w : World) (hO : OrdOk w) :
    Calls Tryd.prog 4 #[A3 d0 d1 d2, V7 x y z p q r t, A3 a b c, B3 f g h] w fun e W' => e = .returned (.bool true) ∧ Below w.heap.size w W' := by
  have hmx : Tryd.prog.follows .mixedOrders = true := by kernel_rfl
  have HO : Hid (OrdOk w) := hO
  clear hO
  obtain ⟨F, E, O, K, C, hA⟩ := asked w d0 d1 d2 x y z p q r t a b c f g h
  obtain ⟨l, El, hlen, hl1, hl2⟩ := both_all x y z p q r t
  have k1 := hA.fit
  have k2 := hA.fit'
  have k3 := hA.is
  have k4 := hA.is'
  have k5 := hA.ck
  have k6 := hA.ck'
  clear hA
  obtain ⟨W, hW, hBW, b0, b1, b2, b3⟩ := four_start w #[I d0, I d1, I d2] (cells7 x y z p q r t) #[I a, I b, I c] #[.bool f, .bool g, .bool h] 33 29 26 27
  have HW : Hid ((((w.alloc (.cells #[I d0, I d1, I d2] 33)).alloc (.cells (cells7 x y z p q r t) 29)).alloc (.cells #[I a, I b, I c] 26)).alloc (.cells #[.bool f, .bool g, .bool h] 27) = W) := hW
  clear hW
  go_enter Tryd.func4, Tryd.ntmps4
  go_wp2_with fail
  rw [HW.out]
  refine (hl1 _ (HO.out.later hBW)).mono ?_
  rintro e w1 ⟨v1, rfl, hL1, hT⟩
  clear hl1
  obtain ⟨s0, s1, s2, s3, s4, s5, s6⟩ := (b1.later hT).seven
  go_wp2_with fail
  refine (hl2 _).mono ?_
  rintro e w2 ⟨v2, rfl, hL2, hB⟩
  have HL1 : Hid (Wl w2 W.heap.size v1 l) := hL1.later hB
  have hT := then_below hT hB
  clear hl2 hL1 hB s0 s1 s2 s3 s4 s5 s6
  obtain ⟨ao1, cap1, rfl, _⟩ := HL1.out.view
  obtain ⟨ao2, cap2, rfl, _⟩ := hL2.view
  have HL2 : Hid (Wl w2 w1.heap.size (.slice ao2 l.length cap2) l) := hL2
  clear hL2
  go_wp2
  go_loopw [13] (fun i wr => ∃ k : Nat, k ≤ l.length ∧ i = .int .i64 k ∧ Below w2.heap.size w2 wr) (fun i _ => l.length - (intOf i).toNat)
  case atStart => exact ⟨0, by omega, rfl, Below.refl _ _⟩
  case round =>
    obtain ⟨k, hk, rfl, hT'⟩ := hrel
    by_cases hlt : (k : Int) < (l.length : Int)
    · have hk' : k < l.length := by omega
      obtain ⟨g1, x1, y1, z1, p1, q1, r1, t1, rfl, hu1, hat1⟩ := Wl.at (HL1.out.later hT') hk'
      obtain ⟨g2, x2, y2, z2, p2, q2, r2, t2, rfl, hu2, hat2⟩ := Wl.at (HL2.out.later hT') hk'
      rw [hu1] at hu2
      simp only [Prod.mk.injEq] at hu2
      obtain ⟨rfl, rfl, rfl, rfl, rfl, rfl, rfl⟩ := hu2
      obtain ⟨c0, c1, c2, c3, c4, c5, c6⟩ := hat1.ext
      obtain ⟨e0, e1, e2, e3, e4, e5, e6⟩ := hat2.ext
      have hq := eqW_self (x1, y1, z1, p1, q1, r1, t1)
      clear hat1 hat2 hu1
      go_wp2
      refine wp_region_look hmx (by kernel_rfl) ?_
      repeat (go_big_quiet_step (fail))
      refine wpQuiet_nil ?_
      intro X
      go_wp2
      go_roundw
      case rel => exact ⟨k + 1, by omega, by go_num, then_below hT' X.le⟩
      case measure => simp [intOf]; omega
    · have hT := then_below hT hT'
      clear hT' HL1 HL2
      obtain ⟨s0, s1, s2, s3, s4, s5, s6⟩ := (b1.later hT).seven
      obtain ⟨g0, g1, g2, gl⟩ := b0.threeB hT
      go_wp2_with fail
      refine (k1 _ (HO.out.later (then_below hBW hT))).mono ?_
      rintro e w3 ⟨rfl, hB⟩
      have hT := then_below hT hB
      clear s0 s1 s2 s3 s4 s5 s6 g0 g1 g2 gl hB k1
      obtain ⟨s0, s1, s2, s3, s4, s5, s6⟩ := (b1.later hT).seven
      obtain ⟨g0, g1, g2, gl⟩ := b0.threeB hT
      go_wp2_with fail
      refine (k2 _).mono ?_
      rintro e w4 ⟨rfl, hB⟩
      have hT := then_below hT hB
      clear s0 s1 s2 s3 s4 s5 s6 g0 g1 g2 gl hB k2
      obtain ⟨s0, s1, s2, s3, s4, s5, s6⟩ := (b1.later hT).seven
      obtain ⟨g0, g1, g2, gl⟩ := b2.threeB hT
      obtain ⟨m0, m1, m2, ml⟩ := b3.threeB hT
      go_wp2_with fail
      refine (k3 _ (HO.out.later (then_below hBW hT))).mono ?_
      rintro e w5 ⟨rfl, hB⟩
      have hT := then_below hT hB
      clear s0 s1 s2 s3 s4 s5 s6 g0 g1 g2 gl m0 m1 m2 ml hB k3
      obtain ⟨s0, s1, s2, s3, s4, s5, s6⟩ := (b1.later hT).seven
      obtain ⟨g0, g1, g2, gl⟩ := b2.threeB hT
      obtain ⟨m0, m1, m2, ml⟩ := b3.threeB hT
      go_wp2_with fail
      refine (k4 _).mono ?_
      rintro e w6 ⟨rfl, hB⟩
      have hT := then_below hT hB
      clear s0 s1 s2 s3 s4 s5 s6 g0 g1 g2 gl m0 m1 m2 ml hB k4
      obtain ⟨s0, s1, s2, s3, s4, s5, s6⟩ := (b1.later hT).ext7
      go_wp2
      refine wp_region_look hmx (by kernel_rfl) ?_
      repeat (go_big_quiet_step (first | (go_at_call 11; exact calls_ext (k5 _)) | (go_at_call 16; exact calls_ext (k6 _))))
      refine wpQuiet_nil ?_
      intro X
      go_wp2
      go_ret
      exact ⟨by simp, then_below hBW (then_below hT X.le)⟩

end Go.Proofs.YtanhhlekbdhfmaaDoor
