/-
  tidehalllaw07.TimeMeets returns true, whatever it is handed; nothing that lay before is turned.
-/
import Derived.Test.YtgmpenjbbhkgoaaLawTime
namespace Go.Proofs.Ytgmpenjbbhkgoaa
open Go.RowKit Go.Shelf

attribute [local go_sem] Oper.semAt_some ext_const

theorem three_pairs {W W' : World} {A B C : Nat} {t : TypeId} {a b c d e f : Int} (h : Blk W A t #[I a, I b]) (h' : Blk W B t #[I c, I d]) (h'' : Blk W C t #[I e, I f]) (hb : Below W.heap.size W W') :
    (W'.cell? ⟨A, 0, none⟩ = some (I a) ∧ W'.cell? ⟨A, 1, none⟩ = some (I b) ∧ A < W'.heap.size) ∧ (W'.cell? ⟨B, 0, none⟩ = some (I c) ∧ W'.cell? ⟨B, 1, none⟩ = some (I d) ∧ B < W'.heap.size) ∧ W'.cell? ⟨C, 0, none⟩ = some (I e) ∧ W'.cell? ⟨C, 1, none⟩ = some (I f) ∧ C < W'.heap.size := ⟨h.pair hb, h'.pair hb, h''.pair hb⟩

set_option maxRecDepth 100000 in
set_option maxHeartbeats 2000000 in
theorem timeMeets_no {f t f' t' : Int} (g u : Int) (w : World) (h : ¬ (maySp f t ∧ maySp f' t')) : Calls Try.prog 6 #[S2 f t, S2 f' t', S2 g u] w fun e W' => e = .returned (.bool true) ∧ Below w.heap.size w W' := by
  have HA : Hid (∀ w, Calls Try.prog 10 #[] w fun e W' => e = .returned (.bool true) ∧ Below w.heap.size w W') := aliveT_calls
  have H1 : Hid (∀ w, Calls Try.prog 16 #[S2 f t, S2 f' t'] w fun e W' => e = .returned (.tuple #[.bool false, I 2]) ∧ Below w.heap.size w W') := fun w => tmeet_no w h
  have H2 : Hid (∀ w, Calls Try.prog 16 #[S2 f' t', S2 f t] w fun e W' => e = .returned (.tuple #[.bool false, I 2]) ∧ Below w.heap.size w W') := fun w => tmeet_no w (fun k => h ⟨k.2, k.1⟩)
  clear h
  go_enter Try.func6, Try.ntmps6
  go_wp2_with fail
  obtain ⟨W, hW, hB0, b0, b1, b2⟩ := three_boxes w (C2 f t) (C2 f' t') (C2 g u) 23 23 23
  rw [hW]
  clear hW
  refine (HA.out _).mono ?_
  rintro e w1 ⟨rfl, hT⟩
  obtain ⟨⟨c0, c1, z0⟩, ⟨c2, c3, z1⟩, c4, c5, z2⟩ := three_pairs b0 b1 b2 hT
  go_wp2_with fail
  refine (H1.out _).mono ?_
  rintro e w2 ⟨rfl, hB2⟩
  have hT := then_below hT hB2
  clear c0 c1 z0 c2 c3 z1 c4 c5 z2
  obtain ⟨⟨c0, c1, z0⟩, ⟨c2, c3, z1⟩, c4, c5, z2⟩ := three_pairs b0 b1 b2 hT
  go_wp2_with fail
  refine (H2.out _).mono ?_
  rintro e w3 ⟨rfl, hB3⟩
  have hT := then_below hT hB3
  clear c0 c1 z0 c2 c3 z1 c4 c5 z2
  obtain ⟨⟨c0, c1, z0⟩, ⟨c2, c3, z1⟩, c4, c5, z2⟩ := three_pairs b0 b1 b2 hT
  go_wp2
  go_ret
  exact ⟨rfl, then_below hB0 hT⟩

/-- Two spans that do not meet. -/
theorem apart_in {f t f' t' : Int} (h : maySp f t) (h' : maySp f' t') (hm : meetsT f t f' t' = false) : wiT f t f' t' = false := by
  rw [bothT_same h h', hm, Bool.false_and]

set_option maxRecDepth 100000 in
set_option maxHeartbeats 4000000 in
theorem timeMeets_apart {f t f' t' : Int} (g u : Int) (w : World) (h : maySp f t) (h' : maySp f' t') (hm : meetsT f t f' t' = false) : Calls Try.prog 6 #[S2 f t, S2 f' t', S2 g u] w fun e W' => e = .returned (.bool true) ∧ Below w.heap.size w W' := by
  have HA : Hid (∀ w, Calls Try.prog 10 #[] w fun e W' => e = .returned (.bool true) ∧ Below w.heap.size w W') := aliveT_calls
  have hm' : meetsT f' t' f t = false := by rw [meetsT_sym]; exact hm
  have hw := apart_in h h' hm
  have H1 : Hid (∀ w, Calls Try.prog 16 #[S2 f t, S2 f' t'] w fun e W' => e = .returned (.tuple #[.bool false, I 0]) ∧ Below w.heap.size w W') := fun w => by rw [← hm]; exact tmeet_yes w h h'
  have H2 : Hid (∀ w, Calls Try.prog 16 #[S2 f' t', S2 f t] w fun e W' => e = .returned (.tuple #[.bool false, I 0]) ∧ Below w.heap.size w W') := fun w => by rw [← hm']; exact tmeet_yes w h' h
  have H3 : Hid (∀ w, Calls Try.prog 9 #[S2 f t, S2 f' t'] w fun e W' => e = .returned (.tuple #[S2 0 0, I 6]) ∧ Below w.heap.size w W') := fun w => tboth_none w h h' hm
  have H4 : Hid (∀ w, Calls Try.prog 9 #[S2 f' t', S2 f t] w fun e W' => e = .returned (.tuple #[S2 0 0, I 6]) ∧ Below w.heap.size w W') := fun w => tboth_none w h' h hm'
  have H5 : Hid (∀ w, Calls Try.prog 18 #[S2 f t, S2 f' t'] w fun e W' => e = .returned (.tuple #[.bool false, I 0]) ∧ Below w.heap.size w W') := fun w => by rw [← hw]; exact twithin_yes w h h'
  have hc : ∃ (p q : Bool) (k : Int), (k = 0 ∧ ¬ (p = true ∧ q = true) ∨ k = 2) ∧ (∀ w, Calls Try.prog 18 #[S2 g u, S2 f t] w fun e W' => e = .returned (.tuple #[.bool p, I k]) ∧ Below w.heap.size w W') ∧ (∀ w, Calls Try.prog 18 #[S2 g u, S2 f' t'] w fun e W' => e = .returned (.tuple #[.bool q, I k]) ∧ Below w.heap.size w W') := by
    by_cases hg : maySp g u
    · exact ⟨_, _, 0, .inl ⟨rfl, bothT_none hg.2.1 h h' hm⟩, fun w => twithin_yes w hg h, fun w => twithin_yes w hg h'⟩
    · exact ⟨false, false, 2, .inr rfl, fun w => twithin_no w (fun k => hg k.1), fun w => twithin_no w (fun k => hg k.1)⟩
  obtain ⟨p, q, ec, hec, K6, K7⟩ := hc
  have H6 : Hid (∀ w, Calls Try.prog 18 #[S2 g u, S2 f t] w fun e W' => e = .returned (.tuple #[.bool p, I ec]) ∧ Below w.heap.size w W') := K6
  have H7 : Hid (∀ w, Calls Try.prog 18 #[S2 g u, S2 f' t'] w fun e W' => e = .returned (.tuple #[.bool q, I ec]) ∧ Below w.heap.size w W') := K7
  have hec : Hid (ec = 0 ∧ ¬ (p = true ∧ q = true) ∨ ec = 2) := hec
  clear h h' hm hm' hw K6 K7
  go_enter Try.func6, Try.ntmps6
  go_wp2_with fail
  obtain ⟨W, hW, hB0, b0, b1, b2⟩ := three_boxes w (C2 f t) (C2 f' t') (C2 g u) 23 23 23
  rw [hW]
  clear hW
  refine (HA.out _).mono ?_
  rintro e w1 ⟨rfl, hT⟩
  obtain ⟨⟨c0, c1, z0⟩, ⟨c2, c3, z1⟩, c4, c5, z2⟩ := three_pairs b0 b1 b2 hT
  go_wp2_with fail
  refine (H1.out _).mono ?_
  rintro e w2 ⟨rfl, hB2⟩
  have hT := then_below hT hB2
  clear c0 c1 z0 c2 c3 z1 c4 c5 z2
  obtain ⟨⟨c0, c1, z0⟩, ⟨c2, c3, z1⟩, c4, c5, z2⟩ := three_pairs b0 b1 b2 hT
  go_wp2_with fail
  refine (H2.out _).mono ?_
  rintro e w3 ⟨rfl, hB3⟩
  have hT := then_below hT hB3
  clear c0 c1 z0 c2 c3 z1 c4 c5 z2
  obtain ⟨⟨c0, c1, z0⟩, ⟨c2, c3, z1⟩, c4, c5, z2⟩ := three_pairs b0 b1 b2 hT
  go_wp2_with fail
  refine (H3.out _).mono ?_
  rintro e w4 ⟨rfl, hB4⟩
  have hT := then_below hT hB4
  clear c0 c1 z0 c2 c3 z1 c4 c5 z2
  obtain ⟨⟨c0, c1, z0⟩, ⟨c2, c3, z1⟩, c4, c5, z2⟩ := three_pairs b0 b1 b2 hT
  go_wp2_with fail
  have hT := then_alloc hT (.cells (C2 0 0) 23)
  have s0 := Blk.new w4 23 (C2 0 0)
  generalize w4.alloc (.cells (C2 0 0) 23) = W4 at *
  refine (H4.out _).mono ?_
  rintro e w5 ⟨rfl, hB5⟩
  have hT := then_below hT hB5
  clear c0 c1 z0 c2 c3 z1 c4 c5 z2
  obtain ⟨⟨c0, c1, z0⟩, ⟨c2, c3, z1⟩, c4, c5, z2⟩ := three_pairs b0 b1 b2 hT
  have s0 := s0.later hB5
  have s0z := s0.lt
  go_wp2_with fail
  have hT := then_alloc hT (.cells (C2 0 0) 23)
  have s1 := Blk.new w5 23 (C2 0 0)
  have s0 := s0.alloc (.cells (C2 0 0) 23)
  clear s0z
  generalize w5.alloc (.cells (C2 0 0) 23) = V at *
  refine (H5.out _).mono ?_
  rintro e w6 ⟨rfl, hB6⟩
  have hT := then_below hT hB6
  clear c0 c1 z0 c2 c3 z1 c4 c5 z2
  obtain ⟨⟨c0, c1, z0⟩, ⟨c2, c3, z1⟩, c4, c5, z2⟩ := three_pairs b0 b1 b2 hT
  have s0 := s0.later hB6
  have s1 := s1.later hB6
  obtain ⟨⟨d0, d1, y0⟩, d2, d3, y1⟩ := two_pairs s0 s1 (Below.refl _ _)
  go_wp2_with fail
  clear d0 d1 y0 d2 d3 y1
  refine (H6.out _).mono ?_
  rintro e w7 ⟨rfl, hB7⟩
  have hT := then_below hT hB7
  clear c0 c1 z0 c2 c3 z1 c4 c5 z2
  obtain ⟨⟨c0, c1, z0⟩, ⟨c2, c3, z1⟩, c4, c5, z2⟩ := three_pairs b0 b1 b2 hT
  go_wp2_with fail
  refine (H7.out _).mono ?_
  rintro e w8 ⟨rfl, hB8⟩
  have hT := then_below hT hB8
  clear c0 c1 z0 c2 c3 z1 c4 c5 z2
  obtain ⟨⟨c0, c1, z0⟩, ⟨c2, c3, z1⟩, c4, c5, z2⟩ := three_pairs b0 b1 b2 hT
  rcases hec.out with ⟨rfl, hpq⟩ | rfl
  · cases p <;> cases q
    case true.true => exact absurd ⟨rfl, rfl⟩ hpq
    all_goals
      clear hpq
      go_wp2
      go_ret
      exact ⟨rfl, then_below hB0 hT⟩
  · go_wp2
    go_ret
    exact ⟨rfl, then_below hB0 hT⟩

set_option maxRecDepth 100000 in
set_option maxHeartbeats 8000000 in
theorem timeMeets_meet {f t f' t' : Int} (g u : Int) (w : World) (h : maySp f t) (h' : maySp f' t') (hm : meetsT f t f' t' = true) : Calls Try.prog 6 #[S2 f t, S2 f' t', S2 g u] w fun e W' => e = .returned (.bool true) ∧ Below w.heap.size w W' := by
  have HA : Hid (∀ w, Calls Try.prog 10 #[] w fun e W' => e = .returned (.bool true) ∧ Below w.heap.size w W') := aliveT_calls
  have hm' : meetsT f' t' f t = true := by rw [meetsT_sym]; exact hm
  have H1 : Hid (∀ w, Calls Try.prog 16 #[S2 f t, S2 f' t'] w fun e W' => e = .returned (.tuple #[.bool true, I 0]) ∧ Below w.heap.size w W') := fun w => by rw [← hm]; exact tmeet_yes w h h'
  have H2 : Hid (∀ w, Calls Try.prog 16 #[S2 f' t', S2 f t] w fun e W' => e = .returned (.tuple #[.bool true, I 0]) ∧ Below w.heap.size w W') := fun w => by rw [← hm']; exact tmeet_yes w h' h
  have H3 : Hid (∀ w, Calls Try.prog 9 #[S2 f t, S2 f' t'] w fun e W' => e = .returned (.tuple #[S2 (maxT f f') (minT t t'), I 0]) ∧ Below w.heap.size w W') := fun w => tboth_yes w h h' hm
  have H4 : Hid (∀ w, Calls Try.prog 9 #[S2 f' t', S2 f t] w fun e W' => e = .returned (.tuple #[S2 (maxT f f') (minT t t'), I 0]) ∧ Below w.heap.size w W') := fun w => by rw [(bothT_sym f t f' t').1, (bothT_sym f t f' t').2]; exact tboth_yes w h' h hm'
  have H5 : Hid (∀ w, Calls Try.prog 18 #[S2 f t, S2 f' t'] w fun e W' => e = .returned (.tuple #[.bool (wiT f t f' t'), I 0]) ∧ Below w.heap.size w W') := fun w => twithin_yes w h h'
  have hk : (wiT f t f' t' = true ∧ maxT f f' = f ∧ minT t t' = t) ∨ (wiT f t f' t' = false ∧ maxT f f' = f ∧ ¬ minT t t' = t) ∨ (wiT f t f' t' = false ∧ ¬ maxT f f' = f) := by
    rw [bothT_same h h', hm, Bool.true_and]
    by_cases k1 : maxT f f' = f <;> by_cases k2 : minT t t' = t <;> simp [k1, k2]
  have hs := bothT_may h h' hm
  have hc : ∃ (p q r : Bool) (k : Int), (k = 0 ∧ r = (p && q) ∨ k = 2) ∧ (∀ w, Calls Try.prog 18 #[S2 g u, S2 f t] w fun e W' => e = .returned (.tuple #[.bool p, I k]) ∧ Below w.heap.size w W') ∧ (∀ w, Calls Try.prog 18 #[S2 g u, S2 f' t'] w fun e W' => e = .returned (.tuple #[.bool q, I k]) ∧ Below w.heap.size w W') ∧ (∀ w, Calls Try.prog 18 #[S2 g u, S2 (maxT f f') (minT t t')] w fun e W' => e = .returned (.tuple #[.bool r, I k]) ∧ Below w.heap.size w W') := by
    by_cases hg : maySp g u
    · exact ⟨_, _, _, 0, .inl ⟨rfl, bothT_most hg.2.1⟩, fun w => twithin_yes w hg h, fun w => twithin_yes w hg h', fun w => twithin_yes w hg hs⟩
    · exact ⟨false, false, false, 2, .inr rfl, fun w => twithin_no w (fun k => hg k.1), fun w => twithin_no w (fun k => hg k.1), fun w => twithin_no w (fun k => hg k.1)⟩
  obtain ⟨p, q, r, ec, hec, K6, K7, K8⟩ := hc
  have H6 : Hid (∀ w, Calls Try.prog 18 #[S2 g u, S2 f t] w fun e W' => e = .returned (.tuple #[.bool p, I ec]) ∧ Below w.heap.size w W') := K6
  have H7 : Hid (∀ w, Calls Try.prog 18 #[S2 g u, S2 f' t'] w fun e W' => e = .returned (.tuple #[.bool q, I ec]) ∧ Below w.heap.size w W') := K7
  have H8 : Hid (∀ w, Calls Try.prog 18 #[S2 g u, S2 (maxT f f') (minT t t')] w fun e W' => e = .returned (.tuple #[.bool r, I ec]) ∧ Below w.heap.size w W') := K8
  have H9 : Hid (∀ w, Calls Try.prog 18 #[S2 (maxT f f') (minT t t'), S2 f t] w fun e W' => e = .returned (.tuple #[.bool true, I 0]) ∧ Below w.heap.size w W') := fun w => by rw [← (bothT_in h h' hm).1]; exact twithin_yes w hs h
  have HX : Hid (∀ w, Calls Try.prog 18 #[S2 (maxT f f') (minT t t'), S2 f' t'] w fun e W' => e = .returned (.tuple #[.bool true, I 0]) ∧ Below w.heap.size w W') := fun w => by rw [← (bothT_in h h' hm).2]; exact twithin_yes w hs h'
  have hec : Hid (ec = 0 ∧ r = (p && q) ∨ ec = 2) := hec
  clear h h' hm hm' K6 K7 K8 hs
  generalize maxT f f' = X at *
  generalize minT t t' = Y at *
  generalize wiT f t f' t' = r0 at *
  rcases hk with ⟨rfl, rfl, rfl⟩ | ⟨rfl, rfl, hk⟩ | ⟨rfl, hk⟩
  all_goals
    go_enter Try.func6, Try.ntmps6
    go_wp2_with fail
    obtain ⟨W, hW, hB0, b0, b1, b2⟩ := three_boxes w (C2 _ _) (C2 _ _) (C2 g u) 23 23 23
    rw [hW]
    clear hW
    refine (HA.out _).mono ?_
    rintro e w1 ⟨rfl, hT⟩
    obtain ⟨⟨c0, c1, z0⟩, ⟨c2, c3, z1⟩, c4, c5, z2⟩ := three_pairs b0 b1 b2 hT
    go_wp2_with fail
    refine (H1.out _).mono ?_
    rintro e w2 ⟨rfl, hB2⟩
    have hT := then_below hT hB2
    clear c0 c1 z0 c2 c3 z1 c4 c5 z2
    obtain ⟨⟨c0, c1, z0⟩, ⟨c2, c3, z1⟩, c4, c5, z2⟩ := three_pairs b0 b1 b2 hT
    go_wp2_with fail
    refine (H2.out _).mono ?_
    rintro e w3 ⟨rfl, hB3⟩
    have hT := then_below hT hB3
    clear c0 c1 z0 c2 c3 z1 c4 c5 z2
    obtain ⟨⟨c0, c1, z0⟩, ⟨c2, c3, z1⟩, c4, c5, z2⟩ := three_pairs b0 b1 b2 hT
    go_wp2_with fail
    refine (H3.out _).mono ?_
    rintro e w4 ⟨rfl, hB4⟩
    have hT := then_below hT hB4
    clear c0 c1 z0 c2 c3 z1 c4 c5 z2
    obtain ⟨⟨c0, c1, z0⟩, ⟨c2, c3, z1⟩, c4, c5, z2⟩ := three_pairs b0 b1 b2 hT
    go_wp2_with fail
    have hT := then_alloc hT (.cells (C2 X Y) 23)
    have s0 := Blk.new w4 23 (C2 X Y)
    generalize w4.alloc (.cells (C2 X Y) 23) = W4 at *
    refine (H4.out _).mono ?_
    rintro e w5 ⟨rfl, hB5⟩
    have hT := then_below hT hB5
    clear c0 c1 z0 c2 c3 z1 c4 c5 z2
    obtain ⟨⟨c0, c1, z0⟩, ⟨c2, c3, z1⟩, c4, c5, z2⟩ := three_pairs b0 b1 b2 hT
    have s0 := s0.later hB5
    have s0z := s0.lt
    go_wp2_with fail
    have hT := then_alloc hT (.cells (C2 X Y) 23)
    have s1 := Blk.new w5 23 (C2 X Y)
    have s0 := s0.alloc (.cells (C2 X Y) 23)
    clear s0z
    generalize w5.alloc (.cells (C2 X Y) 23) = V at *
    refine (H5.out _).mono ?_
    rintro e w6 ⟨rfl, hB6⟩
    have hT := then_below hT hB6
    clear c0 c1 z0 c2 c3 z1 c4 c5 z2
    obtain ⟨⟨c0, c1, z0⟩, ⟨c2, c3, z1⟩, c4, c5, z2⟩ := three_pairs b0 b1 b2 hT
    have s0 := s0.later hB6
    have s1 := s1.later hB6
    obtain ⟨⟨d0, d1, y0⟩, d2, d3, y1⟩ := two_pairs s0 s1 (Below.refl _ _)
    go_wp2_with fail
    clear d0 d1 y0 d2 d3 y1
    refine (H6.out _).mono ?_
    rintro e w7 ⟨rfl, hB7⟩
    have hT := then_below hT hB7
    clear c0 c1 z0 c2 c3 z1 c4 c5 z2
    obtain ⟨⟨c0, c1, z0⟩, ⟨c2, c3, z1⟩, c4, c5, z2⟩ := three_pairs b0 b1 b2 hT
    have s0 := s0.later hB7
    go_wp2_with fail
    refine (H7.out _).mono ?_
    rintro e w8 ⟨rfl, hB8⟩
    have hT := then_below hT hB8
    clear c0 c1 z0 c2 c3 z1 c4 c5 z2
    obtain ⟨⟨c0, c1, z0⟩, ⟨c2, c3, z1⟩, c4, c5, z2⟩ := three_pairs b0 b1 b2 hT
    have s0 := s0.later hB8
    rcases hec.out with ⟨rfl, rfl⟩ | rfl
    · obtain ⟨d0, d1, y0⟩ := s0.pair (Below.refl _ _)
      go_wp2_with fail
      clear d0 d1 y0
      refine (H8.out _).mono ?_
      rintro e w9 ⟨rfl, hB9⟩
      have hT := then_below hT hB9
      clear c0 c1 z0 c2 c3 z1 c4 c5 z2
      obtain ⟨⟨c0, c1, z0⟩, ⟨c2, c3, z1⟩, c4, c5, z2⟩ := three_pairs b0 b1 b2 hT
      have s0 := s0.later hB9
      obtain ⟨d0, d1, y0⟩ := s0.pair (Below.refl _ _)
      go_wp2_with fail
      clear d0 d1 y0
      refine (H9.out _).mono ?_
      rintro e w10 ⟨rfl, hB10⟩
      have hT := then_below hT hB10
      clear c0 c1 z0 c2 c3 z1 c4 c5 z2
      obtain ⟨⟨c0, c1, z0⟩, ⟨c2, c3, z1⟩, c4, c5, z2⟩ := three_pairs b0 b1 b2 hT
      have s0 := s0.later hB10
      obtain ⟨d0, d1, y0⟩ := s0.pair (Below.refl _ _)
      go_wp2_with fail
      clear d0 d1 y0
      refine (HX.out _).mono ?_
      rintro e w11 ⟨rfl, hB11⟩
      have hT := then_below hT hB11
      clear c0 c1 z0 c2 c3 z1 c4 c5 z2
      obtain ⟨⟨c0, c1, z0⟩, ⟨c2, c3, z1⟩, c4, c5, z2⟩ := three_pairs b0 b1 b2 hT
      cases p <;> cases q
      all_goals
        go_wp2
        go_ret
        exact ⟨rfl, then_below hB0 hT⟩
    · go_wp2
      go_ret
      exact ⟨rfl, then_below hB0 hT⟩

theorem timeMeets_walk (f t f' t' g u : Int) (w : World) : Calls Try.prog 6 #[S2 f t, S2 f' t', S2 g u] w fun e W' => e = .returned (.bool true) ∧ Below w.heap.size w W' := by
  by_cases h : maySp f t ∧ maySp f' t'
  · cases hm : meetsT f t f' t'
    · exact timeMeets_apart g u w h.1 h.2 hm
    · exact timeMeets_meet g u w h.1 h.2 hm
  · exact timeMeets_no g u w h

end Go.Proofs.Ytgmpenjbbhkgoaa
