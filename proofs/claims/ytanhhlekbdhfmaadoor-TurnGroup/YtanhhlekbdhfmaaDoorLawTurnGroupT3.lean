/-
  The statement TurnGroup, walked.
-/
import Derived.Test.YtanhhlekbdhfmaaDoorLawTurnGroup
namespace Go.Proofs.YtanhhlekbdhfmaaDoor
open Go Go.RowKit Go.Shelf

attribute [local go_sem] Oper.semAt_some ext_const eq_ints_at eq_bools_at
attribute [local go_sem high] eq_wants

set_option maxRecDepth 100000 in
set_option maxHeartbeats 16000000 in
theorem tg_t3 {x y z : Int} {p q r : Bool} (w : World) (hO : OrdOk w) (hm : mayD x y z) (n1 : (((turnsT (x, y, z, p, q, r, true)).length : Int) != 1) = true) (n3 : (((turnsT (x, y, z, p, q, r, true)).length : Int) != 3) = false) :
    Calls Tryd.prog 5 #[V7 x y z p q r true] w fun e W' => e = .returned (.bool true) ∧ Below w.heap.size w W' := by
  have hmx : Tryd.prog.follows .mixedOrders = true := by kernel_rfl
  have HO : Hid (OrdOk w) := hO
  clear hO
  have hmT : mayT (x, y, z, p, q, r, true) := mayT_D.2 hm
  have A := fun (w : World) (hO : OrdOk w) => all_yes (p := p) (q := q) (r := r) (t := true) w hO hm
  obtain ⟨uu, huu⟩ : ∃ uu : Wt, uu = (x, y, z, p, q, r, true) := ⟨_, rfl⟩
  have HU : Hid (uu = (x, y, z, p, q, r, true)) := huu
  have H1 : Hid (∀ x1 y1 z1 p1 q1 r1 t1, (x1, y1, z1, p1, q1, r1, t1) ∈ turnsT uu → One (turnsT uu) uu x1 y1 z1 p1 q1 r1 t1 (toriT uu) (prodT uu)) := fun _ _ _ _ _ _ _ h => one_of (by rw [huu]; exact hmT) h
  have HS : Hid (uu ∈ turnsT uu) := turns_self uu
  have HN : Hid ((turnsT uu).Nodup ∧ (turnsT uu).length ≤ 6) := ⟨rises_nodup (turns_rises (by rw [huu]; exact hmT)), turns_len (by rw [huu]; exact hmT)⟩
  have HOf : Hid (∀ (w' : World) (a b c : Int) (f g h : Bool), OrdOk w' → ofT uu a b c f g h = true → Calls Tryd.prog 14 #[V7 x y z p q r true, A3 a b c, B3 f g h] w' fun e W' => e = .returned (.tuple #[.bool true, I 0]) ∧ Below w'.heap.size w' W') := by
    intro w' a b c f g h hO e
    have := tof_yes (p := p) (q := q) (r := r) (t := true) (a := a) (b := b) (c := c) (f := f) (g := g) (h := h) w' hO hm
    rwa [← huu, e] at this
  have htu : ∀ w', Calls Tryd.prog 18 #[V7 x y z p q r true] w' fun e W' => e = .returned (.int .i64 (toriT uu)) ∧ Below w'.heap.size w' W' := fun w' => by rw [huu]; exact tori_calls x y z p q r true w'
  have hpu : wrap64 (wrap64 (x * y) * z) = prodT uu := by rw [huu]; exact mul3 hm
  rw [← huu] at A n1 n3
  generalize toriT uu = T at H1 htu
  generalize prodT uu = N at H1 hpu
  generalize turnsT uu = l at A H1 HS HN n1 n3
  clear huu hmT hm
  have b0 := Blk.new w 29 (cells7 x y z p q r true)
  have hB0 : Below w.heap.size w (w.alloc (.cells (cells7 x y z p q r true) 29)) := (Below.refl _ w).alloc (Nat.le_refl _) _
  go_enter Tryd.func5, Tryd.ntmps5
  go_wp2_with fail
  generalize w.alloc (.cells (cells7 x y z p q r true) 29) = W at *
  refine (talive_calls _ (HO.out.later hB0)).mono ?_
  rintro e w1 ⟨rfl, hT⟩
  obtain ⟨s0, s1, s2, s3, s4, s5, s6⟩ := (b0.later hT).seven
  go_wp2_with fail
  refine (A _ (HO.out.later (then_below hB0 hT))).mono ?_
  rintro e w2 ⟨v, rfl, hL, hB⟩
  have hT := then_below hT hB
  clear s0 s1 s2 s3 s4 s5 s6 A hB
  obtain ⟨ao, cap, rfl, _⟩ := hL.view
  have HL : Hid (Wl w2 w1.heap.size (.slice ao l.length cap) l) := hL
  have b1 := b0.later hT
  have HB : Hid (Below w.heap.size w w2) := then_below hB0 hT
  have hlen := HN.out.2
  clear b0 hB0 hT hL
  obtain ⟨s0, s1, s2, s3, s4, s5, s6⟩ := b1.seven
  go_wp2
  clear s0 s1 s2 s3 s4 s5 s6
  go_loopw [7, 8] (fun ow i wr => ∃ (k : Nat) (o : Bool), k ≤ l.length ∧ i = .int .i64 k ∧ ow = .bool o ∧ Hid (o = decide (uu ∈ l.take k)) ∧ Below w2.heap.size w2 wr) (fun _ i _ => l.length - (intOf i).toNat)
  case atStart => exact ⟨0, false, by omega, rfl, rfl, by show _ = _; simp, Below.refl _ _⟩
  case round =>
    obtain ⟨k, o, hk, rfl, rfl, H0, hT⟩ := hrel
    by_cases hlt : (k : Int) < (l.length : Int)
    · have hk' : k < l.length := by omega
      obtain ⟨g, x1, y1, z1, p1, q1, r1, t1, rfl, hu, hat⟩ := Wl.at (HL.out.later hT) hk'
      have HU1 : Hid (l.getD k default = (x1, y1, z1, p1, q1, r1, t1)) := hu
      have hin : (x1, y1, z1, p1, q1, r1, t1) ∈ l := by rw [← hu]; simp [hk']
      have h1 := H1.out x1 y1 z1 p1 q1 r1 t1 hin
      have A1 := fun (w : World) (hO : OrdOk w) => all_yes (p := p1) (q := q1) (r := r1) (t := t1) w hO h1.may
      rw [h1.same] at A1
      have ht1 : ∀ w', Calls Tryd.prog 18 #[V7 x1 y1 z1 p1 q1 r1 t1] w' fun e W' => e = .returned (.int .i64 T) ∧ Below w'.heap.size w' W' := fun w' => by rw [← h1.tori]; exact tori_calls x1 y1 z1 p1 q1 r1 t1 w'
      have hp1 := h1.prod
      have HOf1 : Hid (∀ w', OrdOk w' → Calls Tryd.prog 14 #[V7 x y z p q r true, A3 x1 y1 z1, B3 p1 q1 r1] w' fun e W' => e = .returned (.tuple #[.bool true, I 0]) ∧ Below w'.heap.size w' W') := fun w' hO => HOf.out w' _ _ _ _ _ _ hO h1.of
      have HNX : Hid (decide (uu ∈ l.take (k + 1)) = (decide (uu ∈ l.take k) || eqW (x1, y1, z1, p1, q1, r1, t1) (x, y, z, p, q, r, true))) := by show _ = _; rw [own_next hk' hu, HU.out]
      obtain ⟨c0, c1, c2, c3, c4, c5, c6⟩ := hat.cells
      have hgl := hat.lt
      clear hu hin h1 hat
      have b9 := Blk.new wr 29 (cells7 x1 y1 z1 p1 q1 r1 t1)
      have hB9 : Below wr.heap.size wr (wr.alloc (.cells (cells7 x1 y1 z1 p1 q1 r1 t1) 29)) := (Below.refl _ wr).alloc (Nat.le_refl _) _
      go_wp2_with fail
      refine (A1 _ (HO.out.later (then_below HB.out (then_below hT hB9)))).mono ?_
      rintro e w3 ⟨v3, rfl, hL3, hB3⟩
      have b93 := b9.later hB3
      have hT3 := then_below (then_below hT hB9) hB3
      clear A1 b9 hB9 hB3 c0 c1 c2 c3 c4 c5 c6 hgl hT
      obtain ⟨ao3, cap3, rfl, _⟩ := hL3.view
      have HL3 : Hid (Wl w3 _ (.slice ao3 l.length cap3) l) := hL3
      clear hL3
      obtain ⟨c0, c1, c2, c3, c4, c5, c6⟩ := b93.seven
      obtain ⟨s0, s1, s2, s3, s4, s5, s6⟩ := (b1.later hT3).seven
      go_wp2_with fail
      refine (HOf1.out _ (HO.out.later (then_below HB.out hT3))).mono ?_
      rintro e w4 ⟨rfl, hB4⟩
      have b94 := b93.later hB4
      have hT4 := then_below hT3 hB4
      have hsm : ∀ X : Ext w4, Calls Tryd.prog 17 #[.slice (some ⟨g, 0, none⟩) l.length cap, .slice ao3 l.length cap3] X.wd fun e W' => e = .returned (.bool true) ∧ Below X.wd.heap.size X.wd W' := fun X => by
        have := same_calls X.wd (HL.out.later (then_below hT4 X.le)) (HL3.out.later (then_below hB4 X.le)) (Nat.le_trans hlen (by omega))
        rwa [eqL_self] at this
      clear c0 c1 c2 c3 c4 c5 c6 s0 s1 s2 s3 s4 s5 s6 HOf1 b93 hT3 hB4
      obtain ⟨c0, c1, c2, c3, c4, c5, c6⟩ := b94.ext7
      obtain ⟨s0, s1, s2, s3, s4, s5, s6⟩ := (b1.later hT4).ext7
      go_wp2
      refine wp_region_look hmx (by kernel_rfl) ?_
      iterate 19 (go_big_quiet_step (first | (go_at_call 17; exact calls_ext (hsm _)) | (go_at_call 18; exact calls_ext (ht1 _))))
      repeat (go_big_quiet_step ((go_at_call 18; exact calls_ext (htu _))))
      refine wpQuiet_nil ?_
      intro X
      have hT5 := then_below hT4 X.le
      have b95 := b94.later X.le
      clear hsm ht1 b94 hT4 c0 c1 c2 c3 c4 c5 c6 s0 s1 s2 s3 s4 s5 s6 HL3
      generalize X.wd = w5 at hT5 b95 ⊢
      obtain ⟨c0, c1, c2, c3, c4, c5, c6⟩ := b95.seven
      obtain ⟨s0, s1, s2, s3, s4, s5, s6⟩ := (b1.later hT5).seven
      cases o
      · obtain ⟨o2, ho2⟩ : ∃ o2, eqW (x1, y1, z1, p1, q1, r1, t1) (x, y, z, p, q, r, true) = o2 := ⟨_, rfl⟩
        have HO2 : Hid (o2 = decide (uu ∈ l.take (k + 1))) := by show _ = _; rw [HNX.out, ← H0.out, ho2]; rfl
        go_wp2
        clear c0 c1 c2 c3 c4 c5 c6 s0 s1 s2 s3 s4 s5 s6
        go_loopw [14] (fun i wr => ∃ j : Nat, j ≤ k ∧ i = .int .i64 j ∧ Below w5.heap.size w5 wr) (fun i _ => k - (intOf i).toNat)
        case atStart => exact ⟨0, by omega, rfl, Below.refl _ _⟩
        case round =>
          obtain ⟨j, hj, rfl, hT6⟩ := hrel
          by_cases hlt2 : (j : Int) < (k : Int)
          · have hj' : j < k := by omega
            obtain ⟨g', x2, y2, z2, p2, q2, r2, t2, hg, hu2, hat2⟩ := Wl.at (HL.out.later (then_below hT5 hT6)) (show j < l.length by omega)
            have hg' : g' = g := by
              simp only [Option.some.injEq, Addr.mk.injEq, and_true] at hg
              exact hg.symm
            subst hg'
            have hq := apart_at HN.out.1 hj' hk' hu2 HU1.out
            obtain ⟨c0, c1, c2, c3, c4, c5, c6⟩ := hat2.ext
            obtain ⟨s0, s1, s2, s3, s4, s5, s6⟩ := (b95.later hT6).ext7
            clear hg hu2 hat2
            go_wp2
            refine wp_region_look hmx (by kernel_rfl) ?_
            repeat (go_big_quiet_step (fail))
            refine wpQuiet_nil ?_
            intro Y
            go_wp2
            go_roundw
            case rel => exact ⟨j + 1, by omega, by go_num, then_below hT6 Y.le⟩
            case measure => simp [intOf]; omega
          · go_wp2
            go_roundw
            case rel => exact ⟨k + 1, o2, by omega, by go_num, rfl, HO2, then_below hT5 hT6⟩
            case measure => simp [intOf]; omega
      · have HO2 : Hid (true = decide (uu ∈ l.take (k + 1))) := by show _ = _; rw [HNX.out, ← H0.out]; rfl
        go_wp2
        clear c0 c1 c2 c3 c4 c5 c6 s0 s1 s2 s3 s4 s5 s6
        go_loopw [14] (fun i wr => ∃ j : Nat, j ≤ k ∧ i = .int .i64 j ∧ Below w5.heap.size w5 wr) (fun i _ => k - (intOf i).toNat)
        case atStart => exact ⟨0, by omega, rfl, Below.refl _ _⟩
        case round =>
          obtain ⟨j, hj, rfl, hT6⟩ := hrel
          by_cases hlt2 : (j : Int) < (k : Int)
          · have hj' : j < k := by omega
            obtain ⟨g', x2, y2, z2, p2, q2, r2, t2, hg, hu2, hat2⟩ := Wl.at (HL.out.later (then_below hT5 hT6)) (show j < l.length by omega)
            have hg' : g' = g := by
              simp only [Option.some.injEq, Addr.mk.injEq, and_true] at hg
              exact hg.symm
            subst hg'
            have hq := apart_at HN.out.1 hj' hk' hu2 HU1.out
            obtain ⟨c0, c1, c2, c3, c4, c5, c6⟩ := hat2.ext
            obtain ⟨s0, s1, s2, s3, s4, s5, s6⟩ := (b95.later hT6).ext7
            clear hg hu2 hat2
            go_wp2
            refine wp_region_look hmx (by kernel_rfl) ?_
            repeat (go_big_quiet_step (fail))
            refine wpQuiet_nil ?_
            intro Y
            go_wp2
            go_roundw
            case rel => exact ⟨j + 1, by omega, by go_num, then_below hT6 Y.le⟩
            case measure => simp [intOf]; omega
          · go_wp2
            go_roundw
            case rel => exact ⟨k + 1, true, by omega, by go_num, rfl, HO2, then_below hT5 hT6⟩
            case measure => simp [intOf]; omega
    · obtain rfl : o = true := by
        rw [H0.out, List.take_of_length_le (by omega)]
        exact decide_eq_true HS.out
      go_wp2
      go_ret
      exact ⟨rfl, then_below HB.out hT⟩

end Go.Proofs.YtanhhlekbdhfmaaDoor
