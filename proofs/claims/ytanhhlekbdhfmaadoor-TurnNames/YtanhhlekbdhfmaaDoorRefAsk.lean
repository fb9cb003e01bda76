/-
  The document's All, Fits, Of for layer 4.
-/
import Derived.Test.YtanhhlekbdhfmaaDoorRefTurns
namespace Go.Proofs.YtanhhlekbdhfmaaDoor
open Go Go.RowKit Go.Shelf

attribute [local go_sem] Oper.semAt_some ext_const eq_ints_at eq_bools_at
attribute [local go_sem high] eq_wants

theorem turns_calls {x y z : Int} {p q r t : Bool} (w : World) (hm : mayD x y z) :
    Calls Tryd.prog 25 #[V7 x y z p q r t] w fun e W' => ∃ v, e = .returned v ∧ Wl W' w.heap.size v (turnsT (x, y, z, p, q, r, t)) ∧ Below w.heap.size w W' := by
  cases t
  · exact turns_one w
  · exact turns_six w (mayT_D.2 hm)
theorem turns_len {w : Wt} (hw : mayT w) : (turnsT w).length ≤ 6 := by
  rw [len_eq (rises_nodup (turns_rises hw)) (rots_nodup w) fun u => (rots_mem w u).symm]
  exact rots_len w

set_option maxRecDepth 100000 in
theorem wall_no {x y z : Int} {p q r t : Bool} (w : World) (hm : ¬ mayD x y z) :
    Calls Tryd.prog 12 #[V7 x y z p q r t] w fun e W' => e = .returned (.tuple #[.slice none 0 0, I 8]) ∧ Below w.heap.size w W' := by
  have hc := fun w => wmay_no (p := p) (q := q) (r := r) (t := t) w hm
  clear hm
  have hB : Below w.heap.size w (w.alloc (.cells (cells7 x y z p q r t) 29)) := (Below.refl _ w).alloc (Nat.le_refl _) _
  go_enter Tryd.func12, Tryd.ntmps12
  go_wp2_with fail
  refine (hc _).mono ?_
  rintro e w1 ⟨rfl, hT⟩
  go_wp2_with fail
  go_ret2
  exact ⟨rfl, then_below hB hT⟩
set_option maxRecDepth 100000 in
theorem wall_yes {x y z : Int} {p q r t : Bool} (w : World) (hm : mayD x y z) :
    Calls Tryd.prog 12 #[V7 x y z p q r t] w fun e W' => ∃ v, e = .returned (.tuple #[v, I 0]) ∧ Wl W' w.heap.size v (turnsT (x, y, z, p, q, r, t)) ∧ Below w.heap.size w W' := by
  have hc := fun w => wmay_yes (p := p) (q := q) (r := r) (t := t) w hm
  have hr := fun (w : World) => turns_calls (p := p) (q := q) (r := r) (t := t) w hm
  generalize turnsT (x, y, z, p, q, r, t) = ts at hr ⊢
  clear hm
  have hB : Below w.heap.size w (w.alloc (.cells (cells7 x y z p q r t) 29)) := (Below.refl _ w).alloc (Nat.le_refl _) _
  have b0 : Blk (w.alloc (.cells (cells7 x y z p q r t) 29)) w.heap.size 29 (cells7 x y z p q r t) := Blk.new w _ _
  go_enter Tryd.func12, Tryd.ntmps12
  go_wp2_with fail
  refine (hc _).mono ?_
  rintro e w1 ⟨rfl, hT⟩
  obtain ⟨s0, s1, s2, s3, s4, s5, s6⟩ := (b0.later hT).seven
  have hT1 := then_below hB hT
  clear hc hT b0
  go_wp2_with fail
  refine (hr _).mono ?_
  rintro e w2 ⟨v, rfl, hW, hB2⟩
  have hT2 := then_below hT1 hB2
  have hW' := hW.weak hT1.size
  clear hr hW hB2
  go_wp2_with fail
  go_ret2
  exact ⟨_, rfl, hW', hT2⟩

set_option maxRecDepth 100000 in
set_option maxHeartbeats 1000000 in
theorem wfits_no {a b c x y z : Int} {p q r t : Bool} (w : World) (h : ¬ (mayD a b c ∧ mayD x y z)) :
    Calls Tryd.prog 13 #[A3 a b c, V7 x y z p q r t] w fun e W' => e = .returned (.tuple #[.bool false, I 8]) ∧ Below w.heap.size w W' := by
  obtain ⟨W, hW, hBW, b0, b1⟩ := two_start w #[I a, I b, I c] (cells7 x y z p q r t) 33 29
  have HW : Hid ((w.alloc (.cells #[I a, I b, I c] 33)).alloc (.cells (cells7 x y z p q r t) 29) = W) := hW
  clear hW b0
  by_cases hd : mayD a b c
  · have hm : ¬ mayD x y z := fun k => h ⟨hd, k⟩
    have hc0 := fun w => rmay_yes w hd
    have hc := fun w => wmay_no (p := p) (q := q) (r := r) (t := t) w hm
    clear hd hm h
    go_enter Tryd.func13, Tryd.ntmps13
    go_wp2_with fail
    rw [HW.out]
    refine (hc0 _).mono ?_
    rintro e w1 ⟨rfl, hT⟩
    obtain ⟨s0, s1, s2, s3, s4, s5, s6⟩ := (b1.later hT).seven
    clear hc0
    go_wp2_with fail
    refine (hc _).mono ?_
    rintro e w2 ⟨rfl, hT'⟩
    go_wp2
    go_ret2
    exact ⟨rfl, then_below (then_below hBW hT) hT'⟩
  · have hc0 := fun w => rmay_no w hd
    clear hd h
    go_enter Tryd.func13, Tryd.ntmps13
    go_wp2_with fail
    rw [HW.out]
    refine (hc0 _).mono ?_
    rintro e w1 ⟨rfl, hT⟩
    go_wp2
    go_ret2
    exact ⟨rfl, then_below hBW hT⟩

set_option maxRecDepth 100000 in
set_option maxHeartbeats 4000000 in
theorem wfits_yes {a b c x y z : Int} {p q r t : Bool} (w : World) (hd : mayD a b c) (hm : mayD x y z) :
    Calls Tryd.prog 13 #[A3 a b c, V7 x y z p q r t] w fun e W' => e = .returned (.tuple #[.bool (fitsT (a, b, c) (x, y, z, p, q, r, t)), I 0]) ∧ Below w.heap.size w W' := by
  have hmx : Tryd.prog.follows .mixedOrders = true := by kernel_rfl
  have hc0 := fun w => rmay_yes w hd
  have hc := fun w => wmay_yes (p := p) (q := q) (r := r) (t := t) w hm
  have hr := fun (w : World) => turns_calls (p := p) (q := q) (r := r) (t := t) w hm
  have hf := rwithin_calls a b c
  have HA : Hid (fitsT (a, b, c) (x, y, z, p, q, r, t) = (turnsT (x, y, z, p, q, r, t)).any (withinT (a, b, c))) := rfl
  have HN : Hid ((turnsT (x, y, z, p, q, r, t)).length ≤ 6) := turns_len (mayT_D.2 hm)
  generalize fitsT (a, b, c) (x, y, z, p, q, r, t) = ans at HA ⊢
  generalize turnsT (x, y, z, p, q, r, t) = rs at HA HN hr
  clear hm hd
  obtain ⟨W, hW, hBW, b0, b1⟩ := two_start w #[I a, I b, I c] (cells7 x y z p q r t) 33 29
  have HW : Hid ((w.alloc (.cells #[I a, I b, I c] 33)).alloc (.cells (cells7 x y z p q r t) 29) = W) := hW
  clear hW
  go_enter Tryd.func13, Tryd.ntmps13
  go_wp2_with fail
  rw [HW.out]
  refine (hc0 _).mono ?_
  rintro e w1 ⟨rfl, hT⟩
  obtain ⟨s0, s1, s2, s3, s4, s5, s6⟩ := (b1.later hT).seven
  clear hc0
  go_wp2_with fail
  refine (hc _).mono ?_
  rintro e w2 ⟨rfl, hT'⟩
  have hT2 := then_below hT hT'
  clear hc s0 s1 s2 s3 s4 s5 s6 hT hT'
  obtain ⟨s0, s1, s2, s3, s4, s5, s6⟩ := (b1.later hT2).seven
  go_wp2_with fail
  refine (hr _).mono ?_
  rintro e w3 ⟨v, rfl, hL, hB3⟩
  have hT3 := then_below hT2 hB3
  clear hr s0 s1 s2 s3 s4 s5 s6 hT2
  obtain ⟨ao, cap, rfl, _⟩ := hL.view
  have hn := HN.out
  have b0' := b0.later hT3
  have HB : Hid (Below w.heap.size w w3) := then_below hBW hT3
  have HL : Hid (Wl w3 w2.heap.size (.slice ao rs.length cap) rs) := hL
  clear b0 b1 hT3 hBW hB3 hL
  go_wp2
  go_loopw [7] (fun i wr => ∃ k : Nat, k ≤ rs.length ∧ i = .int .i64 k ∧ Hid (∀ j, j < k → withinT (a, b, c) (rs.getD j default) = false) ∧ Below w3.heap.size w3 wr) (fun i _ => rs.length - (intOf i).toNat)
  case atStart => exact ⟨0, by omega, rfl, fun j hj => by omega, Below.refl _ _⟩
  case round =>
    obtain ⟨k, hk, rfl, H0, hT⟩ := hrel
    by_cases hlt : (k : Int) < (rs.length : Int)
    · have hk' : k < rs.length := by omega
      obtain ⟨g, x1, y1, z1, p1, q1, r1, t1, rfl, hu, hat⟩ := Wl.at (HL.out.later hT) hk'
      obtain ⟨c0, c1, c2, _, _, _, _⟩ := hat.ext
      have d0 := Ext.cell (b0'.later hT) 0
      have d1 := Ext.cell (b0'.later hT) 1
      have d2 := Ext.cell (b0'.later hT) 2
      simp at d0 d1 d2
      have HU : Hid (rs.getD k default = (x1, y1, z1, p1, q1, r1, t1)) := hu
      clear hu hat
      have hf1 := hf x1 y1 z1 p1 q1 r1 t1
      cases hq : withinT (a, b, c) (x1, y1, z1, p1, q1, r1, t1)
      · rw [hq] at hf1
        have HQ : Hid (withinT (a, b, c) (rs.getD k default) = false) := by show _ = _; rw [HU.out]; exact hq
        clear hq
        go_wp2
        refine wp_region_look hmx (by kernel_rfl) ?_
        repeat (go_big_quiet_step ((go_at_call 27; exact calls_ext (hf1 _))))
        refine wpQuiet_nil ?_
        intro X
        go_wp2
        go_roundw
        case rel => exact ⟨k + 1, by omega, by go_num, fun j hj => by
            by_cases e : j = k
            · subst e; exact HQ.out
            · exact H0.out j (by omega), then_below hT X.le⟩
        case measure => simp [intOf]; omega
      · rw [hq] at hf1
        obtain rfl : ans = true := by
          rw [HA.out]
          exact anyT_hit hk' (by rw [HU.out]; exact hq)
        clear hq
        go_wp2
        refine wp_region_look hmx (by kernel_rfl) ?_
        repeat (go_big_quiet_step ((go_at_call 27; exact calls_ext (hf1 _))))
        refine wpQuiet_nil ?_
        intro X
        go_wp2
        go_ret2
        exact ⟨rfl, then_below HB.out (then_below hT X.le)⟩
    · obtain rfl : ans = false := by
        rw [HA.out]
        exact anyT_miss fun j hj => H0.out j (by omega)
      go_wp2
      go_ret2
      exact ⟨rfl, then_below HB.out hT⟩

set_option maxRecDepth 100000 in
set_option maxHeartbeats 1000000 in
theorem wof_no {x y z a b c : Int} {p q r t f g h : Bool} (w : World) (hm : ¬ mayD x y z) :
    Calls Tryd.prog 15 #[V7 x y z p q r t, A3 a b c, B3 f g h] w fun e W' => e = .returned (.tuple #[.bool false, I 8]) ∧ Below w.heap.size w W' := by
  obtain ⟨W, hW, hBW, b0, b1, b2⟩ := three_turn w (cells7 x y z p q r t) #[I a, I b, I c] #[.bool f, .bool g, .bool h] 29 26 27
  have HW : Hid (((w.alloc (.cells (cells7 x y z p q r t) 29)).alloc (.cells #[I a, I b, I c] 26)).alloc (.cells #[.bool f, .bool g, .bool h] 27) = W) := hW
  have hc := fun w => wmay_no (p := p) (q := q) (r := r) (t := t) w hm
  clear hW hm
  go_enter Tryd.func15, Tryd.ntmps15
  go_wp2_with fail
  rw [HW.out]
  refine (hc _).mono ?_
  rintro e w1 ⟨rfl, hT⟩
  go_wp2
  go_ret2
  exact ⟨rfl, then_below hBW hT⟩

set_option maxRecDepth 100000 in
set_option maxHeartbeats 4000000 in
theorem wof_yes {x y z a b c : Int} {p q r t f g h : Bool} (w : World) (hm : mayD x y z) :
    Calls Tryd.prog 15 #[V7 x y z p q r t, A3 a b c, B3 f g h] w fun e W' => e = .returned (.tuple #[.bool (ofT (x, y, z, p, q, r, t) a b c f g h), I 0]) ∧ Below w.heap.size w W' := by
  have hmx : Tryd.prog.follows .mixedOrders = true := by kernel_rfl
  have hc := fun w => wmay_yes (p := p) (q := q) (r := r) (t := t) w hm
  have hr := fun (w : World) => turns_calls (p := p) (q := q) (r := r) (t := t) w hm
  have HA : Hid (ofT (x, y, z, p, q, r, t) a b c f g h = (turnsT (x, y, z, p, q, r, t)).any (hasTs a b c f g h)) := rfl
  have HN : Hid ((turnsT (x, y, z, p, q, r, t)).length ≤ 6) := turns_len (mayT_D.2 hm)
  generalize ofT (x, y, z, p, q, r, t) a b c f g h = ans at HA ⊢
  generalize turnsT (x, y, z, p, q, r, t) = rs at HA HN hr
  clear hm
  obtain ⟨W, hW, hBW, b0, b1, b2⟩ := three_turn w (cells7 x y z p q r t) #[I a, I b, I c] #[.bool f, .bool g, .bool h] 29 26 27
  have HW : Hid (((w.alloc (.cells (cells7 x y z p q r t) 29)).alloc (.cells #[I a, I b, I c] 26)).alloc (.cells #[.bool f, .bool g, .bool h] 27) = W) := hW
  clear hW
  go_enter Tryd.func15, Tryd.ntmps15
  go_wp2_with fail
  rw [HW.out]
  refine (hc _).mono ?_
  rintro e w2 ⟨rfl, hT2⟩
  clear hc
  obtain ⟨s0, s1, s2, s3, s4, s5, s6⟩ := (b0.later hT2).seven
  go_wp2_with fail
  refine (hr _).mono ?_
  rintro e w3 ⟨v, rfl, hL, hB3⟩
  have hT3 := then_below hT2 hB3
  clear hr s0 s1 s2 s3 s4 s5 s6 hT2
  obtain ⟨ao, cap, rfl, _⟩ := hL.view
  have hn := HN.out
  have b1' := b1.later hT3
  have b2' := b2.later hT3
  have HB : Hid (Below w.heap.size w w3) := then_below hBW hT3
  have HL : Hid (Wl w3 w2.heap.size (.slice ao rs.length cap) rs) := hL
  clear b0 b1 b2 hT3 hBW hB3 hL
  go_wp2
  go_loopw [9] (fun i wr => ∃ k : Nat, k ≤ rs.length ∧ i = .int .i64 k ∧ Hid (∀ j, j < k → hasTs a b c f g h (rs.getD j default) = false) ∧ Below w3.heap.size w3 wr) (fun i _ => rs.length - (intOf i).toNat)
  case atStart => exact ⟨0, by omega, rfl, fun j hj => by omega, Below.refl _ _⟩
  case round =>
    obtain ⟨k, hk, rfl, H0, hT⟩ := hrel
    by_cases hlt : (k : Int) < (rs.length : Int)
    · have hk' : k < rs.length := by omega
      obtain ⟨gg, x1, y1, z1, p1, q1, r1, t1, rfl, hu, hat⟩ := Wl.at (HL.out.later hT) hk'
      obtain ⟨c0, c1, c2, c3, c4, c5, c6⟩ := hat.ext
      have d0 := Ext.cell (b1'.later hT) 0
      have d1 := Ext.cell (b1'.later hT) 1
      have d2 := Ext.cell (b1'.later hT) 2
      have e0 := Ext.cell (b2'.later hT) 0
      have e1 := Ext.cell (b2'.later hT) 1
      have e2 := Ext.cell (b2'.later hT) 2
      simp at d0 d1 d2 e0 e1 e2
      have HU : Hid (rs.getD k default = (x1, y1, z1, p1, q1, r1, t1)) := hu
      have HH : Hid (hasTs a b c f g h (x1, y1, z1, p1, q1, r1, t1) = (eqN x1 y1 z1 a b c && eqB p1 q1 r1 f g h)) := rfl
      clear hu hat
      cases hq : eqN x1 y1 z1 a b c
      · have HQ : Hid (hasTs a b c f g h (rs.getD k default) = false) := by show _ = _; rw [HU.out, HH.out, hq]; rfl
        go_wp2
        refine wp_region_look hmx (by kernel_rfl) ?_
        repeat (go_big_quiet_step (fail))
        refine wpQuiet_nil ?_
        intro X
        go_wp2
        go_roundw
        case rel => exact ⟨k + 1, by omega, by go_num, fun j hj => by
            by_cases e : j = k
            · subst e; exact HQ.out
            · exact H0.out j (by omega), then_below hT X.le⟩
        case measure => simp [intOf]; omega
      · cases hq2 : eqB p1 q1 r1 f g h
        · have HQ : Hid (hasTs a b c f g h (rs.getD k default) = false) := by show _ = _; rw [HU.out, HH.out, hq, hq2]; rfl
          go_wp2
          refine wp_region_look hmx (by kernel_rfl) ?_
          repeat (go_big_quiet_step (fail))
          refine wpQuiet_nil ?_
          intro X
          go_wp2
          go_roundw
          case rel => exact ⟨k + 1, by omega, by go_num, fun j hj => by
              by_cases e : j = k
              · subst e; exact HQ.out
              · exact H0.out j (by omega), then_below hT X.le⟩
          case measure => simp [intOf]; omega
        · obtain rfl : ans = true := by
            rw [HA.out]
            exact anyT_hit hk' (by rw [HU.out, HH.out, hq, hq2]; rfl)
          go_wp2
          refine wp_region_look hmx (by kernel_rfl) ?_
          repeat (go_big_quiet_step (fail))
          refine wpQuiet_nil ?_
          intro X
          go_wp2
          go_ret2
          exact ⟨rfl, then_below HB.out (then_below hT X.le)⟩
    · obtain rfl : ans = false := by
        rw [HA.out]
        exact anyT_miss fun j hj => H0.out j (by omega)
      go_wp2
      go_ret2
      exact ⟨rfl, then_below HB.out hT⟩

end Go.Proofs.YtanhhlekbdhfmaaDoor
