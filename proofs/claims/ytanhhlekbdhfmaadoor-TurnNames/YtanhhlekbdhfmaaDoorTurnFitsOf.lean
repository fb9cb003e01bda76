/-
  turn.Fits, turn.Of: whether any rotation fits, whether one has a size and tori.
-/
import Derived.Test.YtanhhlekbdhfmaaDoorTurnAll
namespace Go.Proofs.YtanhhlekbdhfmaaDoor
open Go Go.RowKit Go.Shelf

attribute [local go_sem] Oper.semAt_some ext_const eq_ints_at eq_bools_at

theorem any_rots (f : Wt → Bool) (w : Wt) : (rotsT w).any f = (turnsT w).any f := by
  rw [Bool.eq_iff_iff, List.any_eq_true, List.any_eq_true]
  constructor
  · rintro ⟨u, hu, h⟩; exact ⟨u, (rots_mem w u).1 hu, h⟩
  · rintro ⟨u, hu, h⟩; exact ⟨u, (rots_mem w u).2 hu, h⟩
theorem anyT_hit {f : Wt → Bool} {l : List Wt} {k : Nat} (hk : k < l.length) (h : f (l.getD k default) = true) : l.any f = true := by
  refine List.any_eq_true.2 ⟨l[k], List.getElem_mem hk, ?_⟩
  simpa [hk] using h
theorem anyT_miss {f : Wt → Bool} {l : List Wt} (h : ∀ j, j < l.length → f (l.getD j default) = false) : l.any f = false := by
  rw [Bool.eq_false_iff]
  intro e
  obtain ⟨u, hu, hf⟩ := List.any_eq_true.1 e
  obtain ⟨j, hj, rfl⟩ := List.getElem_of_mem hu
  have := h j hj
  rw [List.getD_eq_getElem?_getD, List.getElem?_eq_getElem hj, Option.getD_some] at this
  rw [this] at hf
  cases hf

/-- The list holds, at place k, one that is asked for. -/
theorem Wl.at {W : World} {base : Nat} {ao : Option Addr} {cap n : Nat} {ws : List Wt} (h : Wl W base (.slice ao n cap) ws) {k : Nat} (hk : k < ws.length) : ∃ g x y z p q r t, ao = some ⟨g, 0, none⟩ ∧ ws.getD k default = (x, y, z, p, q, r, t) ∧ At7 W g (k * 7) (x, y, z, p, q, r, t) := by
  obtain ⟨ao', cap', e, hv⟩ := h.view
  obtain ⟨g, hg, ha⟩ := hv k hk
  rw [Value.slice.injEq] at e
  rcases hu : ws.getD k default with ⟨x, y, z, p, q, r, t⟩
  rw [hu] at ha
  exact ⟨g, x, y, z, p, q, r, t, e.1.trans hg, rfl, ha⟩

set_option maxRecDepth 100000 in
set_option maxHeartbeats 4000000 in
theorem fits_yes {a b c x y z : Int} {p q r t : Bool} (w : World) (hO : OrdOk w) (hd : mayD a b c) (hm : mayD x y z) :
    Calls Tryd.prog 9 #[A3 a b c, V7 x y z p q r t] w fun e W' => e = .returned (.tuple #[.bool (fitsT (a, b, c) (x, y, z, p, q, r, t)), I 0]) ∧ Below w.heap.size w W' := by
  have hmT : mayT (x, y, z, p, q, r, t) := mayT_D.2 hm
  have hc0 := fun w => check_yes w hd
  have hc := fun w => tcheck_yes (p := p) (q := q) (r := r) (t := t) w hm
  have hr := fun (w : World) (hO : OrdOk w) => rots_calls w hO hmT
  have hf := tfits_calls a b c
  have HA : Hid (fitsT (a, b, c) (x, y, z, p, q, r, t) = (rotsT (x, y, z, p, q, r, t)).any (withinT (a, b, c))) := (any_rots _ _).symm
  have HN : Hid ((rotsT (x, y, z, p, q, r, t)).length ≤ 6) := rots_len _
  generalize fitsT (a, b, c) (x, y, z, p, q, r, t) = ans at HA ⊢
  generalize rotsT (x, y, z, p, q, r, t) = rs at HA HN hr
  clear hm hmT hd
  have HO : Hid (OrdOk w) := hO
  clear hO
  obtain ⟨W, hW, hBW, b0, b1⟩ := two_start w #[I a, I b, I c] (cells7 x y z p q r t) 33 29
  have HW : Hid ((w.alloc (.cells #[I a, I b, I c] 33)).alloc (.cells (cells7 x y z p q r t) 29) = W) := hW
  clear hW
  go_enter Tryd.func9, Tryd.ntmps9
  go_wp2_with fail
  rw [HW.out]
  refine (hc0 _).mono ?_
  rintro e w1 ⟨rfl, hT⟩
  obtain ⟨s0, s1, s2, s3, s4, s5, s6⟩ := (b1.later hT).seven
  clear hc0
  go_wp2_with fail
  refine (hc _).mono ?_
  rintro e w2 ⟨rfl, hT'⟩
  have hT2 := then_below hT hT'
  clear hc s0 s1 s2 s3 s4 s5 s6 hT hT'
  obtain ⟨s0, s1, s2, s3, s4, s5, s6⟩ := (b1.later hT2).seven
  have HT2 : Hid (Below w.heap.size w w2) := then_below hBW hT2
  go_wp2_with fail
  refine (hr _ (HO.out.later HT2.out)).mono ?_
  rintro e w3 ⟨v, rfl, hL, hB3⟩
  have hT3 := then_below hT2 hB3
  clear hr s0 s1 s2 s3 s4 s5 s6 hT2
  obtain ⟨ao, cap, rfl, _⟩ := hL.view
  have hn := HN.out
  have b0' := b0.later hT3
  have HB : Hid (Below w.heap.size w w3) := then_below hBW hT3
  have HL : Hid (Wl w3 w2.heap.size (.slice ao rs.length cap) rs) := hL
  clear b0 b1 hT3 hBW hB3 hL
  go_wp2
  go_loopw [23] (fun i wr => ∃ k : Nat, k ≤ rs.length ∧ i = .int .i64 k ∧ Hid (∀ j, j < k → withinT (a, b, c) (rs.getD j default) = false) ∧ Below w3.heap.size w3 wr) (fun i _ => rs.length - (intOf i).toNat)
  case atStart => exact ⟨0, by omega, rfl, fun j hj => by omega, Below.refl _ _⟩
  case round =>
    obtain ⟨k, hk, rfl, H0, hT⟩ := hrel
    by_cases hlt : (k : Int) < (rs.length : Int)
    · have hk' : k < rs.length := by omega
      obtain ⟨g, x1, y1, z1, p1, q1, r1, t1, rfl, hu, hat⟩ := Wl.at (HL.out.later hT) hk'
      obtain ⟨c0, c1, c2, c3, c4, c5, c6⟩ := hat.cells
      have hgl := hat.lt
      obtain ⟨d0, d1, d2, dl⟩ := b0'.three hT
      have HU : Hid (rs.getD k default = (x1, y1, z1, p1, q1, r1, t1)) := hu
      clear hu hat
      have hf1 := hf x1 y1 z1 p1 q1 r1 t1
      cases hq : withinT (a, b, c) (x1, y1, z1, p1, q1, r1, t1)
      · rw [hq] at hf1
        have HQ : Hid (withinT (a, b, c) (rs.getD k default) = false) := by show _ = _; rw [HU.out]; exact hq
        clear hq
        go_wp2_with (go_at_call 23; refine (hf1 _).mono ?_; rintro e w4 ⟨rfl, hB4⟩)
        go_roundw
        case rel => exact ⟨k + 1, by omega, by go_num, fun j hj => by
            by_cases e : j = k
            · subst e; exact HQ.out
            · exact H0.out j (by omega), then_below (then_alloc hT _) hB4⟩
        case measure => simp [intOf]; omega
      · rw [hq] at hf1
        obtain rfl : ans = true := by
          rw [HA.out]
          exact anyT_hit hk' (by rw [HU.out]; exact hq)
        clear hq
        go_wp2_with (go_at_call 23; refine (hf1 _).mono ?_; rintro e w4 ⟨rfl, hB4⟩)
        go_ret2
        exact ⟨rfl, then_below HB.out (then_below (then_alloc hT _) hB4)⟩
    · obtain rfl : ans = false := by
        rw [HA.out]
        exact anyT_miss fun j hj => H0.out j (by omega)
      go_wp2
      go_ret2
      exact ⟨rfl, then_below HB.out hT⟩

set_option maxRecDepth 100000 in
set_option maxHeartbeats 1000000 in
theorem fits_no {a b c x y z : Int} {p q r t : Bool} (w : World) (h : ¬ (mayD a b c ∧ mayD x y z)) :
    Calls Tryd.prog 9 #[A3 a b c, V7 x y z p q r t] w fun e W' => e = .returned (.tuple #[.bool false, I 8]) ∧ Below w.heap.size w W' := by
  obtain ⟨W, hW, hBW, b0, b1⟩ := two_start w #[I a, I b, I c] (cells7 x y z p q r t) 33 29
  have HW : Hid ((w.alloc (.cells #[I a, I b, I c] 33)).alloc (.cells (cells7 x y z p q r t) 29) = W) := hW
  clear hW b0
  by_cases hd : mayD a b c
  · have hm : ¬ mayD x y z := fun k => h ⟨hd, k⟩
    have hc0 := fun w => check_yes w hd
    have hc := fun w => tcheck_no (p := p) (q := q) (r := r) (t := t) w hm
    clear hd hm h
    go_enter Tryd.func9, Tryd.ntmps9
    go_wp2_with fail
    rw [HW.out]
    refine (hc0 _).mono ?_
    rintro e w1 ⟨rfl, hT⟩
    obtain ⟨s0, s1, s2, s3, s4, s5, s6⟩ := (b1.later hT).seven
    clear hc0
    go_wp2_with fail
    refine (hc _).mono ?_
    rintro e w2 ⟨rfl, hT'⟩
    go_wp2
    go_ret2
    exact ⟨rfl, then_below (then_below hBW hT) hT'⟩
  · have hc0 := fun w => check_no w hd
    clear hd h
    go_enter Tryd.func9, Tryd.ntmps9
    go_wp2_with fail
    rw [HW.out]
    refine (hc0 _).mono ?_
    rintro e w1 ⟨rfl, hT⟩
    go_wp2
    go_ret2
    exact ⟨rfl, then_below hBW hT⟩

/-- One has this size and these tori. -/
def hasTs (a b c : Int) (f g h : Bool) : Wt → Bool | (x, y, z, p, q, r, _) => eqN x y z a b c && eqB p q r f g h
def ofT (w : Wt) (a b c : Int) (f g h : Bool) : Bool := (turnsT w).any (hasTs a b c f g h)

theorem three_turn (w : World) (u0 u1 u2 : Array Value) (t0 t1 t2 : TypeId) :
    ∃ W : World, ((w.alloc (.cells u0 t0)).alloc (.cells u1 t1)).alloc (.cells u2 t2) = W ∧ Below w.heap.size w W ∧ Blk W w.heap.size t0 u0 ∧ Blk W (w.heap.size + 1) t1 u1 ∧ Blk W (w.heap.size + 1 + 1) t2 u2 := by
  refine ⟨_, rfl, (((Below.refl _ w).alloc (Nat.le_refl _) _).alloc (by simp) _).alloc (by simp; omega) _, ?_, ?_, ?_⟩
  · exact ((Blk.new w t0 u0).alloc _).alloc _
  · have := (Blk.new (w.alloc (.cells u0 t0)) t1 u1).alloc (.cells u2 t2); simpa using this
  · have := Blk.new ((w.alloc (.cells u0 t0)).alloc (.cells u1 t1)) t2 u2; simpa using this

theorem Blk.threeB {W W' : World} {B : Nat} {t : TypeId} {a b c : Value} (h : Blk W B t #[a, b, c]) (hb : Below W.heap.size W W') :
    W'.cell? ⟨B, 0, none⟩ = some a ∧ W'.cell? ⟨B, 1, none⟩ = some b ∧ W'.cell? ⟨B, 2, none⟩ = some c ∧ B < W'.heap.size :=
  ⟨(h.later hb).cell 0, (h.later hb).cell 1, (h.later hb).cell 2, (h.later hb).lt⟩

set_option maxRecDepth 100000 in
set_option maxHeartbeats 1000000 in
theorem tof_no {x y z a b c : Int} {p q r t f g h : Bool} (w : World) (hm : ¬ mayD x y z) :
    Calls Tryd.prog 14 #[V7 x y z p q r t, A3 a b c, B3 f g h] w fun e W' => e = .returned (.tuple #[.bool false, I 8]) ∧ Below w.heap.size w W' := by
  obtain ⟨W, hW, hBW, b0, b1, b2⟩ := three_turn w (cells7 x y z p q r t) #[I a, I b, I c] #[.bool f, .bool g, .bool h] 29 26 27
  have HW : Hid (((w.alloc (.cells (cells7 x y z p q r t) 29)).alloc (.cells #[I a, I b, I c] 26)).alloc (.cells #[.bool f, .bool g, .bool h] 27) = W) := hW
  have hc := fun w => tcheck_no (p := p) (q := q) (r := r) (t := t) w hm
  clear hW hm
  go_enter Tryd.func14, Tryd.ntmps14
  go_wp2_with fail
  rw [HW.out]
  refine (hc _).mono ?_
  rintro e w1 ⟨rfl, hT⟩
  go_wp2
  go_ret2
  exact ⟨rfl, then_below hBW hT⟩

set_option maxRecDepth 100000 in
set_option maxHeartbeats 4000000 in
theorem tof_yes {x y z a b c : Int} {p q r t f g h : Bool} (w : World) (hO : OrdOk w) (hm : mayD x y z) :
    Calls Tryd.prog 14 #[V7 x y z p q r t, A3 a b c, B3 f g h] w fun e W' => e = .returned (.tuple #[.bool (ofT (x, y, z, p, q, r, t) a b c f g h), I 0]) ∧ Below w.heap.size w W' := by
  have hmT : mayT (x, y, z, p, q, r, t) := mayT_D.2 hm
  have hc := fun w => tcheck_yes (p := p) (q := q) (r := r) (t := t) w hm
  have hr := fun (w : World) (hO : OrdOk w) => rots_calls w hO hmT
  have HA : Hid (ofT (x, y, z, p, q, r, t) a b c f g h = (rotsT (x, y, z, p, q, r, t)).any (hasTs a b c f g h)) := (any_rots _ _).symm
  have HN : Hid ((rotsT (x, y, z, p, q, r, t)).length ≤ 6) := rots_len _
  generalize ofT (x, y, z, p, q, r, t) a b c f g h = ans at HA ⊢
  generalize rotsT (x, y, z, p, q, r, t) = rs at HA HN hr
  clear hm hmT
  have HO : Hid (OrdOk w) := hO
  clear hO
  obtain ⟨W, hW, hBW, b0, b1, b2⟩ := three_turn w (cells7 x y z p q r t) #[I a, I b, I c] #[.bool f, .bool g, .bool h] 29 26 27
  have HW : Hid (((w.alloc (.cells (cells7 x y z p q r t) 29)).alloc (.cells #[I a, I b, I c] 26)).alloc (.cells #[.bool f, .bool g, .bool h] 27) = W) := hW
  clear hW
  go_enter Tryd.func14, Tryd.ntmps14
  go_wp2_with fail
  rw [HW.out]
  refine (hc _).mono ?_
  rintro e w2 ⟨rfl, hT2⟩
  clear hc
  obtain ⟨s0, s1, s2, s3, s4, s5, s6⟩ := (b0.later hT2).seven
  have HT2 : Hid (Below w.heap.size w w2) := then_below hBW hT2
  go_wp2_with fail
  refine (hr _ (HO.out.later HT2.out)).mono ?_
  rintro e w3 ⟨v, rfl, hL, hB3⟩
  have hT3 := then_below hT2 hB3
  clear hr s0 s1 s2 s3 s4 s5 s6 hT2
  obtain ⟨ao, cap, rfl, _⟩ := hL.view
  have hn := HN.out
  have b1' := b1.later hT3
  have b2' := b2.later hT3
  have HB : Hid (Below w.heap.size w w3) := then_below hBW hT3
  have HL : Hid (Wl w3 w2.heap.size (.slice ao rs.length cap) rs) := hL
  clear b0 b1 b2 hT3 hBW hB3 hL
  go_wp2
  go_loopw [19] (fun i wr => ∃ k : Nat, k ≤ rs.length ∧ i = .int .i64 k ∧ Hid (∀ j, j < k → hasTs a b c f g h (rs.getD j default) = false) ∧ Below w3.heap.size w3 wr) (fun i _ => rs.length - (intOf i).toNat)
  case atStart => exact ⟨0, by omega, rfl, fun j hj => by omega, Below.refl _ _⟩
  case round =>
    obtain ⟨k, hk, rfl, H0, hT⟩ := hrel
    by_cases hlt : (k : Int) < (rs.length : Int)
    · have hk' : k < rs.length := by omega
      obtain ⟨gg, x1, y1, z1, p1, q1, r1, t1, rfl, hu, hat⟩ := Wl.at (HL.out.later hT) hk'
      obtain ⟨c0, c1, c2, c3, c4, c5, c6⟩ := hat.cells
      have hgl := hat.lt
      obtain ⟨d0, d1, d2, dl⟩ := b1'.threeB hT
      obtain ⟨e0, e1, e2, el⟩ := b2'.threeB hT
      have HU : Hid (rs.getD k default = (x1, y1, z1, p1, q1, r1, t1)) := hu
      have HH : Hid (hasTs a b c f g h (x1, y1, z1, p1, q1, r1, t1) = (eqN x1 y1 z1 a b c && eqB p1 q1 r1 f g h)) := rfl
      clear hu hat
      cases hq : eqN x1 y1 z1 a b c
      · have HQ : Hid (hasTs a b c f g h (rs.getD k default) = false) := by show _ = _; rw [HU.out, HH.out, hq]; rfl
        go_wp2
        go_roundw
        case rel => exact ⟨k + 1, by omega, by go_num, fun j hj => by
            by_cases e : j = k
            · subst e; exact HQ.out
            · exact H0.out j (by omega), then_alloc hT _⟩
        case measure => simp [intOf]; omega
      · cases hq2 : eqB p1 q1 r1 f g h
        · have HQ : Hid (hasTs a b c f g h (rs.getD k default) = false) := by show _ = _; rw [HU.out, HH.out, hq, hq2]; rfl
          go_wp2
          go_roundw
          case rel => exact ⟨k + 1, by omega, by go_num, fun j hj => by
              by_cases e : j = k
              · subst e; exact HQ.out
              · exact H0.out j (by omega), then_alloc hT _⟩
          case measure => simp [intOf]; omega
        · obtain rfl : ans = true := by
            rw [HA.out]
            exact anyT_hit hk' (by rw [HU.out, HH.out, hq, hq2]; rfl)
          go_wp2
          go_ret2
          exact ⟨rfl, then_below HB.out (then_alloc hT _)⟩
    · obtain rfl : ans = false := by
        rw [HA.out]
        exact anyT_miss fun j hj => H0.out j (by omega)
      go_wp2
      go_ret2
      exact ⟨rfl, then_below HB.out hT⟩

end Go.Proofs.YtanhhlekbdhfmaaDoor
