/-
  Plain arithmetic: what the statements of layer 14 ask. No program is walked here.
-/
import Derived.Test.YtbedhpooeabehaaDoorPart17
import Derived.Test.YtbedhpooeabehaaDoorPart7
import Derived.Test.YtbedhpooeabehaaDoorPart6
namespace Go.Proofs.YtbedhpooeabehaaDoor
open Go Go.RowKit Go.Shelf

theorem errK_swap (d0 d1 d2 : Int) (a b : List Nat) : errK d0 d1 d2 [a, b] = errK d0 d1 d2 [b, a] := by
  unfold errK
  simp only [List.all_cons, List.all_nil, Bool.and_true]
  rw [Bool.and_comm (maySet _ a)]
theorem errK_two {d0 d1 d2 : Int} {a b : List Nat} (h : mayD d0 d1 d2) (ea : errAll (d0 * d1 * d2) [a] = 0) (eb : errAll (d0 * d1 * d2) [b] = 0) : errK d0 d1 d2 [a, b] = 0 := by
  refine errK_ok h fun k hk => ?_
  match k, hk with
  | 0, _ => exact ea
  | 1, _ => exact eb
theorem errK_sole {d0 d1 d2 : Int} {a : List Nat} (h : mayD d0 d1 d2) (ea : errAll (d0 * d1 * d2) [a] = 0) : errK d0 d1 d2 [a] = 0 := by
  refine errK_ok h fun k hk => ?_
  match k, hk with
  | 0, _ => exact ea
theorem inN_or {n : Int} {a b z1 z2 z3 : List Nat} (T : Three n a b z1 z2 z3) : inN z2 = fun m => inN a m || inN b m := by
  funext m
  exact T.i2.has m.toNat
theorem inN_less {n : Int} {a b z1 z2 z3 : List Nat} (T : Three n a b z1 z2 z3) : inN z3 = fun m => inN a m && !inN b m := by
  funext m
  exact T.i3.has m.toNat
theorem in_out {n : Int} {a : List Nat} (h : errAll n [a] = 0) {k : Nat} (hk : n.toNat ≤ k) : hasW a k = false := by
  obtain ⟨h1, h2, hm⟩ := err_one h
  exact (mayS_iff.1 hm).2 k hk
theorem meet_no {n : Int} {a b : List Nat} (ha : errAll n [a] = 0) (hb : errAll n [b] = 0) (h : meetSB n a b = false) (m : Int) : (inN a m && inN b m) = false := by
  unfold meetSB at h
  rw [errAll_both ha hb] at h
  simp only [decide_true, Bool.true_and] at h
  obtain ⟨h1, h2, hm⟩ := err_one ha
  unfold inN
  by_cases hk : m.toNat < 64 * a.length
  · have := List.any_eq_false.1 h m.toNat (List.mem_range.2 hk)
    simpa using this
  · rw [hasW_past (by omega), Bool.false_and]
theorem none_is {n : Int} {ws : List Nat} (h1 : 1 ≤ n) (h2 : n ≤ 12288) (hO : OfIs n [] ws) : errAll n [ws] = 0 ∧ ∀ m, inN ws m = false := by
  have hk : ofOk n [] = true := by unfold ofOk; simp [okN]; omega
  have hz := hO.yes hk
  have hh : ∀ j, hasW ws j = false := fun j => by rw [hz.has]; rfl
  exact ⟨errAll_may h1 h2 (mayS_iff.2 ⟨hz.len, fun j _ => hh j⟩), fun m => hh _⟩

/-- What the statement of both ways asks. -/
theorem both_facts {d0 d1 d2 : Int} {a b c ws : List Nat} (h : mayD d0 d1 d2) (wb : ∀ x ∈ b, x < 18446744073709551616) (wc : ∀ x ∈ c, x < 18446744073709551616)
    (ea : errAll (d0 * d1 * d2) [a] = 0) (eb : errAll (d0 * d1 * d2) [b] = 0) (ec : errAll (d0 * d1 * d2) [c] = 0) (hO : OfIs (d0 * d1 * d2) [] ws) :
    errAll (d0 * d1 * d2) [b, c] = 0 ∧ errK d0 d1 d2 [a, joinW orW (d0 * d1 * d2) b c] = 0 ∧ opV d0 d1 d2 a (joinW orW (d0 * d1 * d2) b c) ≤ opV d0 d1 d2 a b + opV d0 d1 d2 a c ∧
    (meetSB (d0 * d1 * d2) b c = false → opV d0 d1 d2 a (joinW orW (d0 * d1 * d2) b c) = opV d0 d1 d2 a b + opV d0 d1 d2 a c) ∧ errK d0 d1 d2 [a, ws] = 0 ∧ opV d0 d1 d2 a ws = 0 ∧ opV d0 d1 d2 b a = opV d0 d1 d2 a b := by
  have hN := N_bd h
  have ebc := errAll_both eb ec
  have T := three_of wb wc ebc
  obtain ⟨ew, hw⟩ := none_is (by omega) (by omega) hO
  have k1 := errK_two h ea eb
  have k2 := errK_two h ea ec
  have k3 := errK_two h ea T.e2
  have k4 := errK_two h ea ew
  have k5 := errK_two h eb ea
  have h2 := open_two (d0 := d0) (d1 := d1) (d2 := d2) (inN a) (inN b) (inN c)
  have h3 := open_nn (d0 := d0) (d1 := d1) (d2 := d2) (inN a) (fun m => inN b m && inN c m)
  unfold opV
  rw [if_pos k1, if_pos k2, if_pos k3, if_pos k4, if_pos k5, inN_or T]
  refine ⟨ebc, k3, by omega, fun hm => ?_, k4, open_none h _ fun m _ => hw m, open_sym h _ _⟩
  rw [open_none h (inN a) (q := fun m => inN b m && inN c m) fun m _ => meet_no eb ec hm m] at h2
  omega
theorem opV_bd {d0 d1 d2 : Int} (h : mayD d0 d1 d2) (a b : List Nat) : 0 ≤ opV d0 d1 d2 a b ∧ opV d0 d1 d2 a b ≤ 24576 := by
  unfold opV
  split
  · exact open_bd h _ _
  · omega
theorem spV_bd {d0 d1 d2 : Int} (h : mayD d0 d1 d2) (a : List Nat) : 0 ≤ spV d0 d1 d2 a ∧ spV d0 d1 d2 a ≤ 24576 := by
  unfold spV
  split
  · exact open_bd h _ _
  · omega

/-- The whole: all numbers, one after another. -/
def wholeL (n : Nat) : List Int := ofN (List.range n)
theorem whole_ok {n : Int} (h1 : 1 ≤ n) (h2 : n ≤ 12288) : ofOk n (wholeL n.toNat) = true := by
  refine ofOk_all h1 h2 fun x hx => ?_
  unfold wholeL ofN at hx
  obtain ⟨j, hj, rfl⟩ := List.mem_map.1 hx
  have := List.mem_range.1 hj
  omega
theorem whole_in {n : Int} {ws : List Nat} (h1 : 1 ≤ n) (h2 : n ≤ 12288) (hO : OfIs n (wholeL n.toNat) ws) : errAll n [ws] = 0 ∧ (∀ x ∈ ws, x < 18446744073709551616) ∧ ∀ m, (0 ≤ m ∧ m < n) → inN ws m = true := by
  have hz := hO.yes (whole_ok h1 h2)
  have hh : ∀ j : Nat, inL (wholeL n.toNat) j = decide (j < n.toNat) := fun j => by
    unfold wholeL
    rw [inL_ofN, Bool.eq_iff_iff]
    simp
  refine ⟨errAll_may h1 h2 (mayS_iff.2 ⟨hz.len, fun j hj => by rw [hz.has, hh]; simpa using hj⟩), hz.word, fun m hm => ?_⟩
  unfold inN
  rw [hz.has, hh]
  exact decide_eq_true (by omega)

theorem midW_word (d0 d1 d2 : Int) (bx : Bx) : ∀ x ∈ midW d0 d1 d2 bx, x < 18446744073709551616 := (setOf_is _ _).word
/-- What the statement of more asks. -/
theorem more_facts {d0 d1 d2 : Int} {bx : Bx} {t0 t1 t2 : Bool} {mids more ws : List Nat} (h : mayD d0 d1 d2) (hp : mayP d0 d1 d2 bx t0 t1 t2) (wm : ∀ x ∈ mids, x < 18446744073709551616) (wo : ∀ x ∈ more, x < 18446744073709551616)
    (em : errAll (d0 * d1 * d2) [mids] = 0) (ee : errAll (d0 * d1 * d2) [mids, more] = 0) (hO : OfIs (d0 * d1 * d2) (wholeL (d0 * d1 * d2).toNat) ws) :
    ofE d0 d1 d2 bx t0 t1 t2 (joinW orW (d0 * d1 * d2) mids more) = 0 ∧ ofV d0 d1 d2 bx t0 t1 t2 (joinW orW (d0 * d1 * d2) mids more) ≤ ofV d0 d1 d2 bx t0 t1 t2 mids ∧ (cabN d0 d1 d2 bx t0 t1 t2 : Int) ≤ ofV d0 d1 d2 bx t0 t1 t2 (joinW orW (d0 * d1 * d2) mids more) ∧
    ofErr (d0 * d1 * d2) (wholeL (d0 * d1 * d2).toNat) = 0 ∧ errAll (d0 * d1 * d2) [ws, midW d0 d1 d2 bx] = 0 ∧ ofE d0 d1 d2 bx t0 t1 t2 (joinW notW (d0 * d1 * d2) ws (midW d0 d1 d2 bx)) = 0 ∧ ofV d0 d1 d2 bx t0 t1 t2 (joinW notW (d0 * d1 * d2) ws (midW d0 d1 d2 bx)) = cabN d0 d1 d2 bx t0 t1 t2 := by
  have hN := N_bd h
  have T := three_of wm wo ee
  obtain ⟨ew, ww, hw⟩ := whole_in (by omega) (by omega) hO
  have eo := midW_err h bx
  have ewo := errAll_both ew eo
  have T2 := three_of ww (midW_word d0 d1 d2 bx) ewo
  have hz : ∀ {s : List Nat}, errAll (d0 * d1 * d2) [s] = 0 → ofE d0 d1 d2 bx t0 t1 t2 s = 0 := fun {s} hs => by
    unfold ofE
    rw [if_pos (errK_sole h hs), errP_ok h hp]
  have hv : ∀ {s : List Nat}, errAll (d0 * d1 * d2) [s] = 0 → ofV d0 d1 d2 bx t0 t1 t2 s = scoreS d0 d1 d2 (inN (midW d0 d1 d2 bx)) (inN s) (cabN d0 d1 d2 bx t0 t1 t2) := fun {s} hs => by
    unfold ofV
    rw [if_pos (hz hs)]
  have hm := score_more h (o := inN (midW d0 d1 d2 bx)) (q := inN mids) (q' := inN (joinW orW (d0 * d1 * d2) mids more)) (c := cabN d0 d1 d2 bx t0 t1 t2) fun m _ hx => by rw [inN_or T]; dsimp only; rw [hx]; rfl
  refine ⟨hz T.e2, by rw [hv T.e2, hv em]; exact hm.1, by rw [hv T.e2]; exact hm.2, by rw [ofErr, if_pos (whole_ok (by omega) (by omega))], ewo, hz T2.e3, ?_⟩
  rw [hv T2.e3]
  refine score_rest h fun m hm => ?_
  rw [inN_less T2]
  show (inN ws m && !inN (midW d0 d1 d2 bx) m) = !inN (midW d0 d1 d2 bx) m
  rw [hw m hm, Bool.true_and]

/-- What the statement of what is taken asks. -/
theorem taken_facts {d0 d1 d2 : Int} {bx : Bx} {mids ws : List Nat} (h : mayD d0 d1 d2) (wm : ∀ x ∈ mids, x < 18446744073709551616) (em : errAll (d0 * d1 * d2) [mids] = 0)
    (hx : meetSB (d0 * d1 * d2) (midW d0 d1 d2 bx) mids = false) (hO : OfIs (d0 * d1 * d2) (wholeL (d0 * d1 * d2).toNat) ws) :
    errK d0 d1 d2 [joinW orW (d0 * d1 * d2) (midW d0 d1 d2 bx) mids] = 0 ∧ ofErr (d0 * d1 * d2) (wholeL (d0 * d1 * d2).toNat) = 0 ∧ errAll (d0 * d1 * d2) [ws, joinW orW (d0 * d1 * d2) (midW d0 d1 d2 bx) mids] = 0 ∧
    errK d0 d1 d2 [midW d0 d1 d2 bx, joinW notW (d0 * d1 * d2) ws (joinW orW (d0 * d1 * d2) (midW d0 d1 d2 bx) mids)] = 0 ∧ errK d0 d1 d2 [midW d0 d1 d2 bx, mids] = 0 ∧
    spV d0 d1 d2 (joinW orW (d0 * d1 * d2) (midW d0 d1 d2 bx) mids) = spV d0 d1 d2 mids + opV d0 d1 d2 (midW d0 d1 d2 bx) (joinW notW (d0 * d1 * d2) ws (joinW orW (d0 * d1 * d2) (midW d0 d1 d2 bx) mids)) - opV d0 d1 d2 (midW d0 d1 d2 bx) mids := by
  have hN := N_bd h
  have eo := midW_err h bx
  have ee := errAll_both eo em
  have T := three_of (midW_word d0 d1 d2 bx) wm ee
  obtain ⟨ew, ww, hw⟩ := whole_in (by omega) (by omega) hO
  have ewo := errAll_both ew T.e2
  have T2 := three_of ww T.i2.word ewo
  have k1 := errK_sole h T.e2
  have k2 := errK_sole h em
  have k3 := errK_two h eo T2.e3
  have k4 := errK_two h eo em
  refine ⟨k1, by rw [ofErr, if_pos (whole_ok (by omega) (by omega))], ewo, k3, k4, ?_⟩
  unfold spV opV
  rw [if_pos k1, if_pos k2, if_pos k3, if_pos k4, inN_or T, spread_taken h (o := inN (midW d0 d1 d2 bx)) (q := inN mids) fun m _ => meet_no eo em hx m]
  rw [open_congr h (p := inN (midW d0 d1 d2 bx)) (q := inN (joinW notW (d0 * d1 * d2) ws (joinW orW (d0 * d1 * d2) (midW d0 d1 d2 bx) mids))) (p' := inN (midW d0 d1 d2 bx)) (q' := fun m => !(inN (midW d0 d1 d2 bx) m || inN mids m)) (fun _ _ => rfl) fun m hm => by
    rw [inN_less T2, inN_or T]
    dsimp only
    rw [hw m hm, Bool.true_and]]

end Go.Proofs.YtbedhpooeabehaaDoor

/-
  score.Of, for every input.
-/
namespace Go.Proofs.YtbedhpooeabehaaDoor
open Go Go.RowKit Go.Shelf

set_option maxRecDepth 100000 in
set_option maxHeartbeats 2000000 in
theorem sof_bad {va : Value} {a : List Nat} {d0 d1 d2 : Int} (b : Bx) (t0 t1 t2 : Bool) (w : World) (ha : Wds w va a) (h0 : errK d0 d1 d2 [a] ≠ 0) :
    Calls Tryd.prog 7 #[A3 d0 d1 d2, P9 b t0 t1 t2, va] w fun e W' => e = .returned (.tuple #[I 0, I 8]) ∧ Below w.heap.size w W' := by
  have h8 : errK d0 d1 d2 [a] = 8 := (errK_cases _ _ _ _).resolve_left h0
  have HC : Hid (∀ (W : World) (g : Nat), Below w.heap.size w W → Blk W g 36 #[va] → Calls Tryd.prog 19 #[A3 d0 d1 d2, .slice (some ⟨g, 0, none⟩) 1 1] W fun e W' => e = .returned (.tuple #[I 0, I 8]) ∧ Below W.heap.size W W') := fun W g hW hB => by
    have := schk_one d0 d1 d2 hW hB ha
    rw [numK, if_neg h0, h8] at this
    exact this
  obtain ⟨ao, ca, rfl, _⟩ := ha.view
  clear h0 h8 ha
  generalize a.length = na at *
  go_enter Tryd.func7, Tryd.ntmps7
  go_wp2_with fail
  obtain ⟨W, hW, hB0, kd, kp, ks⟩ := three_boxes w #[I d0, I d1, I d2] (C9 b t0 t1 t2) #[.slice ao na ca] 26 32 36
  rw [hW]
  clear hW
  refine (HC.out _ _ hB0 ks).mono ?_
  rintro e w1 ⟨rfl, hB1⟩
  have hT := then_below hB0 hB1
  clear HC hB0 hB1 kd kp ks
  go_wp2
  go_ret2
  exact ⟨rfl, hT⟩

set_option maxRecDepth 100000 in
set_option maxHeartbeats 2000000 in
theorem sof_err {va : Value} {a : List Nat} {d0 d1 d2 : Int} {b : Bx} {t0 t1 t2 : Bool} (w : World) (ha : Wds w va a) (h0 : errK d0 d1 d2 [a] = 0) (he : (errP d0 d1 d2 b t0 t1 t2 != 0) = true) :
    Calls Tryd.prog 7 #[A3 d0 d1 d2, P9 b t0 t1 t2, va] w fun e W' => e = .returned (.tuple #[I 0, I (errP d0 d1 d2 b t0 t1 t2)]) ∧ Below w.heap.size w W' := by
  have HC : Hid (∀ (W : World) (g : Nat), Below w.heap.size w W → Blk W g 36 #[va] → Calls Tryd.prog 19 #[A3 d0 d1 d2, .slice (some ⟨g, 0, none⟩) 1 1] W fun e W' => e = .returned (.tuple #[I (d0 * d1 * d2), I 0]) ∧ Below W.heap.size W W') := fun W g hW hB => by
    have := schk_one d0 d1 d2 hW hB ha
    rw [numK, if_pos h0, h0] at this
    exact this
  have HS : Hid (∀ w, Calls Tryd.prog 16 #[A3 d0 d1 d2, P9 b t0 t1 t2] w fun e W' => e = .returned (.tuple #[.slice none 0 0, .slice none 0 0, I (errP d0 d1 d2 b t0 t1 t2)]) ∧ Below w.heap.size w W') := fun w => sets_err t0 t1 t2 w he
  obtain ⟨ao, ca, rfl, _⟩ := ha.view
  clear h0 ha
  generalize a.length = na at *
  generalize errP d0 d1 d2 b t0 t1 t2 = er at *
  generalize d0 * d1 * d2 = N at *
  go_enter Tryd.func7, Tryd.ntmps7
  go_wp2_with fail
  obtain ⟨W, hW, hB0, kd, kp, ks⟩ := three_boxes w #[I d0, I d1, I d2] (C9 b t0 t1 t2) #[.slice ao na ca] 26 32 36
  rw [hW]
  clear hW
  refine (HC.out _ _ hB0 ks).mono ?_
  rintro e w1 ⟨rfl, hB1⟩
  have hT := then_below hB0 hB1
  obtain ⟨c0, c1, c2, hz⟩ := kd.three hB1
  obtain ⟨⟨x0, x1, x2⟩, ⟨x3, x4, x5⟩, ⟨x6, x7, x8⟩, hz1⟩ := kp.nine hB1
  clear HC hB0 hB1 kd kp ks
  go_wp2_with fail
  refine (HS.out _).mono ?_
  rintro e w2 ⟨rfl, hB2⟩
  have hT2 := then_below hT hB2
  clear HS hT hB2 c0 c1 c2 hz x0 x1 x2 x3 x4 x5 x6 x7 x8 hz1
  go_wp2
  go_ret2
  exact ⟨rfl, hT2⟩

set_option maxRecDepth 100000 in
set_option maxHeartbeats 4000000 in
theorem sof_ok {va : Value} {a : List Nat} {d0 d1 d2 : Int} {b : Bx} {t0 t1 t2 : Bool} (w : World) (hTab : TabOk w) (ha : Wds w va a) (h0 : errK d0 d1 d2 [a] = 0) (hp : mayP d0 d1 d2 b t0 t1 t2) :
    Calls Tryd.prog 7 #[A3 d0 d1 d2, P9 b t0 t1 t2, va] w fun e W' => e = .returned (.tuple #[I (scoreS d0 d1 d2 (inN (midW d0 d1 d2 b)) (inN a) (cabN d0 d1 d2 b t0 t1 t2)), I 0]) ∧ Below w.heap.size w W' := by
  obtain ⟨hd, hall⟩ := errK_zero h0
  have e1 := hall a (by simp)
  have HC : Hid (∀ (W : World) (g : Nat), Below w.heap.size w W → Blk W g 36 #[va] → Calls Tryd.prog 19 #[A3 d0 d1 d2, .slice (some ⟨g, 0, none⟩) 1 1] W fun e W' => e = .returned (.tuple #[I (d0 * d1 * d2), I 0]) ∧ Below W.heap.size W W') := fun W g hW hB => by
    have := schk_one d0 d1 d2 hW hB ha
    rw [numK, if_pos h0, h0] at this
    exact this
  have HS : Hid (∀ w, Calls Tryd.prog 16 #[A3 d0 d1 d2, P9 b t0 t1 t2] w fun e W' => ∃ u v, e = .returned (.tuple #[u, v, I 0]) ∧ SetR W' w.heap.size u (midW d0 d1 d2 b) ∧ SetR W' w.heap.size v (cabsW d0 d1 d2 b t0 t1 t2) ∧ Below w.heap.size w W') := fun w => sets_ok w hd hp
  have HM : Hid (∀ (w : World) (v : Value), Wds w v (cabsW d0 d1 d2 b t0 t1 t2) → Calls Tryd.prog 17 #[I (3 * (d0 * d1 * d2)), v] w fun e W' => e = .returned (.tuple #[I (cabN d0 d1 d2 b t0 t1 t2), I 0]) ∧ Below w.heap.size w W') := fun w v hv => by
    have := manyn_calls w hv (3 * (d0 * d1 * d2))
    rw [cabsW_err hd] at this
    exact this
  have HN : Hid (∀ (W : World) (g : Nat) (u : Value), Below w.heap.size w W → Blk W g 36 #[u, va] → Wds W u (midW d0 d1 d2 b) → Calls Tryd.prog 20 #[A3 d0 d1 d2, I (d0 * d1 * d2), u, .slice (some ⟨g, 0, none⟩) 2 2] W fun e W' => e = .returned (.tuple #[I (sumL d0 d1 d2 (anyN [midW d0 d1 d2 b, a]) (listR (d0 * d1 * d2) (midW d0 d1 d2 b))), I (openS d0 d1 d2 (inN (midW d0 d1 d2 b)) (fun m => !inN a m && !inN (midW d0 d1 d2 b) m)), I 0]) ∧ Below W.heap.size W W') := fun W g u hW hB hu => by
    have e2 := midW_err hd b
    have := count_two (w := W) (hTab.below hW hTab.lt) hd (Below.refl _ W) hB hu e2 hu e2 (ha.later hW) e1
    rw [sum_both hd e2] at this
    exact this
  have HR : Hid (scoreS d0 d1 d2 (inN (midW d0 d1 d2 b)) (inN a) (cabN d0 d1 d2 b t0 t1 t2) = 2 * openS d0 d1 d2 (inN (midW d0 d1 d2 b)) (fun m => !inN a m && !inN (midW d0 d1 d2 b) m) + cabN d0 d1 d2 b t0 t1 t2) := rfl
  have hob := open_bd hd (inN (midW d0 d1 d2 b)) (fun m => !inN a m && !inN (midW d0 d1 d2 b) m)
  have hcb := cabN_bd hd b t0 t1 t2
  have hNb := N_bd hd
  obtain ⟨ao, ca, rfl, _⟩ := ha.view
  clear h0 ha hall e1 hd hTab hp
  generalize scoreS d0 d1 d2 (inN (midW d0 d1 d2 b)) (inN a) (cabN d0 d1 d2 b t0 t1 t2) = r at *
  generalize openS d0 d1 d2 (inN (midW d0 d1 d2 b)) (fun m => !inN a m && !inN (midW d0 d1 d2 b) m) = o at *
  generalize sumL d0 d1 d2 (anyN [midW d0 d1 d2 b, a]) (listR (d0 * d1 * d2) (midW d0 d1 d2 b)) = r2 at *
  generalize cabN d0 d1 d2 b t0 t1 t2 = cn at *
  generalize midW d0 d1 d2 b = S at *
  generalize cabsW d0 d1 d2 b t0 t1 t2 = S' at *
  generalize a.length = na at *
  generalize d0 * d1 * d2 = N at *
  go_enter Tryd.func7, Tryd.ntmps7
  go_wp2_with fail
  obtain ⟨W, hW, hB0, kd, kp, ks⟩ := three_boxes w #[I d0, I d1, I d2] (C9 b t0 t1 t2) #[.slice ao na ca] 26 32 36
  rw [hW]
  clear hW
  refine (HC.out _ _ hB0 ks).mono ?_
  rintro e w1 ⟨rfl, hB1⟩
  have hT := then_below hB0 hB1
  replace kd := kd.later hB1
  obtain ⟨c0, c1, c2, hz⟩ := kd.three (Below.refl _ _)
  obtain ⟨⟨x0, x1, x2⟩, ⟨x3, x4, x5⟩, ⟨x6, x7, x8⟩, hz1⟩ := kp.nine hB1
  clear HC hB0 hB1 kp ks
  go_wp2_with fail
  refine (HS.out _).mono ?_
  rintro e w2 ⟨u, v, rfl, hu, hv, hB2⟩
  have hT2 := then_below hT hB2
  replace kd := kd.later hB2
  have hu := hu.wds
  have hv := hv.wds
  obtain ⟨uo, uc, rfl, hu0⟩ := hu.view
  obtain ⟨vo, vc, rfl, hv0⟩ := hv.view
  clear hu0 hv0
  have HMv := HM.out w2 _ hv
  have HU : Hid (Wds w2 (.slice uo S.length uc) S) := hu
  clear HS hT hB2 c0 c1 c2 hz x0 x1 x2 x3 x4 x5 x6 x7 x8 hz1 hu hv HM
  generalize S'.length = ns' at *
  generalize hns : S.length = ns at *
  clear hns
  have h3 : (3 : Int) * N ≤ 20000 ∧ 0 ≤ 3 * N := by omega
  go_wp2_with fail
  refine HMv.mono ?_
  rintro e w3 ⟨rfl, hB3⟩
  have hT3 := then_below hT2 hB3
  replace kd := kd.later hB3
  have HU2 : Hid (Wds w3 (.slice uo ns uc) S) := HU.out.later hB3
  clear HMv HU hT2 hB3
  obtain ⟨c0, c1, c2, hz⟩ := kd.three (Below.refl _ _)
  have hB4 : Below w.heap.size w (w3.alloc (.cells #[.slice uo ns uc, .slice ao na ca] 36)) := then_alloc hT3 _
  have k4 := Blk.new w3 36 #[.slice uo ns uc, .slice ao na ca]
  have HN4 := HN.out _ _ _ hB4 k4 (HU2.out.later ((Below.refl _ w3).alloc (Nat.le_refl _) _))
  clear HN HU2 k4
  go_wp2_with fail
  refine HN4.mono ?_
  rintro e w4 ⟨rfl, hB5⟩
  have hT5 := then_below hB4 hB5
  clear HN4 hB4 hB5 hT3 kd c0 c1 c2 hz
  go_wp2
  go_ret2
  exact ⟨by rw [HR.out]; rfl, hT5⟩

theorem sof_calls {va : Value} {a : List Nat} (d0 d1 d2 : Int) (b : Bx) (t0 t1 t2 : Bool) (w : World) (hTab : TabOk w) (ha : Wds w va a) :
    Calls Tryd.prog 7 #[A3 d0 d1 d2, P9 b t0 t1 t2, va] w fun e W' => e = .returned (.tuple #[I (ofV d0 d1 d2 b t0 t1 t2 a), I (ofE d0 d1 d2 b t0 t1 t2 a)]) ∧ Below w.heap.size w W' := by
  unfold ofV ofE
  by_cases h0 : errK d0 d1 d2 [a] = 0
  · simp only [h0, if_true]
    rcases errP_cases d0 d1 d2 b t0 t1 t2 with ⟨_, hp, he⟩ | ⟨he, _⟩
    · rw [if_pos he, he]
      exact sof_ok w hTab ha h0 hp
    · have hne : (errP d0 d1 d2 b t0 t1 t2 != 0) = true := by rcases he with h | h <;> rw [h] <;> rfl
      have hn2 : errP d0 d1 d2 b t0 t1 t2 ≠ 0 := by simpa using hne
      rw [if_neg hn2]
      exact sof_err w ha h0 hne
  · simp only [h0, if_false]
    exact sof_bad b t0 t1 t2 w ha h0

end Go.Proofs.YtbedhpooeabehaaDoor

/-
  The document's answers of one set (tidehallref03.List, Has, Many); whether two lists are the same (tidehallref02.Ints).
-/
namespace Go.Proofs.YtbedhpooeabehaaDoor
open Go Go.RowKit Go.Shelf

attribute [local go_sem] Oper.semAt_some ext_const

end Go.Proofs.YtbedhpooeabehaaDoor

/-
  The chapter's first examples (the statements' 'alive').
-/
namespace Go.Proofs.YtbedhpooeabehaaDoor
open Go Go.RowKit Go.Shelf

theorem alive_err : errAll 70 [[8, 32]] = 0 := by decide +kernel
theorem alive_list : listR 70 [8, 32] = [3, 69] := by decide +kernel
theorem alive_of : ofErr 70 [3, 69, 3] = 0 := by decide +kernel
theorem alive_ok : ofOk 70 [3, 69, 3] = true := by decide +kernel
theorem alive_bits : ∀ k, k < 128 → hasW [8, 32] k = inL [3, 69, 3] k := by decide +kernel
theorem alive_set {ws : List Nat} (h : OfIs 70 [3, 69, 3] ws) : ws = [8, 32] := by
  refine (h.yes alive_ok).ext ⟨rfl, fun x hx => ?_, fun k => ?_⟩
  · simp at hx
    rcases hx with rfl | rfl <;> decide
  · by_cases hk : k < 128
    · exact alive_bits k hk
    · rw [hasW_past (by simp; omega)]
      unfold inL
      symm
      rw [Bool.eq_false_iff]
      intro hc
      simp at hc
      omega

theorem its_of_blk {W : World} {g : Nat} {xs : List Int} {t : TypeId} (h : Blk W g t (xs.map I).toArray) (cap : Nat) : Its W (.slice (some ⟨g, 0, none⟩) xs.length cap) xs := by
  have := Sl.blk h cap
  rw [List.length_map] at this
  exact this
theorem wds_of_blk {W : World} {g : Nat} {ws : List Nat} {t : TypeId} (hw : ∀ x ∈ ws, x < 18446744073709551616) (h : Blk W g t (ws.map U).toArray) (cap : Nat) : Wds W (.slice (some ⟨g, 0, none⟩) ws.length cap) ws := by
  have := Sl.blk h cap
  rw [List.length_map] at this
  exact ⟨hw, this⟩

end Go.Proofs.YtbedhpooeabehaaDoor

/-
  The statements of layer 14: some, sized, alive; ScoreNames. (Written by tools/gen/law_score.py.)
-/
namespace Go.Proofs.YtbedhpooeabehaaDoor
open Go Go.RowKit Go.Shelf

attribute [local go_sem] Oper.semAt_some ext_const

set_option maxRecDepth 100000 in
theorem some14_calls (w : World) : Calls Tryd.prog 8 #[] w fun e W' => e = .returned (A3 3 2 1) ∧ Below w.heap.size w W' := by
  have hB : Below w.heap.size w (w.alloc (.cells #[I 3, I 2, I 1] 26)) := (Below.refl _ w).alloc (Nat.le_refl _) _
  go_enter Tryd.func8, Tryd.ntmps8
  go_wp2
  exact bodyPost_ret (v := A3 3 2 1) (by simp [results, Tryd.f8, go_sem]) rfl ⟨rfl, hB⟩
set_option maxRecDepth 100000 in
theorem sized14_calls (a b c : Int) (w : World) : Calls Tryd.prog 9 #[I a, I b, I c] w fun e W' => e = .returned (P9 ⟨0, 0, 0, a, b, c⟩ false false false) ∧ Below w.heap.size w W' := by
  have hB : Below w.heap.size w (w.alloc (.cells (C9 ⟨0, 0, 0, a, b, c⟩ false false false) 32)) := (Below.refl _ w).alloc (Nat.le_refl _) _
  go_enter Tryd.func9, Tryd.ntmps9
  go_wp2
  exact bodyPost_ret (v := P9 ⟨0, 0, 0, a, b, c⟩ false false false) (by simp [results, Tryd.f9, go_sem]) rfl ⟨rfl, hB⟩
theorem word14 {x : Nat} (h : x < 18446744073709551616) : ∀ y ∈ [x], y < 18446744073709551616 := by
  intro y hy
  simp at hy
  omega
theorem wds14 {W : World} {g x : Nat} (h : x < 18446744073709551616) (hb : Blk W g 34 #[U x]) : Wds W (.slice (some ⟨g, 0, none⟩) 1 1) [x] := wds_of_blk (ws := [x]) (word14 h) hb 1
theorem pair14 (w : World) (u0 u1 : Array Value) (t0 t1 : TypeId) : ∃ W, (w.alloc (.cells u0 t0)).alloc (.cells u1 t1) = W ∧ Below w.heap.size w W ∧ Blk W w.heap.size t0 u0 ∧ Blk W (w.heap.size + 1) t1 u1 :=
  ⟨_, rfl, ((Below.refl _ w).alloc (Nat.le_refl _) _).alloc (by simp) _, (Blk.new w t0 u0).alloc _, by have := Blk.new (w.alloc (.cells u0 t0)) t1 u1; simpa using this⟩

set_option maxRecDepth 100000 in
theorem ex14a : opV 3 2 1 [1] [2] = 1 ∧ opV 3 2 1 [1] [8] = 2 ∧ opV 3 2 1 [7] [56] = 6 ∧ errK 3 2 1 [[1], [2]] = 0 ∧ errK 3 2 1 [[1], [8]] = 0 ∧ errK 3 2 1 [[7], [56]] = 0 := by decide +kernel
set_option maxRecDepth 100000 in
theorem ex14b : ofV 3 2 1 ⟨0, 0, 0, 1, 1, 1⟩ false false false [0] = 8 ∧ ofV 3 2 1 ⟨0, 0, 0, 3, 1, 1⟩ false false false [0] = 14 ∧ ofE 3 2 1 ⟨0, 0, 0, 1, 1, 1⟩ false false false [0] = 0 ∧ ofE 3 2 1 ⟨0, 0, 0, 3, 1, 1⟩ false false false [0] = 0 := by decide +kernel
set_option maxRecDepth 100000 in
theorem ex14c : spV 3 2 1 [1] = 4 ∧ errK 3 2 1 [[1]] = 0 ∧ ofE 3 2 1 ⟨0, 0, 0, 4, 1, 1⟩ false false false [0] = 2 ∧ ofV 3 2 1 ⟨0, 0, 0, 4, 1, 1⟩ false false false [0] = 0 ∧ errK 3 2 1 [[64]] = 8 ∧ spV 3 2 1 [64] = 0 := by decide +kernel

set_option maxRecDepth 100000 in
set_option maxHeartbeats 4000000 in
theorem alive14_calls (w : World) (hTab : TabOk w) : Calls Tryd.prog 11 #[] w fun e W' => e = .returned (.bool true) ∧ Below w.heap.size w W' := by
  have HT : Hid (TabOk w) := hTab
  have H0 : Hid (∀ (w1 : World) (a b : Nat), TabOk w1 → Blk w1 a 34 #[U 1] → Blk w1 b 34 #[U 2] → Calls Tryd.prog 12 #[A3 3 2 1, .slice (some ⟨a, 0, none⟩) 1 1, .slice (some ⟨b, 0, none⟩) 1 1] w1 fun e W' => e = .returned (.tuple #[I 1, I 0]) ∧ Below w1.heap.size w1 W') := fun w1 a b h1 h2 h3 => by
    have := sopen_calls 3 2 1 w1 h1 (wds14 (by decide) h2) (wds14 (by decide) h3)
    rw [ex14a.1, ex14a.2.2.2.1] at this
    exact this
  have H1 : Hid (∀ (w1 : World) (a b : Nat), TabOk w1 → Blk w1 a 34 #[U 1] → Blk w1 b 34 #[U 8] → Calls Tryd.prog 12 #[A3 3 2 1, .slice (some ⟨a, 0, none⟩) 1 1, .slice (some ⟨b, 0, none⟩) 1 1] w1 fun e W' => e = .returned (.tuple #[I 2, I 0]) ∧ Below w1.heap.size w1 W') := fun w1 a b h1 h2 h3 => by
    have := sopen_calls 3 2 1 w1 h1 (wds14 (by decide) h2) (wds14 (by decide) h3)
    rw [ex14a.2.1, ex14a.2.2.2.2.1] at this
    exact this
  have H2 : Hid (∀ (w1 : World) (a b : Nat), TabOk w1 → Blk w1 a 34 #[U 7] → Blk w1 b 34 #[U 56] → Calls Tryd.prog 12 #[A3 3 2 1, .slice (some ⟨a, 0, none⟩) 1 1, .slice (some ⟨b, 0, none⟩) 1 1] w1 fun e W' => e = .returned (.tuple #[I 6, I 0]) ∧ Below w1.heap.size w1 W') := fun w1 a b h1 h2 h3 => by
    have := sopen_calls 3 2 1 w1 h1 (wds14 (by decide) h2) (wds14 (by decide) h3)
    rw [ex14a.2.2.1, ex14a.2.2.2.2.2] at this
    exact this
  clear hTab
  go_enter Tryd.func11, Tryd.ntmps11
  have hT : Below w.heap.size w w := Below.refl _ _
  go_wp2_with fail
  refine (some14_calls _).mono ?_
  rintro e s0 ⟨rfl, hB⟩
  replace hT := then_below hT hB
  clear hB
  obtain ⟨W0, hW, hB, k0, k1⟩ := pair14 s0 #[.int .u64 1] #[.int .u64 2] 34 34
  have HW : Hid ((s0.alloc (.cells #[.int .u64 1] 34)).alloc (.cells #[.int .u64 2] 34) = W0) := hW
  clear hW
  replace hT := then_below hT hB
  go_wp2_with fail
  rw [HW.out]
  refine (H0.out _ _ _ (HT.out.later hT) k0 k1).mono ?_
  rintro e v0 ⟨rfl, hB2⟩
  replace hT := then_below hT hB2
  clear hB hB2 k0 k1 HW
  go_wp2_with fail
  refine (some14_calls _).mono ?_
  rintro e s1 ⟨rfl, hB⟩
  replace hT := then_below hT hB
  clear hB
  obtain ⟨W1, hW, hB, k0, k1⟩ := pair14 s1 #[.int .u64 1] #[.int .u64 8] 34 34
  have HW : Hid ((s1.alloc (.cells #[.int .u64 1] 34)).alloc (.cells #[.int .u64 8] 34) = W1) := hW
  clear hW
  replace hT := then_below hT hB
  go_wp2_with fail
  rw [HW.out]
  refine (H1.out _ _ _ (HT.out.later hT) k0 k1).mono ?_
  rintro e v1 ⟨rfl, hB2⟩
  replace hT := then_below hT hB2
  clear hB hB2 k0 k1 HW
  go_wp2_with fail
  refine (some14_calls _).mono ?_
  rintro e s2 ⟨rfl, hB⟩
  replace hT := then_below hT hB
  clear hB
  obtain ⟨W2, hW, hB, k0, k1⟩ := pair14 s2 #[.int .u64 7] #[.int .u64 56] 34 34
  have HW : Hid ((s2.alloc (.cells #[.int .u64 7] 34)).alloc (.cells #[.int .u64 56] 34) = W2) := hW
  clear hW
  replace hT := then_below hT hB
  go_wp2_with fail
  rw [HW.out]
  refine (H2.out _ _ _ (HT.out.later hT) k0 k1).mono ?_
  rintro e v2 ⟨rfl, hB2⟩
  replace hT := then_below hT hB2
  clear hB hB2 k0 k1 HW
  go_wp2
  go_ret
  exact ⟨rfl, hT⟩

set_option maxRecDepth 100000 in
set_option maxHeartbeats 4000000 in
theorem scoreNames_walk (w : World) (hTab : TabOk w) : Calls Tryd.prog 3 #[] w fun e W' => e = .returned (.bool true) ∧ Below w.heap.size w W' := by
  have HT : Hid (TabOk w) := hTab
  have H0 : Hid (∀ (w1 : World) (a : Nat), TabOk w1 → Blk w1 a 34 #[U 0] → Calls Tryd.prog 7 #[A3 3 2 1, P9 ⟨0, 0, 0, 1, 1, 1⟩ false false false, .slice (some ⟨a, 0, none⟩) 1 1] w1 fun e W' => e = .returned (.tuple #[I 8, I 0]) ∧ Below w1.heap.size w1 W') := fun w1 a h1 h2 => by
    have := sof_calls 3 2 1 ⟨0, 0, 0, 1, 1, 1⟩ false false false w1 h1 (wds14 (x := 0) (by decide) h2)
    rw [ex14b.1, ex14b.2.2.1] at this
    exact this
  have H1 : Hid (∀ (w1 : World) (a : Nat), TabOk w1 → Blk w1 a 34 #[U 0] → Calls Tryd.prog 7 #[A3 3 2 1, P9 ⟨0, 0, 0, 3, 1, 1⟩ false false false, .slice (some ⟨a, 0, none⟩) 1 1] w1 fun e W' => e = .returned (.tuple #[I 14, I 0]) ∧ Below w1.heap.size w1 W') := fun w1 a h1 h2 => by
    have := sof_calls 3 2 1 ⟨0, 0, 0, 3, 1, 1⟩ false false false w1 h1 (wds14 (x := 0) (by decide) h2)
    rw [ex14b.2.1, ex14b.2.2.2] at this
    exact this
  have H2 : Hid (∀ (w1 : World) (a : Nat), TabOk w1 → Blk w1 a 34 #[U 1] → Calls Tryd.prog 10 #[A3 3 2 1, .slice (some ⟨a, 0, none⟩) 1 1] w1 fun e W' => e = .returned (.tuple #[I 4, I 0]) ∧ Below w1.heap.size w1 W') := fun w1 a h1 h2 => by
    have := spread_calls 3 2 1 w1 h1 (wds14 (x := 1) (by decide) h2)
    rw [ex14c.1, ex14c.2.1] at this
    exact this
  have H3 : Hid (∀ (w1 : World) (a : Nat), TabOk w1 → Blk w1 a 34 #[U 0] → Calls Tryd.prog 7 #[A3 3 2 1, P9 ⟨0, 0, 0, 4, 1, 1⟩ false false false, .slice (some ⟨a, 0, none⟩) 1 1] w1 fun e W' => e = .returned (.tuple #[I 0, I 2]) ∧ Below w1.heap.size w1 W') := fun w1 a h1 h2 => by
    have := sof_calls 3 2 1 ⟨0, 0, 0, 4, 1, 1⟩ false false false w1 h1 (wds14 (x := 0) (by decide) h2)
    rw [ex14c.2.2.2.1, ex14c.2.2.1] at this
    exact this
  have H4 : Hid (∀ (w1 : World) (a : Nat), TabOk w1 → Blk w1 a 34 #[U 64] → Calls Tryd.prog 10 #[A3 3 2 1, .slice (some ⟨a, 0, none⟩) 1 1] w1 fun e W' => e = .returned (.tuple #[I 0, I 8]) ∧ Below w1.heap.size w1 W') := fun w1 a h1 h2 => by
    have := spread_calls 3 2 1 w1 h1 (wds14 (x := 64) (by decide) h2)
    rw [ex14c.2.2.2.2.2, ex14c.2.2.2.2.1] at this
    exact this
  clear hTab
  go_enter Tryd.func3, Tryd.ntmps3
  have hT : Below w.heap.size w w := Below.refl _ _
  go_wp2_with fail
  refine (some14_calls _).mono ?_
  rintro e s0 ⟨rfl, hB⟩
  replace hT := then_below hT hB
  clear hB
  go_wp2_with fail
  refine (sized14_calls 1 1 1 _).mono ?_
  rintro e p0 ⟨rfl, hB⟩
  replace hT := then_below hT hB
  clear hB
  obtain ⟨W0, hW, hB, k0⟩ := one_start p0 #[.int .u64 0] 34
  have HW : Hid (p0.alloc (.cells #[.int .u64 0] 34) = W0) := hW
  clear hW
  replace hT := then_below hT hB
  go_wp2_with fail
  rw [HW.out]
  refine (H0.out _ _ (HT.out.later hT) k0).mono ?_
  rintro e v0 ⟨rfl, hB2⟩
  replace hT := then_below hT hB2
  clear hB hB2 k0 HW
  go_wp2_with fail
  refine (some14_calls _).mono ?_
  rintro e s1 ⟨rfl, hB⟩
  replace hT := then_below hT hB
  clear hB
  go_wp2_with fail
  refine (sized14_calls 3 1 1 _).mono ?_
  rintro e p1 ⟨rfl, hB⟩
  replace hT := then_below hT hB
  clear hB
  obtain ⟨W1, hW, hB, k0⟩ := one_start p1 #[.int .u64 0] 34
  have HW : Hid (p1.alloc (.cells #[.int .u64 0] 34) = W1) := hW
  clear hW
  replace hT := then_below hT hB
  go_wp2_with fail
  rw [HW.out]
  refine (H1.out _ _ (HT.out.later hT) k0).mono ?_
  rintro e v1 ⟨rfl, hB2⟩
  replace hT := then_below hT hB2
  clear hB hB2 k0 HW
  go_wp2_with fail
  refine (some14_calls _).mono ?_
  rintro e s2 ⟨rfl, hB⟩
  replace hT := then_below hT hB
  clear hB
  obtain ⟨W2, hW, hB, k0⟩ := one_start s2 #[.int .u64 1] 34
  have HW : Hid (s2.alloc (.cells #[.int .u64 1] 34) = W2) := hW
  clear hW
  replace hT := then_below hT hB
  go_wp2_with fail
  rw [HW.out]
  refine (H2.out _ _ (HT.out.later hT) k0).mono ?_
  rintro e v2 ⟨rfl, hB2⟩
  replace hT := then_below hT hB2
  clear hB hB2 k0 HW
  go_wp2_with fail
  refine (some14_calls _).mono ?_
  rintro e s3 ⟨rfl, hB⟩
  replace hT := then_below hT hB
  clear hB
  go_wp2_with fail
  refine (sized14_calls 4 1 1 _).mono ?_
  rintro e p3 ⟨rfl, hB⟩
  replace hT := then_below hT hB
  clear hB
  obtain ⟨W3, hW, hB, k0⟩ := one_start p3 #[.int .u64 0] 34
  have HW : Hid (p3.alloc (.cells #[.int .u64 0] 34) = W3) := hW
  clear hW
  replace hT := then_below hT hB
  go_wp2_with fail
  rw [HW.out]
  refine (H3.out _ _ (HT.out.later hT) k0).mono ?_
  rintro e v3 ⟨rfl, hB2⟩
  replace hT := then_below hT hB2
  clear hB hB2 k0 HW
  go_wp2_with fail
  refine (some14_calls _).mono ?_
  rintro e s4 ⟨rfl, hB⟩
  replace hT := then_below hT hB
  clear hB
  obtain ⟨W4, hW, hB, k0⟩ := one_start s4 #[.int .u64 64] 34
  have HW : Hid (s4.alloc (.cells #[.int .u64 64] 34) = W4) := hW
  clear hW
  replace hT := then_below hT hB
  go_wp2_with fail
  rw [HW.out]
  refine (H4.out _ _ (HT.out.later hT) k0).mono ?_
  rintro e v4 ⟨rfl, hB2⟩
  replace hT := then_below hT hB2
  clear hB hB2 k0 HW
  go_wp2_with fail
  refine (alive14_calls _ (HT.out.later hT)).mono ?_
  rintro e wa ⟨rfl, hB⟩
  replace hT := then_below hT hB
  clear hB
  go_wp2
  go_ret
  exact ⟨rfl, hT⟩

end Go.Proofs.YtbedhpooeabehaaDoor
