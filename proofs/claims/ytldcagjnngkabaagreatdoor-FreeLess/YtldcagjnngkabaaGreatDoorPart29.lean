/-
  The two closures of layer 10: which slots are asked for.
-/
import Derived.Test.YtldcagjnngkabaaGreatDoorPart28
import Derived.Test.YtldcagjnngkabaaGreatDoorPart5
import Derived.Maps.OwnIn
import Derived.Test.YtldcagjnngkabaaGreatDoorPart27
namespace Go.Proofs.YtldcagjnngkabaaGreatDoor
open Go Go.RowKit Go.Shelf

attribute [local go_sem] Oper.semAt_some ext_const

theorem timec_calls {w : World} {A : Nat} {x : Int} (s : Slt) (hA : Blk w A 3 #[I x]) : Calls Tryz.prog 64 #[V3 s.1 s.2.1 s.2.2, .pointer (some ⟨A, 0, none⟩)] w fun e W' => e = .returned (.bool (timeP x s)) ∧ Below w.heap.size w W' := by
  obtain ⟨f, t, o⟩ := s
  have hT := Below.refl w.heap.size w
  obtain ⟨c0, hz⟩ := hA.one hT
  obtain ⟨W1, hW1, hB1, hK⟩ := one_start w (C3 f t o) 85
  have HW1 : Hid (w.alloc (.cells (C3 f t o) 85) = W1) := hW1
  obtain ⟨hz2, a0, a1, a2⟩ := hK.at3
  obtain ⟨b0, hz3⟩ := hA.one hB1
  clear hW1
  by_cases h1 : x < t
  · by_cases h2 : t < 1099511627776
    · have e : timeP x (f, t, o) = true := by simp [timeP, h1, h2]
      rw [e]
      go_enter Tryz.func64, Tryz.ntmps64
      go_wp2
      go_ret
      exact ⟨rfl, by rw [HW1.out]; exact hB1⟩
    · have e : timeP x (f, t, o) = false := by simp [timeP, h2]
      rw [e]
      go_enter Tryz.func64, Tryz.ntmps64
      go_wp2
      go_ret
      exact ⟨rfl, by rw [HW1.out]; exact hB1⟩
  · have e : timeP x (f, t, o) = false := by simp [timeP, h1]
    rw [e]
    go_enter Tryz.func64, Tryz.ntmps64
    go_wp2
    go_ret
    exact ⟨rfl, by rw [HW1.out]; exact hB1⟩

end Go.Proofs.YtldcagjnngkabaaGreatDoor

/-
  when.ends: the moments at which those slots end that are asked for, as the keys of a new map. (Written by tools/gen/when_ends.py.)
-/
namespace Go.Proofs.YtldcagjnngkabaaGreatDoor
open Go Go.RowKit Go.Shelf Go.Maps

attribute [local go_sem] Oper.semAt_some ext_const

/-- What lay below B, whatever is no cells, lies as it lay. -/
theorem keeps_of_below {B : Nat} {W W' : World} (h : Below W.heap.size W W') : KeepsFrom B W W' :=
  ⟨h.size, fun k _ _ hk _ => (h.block k (Array.getElem?_eq_some_iff.1 hk).1).trans hk⟩

theorem Mom.kept' {w w' : World} {g k : Nat} {D : DataW Unit} {row : Option Nat} (h : Mom w g k D) (hg : w.grownBy w' row) (hne : row ≠ some g) : Mom w' g k D := h.kept hg (fun e => hne e.symm)
theorem Mom.later {w w' : World} {g k : Nat} {D : DataW Unit} (h : Mom w g k D) (hb : Below w.heap.size w w') : Mom w' g k D := by
  have hlt := h.lt
  obtain ⟨es, clock, e, r⟩ := h
  exact ⟨es, clock, (hb.block g hlt).trans e, r⟩

/-- What the loop keeps: the map's variable, the question's, the map. -/
structure Found (w : World) (Bw g Bm : Nat) (f : Value) (p : Slt → Bool) (pre : List SltM) (W : World) : Prop where
  ask : Blk W Bw 116 #[f]
  var : Blk W Bm 114 #[.map (some g)]
  map : ∃ D, Mom W g pre.length D ∧ KeysI D (gathT p [] (pre.map (·.1)))
  below : Below w.heap.size w W
theorem found_own {w : World} {Bw g Bm : Nat} {f : Value} {p : Slt → Bool} {B : Nat} (hB : w.heap.size ≤ B) (hg : g < B) : OwnFrom B (Found w Bw g Bm f p) := fun s A A' row hs hgr hr => by
  obtain ⟨ha, hv, ⟨D, hm, hk⟩, hbe⟩ := hs
  have hr' : ∀ r, row = some r → ∃ o : Obj, A.heap[r]? = some o ∧ o.isCells = false := fun r e => (hr r e).2
  exact ⟨ha.kept hgr hr', hv.kept hgr hr', ⟨D, hm.kept' hgr (fun e => by have := (hr _ e).1; omega), hk⟩, hbe.grown hgr hbe.size (fun k e => by have := (hr k e).1; omega)⟩
theorem Found.later {w : World} {Bw g Bm : Nat} {f : Value} {p : Slt → Bool} {pre : List SltM} {W W' : World} (h : Found w Bw g Bm f p pre W) (hb : Below W.heap.size W W') : Found w Bw g Bm f p pre W' := by
  obtain ⟨ha, hv, ⟨D, hm, hk⟩, hbe⟩ := h
  exact ⟨ha.later hb, hv.later hb, ⟨D, hm.later hb, hk⟩, then_below hbe hb⟩

theorem ends_start (w : World) (u0 u1 u3 : Array Value) (t0 t1 t3 : TypeId) : ∃ W, ((((w.alloc (.cells u0 t0)).alloc (.cells u1 t1)).alloc (.map #[] 0)).alloc (.cells u3 t3)).alloc (.cells u0 t0) = W ∧ Below w.heap.size w W ∧ Blk W (w.heap.size + 1) t1 u1 ∧ Blk W (w.heap.size + 1 + 1 + 1) t3 u3 ∧ Mom W (w.heap.size + 1 + 1) 0 (.map []) ∧ Blk W (w.heap.size + 1 + 1 + 1 + 1) t0 u0 ∧ W.heap.size = w.heap.size + 5 := by
  refine ⟨_, rfl, ((((((Below.refl _ w).alloc (Nat.le_refl _) _).alloc (by simp) _).alloc (by simp; omega) _).alloc (by simp; omega) _).alloc (by simp; omega) _), ?_, ?_, ?_, ?_, by simp⟩
  · have := (((Blk.new (w.alloc (.cells u0 t0)) t1 u1).alloc (.map #[] 0)).alloc (.cells u3 t3)).alloc (.cells u0 t0)
    simpa using this
  · have := (Blk.new (((w.alloc (.cells u0 t0)).alloc (.cells u1 t1)).alloc (.map #[] 0)) t3 u3).alloc (.cells u0 t0)
    simpa using this
  · have := ((World.ownsMap_made ((w.alloc (.cells u0 t0)).alloc (.cells u1 t1)) Tryz.prog 3 (unitElem (H := Unit))).alloc (.cells u3 t3)).alloc (.cells u0 t0)
    simpa using this
  · have := Blk.new ((((w.alloc (.cells u0 t0)).alloc (.cells u1 t1)).alloc (.map #[] 0)).alloc (.cells u3 t3)) t0 u0
    simpa using this


set_option maxRecDepth 100000 in
set_option maxHeartbeats 4000000 in
theorem ends_time {a b c : Int} {vn vl : Value} {ns ls : List (List Slt)} {p : Slt → Bool} (w : World) (A : Nat) (hm : mayY a b c ns ls) (hN : Yl w vn ns) (hL : Yl w vl ls) (htot : (slotsY ns ls).length ≤ 100000)
    (hc : ∀ (s : Slt) (w1 : World), Below w.heap.size w w1 → Calls Tryz.prog 64 #[V3 s.1 s.2.1 s.2.2, .pointer (some ⟨A, 0, none⟩)] w1 fun e W' => e = .returned (.bool (p s)) ∧ Below w1.heap.size w1 W') :
    Calls Tryz.prog 63 #[Y5 a b c vn vl, .func (.func 64) #[] #[.pointer (some ⟨A, 0, none⟩)]] w fun e W' => ∃ g k D, e = .returned (.map (some g)) ∧ Mom W' g k D ∧ KeysI D (gathT p [] (slotsY ns ls)) ∧ k ≤ 100000 ∧ w.heap.size ≤ g ∧ Below w.heap.size w W' := by
  have hmm := @run_makeMap Tryz.prog
  have HC : Hid (∀ (s : Slt) (w1 : World), Below w.heap.size w w1 → Calls Tryz.prog 64 #[V3 s.1 s.2.1 s.2.2, .pointer (some ⟨A, 0, none⟩)] w1 fun e W' => e = .returned (.bool (p s)) ∧ Below w1.heap.size w1 W') := hc
  have HSl : Hid (∀ w1, Calls Tryz.prog 106 #[Y5 a b c vn vl] w1 fun e w' => e = .returned (.func (.func 133) #[] #[.pointer (some ⟨w1.heap.size, 0, none⟩)]) ∧ w' = w1.alloc (.cells (K5 a b c vn vl) 26)) := fun w1 => slots_calls a b c vn vl w1
  have HN : Hid (Yl w vn ns) := hN
  have HL : Hid (Yl w vl ls) := hL
  have HM : Hid (mayY a b c ns ls) := hm
  obtain ⟨an, cn, rfl, _⟩ := hN.form
  obtain ⟨al, cl, rfl, _⟩ := hL.form
  clear hc hN hL hm
  refine (callsIn_wide (n := 3)).1 ?_
  refine callsIn_of_wp_marks Tryz.func63 rfl trivial ?_ rfl
  simp only [Tryz.ntmps63, List.size_toArray, List.length_cons, List.length_nil, Nat.reduceAdd, Nat.reduceSub, Array.replicate_succ, Array.replicate_zero, List.push_toArray, List.append_toArray, List.nil_append, List.cons_append]
  gi_wp2_with fail
  refine ⟨trivial, (callsIn_wide.2 (HSl.out _)).mono ?_⟩
  rintro e w1 ⟨rfl, rfl⟩
  obtain ⟨W0, hW0, hB0, hask, hvar, hmom, hyd, hsz⟩ := ends_start w (K5 a b c (.slice an ns.length cn) (.slice al ls.length cl)) #[.func (.func 64) #[] #[.pointer (some ⟨A, 0, none⟩)]] #[.map (some (w.heap.size + 1 + 1))] 26 116 114
  have HW0 : Hid (((((w.alloc (.cells (K5 a b c (.slice an ns.length cn) (.slice al ls.length cl)) 26)).alloc (.cells #[.func (.func 64) #[] #[.pointer (some ⟨A, 0, none⟩)]] 116)).alloc (.map #[] 0)).alloc (.cells #[.map (some (w.heap.size + 1 + 1))] 114)).alloc (.cells (K5 a b c (.slice an ns.length cn) (.slice al ls.length cl)) 26) = W0) := hW0
  clear hW0
  gi_wp2_with fail
  rw [HW0.out]
  clear HW0
  have hg0 : w.heap.size ≤ w.heap.size + 1 + 1 := by omega
  have hg1 : w.heap.size + 1 + 1 < W0.heap.size := by omega
  have hg2 : w.heap.size + 1 + 1 + 1 ≠ w.heap.size + 1 + 1 := by omega
  have hg3 : w.heap.size ≤ w.heap.size + 1 + 1 + 1 := by omega
  clear hsz
  generalize w.heap.size + 1 + 1 + 1 + 1 = By at *
  generalize w.heap.size + 1 + 1 + 1 = Bm at *
  generalize w.heap.size + 1 + 1 = g at *
  generalize w.heap.size + 1 = Bw at *
  have hG0 : Found w Bw g Bm (.func (.func 64) #[] #[.pointer (some ⟨A, 0, none⟩)]) p [] W0 := ⟨hask, hvar, ⟨_, hmom, keysI_none⟩, hB0⟩
  have hst := slots_stops HM.out w W0 HN.out HL.out (3 - 1) (by omega) By hB0 hyd
  clear hask hvar hmom hyd
  generalize ns.length = n1 at *
  generalize ls.length = n2 at *
  refine wpIn_rangeFunc_ownH rfl (by omega) (gf := 133) (lb := #[.pointer (some ⟨By, 0, none⟩)]) rfl trivial (enters_of Tryz.func133 (by kernel_rfl) rfl) hst belowK_t (belowK_b hB0.size) (Below.refl _ _) (fun _ => rfl)
    (Found w Bw g Bm (.func (.func 64) #[] #[.pointer (some ⟨A, 0, none⟩)]) p) (fun _ _ _ => False) (found_own hB0.size hg1) (fun _ _ _ _ _ hs _ _ => hs) hG0
    (fun x a' W => ∃ Bs, a' = { tmps := #[Y5 a b c (.slice an n1 cn) (.slice al n2 cl), .func (.func 64) #[] #[.pointer (some ⟨A, 0, none⟩)], .pointer (some ⟨w.heap.size, 0, none⟩), .pointer (some ⟨Bw, 0, none⟩), .map none, .pointer (some ⟨Bm, 0, none⟩), .pointer (some ⟨Bs, 0, none⟩), .map (some g), .agg #[.int .i64 a, .int .i64 b, .int .i64 c, .slice an n1 cn, .slice al n2 cl], .func (.func 133) #[] #[.pointer (some ⟨By, 0, none⟩)], V3 x.1.1 x.1.2.1 x.1.2.2, undef, undef, undef, undef, undef, undef, undef, undef, undef], defers := [] } ∧ Blk W Bs 85 (C3 x.1.1 x.1.2.1 x.1.2.2))
    (fun x a' _ A0 A1 row hs hgr hr => by
      obtain ⟨Bs, e, hb⟩ := hs
      exact ⟨Bs, e, hb.kept hgr (fun r e => (hr r e).2)⟩) ?assign ?body ?done ?stop
  case assign =>
    intro l pre x W K hI hK
    have hBa : Below W.heap.size W (W.alloc (.cells (C3 x.1.1 x.1.2.1 x.1.2.2) 85)) := (Below.refl _ W).alloc (Nat.le_refl _) _
    gi_wp2
    exact hK _ _ (keeps_of_below hBa) (hBa.mono hI.below.size) (hI.later hBa) ⟨_, rfl, Blk.new _ _ _⟩
  case body =>
    rintro l pre ⟨⟨f, t, o⟩, hms⟩ a' W hl0 _ hI ⟨Bs, rfl, hbs⟩ hlt
    dsimp only at hbs ⊢
    obtain ⟨D, hmom, hkeys⟩ := hI.map
    have hBw := hI.below
    have hCx := HC.out (f, t, o) W hBw
    have hpl : pre.length < 1000000 := by omega
    have hwf : (Lit.int .i64 t).wf = true := maySl_wf hms
    have ha0 := hI.ask.cell 0
    have hv0 := hI.var.cell 0
    obtain ⟨hz, s0, s1, s2⟩ := hbs.at3
    simp at ha0 hv0
    have HI : Hid (Found w Bw g Bm (.func (.func 64) #[] #[.pointer (some ⟨A, 0, none⟩)]) p pre W) := hI
    have HKy : Hid (KeysI D (gathT p [] (pre.map (·.1)))) := hkeys
    have HY : Hid (p (f, t, o) = true → gathT p [] ((pre ++ [(⟨(f, t, o), hms⟩ : SltM)]).map (·.1)) = insI t (gathT p [] (pre.map (·.1)))) := fun h => by rw [List.map_append]; exact gathW_yes h
    have HNo : Hid (p (f, t, o) = false → gathT p [] ((pre ++ [(⟨(f, t, o), hms⟩ : SltM)]).map (·.1)) = gathT p [] (pre.map (·.1))) := fun h => by rw [List.map_append]; exact gathW_no h
    have HLn : Hid ((pre ++ [(⟨(f, t, o), hms⟩ : SltM)]).length = pre.length + 1) := by show _ = _; simp
    generalize pre ++ [(⟨(f, t, o), hms⟩ : SltM)] = pre1 at *
    generalize p (f, t, o) = q at hCx HY HNo
    have HCx : Hid (Calls Tryz.prog 64 #[V3 f t o, .pointer (some ⟨A, 0, none⟩)] W fun e W' => e = .returned (.bool q) ∧ Below W.heap.size W W') := hCx
    clear hI hkeys hCx
    cases q
    · have HE : Hid (gathT p [] (pre1.map (·.1)) = gathT p [] (pre.map (·.1))) := HNo.out rfl
      clear HY HNo
      gi_wp2_with fail
      refine ⟨trivial, (CallsIn.inRound l (callsIn_wide.2 HCx.out)).mono ?_⟩
      rintro e w1 ⟨rfl, hB1⟩
      gi_wp2
      obtain ⟨b1, b2, _, b4⟩ := HI.out.later hB1
      refine ⟨keeps_of_below hB1, hB1.mono hBw.size, b1, b2, ⟨D, (hmom.later hB1).mono (by rw [HLn.out]; omega), by rw [HE.out]; exact HKy.out⟩, b4⟩
    · have HE : Hid (gathT p [] (pre1.map (·.1)) = insI t (gathT p [] (pre.map (·.1)))) := HY.out rfl
      clear HY HNo
      gi_wp2_with fail
      refine ⟨trivial, (CallsIn.inRound l (callsIn_wide.2 HCx.out)).mono ?_⟩
      rintro e w1 ⟨rfl, hB1⟩
      have hmom1 := hmom.later hB1
      have hF1 := HI.out.later hB1
      obtain ⟨hz1, t0, t1, t2⟩ := (hbs.later hB1).at3
      have hv1 := hF1.var.cell 0
      simp at hv1
      clear ha0 hv0 hz s0 s1 s2 hmom
      gi_wp2_with (gi_at_mapUpdate; refine wpListIn_mapUpdate_own _ rfl _ _ _ 114 rfl 3 117 (Maps.int_keyed Tryz.underlying3) Tryz.underlying114 _ g pre.length D rfl hmom1 (by unfold maxLen; omega) _ _ _ rfl rfl (Maps.keyOf_int_mk Tryz.underlying3 hwf) _ [] unitElem_mk ?_; intro w2 hmom2 hgrow2)
      obtain ⟨b1, b2, _, b4⟩ := hF1
      have hmo : ∃ o : Obj, w1.heap[g]? = some o ∧ o.isCells = false := by
        obtain ⟨es, ck, hh, _⟩ := hmom1
        exact ⟨_, hh, rfl⟩
      have hr' : ∀ r, some g = some r → ∃ o : Obj, w1.heap[r]? = some o ∧ o.isCells = false := fun r e => by cases e; exact hmo
      refine ⟨(keeps_of_below hB1).trans (KeepsFrom.of_grownBy hgrow2 (fun j e => by cases e; exact hg1)), (hB1.mono hBw.size).trans ((Below.refl _ w1).grown hgrow2 b4.size (fun k e => by cases e; exact hg0)),
        b1.kept hgrow2 hr', b2.kept hgrow2 hr', ⟨_, by rw [HLn.out]; exact hmom2, by rw [HE.out]; exact keysI_put HKy.out ((Maps.int_keyed Tryz.underlying3).key (Maps.keyOf_int_mk Tryz.underlying3 hwf)) _⟩, b4.grown hgrow2 b4.size (fun k e => by cases e; exact hg0)⟩
  case done =>
    rintro D xs W hD hxs ⟨h1, h2, ⟨DD, h3, h4⟩, h5⟩ hK
    have hv0 := h2.cell 0
    simp at hv0
    have HX : Hid (xs.map (·.1) = slotsY ns ls) := hxs
    have hlen : xs.length ≤ 100000 := by
      have := congrArg List.length hxs
      rw [List.length_map] at this
      omega
    clear hxs
    gi_wp2
    refine ⟨by simp, .inl ⟨_, _, rfl, run_takeDeferred hK, ?_⟩⟩
    refine ⟨_, results_tmp rfl _ _ _, g, xs.length, DD, rfl, h3.kept' (grownBy_putObj' _ D _) (fun e => by cases e; omega), by rw [← HX.out]; exact h4, hlen, hg0, below_put _ h5 (by have := hB0.size; omega) hK⟩
  case stop =>
    rintro D c pre W _ _ h _
    exact h.elim

end Go.Proofs.YtldcagjnngkabaaGreatDoor

/-
  when.Times, when.Ends: what each answers, for every input.
-/
namespace Go.Proofs.YtldcagjnngkabaaGreatDoor
open Go Go.RowKit Go.Shelf Go.Maps

attribute [local go_sem] Oper.semAt_some ext_const

set_option maxRecDepth 100000 in
set_option maxHeartbeats 4000000 in
theorem wtimes_yes {a b c x : Int} {n l : Value} {ns ls : List (List Slt)} (w : World) (hN : Yl w n ns) (hL : Yl w l ls) (hm : mayY a b c ns ls) (hx : 0 ≤ x ∧ x < 1099511627776) (htot : (slotsY ns ls).length ≤ 100000) :
    Calls Tryz.prog 31 #[Y5 a b c n l, I x] w fun e W' => ∃ v, e = .returned (.tuple #[v, I 0]) ∧ Lst W' w.heap.size v (timesT x (slotsY ns ls)) ∧ Below w.heap.size w W' := by
  obtain ⟨W, hW, hB, hK, hS⟩ := two_start w (K5 a b c n l) #[I x] 26 3
  have HW : Hid ((w.alloc (.cells (K5 a b c n l) 26)).alloc (.cells #[I x] 3) = W) := hW
  have HC : Hid (Calls Tryz.prog 28 #[Y5 a b c n l] W fun e W' => e = .returned (I 0) ∧ Below W.heap.size W W') := ycheck_yes W (hN.later hB) (hL.later hB) hm
  have HEn : Hid (∀ w1, Below W.heap.size W w1 → Calls Tryz.prog 63 #[Y5 a b c n l, .func (.func 64) #[] #[.pointer (some ⟨w.heap.size + 1, 0, none⟩)]] w1 fun e W' => ∃ g k D, e = .returned (.map (some g)) ∧ Mom W' g k D ∧ KeysI D (gathT (timeP x) [] (slotsY ns ls)) ∧ k ≤ 100000 ∧ w1.heap.size ≤ g ∧ Below w1.heap.size w1 W') := fun w1 hb =>
    ends_time w1 (w.heap.size + 1) hm (hN.later (then_below hB hb)) (hL.later (then_below hB hb)) htot (fun s w2 hb2 => timec_calls s (hS.later (then_below hb hb2)))
  have HR : Hid (∀ (w : World) (g k : Nat) (D : DataW Unit), Mom w g k D → k ≤ 1000000 → KeysI D (timesT x (slotsY ns ls)) → Calls Tryz.prog 65 #[.map (some g)] w fun e W' => ∃ v, e = .returned v ∧ Lst W' w.heap.size v (timesT x (slotsY ns ls)) ∧ Below w.heap.size w W') := fun w g k D h1 h2 h3 => risingM_calls w h1 h2 h3 (timesT_up _ _)
  have HI : Hid (insI x (gathT (timeP x) [] (slotsY ns ls)) = timesT x (slotsY ns ls)) := times_keys x _
  have hwf : (Lit.int .i64 x).wf = true := WalkArith.wf_i64 (by omega)
  obtain ⟨an, cn, rfl, _⟩ := hN.form
  obtain ⟨al, cl, rfl, _⟩ := hL.form
  clear hW hN hL hm htot
  generalize ns.length = n1 at *
  generalize ls.length = n2 at *
  have h1 : decide (x < 0) = false := decide_eq_false (by omega)
  have h2 : decide (1099511627776 ≤ x) = false := decide_eq_false (by omega)
  have HX : Hid (0 ≤ x ∧ x < 1099511627776) := hx
  clear hx
  obtain ⟨p0, p1, p2, p3, p4, hz⟩ := hK.five
  have s0 := hS.cell 0
  simp at s0
  go_enter Tryz.func31, Tryz.ntmps31
  go_wp2_with fail
  rw [HW.out]
  refine HC.out.mono ?_
  rintro e w1 ⟨rfl, hT⟩
  clear p0 p1 p2 p3 p4 hz s0
  obtain ⟨p0, p1, p2, p3, p4, hz⟩ := hK.yard hT
  obtain ⟨s0, hz1⟩ := hS.one hT
  go_wp2_with fail
  refine (HEn.out _ hT).mono ?_
  rintro e w2 ⟨g, k, D, rfl, hmom, hkeys, hk, hg, hB2⟩
  have hT2 := then_below hT hB2
  clear p0 p1 p2 p3 p4 hz s0 hz1
  obtain ⟨s0, hz1⟩ := hS.one hT2
  have HKy : Hid (KeysI D (gathT (timeP x) [] (slotsY ns ls))) := hkeys
  clear hkeys
  go_wp2_with (first
    | (at_mapUpdate; refine wpList_mapUpdate_own _ rfl _ _ _ 114 rfl 3 117 (Maps.int_keyed Tryz.underlying3) Tryz.underlying114 _ g k D rfl hmom (by unfold maxLen; omega) _ _ _ rfl rfl (Maps.keyOf_int_mk Tryz.underlying3 hwf) _ [] unitElem_mk ?_; intro w3 hmom3 hgrow3)
    | fail)
  have hT3 : Below w.heap.size w w3 := (then_below hB hT2).trans ((Below.refl w.heap.size w2).grown hgrow3 (then_below hB hT2).size (fun j e => by cases e; have := (then_below hB hT).size; omega))
  have hk3 : KeysI (D.put (.int .i64 x) (.agg [])) (timesT x (slotsY ns ls)) := by
    rw [← HI.out]
    exact keysI_put HKy.out ((Maps.int_keyed Tryz.underlying3).key (Maps.keyOf_int_mk Tryz.underlying3 hwf)) _
  refine (HR.out _ _ _ _ hmom3 (by omega) hk3).mono ?_
  rintro e w4 ⟨v, rfl, hv, hB4⟩
  go_wp2
  go_ret2
  exact ⟨_, rfl, hv.weak hT3.size, then_below hT3 hB4⟩

set_option maxRecDepth 100000 in
set_option maxHeartbeats 4000000 in
theorem wtimes_arg {a b c x : Int} {n l : Value} {ns ls : List (List Slt)} (w : World) (hN : Yl w n ns) (hL : Yl w l ls) (hm : mayY a b c ns ls) (hx : ¬ (0 ≤ x ∧ x < 1099511627776)) :
    Calls Tryz.prog 31 #[Y5 a b c n l, I x] w fun e W' => e = .returned (.tuple #[.slice none 0 0, I 2]) ∧ Below w.heap.size w W' := by
  obtain ⟨W, hW, hB, hK, hS⟩ := two_start w (K5 a b c n l) #[I x] 26 3
  have HW : Hid ((w.alloc (.cells (K5 a b c n l) 26)).alloc (.cells #[I x] 3) = W) := hW
  have HC : Hid (Calls Tryz.prog 28 #[Y5 a b c n l] W fun e W' => e = .returned (I 0) ∧ Below W.heap.size W W') := ycheck_yes W (hN.later hB) (hL.later hB) hm
  obtain ⟨an, cn, rfl, _⟩ := hN.form
  obtain ⟨al, cl, rfl, _⟩ := hL.form
  clear hW hN hL hm
  generalize ns.length = n1 at *
  generalize ls.length = n2 at *
  obtain ⟨p0, p1, p2, p3, p4, hz⟩ := hK.five
  by_cases h0 : x < 0
  · have h1 : decide (x < 0) = true := decide_eq_true h0
    clear hx
    go_enter Tryz.func31, Tryz.ntmps31
    go_wp2_with fail
    rw [HW.out]
    refine HC.out.mono ?_
    rintro e w1 ⟨rfl, hT⟩
    clear p0 p1 p2 p3 p4 hz
    obtain ⟨s0, hz1⟩ := hS.one hT
    go_wp2
    go_ret2
    exact ⟨rfl, then_below hB hT⟩
  · have h1 : decide (x < 0) = false := decide_eq_false h0
    have h2 : decide (1099511627776 ≤ x) = true := decide_eq_true (by omega)
    clear hx
    go_enter Tryz.func31, Tryz.ntmps31
    go_wp2_with fail
    rw [HW.out]
    refine HC.out.mono ?_
    rintro e w1 ⟨rfl, hT⟩
    clear p0 p1 p2 p3 p4 hz
    obtain ⟨s0, hz1⟩ := hS.one hT
    go_wp2
    go_ret2
    exact ⟨rfl, then_below hB hT⟩

set_option maxRecDepth 100000 in
set_option maxHeartbeats 4000000 in
theorem wtimes_bad {a b c x : Int} {n l : Value} {ns ls : List (List Slt)} (w : World) (hN : Yl w n ns) (hL : Yl w l ls) (hm : ¬ mayY a b c ns ls) :
    Calls Tryz.prog 31 #[Y5 a b c n l, I x] w fun e W' => e = .returned (.tuple #[.slice none 0 0, I 8]) ∧ Below w.heap.size w W' := by
  obtain ⟨W, hW, hB, hK, hS⟩ := two_start w (K5 a b c n l) #[I x] 26 3
  have HW : Hid ((w.alloc (.cells (K5 a b c n l) 26)).alloc (.cells #[I x] 3) = W) := hW
  have HC : Hid (Calls Tryz.prog 28 #[Y5 a b c n l] W fun e W' => e = .returned (I 8) ∧ Below W.heap.size W W') := by
    have := ycheck_calls (a := a) (b := b) (c := c) W (hN.later hB) (hL.later hB)
    rwa [errY_no hm] at this
  obtain ⟨an, cn, rfl, _⟩ := hN.form
  obtain ⟨al, cl, rfl, _⟩ := hL.form
  clear hW hN hL hm
  generalize ns.length = n1 at *
  generalize ls.length = n2 at *
  obtain ⟨p0, p1, p2, p3, p4, hz⟩ := hK.five
  go_enter Tryz.func31, Tryz.ntmps31
  go_wp2_with fail
  rw [HW.out]
  refine HC.out.mono ?_
  rintro e w1 ⟨rfl, hT⟩
  go_wp2
  go_ret2
  exact ⟨rfl, then_below hB hT⟩

/-- when.Times, whatever it is handed. -/
theorem wtimes_calls {a b c x : Int} {n l : Value} {ns ls : List (List Slt)} (w : World) (hN : Yl w n ns) (hL : Yl w l ls) (htot : (slotsY ns ls).length ≤ 100000) :
    Calls Tryz.prog 31 #[Y5 a b c n l, I x] w fun e W' => ∃ v, e = .returned (.tuple #[v, I (timeE a b c ns ls x)]) ∧ Lst W' w.heap.size v (timeV a b c ns ls x) ∧ Below w.heap.size w W' := by
  by_cases hm : mayY a b c ns ls
  · by_cases hx : 0 ≤ x ∧ x < 1099511627776
    · rw [timeV, timeE_yes hm hx, if_pos rfl]
      exact wtimes_yes w hN hL hm hx htot
    · rw [timeV, timeE_arg hm hx, if_neg (by omega)]
      refine (wtimes_arg w hN hL hm hx).mono ?_
      rintro e W' ⟨rfl, hB⟩
      exact ⟨_, rfl, Lst.nil _ _, hB⟩
  · rw [timeV, timeE_bad hm, if_neg (by omega)]
    refine (wtimes_bad w hN hL hm).mono ?_
    rintro e W' ⟨rfl, hB⟩
    exact ⟨_, rfl, Lst.nil _ _, hB⟩

end Go.Proofs.YtldcagjnngkabaaGreatDoor

/-
  free.Avoid, free.Holds, free.Soon: what each answers, for every input.
-/
namespace Go.Proofs.YtldcagjnngkabaaGreatDoor
open Go Go.RowKit Go.Shelf

attribute [local go_sem] Oper.semAt_some ext_const

/-- Two sets may be, of so many midplanes. -/
def mayW (n : Nat) (mw lw : List Nat) : Bool := maySet n mw && maySet (3 * n) lw
theorem errAll_one {n : Nat} (h1 : 1 ≤ n) (h2 : n ≤ 12288) (ws : List Nat) : errAll n [ws] = if maySet n ws then 0 else 8 := by
  unfold errAll
  rw [show okN (n : Int) = true by simp [okN]; omega]
  simp
theorem errAll_pair {n : Nat} (h1 : 1 ≤ n) (h2 : n ≤ 12288) (p : Nat → Bool) (ws : List Nat) : errAll n [setOf n p, ws] = if maySet n ws then 0 else 8 := by
  rw [errAll_second (setOf_err (by omega) (by omega) p), errAll_one h1 h2]
theorem avoE_is {n : Nat} (h1 : 1 ≤ n) (h2 : n ≤ 4096) (p q : Nat → Bool) (mw lw : List Nat) : avoE n (setOf n p) (setOf (3 * (n : Int)) q) mw lw = if mayW n mw lw then 0 else 8 := by
  unfold avoE
  have e : (3 * (n : Int)) = ((3 * n : Nat) : Int) := by omega
  rw [e, errAll_pair h1 (by omega), errAll_pair (by omega) (by omega)]
  unfold mayW pairE
  cases maySet n mw <;> cases maySet (3 * n) lw <;> rfl
theorem mayW_err {n : Nat} (h1 : 1 ≤ n) (h2 : n ≤ 4096) {mw lw : List Nat} (h : mayW n mw lw = true) : errAll n [mw] = 0 ∧ errAll (3 * (n : Int)) [lw] = 0 := by
  unfold mayW at h
  rw [Bool.and_eq_true] at h
  have e : (3 * (n : Int)) = ((3 * n : Nat) : Int) := by omega
  rw [e, errAll_one h1 (by omega), errAll_one (by omega) (by omega), h.1, h.2]
  exact ⟨rfl, rfl⟩
/-- No number that is asked for is in a set. -/
def offW (n : Nat) (p : Nat → Bool) (ws : List Nat) : Bool := !(List.range n).any fun k => hasW ws k && p k
theorem offW_iff {n : Nat} {p : Nat → Bool} {ws : List Nat} : offW n p ws = true ↔ ∀ k, k < n → p k = true → hasW ws k = false := by
  unfold offW
  rw [Bool.not_eq_true', List.any_eq_false]
  constructor
  · intro h k hk hp
    have := h k (List.mem_range.2 hk)
    simpa [hp] using this
  · intro h k hk
    have := h k (List.mem_range.1 hk)
    cases hp : p k
    · simp
    · simp [this hp]
theorem farB_is {n : Nat} (h1 : 1 ≤ n) (h2 : n ≤ 4096) (p q : Nat → Bool) (mw lw : List Nat) : farB n (setOf n p) (setOf (3 * (n : Int)) q) mw lw = (mayW n mw lw && (offW n p mw && offW (3 * n) q lw)) := by
  have e0 := avoE_is h1 h2 p q mw lw
  unfold avoE at e0
  unfold farB
  rw [e0]
  cases hm : mayW n mw lw
  · rfl
  · obtain ⟨e1, e2⟩ := mayW_err h1 h2 hm
    rw [setOf_meets (by omega) (by omega) p e1, setOf_meets (by omega) (by omega) q e2]
    have e3 : (3 * (n : Int)).toNat = 3 * n := by omega
    rw [e3, Int.toNat_natCast]
    rfl

/-- The error, and the sets, of free.Avoid. -/
def avE (a b c : Int) (ns ls : List (List Slt)) (mw lw : List Nat) (x y : Int) : Int := if busyE a b c ns ls x y = 0 then (if mayW ns.length mw lw then 0 else 8) else busyE a b c ns ls x y

set_option maxRecDepth 100000 in
set_option maxHeartbeats 8000000 in
theorem avoid_yes {a b c x y : Int} {n l vm vl : Value} {ns ls : List (List Slt)} {mw lw : List Nat} (w : World) (hN : Yl w n ns) (hL : Yl w l ls) (hM : Wds w vm mw) (hK : Wds w vl lw) (hm : mayY a b c ns ls) (hs : maySp x y) :
    Calls Tryz.prog 9 #[Y5 a b c n l, vm, vl, S2 x y] w fun e W' => ∃ u v, e = .returned (.tuple #[u, v, I (if mayW ns.length mw lw then 0 else 8)]) ∧ SetR W' w.heap.size u (wordsE (if mayW ns.length mw lw then 0 else 8) ns.length (fun k => busyP ns x y k || hasW mw k)) ∧
      SetR W' w.heap.size v (wordsE (if mayW ns.length mw lw then 0 else 8) ls.length (fun k => busyP ls x y k || hasW lw k)) ∧ Below w.heap.size w W' := by
  obtain ⟨h1, h2, h3⟩ := hm.bd
  have hd := hm.1
  have hNN := hm.2.1
  obtain ⟨W, hW, hB0, k0, k1⟩ := two_start w (K5 a b c n l) (C2 x y) 26 36
  have HW : Hid ((w.alloc (.cells (K5 a b c n l) 26)).alloc (.cells (C2 x y) 36) = W) := hW
  have he : busyE a b c ns ls x y = 0 := by rw [busyE, if_pos (mayYB_iff.2 hm), if_pos ((maySpB_iff x y).2 hs)]
  have HB : Hid (Calls Tryz.prog 26 #[Y5 a b c n l, S2 x y] W fun e W' => ∃ u v, e = .returned (.tuple #[u, v, I 0]) ∧ SetR W' W.heap.size u (setOf ns.length (busyP ns x y)) ∧ SetR W' W.heap.size v (setOf ls.length (busyP ls x y)) ∧ Below W.heap.size W W') := by
    have := yBusy_calls (a := a) (b := b) (c := c) (x := x) (y := y) W (hN.later hB0) (hL.later hB0)
    rw [he] at this
    exact this
  have HJ : Hid (∀ w' u v, Below W.heap.size W w' → Wds w' u (setOf ns.length (busyP ns x y)) → Wds w' v (setOf ls.length (busyP ls x y)) → Calls Tryz.prog 27 #[A3 a b c, V2 u v, V2 vm vl, .func (.func 22) #[] #[]] w' fun e W' => ∃ x' y', e = .returned (.tuple #[x', y', I (if mayW ns.length mw lw then 0 else 8)]) ∧
      SetR W' w'.heap.size x' (wordsE (if mayW ns.length mw lw then 0 else 8) ns.length (fun k => busyP ns x y k || hasW mw k)) ∧ SetR W' w'.heap.size y' (wordsE (if mayW ns.length mw lw then 0 else 8) ls.length (fun k => busyP ls x y k || hasW lw k)) ∧ Below w'.heap.size w' W') := fun w' u v hb hu hv => by
    have hl3 : (ls.length : Int) = 3 * (ns.length : Int) := by omega
    have J := joinS_calls w' hd hu hv (hM.later (then_below hB0 hb)) (hK.later (then_below hB0 hb))
    have hE := avoE_is h1 h2 (busyP ns x y) (busyP ls x y) mw lw
    unfold avoE at hE
    rw [hl3] at J
    rw [← hNN, hE] at J
    refine J.mono ?_
    rintro e W' ⟨x', y', rfl, hx, hy, hB⟩
    refine ⟨x', y', rfl, ?_, ?_, hB⟩
    · cases hmw : mayW ns.length mw lw
      · rw [hmw] at hE
        obtain h0 | h0 : errAll (ns.length : Int) [setOf ns.length (busyP ns x y), mw] ≠ 0 ∨ errAll (3 * (ns.length : Int)) [setOf (3 * (ns.length : Int)) (busyP ls x y), lw] ≠ 0 := by
          by_cases q : errAll (ns.length : Int) [setOf ns.length (busyP ns x y), mw] = 0
          · right; intro q2; rw [q, q2] at hE; simp [pairE] at hE
          · exact .inl q
        · rw [pairW_1 h0] at hx; exact hx
        · rw [pairW_2 h0] at hx; exact hx
      · obtain ⟨q1, q2⟩ := mayW_err h1 h2 hmw
        rw [hmw] at hE
        obtain ⟨z1, z2⟩ := pairE_ok hE
        rw [z1, z2, pairW_0, setOf_or (by omega) (by omega) _ hM.1 q1] at hx
        exact hx
    · cases hmw : mayW ns.length mw lw
      · rw [hmw] at hE
        obtain h0 | h0 : errAll (ns.length : Int) [setOf ns.length (busyP ns x y), mw] ≠ 0 ∨ errAll (3 * (ns.length : Int)) [setOf (3 * (ns.length : Int)) (busyP ls x y), lw] ≠ 0 := by
          by_cases q : errAll (ns.length : Int) [setOf ns.length (busyP ns x y), mw] = 0
          · right; intro q2; rw [q, q2] at hE; simp [pairE] at hE
          · exact .inl q
        · rw [pairW_1 h0] at hy; exact hy
        · rw [pairW_2 h0] at hy; exact hy
      · obtain ⟨q1, q2⟩ := mayW_err h1 h2 hmw
        rw [hmw] at hE
        obtain ⟨z1, z2⟩ := pairE_ok hE
        rw [z1, z2, pairW_0, setOf_or (by omega) (by omega) _ hK.1 q2, ← hl3] at hy
        exact hy
  obtain ⟨_, _, rfl, _⟩ := hN.form
  obtain ⟨_, _, rfl, _⟩ := hL.form
  obtain ⟨_, _, _, rfl⟩ := hM.form
  obtain ⟨_, _, _, rfl⟩ := hK.form
  clear hW hN hL hM hK hm hs he h1 h2 h3 hd hNN
  generalize wordsE (if mayW ns.length mw lw then 0 else 8) ns.length (fun k => busyP ns x y k || hasW mw k) = Z1 at *
  generalize wordsE (if mayW ns.length mw lw then 0 else 8) ls.length (fun k => busyP ls x y k || hasW lw k) = Z2 at *
  generalize (if mayW ns.length mw lw then (0 : Int) else 8) = er at *
  generalize setOf ns.length (busyP ns x y) = S1 at *
  generalize setOf ls.length (busyP ls x y) = S2' at *
  generalize ns.length = n1 at *
  generalize ls.length = n2 at *
  obtain ⟨p0, p1, p2, p3, p4, hz⟩ := k0.five
  obtain ⟨x0, x1, hz1⟩ := k1.pair (Below.refl _ _)
  go_enter Tryz.func9, Tryz.ntmps9
  go_wp2_with fail
  rw [HW.out]
  refine HB.out.mono ?_
  rintro e w1 ⟨u, v, rfl, hu, hv, hT⟩
  have HU : Hid (Wds w1 u S1) := hu.wds
  have HV : Hid (Wds w1 v S2') := hv.wds
  obtain ⟨_, _, _, rfl⟩ := hu.slice
  obtain ⟨_, _, _, rfl⟩ := hv.slice
  clear hu hv p0 p1 p2 p3 p4 hz x0 x1 hz1
  obtain ⟨p0, p1, p2, p3, p4, hz⟩ := k0.yard hT
  go_wp2_with fail
  refine (HJ.out w1 _ _ hT HU.out HV.out).mono ?_
  rintro e w2 ⟨x', y', rfl, hx, hy, hT2⟩
  have HF : Hid (SetR w2 w.heap.size x' Z1 ∧ SetR w2 w.heap.size y' Z2 ∧ Below w.heap.size w w2) := ⟨hx.weak (then_below hB0 hT).size, hy.weak (then_below hB0 hT).size, then_below hB0 (then_below hT hT2)⟩
  clear hx hy
  go_wp2
  exact bodyPost_ret (results_tmp3 rfl _ _ _) rfl ⟨_, _, rfl, HF.out.1, HF.out.2.1, HF.out.2.2⟩

set_option maxRecDepth 100000 in
set_option maxHeartbeats 8000000 in
theorem avoid_err {a b c x y : Int} {n l vm vl : Value} {ns ls : List (List Slt)} {mw lw : List Nat} (w : World) (hN : Yl w n ns) (hL : Yl w l ls) (hM : Wds w vm mw) (hK : Wds w vl lw) (h0 : busyE a b c ns ls x y ≠ 0) :
    Calls Tryz.prog 9 #[Y5 a b c n l, vm, vl, S2 x y] w fun e W' => e = .returned (.tuple #[.slice none 0 0, .slice none 0 0, I (busyE a b c ns ls x y)]) ∧ Below w.heap.size w W' := by
  obtain ⟨W, hW, hB0, k0, k1⟩ := two_start w (K5 a b c n l) (C2 x y) 26 36
  have HW : Hid ((w.alloc (.cells (K5 a b c n l) 26)).alloc (.cells (C2 x y) 36) = W) := hW
  have HB : Hid (Calls Tryz.prog 26 #[Y5 a b c n l, S2 x y] W fun e W' => ∃ u v, e = .returned (.tuple #[u, v, I (busyE a b c ns ls x y)]) ∧ Below W.heap.size W W') := by
    refine (yBusy_calls (a := a) (b := b) (c := c) (x := x) (y := y) W (hN.later hB0) (hL.later hB0)).mono ?_
    rintro e W' ⟨u, v, h, _, _, hB⟩
    exact ⟨u, v, h, hB⟩
  obtain ⟨_, _, rfl, _⟩ := hN.form
  obtain ⟨_, _, rfl, _⟩ := hL.form
  obtain ⟨_, _, _, rfl⟩ := hM.form
  obtain ⟨_, _, _, rfl⟩ := hK.form
  clear hW hN hL hM hK
  generalize busyE a b c ns ls x y = er at *
  have hne : (er != 0) = true := by simpa using h0
  clear h0
  generalize ns.length = n1 at *
  generalize ls.length = n2 at *
  obtain ⟨p0, p1, p2, p3, p4, hz⟩ := k0.five
  obtain ⟨x0, x1, hz1⟩ := k1.pair (Below.refl _ _)
  go_enter Tryz.func9, Tryz.ntmps9
  go_wp2_with fail
  rw [HW.out]
  refine HB.out.mono ?_
  rintro e w1 ⟨u, v, rfl, hT⟩
  go_wp2
  exact bodyPost_ret (results_tmp3 rfl _ _ _) rfl ⟨rfl, then_below hB0 hT⟩

/-- free.Avoid, whatever it is handed. -/
theorem avoid_calls {a b c x y : Int} {n l vm vl : Value} {ns ls : List (List Slt)} {mw lw : List Nat} (w : World) (hN : Yl w n ns) (hL : Yl w l ls) (hM : Wds w vm mw) (hK : Wds w vl lw) :
    Calls Tryz.prog 9 #[Y5 a b c n l, vm, vl, S2 x y] w fun e W' => ∃ u v, e = .returned (.tuple #[u, v, I (avE a b c ns ls mw lw x y)]) ∧ SetR W' w.heap.size u (wordsE (avE a b c ns ls mw lw x y) ns.length (fun k => busyP ns x y k || hasW mw k)) ∧
      SetR W' w.heap.size v (wordsE (avE a b c ns ls mw lw x y) ls.length (fun k => busyP ls x y k || hasW lw k)) ∧ Below w.heap.size w W' := by
  by_cases h0 : busyE a b c ns ls x y = 0
  · have hm : mayY a b c ns ls := by
      refine mayYB_iff.1 ?_
      cases e : mayYB a b c ns ls
      · simp [busyE, e] at h0
      · rfl
    have hs : maySp x y := by
      refine (maySpB_iff x y).1 ?_
      cases e : maySpB x y
      · simp [busyE, mayYB_iff.2 hm, e] at h0
      · rfl
    rw [avE, if_pos h0]
    exact avoid_yes w hN hL hM hK hm hs
  · rw [avE, if_neg h0]
    refine (avoid_err w hN hL hM hK h0).mono ?_
    rintro e W' ⟨rfl, hB⟩
    exact ⟨_, _, rfl, .inr ⟨rfl, by rw [wordsE, if_neg h0]⟩, .inr ⟨rfl, by rw [wordsE, if_neg h0]⟩, hB⟩

/-- Which numbers a place takes. -/
def midP (a b c : Int) (bx : Bx) (k : Nat) : Bool := hasB a b c bx (k : Int)
def cabP (a b c : Int) (bx : Bx) (t0 t1 t2 : Bool) (k : Nat) : Bool := cabB a b c bx t0 t1 t2 (k : Int)
/-- Whether a place is free of two sets. -/
def wellB (a b c : Int) (bx : Bx) (t0 t1 t2 : Bool) (mw lw : List Nat) : Bool := offW (a * b * c).toNat (midP a b c bx) mw && offW (3 * (a * b * c).toNat) (cabP a b c bx t0 t1 t2) lw
def hoE (a b c : Int) (bx : Bx) (t0 t1 t2 : Bool) (mw lw : List Nat) : Int := if errP a b c bx t0 t1 t2 = 0 then (if mayW (a * b * c).toNat mw lw then 0 else 8) else errP a b c bx t0 t1 t2
def hoB (a b c : Int) (bx : Bx) (t0 t1 t2 : Bool) (mw lw : List Nat) : Bool := decide (hoE a b c bx t0 t1 t2 mw lw = 0) && wellB a b c bx t0 t1 t2 mw lw

theorem avo_place {a b c : Int} (hm : mayD a b c) (bx : Bx) (t0 t1 t2 : Bool) (mw lw : List Nat) : avoE (a * b * c) (midW a b c bx) (cabsW a b c bx t0 t1 t2) mw lw = if mayW (a * b * c).toNat mw lw then 0 else 8 := by
  have hb := N_bd hm
  obtain ⟨n, hn⟩ : ∃ n : Nat, a * b * c = n := ⟨(a * b * c).toNat, by omega⟩
  unfold midW cabsW
  rw [hn, Int.toNat_natCast]
  exact avoE_is (by omega) (by omega) _ _ mw lw
theorem far_place {a b c : Int} (hm : mayD a b c) (bx : Bx) (t0 t1 t2 : Bool) (mw lw : List Nat) : farB (a * b * c) (midW a b c bx) (cabsW a b c bx t0 t1 t2) mw lw = (mayW (a * b * c).toNat mw lw && wellB a b c bx t0 t1 t2 mw lw) := by
  have hb := N_bd hm
  obtain ⟨n, hn⟩ : ∃ n : Nat, a * b * c = n := ⟨(a * b * c).toNat, by omega⟩
  unfold midW cabsW wellB
  rw [hn, Int.toNat_natCast]
  exact farB_is (by omega) (by omega) _ _ mw lw
/-- free.Holds, whatever it is handed. -/
theorem holds_calls {a b c : Int} {bx : Bx} (t0 t1 t2 : Bool) {mw lw : List Nat} {vm vl : Value} (w : World) (hM : Wds w vm mw) (hL : Wds w vl lw) :
    Calls Tryz.prog 12 #[A3 a b c, P9 bx t0 t1 t2, vm, vl] w fun e W' => e = .returned (.tuple #[.bool (hoB a b c bx t0 t1 t2 mw lw), I (hoE a b c bx t0 t1 t2 mw lw)]) ∧ Below w.heap.size w W' := by
  rcases errP_cases a b c bx t0 t1 t2 with ⟨hm, hp, he⟩ | ⟨he, _⟩
  · have := holds_ok w hm hp hM hL
    rw [avo_place hm, far_place hm] at this
    have e1 : hoE a b c bx t0 t1 t2 mw lw = if mayW (a * b * c).toNat mw lw then 0 else 8 := by rw [hoE, if_pos he]
    have e2 : hoB a b c bx t0 t1 t2 mw lw = (mayW (a * b * c).toNat mw lw && wellB a b c bx t0 t1 t2 mw lw) := by
      rw [hoB, e1]
      cases mayW (a * b * c).toNat mw lw <;> rfl
    rw [e1, e2]
    exact this
  · have h0 : errP a b c bx t0 t1 t2 ≠ 0 := by rcases he with h | h <;> rw [h] <;> decide
    have e1 : hoE a b c bx t0 t1 t2 mw lw = errP a b c bx t0 t1 t2 := by rw [hoE, if_neg h0]
    have e2 : hoB a b c bx t0 t1 t2 mw lw = false := by rw [hoB, e1, decide_eq_false h0, Bool.false_and]
    rw [e1, e2]
    exact holds_err t0 t1 t2 w (by simpa using h0)

end Go.Proofs.YtldcagjnngkabaaGreatDoor
