/-
  score.Of, for every input.
-/
import Derived.Test.YtbedhpooeabehaaGreatDoorPart17
import Derived.Test.YtbedhpooeabehaaGreatDoorPart5
import Derived.Test.YtbedhpooeabehaaGreatDoorPart9
import Derived.Test.YtbedhpooeabehaaGreatDoorPart12
import Derived.Test.YtbedhpooeabehaaGreatDoorPart4
import Derived.Test.YtbedhpooeabehaaGreatDoorPart2
namespace Go.Proofs.YtbedhpooeabehaaGreatDoor
open Go Go.RowKit Go.Shelf

set_option maxRecDepth 100000 in
set_option maxHeartbeats 2000000 in
theorem sof_bad {va : Value} {a : List Nat} {d0 d1 d2 : Int} (b : Bx) (t0 t1 t2 : Bool) (w : World) (ha : Wds w va a) (h0 : errK d0 d1 d2 [a] ≠ 0) :
    Calls Tryz.prog 6 #[A3 d0 d1 d2, P9 b t0 t1 t2, va] w fun e W' => e = .returned (.tuple #[I 0, I 8]) ∧ Below w.heap.size w W' := by
  have h8 : errK d0 d1 d2 [a] = 8 := (errK_cases _ _ _ _).resolve_left h0
  have HC : Hid (∀ (W : World) (g : Nat), Below w.heap.size w W → Blk W g 25 #[va] → Calls Tryz.prog 10 #[A3 d0 d1 d2, .slice (some ⟨g, 0, none⟩) 1 1] W fun e W' => e = .returned (.tuple #[I 0, I 8]) ∧ Below W.heap.size W W') := fun W g hW hB => by
    have := schk_one d0 d1 d2 hW hB ha
    rw [numK, if_neg h0, h8] at this
    exact this
  obtain ⟨ao, ca, rfl, _⟩ := ha.view
  clear h0 h8 ha
  generalize a.length = na at *
  go_enter Tryz.func6, Tryz.ntmps6
  go_wp2_with fail
  obtain ⟨W, hW, hB0, kd, kp, ks⟩ := three_boxes w #[I d0, I d1, I d2] (C9 b t0 t1 t2) #[.slice ao na ca] 23 30 25
  rw [hW]
  clear hW
  refine (HC.out _ _ hB0 ks).mono ?_
  rintro e w1 ⟨rfl, hB1⟩
  have hT := then_below hB0 hB1
  clear HC hB0 hB1 kd kp ks
  go_wp2
  go_ret2
  exact ⟨rfl, hT⟩

set_option maxRecDepth 100000 in
set_option maxHeartbeats 2000000 in
theorem sof_err {va : Value} {a : List Nat} {d0 d1 d2 : Int} {b : Bx} {t0 t1 t2 : Bool} (w : World) (ha : Wds w va a) (h0 : errK d0 d1 d2 [a] = 0) (he : (errP d0 d1 d2 b t0 t1 t2 != 0) = true) :
    Calls Tryz.prog 6 #[A3 d0 d1 d2, P9 b t0 t1 t2, va] w fun e W' => e = .returned (.tuple #[I 0, I (errP d0 d1 d2 b t0 t1 t2)]) ∧ Below w.heap.size w W' := by
  have HC : Hid (∀ (W : World) (g : Nat), Below w.heap.size w W → Blk W g 25 #[va] → Calls Tryz.prog 10 #[A3 d0 d1 d2, .slice (some ⟨g, 0, none⟩) 1 1] W fun e W' => e = .returned (.tuple #[I (d0 * d1 * d2), I 0]) ∧ Below W.heap.size W W') := fun W g hW hB => by
    have := schk_one d0 d1 d2 hW hB ha
    rw [numK, if_pos h0, h0] at this
    exact this
  have HS : Hid (∀ w, Calls Tryz.prog 15 #[A3 d0 d1 d2, P9 b t0 t1 t2] w fun e W' => e = .returned (.tuple #[.slice none 0 0, .slice none 0 0, I (errP d0 d1 d2 b t0 t1 t2)]) ∧ Below w.heap.size w W') := fun w => sets_err t0 t1 t2 w he
  obtain ⟨ao, ca, rfl, _⟩ := ha.view
  clear h0 ha
  generalize a.length = na at *
  generalize errP d0 d1 d2 b t0 t1 t2 = er at *
  generalize d0 * d1 * d2 = N at *
  go_enter Tryz.func6, Tryz.ntmps6
  go_wp2_with fail
  obtain ⟨W, hW, hB0, kd, kp, ks⟩ := three_boxes w #[I d0, I d1, I d2] (C9 b t0 t1 t2) #[.slice ao na ca] 23 30 25
  rw [hW]
  clear hW
  refine (HC.out _ _ hB0 ks).mono ?_
  rintro e w1 ⟨rfl, hB1⟩
  have hT := then_below hB0 hB1
  obtain ⟨c0, c1, c2, hz⟩ := kd.three hB1
  obtain ⟨⟨x0, x1, x2⟩, ⟨x3, x4, x5⟩, ⟨x6, x7, x8⟩, hz1⟩ := kp.nine hB1
  clear HC hB0 hB1 kd kp ks
  go_wp2_with fail
  refine (HS.out _).mono ?_
  rintro e w2 ⟨rfl, hB2⟩
  have hT2 := then_below hT hB2
  clear HS hT hB2 c0 c1 c2 hz x0 x1 x2 x3 x4 x5 x6 x7 x8 hz1
  go_wp2
  go_ret2
  exact ⟨rfl, hT2⟩

set_option maxRecDepth 100000 in
set_option maxHeartbeats 4000000 in
theorem sof_ok {va : Value} {a : List Nat} {d0 d1 d2 : Int} {b : Bx} {t0 t1 t2 : Bool} (w : World) (hTab : TabOk w) (ha : Wds w va a) (h0 : errK d0 d1 d2 [a] = 0) (hp : mayP d0 d1 d2 b t0 t1 t2) :
    Calls Tryz.prog 6 #[A3 d0 d1 d2, P9 b t0 t1 t2, va] w fun e W' => e = .returned (.tuple #[I (scoreS d0 d1 d2 (inN (midW d0 d1 d2 b)) (inN a) (cabN d0 d1 d2 b t0 t1 t2)), I 0]) ∧ Below w.heap.size w W' := by
  obtain ⟨hd, hall⟩ := errK_zero h0
  have e1 := hall a (by simp)
  have HC : Hid (∀ (W : World) (g : Nat), Below w.heap.size w W → Blk W g 25 #[va] → Calls Tryz.prog 10 #[A3 d0 d1 d2, .slice (some ⟨g, 0, none⟩) 1 1] W fun e W' => e = .returned (.tuple #[I (d0 * d1 * d2), I 0]) ∧ Below W.heap.size W W') := fun W g hW hB => by
    have := schk_one d0 d1 d2 hW hB ha
    rw [numK, if_pos h0, h0] at this
    exact this
  have HS : Hid (∀ w, Calls Tryz.prog 15 #[A3 d0 d1 d2, P9 b t0 t1 t2] w fun e W' => ∃ u v, e = .returned (.tuple #[u, v, I 0]) ∧ SetR W' w.heap.size u (midW d0 d1 d2 b) ∧ SetR W' w.heap.size v (cabsW d0 d1 d2 b t0 t1 t2) ∧ Below w.heap.size w W') := fun w => sets_ok w hd hp
  have HM : Hid (∀ (w : World) (v : Value), Wds w v (cabsW d0 d1 d2 b t0 t1 t2) → Calls Tryz.prog 16 #[I (3 * (d0 * d1 * d2)), v] w fun e W' => e = .returned (.tuple #[I (cabN d0 d1 d2 b t0 t1 t2), I 0]) ∧ Below w.heap.size w W') := fun w v hv => by
    have := manyn_calls w hv (3 * (d0 * d1 * d2))
    rw [cabsW_err hd] at this
    exact this
  have HN : Hid (∀ (W : World) (g : Nat) (u : Value), Below w.heap.size w W → Blk W g 25 #[u, va] → Wds W u (midW d0 d1 d2 b) → Calls Tryz.prog 11 #[A3 d0 d1 d2, I (d0 * d1 * d2), u, .slice (some ⟨g, 0, none⟩) 2 2] W fun e W' => e = .returned (.tuple #[I (sumL d0 d1 d2 (anyN [midW d0 d1 d2 b, a]) (listR (d0 * d1 * d2) (midW d0 d1 d2 b))), I (openS d0 d1 d2 (inN (midW d0 d1 d2 b)) (fun m => !inN a m && !inN (midW d0 d1 d2 b) m)), I 0]) ∧ Below W.heap.size W W') := fun W g u hW hB hu => by
    have e2 := midW_err hd b
    have := count_two (w := W) (hTab.below hW hTab.lt) hd (Below.refl _ W) hB hu e2 hu e2 (ha.later hW) e1
    rw [sum_both hd e2] at this
    exact this
  have HR : Hid (scoreS d0 d1 d2 (inN (midW d0 d1 d2 b)) (inN a) (cabN d0 d1 d2 b t0 t1 t2) = 2 * openS d0 d1 d2 (inN (midW d0 d1 d2 b)) (fun m => !inN a m && !inN (midW d0 d1 d2 b) m) + cabN d0 d1 d2 b t0 t1 t2) := rfl
  have hob := open_bd hd (inN (midW d0 d1 d2 b)) (fun m => !inN a m && !inN (midW d0 d1 d2 b) m)
  have hcb := cabN_bd hd b t0 t1 t2
  have hNb := N_bd hd
  obtain ⟨ao, ca, rfl, _⟩ := ha.view
  clear h0 ha hall e1 hd hTab hp
  generalize scoreS d0 d1 d2 (inN (midW d0 d1 d2 b)) (inN a) (cabN d0 d1 d2 b t0 t1 t2) = r at *
  generalize openS d0 d1 d2 (inN (midW d0 d1 d2 b)) (fun m => !inN a m && !inN (midW d0 d1 d2 b) m) = o at *
  generalize sumL d0 d1 d2 (anyN [midW d0 d1 d2 b, a]) (listR (d0 * d1 * d2) (midW d0 d1 d2 b)) = r2 at *
  generalize cabN d0 d1 d2 b t0 t1 t2 = cn at *
  generalize midW d0 d1 d2 b = S at *
  generalize cabsW d0 d1 d2 b t0 t1 t2 = S' at *
  generalize a.length = na at *
  generalize d0 * d1 * d2 = N at *
  go_enter Tryz.func6, Tryz.ntmps6
  go_wp2_with fail
  obtain ⟨W, hW, hB0, kd, kp, ks⟩ := three_boxes w #[I d0, I d1, I d2] (C9 b t0 t1 t2) #[.slice ao na ca] 23 30 25
  rw [hW]
  clear hW
  refine (HC.out _ _ hB0 ks).mono ?_
  rintro e w1 ⟨rfl, hB1⟩
  have hT := then_below hB0 hB1
  replace kd := kd.later hB1
  obtain ⟨c0, c1, c2, hz⟩ := kd.three (Below.refl _ _)
  obtain ⟨⟨x0, x1, x2⟩, ⟨x3, x4, x5⟩, ⟨x6, x7, x8⟩, hz1⟩ := kp.nine hB1
  clear HC hB0 hB1 kp ks
  go_wp2_with fail
  refine (HS.out _).mono ?_
  rintro e w2 ⟨u, v, rfl, hu, hv, hB2⟩
  have hT2 := then_below hT hB2
  replace kd := kd.later hB2
  have hu := hu.wds
  have hv := hv.wds
  obtain ⟨uo, uc, rfl, hu0⟩ := hu.view
  obtain ⟨vo, vc, rfl, hv0⟩ := hv.view
  clear hu0 hv0
  have HMv := HM.out w2 _ hv
  have HU : Hid (Wds w2 (.slice uo S.length uc) S) := hu
  clear HS hT hB2 c0 c1 c2 hz x0 x1 x2 x3 x4 x5 x6 x7 x8 hz1 hu hv HM
  generalize S'.length = ns' at *
  generalize hns : S.length = ns at *
  clear hns
  have h3 : (3 : Int) * N ≤ 20000 ∧ 0 ≤ 3 * N := by omega
  go_wp2_with fail
  refine HMv.mono ?_
  rintro e w3 ⟨rfl, hB3⟩
  have hT3 := then_below hT2 hB3
  replace kd := kd.later hB3
  have HU2 : Hid (Wds w3 (.slice uo ns uc) S) := HU.out.later hB3
  clear HMv HU hT2 hB3
  obtain ⟨c0, c1, c2, hz⟩ := kd.three (Below.refl _ _)
  have hB4 : Below w.heap.size w (w3.alloc (.cells #[.slice uo ns uc, .slice ao na ca] 25)) := then_alloc hT3 _
  have k4 := Blk.new w3 25 #[.slice uo ns uc, .slice ao na ca]
  have HN4 := HN.out _ _ _ hB4 k4 (HU2.out.later ((Below.refl _ w3).alloc (Nat.le_refl _) _))
  clear HN HU2 k4
  go_wp2_with fail
  refine HN4.mono ?_
  rintro e w4 ⟨rfl, hB5⟩
  have hT5 := then_below hB4 hB5
  clear HN4 hB4 hB5 hT3 kd c0 c1 c2 hz
  go_wp2
  go_ret2
  exact ⟨by rw [HR.out]; rfl, hT5⟩

theorem sof_calls {va : Value} {a : List Nat} (d0 d1 d2 : Int) (b : Bx) (t0 t1 t2 : Bool) (w : World) (hTab : TabOk w) (ha : Wds w va a) :
    Calls Tryz.prog 6 #[A3 d0 d1 d2, P9 b t0 t1 t2, va] w fun e W' => e = .returned (.tuple #[I (ofV d0 d1 d2 b t0 t1 t2 a), I (ofE d0 d1 d2 b t0 t1 t2 a)]) ∧ Below w.heap.size w W' := by
  unfold ofV ofE
  by_cases h0 : errK d0 d1 d2 [a] = 0
  · simp only [h0, if_true]
    rcases errP_cases d0 d1 d2 b t0 t1 t2 with ⟨_, hp, he⟩ | ⟨he, _⟩
    · rw [if_pos he, he]
      exact sof_ok w hTab ha h0 hp
    · have hne : (errP d0 d1 d2 b t0 t1 t2 != 0) = true := by rcases he with h | h <;> rw [h] <;> rfl
      have hn2 : errP d0 d1 d2 b t0 t1 t2 ≠ 0 := by simpa using hne
      rw [if_neg hn2]
      exact sof_err w ha h0 hne
  · simp only [h0, if_false]
    exact sof_bad b t0 t1 t2 w ha h0

end Go.Proofs.YtbedhpooeabehaaGreatDoor

/-
  Lists of truth values in memory that a call made (ahead of layer 14): what is read of them, and 'append(list, b)'.
-/
namespace Go.Proofs.YtbedhpooeabehaaGreatDoor
open Go Go.RowKit Go.Shelf

attribute [local go_sem] Oper.semAt_some ext_const

/-- The slice v holds the truth values bs, in a block of its own from number base on. -/
def Bo (W : World) (base : Nat) (v : Value) (bs : List Bool) : Prop := W.ownsRow base 4 1 v bs.length (bs.map Value.bool)

theorem Bo.nil (W : World) (base : Nat) : Bo W base (.slice none 0 0) [] := World.ownsRow_nil _ _ _ _
theorem Bo.later {W W' : World} {base : Nat} {v : Value} {bs : List Bool} (h : Bo W base v bs) (hb : Below W.heap.size W W') : Bo W' base v bs := by
  obtain ⟨h1, h2⟩ := h
  refine ⟨h1, ?_⟩
  rcases h2 with h2 | ⟨g, cap, cur, e, hg, hh, r⟩
  · exact .inl h2
  · exact .inr ⟨g, cap, cur, e, hg, (hb.block g (Array.getElem?_eq_some_iff.1 hh).1).trans hh, r⟩
theorem Bo.weak {W : World} {base base' : Nat} {v : Value} {bs : List Bool} (h : Bo W base v bs) (hb : base' ≤ base) : Bo W base' v bs := by
  obtain ⟨h1, h2⟩ := h
  refine ⟨h1, ?_⟩
  rcases h2 with h2 | ⟨g, cap, cur, e, hg, r⟩
  · exact .inl h2
  · exact .inr ⟨g, cap, cur, e, Nat.le_trans hb hg, r⟩

/-- What a walk asks of a list that it reads. -/
theorem Bo.view {W : World} {base : Nat} {v : Value} {bs : List Bool} (h : Bo W base v bs) :
    ∃ ao cap, v = .slice ao bs.length cap ∧ ∀ k : Nat, k < bs.length → ∃ g cur, ao = some ⟨g, 0, none⟩ ∧ Blk W g 4 cur ∧ cur[k]? = some (.bool (bs.getD k false)) := by
  obtain ⟨h1, h2⟩ := h
  rcases h2 with ⟨rfl, hn⟩ | ⟨g, cap, cur, rfl, hg, hh, hc, hc2, hs, ht⟩
  · exact ⟨none, 0, by rw [hn], fun k hk => by omega⟩
  · refine ⟨_, cap, rfl, fun k hk => ⟨g, cur, rfl, hh, ?_⟩⟩
    have := congrArg (fun l => l[k]?) ht
    simp only [Nat.mul_one, List.getElem?_take_of_lt hk, List.getElem?_map, Array.getElem?_toList] at this
    rw [this, List.getElem?_eq_getElem hk]
    simp [hk]
/-- All of one block, where it holds something. -/
theorem Bo.blk {W : World} {base : Nat} {v : Value} {bs : List Bool} (h : Bo W base v bs) (h0 : bs ≠ []) :
    ∃ g cap cur, v = .slice (some ⟨g, 0, none⟩) bs.length cap ∧ Blk W g 4 cur ∧ ∀ k : Nat, k < bs.length → cur[k]? = some (.bool (bs.getD k false)) := by
  obtain ⟨ao, cap, e, hv⟩ := h.view
  obtain ⟨g, cur, ea, hg, _⟩ := hv 0 (List.length_pos_iff.2 h0)
  refine ⟨g, cap, cur, by rw [e, ea], hg, fun k hk => ?_⟩
  obtain ⟨g', cur', ea', hg', hc'⟩ := hv k hk
  rw [ea] at ea'
  cases ea'
  have : cur = cur' := by
    have h1 : W.heap[g]? = _ := hg
    have h2 : W.heap[g]? = _ := hg'
    rw [h1] at h2
    cases h2
    rfl
  rw [this]; exact hc'

theorem info_bl : (Tryz.prog.info? 4).map (fun i => (i.zero, i.size, i.bytes)) = some (some (.bool false), 1, 1) := by kernel_rfl

/-- 'list = append(list, b)', the list a call's own. -/
theorem wpList_appBl {ops : Array Oper} {rest : List Oper} {o : Oper} {a : Act} {Q : Exit → Act → World → Prop} {W : World} {base : Nat} {v : Value} {bs : List Bool} {y : Bool} (hgd : o.guard = none) (s x : Operand)
    (ho : o.op = .call { callee := .builtin .append, args := #[s, x], argTypes := #[46, 46] }) (hs : a.eval s = v) (hx : a.eval x = .slice (some ⟨W.heap.size, 0, none⟩) 1 1)
    (hown : Bo W base v bs) (hl : bs.length ≤ 100000) (hb : base ≤ W.heap.size)
    (h : ∀ v' w', Bo w' base v' (bs ++ [y]) → Below base W w' → wpList Tryz.prog ops Q rest (a.put o.dst v') w') : wpList Tryz.prog ops Q (o :: rest) a (W.alloc (.cells #[.bool y] 4)) := by
  obtain ⟨i0, hi, hz0, hz1, hz2⟩ := info_parts info_bl
  refine wpList_append_own (w := W.alloc (.cells #[.bool y] 4)) hgd s x 46 ho base 4 i0 (.bool false) 1 1 Tryz.underlying46 hi hz0 hz1 hz2 rfl (by decide) v bs.length _ hs (hown.alloc _) ⟨W.heap.size, 0, none⟩ 1 1 [.bool y] hx rfl ?_ ?_ ?_ ?_ ?_ ?_
  · intro j u hj
    match j, hj with
    | 0, hj => simp at hj; subst hj; simp [Addr.add]
  · intro u hu; simp at hu; subst hu; rfl
  · unfold maxLen; omega
  · omega
  · simp; omega
  · intro v' w1 hown' hgrow _
    refine h v' w1 ?_ ?_
    · unfold Bo
      rw [List.map_append, List.length_append]
      exact hown'
    · exact ((Below.refl base W).alloc hb _).grown hgrow (by simp; omega) (fun k hk => (hown.lt k hk).1)

end Go.Proofs.YtbedhpooeabehaaGreatDoor

/-
  tidehallref14.truths and not: of each midplane whether something is told of it, as a list.
-/
namespace Go.Proofs.YtbedhpooeabehaaGreatDoor
open Go Go.RowKit Go.Shelf

attribute [local go_sem] Oper.semAt_some ext_const

/-- Of the first N numbers what p says. -/
def trL (p : Int → Bool) (N : Nat) : List Bool := (List.range N).map fun m : Nat => p (m : Int)
theorem trL_len (p : Int → Bool) (N : Nat) : (trL p N).length = N := by simp [trL]
theorem trL_succ (p : Int → Bool) (N : Nat) : trL p (N + 1) = trL p N ++ [p (N : Int)] := by simp [trL, List.range_succ]
theorem trL_get {p : Int → Bool} {N k : Nat} (h : k < N) : (trL p N).getD k false = p (k : Int) := by
  simp [trL, List.getD_eq_getElem?_getD, h]
/-- What a walk reads of such a list. -/
theorem Bo.tr {W : World} {base : Nat} {v : Value} {p : Int → Bool} {N : Nat} (h : Bo W base v (trL p N)) :
    ∃ ao cap, v = .slice ao N cap ∧ ∀ k : Nat, k < N → ∃ g, ao = some ⟨g, 0, none⟩ ∧ g < W.heap.size ∧ W.cell? ⟨g, k, none⟩ = some (.bool (p (k : Int))) := by
  obtain ⟨ao, cap, e, hv⟩ := h.view
  rw [trL_len] at e hv
  refine ⟨ao, cap, e, fun k hk => ?_⟩
  obtain ⟨g, cur, ea, hb, hc⟩ := hv k hk
  rw [trL_get hk] at hc
  exact ⟨g, ea, hb.lt, (hb.cell k).trans hc⟩

set_option maxRecDepth 100000 in
set_option maxHeartbeats 4000000 in
theorem truths_calls {d0 d1 d2 : Int} {va : Value} {a : List Nat} (w : World) (hd : mayD d0 d1 d2) (ha : Wds w va a) :
    Calls Tryz.prog 14 #[A3 d0 d1 d2, va] w fun e W' => ∃ u, e = .returned u ∧ Bo W' w.heap.size u (trL (inN a) (d0 * d1 * d2).toNat) ∧ Below w.heap.size w W' := by
  have hN := N_bd hd
  have HNm : Hid (∀ w, Calls Tryz.prog 27 #[A3 d0 d1 d2] w fun e W' => e = .returned (I (d0 * d1 * d2)) ∧ Below w.heap.size w W') := fun w => rn_calls w hd
  have HTh : Hid (∀ (w1 : World) (m : Nat), Below w.heap.size w w1 → m ≤ 4096 → Calls Tryz.prog 29 #[va, I m] w1 fun e W' => e = .returned (.bool (inN a (m : Int))) ∧ W' = w1) := fun w1 m h hm => by
    have := there_calls w1 (ha.later h) m (by omega)
    exact this
  obtain ⟨n, hn⟩ : ∃ n : Nat, d0 * d1 * d2 = n := ⟨(d0 * d1 * d2).toNat, by omega⟩
  rw [hn] at HNm hN ⊢
  rw [Int.toNat_natCast]
  obtain ⟨ao, ca, rfl, _⟩ := ha.view
  clear ha hd hn
  generalize a.length = na at *
  generalize inN a = p at *
  have hT : Below w.heap.size w (w.alloc (.cells #[I d0, I d1, I d2] 23)) := (Below.refl _ w).alloc (Nat.le_refl _) _
  have b0 := Blk.new w 23 #[I d0, I d1, I d2]
  go_enter Tryz.func14, Tryz.ntmps14
  go_wp2
  go_loopw [5, 6] (fun s i wr => ∃ k : Nat, k ≤ n ∧ i = .int .i64 k ∧ Bo wr (w.heap.size + 1) s (trL p k) ∧ Blk wr w.heap.size 23 #[I d0, I d1, I d2] ∧ Below w.heap.size w wr) (fun s i _ => n - (RowKit.intOf i).toNat)
  case atStart => exact ⟨0, by omega, rfl, Bo.nil _ _, b0, hT⟩
  case round =>
    clear b0 hT
    obtain ⟨k, hk, rfl, hL, b0, hT⟩ := hrel
    obtain ⟨e0, e1, e2, ez⟩ := b0.three (Below.refl _ _)
    obtain ⟨lo, lc, rfl, hL0⟩ := hL.tr
    clear hL0
    go_wp2_with fail
    refine (HNm.out _).mono ?_
    rintro e w1 ⟨rfl, hB⟩
    replace b0 := b0.later hB
    replace hL := hL.later hB
    replace hT := then_below hT hB
    clear hB e0 e1 e2 ez
    by_cases hlt : (k : Int) < (n : Int)
    · have HS : Hid (trL p (k + 1) = trL p k ++ [p (k : Int)]) := trL_succ p k
      have hlen : (trL p k).length ≤ 100000 := by rw [trL_len]; omega
      have hbs : w.heap.size + 1 ≤ w1.heap.size := b0.lt
      go_wp2_with fail
      refine (HTh.out _ k hT (by omega)).mono ?_
      rintro e w2 ⟨rfl, rfl⟩
      generalize hpk : p (k : Int) = pk at *
      clear hpk
      generalize hxs : trL p k = xs at *
      clear hxs
      have HB : Hid (Blk w2 w.heap.size 23 #[I d0, I d1, I d2]) := b0
      clear b0
      go_wp2_with (at_builtin; refine wpList_appBl rfl _ _ rfl rfl rfl hL hlen hbs ?_; intro v' w3 hL3 hT3)
      go_wp2
      go_roundw
      case rel => exact ⟨k + 1, by omega, by go_num, by rw [HS.out]; exact hL3, HB.out.below hT3 (by omega), hT.trans (hT3.mono (by omega))⟩
      case measure => simp [RowKit.intOf]; omega
    · obtain rfl : n = k := by omega
      have HL : Hid (Bo w1 w.heap.size (.slice lo n lc) (trL p n)) := hL.weak (by omega)
      clear hL b0
      go_wp2
      go_ret
      exact ⟨_, rfl, HL.out, hT⟩

set_option maxRecDepth 100000 in
set_option maxHeartbeats 4000000 in
theorem not_calls {u v : Value} {p q : Int → Bool} {n b1 b2 : Nat} (w : World) (hu : Bo w b1 u (trL p n)) (hv : Bo w b2 v (trL q n)) (hn : n ≤ 4096) :
    Calls Tryz.prog 19 #[u, v] w fun e W' => ∃ r, e = .returned r ∧ Bo W' w.heap.size r (trL (fun m => !p m && !q m) n) ∧ Below w.heap.size w W' := by
  obtain ⟨uo, uc, rfl, hu2⟩ := hu.tr
  obtain ⟨vo, vc, rfl, hv2⟩ := hv.tr
  have HU : Hid (∀ k : Nat, k < n → ∃ g, uo = some ⟨g, 0, none⟩ ∧ g < w.heap.size ∧ w.cell? ⟨g, k, none⟩ = some (.bool (p (k : Int)))) := hu2
  have HV : Hid (∀ k : Nat, k < n → ∃ g, vo = some ⟨g, 0, none⟩ ∧ g < w.heap.size ∧ w.cell? ⟨g, k, none⟩ = some (.bool (q (k : Int)))) := hv2
  clear hu hv hu2 hv2
  obtain ⟨r, hr⟩ : ∃ r : Int → Bool, r = fun m => !p m && !q m := ⟨_, rfl⟩
  rw [← hr]
  have HR : Hid (∀ m, r m = (!p m && !q m)) := fun m => by rw [hr]
  clear hr
  go_enter Tryz.func19, Tryz.ntmps19
  go_wp2
  go_loopw [5, 6] (fun s i wr => ∃ k : Nat, k ≤ n ∧ i = .int .i64 k ∧ Bo wr w.heap.size s (trL r k) ∧ Below w.heap.size w wr) (fun s i _ => n - (RowKit.intOf i).toNat)
  case atStart => exact ⟨0, by omega, rfl, Bo.nil _ _, Below.refl _ _⟩
  case round =>
    obtain ⟨k, hk, rfl, hL, hT⟩ := hrel
    by_cases hlt : (k : Int) < (n : Int)
    · have hkx : k < n := by omega
      obtain ⟨g, rfl, hg, hc⟩ := HU.out k hkx
      obtain ⟨g', rfl, hg', hc'⟩ := HV.out k hkx
      have c0 := (hT.cell (p := ⟨g, k, none⟩) hg).trans hc
      have c1 := (hT.cell (p := ⟨g', k, none⟩) hg').trans hc'
      have HS : Hid (trL r (k + 1) = trL r k ++ [!p (k : Int) && !q (k : Int)]) := by
        show _ = _
        rw [trL_succ, HR.out]
      have hlen : (trL r k).length ≤ 100000 := by rw [trL_len]; omega
      clear hc hc' HU HV
      generalize hxs : trL r k = xs at *
      clear hxs
      generalize p (k : Int) = pk at *
      generalize q (k : Int) = qk at *
      cases pk
      · cases qk
        · go_wp2_with (at_builtin; refine wpList_appBl rfl _ _ rfl rfl rfl hL hlen hT.size ?_; intro v' w3 hL3 hT3)
          go_wp2
          go_roundw
          case rel => exact ⟨k + 1, by omega, by go_num, by rw [HS.out]; exact hL3, hT.trans hT3⟩
          case measure => simp [RowKit.intOf]; omega
        · go_wp2_with (at_builtin; refine wpList_appBl rfl _ _ rfl rfl rfl hL hlen hT.size ?_; intro v' w3 hL3 hT3)
          go_wp2
          go_roundw
          case rel => exact ⟨k + 1, by omega, by go_num, by rw [HS.out]; exact hL3, hT.trans hT3⟩
          case measure => simp [RowKit.intOf]; omega
      · go_wp2_with (at_builtin; refine wpList_appBl rfl _ _ rfl rfl rfl hL hlen hT.size ?_; intro v' w3 hL3 hT3)
        go_wp2
        go_roundw
        case rel => exact ⟨k + 1, by omega, by go_num, by rw [HS.out]; exact hL3, hT.trans hT3⟩
        case measure => simp [RowKit.intOf]; omega
    · obtain rfl : n = k := by omega
      go_wp2
      go_ret
      exact ⟨_, rfl, hL, hT⟩

end Go.Proofs.YtbedhpooeabehaaGreatDoor

/-
  tidehallref01.Round, On, Step: the document's own answer for steps, for every input.
-/
namespace Go.Proofs.YtbedhpooeabehaaGreatDoor
open Go.RowKit Go.Shelf

attribute [local go_sem] Oper.semAt_some ext_const eq_arr

theorem rround_calls {n d : Int} (w : World) (h1 : 1 ≤ d) (h2 : d ≤ 16) : Calls Tryz.prog 45 #[I n, I d] w fun e W' => e = .returned (I (n % d)) ∧ W' = w := by
  obtain ⟨t1, t2, _⟩ := tmod_bd n d h1
  have e1 := Int.emod_nonneg n (b := d) (by omega)
  have e2 := Int.emod_lt_of_pos n (b := d) (by omega)
  have e3 : n.tmod d = n % d ∨ n.tmod d + d = n % d := by
    have a := Int.tmod_add_mul_tdiv n d
    have b := Int.emod_add_mul_ediv n d
    have c : (n.tmod d) % d = n % d := by
      conv => rhs; rw [← a, Int.add_mul_emod_self_left]
    rcases Int.lt_or_le (n.tmod d) 0 with h | h
    · right
      rw [← c, ← Int.add_emod_right, Int.emod_eq_of_lt (by omega) (by omega)]
    · left
      rw [← c, Int.emod_eq_of_lt h (by omega)]
  by_cases hn : n.tmod d < 0
  · have E : Hid (n.tmod d + d = n % d) := by show _ = _; omega
    clear e3 e1 e2
    go_enter Tryz.func45, Tryz.ntmps45
    go_wp2
    go_ret
    rw [← E.out]
    exact ⟨rfl, rfl⟩
  · have E : Hid (n.tmod d = n % d) := by show _ = _; omega
    clear e3 e1 e2
    go_enter Tryz.func45, Tryz.ntmps45
    go_wp2
    go_ret
    rw [← E.out]
    exact ⟨rfl, rfl⟩

set_option maxRecDepth 100000 in
set_option maxHeartbeats 1000000 in
theorem ron_calls {d0 d1 d2 m by_ : Int} (w : World) (hm : mayD d0 d1 d2) (hn : 0 ≤ m ∧ m < d0 * d1 * d2) (k : Fin 3) :
    Calls Tryz.prog 28 #[A3 d0 d1 d2, I m, I (axI k), I by_] w fun x W' => x = .returned (I (onD d0 d1 d2 m k by_)) ∧ Below w.heap.size w W' := by
  have HN : Hid (0 ≤ m ∧ m < d0 * d1 * d2) := hn
  have hin := inD_of_node hm hn
  have hon := inD_on hm hn by_
  have hd := hm
  unfold inD at hin
  unfold mayD okD at hd
  clear hn
  rcases fin3 k with rfl | rfl | rfl
  · simp only [axI, onD]
    have HT : Hid ((cx d0 m + by_ % d0) % d0 = (cx d0 m + by_) % d0) := Int.add_emod_emod _ _ _
    have hr0 := Int.emod_nonneg by_ (b := d0) (by omega)
    have hr1 := Int.emod_lt_of_pos by_ (b := d0) (by omega)
    go_enter Tryz.func28, Tryz.ntmps28
    go_wp2_with fail
    refine (rwhere_calls _ hm HN.out).mono ?_
    rintro x w1 ⟨rfl, hB⟩
    go_wp2_with fail
    obtain ⟨W, hW⟩ : ∃ W, w1.alloc (.cells #[I (cx d0 m), I (cy d0 d1 m), I (cz d0 d1 m)] 22) = W := ⟨_, rfl⟩
    have q0 : Blk W w.heap.size 23 #[I d0, I d1, I d2] := hW ▸ ((Blk.new w 23 #[I d0, I d1, I d2]).later hB).alloc _
    have q1 : Blk W w1.heap.size 22 #[I (cx d0 m), I (cy d0 d1 m), I (cz d0 d1 m)] := hW ▸ Blk.new w1 _ _
    have hz : w.heap.size < w1.heap.size := by have := hB.size; simp at this; omega
    have hBW : Below w.heap.size w W := hW ▸ (((Below.refl _ w).alloc (Nat.le_refl _) _).trans (hB.mono (by simp))).alloc (by omega) _
    rw [hW]
    clear hW hB
    have hmx : Tryz.prog.follows .mixedOrders = true := by kernel_rfl
    have e0 := Ext.cell q0 0
    have e1 := Ext.cell q1 0
    simp at e0 e1
    refine wp_region_tail 15 hmx (by kernel_rfl) ?_
    simp only [List.take_succ_cons, List.take_zero, List.drop_succ_cons, List.drop_zero]
    repeat (go_big_quiet_step (exact calls_ext_same (rround_calls _ (by omega) (by omega))))
    refine wpQuiet_nil ?_
    intro x
    have r0 := q0.later x.le
    have r1 := q1.later x.le
    have c1 := r1.cell 0
    have f1 := r1.frozen 0
    simp at c1
    gi_wp2
    rw [HT.out]
    have r0' := r0.other (B' := w1.heap.size) 0 (.int .i64 ((cx d0 m + by_) % d0)) (by omega)
    have r1' := r1.set 0 (.int .i64 ((cx d0 m + by_) % d0))
    have hBX := (below_ext hBW x).setCell (p := ⟨w1.heap.size, 0, none⟩) (by simp; omega) (.int .i64 ((cx d0 m + by_) % d0))
    generalize x.wd.setCell ⟨w1.heap.size, 0, none⟩ (.int .i64 ((cx d0 m + by_) % d0)) = W5 at *
    clear e0 e1 c1 f1 r0 r1 q0 q1 hBW
    have c0 := r0'.cell 0
    have c1 := r0'.cell 1
    have c2 := r0'.cell 2
    have k0 := r1'.cell 0
    have k1 := r1'.cell 1
    have k2 := r1'.cell 2
    simp at c0 c1 c2 k0 k1 k2
    go_wp2_with fail
    refine (rnum_calls _ hm hon.1).mono ?_
    rintro e w6 ⟨rfl, hB6⟩
    go_wp2
    go_ret
    exact ⟨rfl, hBX.trans (hB6.mono hBX.size)⟩
  · simp only [axI, onD]
    have HT : Hid ((cy d0 d1 m + by_ % d1) % d1 = (cy d0 d1 m + by_) % d1) := Int.add_emod_emod _ _ _
    have hr0 := Int.emod_nonneg by_ (b := d1) (by omega)
    have hr1 := Int.emod_lt_of_pos by_ (b := d1) (by omega)
    go_enter Tryz.func28, Tryz.ntmps28
    go_wp2_with fail
    refine (rwhere_calls _ hm HN.out).mono ?_
    rintro x w1 ⟨rfl, hB⟩
    go_wp2_with fail
    obtain ⟨W, hW⟩ : ∃ W, w1.alloc (.cells #[I (cx d0 m), I (cy d0 d1 m), I (cz d0 d1 m)] 22) = W := ⟨_, rfl⟩
    have q0 : Blk W w.heap.size 23 #[I d0, I d1, I d2] := hW ▸ ((Blk.new w 23 #[I d0, I d1, I d2]).later hB).alloc _
    have q1 : Blk W w1.heap.size 22 #[I (cx d0 m), I (cy d0 d1 m), I (cz d0 d1 m)] := hW ▸ Blk.new w1 _ _
    have hz : w.heap.size < w1.heap.size := by have := hB.size; simp at this; omega
    have hBW : Below w.heap.size w W := hW ▸ (((Below.refl _ w).alloc (Nat.le_refl _) _).trans (hB.mono (by simp))).alloc (by omega) _
    rw [hW]
    clear hW hB
    have hmx : Tryz.prog.follows .mixedOrders = true := by kernel_rfl
    have e0 := Ext.cell q0 1
    have e1 := Ext.cell q1 1
    simp at e0 e1
    refine wp_region_tail 15 hmx (by kernel_rfl) ?_
    simp only [List.take_succ_cons, List.take_zero, List.drop_succ_cons, List.drop_zero]
    repeat (go_big_quiet_step (exact calls_ext_same (rround_calls _ (by omega) (by omega))))
    refine wpQuiet_nil ?_
    intro x
    have r0 := q0.later x.le
    have r1 := q1.later x.le
    have c1 := r1.cell 1
    have f1 := r1.frozen 1
    simp at c1
    gi_wp2
    rw [HT.out]
    have r0' := r0.other (B' := w1.heap.size) 1 (.int .i64 ((cy d0 d1 m + by_) % d1)) (by omega)
    have r1' := r1.set 1 (.int .i64 ((cy d0 d1 m + by_) % d1))
    have hBX := (below_ext hBW x).setCell (p := ⟨w1.heap.size, 1, none⟩) (by simp; omega) (.int .i64 ((cy d0 d1 m + by_) % d1))
    generalize x.wd.setCell ⟨w1.heap.size, 1, none⟩ (.int .i64 ((cy d0 d1 m + by_) % d1)) = W5 at *
    clear e0 e1 c1 f1 r0 r1 q0 q1 hBW
    have c0 := r0'.cell 0
    have c1 := r0'.cell 1
    have c2 := r0'.cell 2
    have k0 := r1'.cell 0
    have k1 := r1'.cell 1
    have k2 := r1'.cell 2
    simp at c0 c1 c2 k0 k1 k2
    go_wp2_with fail
    refine (rnum_calls _ hm hon.2.1).mono ?_
    rintro e w6 ⟨rfl, hB6⟩
    go_wp2
    go_ret
    exact ⟨rfl, hBX.trans (hB6.mono hBX.size)⟩
  · simp only [axI, onD]
    have HT : Hid ((cz d0 d1 m + by_ % d2) % d2 = (cz d0 d1 m + by_) % d2) := Int.add_emod_emod _ _ _
    have hr0 := Int.emod_nonneg by_ (b := d2) (by omega)
    have hr1 := Int.emod_lt_of_pos by_ (b := d2) (by omega)
    go_enter Tryz.func28, Tryz.ntmps28
    go_wp2_with fail
    refine (rwhere_calls _ hm HN.out).mono ?_
    rintro x w1 ⟨rfl, hB⟩
    go_wp2_with fail
    obtain ⟨W, hW⟩ : ∃ W, w1.alloc (.cells #[I (cx d0 m), I (cy d0 d1 m), I (cz d0 d1 m)] 22) = W := ⟨_, rfl⟩
    have q0 : Blk W w.heap.size 23 #[I d0, I d1, I d2] := hW ▸ ((Blk.new w 23 #[I d0, I d1, I d2]).later hB).alloc _
    have q1 : Blk W w1.heap.size 22 #[I (cx d0 m), I (cy d0 d1 m), I (cz d0 d1 m)] := hW ▸ Blk.new w1 _ _
    have hz : w.heap.size < w1.heap.size := by have := hB.size; simp at this; omega
    have hBW : Below w.heap.size w W := hW ▸ (((Below.refl _ w).alloc (Nat.le_refl _) _).trans (hB.mono (by simp))).alloc (by omega) _
    rw [hW]
    clear hW hB
    have hmx : Tryz.prog.follows .mixedOrders = true := by kernel_rfl
    have e0 := Ext.cell q0 2
    have e1 := Ext.cell q1 2
    simp at e0 e1
    refine wp_region_tail 15 hmx (by kernel_rfl) ?_
    simp only [List.take_succ_cons, List.take_zero, List.drop_succ_cons, List.drop_zero]
    repeat (go_big_quiet_step (exact calls_ext_same (rround_calls _ (by omega) (by omega))))
    refine wpQuiet_nil ?_
    intro x
    have r0 := q0.later x.le
    have r1 := q1.later x.le
    have c1 := r1.cell 2
    have f1 := r1.frozen 2
    simp at c1
    gi_wp2
    rw [HT.out]
    have r0' := r0.other (B' := w1.heap.size) 2 (.int .i64 ((cz d0 d1 m + by_) % d2)) (by omega)
    have r1' := r1.set 2 (.int .i64 ((cz d0 d1 m + by_) % d2))
    have hBX := (below_ext hBW x).setCell (p := ⟨w1.heap.size, 2, none⟩) (by simp; omega) (.int .i64 ((cz d0 d1 m + by_) % d2))
    generalize x.wd.setCell ⟨w1.heap.size, 2, none⟩ (.int .i64 ((cz d0 d1 m + by_) % d2)) = W5 at *
    clear e0 e1 c1 f1 r0 r1 q0 q1 hBW
    have c0 := r0'.cell 0
    have c1 := r0'.cell 1
    have c2 := r0'.cell 2
    have k0 := r1'.cell 0
    have k1 := r1'.cell 1
    have k2 := r1'.cell 2
    simp at c0 c1 c2 k0 k1 k2
    go_wp2_with fail
    refine (rnum_calls _ hm hon.2.2).mono ?_
    rintro e w6 ⟨rfl, hB6⟩
    go_wp2
    go_ret
    exact ⟨rfl, hBX.trans (hB6.mono hBX.size)⟩

theorem ron_ax {d0 d1 d2 m ax by_ : Int} {k : Fin 3} (w : World) (hm : mayD d0 d1 d2) (hn : 0 ≤ m ∧ m < d0 * d1 * d2) (hk : ax = axI k) :
    Calls Tryz.prog 28 #[A3 d0 d1 d2, I m, I ax, I by_] w fun x W' => x = .returned (I (onD d0 d1 d2 m k by_)) ∧ Below w.heap.size w W' := by
  subst hk; exact ron_calls w hm hn k

end Go.Proofs.YtbedhpooeabehaaGreatDoor
