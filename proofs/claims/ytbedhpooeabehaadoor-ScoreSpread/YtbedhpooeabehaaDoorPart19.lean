/-
  A list of ints that is made whole and then written number for number: 'make([]int, n)', 'whole[m] = m'.
-/
import Derived.Test.YtbedhpooeabehaaDoorPart18
import Derived.Test.YtbedhpooeabehaaDoorPart6
import Derived.Laws.AppendOwn
import Derived.Laws.AppendOwnNone
import Derived.Test.YtbedhpooeabehaaDoorPart1
import Derived.Test.YtbedhpooeabehaaDoorRows
import Derived.ProofKit
import Derived.OpenShut
import Derived.ChangeOld
import Derived.Below
import Derived.Laws.IdiomArrays
import Derived.Test.YtbedhpooeabehaaDoorPart14
import Derived.ChangeSame
import Derived.ChangeArms
import Derived.ChangeSlices
import Derived.LaidMore
import Derived.Stop.Joined
import Derived.Lib.LaidTab
import Derived.SevenTiedAt
namespace Go.Proofs.YtbedhpooeabehaaDoor
open Go Go.RowKit Go.Shelf

attribute [local go_sem] Oper.semAt_some ext_const

theorem made_zeroI (n : Nat) : madeCells #[Value.int .i64 0] n = ((List.replicate n (0 : Int)).map I).toArray := by
  apply Array.ext
  · simp [madeCells]
  · intro i h1 h2
    simp only [madeCells, Array.getElem_map, Array.getElem_range]
    simp [Nat.mod_one]

/-- 'make([]int, n)'. -/
theorem wpList_mkI {ops : Array Oper} {rest : List Oper} {o : Oper} {a : Act} {Q : Exit → Act → World → Prop} {W : World} (hgd : o.guard = none) (l c : Operand) (ho : o.op = Op.makeSlice 49 l c) (n : Nat)
    (hl : a.eval l = .int .i64 n) (hc : a.eval c = .int .i64 n) (h1 : n ≤ 100000)
    (h : ∀ w', Blk w' W.heap.size 3 ((List.replicate n (0 : Int)).map I).toArray → Below W.heap.size W w' → wpList Tryd.prog ops Q rest (a.put o.dst (.slice (some ⟨W.heap.size, 0, none⟩) n n)) w') : wpList Tryd.prog ops Q (o :: rest) a W := by
  obtain ⟨i0, hi, hz0, hz1, hz2⟩ := info_parts info_int
  refine wpList_plain hgd fun K hK' => ?_
  have hrun := run_make (P := Tryd.prog) W 49 3 i0 (.int .i64 0) Tryd.underlying49 hi hz0 .i64 .i64 n n (by omega) (by omega) (by rw [hz2]; omega) (by omega)
  rw [hz1, Nat.mul_one] at hrun
  simp only [Int.toNat_natCast] at hrun
  rw [show (Value.int .i64 0).cells = #[Value.int .i64 0] from rfl, made_zeroI] at hrun
  have hN := h _ (Blk.new W 3 _) ((Below.refl _ W).alloc (Nat.le_refl _) _)
  clear h
  generalize ((List.replicate n (0 : Int)).map I).toArray = cs at hrun hN
  unfold Oper.wp
  simp [execOp, ho, hl, hc, hrun, Result.andThen]
  exact hK' _ _ hN

/-- The first k are written. -/
def wholeTo (n k : Nat) : List Int := ofN (List.range k) ++ List.replicate (n - k) 0
theorem wholeTo_len {n k : Nat} (h : k ≤ n) : (wholeTo n k).length = n := by
  simp [wholeTo, ofN]
  omega
theorem wholeTo_zero (n : Nat) : wholeTo n 0 = List.replicate n 0 := by simp [wholeTo, ofN]
theorem wholeTo_all (n : Nat) : wholeTo n n = wholeL n := by simp [wholeTo, wholeL]
theorem wholeTo_set {n k : Nat} (h : k < n) : (wholeTo n k).set k (k : Int) = wholeTo n (k + 1) := by
  obtain ⟨m, rfl⟩ : ∃ m, n = k + 1 + m := ⟨n - (k + 1), by omega⟩
  unfold wholeTo
  rw [show k + 1 + m - k = m + 1 by omega, show k + 1 + m - (k + 1) = m by omega, List.range_succ, List.replicate_succ]
  have hl : (ofN (List.range k)).length = k := by simp [ofN]
  rw [List.set_append_right _ _ (by omega), hl, Nat.sub_self]
  simp [ofN]
theorem blk_putI {W : World} {g : Nat} {xs : List Int} (h : Blk W g 3 (xs.map I).toArray) (i : Nat) (x : Int) : Blk (W.setCell ⟨g, i, none⟩ (I x)) g 3 ((xs.set i x).map I).toArray := by
  have := h.set i (I x)
  rw [List.map_set]
  simpa using this
theorem blk_whole {W : World} {g n k : Nat} (h : Blk W g 3 ((wholeTo n k).map I).toArray) (hk : k < n) : Blk (W.setCell ⟨g, k, none⟩ (I k)) g 3 ((wholeTo n (k + 1)).map I).toArray := by
  rw [← wholeTo_set hk]
  exact blk_putI h k k
theorem whole_cell {W : World} {g n k : Nat} (h : Blk W g 3 ((wholeTo n k).map I).toArray) (hk : k < n) : ∃ x, W.cell? ⟨g, k, none⟩ = some x := by
  rw [h.cell]
  simp [wholeTo_len (Nat.le_of_lt hk), hk]
theorem whole_its {W : World} {g n : Nat} (h : Blk W g 3 ((wholeTo n n).map I).toArray) : Its W (.slice (some ⟨g, 0, none⟩) n n) (wholeL n) := by
  rw [wholeTo_all] at h
  have := its_of_blk h n
  rw [show (wholeL n).length = n by simp [wholeL, ofN]] at this
  exact this

end Go.Proofs.YtbedhpooeabehaaDoor

/-
  A set among the arguments: as it came in, and a copy of it.
-/
namespace Go.Proofs.YtbedhpooeabehaaDoor
open Go Go.RowKit Go.Shelf

/-- A row of words that came in. -/
def ArgW (W : World) (v : Value) (ws : List Nat) : Prop := Wds W v ws ∧ (v = .slice none 0 0 ∨ ∃ ad cap, v = .slice (some ad) ws.length cap)
def ArgI (W : World) (v : Value) (xs : List Int) : Prop := Its W v xs ∧ (v = .slice none 0 0 ∨ ∃ ad cap, v = .slice (some ad) xs.length cap)

theorem owns_wds {W : World} {base : Nat} {v : Value} {ws : List Nat} (hw : ∀ x ∈ ws, x < 18446744073709551616) (h : W.ownsRow base 34 1 v ws.length (ws.map U)) : Wds W v ws := by
  obtain ⟨h1, h2⟩ := h
  refine ⟨hw, ?_⟩
  rcases h2 with ⟨rfl, hn⟩ | ⟨g, cap, cur, rfl, hg, hh, hc, hc2, hs, ht⟩
  · have : ws = [] := List.length_eq_zero_iff.1 hn
    subst this
    exact Sl.nil W
  · refine ⟨_, cap, by simp, fun k hk => ⟨g, 0, rfl, (Array.getElem?_eq_some_iff.1 hh).1, ?_⟩⟩
    have hb : Blk W g 34 cur := hh
    rw [Nat.zero_add, hb.cell k]
    have := congrArg (fun l => l[k]?) ht
    simp only [Nat.mul_one] at this
    rw [List.length_map] at hk
    rw [List.getElem?_take_of_lt hk, Array.getElem?_toList] at this
    exact this

/-- 'own = append(own, s...)', own nil. -/
theorem wpList_copy {ops : Array Oper} {rest : List Oper} {o : Oper} {a : Act} {Q : Exit → Act → World → Prop} {W : World} {v : Value} {ws : List Nat} (hgd : o.guard = none) (s x : Operand)
    (ho : o.op = .call { callee := .builtin .append, args := #[s, x], argTypes := #[36, 36] }) (hs : a.eval s = .slice none 0 0) (hx : a.eval x = v)
    (hA : ArgW W v ws) (hl : ws.length ≤ 1000)
    (h : ∀ v' w', Wds w' v' ws → Below W.heap.size W w' → wpList Tryd.prog ops Q rest (a.put o.dst v') w') : wpList Tryd.prog ops Q (o :: rest) a W := by
  obtain ⟨i0, hi, hz0, hz1, hz2⟩ := info_parts info_u64
  obtain ⟨hW, rfl | ⟨ad, cap, rfl⟩⟩ := hA
  · have e : ws = [] := by
      obtain ⟨ao, c, e, _⟩ := hW.view
      simp only [Value.slice.injEq] at e
      exact List.length_eq_zero_iff.1 e.2.1.symm
    subst e
    exact wpList_append_own_none hgd s x 36 ho W.heap.size 34 i0 1 Tryd.underlying36 hi (.slice none 0 0) 0 [] hs (World.ownsRow_nil _ _ _ _) hx (h _ _ (Wds.nil W) (Below.refl _ _))
  · refine wpList_append_own (w := W) hgd s x 36 ho W.heap.size 34 i0 (.int .u64 0) 1 8 Tryd.underlying36 hi hz0 hz1 hz2 rfl (by decide) (.slice none 0 0) 0 [] hs (World.ownsRow_nil _ _ _ _) ad ws.length cap (ws.map U) hx (by simp) ?_ ?_ ?_ ?_ ?_ ?_
    · intro j u hj
      obtain ⟨ao, c, e, hv⟩ := hW.view
      simp only [Value.slice.injEq] at e
      obtain ⟨rfl, -, -⟩ := e
      have hjl : j < ws.length := by
        have := (List.getElem?_eq_some_iff.1 hj).1
        simpa using this
      obtain ⟨g, off, e, hg, hc⟩ := hv j hjl
      simp only [Option.some.injEq] at e
      subst e
      have : (⟨g, off, none⟩ : Addr).add j = ⟨g, off + j, none⟩ := by
        unfold Addr.add
        split
        · rename_i h0; subst h0; rfl
        · rfl
      rw [this, hc, ← hj]
      simp [hjl]
    · intro u hu
      obtain ⟨y, _, rfl⟩ := List.mem_map.1 hu
      rfl
    · unfold maxLen; omega
    · omega
    · omega
    · intro v' w1 hown' hgrow _
      refine h v' w1 (owns_wds hW.1 (by simpa using hown')) ?_
      exact (Below.refl _ W).grown hgrow (Nat.le_refl _) (fun k hk => by cases hk)

end Go.Proofs.YtbedhpooeabehaaDoor

/-
  The statement ScoreSpread, walked. (Written by tools/gen/law_score_laws.py.)
-/
namespace Go.Proofs.YtbedhpooeabehaaDoor
open Go Go.RowKit Go.Shelf

attribute [local go_sem] Oper.semAt_some ext_const

set_option maxRecDepth 100000 in
set_option maxHeartbeats 16000000 in
theorem spread_walk (d0 d1 d2 : Int) (bx : Bx) (t0 t1 t2 : Bool) (w : World) (hTab : TabOk w) {va : Value} {a : List Nat} (ha0 : ArgW w va a) :
    Calls Tryd.prog 6 #[A3 d0 d1 d2, P9 bx t0 t1 t2, va] w fun e W' => e = .returned (.bool true) ∧ Below w.heap.size w W' := by
  have HAl : Hid (∀ w1, Below w.heap.size w w1 → Calls Tryd.prog 11 #[] w1 fun e W' => e = .returned (.bool true) ∧ Below w1.heap.size w1 W') := fun w1 h => alive14_calls w1 (hTab.below h hTab.lt)
  have HS1 : Hid (∀ (w1 : World), Below w.heap.size w w1 → Calls Tryd.prog 10 #[A3 d0 d1 d2, va] w1 fun e W' => e = .returned (.tuple #[I (spV d0 d1 d2 a), I (errK d0 d1 d2 [a])]) ∧ Below w1.heap.size w1 W') := fun w1 h => spread_calls d0 d1 d2 w1 (hTab.below h hTab.lt) (ha0.1.later h)
  have HSp : Hid (∀ (w1 : World) (u : Value) (z : List Nat), Below w.heap.size w w1 → Wds w1 u z → Calls Tryd.prog 10 #[A3 d0 d1 d2, u] w1 fun e W' => e = .returned (.tuple #[I (spV d0 d1 d2 z), I (errK d0 d1 d2 [z])]) ∧ Below w1.heap.size w1 W') := fun w1 u z h hu => spread_calls d0 d1 d2 w1 (hTab.below h hTab.lt) hu
  have HO2 : Hid (∀ (w1 : World) (u : Value) (z : List Nat), Below w.heap.size w w1 → Wds w1 u z → Calls Tryd.prog 12 #[A3 d0 d1 d2, u, va] w1 fun e W' => e = .returned (.tuple #[I (opV d0 d1 d2 z a), I (errK d0 d1 d2 [z, a])]) ∧ Below w1.heap.size w1 W') := fun w1 u z h hu => sopen_calls d0 d1 d2 w1 (hTab.below h hTab.lt) hu (ha0.1.later h)
  have HO3 : Hid (∀ (w1 : World) (u v : Value) (y z : List Nat), Below w.heap.size w w1 → Wds w1 u y → Wds w1 v z → Calls Tryd.prog 12 #[A3 d0 d1 d2, u, v] w1 fun e W' => e = .returned (.tuple #[I (opV d0 d1 d2 y z), I (errK d0 d1 d2 [y, z])]) ∧ Below w1.heap.size w1 W') := fun w1 u v y z h hu hv => sopen_calls d0 d1 d2 w1 (hTab.below h hTab.lt) hu hv
  have HOr : Hid (∀ (n : Int) (w1 : World) (u : Value) (z : List Nat), Below w.heap.size w w1 → Wds w1 u z → Calls Tryd.prog 13 #[I n, u, va] w1 fun e W' => ∃ v, e = .returned (.tuple #[v, I (errAll n [z, a])]) ∧ SetR W' w1.heap.size v (joinW orW n z a) ∧ Below w1.heap.size w1 W') := fun n w1 u z h hu => or_calls w1 hu (ha0.1.later h) n
  have HMe : Hid (∀ (n : Int) (w1 : World) (u : Value) (z : List Nat), Below w.heap.size w w1 → Wds w1 u z → Calls Tryd.prog 14 #[I n, u, va] w1 fun e W' => e = .returned (.tuple #[.bool (meetSB n z a), I (errAll n [z, a])]) ∧ Below w1.heap.size w1 W') := fun n w1 u z h hu => meet_calls w1 hu (ha0.1.later h) n
  have HLe : Hid (∀ (n : Int) (w1 : World) (u v : Value) (x y : List Nat), Wds w1 u x → Wds w1 v y → Calls Tryd.prog 18 #[I n, u, v] w1 fun e W' => ∃ v', e = .returned (.tuple #[v', I (errAll n [x, y])]) ∧ SetR W' w1.heap.size v' (joinW notW n x y) ∧ Below w1.heap.size w1 W') := fun n w1 u v x y h1 h2 => less_calls w1 h1 h2 n
  have HWa : Hid (∀ x ∈ a, x < 18446744073709551616) := ha0.1.1
  obtain ⟨ao, ca, rfl, _⟩ := ha0.1.view
  clear ha0 hTab
  generalize a.length = na at *
  obtain ⟨wz, hwz, hT, b0, b1⟩ := two_start w #[I d0, I d1, I d2] (C9 bx t0 t1 t2) 26 32
  have HWz : Hid ((w.alloc (.cells #[I d0, I d1, I d2] 26)).alloc (.cells (C9 bx t0 t1 t2) 32) = wz) := hwz
  clear hwz
  go_enter Tryd.func6, Tryd.ntmps6
  go_wp2_with fail
  rw [HWz.out]
  refine (HAl.out _ hT).mono ?_
  rintro e w2 ⟨rfl, hB⟩
  replace b0 := b0.later hB
  replace b1 := b1.later hB
  replace hT := then_below hT hB
  clear hB HAl HWz
  by_cases hl : (100 : Int) < (na : Int)
  · go_wp2
    go_ret
    exact ⟨rfl, hT⟩
  obtain ⟨e0, e1, e2, ez⟩ := b0.three (Below.refl _ _)
  go_wp2_with fail
  refine (HS1.out _ hT).mono ?_
  rintro e w3 ⟨rfl, hB⟩
  replace b0 := b0.later hB
  replace b1 := b1.later hB
  replace hT := then_below hT hB
  clear hB e0 e1 e2 ez HS1 hl
  rcases errP_cases d0 d1 d2 bx t0 t1 t2 with ⟨hd, hp, hPe⟩ | ⟨hPe, _⟩
  rotate_left
  · have HSs : Hid (∀ w1 : World, Calls Tryd.prog 16 #[A3 d0 d1 d2, P9 bx t0 t1 t2] w1 fun e W' => e = .returned (.tuple #[.slice none 0 0, .slice none 0 0, I (errP d0 d1 d2 bx t0 t1 t2)]) ∧ Below w1.heap.size w1 W') := fun w1 => sets_err t0 t1 t2 w1 (by rcases hPe with h | h <;> rw [h] <;> rfl)
    have hne : (errP d0 d1 d2 bx t0 t1 t2 != 0) = true := by rcases hPe with h | h <;> rw [h] <;> rfl
    clear hPe
    generalize errP d0 d1 d2 bx t0 t1 t2 = er at *
    obtain ⟨e0, e1, e2, ez⟩ := b0.three (Below.refl _ _)
    obtain ⟨⟨x0, x1, x2⟩, ⟨x3, x4, x5⟩, ⟨x6, x7, x8⟩, xz⟩ := b1.nine (Below.refl _ _)
    go_wp2_with fail
    refine (HSs.out _).mono ?_
    rintro e w4 ⟨rfl, hB⟩
    replace b0 := b0.later hB
    replace b1 := b1.later hB
    replace hT := then_below hT hB
    clear hB e0 e1 e2 ez x0 x1 x2 x3 x4 x5 x6 x7 x8 xz HSs
    clear b0 b1
    rcases errK_cases d0 d1 d2 [a] with hE | hE
    · rw [hE]
      go_wp2
      go_ret
      exact ⟨rfl, hT⟩
    · rw [hE]
      go_wp2
      go_ret
      exact ⟨rfl, hT⟩
  have HSs : Hid (∀ w1 : World, Calls Tryd.prog 16 #[A3 d0 d1 d2, P9 bx t0 t1 t2] w1 fun e W' => ∃ u v, e = .returned (.tuple #[u, v, I 0]) ∧ SetR W' w1.heap.size u (midW d0 d1 d2 bx) ∧ SetR W' w1.heap.size v (cabsW d0 d1 d2 bx t0 t1 t2) ∧ Below w1.heap.size w1 W') := fun w1 => sets_ok w1 hd hp
  obtain ⟨e0, e1, e2, ez⟩ := b0.three (Below.refl _ _)
  obtain ⟨⟨x0, x1, x2⟩, ⟨x3, x4, x5⟩, ⟨x6, x7, x8⟩, xz⟩ := b1.nine (Below.refl _ _)
  go_wp2_with fail
  refine (HSs.out _).mono ?_
  rintro e w4 ⟨p, q, rfl, hP, hQ, hB⟩
  replace b0 := b0.later hB
  replace b1 := b1.later hB
  replace hT := then_below hT hB
  clear hB e0 e1 e2 ez x0 x1 x2 x3 x4 x5 x6 x7 x8 xz HSs
  replace hP := hP.wds
  replace hQ := hQ.wds
  obtain ⟨po, pc, rfl, hP0⟩ := hP.view
  obtain ⟨qo, qc, rfl, hQ0⟩ := hQ.view
  clear hP0 hQ0 hQ
  generalize (cabsW d0 d1 d2 bx t0 t1 t2).length = nq at *
  by_cases hE : errK d0 d1 d2 [a] = 0
  rotate_left
  · have h8 := (errK_cases d0 d1 d2 [a]).resolve_left hE
    rw [h8]
    clear hE h8 b0 b1 hP hPe hp hd
    generalize (midW d0 d1 d2 bx).length = np at *
    go_wp2
    go_ret
    exact ⟨rfl, hT⟩
  rw [hE]
  have ea := (errK_zero hE).2 a (by simp)
  have eo := midW_err hd bx
  have hm1 : 0 ≤ d0 * d1 ∧ d0 * d1 ≤ 16 * 16 := mul_bd (by unfold mayD okD at hd; omega) (by unfold mayD okD at hd; omega) (by unfold mayD okD at hd; omega) (by unfold mayD okD at hd; omega)
  have hnb := N_bd hd
  have HF : Hid (∀ ws, meetSB (d0 * d1 * d2) (midW d0 d1 d2 bx) a = false → OfIs (d0 * d1 * d2) (wholeL (d0 * d1 * d2).toNat) ws → _) := fun ws he hO => taken_facts hd HWa.out ea he hO
  have HBd : Hid ((∀ y z, 0 ≤ opV d0 d1 d2 y z ∧ opV d0 d1 d2 y z ≤ 24576) ∧ ∀ y, 0 ≤ spV d0 d1 d2 y ∧ spV d0 d1 d2 y ≤ 24576) := ⟨fun y z => opV_bd hd y z, fun y => spV_bd hd y⟩
  have HOf : Hid (∀ (w1 : World) (v : Value), Its w1 v (wholeL (d0 * d1 * d2).toNat) → Calls Tryd.prog 15 #[I (d0 * d1 * d2), v] w1 fun e W' => ∃ u ws, e = .returned (.tuple #[u, I 0]) ∧ SetR W' w1.heap.size u ws ∧ OfIs (d0 * d1 * d2) (wholeL (d0 * d1 * d2).toNat) ws ∧ Below w1.heap.size w1 W') := fun w1 v hv => by
    have := of_calls w1 hv (by simp [wholeL, ofN]; omega) (d0 * d1 * d2)
    rw [ofErr, if_pos (whole_ok (by omega) (by omega))] at this
    exact this
  have hMw := HMe.out (d0 * d1 * d2) _ _ _ hT hP
  rw [errAll_both eo ea] at hMw
  have HOa : Hid (∀ (w1 : World) (u : Value), Below w.heap.size w w1 → Wds w1 u (midW d0 d1 d2 bx) → Calls Tryd.prog 13 #[I (d0 * d1 * d2), u, .slice ao na ca] w1 fun e W' => ∃ v, e = .returned (.tuple #[v, I 0]) ∧ SetR W' w1.heap.size v (joinW orW (d0 * d1 * d2) (midW d0 d1 d2 bx) a) ∧ Below w1.heap.size w1 W') := fun w1 u h hu => by
    have := HOr.out (d0 * d1 * d2) w1 u _ h hu
    rw [errAll_both eo ea] at this
    exact this
  clear hE hPe hp hd ea eo HWa HMe HOr
  generalize midW d0 d1 d2 bx = S at *
  obtain ⟨mt, hmt⟩ : ∃ mt, mt = meetSB (d0 * d1 * d2) S a := ⟨_, rfl⟩
  rw [← hmt] at hMw HF
  clear hmt
  obtain ⟨e0, e1, e2, ez⟩ := b0.three (Below.refl _ _)
  go_wp2_with fail
  refine (hMw).mono ?_
  rintro e w5 ⟨rfl, hB⟩
  replace b0 := b0.later hB
  replace b1 := b1.later hB
  replace hP := hP.later hB
  replace hT := then_below hT hB
  clear hB e0 e1 e2 ez hMw hm1
  cases mt
  rotate_left
  · clear b0 b1 HF HOf HOa hP
    generalize S.length = np at *
    generalize d0 * d1 * d2 = N at *
    go_wp2
    go_ret
    exact ⟨rfl, hT⟩
  replace HF : Hid (∀ ws, OfIs (d0 * d1 * d2) (wholeL (d0 * d1 * d2).toNat) ws → _) := fun ws hO => HF.out ws rfl hO
  obtain ⟨n, hn⟩ : ∃ n : Nat, d0 * d1 * d2 = n := ⟨(d0 * d1 * d2).toNat, by omega⟩
  rw [hn] at HF HOa HOf hnb
  rw [hn]
  rw [Int.toNat_natCast] at HF HOf
  clear hn
  generalize hns : S.length = ns at *
  clear hns
  go_wp2_with fail
  refine (HOa.out _ _ hT hP).mono ?_
  rintro e w6 ⟨u, rfl, hU, hB⟩
  replace b0 := b0.later hB
  replace b1 := b1.later hB
  replace hP := hP.later hB
  replace hT := then_below hT hB
  clear hB HOa
  replace hU := hU.wds
  obtain ⟨uo, uc, rfl, hU0⟩ := hU.view
  clear hU0
  generalize joinW orW (n : Int) S a = z at *
  have hSw := HSp.out _ _ _ hT hU
  obtain ⟨x, hx⟩ : ∃ x, x = spV d0 d1 d2 a := ⟨_, rfl⟩
  obtain ⟨y, hy⟩ : ∃ y, y = spV d0 d1 d2 z := ⟨_, rfl⟩
  obtain ⟨ey, hey⟩ : ∃ ey, ey = errK d0 d1 d2 [z] := ⟨_, rfl⟩
  rw [← hy, ← hey] at hSw
  rw [← hx, ← hy, ← hey] at HF
  rw [← hx]
  have HXb : Hid (0 ≤ x ∧ x ≤ 24576) := by rw [hx]; exact HBd.out.2 a
  clear hx hy hey HSp
  generalize hnz : z.length = nz at *
  clear hnz
  obtain ⟨e0, e1, e2, ez⟩ := b0.three (Below.refl _ _)
  go_wp2_with fail
  refine (hSw).mono ?_
  rintro e w7 ⟨rfl, hB⟩
  replace b0 := b0.later hB
  replace b1 := b1.later hB
  replace hP := hP.later hB
  replace hU := hU.later hB
  replace hT := then_below hT hB
  clear hB e0 e1 e2 ez hSw
  go_wp2_with (at_make; refine wpList_mkI rfl _ _ rfl n rfl rfl (by omega) ?_; intro wm hK hTm)
  rw [← wholeTo_zero] at hK
  generalize hgw : w7.heap.size = gw at *
  go_wp2
  go_loopw [21] (fun i wr => ∃ k : Nat, k ≤ n ∧ i = .int .i64 k ∧ Blk wr gw 3 ((wholeTo n k).map I).toArray ∧ Below gw w7 wr) (fun i _ => n - (RowKit.intOf i).toNat)
  case atStart => exact ⟨0, by omega, rfl, hK, hTm⟩
  case round =>
    clear hK hTm
    obtain ⟨k, hk, rfl, hK, hTm⟩ := hrel
    by_cases hlt : (k : Int) < (n : Int)
    · have hkx : k < n := by omega
      obtain ⟨xc, hxc⟩ := whole_cell hK hkx
      have hfz := hK.frozen k
      have hzz := hK.lt
      have HK2 : Hid (Blk (wr.setCell ⟨gw, k, none⟩ (I k)) gw 3 ((wholeTo n (k + 1)).map I).toArray ∧ Below gw w7 (wr.setCell ⟨gw, k, none⟩ (I k))) := ⟨blk_whole hK hkx, hTm.setCell (p := ⟨gw, k, none⟩) (Nat.le_refl _) _⟩
      clear hK hTm
      go_wp2
      go_roundw
      case rel => exact ⟨k + 1, by omega, by go_num, HK2.out.1, HK2.out.2⟩
      case measure => simp [RowKit.intOf]; omega
    · obtain rfl : n = k := by omega
      subst hgw
      have hI := whole_its hK
      clear hlt hk hK
      replace b0 := b0.later hTm
      replace b1 := b1.later hTm
      replace hP := hP.later hTm
      replace hU := hU.later hTm
      replace hT := then_below hT hTm
      go_wp2_with fail
      refine (HOf.out _ _ hI).mono ?_
      rintro e w8 ⟨v, ws, rfl, hV, hO, hB⟩
      replace b0 := b0.later hB
      replace b1 := b1.later hB
      replace hP := hP.later hB
      replace hU := hU.later hB
      replace hT := then_below hT hB
      clear hB HOf hI
      replace hV := hV.wds
      obtain ⟨vo, vc, rfl, hV0⟩ := hV.view
      clear hV0
      obtain ⟨f1, _, f2, f3, f4, f5⟩ := HF.out ws hO
      have HLw := HLe.out n _ _ _ _ _ hV hU
      rw [f2] at HLw
      clear HLe HF hO f2 hV hU
      generalize joinW notW (n : Int) ws z = R at *
      generalize ws.length = nv at *
      subst f1
      have HF5 : Hid (y = x + opV d0 d1 d2 S R - opV d0 d1 d2 S a) := f5
      clear f5
      go_wp2_with fail
      refine (HLw).mono ?_
      rintro e w9 ⟨r, rfl, hR, hB⟩
      replace b0 := b0.later hB
      replace b1 := b1.later hB
      replace hP := hP.later hB
      replace hT := then_below hT hB
      clear hB HLw
      replace hR := hR.wds
      obtain ⟨ro, rc, rfl, hR0⟩ := hR.view
      clear hR0
      have HWo := HO3.out _ _ _ _ _ hT hP hR
      rw [f3] at HWo
      clear HO3 f3 hR
      obtain ⟨x1, hx1⟩ : ∃ x1, x1 = opV d0 d1 d2 S R := ⟨_, rfl⟩
      obtain ⟨x2, hx2⟩ : ∃ x2, x2 = opV d0 d1 d2 S a := ⟨_, rfl⟩
      rw [← hx1] at HWo
      have HF6 : Hid (y = x + x1 - x2) := by rw [hx1, hx2]; exact HF5.out
      clear HF5
      have HX1 : Hid ((0 ≤ x1 ∧ x1 ≤ 24576) ∧ (0 ≤ x2 ∧ x2 ≤ 24576)) := by rw [hx1, hx2]; exact ⟨HBd.out.1 S R, HBd.out.1 S a⟩
      clear hx1
      generalize R.length = nr at *
      obtain ⟨e0, e1, e2, ez⟩ := b0.three (Below.refl _ _)
      go_wp2_with fail
      refine (HWo).mono ?_
      rintro e w10 ⟨rfl, hB⟩
      replace b0 := b0.later hB
      replace b1 := b1.later hB
      replace hP := hP.later hB
      replace hT := then_below hT hB
      clear hB e0 e1 e2 ez HWo
      have HWo := HO2.out _ _ _ hT hP
      rw [f4, ← hx2] at HWo
      clear HO2 f4 hx2 hP
      obtain ⟨e0, e1, e2, ez⟩ := b0.three (Below.refl _ _)
      go_wp2_with fail
      refine (HWo).mono ?_
      rintro e w11 ⟨rfl, hB⟩
      replace b0 := b0.later hB
      replace b1 := b1.later hB
      replace hT := then_below hT hB
      clear hB e0 e1 e2 ez HWo
      obtain ⟨⟨g1, g2⟩, g3, g4⟩ := HX1.out
      obtain ⟨g5, g6⟩ := HXb.out
      clear b0 b1 hnb HX1 HXb HBd
      obtain rfl := HF6.out
      clear HF6
      go_wp2
      go_ret
      exact ⟨rfl, hT⟩

end Go.Proofs.YtbedhpooeabehaaDoor

/-
  How the arguments of this seat's statements are opened: whole numbers, and rows of three of them.
-/
namespace Go.Proofs.YtbedhpooeabehaaDoor
open Go.ChangeShapes Go.WideShapes Go.ChangeAt Go.RowKit

theorem own : ownKnob Tryd.prog.godebug = none := by kernel_rfl
theorem laidOut : laidOutB Tryd.prog = true := by kernel_rfl

theorem list3 {α : Type} (l : List α) (h : (⟨l⟩ : Array α).size = 3) : ∃ a b c, l = [a, b, c] := by
  match l, h with
  | [a, b, c], _ => exact ⟨a, b, c, rfl⟩

/-- A row of three whole numbers, by value. -/
theorem open_arr3 {P : Program} {w : World} {H : Type} {enc : TypeId × Value → H} {r : Reach} {b0 base : Nat} {spare : Nat → Bool} {held : Bool} {t e : TypeId} {v : Value} {d : DataW H} {p : List MemPlace}
    (ht : P.underlying t = some (.array 3 e)) (he : P.underlying e = some (.int .i64)) (hce : P.cellsOf e = 1) (hct : P.cellsOf t = 3)
    (hv : Value.okWide P w r b0 t v) (h : DataW.Trod enc P w base spare held t v d p) :
    ∃ a b c : Int, v = A3 a b c ∧ (Lit.int .i64 a).wf = true ∧ (Lit.int .i64 b).wf = true ∧ (Lit.int .i64 c).wf = true := by
  obtain ⟨cs, rfl, hsz, _⟩ : ∃ cs, v = .agg cs ∧ cs.size = P.cellsOf t ∧ Row.okWide P w r b0 t cs := by
    simpa [Value.okWide, ht] using hv
  rw [hct] at hsz
  obtain ⟨l⟩ := cs
  obtain ⟨c0, c1, c2, rfl⟩ := list3 l hsz
  obtain ⟨fuel, hf⟩ := h
  obtain ⟨y0, y1, y2, m, hx, hy0, hy1, hy2⟩ := trod_array3 ht hce hf
  obtain ⟨x0, e0, rfl, w0⟩ := DataW.trod_int he hy0
  obtain ⟨x1, e1, rfl, w1⟩ := DataW.trod_int he hy1
  obtain ⟨x2, e2, rfl, w2⟩ := DataW.trod_int he hy2
  simp at e0 e1 e2
  subst e0 e1 e2
  exact ⟨x0, x1, x2, rfl, w0, w1, w2⟩

theorem open_num {P : Program} {w : World} {H : Type} {enc : TypeId × Value → H} {r : Reach} {b0 base : Nat} {spare : Nat → Bool} {held : Bool} {t : TypeId} {k : IntKind} {v : Value} {d : DataW H} {p : List MemPlace}
    (ht : P.underlying t = some (.int k)) (hv : Value.okWide P w r b0 t v) (h : DataW.Trod enc P w base spare held t v d p) :
    ∃ a : Int, v = .int k a ∧ (Lit.int k a).wf = true := by
  obtain ⟨x, rfl, rfl, rfl, wx⟩ := open_int ht hv h
  exact ⟨x, rfl, wx⟩

theorem trod_lt' {H : Type} {enc : TypeId × Value → H} {P : Program} {W : World} {t : TypeId} {v : Value} {d : DataW H} {ps : List MemPlace} {sp : Nat → Bool} (h : DataW.Trod enc P W 0 sp true t v d ps) : ∀ x ∈ ps, x.block < W.heap.size := by
  obtain ⟨m, hm⟩ := h; exact DataW.trod_lt m _ _ _ hm

end Go.Proofs.YtbedhpooeabehaaDoor

/-
  How a place among a statement's arguments is opened: a box's six whole numbers, and three tori.
-/
namespace Go.Proofs.YtbedhpooeabehaaDoor
open Go.ChangeShapes Go.WideShapes Go.ChangeAt Go.RowKit

theorem list9 {α : Type} (l : List α) (h : (⟨l⟩ : Array α).size = 9) : ∃ a b c d e f g i j, l = [a, b, c, d, e, f, g, i, j] := by
  match l, h with
  | [a, b, c, d, e, f, g, i, j], _ => exact ⟨a, b, c, d, e, f, g, i, j, rfl⟩

set_option maxRecDepth 100000 in
theorem open_place {w : World} {H : Type} {enc : TypeId × Value → H} {r : Reach} {b0 base : Nat} {spare : Nat → Bool} {held : Bool} {v : Value} {d : DataW H} {p : List MemPlace}
    (hv : Value.okWide Tryd.prog w r b0 32 v) (h : DataW.Trod enc Tryd.prog w base spare held 32 v d p) : ∃ (b : Bx) (t0 t1 t2 : Bool), v = P9 b t0 t1 t2 := by
  obtain ⟨f0, f1, hu, t0, o0, t1, o1⟩ : ∃ f0 f1, Tryd.prog.underlying 32 = some (.struct #[f0, f1]) ∧ f0.type = 29 ∧ f0.offset = 0 ∧ f1.type = 30 ∧ f1.offset = 6 := ⟨_, _, rfl, rfl, rfl, rfl, rfl⟩
  obtain ⟨s0, s1, hs, q0, r0, q1, r1⟩ : ∃ f0 f1, Tryd.prog.underlying 29 = some (.struct #[f0, f1]) ∧ f0.type = 25 ∧ f0.offset = 0 ∧ f1.type = 25 ∧ f1.offset = 3 := ⟨_, _, rfl, rfl, rfl, rfl, rfl⟩
  obtain ⟨cs, rfl, hsz, _⟩ : ∃ cs, v = .agg cs ∧ cs.size = Tryd.prog.cellsOf 32 ∧ Row.okWide Tryd.prog w r b0 32 cs := by
    simpa [Value.okWide, hu] using hv
  have hct : Tryd.prog.cellsOf 32 = 9 := by kernel_rfl
  rw [hct] at hsz
  obtain ⟨l⟩ := cs
  obtain ⟨c0, c1, c2, c3, c4, c5, c6, c7, c8, rfl⟩ := list9 l hsz
  obtain ⟨fuel, hf⟩ := h
  obtain ⟨x, y, n, _, _, h0, h1⟩ := trod_struct2 hu hf
  have hc6 : Tryd.prog.cellsOf 29 = 6 := by kernel_rfl
  have hc3 : Tryd.prog.cellsOf 25 = 3 := by kernel_rfl
  have hc3' : Tryd.prog.cellsOf 30 = 3 := by kernel_rfl
  have hc1 : Tryd.prog.cellsOf 3 = 1 := by kernel_rfl
  have hc1' : Tryd.prog.cellsOf 4 = 1 := by kernel_rfl
  rw [t0, o0, hc6] at h0
  rw [t1, o1, hc3'] at h1
  have h0 : DataW.trod enc Tryd.prog w base spare held n 29 [c0, c1, c2, c3, c4, c5] = some x := h0
  have h1 : DataW.trod enc Tryd.prog w base spare held n 30 [c6, c7, c8] = some y := h1
  obtain ⟨x', y', n', _, _, h2, h3⟩ := trod_struct2 hs h0
  rw [q0, r0, hc3] at h2
  rw [q1, r1, hc3] at h3
  have h2 : DataW.trod enc Tryd.prog w base spare held n' 25 [c0, c1, c2] = some x' := h2
  have h3 : DataW.trod enc Tryd.prog w base spare held n' 25 [c3, c4, c5] = some y' := h3
  obtain ⟨_, _, _, m, _, g0, g1, g2⟩ := trod_array3 Tryd.underlying25 hc1 h2
  obtain ⟨_, _, _, m', _, g3, g4, g5⟩ := trod_array3 Tryd.underlying25 hc1 h3
  obtain ⟨_, _, _, m'', _, g6, g7, g8⟩ := trod_array3 Tryd.underlying30 hc1' h1
  obtain ⟨x0, e0, _, _⟩ := DataW.trod_int Tryd.underlying3 g0
  obtain ⟨x1, e1, _, _⟩ := DataW.trod_int Tryd.underlying3 g1
  obtain ⟨x2, e2, _, _⟩ := DataW.trod_int Tryd.underlying3 g2
  obtain ⟨x3, e3, _, _⟩ := DataW.trod_int Tryd.underlying3 g3
  obtain ⟨x4, e4, _, _⟩ := DataW.trod_int Tryd.underlying3 g4
  obtain ⟨x5, e5, _, _⟩ := DataW.trod_int Tryd.underlying3 g5
  obtain ⟨y6, e6, _⟩ := DataW.trod_bool Tryd.underlying4 g6
  obtain ⟨y7, e7, _⟩ := DataW.trod_bool Tryd.underlying4 g7
  obtain ⟨y8, e8, _⟩ := DataW.trod_bool Tryd.underlying4 g8
  simp at e0 e1 e2 e3 e4 e5 e6 e7 e8
  subst e0 e1 e2 e3 e4 e5 e6 e7 e8
  exact ⟨⟨x0, x1, x2, x3, x4, x5⟩, y6, y7, y8, rfl⟩

end Go.Proofs.YtbedhpooeabehaaDoor

/-
  How a set, and a list of whole numbers, among a statement's arguments is opened.
-/
namespace Go.Proofs.YtbedhpooeabehaaDoor
open Go Go.ChangeShapes Go.WideShapes Go.ChangeAt Go.RowKit

theorem spot_none {w : World} {a : Addr} {v : Value} (h : w.cell? a = some v) : a.spot = none := by
  unfold World.cell? at h
  split at h
  · split at h
    · cases h
    · rename_i hs
      cases hq : a.spot
      · rfl
      · rw [hq] at hs; exact absurd rfl hs
  · cases h
theorem block_lt {w : World} {a : Addr} {v : Value} (h : w.cell? a = some v) : a.block < w.heap.size := by
  unfold World.cell? at h
  split at h
  · rename_i hs
    exact (Array.getElem?_eq_some_iff.1 hs).1
  · cases h

set_option maxRecDepth 100000 in
/-- A slice of numbers of one kind, as it came in. -/
theorem open_row_of {P : Program} {w : World} {H : Type} {enc : TypeId × Value → H} {r : Reach} {b0 base : Nat} {spare : Nat → Bool} {held : Bool} {t e : TypeId} {k : IntKind} {v : Value} {d : DataW H} {p : List MemPlace}
    (ht : P.underlying t = some (.slice e)) (he : P.underlying e = some (.int k)) (hc : P.cellsOf e = 1)
    (hv : Value.okWide P w r b0 t v) (h : DataW.Trod enc P w base spare held t v d p) :
    ∃ zs : List Int, (∀ z ∈ zs, (Lit.int k z).wf = true) ∧ Sl w v (zs.map (Value.int k)) ∧ (v = .slice none 0 0 ∧ zs = [] ∨ ∃ ad cap, v = .slice (some ad) zs.length cap) := by
  obtain ⟨a, len, cap, rfl⟩ := okWide_slice ht hv
  obtain ⟨fuel, hf⟩ := h
  rcases open_ints ht he hc hf with ⟨hcs, -⟩ | ⟨a0, len0, cap0, zs, hcs, _, hl, _, hz, _, hcell, hwf⟩
  · have e0 : Value.slice a len cap = .slice none 0 0 := by
      have : [Value.slice a len cap] = [.slice none 0 0] := hcs
      exact List.head_eq_of_cons_eq this
    rw [e0]
    exact ⟨[], fun _ h => (by cases h), Sl.nil w, .inl ⟨rfl, rfl⟩⟩
  · have e0 : Value.slice a len cap = .slice (some a0) len0 cap0 := by
      have : [Value.slice a len cap] = [.slice (some a0) len0 cap0] := hcs
      exact List.head_eq_of_cons_eq this
    rw [e0]
    have hlz : len0 ≤ zs.length := by rw [hz]; split <;> omega
    have hlt : (zs.take len0).length = len0 := by simp [hlz]
    refine ⟨zs.take len0, fun z hz' => hwf z (List.mem_of_mem_take hz'), ⟨some a0, cap0, by simp [hlz], fun i hi => ?_⟩, .inr ⟨a0, cap0, by rw [hlt]⟩⟩
    rw [List.length_map, hlt] at hi
    have hi2 : i < zs.length := by omega
    have c0 := hcell i hi2
    have cc := hcell 0 (by omega)
    obtain ⟨g, off, sp⟩ := a0
    have hs : sp = none := by
      have := spot_none cc
      simpa [Addr.add] using this
    subst hs
    have ea : (⟨g, off, none⟩ : Addr).add i = ⟨g, off + i, none⟩ := by
      unfold Addr.add
      split
      · rename_i h0; subst h0; rfl
      · rfl
    rw [ea] at c0
    exact ⟨g, off, rfl, block_lt c0, by rw [c0]; simp [hi, hi2]⟩

theorem word_of {z : Int} (h : (Lit.int .u64 z).wf = true) : 0 ≤ z ∧ z < 18446744073709551616 := by
  unfold Lit.wf at h
  simp [IntKind.min, IntKind.max, IntKind.signed, IntKind.bits] at h
  omega

set_option maxRecDepth 100000 in
theorem open_set {w : World} {H : Type} {enc : TypeId × Value → H} {r : Reach} {b0 base : Nat} {spare : Nat → Bool} {held : Bool} {v : Value} {d : DataW H} {p : List MemPlace}
    (hv : Value.okWide Tryd.prog w r b0 36 v) (h : DataW.Trod enc Tryd.prog w base spare held 36 v d p) : ∃ ws : List Nat, ArgW w v ws := by
  obtain ⟨zs, hw, hs, hc⟩ := open_row_of Tryd.underlying36 Tryd.underlying34 (by kernel_rfl) hv h
  have e : (zs.map Int.toNat).map U = zs.map (Value.int .u64) := by
    rw [List.map_map]
    apply List.map_congr_left
    intro z hz
    have := word_of (hw z hz)
    show Value.int .u64 ((z.toNat : Nat) : Int) = _
    rw [Int.toNat_of_nonneg this.1]
  refine ⟨zs.map Int.toNat, ⟨fun x hx => ?_, by rw [e]; exact hs⟩, ?_⟩
  · obtain ⟨z, hz, rfl⟩ := List.mem_map.1 hx
    have := word_of (hw z hz)
    omega
  · rcases hc with ⟨rfl, _⟩ | ⟨ad, cap, rfl⟩
    · exact .inl rfl
    · exact .inr ⟨ad, cap, by simp⟩

set_option maxRecDepth 100000 in
theorem open_list {w : World} {H : Type} {enc : TypeId × Value → H} {r : Reach} {b0 base : Nat} {spare : Nat → Bool} {held : Bool} {v : Value} {d : DataW H} {p : List MemPlace}
    (hv : Value.okWide Tryd.prog w r b0 49 v) (h : DataW.Trod enc Tryd.prog w base spare held 49 v d p) : ∃ xs : List Int, ArgI w v xs ∧ ∀ x ∈ xs, (Lit.int .i64 x).wf = true := by
  obtain ⟨zs, hw, hs, hc⟩ := open_row_of Tryd.underlying49 Tryd.underlying3 (by kernel_rfl) hv h
  refine ⟨zs, ⟨hs, ?_⟩, hw⟩
  rcases hc with ⟨rfl, _⟩ | h
  · exact .inl rfl
  · exact .inr h

end Go.Proofs.YtbedhpooeabehaaDoor

/-
  What the statements that list math/bits' table ask ahead of a walk: the table lies in its variable, as the condition says.
-/
namespace Go.Proofs.YtbedhpooeabehaaDoor
open Go Go.ChangeShapes Go.WideShapes Go.ChangeAt Go.RowKit

def tabLaid : List (String × DataW Unit) := [("math/bits.deBruijn64tab", Rows.laid_math_bits_deBruijn64tab)]

theorem tab_named : Tryd.prog.globalNamed "math/bits.deBruijn64tab" = some 0 := by kernel_rfl
theorem tab_type : (Tryd.prog.globals[0]?).map (·.type) = some 107 := by kernel_rfl

/-- The heap that the program's own start leaves meets the condition. -/
theorem door_met (os : Os) (args : Array Value) : laidMetH Tryd.prog tabLaid ((World.doorLaid Tryd.prog 14 os).forCall (fun _ _ => 0) ⟨#[], args, []⟩).memory :=
  laidMetH_of_parts3 (fuel := 8) (laidMet_of_run' 8 (by kernel_rfl) (by kernel_rfl)) (by kernel_rfl) (by kernel_rfl)

theorem tab_datum : (Rows.laid_math_bits_deBruijn64tab : DataW Unit) = Lib.tabData .u8 (ofN Lib.deBruijn64tab) := rfl

theorem tab_of {W : World} (h : laidMetH Tryd.prog tabLaid W) : TabOk W := by
  rw [MakeChecks.laidMetH_plain _ _ _ (by kernel_rfl)] at h
  unfold tabLaid at h
  rw [tab_datum] at h
  have hT := Lib.tabIs_of_head tab_named tab_type Tryd.underlying107 Tryd.underlying5 (by kernel_rfl) (by kernel_rfl) h
  intro j hj
  have := hT.cell tab_named j (by rw [ofN_len]; exact hj)
  rw [this, ofN_get]

/-- No parameter's type asks for a stand-in. -/
theorem noS_stand_in (ts : Array TypeId) (h : (ts.toList.all fun t => !Tryd.prog.wantsStandIn t) = true) (j : Nat) (t : TypeId) (ht : ts[j]? = some t) : Tryd.prog.wantsStandIn t = false := by
  have hm : t ∈ ts.toList := by
    obtain ⟨hlt, he⟩ := Array.getElem?_eq_some_iff.1 ht
    rw [← he]
    exact Array.getElem_mem_toList hlt
  have := List.all_eq_true.1 h t hm
  simpa using this

end Go.Proofs.YtbedhpooeabehaaDoor
