/-
  A statement whose order the language leaves open and whose callees make memory: each operation keeps a word of its own, which lasts in every later world; so, in whatever order, at the end all words hold.
-/
import Derived.Test.YtjmfdpilmljppaaPart2
import Derived.Test.YtjmfdpilmljppaaPart7
import Derived.Test.YtjmfdpilmljppaaPart5
import Derived.Test.YtjmfdpilmljppaaPart1
import Derived.Test.YtjmfdpilmljppaaProg
import Derived.OwnWalk
import Derived.Laws.BitsAllLaws
import Derived.Laws.ShiftsVarLaws
namespace Go.Proofs.Ytjmfdpilmljppaa
open Go Go.RowKit Go.Shelf

section
variable {F : Fence} {n : Nat} {P : Program}

/-- How many are not listed yet. -/
theorem count_set : ∀ (l : List Bool) (i : Nat), l[i]? = some false → (l.set i true).count false + 1 = l.count false
  | [], _, h => by simp at h
  | b :: l, 0, h => by simp at h; subst h; simp
  | b :: l, i + 1, h => by
    simp at h
    have := count_set l i h
    simp [List.count_cons]
    omega

def dstOf (l : List Oper) (i : Nat) : Nat := match l[i]? with | some o => o.dst.getD 0 | none => 0
/-- Each operation writes a slot of its own, below number m; none is guarded; none defers. -/
def soloB (l : List Oper) (m : Nat) : Bool := (l.all fun o => o.guard.isNone && o.dst.isSome) && ((List.range l.length).all fun i => decide (dstOf l i < m) && (List.range l.length).all fun j => i == j || dstOf l i != dstOf l j) && noDefer l.toArray && beginB l l.length

/-- The frame a holds, outside the slots that the region writes, what a0 does. -/
structure Like (l : List Oper) (a0 a : Act) : Prop where
  size : a.tmps.size = a0.tmps.size
  defers : a.defers = a0.defers
  out : ∀ t, (∀ i, i < l.length → dstOf l i ≠ t) → a.tmps[t]? = a0.tmps[t]?

abbrev slot (l : List Oper) (a : Act) (i : Nat) : Value := a.tmps.getD (dstOf l i) undef

/-- What an operation comes to: a value, or a call. -/
def Comes (P : Program) (o : Oper) (a : Act) (w : World) (R : Value → World → Prop) : Prop :=
  (∃ v, (execOp a.eval o).run P w = .ok (.value v) w ∧ R v w) ∨ (∃ f args, (execOp a.eval o).run P w = .ok (.enter f args) w ∧ Calls P f args w fun e w' => ∃ v, e = .returned v ∧ Below w.heap.size w w' ∧ R v w')

theorem put_at {a : Act} {d : Nat} {v : Value} (h : d < a.tmps.size) : (a.put (some d) v).tmps.getD d undef = v := by
  simp [Act.put, Array.getD, h]
theorem put_ne {a : Act} {d t : Nat} {v : Value} (h : d ≠ t) : (a.put (some d) v).tmps[t]? = a.tmps[t]? := by
  simp [Act.put, Array.getElem?_setIfInBounds_ne h]
theorem getD_ne {a : Act} {d t : Nat} {v : Value} (h : d ≠ t) : (a.put (some d) v).tmps.getD t undef = a.tmps.getD t undef := by
  rw [Array.getD_eq_getD_getElem?, Array.getD_eq_getD_getElem?, put_ne h]

theorem solo_at {l : List Oper} {m i : Nat} {o : Oper} (h : soloB l m = true) (hi : l[i]? = some o) : o.guard = none ∧ o.dst = some (dstOf l i) ∧ dstOf l i < m ∧ ∀ j, j < l.length → j ≠ i → dstOf l i ≠ dstOf l j := by
  simp only [soloB, Bool.and_eq_true] at h
  obtain ⟨⟨⟨h1, h2⟩, _⟩, _⟩ := h
  obtain ⟨hlt, he⟩ := List.getElem?_eq_some_iff.1 hi
  have k1 := List.all_eq_true.1 h1 o (he ▸ List.getElem_mem hlt)
  simp only [Bool.and_eq_true, Option.isNone_iff_eq_none] at k1
  have k2 := List.all_eq_true.1 h2 i (List.mem_range.2 hlt)
  simp only [Bool.and_eq_true, decide_eq_true_eq] at k2
  refine ⟨k1.1, ?_, k2.1, fun j hj hne => ?_⟩
  · obtain ⟨d, hd⟩ := Option.isSome_iff_exists.1 k1.2
    simp [dstOf, hi, hd]
  · have := List.all_eq_true.1 k2.2 j (List.mem_range.2 hj)
    simp only [Bool.or_eq_true, beq_iff_eq, bne_iff_ne] at this
    rcases this with e | e
    · exact absurd e.symm hne
    · exact e

variable {l : List Oper} {a0 : Act} {w0 : World} {Q : Exit → Act → World → Prop} {S : Nat → Value → World → Prop}

theorem any_loud (hF : Loose F P) (hB : soloB l a0.tmps.size = true)
    (hS : ∀ i v w w', S i v w → Below w.heap.size w w' → S i v w')
    (hop : ∀ (i : Nat) (o : Oper), l[i]? = some o → ∀ (a : Act) (w : World), Below w0.heap.size w0 w → Like l a0 a → (∀ e ∈ o.after, Region.binds .any e = true → S e.on (slot l a e.on) w) → Comes P o a w (S i))
    (hend : ∀ (a : Act) (w : World), Below w0.heap.size w0 w → Like l a0 a → (∀ i, i < l.length → S i (slot l a i) w) → Q .normal a w) :
    ∀ (f : Nat) (L : Array Bool) (a : Act) (w : World), L.size = l.length → L.toList.count false ≤ f → Below w0.heap.size w0 w → Like l a0 a → (∀ i, L.getD i false = true → S i (slot l a i) w) → wpAnyIn F n P .any l.toArray Q f L a w := by
  have hbeg : beginB l l.length = true := (Bool.and_eq_true_iff.1 hB).2
  have hnd : noDefer l.toArray = true := (Bool.and_eq_true_iff.1 (Bool.and_eq_true_iff.1 hB).1).2
  have htake : l.take l.length = l := List.take_length
  have fin : ∀ (L : Array Bool) (a : Act) (w : World), L.size = l.length → Region.ready .any l.toArray L = [] → Below w0.heap.size w0 w → Like l a0 a → (∀ i, L.getD i false = true → S i (slot l a i) w) → Q .normal a w := by
    intro L a w hs hr hT hL hA
    have hfull := full_of_none (l := l) (m := l.length) hbeg hs (by rw [htake]; exact hr)
    refine hend a w hT hL fun i hi => hA i ?_
    rw [hfull]
    simp [Array.getD, hi]
  intro f
  induction f with
  | zero =>
    intro L a w hs hc hT hL hA
    have hall : Region.ready .any l.toArray L = [] := by
      apply List.eq_nil_iff_forall_not_mem.2
      intro i hi
      obtain ⟨h1, _⟩ := mem_ready.1 hi
      have h0 : L.toList.count false = 0 := by omega
      rw [List.count_eq_zero] at h0
      refine h0 ?_
      by_cases hlt : i < L.size
      · rw [Array.getD, dif_pos hlt] at h1
        rw [← h1]
        exact Array.getElem_mem_toList hlt
      · rw [Array.getD, dif_neg hlt] at h1; cases h1
    exact ⟨hall, fin L a w hs hall hT hL hA⟩
  | succ f ih =>
    intro L a w hs hc hT hL hA
    refine ⟨fun hr => fin L a w hs hr hT hL hA, fun i hi => ?_⟩
    obtain ⟨h1, o, ho, hall⟩ := mem_ready.1 hi
    have hol : l[i]? = some o := by simpa using ho
    have hil : i < l.length := (List.getElem?_eq_some_iff.1 hol).1
    obtain ⟨hg, hd, hlt, hne⟩ := solo_at hB hol
    have hcome := hop i o hol a w hT hL (fun e he hb => hA e.on (hall e he hb))
    have hnot : L.toList[i]? = some false := by
      have hlt' : i < L.size := by omega
      rw [Array.getD, dif_pos hlt'] at h1
      rw [Array.getElem?_toList, Array.getElem?_eq_getElem hlt']
      exact congrArg some h1
    have hnext : ∀ (v : Value) (w' : World), Below w.heap.size w w' → S i v w' → wpAnyIn F n P .any l.toArray Q f (L.setIfInBounds i true) (a.put o.dst v) w' := by
      intro v w' hB' hv
      rw [hd]
      refine ih _ _ w' (by simpa using hs) ?_ (then_below hT hB') ⟨?_, ?_, ?_⟩ ?_
      · have := count_set L.toList i hnot
        rw [Array.toList_setIfInBounds]
        omega
      · simp [Act.put]; exact hL.size
      · simp [Act.put]; exact hL.defers
      · intro t ht
        rw [put_ne (ht i hil)]
        exact hL.out t ht
      · intro j hj
        by_cases hij : j = i
        · subst hij
          show S j ((a.put (some (dstOf l j)) v).tmps.getD (dstOf l j) undef) w'
          rw [put_at (by rw [hL.size]; exact hlt)]
          exact hv
        · have hjl : L.getD j false = true := by
            rw [Array.getD_eq_getD_getElem?, Array.getElem?_setIfInBounds_ne (Ne.symm hij), ← Array.getD_eq_getD_getElem?] at hj
            exact hj
          have hjlt : j < l.length := by
            rcases Nat.lt_or_ge j L.size with h | h
            · omega
            · rw [Array.getD, dif_neg (by omega)] at hjl; cases hjl
          show S j ((a.put (some (dstOf l i)) v).tmps.getD (dstOf l j) undef) w'
          rw [getD_ne (hne j hjlt hij)]
          exact hS _ _ _ _ (hA j hjl) hB'
    have hfn : ∀ f, o.about P w a.eval = some f → F.fn f := fun f _ => hF.fn f
    simp only [wpOpIn, ho, Region.wanted, hg, if_true]
    refine ⟨hfn, ?_⟩
    rw [Oper.semAt_eq _ _ _ (noDefer_spec hnd ho)]
    rcases hcome with ⟨v, e, hv⟩ | ⟨g, args, e, hc'⟩
    · rw [e]; exact hnext v w (Below.refl _ _) hv
    · rw [e]
      refine ⟨fun hx => (hF.depth hx).elim, hF.calls _ _ _ _ _ (hc'.mono ?_)⟩
      rintro x w' ⟨v, rfl, hB', hv⟩
      exact hnext v w' hB' hv

/-- All slots of the region, put one behind the other in the text's order. -/
theorem like_puts {a : Act} (hL : Like l a0 a) : a = (List.range l.length).foldl (fun b i => b.put (some (dstOf l i)) (slot l a i)) a0 := by
  have key : ∀ k, k ≤ l.length → ∀ b, b = (List.range k).foldl (fun b i => b.put (some (dstOf l i)) (slot l a i)) a0 → b.tmps.size = a0.tmps.size ∧ b.defers = a0.defers ∧ ∀ t, t < a0.tmps.size → b.tmps[t]? = if (∃ i, i < k ∧ dstOf l i = t) then a.tmps[t]? else a0.tmps[t]? := by
    intro k
    induction k with
    | zero => rintro _ b rfl; simp
    | succ k ih =>
      rintro hk b rfl
      obtain ⟨h1, h2, h3⟩ := ih (by omega) _ rfl
      rw [List.range_succ, List.foldl_append]
      simp only [List.foldl_cons, List.foldl_nil]
      generalize (List.range k).foldl (fun b i => b.put (some (dstOf l i)) (slot l a i)) a0 = b at h1 h2 h3
      refine ⟨by simp [Act.put, h1], by simp [Act.put, h2], fun t ht => ?_⟩
      by_cases hd : dstOf l k = t
      · rw [if_pos ⟨k, by omega, hd⟩]
        subst hd
        have hlt : dstOf l k < b.tmps.size := by omega
        have hlt2 : dstOf l k < a.tmps.size := by rw [hL.size]; omega
        simp [Act.put, slot, Array.getD, hlt, hlt2]
      · rw [put_ne hd, h3 t ht]
        by_cases he : ∃ i, i < k ∧ dstOf l i = t
        · obtain ⟨i, hi, hit⟩ := he
          rw [if_pos ⟨i, hi, hit⟩, if_pos ⟨i, by omega, hit⟩]
        · rw [if_neg he, if_neg]
          rintro ⟨i, hi, hit⟩
          rcases Nat.lt_succ_iff_lt_or_eq.1 hi with h | rfl
          · exact he ⟨i, h, hit⟩
          · exact hd hit
  obtain ⟨h1, h2, h3⟩ := key l.length (Nat.le_refl _) _ rfl
  generalize (List.range l.length).foldl (fun b i => b.put (some (dstOf l i)) (slot l a i)) a0 = b at h1 h2 h3
  have ht : a.tmps = b.tmps := by
    apply Array.ext_getElem?
    intro t
    by_cases hlt : t < a0.tmps.size
    · rw [h3 t hlt]
      by_cases he : ∃ i, i < l.length ∧ dstOf l i = t
      · rw [if_pos he]
      · rw [if_neg he]
        exact hL.out t fun i hi hit => he ⟨i, hi, hit⟩
    · rw [Array.getElem?_eq_none (by rw [hL.size]; omega), Array.getElem?_eq_none (by omega)]
  have hd : a.defers = b.defers := by rw [hL.defers, h2]
  cases a; cases b; simp_all

/-- In whatever order: each operation's word holds at the end. -/
theorem wp_region_loud {id : Nat} (S : Nat → Value → World → Prop) (hm : P.follows .mixedOrders = true) (hB : soloB l a0.tmps.size = true)
    (hS : ∀ i v w w', S i v w → Below w.heap.size w w' → S i v w')
    (hop : ∀ (i : Nat) (o : Oper), l[i]? = some o → ∀ (a : Act) (w : World), Below w0.heap.size w0 w → Like l a0 a → (∀ e ∈ o.after, Region.binds .any e = true → S e.on (slot l a e.on) w) → Comes P o a w (S i))
    (hend : ∀ (v : Nat → Value) (w : World), Below w0.heap.size w0 w → (∀ i, i < l.length → S i (v i) w) → Q .normal ((List.range l.length).foldl (fun b i => b.put (some (dstOf l i)) (v i)) a0) w) :
    (Code.region id l.toArray true).wp P Q a0 w0 := by
  refine (wpIn_wide (n := 0)).1 (wpIn_region_any hm ?_)
  refine any_loud (loose_wide P) hB hS hop (fun a w hT hL hA => ?_) _ _ _ _ (by simp) (by simp) ((Below.refl _ w0).drew) ⟨rfl, rfl, fun _ _ => rfl⟩ (fun i hi => ?_)
  · rw [like_puts hL]
    exact hend (slot l a) w hT hA
  · exfalso
    rw [Array.getD_eq_getD_getElem?] at hi
    simp [Array.getElem?_replicate] at hi
    split at hi <;> simp at hi
end
end Go.Proofs.Ytjmfdpilmljppaa

/-
  box.Nodes: a box's midplanes, rising, in new memory.
-/
namespace Go.Proofs.Ytjmfdpilmljppaa
open Go.RowKit Go.Shelf

attribute [local go_sem] Oper.semAt_some ext_const

set_option maxHeartbeats 1000000 in
theorem bnodes_err {d0 d1 d2 : Int} {b : Bx} (w : World) (he : (errB d0 d1 d2 b != 0) = true) :
    Calls Try.prog 24 #[A3 d0 d1 d2, B6 b] w fun e W' => e = .returned (.tuple #[.slice none 0 0, I (errB d0 d1 d2 b)]) ∧ Below w.heap.size w W' := by
  go_enter Try.func24, Try.ntmps24
  go_wp2_with fail
  obtain ⟨W, hW, hs, hB0, b0, b1, b2⟩ := three_start w #[I d0, I d1, I d2] (C6 b) (C6 b) 26 32 32
  rw [hW]
  clear hW
  refine (chk1 _ _ b2).mono ?_
  rintro e w1 ⟨rfl, hB⟩
  go_wp2
  go_ret2
  exact ⟨rfl, then_below hB0 hB⟩

/-- What each operation of the statement that makes the three lists keeps. -/
def wordN (d0 d1 d2 : Int) (b : Bx) (base : Nat) (X Y Z : List Int) (i : Nat) (v : Value) (w : World) : Prop :=
  match i with
  | 0 => v = A3 d0 d1 d2
  | 1 => v = B6 b
  | 2 => v = A3 d0 b.x b.a
  | 3 => Lst w base v X
  | 4 => v = A3 d0 d1 d2
  | 5 => v = B6 b
  | 6 => v = A3 d1 b.y b.b
  | 7 => Lst w base v Y
  | 8 => v = A3 d0 d1 d2
  | 9 => v = B6 b
  | 10 => v = A3 d2 b.z b.c
  | 11 => Lst w base v Z
  | 12 => Lst w base v X
  | 13 => Lst w base v Y
  | 14 => Lst w base v Z
  | _ => False
theorem wordN_later {d0 d1 d2 : Int} {b : Bx} {base : Nat} {X Y Z : List Int} (i : Nat) (v : Value) (w w' : World) (h : wordN d0 d1 d2 b base X Y Z i v w) (hB : Below w.heap.size w w') : wordN d0 d1 d2 b base X Y Z i v w' := by
  match i, h with
  | 0, h => exact h
  | 1, h => exact h
  | 2, h => exact h
  | 3, h => exact h.later hB
  | 4, h => exact h
  | 5, h => exact h
  | 6, h => exact h
  | 7, h => exact h.later hB
  | 8, h => exact h
  | 9, h => exact h
  | 10, h => exact h
  | 11, h => exact h.later hB
  | 12, h => exact h.later hB
  | 13, h => exact h.later hB
  | 14, h => exact h.later hB
  | n + 15, h => exact h.elim

set_option maxRecDepth 100000 in
set_option maxHeartbeats 4000000 in
theorem bnodes_ok {d0 d1 d2 : Int} {b : Bx} (w : World) (hm : mayD d0 d1 d2) (hb : mayB d0 d1 d2 b) :
    Calls Try.prog 24 #[A3 d0 d1 d2, B6 b] w fun e W' => ∃ v, e = .returned (.tuple #[v, I 0]) ∧ Lst W' w.heap.size v (nodesB d0 d1 d2 b) ∧ Below w.heap.size w W' := by
  have H0 : Hid (errB d0 d1 d2 b = 0) := errB_ok hm hb
  have hmx : Try.prog.follows .mixedOrders = true := by kernel_rfl
  have HM : Hid (mayD d0 d1 d2) := hm
  have HB : Hid (mayB d0 d1 d2 b) := hb
  have HT : Hid (eqO d0 d1 (coordsS d0 b.x b.a) (coordsS d1 b.y b.b) (coordsS d2 b.z b.c) (nodesB d0 d1 d2 b) [] 0) := nodesB_flat hm
  have hlen : (nodesB d0 d1 d2 b).length ≤ 4096 := nodesB_len hm b
  have hm' := hm
  obtain ⟨⟨g0, g1⟩, ⟨g2, g3⟩, g4, g5⟩ := hm'
  have lX : (coordsS d0 b.x b.a).length ≤ 16 := coordsS_len g1
  have lY : (coordsS d1 b.y b.b).length ≤ 16 := coordsS_len g3
  have lZ : (coordsS d2 b.z b.c).length ≤ 16 := coordsS_len g5
  have HX : Hid (∀ k : Nat, k < (coordsS d0 b.x b.a).length → 0 ≤ (coordsS d0 b.x b.a).getD k 0 ∧ (coordsS d0 b.x b.a).getD k 0 < d0) := fun k hk => coordsS_get (by omega) hk
  have HY : Hid (∀ k : Nat, k < (coordsS d1 b.y b.b).length → 0 ≤ (coordsS d1 b.y b.b).getD k 0 ∧ (coordsS d1 b.y b.b).getD k 0 < d1) := fun k hk => coordsS_get (by omega) hk
  have HZ : Hid (∀ k : Nat, k < (coordsS d2 b.z b.c).length → 0 ≤ (coordsS d2 b.z b.c).getD k 0 ∧ (coordsS d2 b.z b.c).getD k 0 < d2) := fun k hk => coordsS_get (by omega) hk
  have KX : Hid (∀ w : World, Calls Try.prog 47 #[A3 d0 b.x b.a] w fun e W' => ∃ v, e = .returned v ∧ Lst W' w.heap.size v (coordsS d0 b.x b.a) ∧ Below w.heap.size w W') := fun w => coords_calls w HM.out.1.2 HB.out.1
  have KY : Hid (∀ w : World, Calls Try.prog 47 #[A3 d1 b.y b.b] w fun e W' => ∃ v, e = .returned v ∧ Lst W' w.heap.size v (coordsS d1 b.y b.b) ∧ Below w.heap.size w W') := fun w => coords_calls w HM.out.2.1.2 HB.out.2.1
  have KZ : Hid (∀ w : World, Calls Try.prog 47 #[A3 d2 b.z b.c] w fun e W' => ∃ v, e = .returned v ∧ Lst W' w.heap.size v (coordsS d2 b.z b.c) ∧ Below w.heap.size w W') := fun w => coords_calls w HM.out.2.2.2 HB.out.2.2
  obtain ⟨z0, z1, z2⟩ := sizes_bd hm hb
  have KM : Hid (∀ w : World, Calls Try.prog 45 #[B6 b] w fun e W' => e = .returned (I (manyB b)) ∧ Below w.heap.size w W') := fun w => bmany_calls w z0 z1 z2
  have hmb : 0 ≤ manyB b ∧ manyB b ≤ 16 * 16 * 16 := by
    have p1 : 0 ≤ b.a * b.b ∧ b.a * b.b ≤ 16 * 16 := mul_bd (by omega) z0.2 (by omega) z1.2
    exact mul_bd p1.1 p1.2 (by omega) z2.2
  obtain ⟨hmb0, hmb1⟩ := hmb
  generalize manyB b = M at KM hmb0 hmb1
  clear z0 z1 z2
  generalize coordsS d0 b.x b.a = X at HT lX HX KX
  generalize coordsS d1 b.y b.b = Y at HT lY HY KY
  generalize coordsS d2 b.z b.c = Z at HT lZ HZ KZ
  generalize nodesB d0 d1 d2 b = T at HT hlen ⊢
  go_enter Try.func24, Try.ntmps24
  go_wp2_with fail
  obtain ⟨W, hW, hs, hB0, b0, b1, b2⟩ := three_start w #[I d0, I d1, I d2] (C6 b) (C6 b) 26 32 32
  rw [hW]
  clear hW
  refine (chk1 _ _ b2).mono ?_
  rintro e w1 ⟨rfl, hT⟩
  rw [H0.out]
  have q0 := b0.later hT
  have q1 := b1.later hT
  have hB1 := then_below hB0 hT
  clear b0 b1 b2 hT hB0
  go_wp2_with fail
  refine wp_region_loud (w0 := w1) (wordN d0 d1 d2 b w1.heap.size X Y Z) hmx (by kernel_rfl) wordN_later ?_ ?_
  · intro i o hi a w' hT hL hpre
    have t2 : a.tmps.getD 2 undef = .pointer (some ⟨w.heap.size, 0, none⟩) := by
      rw [Array.getD_eq_getD_getElem?, hL.out 2 (of_decide_eq_true (by kernel_rfl))]; rfl
    have t3 : a.tmps.getD 3 undef = .pointer (some ⟨w.heap.size + 1, 0, none⟩) := by
      rw [Array.getD_eq_getD_getElem?, hL.out 3 (of_decide_eq_true (by kernel_rfl))]; rfl
    obtain ⟨c0, c1, c2, hz⟩ := q0.three hT
    obtain ⟨⟨k0, k1, k2⟩, ⟨k3, k4, k5⟩, hz1⟩ := q1.six hT
    clear hL
    match i, hi with
    | 0, hi =>
      obtain rfl := Option.some.inj hi
      refine .inl ⟨A3 d0 d1 d2, ?_, rfl⟩
      simp [execOp, go_sem, Act.eval, t2, c0, c1, c2]
    | 1, hi =>
      obtain rfl := Option.some.inj hi
      refine .inl ⟨B6 b, ?_, rfl⟩
      simp [execOp, go_sem, Act.eval, t3, k0, k1, k2, k3, k4, k5]
    | 2, hi =>
      obtain rfl := Option.some.inj hi
      have p0 : a.tmps.getD 26 undef = A3 d0 d1 d2 := hpre ⟨0, .data⟩ (by simp) rfl
      have p1 : a.tmps.getD 27 undef = B6 b := hpre ⟨1, .data⟩ (by simp) rfl
      refine .inr ⟨46, #[A3 d0 d1 d2, B6 b, I 0], ?_, ?_⟩
      · simp [go_sem, Act.eval, p0, p1]
      · refine (side_calls d0 d1 d2 b 0 w').mono ?_
        rintro e w'' ⟨rfl, hB⟩
        exact ⟨_, rfl, hB, rfl⟩
    | 3, hi =>
      obtain rfl := Option.some.inj hi
      have p0 : a.tmps.getD 28 undef = A3 d0 b.x b.a := hpre ⟨2, .data⟩ (by simp) rfl
      refine .inr ⟨47, #[A3 d0 b.x b.a], ?_, ?_⟩
      · simp [go_sem, Act.eval, p0]
      · refine (KX.out w').mono ?_
        rintro e w'' ⟨v, rfl, hl, hB⟩
        exact ⟨_, rfl, hB, hl.weak hT.size⟩
    | 4, hi =>
      obtain rfl := Option.some.inj hi
      refine .inl ⟨A3 d0 d1 d2, ?_, rfl⟩
      simp [execOp, go_sem, Act.eval, t2, c0, c1, c2]
    | 5, hi =>
      obtain rfl := Option.some.inj hi
      refine .inl ⟨B6 b, ?_, rfl⟩
      simp [execOp, go_sem, Act.eval, t3, k0, k1, k2, k3, k4, k5]
    | 6, hi =>
      obtain rfl := Option.some.inj hi
      have p0 : a.tmps.getD 30 undef = A3 d0 d1 d2 := hpre ⟨4, .data⟩ (by simp) rfl
      have p1 : a.tmps.getD 31 undef = B6 b := hpre ⟨5, .data⟩ (by simp) rfl
      refine .inr ⟨46, #[A3 d0 d1 d2, B6 b, I 1], ?_, ?_⟩
      · simp [go_sem, Act.eval, p0, p1]
      · refine (side_calls d0 d1 d2 b 1 w').mono ?_
        rintro e w'' ⟨rfl, hB⟩
        exact ⟨_, rfl, hB, rfl⟩
    | 7, hi =>
      obtain rfl := Option.some.inj hi
      have p0 : a.tmps.getD 32 undef = A3 d1 b.y b.b := hpre ⟨6, .data⟩ (by simp) rfl
      refine .inr ⟨47, #[A3 d1 b.y b.b], ?_, ?_⟩
      · simp [go_sem, Act.eval, p0]
      · refine (KY.out w').mono ?_
        rintro e w'' ⟨v, rfl, hl, hB⟩
        exact ⟨_, rfl, hB, hl.weak hT.size⟩
    | 8, hi =>
      obtain rfl := Option.some.inj hi
      refine .inl ⟨A3 d0 d1 d2, ?_, rfl⟩
      simp [execOp, go_sem, Act.eval, t2, c0, c1, c2]
    | 9, hi =>
      obtain rfl := Option.some.inj hi
      refine .inl ⟨B6 b, ?_, rfl⟩
      simp [execOp, go_sem, Act.eval, t3, k0, k1, k2, k3, k4, k5]
    | 10, hi =>
      obtain rfl := Option.some.inj hi
      have p0 : a.tmps.getD 34 undef = A3 d0 d1 d2 := hpre ⟨8, .data⟩ (by simp) rfl
      have p1 : a.tmps.getD 35 undef = B6 b := hpre ⟨9, .data⟩ (by simp) rfl
      refine .inr ⟨46, #[A3 d0 d1 d2, B6 b, I 2], ?_, ?_⟩
      · simp [go_sem, Act.eval, p0, p1]
      · refine (side_calls d0 d1 d2 b 2 w').mono ?_
        rintro e w'' ⟨rfl, hB⟩
        exact ⟨_, rfl, hB, rfl⟩
    | 11, hi =>
      obtain rfl := Option.some.inj hi
      have p0 : a.tmps.getD 36 undef = A3 d2 b.z b.c := hpre ⟨10, .data⟩ (by simp) rfl
      refine .inr ⟨47, #[A3 d2 b.z b.c], ?_, ?_⟩
      · simp [go_sem, Act.eval, p0]
      · refine (KZ.out w').mono ?_
        rintro e w'' ⟨v, rfl, hl, hB⟩
        exact ⟨_, rfl, hB, hl.weak hT.size⟩
    | 12, hi =>
      obtain rfl := Option.some.inj hi
      have p0 : Lst w' w1.heap.size (a.tmps.getD 29 undef) _ := hpre ⟨3, .data⟩ (by simp) rfl
      refine .inl ⟨a.tmps.getD 29 undef, ?_, p0⟩
      simp [execOp, go_sem, Act.eval]
    | 13, hi =>
      obtain rfl := Option.some.inj hi
      have p0 : Lst w' w1.heap.size (a.tmps.getD 33 undef) _ := hpre ⟨7, .data⟩ (by simp) rfl
      refine .inl ⟨a.tmps.getD 33 undef, ?_, p0⟩
      simp [execOp, go_sem, Act.eval]
    | 14, hi =>
      obtain rfl := Option.some.inj hi
      have p0 : Lst w' w1.heap.size (a.tmps.getD 37 undef) _ := hpre ⟨11, .data⟩ (by simp) rfl
      refine .inl ⟨a.tmps.getD 37 undef, ?_, p0⟩
      simp [execOp, go_sem, Act.eval]
    | n + 15, hi => simp at hi
  · intro v w' hT hall
    have hX : Lst w' w1.heap.size (v 12) X := hall 12 (of_decide_eq_true (by kernel_rfl))
    have hY : Lst w' w1.heap.size (v 13) Y := hall 13 (of_decide_eq_true (by kernel_rfl))
    have hZ : Lst w' w1.heap.size (v 14) Z := hall 14 (of_decide_eq_true (by kernel_rfl))
    clear hall
    obtain ⟨aX, cX, eX, vX⟩ := hX.view
    obtain ⟨aY, cY, eY, vY⟩ := hY.view
    obtain ⟨aZ, cZ, eZ, vZ⟩ := hZ.view
    have VX : Hid (∀ k : Nat, k < X.length → ∃ g cur, aX = some ⟨g, 0, none⟩ ∧ Blk w' g 3 cur ∧ cur[k]? = some (I (X.getD k 0))) := vX
    have VY : Hid (∀ k : Nat, k < Y.length → ∃ g cur, aY = some ⟨g, 0, none⟩ ∧ Blk w' g 3 cur ∧ cur[k]? = some (I (Y.getD k 0))) := vY
    have VZ : Hid (∀ k : Nat, k < Z.length → ∃ g cur, aZ = some ⟨g, 0, none⟩ ∧ Blk w' g 3 cur ∧ cur[k]? = some (I (Z.getD k 0))) := vZ
    clear hX hY hZ vX vY vZ KX KY KZ
    have q0 := q0.later hT
    have q1 := q1.later hT
    have hB1 := then_below hB1 hT
    clear hT
    simp only [List.length_cons, List.length_nil, Nat.zero_add, Nat.reduceAdd, List.range, List.range.loop, List.foldl_cons, List.foldl_nil, dstOf, List.getElem?_cons_zero, List.getElem?_cons_succ, Option.getD_some, Act.put, eX, eY, eZ]
    obtain ⟨⟨k0, k1, k2⟩, ⟨k3, k4, k5⟩, hz1⟩ := q1.six (Below.refl _ _)
    clear eX eY eZ
    generalize v 0 = v0
    generalize v 1 = v1
    generalize v 2 = v2
    generalize v 4 = v4
    generalize v 5 = v5
    generalize v 6 = v6
    generalize v 8 = v8
    generalize v 9 = v9
    generalize v 10 = v10
    generalize v 3 = v3
    generalize v 7 = v7
    generalize v 11 = v11
    clear v
    go_wp2_with fail
    refine (KM.out _).mono ?_
    rintro e w2 ⟨rfl, hT2⟩
    clear k0 k1 k2 k3 k4 k5 hz1
    go_wp2_with (at_make; refine wpList_mk (base := w'.heap.size) rfl _ _ rfl M rfl rfl hmb0 (by omega) hT2.size ?_; intro vL w3 hL3 hT3)
    have hT3 := hT2.trans hT3
    clear hT2
    go_loopw [10, 43] (fun v i wr => ∃ (I' : Nat) (L : List Int), I' ≤ Z.length ∧ i = .int .i64 I' ∧ Lst wr w'.heap.size v L ∧ eqO d0 d1 X Y Z T L I' ∧ Below w'.heap.size w' wr) (fun _ i _ => Z.length - (RowKit.intOf i).toNat)
    case atStart => exact ⟨0, [], by omega, rfl, hL3, HT.out, hT3⟩
    case round =>
      clear hL3 hT3
      obtain ⟨i, L, hi, rfl, hL, hE, hT⟩ := hrel
      by_cases hlt : (i : Int) < (Z.length : Int)
      · obtain ⟨g, cur, rfl, hg, hc⟩ := VZ.out i (by omega)
        have c0 := (hg.later hT).cell i
        rw [hc] at c0
        clear hg hc
        have EM := eqO_in (by omega) hE
        have RZ : Hid (0 ≤ Z.getD i 0 ∧ Z.getD i 0 < d2) := HZ.out i (by omega)
        clear hE
        obtain ⟨z, hz⟩ : ∃ z, z = Z.getD i 0 := ⟨_, rfl⟩
        rw [← hz] at c0 RZ
        have HZz : Hid (z = Z.getD i 0) := hz
        clear hz
        go_wp2
        go_loopw [10, 49] (fun v j wr => ∃ (J : Nat) (L : List Int), J ≤ Y.length ∧ j = .int .i64 J ∧ Lst wr w'.heap.size v L ∧ eqM d0 d1 X Y Z T L i J ∧ Below w'.heap.size w' wr) (fun _ j _ => Y.length - (RowKit.intOf j).toNat)
        case atStart => exact ⟨0, L, by omega, rfl, hL, EM, hT⟩
        case round =>
          clear hL hT EM c0
          obtain ⟨j, L, hj, rfl, hL, hE, hT⟩ := hrel
          by_cases hlt : (j : Int) < (Y.length : Int)
          · obtain ⟨g', cur', rfl, hg', hc'⟩ := VY.out j (by omega)
            have c0 := (hg'.later hT).cell j
            rw [hc'] at c0
            clear hg' hc'
            have EI := eqM_in (by omega) hE
            have RY : Hid (0 ≤ Y.getD j 0 ∧ Y.getD j 0 < d1) := HY.out j (by omega)
            clear hE
            obtain ⟨y, hy⟩ : ∃ y, y = Y.getD j 0 := ⟨_, rfl⟩
            rw [← hy] at c0 RY
            have HYy : Hid (y = Y.getD j 0) := hy
            clear hy
            go_wp2
            go_loopw [10, 55] (fun v k wr => ∃ (K : Nat) (L : List Int), K ≤ X.length ∧ k = .int .i64 K ∧ Lst wr w'.heap.size v L ∧ eqI d0 d1 X Y Z T L i j K ∧ Below w'.heap.size w' wr) (fun _ k _ => X.length - (RowKit.intOf k).toNat)
            case atStart => exact ⟨0, L, by omega, rfl, hL, EI, hT⟩
            case round =>
              clear hL hT EI c0
              obtain ⟨k, L, hk, rfl, hL, hE, hT⟩ := hrel
              by_cases hlt : (k : Int) < (X.length : Int)
              · obtain ⟨g'', cur'', rfl, hg'', hc''⟩ := VX.out k (by omega)
                have c0 := (hg''.later hT).cell k
                rw [hc''] at c0
                clear hg'' hc''
                obtain ⟨d0', d1', d2', hz⟩ := q0.three hT
                have RX : Hid (0 ≤ X.getD k 0 ∧ X.getD k 0 < d0) := HX.out k (by omega)
                have hll : L.length ≤ 100000 := by have := eqI_len hE; omega
                have EI := eqI_step (by omega) hE
                rw [← HYy.out, ← HZz.out] at EI
                clear hE
                generalize X.getD k 0 = x at c0 RX EI
                have KA : Hid (∀ w : World, Calls Try.prog 48 #[A3 d0 d1 d2, A3 x y z] w fun e W' => e = .returned (.tuple #[I (numD d0 d1 x y z), I 0]) ∧ Below w.heap.size w W') := fun w => at_yes w HM.out ⟨RX.out, RY.out, RZ.out⟩
                generalize numD d0 d1 x y z = N at KA EI
                go_wp2_with fail
                refine (KA.out _).mono ?_
                rintro e w4 ⟨rfl, hB4⟩
                have hL := hL.later hB4
                have hT := then_below hT hB4
                clear hB4 c0 d0' d1' d2' hz
                go_wp2_with (at_builtin; refine wpList_app rfl _ _ rfl rfl rfl hL hll hT.size ?_; intro v' w5 hL5 hT5)
                have hT := hT.trans hT5
                clear hT5 hL
                go_roundw
                case rel => exact ⟨k + 1, _, by omega, by go_num, hL5, EI, hT⟩
                case measure => simp [RowKit.intOf]; omega
              · have EO := eqI_out (by omega) hE
                clear hE
                go_wp2
                go_roundw
                case rel => exact ⟨j + 1, L, by omega, by go_num, hL, EO, hT⟩
                case measure => simp [RowKit.intOf]; omega
          · have EO := eqM_out (by omega) hE
            clear hE
            go_wp2
            go_roundw
            case rel => exact ⟨i + 1, L, by omega, by go_num, hL, EO, hT⟩
            case measure => simp [RowKit.intOf]; omega
      · have E := eqO_out (by omega) hE
        subst E
        have hL' := hL.weak hB1.size
        clear hL hE
        go_wp2
        go_ret2
        exact ⟨_, rfl, hL', then_below hB1 hT⟩

end Go.Proofs.Ytjmfdpilmljppaa

/-
  Sets of numbers, 64 to a word, as plain arithmetic: which numbers a row of words has, and that they tell it.
-/
namespace Go.Proofs.Ytjmfdpilmljppaa

/-- The number k is in the set of these words. -/
def hasW (ws : List Nat) (k : Nat) : Bool := (ws.getD (k / 64) 0).testBit (k % 64)
/-- A set below n may be: as many words as are needed, each a word, no bit at n or beyond. -/
structure MayW (n : Nat) (ws : List Nat) : Prop where
  len : ws.length = (n + 63) / 64
  word : ∀ w ∈ ws, w < 2 ^ 64
  none : ∀ k, n ≤ k → hasW ws k = false

theorem hasW_at (ws : List Nat) (i j : Nat) (hj : j < 64) : hasW ws (64 * i + j) = (ws.getD i 0).testBit j := by
  unfold hasW
  rw [show (64 * i + j) / 64 = i by omega, show (64 * i + j) % 64 = j by omega]
theorem word_ext {a b : Nat} (ha : a < 2 ^ 64) (hb : b < 2 ^ 64) (h : ∀ j, j < 64 → a.testBit j = b.testBit j) : a = b := by
  apply Nat.eq_of_testBit_eq
  intro j
  by_cases hj : j < 64
  · exact h j hj
  · rw [Nat.testBit_lt_two_pow (Nat.lt_of_lt_of_le ha (Nat.pow_le_pow_right (by omega) (by omega))), Nat.testBit_lt_two_pow (Nat.lt_of_lt_of_le hb (Nat.pow_le_pow_right (by omega) (by omega)))]
/-- A set is told by its numbers. -/
theorem set_ext {n : Nat} {a b : List Nat} (ha : MayW n a) (hb : MayW n b) (h : ∀ k, k < n → hasW a k = hasW b k) : a = b := by
  apply List.ext_getElem
  · rw [ha.len, hb.len]
  · intro i h1 h2
    refine word_ext (ha.word _ (List.getElem_mem h1)) (hb.word _ (List.getElem_mem h2)) fun j hj => ?_
    have e : hasW a (64 * i + j) = hasW b (64 * i + j) := by
      by_cases hk : 64 * i + j < n
      · exact h _ hk
      · rw [ha.none _ (by omega), hb.none _ (by omega)]
    rw [hasW_at _ _ _ hj, hasW_at _ _ _ hj] at e
    simpa [h1, h2] using e

/-- The numbers of a set below k, rising. -/
def listTo (ws : List Nat) (k : Nat) : List Nat := (List.range k).filter fun m => hasW ws m
theorem listTo_mem {ws : List Nat} {k m : Nat} : m ∈ listTo ws k ↔ m < k ∧ hasW ws m = true := by simp [listTo, List.mem_filter, List.mem_range]
theorem listTo_yes {ws : List Nat} {k : Nat} (h : hasW ws k = true) : listTo ws (k + 1) = listTo ws k ++ [k] := by simp [listTo, List.range_succ, List.filter_append, h]
theorem listTo_no {ws : List Nat} {k : Nat} (h : hasW ws k = false) : listTo ws (k + 1) = listTo ws k := by simp [listTo, List.range_succ, List.filter_append, h]
theorem listTo_rise (ws : List Nat) (k : Nat) : (listTo ws k).Pairwise (· < ·) := List.Pairwise.filter _ List.pairwise_lt_range
theorem listTo_len (ws : List Nat) (k : Nat) : (listTo ws k).length ≤ k := by
  have := List.length_filter_le (fun m => hasW ws m) (List.range k)
  simpa [listTo] using this
/-- Beyond the bound there is nothing to list. -/
theorem listTo_past {n : Nat} {ws : List Nat} (h : MayW n ws) : ∀ j, listTo ws (n + j) = listTo ws n
  | 0 => rfl
  | j + 1 => by rw [← Nat.add_assoc, listTo_no (h.none _ (by omega)), listTo_past h j]
/-- What is in both and what is in either are together as many as both have. -/
theorem count_both {a b x y : List Nat} (hx : ∀ k, hasW x k = (hasW a k && hasW b k)) (hy : ∀ k, hasW y k = (hasW a k || hasW b k)) : ∀ k, (listTo x k).length + (listTo y k).length = (listTo a k).length + (listTo b k).length
  | 0 => rfl
  | k + 1 => by
    have ih := count_both hx hy k
    have h1 := hx k
    have h2 := hy k
    cases ha : hasW a k <;> cases hb : hasW b k <;> rw [ha, hb] at h1 h2 <;> simp only [Bool.and_self, Bool.or_self, Bool.and_true, Bool.and_false, Bool.or_true, Bool.or_false] at h1 h2 <;>
      simp only [listTo, List.range_succ, List.filter_append, List.length_append, List.filter_cons, List.filter_nil, h1, h2, ha, hb] at ih ⊢ <;> simp <;> omega

/-- Words joined bit by bit. -/
theorem hasW_zip {f : Nat → Nat → Nat} {g : Bool → Bool → Bool} (hf : ∀ x y j, j < 64 → (f x y).testBit j = g (x.testBit j) (y.testBit j)) (h0 : g false false = false) {a b : List Nat} (hl : a.length = b.length) (k : Nat) : hasW (List.zipWith f a b) k = g (hasW a k) (hasW b k) := by
  unfold hasW
  simp only [List.getD_eq_getElem?_getD, List.getElem?_zipWith]
  by_cases hi : k / 64 < a.length
  · have hi' : k / 64 < b.length := by omega
    rw [List.getElem?_eq_getElem hi, List.getElem?_eq_getElem hi']
    exact hf _ _ _ (Nat.mod_lt k (by omega))
  · rw [List.getElem?_eq_none (Nat.not_lt.1 hi), List.getElem?_eq_none (by omega : b.length ≤ k / 64)]
    simp [h0]

end Go.Proofs.Ytjmfdpilmljppaa

/-
  Rows of words and of whole numbers, wherever in memory they lie: what a walk asks of a slice that it reads.
-/
namespace Go.Proofs.Ytjmfdpilmljppaa
open Go Go.RowKit Go.Shelf

abbrev U (x : Nat) : Value := .int .u64 (x : Int)

/-- The slice v reads as the values vs. -/
def Sl (W : World) (v : Value) (vs : List Value) : Prop :=
  ∃ ao cap, v = .slice ao vs.length cap ∧ ∀ k, k < vs.length → ∃ g off, ao = some ⟨g, off, none⟩ ∧ g < W.heap.size ∧ W.cell? ⟨g, off + k, none⟩ = vs[k]?
theorem Sl.later {W W' : World} {v : Value} {vs : List Value} (h : Sl W v vs) (hb : Below W.heap.size W W') : Sl W' v vs := by
  obtain ⟨ao, cap, e, h⟩ := h
  refine ⟨ao, cap, e, fun k hk => ?_⟩
  obtain ⟨g, off, e, hg, hc⟩ := h k hk
  exact ⟨g, off, e, Nat.lt_of_lt_of_le hg hb.size, (hb.cell (p := ⟨g, off + k, none⟩) hg).trans hc⟩
theorem Sl.nil (W : World) : Sl W (.slice none 0 0) [] := ⟨none, 0, rfl, fun k hk => by simp at hk⟩
theorem Sl.blk {W : World} {g : Nat} {t : TypeId} {vs : List Value} (h : Blk W g t vs.toArray) (cap : Nat) : Sl W (.slice (some ⟨g, 0, none⟩) vs.length cap) vs :=
  ⟨_, _, rfl, fun k hk => ⟨g, 0, rfl, h.lt, by rw [Nat.zero_add, h.cell k]; simp⟩⟩

/-- A row of words; a row of whole numbers. -/
def Wds (W : World) (v : Value) (ws : List Nat) : Prop := (∀ x ∈ ws, x < 18446744073709551616) ∧ Sl W v (ws.map U)
def Its (W : World) (v : Value) (xs : List Int) : Prop := Sl W v (xs.map I)
theorem Wds.later {W W' : World} {v : Value} {ws : List Nat} (h : Wds W v ws) (hb : Below W.heap.size W W') : Wds W' v ws := ⟨h.1, h.2.later hb⟩
theorem Its.later {W W' : World} {v : Value} {xs : List Int} (h : Its W v xs) (hb : Below W.heap.size W W') : Its W' v xs := Sl.later h hb
theorem Wds.nil (W : World) : Wds W (.slice none 0 0) [] := ⟨fun _ h => (by cases h), Sl.nil W⟩
theorem Its.nil (W : World) : Its W (.slice none 0 0) [] := Sl.nil W
theorem Wds.view {W : World} {v : Value} {ws : List Nat} (h : Wds W v ws) :
    ∃ ao cap, v = .slice ao ws.length cap ∧ ∀ k, k < ws.length → ∃ g off, ao = some ⟨g, off, none⟩ ∧ g < W.heap.size ∧ W.cell? ⟨g, off + k, none⟩ = some (U (ws.getD k 0)) := by
  obtain ⟨_, ao, cap, e, h⟩ := h
  refine ⟨ao, cap, by simpa using e, fun k hk => ?_⟩
  obtain ⟨g, off, e, hg, hc⟩ := h k (by simpa using hk)
  exact ⟨g, off, e, hg, by rw [hc]; simp [hk]⟩
theorem Its.view {W : World} {v : Value} {xs : List Int} (h : Its W v xs) :
    ∃ ao cap, v = .slice ao xs.length cap ∧ ∀ k, k < xs.length → ∃ g off, ao = some ⟨g, off, none⟩ ∧ g < W.heap.size ∧ W.cell? ⟨g, off + k, none⟩ = some (I (xs.getD k 0)) := by
  obtain ⟨ao, cap, e, h⟩ := h
  refine ⟨ao, cap, by simpa using e, fun k hk => ?_⟩
  obtain ⟨g, off, e, hg, hc⟩ := h k (by simpa using hk)
  exact ⟨g, off, e, hg, by rw [hc]; simp [hk]⟩
theorem Wds.word {W : World} {v : Value} {ws : List Nat} (h : Wds W v ws) (k : Nat) : ws.getD k 0 < 18446744073709551616 := by
  by_cases hk : k < ws.length
  · have := h.1 (ws[k]) (List.getElem_mem hk)
    simpa [hk] using this
  · simp [Nat.not_lt.1 hk]

/-- One bit of a word, as the program asks for it. -/
theorem bit_of (x j : Nat) (hx : x < 18446744073709551616) : (bits .and .u64 ((x : Int) / 2 ^ j) 1 == 1) = x.testBit j := by
  have e : (x : Int) / 2 ^ j = ((x / 2 ^ j : Nat) : Int) := by norm_cast
  rw [e, show (1 : Int) = ((1 : Nat) : Int) from rfl, u64_and_nat _ _ (Nat.lt_of_le_of_lt (Nat.div_le_self _ _) hx) (by decide), Nat.and_one_is_mod]
  rw [Nat.testBit_eq_decide_div_mod_eq]
  have : x / 2 ^ j % 2 = 0 ∨ x / 2 ^ j % 2 = 1 := by omega
  rcases this with h | h <;> rw [h] <;> rfl

theorem hasW_out {ws : List Nat} {k : Nat} (h : ws.length ≤ k / 64) : hasW ws k = false := by
  unfold hasW
  simp [h]
theorem hasW_past {ws : List Nat} {k : Nat} (h : 64 * ws.length ≤ k) : hasW ws k = false := hasW_out (by omega)

/-- A set below n may be. -/
def maySet (n : Nat) (ws : List Nat) : Bool := decide (ws.length = (n + 63) / 64) && (List.range (64 * ws.length)).all fun k => decide (k < n) || !hasW ws k
theorem mayS_iff {n : Nat} {ws : List Nat} : maySet n ws = true ↔ ws.length = (n + 63) / 64 ∧ ∀ k, n ≤ k → hasW ws k = false := by
  unfold maySet
  rw [Bool.and_eq_true, decide_eq_true_eq, List.all_eq_true]
  constructor
  · rintro ⟨h1, h2⟩
    refine ⟨h1, fun k hk => ?_⟩
    by_cases hl : k < 64 * ws.length
    · have := h2 k (List.mem_range.2 hl)
      simpa [Nat.not_lt.2 hk] using this
    · exact hasW_past (by omega)
  · rintro ⟨h1, h2⟩
    refine ⟨h1, fun k _ => ?_⟩
    by_cases hk : k < n
    · simp [hk]
    · simp [h2 k (by omega)]
theorem mayS_len {n : Nat} {ws : List Nat} (h : ws.length ≠ (n + 63) / 64) : maySet n ws = false := by simp [maySet, h]
theorem mayS_no {n k : Nat} {ws : List Nat} (hk : n ≤ k) (h : hasW ws k = true) : maySet n ws = false := by
  cases e : maySet n ws
  · rfl
  · rw [(mayS_iff.1 e).2 k hk] at h; cases h
theorem mayS_full {n : Nat} {ws : List Nat} (hl : ws.length = (n + 63) / 64) (h0 : n % 64 = 0) : maySet n ws = true :=
  mayS_iff.2 ⟨hl, fun k hk => hasW_past (by omega)⟩
theorem mayS_last {n : Nat} {ws : List Nat} (hx : ws.getD (ws.length - 1) 0 < 18446744073709551616) (hn : 1 ≤ n) (hl : ws.length = (n + 63) / 64) (h0 : n % 64 ≠ 0) : maySet n ws = ((ws.getD (ws.length - 1) 0 : Int) / 2 ^ (n % 64) == 0) := by
  have e : ((ws.getD (ws.length - 1) 0 : Nat) : Int) / 2 ^ (n % 64) = ((ws.getD (ws.length - 1) 0 / 2 ^ (n % 64) : Nat) : Int) := by norm_cast
  rw [e, Bool.eq_iff_iff, mayS_iff]
  simp only [beq_iff_eq]
  have hp : 0 < 2 ^ (n % 64) := Nat.two_pow_pos _
  constructor
  · rintro ⟨_, h⟩
    have : ws.getD (ws.length - 1) 0 < 2 ^ (n % 64) := by
      apply Nat.lt_pow_two_of_testBit
      intro i hi
      by_cases h64 : i < 64
      · have := h (64 * (ws.length - 1) + i) (by omega)
        rwa [hasW_at _ _ _ h64] at this
      · exact Nat.testBit_lt_two_pow (Nat.lt_of_lt_of_le hx (Nat.pow_le_pow_right (n := 2) (i := 64) (by omega) (by omega)))
    rw [Nat.div_eq_of_lt this]; rfl
  · intro h
    have h : ws.getD (ws.length - 1) 0 / 2 ^ (n % 64) = 0 := by exact_mod_cast h
    refine ⟨hl, fun k hk => ?_⟩
    by_cases hk2 : k < 64 * ws.length
    · have : k = 64 * (ws.length - 1) + k % 64 := by omega
      rw [this, hasW_at _ _ _ (Nat.mod_lt k (by omega))]
      have hlt : ws.getD (ws.length - 1) 0 < 2 ^ (n % 64) := by
        rcases Nat.div_eq_zero_iff.1 h with h' | h'
        · omega
        · exact h'
      exact Nat.testBit_lt_two_pow (Nat.lt_of_lt_of_le hlt (Nat.pow_le_pow_right (by omega) (by omega)))
    · exact hasW_past (by omega)

/-- The error of some sets below n. -/
def okN (n : Int) : Bool := decide (1 ≤ n ∧ n ≤ 12288)
def errAll (n : Int) (wss : List (List Nat)) : Int := if okN n then (if wss.all (maySet n.toNat) then 0 else 8) else 2
theorem errAll_bad {n : Int} (h : ¬ (1 ≤ n ∧ n ≤ 12288)) (wss : List (List Nat)) : errAll n wss = 2 := by simp [errAll, okN, h]
theorem errAll_not {n : Nat} {wss : List (List Nat)} (h : 1 ≤ n ∧ n ≤ 12288) {k : Nat} (hk : k < wss.length) (hm : maySet n (wss.getD k []) = false) : errAll n wss = 8 := by
  have e : okN (n : Int) = true := by simp [okN]; omega
  unfold errAll
  rw [if_pos e, if_neg]
  intro ha
  have := List.all_eq_true.1 ha (wss[k]) (List.getElem_mem hk)
  simp [hk] at hm
  simp [hm] at this
theorem errAll_ok {n : Nat} {wss : List (List Nat)} (h : 1 ≤ n ∧ n ≤ 12288) (hm : ∀ k, k < wss.length → maySet n (wss.getD k []) = true) : errAll n wss = 0 := by
  have e : okN (n : Int) = true := by simp [okN]; omega
  unfold errAll
  rw [if_pos e, if_pos]
  apply List.all_eq_true.2
  intro x hx
  obtain ⟨k, hk, rfl⟩ := List.mem_iff_getElem.1 hx
  have := hm k hk
  simpa [hk] using this

end Go.Proofs.Ytjmfdpilmljppaa
