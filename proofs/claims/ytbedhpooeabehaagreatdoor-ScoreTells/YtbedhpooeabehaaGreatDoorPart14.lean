/-
  A statement whose order the language leaves open and whose callees make memory: each operation keeps a word of its own, which lasts in every later world; so, in whatever order, at the end all words hold.
-/
import Derived.Test.YtbedhpooeabehaaGreatDoorPart4
import Derived.Test.YtbedhpooeabehaaGreatDoorPart10
import Derived.Test.YtbedhpooeabehaaGreatDoorPart13
import Derived.Test.YtbedhpooeabehaaGreatDoorPart12
import Derived.Test.YtbedhpooeabehaaGreatDoorPart7
namespace Go.Proofs.YtbedhpooeabehaaGreatDoor
open Go Go.RowKit Go.Shelf

section
variable {F : Fence} {n : Nat} {P : Program}

/-- How many are not listed yet. -/
theorem count_set : ∀ (l : List Bool) (i : Nat), l[i]? = some false → (l.set i true).count false + 1 = l.count false
  | [], _, h => by simp at h
  | b :: l, 0, h => by simp at h; subst h; simp
  | b :: l, i + 1, h => by
    simp at h
    have := count_set l i h
    simp [List.count_cons]
    omega

def dstOf (l : List Oper) (i : Nat) : Nat := match l[i]? with | some o => o.dst.getD 0 | none => 0
/-- Each operation writes a slot of its own, below number m; none is guarded; none defers. -/
def soloB (l : List Oper) (m : Nat) : Bool := (l.all fun o => o.guard.isNone && o.dst.isSome) && ((List.range l.length).all fun i => decide (dstOf l i < m) && (List.range l.length).all fun j => i == j || dstOf l i != dstOf l j) && noDefer l.toArray && beginB l l.length

/-- The frame a holds, outside the slots that the region writes, what a0 does. -/
structure Like (l : List Oper) (a0 a : Act) : Prop where
  size : a.tmps.size = a0.tmps.size
  defers : a.defers = a0.defers
  out : ∀ t, (∀ i, i < l.length → dstOf l i ≠ t) → a.tmps[t]? = a0.tmps[t]?

abbrev slot (l : List Oper) (a : Act) (i : Nat) : Value := a.tmps.getD (dstOf l i) undef

/-- What an operation comes to: a value, or a call. -/
def Comes (P : Program) (o : Oper) (a : Act) (w : World) (R : Value → World → Prop) : Prop :=
  (∃ v, (execOp a.eval o).run P w = .ok (.value v) w ∧ R v w) ∨ (∃ f args, (execOp a.eval o).run P w = .ok (.enter f args) w ∧ Calls P f args w fun e w' => ∃ v, e = .returned v ∧ Below w.heap.size w w' ∧ R v w')

theorem put_at {a : Act} {d : Nat} {v : Value} (h : d < a.tmps.size) : (a.put (some d) v).tmps.getD d undef = v := by
  simp [Act.put, Array.getD, h]
theorem put_ne {a : Act} {d t : Nat} {v : Value} (h : d ≠ t) : (a.put (some d) v).tmps[t]? = a.tmps[t]? := by
  simp [Act.put, Array.getElem?_setIfInBounds_ne h]
theorem getD_ne {a : Act} {d t : Nat} {v : Value} (h : d ≠ t) : (a.put (some d) v).tmps.getD t undef = a.tmps.getD t undef := by
  rw [Array.getD_eq_getD_getElem?, Array.getD_eq_getD_getElem?, put_ne h]

theorem solo_at {l : List Oper} {m i : Nat} {o : Oper} (h : soloB l m = true) (hi : l[i]? = some o) : o.guard = none ∧ o.dst = some (dstOf l i) ∧ dstOf l i < m ∧ ∀ j, j < l.length → j ≠ i → dstOf l i ≠ dstOf l j := by
  simp only [soloB, Bool.and_eq_true] at h
  obtain ⟨⟨⟨h1, h2⟩, _⟩, _⟩ := h
  obtain ⟨hlt, he⟩ := List.getElem?_eq_some_iff.1 hi
  have k1 := List.all_eq_true.1 h1 o (he ▸ List.getElem_mem hlt)
  simp only [Bool.and_eq_true, Option.isNone_iff_eq_none] at k1
  have k2 := List.all_eq_true.1 h2 i (List.mem_range.2 hlt)
  simp only [Bool.and_eq_true, decide_eq_true_eq] at k2
  refine ⟨k1.1, ?_, k2.1, fun j hj hne => ?_⟩
  · obtain ⟨d, hd⟩ := Option.isSome_iff_exists.1 k1.2
    simp [dstOf, hi, hd]
  · have := List.all_eq_true.1 k2.2 j (List.mem_range.2 hj)
    simp only [Bool.or_eq_true, beq_iff_eq, bne_iff_ne] at this
    rcases this with e | e
    · exact absurd e.symm hne
    · exact e

variable {l : List Oper} {a0 : Act} {w0 : World} {Q : Exit → Act → World → Prop} {S : Nat → Value → World → Prop}

theorem any_loud (hF : Loose F P) (hB : soloB l a0.tmps.size = true)
    (hS : ∀ i v w w', S i v w → Below w.heap.size w w' → S i v w')
    (hop : ∀ (i : Nat) (o : Oper), l[i]? = some o → ∀ (a : Act) (w : World), Below w0.heap.size w0 w → Like l a0 a → (∀ e ∈ o.after, Region.binds .any e = true → S e.on (slot l a e.on) w) → Comes P o a w (S i))
    (hend : ∀ (a : Act) (w : World), Below w0.heap.size w0 w → Like l a0 a → (∀ i, i < l.length → S i (slot l a i) w) → Q .normal a w) :
    ∀ (f : Nat) (L : Array Bool) (a : Act) (w : World), L.size = l.length → L.toList.count false ≤ f → Below w0.heap.size w0 w → Like l a0 a → (∀ i, L.getD i false = true → S i (slot l a i) w) → wpAnyIn F n P .any l.toArray Q f L a w := by
  have hbeg : beginB l l.length = true := (Bool.and_eq_true_iff.1 hB).2
  have hnd : noDefer l.toArray = true := (Bool.and_eq_true_iff.1 (Bool.and_eq_true_iff.1 hB).1).2
  have htake : l.take l.length = l := List.take_length
  have fin : ∀ (L : Array Bool) (a : Act) (w : World), L.size = l.length → Region.ready .any l.toArray L = [] → Below w0.heap.size w0 w → Like l a0 a → (∀ i, L.getD i false = true → S i (slot l a i) w) → Q .normal a w := by
    intro L a w hs hr hT hL hA
    have hfull := full_of_none (l := l) (m := l.length) hbeg hs (by rw [htake]; exact hr)
    refine hend a w hT hL fun i hi => hA i ?_
    rw [hfull]
    simp [Array.getD, hi]
  intro f
  induction f with
  | zero =>
    intro L a w hs hc hT hL hA
    have hall : Region.ready .any l.toArray L = [] := by
      apply List.eq_nil_iff_forall_not_mem.2
      intro i hi
      obtain ⟨h1, _⟩ := mem_ready.1 hi
      have h0 : L.toList.count false = 0 := by omega
      rw [List.count_eq_zero] at h0
      refine h0 ?_
      by_cases hlt : i < L.size
      · rw [Array.getD, dif_pos hlt] at h1
        rw [← h1]
        exact Array.getElem_mem_toList hlt
      · rw [Array.getD, dif_neg hlt] at h1; cases h1
    exact ⟨hall, fin L a w hs hall hT hL hA⟩
  | succ f ih =>
    intro L a w hs hc hT hL hA
    refine ⟨fun hr => fin L a w hs hr hT hL hA, fun i hi => ?_⟩
    obtain ⟨h1, o, ho, hall⟩ := mem_ready.1 hi
    have hol : l[i]? = some o := by simpa using ho
    have hil : i < l.length := (List.getElem?_eq_some_iff.1 hol).1
    obtain ⟨hg, hd, hlt, hne⟩ := solo_at hB hol
    have hcome := hop i o hol a w hT hL (fun e he hb => hA e.on (hall e he hb))
    have hnot : L.toList[i]? = some false := by
      have hlt' : i < L.size := by omega
      rw [Array.getD, dif_pos hlt'] at h1
      rw [Array.getElem?_toList, Array.getElem?_eq_getElem hlt']
      exact congrArg some h1
    have hnext : ∀ (v : Value) (w' : World), Below w.heap.size w w' → S i v w' → wpAnyIn F n P .any l.toArray Q f (L.setIfInBounds i true) (a.put o.dst v) w' := by
      intro v w' hB' hv
      rw [hd]
      refine ih _ _ w' (by simpa using hs) ?_ (then_below hT hB') ⟨?_, ?_, ?_⟩ ?_
      · have := count_set L.toList i hnot
        rw [Array.toList_setIfInBounds]
        omega
      · simp [Act.put]; exact hL.size
      · simp [Act.put]; exact hL.defers
      · intro t ht
        rw [put_ne (ht i hil)]
        exact hL.out t ht
      · intro j hj
        by_cases hij : j = i
        · subst hij
          show S j ((a.put (some (dstOf l j)) v).tmps.getD (dstOf l j) undef) w'
          rw [put_at (by rw [hL.size]; exact hlt)]
          exact hv
        · have hjl : L.getD j false = true := by
            rw [Array.getD_eq_getD_getElem?, Array.getElem?_setIfInBounds_ne (Ne.symm hij), ← Array.getD_eq_getD_getElem?] at hj
            exact hj
          have hjlt : j < l.length := by
            rcases Nat.lt_or_ge j L.size with h | h
            · omega
            · rw [Array.getD, dif_neg (by omega)] at hjl; cases hjl
          show S j ((a.put (some (dstOf l i)) v).tmps.getD (dstOf l j) undef) w'
          rw [getD_ne (hne j hjlt hij)]
          exact hS _ _ _ _ (hA j hjl) hB'
    have hfn : ∀ f, o.about P w a.eval = some f → F.fn f := fun f _ => hF.fn f
    simp only [wpOpIn, ho, Region.wanted, hg, if_true]
    refine ⟨hfn, ?_⟩
    rw [Oper.semAt_eq _ _ _ (noDefer_spec hnd ho)]
    rcases hcome with ⟨v, e, hv⟩ | ⟨g, args, e, hc'⟩
    · rw [e]; exact hnext v w (Below.refl _ _) hv
    · rw [e]
      refine ⟨fun hx => (hF.depth hx).elim, hF.calls _ _ _ _ _ (hc'.mono ?_)⟩
      rintro x w' ⟨v, rfl, hB', hv⟩
      exact hnext v w' hB' hv

/-- All slots of the region, put one behind the other in the text's order. -/
theorem like_puts {a : Act} (hL : Like l a0 a) : a = (List.range l.length).foldl (fun b i => b.put (some (dstOf l i)) (slot l a i)) a0 := by
  have key : ∀ k, k ≤ l.length → ∀ b, b = (List.range k).foldl (fun b i => b.put (some (dstOf l i)) (slot l a i)) a0 → b.tmps.size = a0.tmps.size ∧ b.defers = a0.defers ∧ ∀ t, t < a0.tmps.size → b.tmps[t]? = if (∃ i, i < k ∧ dstOf l i = t) then a.tmps[t]? else a0.tmps[t]? := by
    intro k
    induction k with
    | zero => rintro _ b rfl; simp
    | succ k ih =>
      rintro hk b rfl
      obtain ⟨h1, h2, h3⟩ := ih (by omega) _ rfl
      rw [List.range_succ, List.foldl_append]
      simp only [List.foldl_cons, List.foldl_nil]
      generalize (List.range k).foldl (fun b i => b.put (some (dstOf l i)) (slot l a i)) a0 = b at h1 h2 h3
      refine ⟨by simp [Act.put, h1], by simp [Act.put, h2], fun t ht => ?_⟩
      by_cases hd : dstOf l k = t
      · rw [if_pos ⟨k, by omega, hd⟩]
        subst hd
        have hlt : dstOf l k < b.tmps.size := by omega
        have hlt2 : dstOf l k < a.tmps.size := by rw [hL.size]; omega
        simp [Act.put, slot, Array.getD, hlt, hlt2]
      · rw [put_ne hd, h3 t ht]
        by_cases he : ∃ i, i < k ∧ dstOf l i = t
        · obtain ⟨i, hi, hit⟩ := he
          rw [if_pos ⟨i, hi, hit⟩, if_pos ⟨i, by omega, hit⟩]
        · rw [if_neg he, if_neg]
          rintro ⟨i, hi, hit⟩
          rcases Nat.lt_succ_iff_lt_or_eq.1 hi with h | rfl
          · exact he ⟨i, h, hit⟩
          · exact hd hit
  obtain ⟨h1, h2, h3⟩ := key l.length (Nat.le_refl _) _ rfl
  generalize (List.range l.length).foldl (fun b i => b.put (some (dstOf l i)) (slot l a i)) a0 = b at h1 h2 h3
  have ht : a.tmps = b.tmps := by
    apply Array.ext_getElem?
    intro t
    by_cases hlt : t < a0.tmps.size
    · rw [h3 t hlt]
      by_cases he : ∃ i, i < l.length ∧ dstOf l i = t
      · rw [if_pos he]
      · rw [if_neg he]
        exact hL.out t fun i hi hit => he ⟨i, hi, hit⟩
    · rw [Array.getElem?_eq_none (by rw [hL.size]; omega), Array.getElem?_eq_none (by omega)]
  have hd : a.defers = b.defers := by rw [hL.defers, h2]
  cases a; cases b; simp_all

/-- In whatever order: each operation's word holds at the end. -/
theorem wp_region_loud {id : Nat} (S : Nat → Value → World → Prop) (hm : P.follows .mixedOrders = true) (hB : soloB l a0.tmps.size = true)
    (hS : ∀ i v w w', S i v w → Below w.heap.size w w' → S i v w')
    (hop : ∀ (i : Nat) (o : Oper), l[i]? = some o → ∀ (a : Act) (w : World), Below w0.heap.size w0 w → Like l a0 a → (∀ e ∈ o.after, Region.binds .any e = true → S e.on (slot l a e.on) w) → Comes P o a w (S i))
    (hend : ∀ (v : Nat → Value) (w : World), Below w0.heap.size w0 w → (∀ i, i < l.length → S i (v i) w) → Q .normal ((List.range l.length).foldl (fun b i => b.put (some (dstOf l i)) (v i)) a0) w) :
    (Code.region id l.toArray true).wp P Q a0 w0 := by
  refine (wpIn_wide (n := 0)).1 (wpIn_region_any hm ?_)
  refine any_loud (loose_wide P) hB hS hop (fun a w hT hL hA => ?_) _ _ _ _ (by simp) (by simp) ((Below.refl _ w0).drew) ⟨rfl, rfl, fun _ _ => rfl⟩ (fun i hi => ?_)
  · rw [like_puts hL]
    exact hend (slot l a) w hT hA
  · exfalso
    rw [Array.getD_eq_getD_getElem?] at hi
    simp [Array.getElem?_replicate] at hi
    split at hi <;> simp at hi
end
end Go.Proofs.YtbedhpooeabehaaGreatDoor

/-
  wire.Line, wire.Run: the cables of a line, and those that a run takes, rising, in new memory; for every input.
-/
namespace Go.Proofs.YtbedhpooeabehaaGreatDoor
open Go Go.RowKit Go.Shelf

attribute [local go_sem] Oper.semAt_some ext_const

/-- A line that is handed out, wherever its three variables lie. -/
def IsLine (d0 d1 d2 axis m : Int) (v : Value) (w : World) : Prop :=
  ∃ B : Nat, v = .func (.func 87) #[] #[.pointer (some ⟨B, 0, none⟩), .pointer (some ⟨B + 1, 0, none⟩), .pointer (some ⟨B + 1 + 1, 0, none⟩)] ∧
    Blk w B 23 #[I d0, I d1, I d2] ∧ Blk w (B + 1) 3 #[I axis] ∧ Blk w (B + 1 + 1) 3 #[I m]
theorem IsLine.later {d0 d1 d2 axis m : Int} {v : Value} {w w' : World} (h : IsLine d0 d1 d2 axis m v w) (hB : Below w.heap.size w w') : IsLine d0 d1 d2 axis m v w' := by
  obtain ⟨B, e, h0, h1, h2⟩ := h
  exact ⟨B, e, h0.later hB, h1.later hB, h2.later hB⟩

theorem line_is (d0 d1 d2 axis m : Int) (w : World) :
    Calls Tryz.prog 83 #[A3 d0 d1 d2, I axis, I m] w fun e w' => ∃ v, e = .returned v ∧ Below w.heap.size w w' ∧ IsLine d0 d1 d2 axis m v w' := by
  refine (line_calls d0 d1 d2 axis m w).mono ?_
  rintro e w' ⟨rfl, rfl⟩
  refine ⟨_, rfl, (((Below.refl _ w).alloc (Nat.le_refl _) _).alloc (by simp) _).alloc (by simp; omega) _, w.heap.size, rfl, ((Blk.new w _ _).alloc _).alloc _, ?_, ?_⟩
  · have := (Blk.new (w.alloc (.cells #[I d0, I d1, I d2] 23)) 3 #[I axis]).alloc (.cells #[I m] 3)
    simpa using this
  · have := Blk.new ((w.alloc (.cells #[I d0, I d1, I d2] 23)).alloc (.cells #[I axis] 3)) 3 #[I m]
    simpa using this

/-- wire.rising over a line. -/
theorem rising_is {d0 d1 d2 m z : Int} (hm : mayD d0 d1 d2) (hn : 0 ≤ m ∧ m < d0 * d1 * d2) (k : Fin 3) (hz : 0 ≤ z ∧ z ≤ dimAt d0 d1 d2 k) {v : Value} (w : World) (hv : IsLine d0 d1 d2 (axI k) m v w) :
    Calls Tryz.prog 82 #[v, I z] w fun e W' => ∃ u, e = .returned u ∧ Lst W' w.heap.size u (cablesW d0 d1 d2 m k z.toNat) ∧ Below w.heap.size w W' := by
  obtain ⟨B, rfl, h0, h1, h2⟩ := hv
  obtain ⟨mo, rfl⟩ : ∃ mo : Nat, z = (mo : Int) := ⟨z.toNat, by omega⟩
  have hk := dimAt_ok hm k
  unfold okD at hk
  refine (rising_calls hm hn k mo (by omega) B (B + 1) (B + 1 + 1) w h0.lt h1.lt h2.lt h0 h1 h2).mono ?_
  rintro e W' ⟨u, rfl, hL, hB⟩
  rw [sort_out hm hn k (by omega)] at hL
  exact ⟨u, rfl, by rw [Int.toNat_natCast]; exact hL, hB⟩

set_option maxHeartbeats 400000 in
theorem wrun_ref {d0 d1 d2 axis m e : Int} (long : Int) (torus : Bool) (w : World) (h : Refused d0 d1 d2 axis m e) :
    Calls Tryz.prog 72 #[A3 d0 d1 d2, I axis, I m, I long, .bool torus] w fun x W' => x = .returned (.tuple #[.slice none 0 0, I e]) ∧ Below w.heap.size w W' := by
  have he := h.ne
  have H : Hid (Refused d0 d1 d2 axis m e) := h
  clear h
  go_enter Tryz.func72, Tryz.ntmps72
  go_wp2_with fail
  refine (checkl_ref _ H.out).mono ?_
  rintro x w1 ⟨rfl, hB⟩
  go_wp2
  go_ret2
  exact ⟨rfl, then_below ((Below.refl _ w).alloc (Nat.le_refl _) _) hB⟩

/-- What each operation of wire.Line's last statement keeps. -/
def wordL (d0 d1 d2 m axis dim : Int) (Bn off base : Nat) (X : List Int) (i : Nat) (v : Value) (w : World) : Prop :=
  match i with
  | 0 => v = A3 d0 d1 d2
  | 1 => v = I axis
  | 2 => v = I m
  | 3 => IsLine d0 d1 d2 axis m v w
  | 4 => v = I axis
  | 5 => v = .pointer (some ⟨Bn, off, none⟩)
  | 6 => v = I dim
  | 7 => Lst w base v X
  | 8 => Lst w base v X
  | 9 => v = I 0
  | _ => False
theorem wordL_later {d0 d1 d2 m axis dim : Int} {Bn off base : Nat} {X : List Int} (i : Nat) (v : Value) (w w' : World) (h : wordL d0 d1 d2 m axis dim Bn off base X i v w) (hB : Below w.heap.size w w') : wordL d0 d1 d2 m axis dim Bn off base X i v w' := by
  match i, h with
  | 0, h => exact h
  | 1, h => exact h
  | 2, h => exact h
  | 3, h => exact h.later hB
  | 4, h => exact h
  | 5, h => exact h
  | 6, h => exact h
  | 7, h => exact h.later hB
  | 8, h => exact h.later hB
  | 9, h => exact h
  | n + 10, h => exact h.elim

end Go.Proofs.YtbedhpooeabehaaGreatDoor

/-
  wire.Run: the cables that a run takes, rising, in new memory; for every input.
-/
namespace Go.Proofs.YtbedhpooeabehaaGreatDoor
open Go Go.RowKit Go.Shelf

attribute [local go_sem] Oper.semAt_some ext_const

set_option maxHeartbeats 1000000 in
theorem wrun_no {d0 d1 d2 axis m long : Int} (torus : Bool) (w : World) (hm : mayD d0 d1 d2) (hn : 0 ≤ m ∧ m < d0 * d1 * d2) {k : Fin 3} (hk : axis = axI k) (hl : ¬ (1 ≤ long ∧ long ≤ dimAt d0 d1 d2 k)) :
    Calls Tryz.prog 72 #[A3 d0 d1 d2, I axis, I m, I long, .bool torus] w fun x W' => x = .returned (.tuple #[.slice none 0 0, I 2]) ∧ Below w.heap.size w W' := by
  subst hk
  have HC : Hid (∀ w, Calls Tryz.prog 81 #[A3 d0 d1 d2, I (axI k), I m] w fun x W' => x = .returned (I 0) ∧ Below w.heap.size w W') := fun w => checkl_yes w hm hn rfl
  clear hn
  by_cases h1 : long < 1
  · clear hl
    go_enter Tryz.func72, Tryz.ntmps72
    go_wp2_with fail
    refine (HC.out _).mono ?_
    rintro x w1 ⟨rfl, hB⟩
    have hB1 := then_below ((Below.refl _ w).alloc (Nat.le_refl _) (.cells #[I d0, I d1, I d2] 23)) hB
    go_wp2
    go_ret2
    exact ⟨rfl, hB1⟩
  · have h2 : dimAt d0 d1 d2 k < long := by omega
    clear hl
    rcases fin3 k with rfl | rfl | rfl
    all_goals
      simp only [axI, dimAt] at *
      go_enter Tryz.func72, Tryz.ntmps72
      go_wp2_with fail
      refine (HC.out _).mono ?_
      rintro x w1 ⟨rfl, hB⟩
      have hB1 := then_below ((Below.refl _ w).alloc (Nat.le_refl _) (.cells #[I d0, I d1, I d2] 23)) hB
      have g0 := (Blk.new w 23 #[I d0, I d1, I d2]).later hB
      have c0 := g0.cell 0
      have c1 := g0.cell 1
      have c2 := g0.cell 2
      simp at c0 c1 c2
      go_wp2
      go_ret2
      exact ⟨rfl, hB1⟩

/-- From how many midplanes on the cables that a run takes go. -/
def mostW (dim long : Int) (torus : Bool) : Int := if torus = true ∧ 1 < long then dim else long - 1

set_option maxRecDepth 100000 in
set_option maxHeartbeats 4000000 in
theorem wrun_yes {d0 d1 d2 axis m long : Int} (torus : Bool) (w : World) (hm : mayD d0 d1 d2) (hn : 0 ≤ m ∧ m < d0 * d1 * d2) {k : Fin 3} (hk : axis = axI k) (hl : 1 ≤ long ∧ long ≤ dimAt d0 d1 d2 k) :
    Calls Tryz.prog 72 #[A3 d0 d1 d2, I axis, I m, I long, .bool torus] w fun e W' => ∃ v, e = .returned (.tuple #[v, I 0]) ∧ Lst W' w.heap.size v (cablesW d0 d1 d2 m k (mostW (dimAt d0 d1 d2 k) long torus).toNat) ∧ Below w.heap.size w W' := by
  subst hk
  have hok := dimAt_ok hm k
  unfold okD at hok
  have HC : Hid (∀ w, Calls Tryz.prog 81 #[A3 d0 d1 d2, I (axI k), I m] w fun x W' => x = .returned (I 0) ∧ Below w.heap.size w W') := fun w => checkl_yes w hm hn rfl
  have HL : Hid (∀ w, Calls Tryz.prog 83 #[A3 d0 d1 d2, I (axI k), I m] w fun e w' => ∃ v, e = .returned v ∧ Below w.heap.size w w' ∧ IsLine d0 d1 d2 (axI k) m v w') := fun w => line_is d0 d1 d2 (axI k) m w
  have hmb : 0 ≤ mostW (dimAt d0 d1 d2 k) long torus ∧ mostW (dimAt d0 d1 d2 k) long torus ≤ dimAt d0 d1 d2 k := by unfold mostW; split <;> omega
  have HR : Hid (∀ v w, IsLine d0 d1 d2 (axI k) m v w → Calls Tryz.prog 82 #[v, I (mostW (dimAt d0 d1 d2 k) long torus)] w fun e W' => ∃ u, e = .returned u ∧ Lst W' w.heap.size u (cablesW d0 d1 d2 m k (mostW (dimAt d0 d1 d2 k) long torus).toNat) ∧ Below w.heap.size w W') := fun v w hv => rising_is hm hn k hmb w hv
  have hcase : (torus = true ∧ 1 < long ∧ mostW (dimAt d0 d1 d2 k) long torus = dimAt d0 d1 d2 k) ∨ (torus = true ∧ long = 1 ∧ mostW (dimAt d0 d1 d2 k) long torus = 0) ∨ (torus = false ∧ mostW (dimAt d0 d1 d2 k) long torus = long - 1) := by
    unfold mostW
    cases torus
    · exact .inr (.inr ⟨rfl, by simp⟩)
    · by_cases h : 1 < long
      · exact .inl ⟨rfl, h, by simp [h]⟩
      · exact .inr (.inl ⟨rfl, by omega, by simp [h]; omega⟩)
  generalize mostW (dimAt d0 d1 d2 k) long torus = z at *
  generalize cablesW d0 d1 d2 m k z.toNat = X at *
  clear hn hmb
  obtain ⟨hl1, hl2⟩ := hl
  rcases hcase with ⟨rfl, h1, rfl⟩ | ⟨rfl, rfl, rfl⟩ | ⟨rfl, rfl⟩
  all_goals rcases fin3 k with rfl | rfl | rfl
  all_goals
    simp only [axI, dimAt] at *
    go_enter Tryz.func72, Tryz.ntmps72
    go_wp2_with fail
    refine (HC.out _).mono ?_
    rintro x w1 ⟨rfl, hB⟩
    have hB1 := then_below ((Below.refl _ w).alloc (Nat.le_refl _) (.cells #[I d0, I d1, I d2] 23)) hB
    have g0 := (Blk.new w 23 #[I d0, I d1, I d2]).later hB
    have c0 := g0.cell 0
    have c1 := g0.cell 1
    have c2 := g0.cell 2
    simp at c0 c1 c2
    go_wp2_with fail
    refine (HL.out _).mono ?_
    rintro x w2 ⟨v, rfl, hB2, hv⟩
    go_wp2_with fail
    refine (HR.out _ _ hv).mono ?_
    rintro x w3 ⟨u, rfl, hX, hB3⟩
    go_wp2
    go_ret2
    exact ⟨_, rfl, hX.weak (then_below hB1 hB2).size, then_below (then_below hB1 hB2) hB3⟩

end Go.Proofs.YtbedhpooeabehaaGreatDoor

/-
  box.Nodes: a box's midplanes, rising, in new memory.
-/
namespace Go.Proofs.YtbedhpooeabehaaGreatDoor
open Go.RowKit Go.Shelf

attribute [local go_sem] Oper.semAt_some ext_const

set_option maxHeartbeats 1000000 in
theorem bnodes_err {d0 d1 d2 : Int} {b : Bx} (w : World) (he : (errB d0 d1 d2 b != 0) = true) :
    Calls Tryz.prog 48 #[A3 d0 d1 d2, B6 b] w fun e W' => e = .returned (.tuple #[.slice none 0 0, I (errB d0 d1 d2 b)]) ∧ Below w.heap.size w W' := by
  go_enter Tryz.func48, Tryz.ntmps48
  go_wp2_with fail
  obtain ⟨W, hW, hs, hB0, b0, b1, b2⟩ := three_start w #[I d0, I d1, I d2] (C6 b) (C6 b) 23 27 27
  rw [hW]
  clear hW
  refine (chk1 _ _ b2).mono ?_
  rintro e w1 ⟨rfl, hB⟩
  go_wp2
  go_ret2
  exact ⟨rfl, then_below hB0 hB⟩

/-- What each operation of the statement that makes the three lists keeps. -/
def wordN (d0 d1 d2 : Int) (b : Bx) (base : Nat) (X Y Z : List Int) (i : Nat) (v : Value) (w : World) : Prop :=
  match i with
  | 0 => v = A3 d0 d1 d2
  | 1 => v = B6 b
  | 2 => v = A3 d0 b.x b.a
  | 3 => Lst w base v X
  | 4 => v = A3 d0 d1 d2
  | 5 => v = B6 b
  | 6 => v = A3 d1 b.y b.b
  | 7 => Lst w base v Y
  | 8 => v = A3 d0 d1 d2
  | 9 => v = B6 b
  | 10 => v = A3 d2 b.z b.c
  | 11 => Lst w base v Z
  | 12 => Lst w base v X
  | 13 => Lst w base v Y
  | 14 => Lst w base v Z
  | _ => False
theorem wordN_later {d0 d1 d2 : Int} {b : Bx} {base : Nat} {X Y Z : List Int} (i : Nat) (v : Value) (w w' : World) (h : wordN d0 d1 d2 b base X Y Z i v w) (hB : Below w.heap.size w w') : wordN d0 d1 d2 b base X Y Z i v w' := by
  match i, h with
  | 0, h => exact h
  | 1, h => exact h
  | 2, h => exact h
  | 3, h => exact h.later hB
  | 4, h => exact h
  | 5, h => exact h
  | 6, h => exact h
  | 7, h => exact h.later hB
  | 8, h => exact h
  | 9, h => exact h
  | 10, h => exact h
  | 11, h => exact h.later hB
  | 12, h => exact h.later hB
  | 13, h => exact h.later hB
  | 14, h => exact h.later hB
  | n + 15, h => exact h.elim

set_option maxRecDepth 100000 in
set_option maxHeartbeats 4000000 in
theorem bnodes_ok {d0 d1 d2 : Int} {b : Bx} (w : World) (hm : mayD d0 d1 d2) (hb : mayB d0 d1 d2 b) :
    Calls Tryz.prog 48 #[A3 d0 d1 d2, B6 b] w fun e W' => ∃ v, e = .returned (.tuple #[v, I 0]) ∧ Lst W' w.heap.size v (nodesB d0 d1 d2 b) ∧ Below w.heap.size w W' := by
  have H0 : Hid (errB d0 d1 d2 b = 0) := errB_ok hm hb
  have hmx : Tryz.prog.follows .mixedOrders = true := by kernel_rfl
  have HM : Hid (mayD d0 d1 d2) := hm
  have HB : Hid (mayB d0 d1 d2 b) := hb
  have HT : Hid (eqO d0 d1 (coordsS d0 b.x b.a) (coordsS d1 b.y b.b) (coordsS d2 b.z b.c) (nodesB d0 d1 d2 b) [] 0) := nodesB_flat hm
  have hlen : (nodesB d0 d1 d2 b).length ≤ 4096 := nodesB_len hm b
  have hm' := hm
  obtain ⟨⟨g0, g1⟩, ⟨g2, g3⟩, g4, g5⟩ := hm'
  have lX : (coordsS d0 b.x b.a).length ≤ 16 := coordsS_len g1
  have lY : (coordsS d1 b.y b.b).length ≤ 16 := coordsS_len g3
  have lZ : (coordsS d2 b.z b.c).length ≤ 16 := coordsS_len g5
  have HX : Hid (∀ k : Nat, k < (coordsS d0 b.x b.a).length → 0 ≤ (coordsS d0 b.x b.a).getD k 0 ∧ (coordsS d0 b.x b.a).getD k 0 < d0) := fun k hk => coordsS_get (by omega) hk
  have HY : Hid (∀ k : Nat, k < (coordsS d1 b.y b.b).length → 0 ≤ (coordsS d1 b.y b.b).getD k 0 ∧ (coordsS d1 b.y b.b).getD k 0 < d1) := fun k hk => coordsS_get (by omega) hk
  have HZ : Hid (∀ k : Nat, k < (coordsS d2 b.z b.c).length → 0 ≤ (coordsS d2 b.z b.c).getD k 0 ∧ (coordsS d2 b.z b.c).getD k 0 < d2) := fun k hk => coordsS_get (by omega) hk
  have KX : Hid (∀ w : World, Calls Tryz.prog 67 #[A3 d0 b.x b.a] w fun e W' => ∃ v, e = .returned v ∧ Lst W' w.heap.size v (coordsS d0 b.x b.a) ∧ Below w.heap.size w W') := fun w => coords_calls w HM.out.1.2 HB.out.1
  have KY : Hid (∀ w : World, Calls Tryz.prog 67 #[A3 d1 b.y b.b] w fun e W' => ∃ v, e = .returned v ∧ Lst W' w.heap.size v (coordsS d1 b.y b.b) ∧ Below w.heap.size w W') := fun w => coords_calls w HM.out.2.1.2 HB.out.2.1
  have KZ : Hid (∀ w : World, Calls Tryz.prog 67 #[A3 d2 b.z b.c] w fun e W' => ∃ v, e = .returned v ∧ Lst W' w.heap.size v (coordsS d2 b.z b.c) ∧ Below w.heap.size w W') := fun w => coords_calls w HM.out.2.2.2 HB.out.2.2
  obtain ⟨z0, z1, z2⟩ := sizes_bd hm hb
  have KM : Hid (∀ w : World, Calls Tryz.prog 68 #[B6 b] w fun e W' => e = .returned (I (manyB b)) ∧ Below w.heap.size w W') := fun w => bmany_calls w z0 z1 z2
  have hmb : 0 ≤ manyB b ∧ manyB b ≤ 16 * 16 * 16 := by
    have p1 : 0 ≤ b.a * b.b ∧ b.a * b.b ≤ 16 * 16 := mul_bd (by omega) z0.2 (by omega) z1.2
    exact mul_bd p1.1 p1.2 (by omega) z2.2
  obtain ⟨hmb0, hmb1⟩ := hmb
  generalize manyB b = M at KM hmb0 hmb1
  clear z0 z1 z2
  generalize coordsS d0 b.x b.a = X at HT lX HX KX
  generalize coordsS d1 b.y b.b = Y at HT lY HY KY
  generalize coordsS d2 b.z b.c = Z at HT lZ HZ KZ
  generalize nodesB d0 d1 d2 b = T at HT hlen ⊢
  go_enter Tryz.func48, Tryz.ntmps48
  go_wp2_with fail
  obtain ⟨W, hW, hs, hB0, b0, b1, b2⟩ := three_start w #[I d0, I d1, I d2] (C6 b) (C6 b) 23 27 27
  rw [hW]
  clear hW
  refine (chk1 _ _ b2).mono ?_
  rintro e w1 ⟨rfl, hT⟩
  rw [H0.out]
  have q0 := b0.later hT
  have q1 := b1.later hT
  have hB1 := then_below hB0 hT
  clear b0 b1 b2 hT hB0
  go_wp2_with fail
  refine wp_region_loud (w0 := w1) (wordN d0 d1 d2 b w1.heap.size X Y Z) hmx (by kernel_rfl) wordN_later ?_ ?_
  · intro i o hi a w' hT hL hpre
    have t2 : a.tmps.getD 2 undef = .pointer (some ⟨w.heap.size, 0, none⟩) := by
      rw [Array.getD_eq_getD_getElem?, hL.out 2 (of_decide_eq_true (by kernel_rfl))]; rfl
    have t3 : a.tmps.getD 3 undef = .pointer (some ⟨w.heap.size + 1, 0, none⟩) := by
      rw [Array.getD_eq_getD_getElem?, hL.out 3 (of_decide_eq_true (by kernel_rfl))]; rfl
    obtain ⟨c0, c1, c2, hz⟩ := q0.three hT
    obtain ⟨⟨k0, k1, k2⟩, ⟨k3, k4, k5⟩, hz1⟩ := q1.six hT
    clear hL
    match i, hi with
    | 0, hi =>
      obtain rfl := Option.some.inj hi
      refine .inl ⟨A3 d0 d1 d2, ?_, rfl⟩
      simp [execOp, go_sem, Act.eval, t2, c0, c1, c2]
    | 1, hi =>
      obtain rfl := Option.some.inj hi
      refine .inl ⟨B6 b, ?_, rfl⟩
      simp [execOp, go_sem, Act.eval, t3, k0, k1, k2, k3, k4, k5]
    | 2, hi =>
      obtain rfl := Option.some.inj hi
      have p0 : a.tmps.getD 26 undef = A3 d0 d1 d2 := hpre ⟨0, .data⟩ (by simp) rfl
      have p1 : a.tmps.getD 27 undef = B6 b := hpre ⟨1, .data⟩ (by simp) rfl
      refine .inr ⟨66, #[A3 d0 d1 d2, B6 b, I 0], ?_, ?_⟩
      · simp [go_sem, Act.eval, p0, p1]
      · refine (side_calls d0 d1 d2 b 0 w').mono ?_
        rintro e w'' ⟨rfl, hB⟩
        exact ⟨_, rfl, hB, rfl⟩
    | 3, hi =>
      obtain rfl := Option.some.inj hi
      have p0 : a.tmps.getD 28 undef = A3 d0 b.x b.a := hpre ⟨2, .data⟩ (by simp) rfl
      refine .inr ⟨67, #[A3 d0 b.x b.a], ?_, ?_⟩
      · simp [go_sem, Act.eval, p0]
      · refine (KX.out w').mono ?_
        rintro e w'' ⟨v, rfl, hl, hB⟩
        exact ⟨_, rfl, hB, hl.weak hT.size⟩
    | 4, hi =>
      obtain rfl := Option.some.inj hi
      refine .inl ⟨A3 d0 d1 d2, ?_, rfl⟩
      simp [execOp, go_sem, Act.eval, t2, c0, c1, c2]
    | 5, hi =>
      obtain rfl := Option.some.inj hi
      refine .inl ⟨B6 b, ?_, rfl⟩
      simp [execOp, go_sem, Act.eval, t3, k0, k1, k2, k3, k4, k5]
    | 6, hi =>
      obtain rfl := Option.some.inj hi
      have p0 : a.tmps.getD 30 undef = A3 d0 d1 d2 := hpre ⟨4, .data⟩ (by simp) rfl
      have p1 : a.tmps.getD 31 undef = B6 b := hpre ⟨5, .data⟩ (by simp) rfl
      refine .inr ⟨66, #[A3 d0 d1 d2, B6 b, I 1], ?_, ?_⟩
      · simp [go_sem, Act.eval, p0, p1]
      · refine (side_calls d0 d1 d2 b 1 w').mono ?_
        rintro e w'' ⟨rfl, hB⟩
        exact ⟨_, rfl, hB, rfl⟩
    | 7, hi =>
      obtain rfl := Option.some.inj hi
      have p0 : a.tmps.getD 32 undef = A3 d1 b.y b.b := hpre ⟨6, .data⟩ (by simp) rfl
      refine .inr ⟨67, #[A3 d1 b.y b.b], ?_, ?_⟩
      · simp [go_sem, Act.eval, p0]
      · refine (KY.out w').mono ?_
        rintro e w'' ⟨v, rfl, hl, hB⟩
        exact ⟨_, rfl, hB, hl.weak hT.size⟩
    | 8, hi =>
      obtain rfl := Option.some.inj hi
      refine .inl ⟨A3 d0 d1 d2, ?_, rfl⟩
      simp [execOp, go_sem, Act.eval, t2, c0, c1, c2]
    | 9, hi =>
      obtain rfl := Option.some.inj hi
      refine .inl ⟨B6 b, ?_, rfl⟩
      simp [execOp, go_sem, Act.eval, t3, k0, k1, k2, k3, k4, k5]
    | 10, hi =>
      obtain rfl := Option.some.inj hi
      have p0 : a.tmps.getD 34 undef = A3 d0 d1 d2 := hpre ⟨8, .data⟩ (by simp) rfl
      have p1 : a.tmps.getD 35 undef = B6 b := hpre ⟨9, .data⟩ (by simp) rfl
      refine .inr ⟨66, #[A3 d0 d1 d2, B6 b, I 2], ?_, ?_⟩
      · simp [go_sem, Act.eval, p0, p1]
      · refine (side_calls d0 d1 d2 b 2 w').mono ?_
        rintro e w'' ⟨rfl, hB⟩
        exact ⟨_, rfl, hB, rfl⟩
    | 11, hi =>
      obtain rfl := Option.some.inj hi
      have p0 : a.tmps.getD 36 undef = A3 d2 b.z b.c := hpre ⟨10, .data⟩ (by simp) rfl
      refine .inr ⟨67, #[A3 d2 b.z b.c], ?_, ?_⟩
      · simp [go_sem, Act.eval, p0]
      · refine (KZ.out w').mono ?_
        rintro e w'' ⟨v, rfl, hl, hB⟩
        exact ⟨_, rfl, hB, hl.weak hT.size⟩
    | 12, hi =>
      obtain rfl := Option.some.inj hi
      have p0 : Lst w' w1.heap.size (a.tmps.getD 29 undef) _ := hpre ⟨3, .data⟩ (by simp) rfl
      refine .inl ⟨a.tmps.getD 29 undef, ?_, p0⟩
      simp [execOp, go_sem, Act.eval]
    | 13, hi =>
      obtain rfl := Option.some.inj hi
      have p0 : Lst w' w1.heap.size (a.tmps.getD 33 undef) _ := hpre ⟨7, .data⟩ (by simp) rfl
      refine .inl ⟨a.tmps.getD 33 undef, ?_, p0⟩
      simp [execOp, go_sem, Act.eval]
    | 14, hi =>
      obtain rfl := Option.some.inj hi
      have p0 : Lst w' w1.heap.size (a.tmps.getD 37 undef) _ := hpre ⟨11, .data⟩ (by simp) rfl
      refine .inl ⟨a.tmps.getD 37 undef, ?_, p0⟩
      simp [execOp, go_sem, Act.eval]
    | n + 15, hi => simp at hi
  · intro v w' hT hall
    have hX : Lst w' w1.heap.size (v 12) X := hall 12 (of_decide_eq_true (by kernel_rfl))
    have hY : Lst w' w1.heap.size (v 13) Y := hall 13 (of_decide_eq_true (by kernel_rfl))
    have hZ : Lst w' w1.heap.size (v 14) Z := hall 14 (of_decide_eq_true (by kernel_rfl))
    clear hall
    obtain ⟨aX, cX, eX, vX⟩ := hX.view
    obtain ⟨aY, cY, eY, vY⟩ := hY.view
    obtain ⟨aZ, cZ, eZ, vZ⟩ := hZ.view
    have VX : Hid (∀ k : Nat, k < X.length → ∃ g cur, aX = some ⟨g, 0, none⟩ ∧ Blk w' g 3 cur ∧ cur[k]? = some (I (X.getD k 0))) := vX
    have VY : Hid (∀ k : Nat, k < Y.length → ∃ g cur, aY = some ⟨g, 0, none⟩ ∧ Blk w' g 3 cur ∧ cur[k]? = some (I (Y.getD k 0))) := vY
    have VZ : Hid (∀ k : Nat, k < Z.length → ∃ g cur, aZ = some ⟨g, 0, none⟩ ∧ Blk w' g 3 cur ∧ cur[k]? = some (I (Z.getD k 0))) := vZ
    clear hX hY hZ vX vY vZ KX KY KZ
    have q0 := q0.later hT
    have q1 := q1.later hT
    have hB1 := then_below hB1 hT
    clear hT
    simp only [List.length_cons, List.length_nil, Nat.zero_add, Nat.reduceAdd, List.range, List.range.loop, List.foldl_cons, List.foldl_nil, dstOf, List.getElem?_cons_zero, List.getElem?_cons_succ, Option.getD_some, Act.put, eX, eY, eZ]
    obtain ⟨⟨k0, k1, k2⟩, ⟨k3, k4, k5⟩, hz1⟩ := q1.six (Below.refl _ _)
    clear eX eY eZ
    generalize v 0 = v0
    generalize v 1 = v1
    generalize v 2 = v2
    generalize v 4 = v4
    generalize v 5 = v5
    generalize v 6 = v6
    generalize v 8 = v8
    generalize v 9 = v9
    generalize v 10 = v10
    generalize v 3 = v3
    generalize v 7 = v7
    generalize v 11 = v11
    clear v
    go_wp2_with fail
    refine (KM.out _).mono ?_
    rintro e w2 ⟨rfl, hT2⟩
    clear k0 k1 k2 k3 k4 k5 hz1
    go_wp2_with (at_make; refine wpList_mk (base := w'.heap.size) rfl _ _ rfl M rfl rfl hmb0 (by omega) hT2.size ?_; intro vL w3 hL3 hT3)
    have hT3 := hT2.trans hT3
    clear hT2
    go_loopw [10, 43] (fun v i wr => ∃ (I' : Nat) (L : List Int), I' ≤ Z.length ∧ i = .int .i64 I' ∧ Lst wr w'.heap.size v L ∧ eqO d0 d1 X Y Z T L I' ∧ Below w'.heap.size w' wr) (fun _ i _ => Z.length - (RowKit.intOf i).toNat)
    case atStart => exact ⟨0, [], by omega, rfl, hL3, HT.out, hT3⟩
    case round =>
      clear hL3 hT3
      obtain ⟨i, L, hi, rfl, hL, hE, hT⟩ := hrel
      by_cases hlt : (i : Int) < (Z.length : Int)
      · obtain ⟨g, cur, rfl, hg, hc⟩ := VZ.out i (by omega)
        have c0 := (hg.later hT).cell i
        rw [hc] at c0
        clear hg hc
        have EM := eqO_in (by omega) hE
        have RZ : Hid (0 ≤ Z.getD i 0 ∧ Z.getD i 0 < d2) := HZ.out i (by omega)
        clear hE
        obtain ⟨z, hz⟩ : ∃ z, z = Z.getD i 0 := ⟨_, rfl⟩
        rw [← hz] at c0 RZ
        have HZz : Hid (z = Z.getD i 0) := hz
        clear hz
        go_wp2
        go_loopw [10, 49] (fun v j wr => ∃ (J : Nat) (L : List Int), J ≤ Y.length ∧ j = .int .i64 J ∧ Lst wr w'.heap.size v L ∧ eqM d0 d1 X Y Z T L i J ∧ Below w'.heap.size w' wr) (fun _ j _ => Y.length - (RowKit.intOf j).toNat)
        case atStart => exact ⟨0, L, by omega, rfl, hL, EM, hT⟩
        case round =>
          clear hL hT EM c0
          obtain ⟨j, L, hj, rfl, hL, hE, hT⟩ := hrel
          by_cases hlt : (j : Int) < (Y.length : Int)
          · obtain ⟨g', cur', rfl, hg', hc'⟩ := VY.out j (by omega)
            have c0 := (hg'.later hT).cell j
            rw [hc'] at c0
            clear hg' hc'
            have EI := eqM_in (by omega) hE
            have RY : Hid (0 ≤ Y.getD j 0 ∧ Y.getD j 0 < d1) := HY.out j (by omega)
            clear hE
            obtain ⟨y, hy⟩ : ∃ y, y = Y.getD j 0 := ⟨_, rfl⟩
            rw [← hy] at c0 RY
            have HYy : Hid (y = Y.getD j 0) := hy
            clear hy
            go_wp2
            go_loopw [10, 55] (fun v k wr => ∃ (K : Nat) (L : List Int), K ≤ X.length ∧ k = .int .i64 K ∧ Lst wr w'.heap.size v L ∧ eqI d0 d1 X Y Z T L i j K ∧ Below w'.heap.size w' wr) (fun _ k _ => X.length - (RowKit.intOf k).toNat)
            case atStart => exact ⟨0, L, by omega, rfl, hL, EI, hT⟩
            case round =>
              clear hL hT EI c0
              obtain ⟨k, L, hk, rfl, hL, hE, hT⟩ := hrel
              by_cases hlt : (k : Int) < (X.length : Int)
              · obtain ⟨g'', cur'', rfl, hg'', hc''⟩ := VX.out k (by omega)
                have c0 := (hg''.later hT).cell k
                rw [hc''] at c0
                clear hg'' hc''
                obtain ⟨d0', d1', d2', hz⟩ := q0.three hT
                have RX : Hid (0 ≤ X.getD k 0 ∧ X.getD k 0 < d0) := HX.out k (by omega)
                have hll : L.length ≤ 100000 := by have := eqI_len hE; omega
                have EI := eqI_step (by omega) hE
                rw [← HYy.out, ← HZz.out] at EI
                clear hE
                generalize X.getD k 0 = x at c0 RX EI
                have KA : Hid (∀ w : World, Calls Tryz.prog 64 #[A3 d0 d1 d2, A3 x y z] w fun e W' => e = .returned (.tuple #[I (numD d0 d1 x y z), I 0]) ∧ Below w.heap.size w W') := fun w => at_yes w HM.out ⟨RX.out, RY.out, RZ.out⟩
                generalize numD d0 d1 x y z = N at KA EI
                go_wp2_with fail
                refine (KA.out _).mono ?_
                rintro e w4 ⟨rfl, hB4⟩
                have hL := hL.later hB4
                have hT := then_below hT hB4
                clear hB4 c0 d0' d1' d2' hz
                go_wp2_with (at_builtin; refine wpList_app rfl _ _ rfl rfl rfl hL hll hT.size ?_; intro v' w5 hL5 hT5)
                have hT := hT.trans hT5
                clear hT5 hL
                go_roundw
                case rel => exact ⟨k + 1, _, by omega, by go_num, hL5, EI, hT⟩
                case measure => simp [RowKit.intOf]; omega
              · have EO := eqI_out (by omega) hE
                clear hE
                go_wp2
                go_roundw
                case rel => exact ⟨j + 1, L, by omega, by go_num, hL, EO, hT⟩
                case measure => simp [RowKit.intOf]; omega
          · have EO := eqM_out (by omega) hE
            clear hE
            go_wp2
            go_roundw
            case rel => exact ⟨i + 1, L, by omega, by go_num, hL, EO, hT⟩
            case measure => simp [RowKit.intOf]; omega
      · have E := eqO_out (by omega) hE
        subst E
        have hL' := hL.weak hB1.size
        clear hL hE
        go_wp2
        go_ret2
        exact ⟨_, rfl, hL', then_below hB1 hT⟩

end Go.Proofs.YtbedhpooeabehaaGreatDoor

/-
  Plain arithmetic: a box's midplanes as a set, as rows of words. No program is walked here.
-/
namespace Go.Proofs.YtbedhpooeabehaaGreatDoor
open Go Go.RowKit

/-- The midplanes of a place, as a set. -/
def midW (d0 d1 d2 : Int) (b : Bx) : List Nat := setOf (d0 * d1 * d2) (fun j : Nat => hasB d0 d1 d2 b (j : Int))
theorem nodes_in (d0 d1 d2 : Int) (b : Bx) (j : Nat) : inL (nodesB d0 d1 d2 b) j = (decide (j < (d0 * d1 * d2).toNat) && hasB d0 d1 d2 b (j : Int)) := by
  have := inL_ofN ((List.range (d0 * d1 * d2).toNat).filter (fun m : Nat => hasB d0 d1 d2 b m)) j
  unfold nodesB nodesTo
  unfold ofN at this
  rw [this, Bool.eq_iff_iff, List.contains_iff_mem, List.mem_filter, List.mem_range, Bool.and_eq_true, decide_eq_true_eq]
theorem nodesP_mem {d0 d1 d2 : Int} {b : Bx} {x : Int} : x ∈ nodesB d0 d1 d2 b ↔ (0 ≤ x ∧ x < d0 * d1 * d2) ∧ hasB d0 d1 d2 b x = true := by
  unfold nodesB nodesTo
  rw [List.mem_map]
  constructor
  · rintro ⟨m, hm, rfl⟩
    rw [List.mem_filter, List.mem_range] at hm
    exact ⟨by omega, hm.2⟩
  · rintro ⟨h1, h2⟩
    refine ⟨x.toNat, ?_, by omega⟩
    rw [List.mem_filter, List.mem_range, Int.toNat_of_nonneg h1.1]
    exact ⟨by omega, h2⟩
theorem nodes_ok {d0 d1 d2 : Int} (h : mayD d0 d1 d2) (b : Bx) : ofOk (d0 * d1 * d2) (nodesB d0 d1 d2 b) = true := by
  have := N_bd h
  exact ofOk_all (by omega) (by omega) fun x hx => (nodesP_mem.1 hx).1
theorem mid_of {d0 d1 d2 : Int} {b : Bx} {ws : List Nat} (h : mayD d0 d1 d2) (ho : OfIs (d0 * d1 * d2) (nodesB d0 d1 d2 b) ws) : ws = midW d0 d1 d2 b :=
  setOf_of ho (nodes_ok h b) (nodes_in d0 d1 d2 b)
theorem mid_list {d0 d1 d2 : Int} (h : mayD d0 d1 d2) (b : Bx) : listR (d0 * d1 * d2) (midW d0 d1 d2 b) = nodesB d0 d1 d2 b := by
  have := N_bd h
  unfold midW
  rw [setOf_list (by omega) (by omega)]
  rfl

end Go.Proofs.YtbedhpooeabehaaGreatDoor
