/-
  Lists of whole numbers: a list behind another one, and two numbers behind a list.
-/
import Derived.Test.YtldcagjnngkabaaGreatDoorPart9
import Derived.Laws.AppendOwn
import Derived.Laws.AppendOwnNone
import Derived.Test.YtldcagjnngkabaaGreatDoorPart6
import Derived.Test.YtldcagjnngkabaaGreatDoorPart13
namespace Go.Proofs.YtldcagjnngkabaaGreatDoor
open Go Go.RowKit Go.Shelf

/-- 'list = append(list, x, y)', the list a call's own. -/
theorem wpList_app2 {ops : Array Oper} {rest : List Oper} {o : Oper} {a : Act} {Q : Exit → Act → World → Prop} {W : World} {base : Nat} {v : Value} {xs : List Int} {y z : Int} (hgd : o.guard = none) (s x : Operand)
    (ho : o.op = .call { callee := .builtin .append, args := #[s, x], argTypes := #[76, 76] }) (hs : a.eval s = v) (hx : a.eval x = .slice (some ⟨W.heap.size, 0, none⟩) 2 2)
    (hown : Lst W base v xs) (hl : xs.length ≤ 100000) (hb : base ≤ W.heap.size)
    (h : ∀ v' w', Lst w' base v' (xs ++ [y, z]) → Below base W w' → wpList Tryz.prog ops Q rest (a.put o.dst v') w') : wpList Tryz.prog ops Q (o :: rest) a (W.alloc (.cells #[.int .i64 y, .int .i64 z] 3)) := by
  obtain ⟨i0, hi, hz0, hz1, hz2⟩ := info_parts info_int
  refine wpList_append_own (w := W.alloc (.cells #[.int .i64 y, .int .i64 z] 3)) hgd s x 76 ho base 3 i0 (.int .i64 0) 1 8 Tryz.underlying76 hi hz0 hz1 hz2 rfl (by decide) v xs.length _ hs (hown.alloc _) ⟨W.heap.size, 0, none⟩ 2 2 [.int .i64 y, .int .i64 z] hx rfl ?_ ?_ ?_ ?_ ?_ ?_
  · intro j u hj
    match j, hj with
    | 0, hj => simp at hj; subst hj; simp [Addr.add]
    | 1, hj => simp at hj; subst hj; simp [Addr.add]
  · intro u hu; simp at hu; rcases hu with rfl | rfl <;> rfl
  · unfold maxLen; omega
  · omega
  · simp; omega
  · intro v' w1 hown' hgrow _
    refine h v' w1 ?_ ?_
    · unfold Lst
      rw [List.map_append, List.length_append]
      exact hown'
    · exact ((Below.refl base W).alloc hb _).grown hgrow (by simp; omega) (fun k hk => (hown.lt k hk).1)

/-- 'list = append(list, more...)', both lists a call's own. -/
theorem wpList_cat {ops : Array Oper} {rest : List Oper} {o : Oper} {a : Act} {Q : Exit → Act → World → Prop} {W : World} {base b2 : Nat} {v u : Value} {xs ys : List Int} (hgd : o.guard = none) (s x : Operand)
    (ho : o.op = .call { callee := .builtin .append, args := #[s, x], argTypes := #[76, 76] }) (hs : a.eval s = v) (hx : a.eval x = u)
    (hown : Lst W base v xs) (hu : Lst W b2 u ys) (hl : xs.length ≤ 100000) (hl2 : ys.length ≤ 100000) (hb : base ≤ W.heap.size)
    (h : ∀ v' w', Lst w' base v' (xs ++ ys) → Below base W w' → wpList Tryz.prog ops Q rest (a.put o.dst v') w') : wpList Tryz.prog ops Q (o :: rest) a W := by
  obtain ⟨i0, hi, hz0, hz1, hz2⟩ := info_parts info_int
  have hv := hu.view
  rcases hu.2 with ⟨rfl, hn⟩ | ⟨g, cap, cur, rfl, hg, hh, hc, hc2, hs2, ht⟩
  · have : ys = [] := List.length_eq_zero_iff.1 hn
    subst this
    rw [List.append_nil] at h
    exact wpList_append_own_none hgd s x 76 ho base 3 i0 1 Tryz.underlying76 hi v xs.length _ hs hown hx (h _ _ hown (Below.refl _ _))
  · refine wpList_append_own (w := W) hgd s x 76 ho base 3 i0 (.int .i64 0) 1 8 Tryz.underlying76 hi hz0 hz1 hz2 rfl (by decide) v xs.length _ hs hown ⟨g, 0, none⟩ ys.length cap (ys.map (Value.int .i64)) hx (by simp) ?_ ?_ ?_ ?_ ?_ ?_
    · intro j y hj
      have hjl : j < ys.length := by
        have := (List.getElem?_eq_some_iff.1 hj).1
        simpa using this
      obtain ⟨ao, c, e, hw⟩ := hv
      simp only [Value.slice.injEq] at e
      obtain ⟨rfl, -, -⟩ := e
      obtain ⟨g', cur', e, hB, hc'⟩ := hw j hjl
      simp only [Option.some.injEq, Addr.mk.injEq] at e
      obtain ⟨rfl, -, -⟩ := e
      have : (⟨g, 0, none⟩ : Addr).add j = ⟨g, j, none⟩ := by
        unfold Addr.add
        split
        · rename_i h0; subst h0; rfl
        · simp
      rw [this, hB.cell j, hc', ← hj]
      simp [hjl]
    · intro y hy
      obtain ⟨z, _, rfl⟩ := List.mem_map.1 hy
      rfl
    · unfold maxLen; omega
    · omega
    · omega
    · intro v' w1 hown' hgrow _
      refine h v' w1 ?_ ?_
      · unfold Lst
        rw [List.map_append, List.length_append]
        exact hown'
      · exact (Below.refl base W).grown hgrow hb (fun k hk => (hown.lt k hk).1)

end Go.Proofs.YtldcagjnngkabaaGreatDoor

/-
  As Loud, where the operations from number k on come last, each the only one that may come up: they wait, if only through others, for all of the beginning.
-/
namespace Go.Proofs.YtldcagjnngkabaaGreatDoor
open Go Go.RowKit Go.Shelf

section
variable {F : Fence} {n : Nat} {P : Program}

/-- For what an operation waits. -/
def depsOf (l : List Oper) (t : Nat) : List Nat := match l[t]? with | some o => (o.after.toList.filter fun e => Region.binds .any e).map (·.on) | none => []
/-- It waits for another one, if only through others. -/
def needB (l : List Oper) : Nat → Nat → Nat → Bool
  | 0, _, _ => false
  | f + 1, t, i => (depsOf l t).any fun j => j == i || needB l f j i
/-- The beginning, of k operations: each writes a slot of its own, waits for such as stand ahead alone; all the others wait for each of it. -/
def soloB3 (l : List Oper) (k m : Nat) : Bool :=
  decide (k ≤ l.length) && ((l.take k).all fun o => o.guard.isNone && o.dst.isSome) && ((List.range k).all fun i => decide (dstOf (l.take k) i < m) && (List.range k).all fun j => i == j || dstOf (l.take k) i != dstOf (l.take k) j) && noDefer l.toArray &&
  ((List.range k).all fun t => match l[t]? with | some o => backOnly o t | none => true) &&
  ((List.range (l.length - k)).all fun t => (List.range k).all fun i => needB l 6 (k + t) i) &&
  Region.seqB .any l.toArray (l.length - k) k (both (Array.replicate k true) (l.length - k))

def Closed (l : List Oper) (L : Array Bool) : Prop := ∀ t, L.getD t false = true → ∀ j ∈ depsOf l t, L.getD j false = true
theorem need_in {l : List Oper} {L : Array Bool} (hc : Closed l L) : ∀ (f t i : Nat), needB l f t i = true → (∀ j ∈ depsOf l t, L.getD j false = true) → L.getD i false = true
  | 0, _, _, h, _ => by cases h
  | f + 1, t, i, h, hd => by
    obtain ⟨j, hj, hij⟩ := List.any_eq_true.1 h
    rcases (Bool.or_eq_true_iff.1 hij) with e | e
    · have : j = i := by simpa using e
      exact this ▸ hd j hj
    · exact need_in hc f j i e (hc j (hd j hj))
theorem mem_deps {l : List Oper} {t : Nat} {o : Oper} (ho : l[t]? = some o) {j : Nat} : j ∈ depsOf l t ↔ ∃ e ∈ o.after, Region.binds .any e = true ∧ e.on = j := by
  unfold depsOf
  rw [ho]
  simp only [List.mem_map, List.mem_filter, Array.mem_toList_iff]
  exact ⟨fun ⟨e, ⟨h1, h2⟩, h3⟩ => ⟨e, h1, h2, h3⟩, fun ⟨e, h1, h2, h3⟩ => ⟨e, ⟨h1, h2⟩, h3⟩⟩

/-- An operation that comes to a value, and it may be to a turned world. -/
theorem wpListIn_value {ops : Array Oper} {rest : List Oper} {o : Oper} {a : Act} {Q : Exit → Act → World → Prop} {w w' : World} {v : Value} (hF : Loose F P) (hgd : o.guard = none) (hd : ∀ c, o.op ≠ .defer c)
    (hrun : (execOp a.eval o).run P w = .ok (.value v) w') (h : wpListIn F n P ops Q rest (a.put o.dst v) w') : wpListIn F n P ops Q (o :: rest) a w := by
  have hfn : ∀ f, o.about P w a.eval = some f → F.fn f := fun f _ => hF.fn f
  unfold wpListIn
  simp only [Region.wanted, hgd, if_true]
  refine ⟨hfn, ?_⟩
  rw [Oper.semAt_eq _ _ _ hd, hrun]
  exact h

variable {l : List Oper} {a0 : Act} {w0 : World} {Q : Exit → Act → World → Prop} {S : Nat → Value → World → Prop} {k : Nat}

theorem any_loud3 (hF : Loose F P) (hB : soloB3 l k a0.tmps.size = true)
    (hS : ∀ i v w w', S i v w → Below w.heap.size w w' → S i v w')
    (hop : ∀ (i : Nat) (o : Oper), (l.take k)[i]? = some o → ∀ (a : Act) (w : World), Below w0.heap.size w0 w → Like (l.take k) a0 a → (∀ e ∈ o.after, Region.binds .any e = true → S e.on (slot (l.take k) a e.on) w) → Comes P o a w (S i))
    (hend : ∀ (a : Act) (w : World), Below w0.heap.size w0 w → Like (l.take k) a0 a → (∀ i, i < k → S i (slot (l.take k) a i) w) → wpListIn F n P l.toArray Q (l.drop k) a w) :
    ∀ (f : Nat) (L : Array Bool) (a : Act) (w : World), L.size = l.length → L.toList.count false ≤ f → Below w0.heap.size w0 w → Like (l.take k) a0 a → (∀ i, i < k → L.getD i false = true → S i (slot (l.take k) a i) w) → (∀ t, k ≤ t → L.getD t false = false) → Closed l L → wpAnyIn F n P .any l.toArray Q f L a w := by
  simp only [soloB3, Bool.and_eq_true] at hB
  obtain ⟨⟨⟨⟨⟨⟨hk, hB1⟩, hB2⟩, hnd⟩, hback⟩, hneed⟩, hseq⟩ := hB
  have hk : k ≤ l.length := of_decide_eq_true hk
  have hlen : (l.take k).length = k := by simp [hk]
  have same : ∀ i, i < k → (l.take k)[i]? = l[i]? := fun i hi => by simp [hi]
  have back : ∀ i o, i < k → l[i]? = some o → ∀ j ∈ depsOf l i, j < i := fun i o hi ho j hj => by
    have h1 := List.all_eq_true.1 hback i (List.mem_range.2 hi)
    rw [ho] at h1
    obtain ⟨e, he, hb, rfl⟩ := (mem_deps ho).1 hj
    have := Array.all_eq_true'.1 (Bool.and_eq_true_iff.1 h1).1 e he
    simpa [hb] using this
  have need : ∀ t, k ≤ t → t < l.length → ∀ i, i < k → needB l 6 t i = true := fun t h1 h2 i hi => by
    have h3 := List.all_eq_true.1 hneed (t - k) (List.mem_range.2 (by omega))
    have := List.all_eq_true.1 h3 i (List.mem_range.2 hi)
    rwa [show k + (t - k) = t by omega] at this
  have solo : ∀ i o, i < k → l[i]? = some o → o.guard = none ∧ o.dst = some (dstOf (l.take k) i) ∧ dstOf (l.take k) i < a0.tmps.size ∧ ∀ j, j < k → j ≠ i → dstOf (l.take k) i ≠ dstOf (l.take k) j := fun i o hi ho => by
    have ho' : (l.take k)[i]? = some o := (same i hi).trans ho
    obtain ⟨hlt, he⟩ := List.getElem?_eq_some_iff.1 ho'
    have k1 := List.all_eq_true.1 hB1 o (he ▸ List.getElem_mem hlt)
    simp only [Bool.and_eq_true, Option.isNone_iff_eq_none] at k1
    have k2 := List.all_eq_true.1 hB2 i (List.mem_range.2 hi)
    simp only [Bool.and_eq_true, decide_eq_true_eq] at k2
    refine ⟨k1.1, ?_, k2.1, fun j hj hne => ?_⟩
    · obtain ⟨d, hd⟩ := Option.isSome_iff_exists.1 k1.2
      simp [dstOf, ho', hd]
    · have := List.all_eq_true.1 k2.2 j (List.mem_range.2 hj)
      simp only [Bool.or_eq_true, beq_iff_eq, bne_iff_ne] at this
      rcases this with e | e
      · exact absurd e.symm hne
      · exact e
  have full : ∀ (f : Nat) (L : Array Bool) (a : Act) (w : World), L.size = l.length → L.toList.count false ≤ f → Below w0.heap.size w0 w → Like (l.take k) a0 a → (∀ i, i < k → L.getD i false = true → S i (slot (l.take k) a i) w) → (∀ t, k ≤ t → L.getD t false = false) → (∀ i, i < k → L.getD i false = true) → wpAnyIn F n P .any l.toArray Q f L a w := by
    intro f L a w hs hc hT hL hA hno hall
    have eL : L = both (Array.replicate k true) (l.length - k) := by
      refine Array.ext (by simp [both]; omega) fun i h1 h2 => ?_
      by_cases hi : i < k
      · have := hall i hi
        simpa [Array.getD, h1, both, Array.getElem_append_left, hi] using this
      · have := hno i (by omega)
        simp only [Array.getD, h1, dif_pos] at this
        rw [show L[i] = false from this]
        have h3 : (both (Array.replicate k true) (l.length - k)).getD i false = false := by
          unfold both
          rw [Array.getD_eq_getD_getElem?, Array.getElem?_append_right (by simp; omega)]
          simp [Array.getElem?_replicate]
          split <;> rfl
        rw [Array.getD, dif_pos h2] at h3
        exact h3.symm
    have hcount : l.length - k ≤ L.toList.count false := by
      rw [eL]
      simp [both]
    exact any_forced (l.drop k) k L f a w (fun j => by simp) (by rw [eL]; simpa using hseq) (by simp; omega) (hend a w hT hL fun i hi => hA i hi (hall i hi))
  intro f
  induction f with
  | zero =>
    intro L a w hs hc hT hL hA hno hcl
    refine full 0 L a w hs hc hT hL hA hno fun i hi => ?_
    cases hv : L.getD i false with
    | true => rfl
    | false =>
      exfalso
      have h0 : L.toList.count false = 0 := by omega
      rw [List.count_eq_zero] at h0
      refine h0 ?_
      have hlt : i < L.size := by omega
      rw [Array.getD, dif_pos hlt] at hv
      have hv : L[i] = false := hv
      rw [← hv]
      exact Array.getElem_mem_toList hlt
  | succ f ih =>
    intro L a w hs hc hT hL hA hno hcl
    by_cases hfull : ∀ i, i < k → L.getD i false = true
    · exact full (f + 1) L a w hs hc hT hL hA hno hfull
    · refine ⟨fun hr => ?_, fun i hi => ?_⟩
      · exfalso
        refine hfull fun i => ?_
        induction i using Nat.strongRecOn with
        | _ i ih' =>
          intro hi
          cases hv : L.getD i false with
          | true => rfl
          | false =>
            have hil : i < l.length := by omega
            have hmem : i ∈ Region.ready .any l.toArray L := by
              rw [mem_ready]
              refine ⟨getD_in (by omega) hv, l[i], by simp [hil], fun e he hb => ?_⟩
              have hlt := back i l[i] hi (List.getElem?_eq_getElem hil) e.on ((mem_deps (List.getElem?_eq_getElem hil)).2 ⟨e, he, hb, rfl⟩)
              exact ih' e.on hlt (by omega)
            rw [hr] at hmem
            cases hmem
      · obtain ⟨h1, o, ho, hall⟩ := mem_ready.1 hi
        have hol : l[i]? = some o := by simpa using ho
        have hil : i < l.length := (List.getElem?_eq_some_iff.1 hol).1
        have hdeps : ∀ j ∈ depsOf l i, L.getD j false = true := fun j hj => by
          obtain ⟨e, he, hb, rfl⟩ := (mem_deps hol).1 hj
          exact hall e he hb
        have hik : i < k := by
          rcases Nat.lt_or_ge i k with h | h
          · exact h
          · exact absurd (fun j hj => need_in hcl 6 i j (need i h hil j hj) hdeps) hfull
        obtain ⟨hg, hd, hlt, hne⟩ := solo i o hik hol
        have hcome := hop i o ((same i hik).trans hol) a w hT hL (fun e he hb => hA e.on (by have := back i o hik hol e.on ((mem_deps hol).2 ⟨e, he, hb, rfl⟩); omega) (hall e he hb))
        have hnot : L.toList[i]? = some false := by
          have hlt' : i < L.size := by omega
          rw [Array.getD, dif_pos hlt'] at h1
          rw [Array.getElem?_toList, Array.getElem?_eq_getElem hlt']
          exact congrArg some h1
        have hset : ∀ j, (L.setIfInBounds i true).getD j false = true → j = i ∨ L.getD j false = true := fun j hj => by
          by_cases hij : j = i
          · exact .inl hij
          · rw [Array.getD_eq_getD_getElem?, Array.getElem?_setIfInBounds_ne (Ne.symm hij), ← Array.getD_eq_getD_getElem?] at hj
            exact .inr hj
        have hkeep : ∀ j, L.getD j false = true → (L.setIfInBounds i true).getD j false = true := fun j hj => by
          by_cases hij : j = i
          · subst hij
            have hlt' : j < L.size := by omega
            simp [Array.getD, hlt']
          · rw [Array.getD_eq_getD_getElem?, Array.getElem?_setIfInBounds_ne (Ne.symm hij), ← Array.getD_eq_getD_getElem?]
            exact hj
        have hnext : ∀ (v : Value) (w' : World), Below w.heap.size w w' → S i v w' → wpAnyIn F n P .any l.toArray Q f (L.setIfInBounds i true) (a.put o.dst v) w' := by
          intro v w' hB' hv
          rw [hd]
          refine ih _ _ w' (by simpa using hs) ?_ (then_below hT hB') ⟨?_, ?_, ?_⟩ ?_ ?_ ?_
          · have := count_set L.toList i hnot
            rw [Array.toList_setIfInBounds]
            omega
          · simp [Act.put]; exact hL.size
          · simp [Act.put]; exact hL.defers
          · intro t ht
            rw [put_ne (ht i (by rw [hlen]; exact hik))]
            exact hL.out t ht
          · intro j hjk hj
            by_cases hij : j = i
            · subst hij
              show S j ((a.put (some (dstOf (l.take k) j)) v).tmps.getD (dstOf (l.take k) j) undef) w'
              rw [put_at (by rw [hL.size]; exact hlt)]
              exact hv
            · rcases hset j hj with e | hjl
              · exact absurd e hij
              · show S j ((a.put (some (dstOf (l.take k) i)) v).tmps.getD (dstOf (l.take k) j) undef) w'
                rw [getD_ne (hne j hjk hij)]
                exact hS _ _ _ _ (hA j hjk hjl) hB'
          · intro t ht
            have hti : t ≠ i := by omega
            rw [Array.getD_eq_getD_getElem?, Array.getElem?_setIfInBounds_ne (Ne.symm hti), ← Array.getD_eq_getD_getElem?]
            exact hno t ht
          · intro t ht j hj
            rcases hset t ht with rfl | ht'
            · exact hkeep j (hdeps j hj)
            · exact hkeep j (hcl t ht' j hj)
        have hfn : ∀ f, o.about P w a.eval = some f → F.fn f := fun f _ => hF.fn f
        simp only [wpOpIn, ho, Region.wanted, hg, if_true]
        refine ⟨hfn, ?_⟩
        rw [Oper.semAt_eq _ _ _ (noDefer_spec hnd ho)]
        rcases hcome with ⟨v, e, hv⟩ | ⟨g, args, e, hc'⟩
        · rw [e]; exact hnext v w (Below.refl _ _) hv
        · rw [e]
          refine ⟨fun hx => (hF.depth hx).elim, hF.calls _ _ _ _ _ (hc'.mono ?_)⟩
          rintro x w' ⟨v, rfl, hB', hv⟩
          exact hnext v w' hB' hv

/-- In whatever order the beginning goes: each of its operations' words holds when the rest begins. -/
theorem wp_region_loud3 {id : Nat} (k : Nat) (S : Nat → Value → World → Prop) (hm : P.follows .mixedOrders = true) (hB : soloB3 l k a0.tmps.size = true)
    (hS : ∀ i v w w', S i v w → Below w.heap.size w w' → S i v w')
    (hop : ∀ (i : Nat) (o : Oper), (l.take k)[i]? = some o → ∀ (a : Act) (w : World), Below w0.heap.size w0 w → Like (l.take k) a0 a → (∀ e ∈ o.after, Region.binds .any e = true → S e.on (slot (l.take k) a e.on) w) → Comes P o a w (S i))
    (hend : ∀ (v : Nat → Value) (w : World), Below w0.heap.size w0 w → (∀ i, i < k → S i (v i) w) → wpListIn Fence.wide 0 P l.toArray Q (l.drop k) ((List.range (l.take k).length).foldl (fun b i => b.put (some (dstOf (l.take k) i)) (v i)) a0) w) :
    (Code.region id l.toArray true).wp P Q a0 w0 := by
  refine (wpIn_wide (n := 0)).1 (wpIn_region_any hm ?_)
  refine any_loud3 (loose_wide P) hB hS hop (fun a w hT hL hA => ?_) _ _ _ _ (by simp) (by simp) ((Below.refl _ w0).drew) ⟨rfl, rfl, fun _ _ => rfl⟩ (fun i _ hi => ?_) (fun t _ => ?_) (fun t ht => ?_)
  · rw [like_puts hL]
    exact hend (slot (l.take k) a) w hT hA
  · exfalso
    rw [Array.getD_eq_getD_getElem?] at hi
    simp [Array.getElem?_replicate] at hi
    split at hi <;> simp at hi
  · rw [Array.getD_eq_getD_getElem?]
    simp [Array.getElem?_replicate]
    split <;> simp
  · exfalso
    rw [Array.getD_eq_getD_getElem?] at ht
    simp [Array.getElem?_replicate] at ht
    split at ht <;> simp at ht
end

/-- 'append(list, more...)', as one operation: what it comes to. -/
theorem cat_run {o : Oper} {a : Act} {W : World} {base b2 : Nat} {v u : Value} {xs ys : List Int} (s x : Operand)
    (ho : o.op = .call { callee := .builtin .append, args := #[s, x], argTypes := #[76, 76] }) (hs : a.eval s = v) (hx : a.eval x = u)
    (hown : Lst W base v xs) (hu : Lst W b2 u ys) (hl : xs.length ≤ 100000) (hl2 : ys.length ≤ 100000) (hb : base ≤ W.heap.size) :
    ∃ v' w', (execOp a.eval o).run Tryz.prog W = .ok (.value v') w' ∧ Lst w' base v' (xs ++ ys) ∧ Below base W w' := by
  obtain ⟨i0, hi, hz0, hz1, hz2⟩ := info_parts info_int
  have hv := hu.view
  rcases hu.2 with ⟨rfl, hn⟩ | ⟨g, cap, cur, rfl, hg, hh, hc, hc2, hs2, ht⟩
  · have : ys = [] := List.length_eq_zero_iff.1 hn
    subst this
    rw [List.append_nil]
    have hrun := run_append_owned_none (P := Tryz.prog) (w := W) base 76 o.type 3 i0 1 Tryz.underlying76 hi v xs.length _ hown
    refine ⟨v, W, ?_, hown, Below.refl _ _⟩
    simp [execOp, ho, resolve, invoke, builtin, hs, hx, hrun, Result.andThen]
  · have hnews : ∀ j y, (ys.map (Value.int .i64))[j]? = some y → W.cell? ((⟨g, 0, none⟩ : Addr).add j) = some y := by
      intro j y hj
      have hjl : j < ys.length := by
        have := (List.getElem?_eq_some_iff.1 hj).1
        simpa using this
      obtain ⟨ao, c, e, hw⟩ := hv
      simp only [Value.slice.injEq] at e
      obtain ⟨rfl, -, -⟩ := e
      obtain ⟨g', cur', e, hB, hc'⟩ := hw j hjl
      simp only [Option.some.injEq, Addr.mk.injEq] at e
      obtain ⟨rfl, -, -⟩ := e
      have : (⟨g, 0, none⟩ : Addr).add j = ⟨g, j, none⟩ := by
        unfold Addr.add
        split
        · rename_i h0; subst h0; rfl
        · simp
      rw [this, hB.cell j, hc', ← hj]
      simp [hjl]
    have hone : ∀ y ∈ ys.map (Value.int .i64), y.oneCell' = true := by
      intro y hy
      obtain ⟨z, _, rfl⟩ := List.mem_map.1 hy
      rfl
    obtain ⟨v', w', hr, h2, h3, _⟩ := run_append_own (P := Tryz.prog) W base 76 o.type 3 i0 (.int .i64 0) 1 8 Tryz.underlying76 hi hz0 hz1 hz2 rfl (by decide) v xs.length (xs.map (Value.int .i64)) hown ⟨g, 0, none⟩ ys.length cap (ys.map (Value.int .i64)) (by simp) hnews hone (by unfold maxLen; omega) (by omega) hb
    refine ⟨v', w', ?_, ?_, (Below.refl base W).grown h3 hb (fun k hk => (World.ownsRow.lt hown k hk).1)⟩
    · simp [execOp, ho, resolve, invoke, builtin, hs, hx, hr, Result.andThen]
    · unfold Lst
      rw [List.map_append, List.length_append]
      exact h2

end Go.Proofs.YtldcagjnngkabaaGreatDoor

/-
  As Loud3, where an operation of the beginning may make memory itself (a slice that is made).
-/
namespace Go.Proofs.YtldcagjnngkabaaGreatDoor
open Go Go.RowKit Go.Shelf

section
variable {F : Fence} {n : Nat} {P : Program}

variable {l : List Oper} {a0 : Act} {w0 : World} {Q : Exit → Act → World → Prop} {S : Nat → Value → World → Prop} {k : Nat}

theorem any_loud4 (hF : Loose F P) (hB : soloB3 l k a0.tmps.size = true)
    (hS : ∀ i v w w', S i v w → Below w.heap.size w w' → S i v w')
    (hop : ∀ (i : Nat) (o : Oper), (l.take k)[i]? = some o → ∀ (a : Act) (w : World), Below w0.heap.size w0 w → Like (l.take k) a0 a → (∀ e ∈ o.after, Region.binds .any e = true → S e.on (slot (l.take k) a e.on) w) → Comes2 P o a w (S i))
    (hend : ∀ (a : Act) (w : World), Below w0.heap.size w0 w → Like (l.take k) a0 a → (∀ i, i < k → S i (slot (l.take k) a i) w) → wpListIn F n P l.toArray Q (l.drop k) a w) :
    ∀ (f : Nat) (L : Array Bool) (a : Act) (w : World), L.size = l.length → L.toList.count false ≤ f → Below w0.heap.size w0 w → Like (l.take k) a0 a → (∀ i, i < k → L.getD i false = true → S i (slot (l.take k) a i) w) → (∀ t, k ≤ t → L.getD t false = false) → Closed l L → wpAnyIn F n P .any l.toArray Q f L a w := by
  simp only [soloB3, Bool.and_eq_true] at hB
  obtain ⟨⟨⟨⟨⟨⟨hk, hB1⟩, hB2⟩, hnd⟩, hback⟩, hneed⟩, hseq⟩ := hB
  have hk : k ≤ l.length := of_decide_eq_true hk
  have hlen : (l.take k).length = k := by simp [hk]
  have same : ∀ i, i < k → (l.take k)[i]? = l[i]? := fun i hi => by simp [hi]
  have back : ∀ i o, i < k → l[i]? = some o → ∀ j ∈ depsOf l i, j < i := fun i o hi ho j hj => by
    have h1 := List.all_eq_true.1 hback i (List.mem_range.2 hi)
    rw [ho] at h1
    obtain ⟨e, he, hb, rfl⟩ := (mem_deps ho).1 hj
    have := Array.all_eq_true'.1 (Bool.and_eq_true_iff.1 h1).1 e he
    simpa [hb] using this
  have need : ∀ t, k ≤ t → t < l.length → ∀ i, i < k → needB l 6 t i = true := fun t h1 h2 i hi => by
    have h3 := List.all_eq_true.1 hneed (t - k) (List.mem_range.2 (by omega))
    have := List.all_eq_true.1 h3 i (List.mem_range.2 hi)
    rwa [show k + (t - k) = t by omega] at this
  have solo : ∀ i o, i < k → l[i]? = some o → o.guard = none ∧ o.dst = some (dstOf (l.take k) i) ∧ dstOf (l.take k) i < a0.tmps.size ∧ ∀ j, j < k → j ≠ i → dstOf (l.take k) i ≠ dstOf (l.take k) j := fun i o hi ho => by
    have ho' : (l.take k)[i]? = some o := (same i hi).trans ho
    obtain ⟨hlt, he⟩ := List.getElem?_eq_some_iff.1 ho'
    have k1 := List.all_eq_true.1 hB1 o (he ▸ List.getElem_mem hlt)
    simp only [Bool.and_eq_true, Option.isNone_iff_eq_none] at k1
    have k2 := List.all_eq_true.1 hB2 i (List.mem_range.2 hi)
    simp only [Bool.and_eq_true, decide_eq_true_eq] at k2
    refine ⟨k1.1, ?_, k2.1, fun j hj hne => ?_⟩
    · obtain ⟨d, hd⟩ := Option.isSome_iff_exists.1 k1.2
      simp [dstOf, ho', hd]
    · have := List.all_eq_true.1 k2.2 j (List.mem_range.2 hj)
      simp only [Bool.or_eq_true, beq_iff_eq, bne_iff_ne] at this
      rcases this with e | e
      · exact absurd e.symm hne
      · exact e
  have full : ∀ (f : Nat) (L : Array Bool) (a : Act) (w : World), L.size = l.length → L.toList.count false ≤ f → Below w0.heap.size w0 w → Like (l.take k) a0 a → (∀ i, i < k → L.getD i false = true → S i (slot (l.take k) a i) w) → (∀ t, k ≤ t → L.getD t false = false) → (∀ i, i < k → L.getD i false = true) → wpAnyIn F n P .any l.toArray Q f L a w := by
    intro f L a w hs hc hT hL hA hno hall
    have eL : L = both (Array.replicate k true) (l.length - k) := by
      refine Array.ext (by simp [both]; omega) fun i h1 h2 => ?_
      by_cases hi : i < k
      · have := hall i hi
        simpa [Array.getD, h1, both, Array.getElem_append_left, hi] using this
      · have := hno i (by omega)
        simp only [Array.getD, h1, dif_pos] at this
        rw [show L[i] = false from this]
        have h3 : (both (Array.replicate k true) (l.length - k)).getD i false = false := by
          unfold both
          rw [Array.getD_eq_getD_getElem?, Array.getElem?_append_right (by simp; omega)]
          simp [Array.getElem?_replicate]
          split <;> rfl
        rw [Array.getD, dif_pos h2] at h3
        exact h3.symm
    have hcount : l.length - k ≤ L.toList.count false := by
      rw [eL]
      simp [both]
    exact any_forced (l.drop k) k L f a w (fun j => by simp) (by rw [eL]; simpa using hseq) (by simp; omega) (hend a w hT hL fun i hi => hA i hi (hall i hi))
  intro f
  induction f with
  | zero =>
    intro L a w hs hc hT hL hA hno hcl
    refine full 0 L a w hs hc hT hL hA hno fun i hi => ?_
    cases hv : L.getD i false with
    | true => rfl
    | false =>
      exfalso
      have h0 : L.toList.count false = 0 := by omega
      rw [List.count_eq_zero] at h0
      refine h0 ?_
      have hlt : i < L.size := by omega
      rw [Array.getD, dif_pos hlt] at hv
      have hv : L[i] = false := hv
      rw [← hv]
      exact Array.getElem_mem_toList hlt
  | succ f ih =>
    intro L a w hs hc hT hL hA hno hcl
    by_cases hfull : ∀ i, i < k → L.getD i false = true
    · exact full (f + 1) L a w hs hc hT hL hA hno hfull
    · refine ⟨fun hr => ?_, fun i hi => ?_⟩
      · exfalso
        refine hfull fun i => ?_
        induction i using Nat.strongRecOn with
        | _ i ih' =>
          intro hi
          cases hv : L.getD i false with
          | true => rfl
          | false =>
            have hil : i < l.length := by omega
            have hmem : i ∈ Region.ready .any l.toArray L := by
              rw [mem_ready]
              refine ⟨getD_in (by omega) hv, l[i], by simp [hil], fun e he hb => ?_⟩
              have hlt := back i l[i] hi (List.getElem?_eq_getElem hil) e.on ((mem_deps (List.getElem?_eq_getElem hil)).2 ⟨e, he, hb, rfl⟩)
              exact ih' e.on hlt (by omega)
            rw [hr] at hmem
            cases hmem
      · obtain ⟨h1, o, ho, hall⟩ := mem_ready.1 hi
        have hol : l[i]? = some o := by simpa using ho
        have hil : i < l.length := (List.getElem?_eq_some_iff.1 hol).1
        have hdeps : ∀ j ∈ depsOf l i, L.getD j false = true := fun j hj => by
          obtain ⟨e, he, hb, rfl⟩ := (mem_deps hol).1 hj
          exact hall e he hb
        have hik : i < k := by
          rcases Nat.lt_or_ge i k with h | h
          · exact h
          · exact absurd (fun j hj => need_in hcl 6 i j (need i h hil j hj) hdeps) hfull
        obtain ⟨hg, hd, hlt, hne⟩ := solo i o hik hol
        have hcome := hop i o ((same i hik).trans hol) a w hT hL (fun e he hb => hA e.on (by have := back i o hik hol e.on ((mem_deps hol).2 ⟨e, he, hb, rfl⟩); omega) (hall e he hb))
        have hnot : L.toList[i]? = some false := by
          have hlt' : i < L.size := by omega
          rw [Array.getD, dif_pos hlt'] at h1
          rw [Array.getElem?_toList, Array.getElem?_eq_getElem hlt']
          exact congrArg some h1
        have hset : ∀ j, (L.setIfInBounds i true).getD j false = true → j = i ∨ L.getD j false = true := fun j hj => by
          by_cases hij : j = i
          · exact .inl hij
          · rw [Array.getD_eq_getD_getElem?, Array.getElem?_setIfInBounds_ne (Ne.symm hij), ← Array.getD_eq_getD_getElem?] at hj
            exact .inr hj
        have hkeep : ∀ j, L.getD j false = true → (L.setIfInBounds i true).getD j false = true := fun j hj => by
          by_cases hij : j = i
          · subst hij
            have hlt' : j < L.size := by omega
            simp [Array.getD, hlt']
          · rw [Array.getD_eq_getD_getElem?, Array.getElem?_setIfInBounds_ne (Ne.symm hij), ← Array.getD_eq_getD_getElem?]
            exact hj
        have hnext : ∀ (v : Value) (w' : World), Below w.heap.size w w' → S i v w' → wpAnyIn F n P .any l.toArray Q f (L.setIfInBounds i true) (a.put o.dst v) w' := by
          intro v w' hB' hv
          rw [hd]
          refine ih _ _ w' (by simpa using hs) ?_ (then_below hT hB') ⟨?_, ?_, ?_⟩ ?_ ?_ ?_
          · have := count_set L.toList i hnot
            rw [Array.toList_setIfInBounds]
            omega
          · simp [Act.put]; exact hL.size
          · simp [Act.put]; exact hL.defers
          · intro t ht
            rw [put_ne (ht i (by rw [hlen]; exact hik))]
            exact hL.out t ht
          · intro j hjk hj
            by_cases hij : j = i
            · subst hij
              show S j ((a.put (some (dstOf (l.take k) j)) v).tmps.getD (dstOf (l.take k) j) undef) w'
              rw [put_at (by rw [hL.size]; exact hlt)]
              exact hv
            · rcases hset j hj with e | hjl
              · exact absurd e hij
              · show S j ((a.put (some (dstOf (l.take k) i)) v).tmps.getD (dstOf (l.take k) j) undef) w'
                rw [getD_ne (hne j hjk hij)]
                exact hS _ _ _ _ (hA j hjk hjl) hB'
          · intro t ht
            have hti : t ≠ i := by omega
            rw [Array.getD_eq_getD_getElem?, Array.getElem?_setIfInBounds_ne (Ne.symm hti), ← Array.getD_eq_getD_getElem?]
            exact hno t ht
          · intro t ht j hj
            rcases hset t ht with rfl | ht'
            · exact hkeep j (hdeps j hj)
            · exact hkeep j (hcl t ht' j hj)
        have hfn : ∀ f, o.about P w a.eval = some f → F.fn f := fun f _ => hF.fn f
        simp only [wpOpIn, ho, Region.wanted, hg, if_true]
        refine ⟨hfn, ?_⟩
        rw [Oper.semAt_eq _ _ _ (noDefer_spec hnd ho)]
        rcases hcome with ⟨v, w', e, hB', hv⟩ | ⟨g, args, e, hc'⟩
        · rw [e]; exact hnext v w' hB' hv
        · rw [e]
          refine ⟨fun hx => (hF.depth hx).elim, hF.calls _ _ _ _ _ (hc'.mono ?_)⟩
          rintro x w' ⟨v, rfl, hB', hv⟩
          exact hnext v w' hB' hv

/-- In whatever order the beginning goes: each of its operations' words holds when the rest begins. -/
theorem wp_region_loud4 {id : Nat} (k : Nat) (S : Nat → Value → World → Prop) (hm : P.follows .mixedOrders = true) (hB : soloB3 l k a0.tmps.size = true)
    (hS : ∀ i v w w', S i v w → Below w.heap.size w w' → S i v w')
    (hop : ∀ (i : Nat) (o : Oper), (l.take k)[i]? = some o → ∀ (a : Act) (w : World), Below w0.heap.size w0 w → Like (l.take k) a0 a → (∀ e ∈ o.after, Region.binds .any e = true → S e.on (slot (l.take k) a e.on) w) → Comes2 P o a w (S i))
    (hend : ∀ (v : Nat → Value) (w : World), Below w0.heap.size w0 w → (∀ i, i < k → S i (v i) w) → wpListIn Fence.wide 0 P l.toArray Q (l.drop k) ((List.range (l.take k).length).foldl (fun b i => b.put (some (dstOf (l.take k) i)) (v i)) a0) w) :
    (Code.region id l.toArray true).wp P Q a0 w0 := by
  refine (wpIn_wide (n := 0)).1 (wpIn_region_any hm ?_)
  refine any_loud4 (loose_wide P) hB hS hop (fun a w hT hL hA => ?_) _ _ _ _ (by simp) (by simp) ((Below.refl _ w0).drew) ⟨rfl, rfl, fun _ _ => rfl⟩ (fun i _ hi => ?_) (fun t _ => ?_) (fun t ht => ?_)
  · rw [like_puts hL]
    exact hend (slot (l.take k) a) w hT hA
  · exfalso
    rw [Array.getD_eq_getD_getElem?] at hi
    simp [Array.getElem?_replicate] at hi
    split at hi <;> simp at hi
  · rw [Array.getD_eq_getD_getElem?]
    simp [Array.getElem?_replicate]
    split <;> simp
  · exfalso
    rw [Array.getD_eq_getD_getElem?] at ht
    simp [Array.getElem?_replicate] at ht
    split at ht <;> simp at ht
end

end Go.Proofs.YtldcagjnngkabaaGreatDoor

/-
  cals.New, tidehallref09.New. (Written by tools/gen/cals_new.py.)
-/
namespace Go.Proofs.YtldcagjnngkabaaGreatDoor
open Go Go.RowKit Go.Shelf

attribute [local go_sem] Oper.semAt_some ext_const

/-- 'make([][]api.Slot, n)', as one operation. -/
theorem mk_runY {o : Oper} {a : Act} {W : World} (l c : Operand) (ho : o.op = Op.makeSlice 24 l c) (n : Nat) (hl : a.eval l = .int .i64 n) (hc : a.eval c = .int .i64 n) (h1 : n ≤ 100000) :
    (execOp a.eval o).run Tryz.prog W = .ok (.value (.slice (some ⟨W.heap.size, 0, none⟩) n n)) (W.alloc (.cells (List.replicate n (Value.slice none 0 0)).toArray 79)) := by
  obtain ⟨i0, hi, hz0, hz1, hz2⟩ := info_parts info_c
  have hrun := run_make (P := Tryz.prog) W 24 79 i0 (.slice none 0 0) Tryz.underlying24 hi hz0 .i64 .i64 n n (by omega) (by omega) (by rw [hz2]; omega) (by omega)
  rw [hz1, Nat.mul_one] at hrun
  simp only [Int.toNat_natCast] at hrun
  rw [show (Value.slice none 0 0).cells = #[.slice none 0 0] from rfl, made_nil] at hrun
  generalize (List.replicate n (Value.slice none 0 0)).toArray = cs at hrun
  simp [execOp, ho, hl, hc, hrun, Result.andThen]

/-- A list of empty calendars, just made. -/
def MadeY (base n : Nat) (v : Value) (w : World) : Prop := ∃ g, v = .slice (some ⟨g, 0, none⟩) n n ∧ Blk w g 79 (List.replicate n (Value.slice none 0 0)).toArray ∧ base ≤ g
theorem MadeY.later {base n : Nat} {v : Value} {w w' : World} (h : MadeY base n v w) (hB : Below w.heap.size w w') : MadeY base n v w' := by
  obtain ⟨g, h1, h2, h3⟩ := h
  exact ⟨g, h1, h2.later hB, h3⟩
theorem MadeY.yo {base n : Nat} {v : Value} {w : World} (h : MadeY base n v w) (hn : n ≤ 100000) : Yo w base v (List.replicate n []) := by
  obtain ⟨g, rfl, h2, h3⟩ := h
  exact Made.empty h2 h3 hn
/-- What each operation of New's last statement comes to. -/
def wordNY (a b c : Int) (nn ll base : Nat) (i : Nat) (v : Value) (w : World) : Prop :=
  match i with
  | 0 => v = A3 a b c
  | 1 => v = I nn
  | 2 => MadeY base nn v w
  | 3 => v = I nn
  | 4 => v = I ll
  | 5 => MadeY base ll v w
  | 6 => ∃ ao1 n1 c1 ao2 n2 c2, v = Y5 a b c (.slice ao1 n1 c1) (.slice ao2 n2 c2) ∧ MadeY base nn (.slice ao1 n1 c1) w ∧ MadeY base ll (.slice ao2 n2 c2) w
  | _ => False
theorem wordNY_later {a b c : Int} {nn ll base : Nat} (i : Nat) (v : Value) (w w' : World) (h : wordNY a b c nn ll base i v w) (hB : Below w.heap.size w w') : wordNY a b c nn ll base i v w' := by
  match i, h with
  | 0, h => exact h
  | 1, h => exact h
  | 2, h => exact MadeY.later h hB
  | 3, h => exact h
  | 4, h => exact h
  | 5, h => exact MadeY.later h hB
  | 6, ⟨o1, n1, c1, o2, n2, c2, h1, h2, h3⟩ => exact ⟨o1, n1, c1, o2, n2, c2, h1, h2.later hB, h3.later hB⟩
  | n + 7, h => exact h.elim

/-- New's error. -/
def newE (a b c : Int) : Int := if mayDB a b c then 0 else 8
theorem newE_ok {a b c : Int} (h : mayD a b c) : newE a b c = 0 := by rw [newE, if_pos (mayDB_iff.2 h)]
theorem newE_no {a b c : Int} (h : ¬ mayD a b c) : newE a b c = 8 := by rw [newE, if_neg (by rw [mayDB_iff]; exact h)]
def emptyC (n : Int) : List (List Slt) := List.replicate n.toNat []

set_option maxRecDepth 100000 in
set_option maxHeartbeats 16000000 in
theorem yNew_calls {a b c : Int} (w : World) :
    Calls Tryz.prog 24 #[A3 a b c] w fun e W' => ∃ u v, e = .returned (.tuple #[Y5 (dimE (newE a b c) a) (dimE (newE a b c) b) (dimE (newE a b c) c) u v, I (newE a b c)]) ∧ Yo W' w.heap.size u (rowsE (newE a b c) (emptyC (a * b * c))) ∧ Yo W' w.heap.size v (rowsE (newE a b c) (emptyC (3 * (a * b * c)))) ∧ Below w.heap.size w W' := by
  have hmx : Tryz.prog.follows .mixedOrders = true := by kernel_rfl
  obtain ⟨W, hW, hB, hK, hR⟩ := two_start w #[I a, I b, I c] (K5 0 0 0 (.slice none 0 0) (.slice none 0 0)) 23 26
  have HW : Hid ((w.alloc (.cells #[I a, I b, I c] 23)).alloc (.cells (K5 0 0 0 (.slice none 0 0) (.slice none 0 0)) 26) = W) := hW
  have hWs : w.heap.size + 1 < W.heap.size := hR.lt
  by_cases hd : mayD a b c
  · rw [newE_ok hd]
    simp only [dim_ok, rows_ok]
    have hN := N_bd hd
    have HM : Hid (∀ w, Calls Tryz.prog 48 #[A3 a b c] w fun e W' => e = .returned (.tuple #[I (a * b * c), I 0]) ∧ Below w.heap.size w W') := fun w => many_yes w hd
    unfold emptyC
    generalize a * b * c = N at *
    obtain ⟨nn, rfl⟩ : ∃ nn : Nat, N = nn := ⟨N.toNat, by omega⟩
    rw [show (3 * (nn : Int)).toNat = 3 * nn by omega, Int.toNat_natCast]
    have hll : 3 * nn ≤ 100000 := by omega
    have hnn : nn ≤ 100000 := by omega
    have hmul : wrap64 (3 * (nn : Int)) = ((3 * nn : Nat) : Int) := by rw [wrap_in _ (by omega)]; omega
    have hmul2 : IntKind.i64.wrap (3 * (nn : Int)) = ((3 * nn : Nat) : Int) := by rw [IntKind.wrap_i64]; omega
    clear hW hd hN
    generalize 3 * nn = ll at *
    go_enter Tryz.func24, Tryz.ntmps24
    go_wp2_with fail
    rw [HW.out]
    refine (HM.out _).mono ?_
    rintro e w1 ⟨rfl, hT⟩
    have q0 := hK.later hT
    go_wp2_with fail
    refine wp_region_loud4 (w0 := w1) 7 (wordNY a b c nn ll w1.heap.size) hmx (by kernel_rfl) wordNY_later ?_ ?_
    · intro i op hi act w' hTT hL hpre
      have s1 : act.tmps.getD 1 undef = .pointer (some ⟨w.heap.size, 0, none⟩) := by
        rw [Array.getD_eq_getD_getElem?, hL.out 1 (of_decide_eq_true (by kernel_rfl))]; rfl
      have s4 : act.tmps.getD 4 undef = I nn := by
        rw [Array.getD_eq_getD_getElem?, hL.out 4 (of_decide_eq_true (by kernel_rfl))]; rfl
      obtain ⟨p0, p1, p2, hz⟩ := q0.three hTT
      have hBw := Below.refl w'.heap.size w'
      clear hL
      match i, hi with
      | 0, hi =>
        obtain rfl := Option.some.inj hi
        refine .inl ⟨A3 a b c, w', ?_, hBw, rfl⟩
        simp [execOp, go_sem, Act.eval, s1, p0, p1, p2]
      | 1, hi =>
        obtain rfl := Option.some.inj hi
        refine .inl ⟨I nn, w', ?_, hBw, rfl⟩
        simp [execOp, go_sem, Act.eval, s4]
      | 2, hi =>
        obtain rfl := Option.some.inj hi
        have x0 : act.tmps.getD 16 undef = I nn := hpre ⟨1, .data⟩ (by simp) rfl
        exact .inl ⟨_, _, mk_runY (.tmp 16) (.tmp 16) rfl nn x0 x0 hnn, (Below.refl _ w').alloc (Nat.le_refl _) _, w'.heap.size, rfl, Blk.new w' _ _, hTT.size⟩
      | 3, hi =>
        obtain rfl := Option.some.inj hi
        refine .inl ⟨I nn, w', ?_, hBw, rfl⟩
        simp [execOp, go_sem, Act.eval, s4]
      | 4, hi =>
        obtain rfl := Option.some.inj hi
        have x0 : act.tmps.getD 18 undef = I nn := hpre ⟨3, .data⟩ (by simp) rfl
        refine .inl ⟨I ll, w', ?_, hBw, rfl⟩
        simp [execOp, go_sem, Act.eval, x0, hmul2]
      | 5, hi =>
        obtain rfl := Option.some.inj hi
        have x0 : act.tmps.getD 19 undef = I ll := hpre ⟨4, .data⟩ (by simp) rfl
        exact .inl ⟨_, _, mk_runY (.tmp 19) (.tmp 19) rfl ll x0 x0 hll, (Below.refl _ w').alloc (Nat.le_refl _) _, w'.heap.size, rfl, Blk.new w' _ _, hTT.size⟩
      | 6, hi =>
        obtain rfl := Option.some.inj hi
        have x0 : act.tmps.getD 15 undef = A3 a b c := hpre ⟨0, .data⟩ (by simp) rfl
        obtain ⟨g, x1, k1⟩ : MadeY w1.heap.size nn (act.tmps.getD 17 undef) w' := hpre ⟨2, .data⟩ (by simp) rfl
        obtain ⟨g', x2, k2⟩ : MadeY w1.heap.size ll (act.tmps.getD 20 undef) w' := hpre ⟨5, .data⟩ (by simp) rfl
        refine .inl ⟨Y5 a b c (.slice (some ⟨g, 0, none⟩) nn nn) (.slice (some ⟨g', 0, none⟩) ll ll), w', ?_, hBw, _, _, _, _, _, _, rfl, ⟨g, rfl, k1⟩, ⟨g', rfl, k2⟩⟩
        rw [Array.getD_eq_getD_getElem?] at x0 x1 x2
        simp [execOp, go_sem, Act.eval, x0, x1, x2]
      | n + 7, hi => simp at hi
    · intro vs w2 hT2 hall
      obtain ⟨ao1, n1, c1, ao2, n2, c2, h6, hU, hV⟩ : ∃ ao1 n1 c1 ao2 n2 c2, vs 6 = Y5 a b c (.slice ao1 n1 c1) (.slice ao2 n2 c2) ∧ MadeY w1.heap.size nn (.slice ao1 n1 c1) w2 ∧ MadeY w1.heap.size ll (.slice ao2 n2 c2) w2 := hall 6 (by decide)
      clear hall
      simp only [List.take_succ_cons, List.take_zero, List.drop_succ_cons, List.drop_zero, List.length_cons, List.length_nil, Nat.zero_add, Nat.reduceAdd, List.range, List.range.loop, List.foldl_cons, List.foldl_nil, dstOf, List.getElem?_cons_zero, List.getElem?_cons_succ, Option.getD_some, Act.put, h6, List.setIfInBounds_toArray, List.set_cons_succ, List.set_cons_zero]
      clear h6
      generalize vs 0 = y0
      generalize vs 1 = y1
      generalize vs 2 = y2
      generalize vs 3 = y3
      generalize vs 4 = y4
      generalize vs 5 = y5
      clear vs
      have hU := hU.yo hnn
      have hV := hV.yo hll
      have hT2 := then_below hT hT2
      have hR2 := hR.later hT2
      have HS := hR2.set5 (.int .i64 a) (.int .i64 b) (.int .i64 c) (.slice ao1 n1 c1) (.slice ao2 n2 c2)
      have hlow := below_set5 (then_below hB hT2) (show w.heap.size ≤ w.heap.size + 1 by omega) (.int .i64 a) (.int .i64 b) (.int .i64 c) (.slice ao1 n1 c1) (.slice ao2 n2 c2)
      have HU : Hid (Yo (put5 w2 (w.heap.size + 1) (.int .i64 a) (.int .i64 b) (.int .i64 c) (.slice ao1 n1 c1) (.slice ao2 n2 c2)) w.heap.size (.slice ao1 n1 c1) (List.replicate nn [])) := (hU.put5 (Nat.lt_of_lt_of_le hWs hT.size) _ _ _ _ _).weak (Nat.le_trans hB.size hT.size)
      have HV : Hid (Yo (put5 w2 (w.heap.size + 1) (.int .i64 a) (.int .i64 b) (.int .i64 c) (.slice ao1 n1 c1) (.slice ao2 n2 c2)) w.heap.size (.slice ao2 n2 c2) (List.replicate ll [])) := (hV.put5 (Nat.lt_of_lt_of_le hWs hT.size) _ _ _ _ _).weak (Nat.le_trans hB.size hT.size)
      clear hU hV q0
      obtain ⟨q0, q1, q2, q3, q4, hzq⟩ := hR2.five
      obtain ⟨f0, f1, f2, f3, f4⟩ := hR2.row5
      gi_wp2
      go_wp2
      obtain ⟨j0, j1, j2, j3, j4, _⟩ := HS.five
      exact bodyPost_ret (v := .tuple #[Y5 a b c (.slice ao1 n1 c1) (.slice ao2 n2 c2), I 0]) (by simp [results, Tryz.f24, go_sem, j0, j1, j2, j3, j4]) rfl ⟨_, _, rfl, HU.out, HV.out, hlow⟩
  · rw [newE_no hd]
    have h8 : (8 : Int) ≠ 0 := by decide
    simp only [dim_no h8, rows_no h8]
    have HM : Hid (∀ w, Calls Tryz.prog 48 #[A3 a b c] w fun e W' => e = .returned (.tuple #[I 0, I 8]) ∧ Below w.heap.size w W') := fun w => many_no w hd
    clear hW hd h8
    go_enter Tryz.func24, Tryz.ntmps24
    go_wp2_with fail
    rw [HW.out]
    refine (HM.out _).mono ?_
    rintro e w1 ⟨rfl, hT⟩
    have hR2 := hR.later hT
    have HS := hR2.set5 (.int .i64 0) (.int .i64 0) (.int .i64 0) (.slice none 0 0) (.slice none 0 0)
    have hlow := below_set5 (then_below hB hT) (show w.heap.size ≤ w.heap.size + 1 by omega) (.int .i64 0) (.int .i64 0) (.int .i64 0) (.slice none 0 0) (.slice none 0 0)
    obtain ⟨q0, q1, q2, q3, q4, hzq⟩ := hR2.five
    obtain ⟨f0, f1, f2, f3, f4⟩ := hR2.row5
    go_wp2_with fail
    obtain ⟨j0, j1, j2, j3, j4, _⟩ := HS.five
    exact bodyPost_ret (v := .tuple #[Y5 0 0 0 (.slice none 0 0) (.slice none 0 0), I 8]) (by simp [results, Tryz.f24, go_sem, j0, j1, j2, j3, j4]) rfl ⟨_, _, rfl, Yo.nil _ _, Yo.nil _ _, hlow⟩

end Go.Proofs.YtldcagjnngkabaaGreatDoor
