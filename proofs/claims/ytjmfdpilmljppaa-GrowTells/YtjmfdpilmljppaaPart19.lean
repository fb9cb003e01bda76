/-
  As Loud, where the operations from number k on come last, each the only one that may come up: they wait, if only through others, for all of the beginning.
-/
import Derived.Test.YtjmfdpilmljppaaPart8
import Derived.Test.YtjmfdpilmljppaaPart18
namespace Go.Proofs.Ytjmfdpilmljppaa
open Go Go.RowKit Go.Shelf

section
variable {F : Fence} {n : Nat} {P : Program}

/-- For what an operation waits. -/
def depsOf (l : List Oper) (t : Nat) : List Nat := match l[t]? with | some o => (o.after.toList.filter fun e => Region.binds .any e).map (·.on) | none => []
/-- It waits for another one, if only through others. -/
def needB (l : List Oper) : Nat → Nat → Nat → Bool
  | 0, _, _ => false
  | f + 1, t, i => (depsOf l t).any fun j => j == i || needB l f j i
/-- The beginning, of k operations: each writes a slot of its own, waits for such as stand ahead alone; all the others wait for each of it. -/
def soloB3 (l : List Oper) (k m : Nat) : Bool :=
  decide (k ≤ l.length) && ((l.take k).all fun o => o.guard.isNone && o.dst.isSome) && ((List.range k).all fun i => decide (dstOf (l.take k) i < m) && (List.range k).all fun j => i == j || dstOf (l.take k) i != dstOf (l.take k) j) && noDefer l.toArray &&
  ((List.range k).all fun t => match l[t]? with | some o => backOnly o t | none => true) &&
  ((List.range (l.length - k)).all fun t => (List.range k).all fun i => needB l 6 (k + t) i) &&
  Region.seqB .any l.toArray (l.length - k) k (both (Array.replicate k true) (l.length - k))

def Closed (l : List Oper) (L : Array Bool) : Prop := ∀ t, L.getD t false = true → ∀ j ∈ depsOf l t, L.getD j false = true
theorem need_in {l : List Oper} {L : Array Bool} (hc : Closed l L) : ∀ (f t i : Nat), needB l f t i = true → (∀ j ∈ depsOf l t, L.getD j false = true) → L.getD i false = true
  | 0, _, _, h, _ => by cases h
  | f + 1, t, i, h, hd => by
    obtain ⟨j, hj, hij⟩ := List.any_eq_true.1 h
    rcases (Bool.or_eq_true_iff.1 hij) with e | e
    · have : j = i := by simpa using e
      exact this ▸ hd j hj
    · exact need_in hc f j i e (hc j (hd j hj))
theorem mem_deps {l : List Oper} {t : Nat} {o : Oper} (ho : l[t]? = some o) {j : Nat} : j ∈ depsOf l t ↔ ∃ e ∈ o.after, Region.binds .any e = true ∧ e.on = j := by
  unfold depsOf
  rw [ho]
  simp only [List.mem_map, List.mem_filter, Array.mem_toList_iff]
  exact ⟨fun ⟨e, ⟨h1, h2⟩, h3⟩ => ⟨e, h1, h2, h3⟩, fun ⟨e, h1, h2, h3⟩ => ⟨e, ⟨h1, h2⟩, h3⟩⟩

/-- An operation that comes to a value, and it may be to a turned world. -/
theorem wpListIn_value {ops : Array Oper} {rest : List Oper} {o : Oper} {a : Act} {Q : Exit → Act → World → Prop} {w w' : World} {v : Value} (hF : Loose F P) (hgd : o.guard = none) (hd : ∀ c, o.op ≠ .defer c)
    (hrun : (execOp a.eval o).run P w = .ok (.value v) w') (h : wpListIn F n P ops Q rest (a.put o.dst v) w') : wpListIn F n P ops Q (o :: rest) a w := by
  have hfn : ∀ f, o.about P w a.eval = some f → F.fn f := fun f _ => hF.fn f
  unfold wpListIn
  simp only [Region.wanted, hgd, if_true]
  refine ⟨hfn, ?_⟩
  rw [Oper.semAt_eq _ _ _ hd, hrun]
  exact h

variable {l : List Oper} {a0 : Act} {w0 : World} {Q : Exit → Act → World → Prop} {S : Nat → Value → World → Prop} {k : Nat}

theorem any_loud3 (hF : Loose F P) (hB : soloB3 l k a0.tmps.size = true)
    (hS : ∀ i v w w', S i v w → Below w.heap.size w w' → S i v w')
    (hop : ∀ (i : Nat) (o : Oper), (l.take k)[i]? = some o → ∀ (a : Act) (w : World), Below w0.heap.size w0 w → Like (l.take k) a0 a → (∀ e ∈ o.after, Region.binds .any e = true → S e.on (slot (l.take k) a e.on) w) → Comes P o a w (S i))
    (hend : ∀ (a : Act) (w : World), Below w0.heap.size w0 w → Like (l.take k) a0 a → (∀ i, i < k → S i (slot (l.take k) a i) w) → wpListIn F n P l.toArray Q (l.drop k) a w) :
    ∀ (f : Nat) (L : Array Bool) (a : Act) (w : World), L.size = l.length → L.toList.count false ≤ f → Below w0.heap.size w0 w → Like (l.take k) a0 a → (∀ i, i < k → L.getD i false = true → S i (slot (l.take k) a i) w) → (∀ t, k ≤ t → L.getD t false = false) → Closed l L → wpAnyIn F n P .any l.toArray Q f L a w := by
  simp only [soloB3, Bool.and_eq_true] at hB
  obtain ⟨⟨⟨⟨⟨⟨hk, hB1⟩, hB2⟩, hnd⟩, hback⟩, hneed⟩, hseq⟩ := hB
  have hk : k ≤ l.length := of_decide_eq_true hk
  have hlen : (l.take k).length = k := by simp [hk]
  have same : ∀ i, i < k → (l.take k)[i]? = l[i]? := fun i hi => by simp [hi]
  have back : ∀ i o, i < k → l[i]? = some o → ∀ j ∈ depsOf l i, j < i := fun i o hi ho j hj => by
    have h1 := List.all_eq_true.1 hback i (List.mem_range.2 hi)
    rw [ho] at h1
    obtain ⟨e, he, hb, rfl⟩ := (mem_deps ho).1 hj
    have := Array.all_eq_true'.1 (Bool.and_eq_true_iff.1 h1).1 e he
    simpa [hb] using this
  have need : ∀ t, k ≤ t → t < l.length → ∀ i, i < k → needB l 6 t i = true := fun t h1 h2 i hi => by
    have h3 := List.all_eq_true.1 hneed (t - k) (List.mem_range.2 (by omega))
    have := List.all_eq_true.1 h3 i (List.mem_range.2 hi)
    rwa [show k + (t - k) = t by omega] at this
  have solo : ∀ i o, i < k → l[i]? = some o → o.guard = none ∧ o.dst = some (dstOf (l.take k) i) ∧ dstOf (l.take k) i < a0.tmps.size ∧ ∀ j, j < k → j ≠ i → dstOf (l.take k) i ≠ dstOf (l.take k) j := fun i o hi ho => by
    have ho' : (l.take k)[i]? = some o := (same i hi).trans ho
    obtain ⟨hlt, he⟩ := List.getElem?_eq_some_iff.1 ho'
    have k1 := List.all_eq_true.1 hB1 o (he ▸ List.getElem_mem hlt)
    simp only [Bool.and_eq_true, Option.isNone_iff_eq_none] at k1
    have k2 := List.all_eq_true.1 hB2 i (List.mem_range.2 hi)
    simp only [Bool.and_eq_true, decide_eq_true_eq] at k2
    refine ⟨k1.1, ?_, k2.1, fun j hj hne => ?_⟩
    · obtain ⟨d, hd⟩ := Option.isSome_iff_exists.1 k1.2
      simp [dstOf, ho', hd]
    · have := List.all_eq_true.1 k2.2 j (List.mem_range.2 hj)
      simp only [Bool.or_eq_true, beq_iff_eq, bne_iff_ne] at this
      rcases this with e | e
      · exact absurd e.symm hne
      · exact e
  have full : ∀ (f : Nat) (L : Array Bool) (a : Act) (w : World), L.size = l.length → L.toList.count false ≤ f → Below w0.heap.size w0 w → Like (l.take k) a0 a → (∀ i, i < k → L.getD i false = true → S i (slot (l.take k) a i) w) → (∀ t, k ≤ t → L.getD t false = false) → (∀ i, i < k → L.getD i false = true) → wpAnyIn F n P .any l.toArray Q f L a w := by
    intro f L a w hs hc hT hL hA hno hall
    have eL : L = both (Array.replicate k true) (l.length - k) := by
      refine Array.ext (by simp [both]; omega) fun i h1 h2 => ?_
      by_cases hi : i < k
      · have := hall i hi
        simpa [Array.getD, h1, both, Array.getElem_append_left, hi] using this
      · have := hno i (by omega)
        simp only [Array.getD, h1, dif_pos] at this
        rw [show L[i] = false from this]
        have h3 : (both (Array.replicate k true) (l.length - k)).getD i false = false := by
          unfold both
          rw [Array.getD_eq_getD_getElem?, Array.getElem?_append_right (by simp; omega)]
          simp [Array.getElem?_replicate]
          split <;> rfl
        rw [Array.getD, dif_pos h2] at h3
        exact h3.symm
    have hcount : l.length - k ≤ L.toList.count false := by
      rw [eL]
      simp [both]
    exact any_forced (l.drop k) k L f a w (fun j => by simp) (by rw [eL]; simpa using hseq) (by simp; omega) (hend a w hT hL fun i hi => hA i hi (hall i hi))
  intro f
  induction f with
  | zero =>
    intro L a w hs hc hT hL hA hno hcl
    refine full 0 L a w hs hc hT hL hA hno fun i hi => ?_
    cases hv : L.getD i false with
    | true => rfl
    | false =>
      exfalso
      have h0 : L.toList.count false = 0 := by omega
      rw [List.count_eq_zero] at h0
      refine h0 ?_
      have hlt : i < L.size := by omega
      rw [Array.getD, dif_pos hlt] at hv
      have hv : L[i] = false := hv
      rw [← hv]
      exact Array.getElem_mem_toList hlt
  | succ f ih =>
    intro L a w hs hc hT hL hA hno hcl
    by_cases hfull : ∀ i, i < k → L.getD i false = true
    · exact full (f + 1) L a w hs hc hT hL hA hno hfull
    · refine ⟨fun hr => ?_, fun i hi => ?_⟩
      · exfalso
        refine hfull fun i => ?_
        induction i using Nat.strongRecOn with
        | _ i ih' =>
          intro hi
          cases hv : L.getD i false with
          | true => rfl
          | false =>
            have hil : i < l.length := by omega
            have hmem : i ∈ Region.ready .any l.toArray L := by
              rw [mem_ready]
              refine ⟨getD_in (by omega) hv, l[i], by simp [hil], fun e he hb => ?_⟩
              have hlt := back i l[i] hi (List.getElem?_eq_getElem hil) e.on ((mem_deps (List.getElem?_eq_getElem hil)).2 ⟨e, he, hb, rfl⟩)
              exact ih' e.on hlt (by omega)
            rw [hr] at hmem
            cases hmem
      · obtain ⟨h1, o, ho, hall⟩ := mem_ready.1 hi
        have hol : l[i]? = some o := by simpa using ho
        have hil : i < l.length := (List.getElem?_eq_some_iff.1 hol).1
        have hdeps : ∀ j ∈ depsOf l i, L.getD j false = true := fun j hj => by
          obtain ⟨e, he, hb, rfl⟩ := (mem_deps hol).1 hj
          exact hall e he hb
        have hik : i < k := by
          rcases Nat.lt_or_ge i k with h | h
          · exact h
          · exact absurd (fun j hj => need_in hcl 6 i j (need i h hil j hj) hdeps) hfull
        obtain ⟨hg, hd, hlt, hne⟩ := solo i o hik hol
        have hcome := hop i o ((same i hik).trans hol) a w hT hL (fun e he hb => hA e.on (by have := back i o hik hol e.on ((mem_deps hol).2 ⟨e, he, hb, rfl⟩); omega) (hall e he hb))
        have hnot : L.toList[i]? = some false := by
          have hlt' : i < L.size := by omega
          rw [Array.getD, dif_pos hlt'] at h1
          rw [Array.getElem?_toList, Array.getElem?_eq_getElem hlt']
          exact congrArg some h1
        have hset : ∀ j, (L.setIfInBounds i true).getD j false = true → j = i ∨ L.getD j false = true := fun j hj => by
          by_cases hij : j = i
          · exact .inl hij
          · rw [Array.getD_eq_getD_getElem?, Array.getElem?_setIfInBounds_ne (Ne.symm hij), ← Array.getD_eq_getD_getElem?] at hj
            exact .inr hj
        have hkeep : ∀ j, L.getD j false = true → (L.setIfInBounds i true).getD j false = true := fun j hj => by
          by_cases hij : j = i
          · subst hij
            have hlt' : j < L.size := by omega
            simp [Array.getD, hlt']
          · rw [Array.getD_eq_getD_getElem?, Array.getElem?_setIfInBounds_ne (Ne.symm hij), ← Array.getD_eq_getD_getElem?]
            exact hj
        have hnext : ∀ (v : Value) (w' : World), Below w.heap.size w w' → S i v w' → wpAnyIn F n P .any l.toArray Q f (L.setIfInBounds i true) (a.put o.dst v) w' := by
          intro v w' hB' hv
          rw [hd]
          refine ih _ _ w' (by simpa using hs) ?_ (then_below hT hB') ⟨?_, ?_, ?_⟩ ?_ ?_ ?_
          · have := count_set L.toList i hnot
            rw [Array.toList_setIfInBounds]
            omega
          · simp [Act.put]; exact hL.size
          · simp [Act.put]; exact hL.defers
          · intro t ht
            rw [put_ne (ht i (by rw [hlen]; exact hik))]
            exact hL.out t ht
          · intro j hjk hj
            by_cases hij : j = i
            · subst hij
              show S j ((a.put (some (dstOf (l.take k) j)) v).tmps.getD (dstOf (l.take k) j) undef) w'
              rw [put_at (by rw [hL.size]; exact hlt)]
              exact hv
            · rcases hset j hj with e | hjl
              · exact absurd e hij
              · show S j ((a.put (some (dstOf (l.take k) i)) v).tmps.getD (dstOf (l.take k) j) undef) w'
                rw [getD_ne (hne j hjk hij)]
                exact hS _ _ _ _ (hA j hjk hjl) hB'
          · intro t ht
            have hti : t ≠ i := by omega
            rw [Array.getD_eq_getD_getElem?, Array.getElem?_setIfInBounds_ne (Ne.symm hti), ← Array.getD_eq_getD_getElem?]
            exact hno t ht
          · intro t ht j hj
            rcases hset t ht with rfl | ht'
            · exact hkeep j (hdeps j hj)
            · exact hkeep j (hcl t ht' j hj)
        have hfn : ∀ f, o.about P w a.eval = some f → F.fn f := fun f _ => hF.fn f
        simp only [wpOpIn, ho, Region.wanted, hg, if_true]
        refine ⟨hfn, ?_⟩
        rw [Oper.semAt_eq _ _ _ (noDefer_spec hnd ho)]
        rcases hcome with ⟨v, e, hv⟩ | ⟨g, args, e, hc'⟩
        · rw [e]; exact hnext v w (Below.refl _ _) hv
        · rw [e]
          refine ⟨fun hx => (hF.depth hx).elim, hF.calls _ _ _ _ _ (hc'.mono ?_)⟩
          rintro x w' ⟨v, rfl, hB', hv⟩
          exact hnext v w' hB' hv

/-- In whatever order the beginning goes: each of its operations' words holds when the rest begins. -/
theorem wp_region_loud3 {id : Nat} (k : Nat) (S : Nat → Value → World → Prop) (hm : P.follows .mixedOrders = true) (hB : soloB3 l k a0.tmps.size = true)
    (hS : ∀ i v w w', S i v w → Below w.heap.size w w' → S i v w')
    (hop : ∀ (i : Nat) (o : Oper), (l.take k)[i]? = some o → ∀ (a : Act) (w : World), Below w0.heap.size w0 w → Like (l.take k) a0 a → (∀ e ∈ o.after, Region.binds .any e = true → S e.on (slot (l.take k) a e.on) w) → Comes P o a w (S i))
    (hend : ∀ (v : Nat → Value) (w : World), Below w0.heap.size w0 w → (∀ i, i < k → S i (v i) w) → wpListIn Fence.wide 0 P l.toArray Q (l.drop k) ((List.range (l.take k).length).foldl (fun b i => b.put (some (dstOf (l.take k) i)) (v i)) a0) w) :
    (Code.region id l.toArray true).wp P Q a0 w0 := by
  refine (wpIn_wide (n := 0)).1 (wpIn_region_any hm ?_)
  refine any_loud3 (loose_wide P) hB hS hop (fun a w hT hL hA => ?_) _ _ _ _ (by simp) (by simp) ((Below.refl _ w0).drew) ⟨rfl, rfl, fun _ _ => rfl⟩ (fun i _ hi => ?_) (fun t _ => ?_) (fun t ht => ?_)
  · rw [like_puts hL]
    exact hend (slot (l.take k) a) w hT hA
  · exfalso
    rw [Array.getD_eq_getD_getElem?] at hi
    simp [Array.getElem?_replicate] at hi
    split at hi <;> simp at hi
  · rw [Array.getD_eq_getD_getElem?]
    simp [Array.getElem?_replicate]
    split <;> simp
  · exfalso
    rw [Array.getD_eq_getD_getElem?] at ht
    simp [Array.getElem?_replicate] at ht
    split at ht <;> simp at ht
end

/-- 'append(list, more...)', as one operation: what it comes to. -/
theorem cat_run {o : Oper} {a : Act} {W : World} {base b2 : Nat} {v u : Value} {xs ys : List Int} (s x : Operand)
    (ho : o.op = .call { callee := .builtin .append, args := #[s, x], argTypes := #[52, 52] }) (hs : a.eval s = v) (hx : a.eval x = u)
    (hown : Lst W base v xs) (hu : Lst W b2 u ys) (hl : xs.length ≤ 100000) (hl2 : ys.length ≤ 100000) (hb : base ≤ W.heap.size) :
    ∃ v' w', (execOp a.eval o).run Try.prog W = .ok (.value v') w' ∧ Lst w' base v' (xs ++ ys) ∧ Below base W w' := by
  obtain ⟨i0, hi, hz0, hz1, hz2⟩ := info_parts info_int
  have hv := hu.view
  rcases hu.2 with ⟨rfl, hn⟩ | ⟨g, cap, cur, rfl, hg, hh, hc, hc2, hs2, ht⟩
  · have : ys = [] := List.length_eq_zero_iff.1 hn
    subst this
    rw [List.append_nil]
    have hrun := run_append_owned_none (P := Try.prog) (w := W) base 52 o.type 3 i0 1 Try.underlying52 hi v xs.length _ hown
    refine ⟨v, W, ?_, hown, Below.refl _ _⟩
    simp [execOp, ho, resolve, invoke, builtin, hs, hx, hrun, Result.andThen]
  · have hnews : ∀ j y, (ys.map (Value.int .i64))[j]? = some y → W.cell? ((⟨g, 0, none⟩ : Addr).add j) = some y := by
      intro j y hj
      have hjl : j < ys.length := by
        have := (List.getElem?_eq_some_iff.1 hj).1
        simpa using this
      obtain ⟨ao, c, e, hw⟩ := hv
      simp only [Value.slice.injEq] at e
      obtain ⟨rfl, -, -⟩ := e
      obtain ⟨g', cur', e, hB, hc'⟩ := hw j hjl
      simp only [Option.some.injEq, Addr.mk.injEq] at e
      obtain ⟨rfl, -, -⟩ := e
      have : (⟨g, 0, none⟩ : Addr).add j = ⟨g, j, none⟩ := by
        unfold Addr.add
        split
        · rename_i h0; subst h0; rfl
        · simp
      rw [this, hB.cell j, hc', ← hj]
      simp [hjl]
    have hone : ∀ y ∈ ys.map (Value.int .i64), y.oneCell' = true := by
      intro y hy
      obtain ⟨z, _, rfl⟩ := List.mem_map.1 hy
      rfl
    obtain ⟨v', w', hr, h2, h3, _⟩ := run_append_own (P := Try.prog) W base 52 o.type 3 i0 (.int .i64 0) 1 8 Try.underlying52 hi hz0 hz1 hz2 rfl (by decide) v xs.length (xs.map (Value.int .i64)) hown ⟨g, 0, none⟩ ys.length cap (ys.map (Value.int .i64)) (by simp) hnews hone (by unfold maxLen; omega) (by omega) hb
    refine ⟨v', w', ?_, ?_, (Below.refl base W).grown h3 hb (fun k hk => (World.ownsRow.lt hown k hk).1)⟩
    · simp [execOp, ho, resolve, invoke, builtin, hs, hx, hr, Result.andThen]
    · unfold Lst
      rw [List.map_append, List.length_append]
      exact h2

end Go.Proofs.Ytjmfdpilmljppaa

/-
  tidehallref13.Free, Largest, Most.
-/
namespace Go.Proofs.Ytjmfdpilmljppaa
open Go Go.RowKit Go.Shelf Go.Maps

attribute [local go_sem] Oper.semAt_some ext_const
attribute [local go_sem high] eq_box

set_option maxRecDepth 100000 in
set_option maxHeartbeats 4000000 in
theorem rgfree_calls {v : Value} {ws : List Nat} (d0 d1 d2 : Int) (w : World) (hv : Wds w v ws) :
    Calls Try.prog 15 #[A3 d0 d1 d2, v] w fun e W' => ∃ u, e = .returned (.tuple #[u, I (errF d0 d1 d2 ws)]) ∧ Lx W' w.heap.size u (freeV d0 d1 d2 ws) ∧ Below w.heap.size w W' := by
  have hB0 : Below w.heap.size w (w.alloc (.cells #[I d0, I d1, I d2] 26)) := (Below.refl _ w).alloc (Nat.le_refl _) _
  have b0 := Blk.new w 26 #[I d0, I d1, I d2]
  have HM : Hid (∀ w1, Below w.heap.size w w1 → Calls Try.prog 33 #[A3 d0 d1 d2, v] w1 fun e W' => e = .returned (.bool (decide (errG d0 d1 d2 ws = 0))) ∧ Below w1.heap.size w1 W') := fun w1 h1 => rgmay_calls d0 d1 d2 w1 (hv.later h1)
  by_cases hg : errG d0 d1 d2 ws = 0
  · obtain ⟨hd, hse, _⟩ : mayD d0 d1 d2 ∧ errAll (d0 * d1 * d2) [ws] = 0 ∧ errG d0 d1 d2 ws = 0 := by
      rcases errG_cases d0 d1 d2 ws with h | ⟨_, h⟩ | ⟨_, _, h⟩
      · exact h
      · rw [hg] at h; cases h
      · rw [hg] at h; cases h
    have hn := N_bd hd
    rw [decide_eq_true hg] at HM
    have HN : Hid (∀ w, Calls Try.prog 34 #[A3 d0 d1 d2] w fun e W' => e = .returned (I (d0 * d1 * d2)) ∧ Below w.heap.size w W') := fun w => rn_calls w hd
    by_cases h64 : 64 < d0 * d1 * d2
    · have e1 : errF d0 d1 d2 ws = 4 := by simp [errF, hg, h64]
      have e2 : freeV d0 d1 d2 ws = [] := by unfold freeV; rw [e1]; rfl
      rw [e1, e2]
      obtain ⟨ao, cap, rfl, _⟩ := hv.view
      clear hv hd hse hn e1 e2 hg
      generalize d0 * d1 * d2 = N at *
      generalize ws.length = n at *
      obtain ⟨c0, c1, c2, cz⟩ := b0.three (Below.refl _ _)
      go_enter Try.func15, Try.ntmps15
      go_wp2_with fail
      refine (HM.out _ hB0).mono ?_
      rintro e w1 ⟨rfl, hB⟩
      replace b0 := b0.later hB
      have hT := then_below hB0 hB
      clear hB hB0 HM c0 c1 c2 cz
      obtain ⟨c0, c1, c2, cz⟩ := b0.three (Below.refl _ _)
      go_wp2_with fail
      refine (HN.out _).mono ?_
      rintro e w2 ⟨rfl, hB⟩
      replace hT := then_below hT hB
      clear hB HN c0 c1 c2 cz b0
      go_wp2
      go_ret2
      exact ⟨_, rfl, Lx.nil _ _, hT⟩
    · have e1 : errF d0 d1 d2 ws = 0 := by simp [errF, hg, h64]
      have e2 : freeV d0 d1 d2 ws = freeL d0 d1 d2 ws := by simp [freeV, e1]
      rw [e1, e2]
      have HE : Hid (∀ w1, Below w.heap.size w w1 → Calls Try.prog 35 #[A3 d0 d1 d2, v] w1 fun e W' => ∃ u, e = .returned u ∧ Lx W' w1.heap.size u (freeL d0 d1 d2 ws) ∧ Below w1.heap.size w1 W') := fun w1 h1 => revery_calls w1 hd (hv.later h1) (by omega)
      obtain ⟨ao, cap, rfl, _⟩ := hv.view
      clear hv hd hse hn e1 e2 hg
      generalize d0 * d1 * d2 = N at *
      generalize freeL d0 d1 d2 ws = FL at *
      generalize ws.length = n at *
      obtain ⟨c0, c1, c2, cz⟩ := b0.three (Below.refl _ _)
      go_enter Try.func15, Try.ntmps15
      go_wp2_with fail
      refine (HM.out _ hB0).mono ?_
      rintro e w1 ⟨rfl, hB⟩
      replace b0 := b0.later hB
      have hT := then_below hB0 hB
      clear hB hB0 HM c0 c1 c2 cz
      obtain ⟨c0, c1, c2, cz⟩ := b0.three (Below.refl _ _)
      go_wp2_with fail
      refine (HN.out _).mono ?_
      rintro e w2 ⟨rfl, hB⟩
      replace hT := then_below hT hB
      replace b0 := b0.later hB
      clear hB HN c0 c1 c2 cz
      obtain ⟨c0, c1, c2, cz⟩ := b0.three (Below.refl _ _)
      go_wp2_with fail
      refine (HE.out _ hT).mono ?_
      rintro e w3 ⟨u, rfl, hL, hB⟩
      have HL : Hid (Lx w3 w.heap.size u FL) := hL.weak hT.size
      replace hT := then_below hT hB
      obtain ⟨lo, lc, rfl, _⟩ := hL.form
      clear hB HE c0 c1 c2 cz b0 hL
      go_wp2
      go_ret2
      exact ⟨_, rfl, HL.out, hT⟩
  · have hr : errG d0 d1 d2 ws = 8 := by
      rcases errG_cases d0 d1 d2 ws with ⟨_, _, h⟩ | ⟨_, h⟩ | ⟨_, _, h⟩
      · exact absurd h hg
      · exact h
      · exact h
    have e1 : errF d0 d1 d2 ws = 8 := by simp [errF, hr]
    have e2 : freeV d0 d1 d2 ws = [] := by unfold freeV; rw [e1]; rfl
    rw [decide_eq_false hg] at HM
    rw [e1, e2]
    obtain ⟨ao, cap, rfl, _⟩ := hv.view
    clear hv e1 e2 hg hr
    generalize ws.length = n at *
    obtain ⟨c0, c1, c2, cz⟩ := b0.three (Below.refl _ _)
    go_enter Try.func15, Try.ntmps15
    go_wp2_with fail
    refine (HM.out _ hB0).mono ?_
    rintro e w1 ⟨rfl, hB⟩
    have hT := then_below hB0 hB
    clear hB hB0 HM c0 c1 c2 cz b0
    go_wp2
    go_ret2
    exact ⟨_, rfl, Lx.nil _ _, hT⟩

theorem freeV_may {d0 d1 d2 : Int} {ws : List Nat} : ∀ x ∈ freeV d0 d1 d2 ws, mayD d0 d1 d2 ∧ mayB d0 d1 d2 x := by
  intro x hx
  unfold freeV at hx
  split at hx
  · rename_i h
    obtain ⟨hd, _⟩ := errF_may h
    exact ⟨hd, (freeL_may hd hx).1⟩
  · cases hx
theorem topV_is (d0 d1 d2 : Int) (ws : List Nat) : topV d0 d1 d2 ws = topM (freeV d0 d1 d2 ws) := by
  unfold topV freeV
  split <;> rfl

/-- What each operation of Largest's round comes to. -/
def wordQ (d0 d1 d2 m : Int) (vl : Value) (k gl : Nat) (x : Bx) (N : Nat) (i : Nat) (v : Value) : Prop :=
  match i with
  | 0 => v = I m
  | 1 => v = A3 d0 d1 d2
  | 2 => v = vl
  | 3 => v = I (k : Int)
  | 4 => v = .pointer (some ⟨gl, k * 6, none⟩)
  | 5 => v = B6 x
  | 6 => ∃ ao cap, v = .slice ao N cap
  | 7 => v = I (N : Int)
  | _ => True

set_option maxRecDepth 100000 in
set_option maxHeartbeats 8000000 in
theorem rglargest_calls {v : Value} {ws : List Nat} (d0 d1 d2 : Int) (w : World) (hv : Wds w v ws) :
    Calls Try.prog 18 #[A3 d0 d1 d2, v] w fun e W' => e = .returned (.tuple #[I (topV d0 d1 d2 ws), I (errF d0 d1 d2 ws)]) ∧ Below w.heap.size w W' := by
  have mixed : Try.prog.follows .mixedOrders = true := by kernel_rfl
  have HFr : Hid (∀ w1, Below w.heap.size w w1 → Calls Try.prog 15 #[A3 d0 d1 d2, v] w1 fun e W' => ∃ u, e = .returned (.tuple #[u, I (errF d0 d1 d2 ws)]) ∧ Lx W' w1.heap.size u (freeV d0 d1 d2 ws) ∧ Below w1.heap.size w1 W') := fun w1 h1 => rgfree_calls d0 d1 d2 w1 (hv.later h1)
  have HAl : Hid (∀ (x : Bx) (w1 : World), x ∈ freeV d0 d1 d2 ws → Calls Try.prog 38 #[A3 d0 d1 d2, B6 x] w1 fun e W' => ∃ u, e = .returned u ∧ Lst W' w1.heap.size u (nodesB d0 d1 d2 x) ∧ Below w1.heap.size w1 W') := fun x w1 hx => rall_calls w1 (freeV_may x hx).1 (freeV_may x hx).2
  have HMb : Hid (∀ x ∈ freeV d0 d1 d2 ws, manyB x ≤ 1000000) := fun x hx => by
    have := (manyB_bd (freeV_may x hx).1 (freeV_may x hx).2).2
    omega
  have HCt : Hid (∀ x ∈ freeV d0 d1 d2 ws, ((nodesB d0 d1 d2 x).length : Int) = manyB x) := fun x hx => nodesB_count (freeV_may x hx).1 (freeV_may x hx).2
  have hxl := freeV_len (d0 := d0) (d1 := d1) (d2 := d2) (ws := ws)
  rw [topV_is]
  obtain ⟨ao, cap, rfl, _⟩ := hv.view
  clear hv
  generalize freeV d0 d1 d2 ws = xs at *
  generalize errF d0 d1 d2 ws = er at *
  generalize ws.length = n at *
  obtain ⟨R, hR⟩ : ∃ R, R = topM xs := ⟨_, rfl⟩
  rw [← hR]
  have HR : Hid (topM xs = R) := hR.symm
  clear hR
  have hB0 : Below w.heap.size w (w.alloc (.cells #[I d0, I d1, I d2] 26)) := (Below.refl _ w).alloc (Nat.le_refl _) _
  have b0 := Blk.new w 26 #[I d0, I d1, I d2]
  obtain ⟨c0, c1, c2, cz⟩ := b0.three (Below.refl _ _)
  go_enter Try.func18, Try.ntmps18
  go_wp2_with fail
  refine (HFr.out _ hB0).mono ?_
  rintro e w1 ⟨u, rfl, hL, hB⟩
  replace b0 := b0.later hB
  have hT := then_below hB0 hB
  have hL : Lx w1 w.heap.size u xs := hL.weak (by simp)
  clear hB hB0 HFr c0 c1 c2 cz
  obtain ⟨lo, lc, rfl, hL⟩ := hL.form
  go_wp2
  go_loopw [8, 9] (fun u i wr => ∃ (k : Nat) (m : Int), k ≤ xs.length ∧ i = .int .i64 k ∧ u = .int .i64 m ∧ Hid (topM (xs.take k) = m) ∧ Blk wr w.heap.size 26 #[I d0, I d1, I d2] ∧ Lx wr w.heap.size (.slice lo xs.length lc) xs ∧ Hid (Below w.heap.size w wr)) (fun _ i _ => xs.length - (RowKit.intOf i).toNat)
  case atStart => exact ⟨0, 0, by omega, rfl, rfl, rfl, b0, hL, hT⟩
  case round =>
    clear b0 hL hT
    obtain ⟨k, m, hk, rfl, rfl, Hm, kd, hLr, HBw⟩ := hrel
    by_cases hlt : (k : Int) < (xs.length : Int)
    · have hk2 : k < xs.length := by omega
      obtain ⟨gl, rfl, hat⟩ := hLr.at hk2
      obtain ⟨x, hx⟩ : ∃ x, x = xs.getD k zX := ⟨_, rfl⟩
      have hxm : x ∈ xs := by rw [hx]; simp [hk2]
      have HT1 : Hid (topM (xs.take (k + 1)) = max m (manyB x)) := by
        show _ = _
        rw [List.take_succ_eq_append_getElem hk2, topM_app, show xs[k] = x by rw [hx]; simp [hk2], Hm.out]
      rw [← hx] at hat
      have HAx : Hid (∀ w1, Calls Try.prog 38 #[A3 d0 d1 d2, B6 x] w1 fun e W' => ∃ u, e = .returned u ∧ Lst W' w1.heap.size u (nodesB d0 d1 d2 x) ∧ Below w1.heap.size w1 W') := fun w1 => HAl.out x w1 hxm
      have HCx : Hid (((nodesB d0 d1 d2 x).length : Int) = manyB x) := HCt.out x hxm
      have HAll : Hid (Blk wr w.heap.size 26 #[I d0, I d1, I d2] ∧ Lx wr w.heap.size (.slice (some ⟨gl, 0, none⟩) xs.length lc) xs ∧ Below w.heap.size w wr ∧ At6 wr gl (k * 6) x) := ⟨kd, hLr, HBw.out, hat⟩
      obtain ⟨NL, hNL⟩ : ∃ NL, NL = (nodesB d0 d1 d2 x).length := ⟨_, rfl⟩
      have HAx : Hid (∀ w1, Calls Try.prog 38 #[A3 d0 d1 d2, B6 x] w1 fun e W' => ∃ u, e = .returned u ∧ (∃ ao cap, u = .slice ao NL cap) ∧ Below w1.heap.size w1 W') := fun w1 => (HAx.out w1).mono (by
        rintro e W' ⟨u, rfl, h1, h2⟩
        obtain ⟨ao, cap, e1, _⟩ := h1.view
        exact ⟨u, rfl, ⟨ao, cap, by rw [e1, hNL]⟩, h2⟩)
      have HT2 : Hid (topM (xs.take (k + 1)) = max m (NL : Int)) := by
        show _ = _
        rw [HT1.out, ← HCx.out, ← hNL]
      have hNb : (NL : Int) ≤ 1000000 := by
        rw [hNL, HCx.out]
        exact HMb.out x hxm
      clear HT1 HCx hNL hx hxm hat kd hLr Hm HBw
      go_wp2_with fail
      refine wp_region_loud3 (w0 := wr) 8 (fun i v _ => wordQ d0 d1 d2 m (.slice (some ⟨gl, 0, none⟩) xs.length lc) k gl x NL i v) mixed (by kernel_rfl) (fun _ _ _ _ h _ => h) ?_ ?_
      · intro i o hi a w' hTT hL hpre
        have s2 : a.tmps.getD 2 undef = .pointer (some ⟨w.heap.size, 0, none⟩) := by
          rw [Array.getD_eq_getD_getElem?, hL.out 2 (of_decide_eq_true (by kernel_rfl))]; rfl
        have s6 : a.tmps.getD 6 undef = .slice (some ⟨gl, 0, none⟩) xs.length lc := by
          rw [Array.getD_eq_getD_getElem?, hL.out 6 (of_decide_eq_true (by kernel_rfl))]; rfl
        have s8 : a.tmps.getD 8 undef = I m := by
          rw [Array.getD_eq_getD_getElem?, hL.out 8 (of_decide_eq_true (by kernel_rfl))]; rfl
        have s9 : a.tmps.getD 9 undef = I (k : Int) := by
          rw [Array.getD_eq_getD_getElem?, hL.out 9 (of_decide_eq_true (by kernel_rfl))]; rfl
        obtain ⟨c0, c1, c2, hz⟩ := HAll.out.1.three hTT
        have hat := (HAll.out.2.2.2).later hTT
        obtain ⟨x0, x1, x2, x3, x4, x5⟩ := hat.cells
        have hzl := hat.lt
        clear hL
        match i, hi with
        | 0, hi =>
          obtain rfl := Option.some.inj hi
          refine .inl ⟨I m, ?_, rfl⟩
          simp [execOp, go_sem, Act.eval, s8]
        | 1, hi =>
          obtain rfl := Option.some.inj hi
          refine .inl ⟨A3 d0 d1 d2, ?_, rfl⟩
          simp [execOp, go_sem, Act.eval, s2, c0, c1, c2]
        | 2, hi =>
          obtain rfl := Option.some.inj hi
          refine .inl ⟨_, ?_, rfl⟩
          simp [execOp, go_sem, Act.eval, s6]
        | 3, hi =>
          obtain rfl := Option.some.inj hi
          refine .inl ⟨_, ?_, rfl⟩
          simp [execOp, go_sem, Act.eval, s9]
        | 4, hi =>
          obtain rfl := Option.some.inj hi
          have p0 : a.tmps.getD 24 undef = .slice (some ⟨gl, 0, none⟩) xs.length lc := hpre ⟨2, .data⟩ (by simp) rfl
          have p1 : a.tmps.getD 25 undef = I (k : Int) := hpre ⟨3, .data⟩ (by simp) rfl
          refine .inl ⟨.pointer (some ⟨gl, k * 6, none⟩), ?_, rfl⟩
          simp [execOp, go_sem, Act.eval, p0, p1, hk2]
        | 5, hi =>
          obtain rfl := Option.some.inj hi
          have p0 : a.tmps.getD 26 undef = .pointer (some ⟨gl, k * 6, none⟩) := hpre ⟨4, .data⟩ (by simp) rfl
          refine .inl ⟨B6 x, ?_, rfl⟩
          simp [execOp, go_sem, Act.eval, p0, x0, x1, x2, x3, x4, x5]
        | 6, hi =>
          obtain rfl := Option.some.inj hi
          have p0 : a.tmps.getD 23 undef = A3 d0 d1 d2 := hpre ⟨1, .data⟩ (by simp) rfl
          have p1 : a.tmps.getD 27 undef = B6 x := hpre ⟨5, .data⟩ (by simp) rfl
          refine .inr ⟨38, #[A3 d0 d1 d2, B6 x], ?_, ?_⟩
          · simp [go_sem, Act.eval, p0, p1]
          · refine (HAx.out w').mono ?_
            rintro e w'' ⟨u, rfl, hl, hB⟩
            exact ⟨_, rfl, hB, hl⟩
        | 7, hi =>
          obtain rfl := Option.some.inj hi
          obtain ⟨ao2, cap2, p0⟩ : ∃ ao2 cap2, a.tmps.getD 28 undef = .slice ao2 NL cap2 := hpre ⟨6, .data⟩ (by simp) rfl
          refine .inl ⟨I (NL : Int), ?_, rfl⟩
          simp [go_sem, Act.eval, p0]
        | n + 8, hi => simp at hi
      · intro vs w2 hT2 hall
        have h0 : vs 0 = I m := hall 0 (by decide)
        have h7 : vs 7 = I (NL : Int) := hall 7 (by decide)
        clear hall
        simp only [List.take_succ_cons, List.take_zero, List.drop_succ_cons, List.drop_zero, List.length_cons, List.length_nil, Nat.zero_add, Nat.reduceAdd, List.range, List.range.loop, List.foldl_cons, List.foldl_nil, dstOf, List.getElem?_cons_zero, List.getElem?_cons_succ, Option.getD_some, Act.put, h0, h7, List.setIfInBounds_toArray, List.set_cons_succ, List.set_cons_zero]
        clear h0 h7
        generalize vs 1 = y1
        generalize vs 2 = y2
        generalize vs 3 = y3
        generalize vs 4 = y4
        generalize vs 5 = y5
        generalize vs 6 = y6
        clear vs
        have hB3 := HAll.out.2.2.1.trans (hT2.mono HAll.out.2.2.1.size)
        have hL3 := HAll.out.2.1.later hT2
        have kd3 := HAll.out.1.later hT2
        refine wpListIn_value (loose_wide _) rfl (fun c e => by cases e) (v := I (max m (NL : Int))) (w' := w2) (by simp [go_sem, Act.eval]; split <;> omega) ?_
        refine wpListIn_value (loose_wide _) rfl (fun c e => by cases e) (v := I (max m (NL : Int))) (w' := w2) (by simp [execOp, go_sem, Act.eval, Act.put]) ?_
        simp only [wpListIn, Act.put, List.setIfInBounds_toArray, List.set_cons_succ, List.set_cons_zero]
        go_wp2
        go_roundw
        case rel => exact ⟨k + 1, max m NL, by omega, by go_num, rfl, HT2.out, kd3, hL3, hB3⟩
        case measure => simp [RowKit.intOf]; omega
    · obtain rfl : k = xs.length := by omega
      have HF : Hid (m = R) := by
        have := Hm.out
        rw [List.take_length] at this
        exact this.symm.trans HR.out
      clear kd hLr Hm
      go_wp2
      go_ret2
      exact ⟨by rw [HF.out]; rfl, HBw.out⟩

end Go.Proofs.Ytjmfdpilmljppaa
