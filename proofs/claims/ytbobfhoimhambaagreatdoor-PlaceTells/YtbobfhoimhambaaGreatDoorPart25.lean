/-
  As Loud, where the operations from number k on come last, each the only one that may come up: they wait, if only through others, for all of the beginning.
-/
import Derived.Test.YtbobfhoimhambaaGreatDoorPart17
import Derived.Test.YtbobfhoimhambaaGreatDoorPart21
import Derived.Test.YtbobfhoimhambaaGreatDoorPlaceWalks
import Derived.Test.YtbobfhoimhambaaGreatDoorPart8
namespace Go.Proofs.YtbobfhoimhambaaGreatDoor
open Go Go.RowKit Go.Shelf

section
variable {F : Fence} {n : Nat} {P : Program}

/-- For what an operation waits. -/
def depsOf (l : List Oper) (t : Nat) : List Nat := match l[t]? with | some o => (o.after.toList.filter fun e => Region.binds .any e).map (·.on) | none => []
/-- It waits for another one, if only through others. -/
def needB (l : List Oper) : Nat → Nat → Nat → Bool
  | 0, _, _ => false
  | f + 1, t, i => (depsOf l t).any fun j => j == i || needB l f j i
/-- The beginning, of k operations: each writes a slot of its own, waits for such as stand ahead alone; all the others wait for each of it. -/
def soloB3 (l : List Oper) (k m : Nat) : Bool :=
  decide (k ≤ l.length) && ((l.take k).all fun o => o.guard.isNone && o.dst.isSome) && ((List.range k).all fun i => decide (dstOf (l.take k) i < m) && (List.range k).all fun j => i == j || dstOf (l.take k) i != dstOf (l.take k) j) && noDefer l.toArray &&
  ((List.range k).all fun t => match l[t]? with | some o => backOnly o t | none => true) &&
  ((List.range (l.length - k)).all fun t => (List.range k).all fun i => needB l 6 (k + t) i) &&
  Region.seqB .any l.toArray (l.length - k) k (both (Array.replicate k true) (l.length - k))

def Closed (l : List Oper) (L : Array Bool) : Prop := ∀ t, L.getD t false = true → ∀ j ∈ depsOf l t, L.getD j false = true
theorem need_in {l : List Oper} {L : Array Bool} (hc : Closed l L) : ∀ (f t i : Nat), needB l f t i = true → (∀ j ∈ depsOf l t, L.getD j false = true) → L.getD i false = true
  | 0, _, _, h, _ => by cases h
  | f + 1, t, i, h, hd => by
    obtain ⟨j, hj, hij⟩ := List.any_eq_true.1 h
    rcases (Bool.or_eq_true_iff.1 hij) with e | e
    · have : j = i := by simpa using e
      exact this ▸ hd j hj
    · exact need_in hc f j i e (hc j (hd j hj))
theorem mem_deps {l : List Oper} {t : Nat} {o : Oper} (ho : l[t]? = some o) {j : Nat} : j ∈ depsOf l t ↔ ∃ e ∈ o.after, Region.binds .any e = true ∧ e.on = j := by
  unfold depsOf
  rw [ho]
  simp only [List.mem_map, List.mem_filter, Array.mem_toList_iff]
  exact ⟨fun ⟨e, ⟨h1, h2⟩, h3⟩ => ⟨e, h1, h2, h3⟩, fun ⟨e, h1, h2, h3⟩ => ⟨e, ⟨h1, h2⟩, h3⟩⟩

/-- An operation that comes to a value, and it may be to a turned world. -/
theorem wpListIn_value {ops : Array Oper} {rest : List Oper} {o : Oper} {a : Act} {Q : Exit → Act → World → Prop} {w w' : World} {v : Value} (hF : Loose F P) (hgd : o.guard = none) (hd : ∀ c, o.op ≠ .defer c)
    (hrun : (execOp a.eval o).run P w = .ok (.value v) w') (h : wpListIn F n P ops Q rest (a.put o.dst v) w') : wpListIn F n P ops Q (o :: rest) a w := by
  have hfn : ∀ f, o.about P w a.eval = some f → F.fn f := fun f _ => hF.fn f
  unfold wpListIn
  simp only [Region.wanted, hgd, if_true]
  refine ⟨hfn, ?_⟩
  rw [Oper.semAt_eq _ _ _ hd, hrun]
  exact h

variable {l : List Oper} {a0 : Act} {w0 : World} {Q : Exit → Act → World → Prop} {S : Nat → Value → World → Prop} {k : Nat}

theorem any_loud3 (hF : Loose F P) (hB : soloB3 l k a0.tmps.size = true)
    (hS : ∀ i v w w', S i v w → Below w.heap.size w w' → S i v w')
    (hop : ∀ (i : Nat) (o : Oper), (l.take k)[i]? = some o → ∀ (a : Act) (w : World), Below w0.heap.size w0 w → Like (l.take k) a0 a → (∀ e ∈ o.after, Region.binds .any e = true → S e.on (slot (l.take k) a e.on) w) → Comes P o a w (S i))
    (hend : ∀ (a : Act) (w : World), Below w0.heap.size w0 w → Like (l.take k) a0 a → (∀ i, i < k → S i (slot (l.take k) a i) w) → wpListIn F n P l.toArray Q (l.drop k) a w) :
    ∀ (f : Nat) (L : Array Bool) (a : Act) (w : World), L.size = l.length → L.toList.count false ≤ f → Below w0.heap.size w0 w → Like (l.take k) a0 a → (∀ i, i < k → L.getD i false = true → S i (slot (l.take k) a i) w) → (∀ t, k ≤ t → L.getD t false = false) → Closed l L → wpAnyIn F n P .any l.toArray Q f L a w := by
  simp only [soloB3, Bool.and_eq_true] at hB
  obtain ⟨⟨⟨⟨⟨⟨hk, hB1⟩, hB2⟩, hnd⟩, hback⟩, hneed⟩, hseq⟩ := hB
  have hk : k ≤ l.length := of_decide_eq_true hk
  have hlen : (l.take k).length = k := by simp [hk]
  have same : ∀ i, i < k → (l.take k)[i]? = l[i]? := fun i hi => by simp [hi]
  have back : ∀ i o, i < k → l[i]? = some o → ∀ j ∈ depsOf l i, j < i := fun i o hi ho j hj => by
    have h1 := List.all_eq_true.1 hback i (List.mem_range.2 hi)
    rw [ho] at h1
    obtain ⟨e, he, hb, rfl⟩ := (mem_deps ho).1 hj
    have := Array.all_eq_true'.1 (Bool.and_eq_true_iff.1 h1).1 e he
    simpa [hb] using this
  have need : ∀ t, k ≤ t → t < l.length → ∀ i, i < k → needB l 6 t i = true := fun t h1 h2 i hi => by
    have h3 := List.all_eq_true.1 hneed (t - k) (List.mem_range.2 (by omega))
    have := List.all_eq_true.1 h3 i (List.mem_range.2 hi)
    rwa [show k + (t - k) = t by omega] at this
  have solo : ∀ i o, i < k → l[i]? = some o → o.guard = none ∧ o.dst = some (dstOf (l.take k) i) ∧ dstOf (l.take k) i < a0.tmps.size ∧ ∀ j, j < k → j ≠ i → dstOf (l.take k) i ≠ dstOf (l.take k) j := fun i o hi ho => by
    have ho' : (l.take k)[i]? = some o := (same i hi).trans ho
    obtain ⟨hlt, he⟩ := List.getElem?_eq_some_iff.1 ho'
    have k1 := List.all_eq_true.1 hB1 o (he ▸ List.getElem_mem hlt)
    simp only [Bool.and_eq_true, Option.isNone_iff_eq_none] at k1
    have k2 := List.all_eq_true.1 hB2 i (List.mem_range.2 hi)
    simp only [Bool.and_eq_true, decide_eq_true_eq] at k2
    refine ⟨k1.1, ?_, k2.1, fun j hj hne => ?_⟩
    · obtain ⟨d, hd⟩ := Option.isSome_iff_exists.1 k1.2
      simp [dstOf, ho', hd]
    · have := List.all_eq_true.1 k2.2 j (List.mem_range.2 hj)
      simp only [Bool.or_eq_true, beq_iff_eq, bne_iff_ne] at this
      rcases this with e | e
      · exact absurd e.symm hne
      · exact e
  have full : ∀ (f : Nat) (L : Array Bool) (a : Act) (w : World), L.size = l.length → L.toList.count false ≤ f → Below w0.heap.size w0 w → Like (l.take k) a0 a → (∀ i, i < k → L.getD i false = true → S i (slot (l.take k) a i) w) → (∀ t, k ≤ t → L.getD t false = false) → (∀ i, i < k → L.getD i false = true) → wpAnyIn F n P .any l.toArray Q f L a w := by
    intro f L a w hs hc hT hL hA hno hall
    have eL : L = both (Array.replicate k true) (l.length - k) := by
      refine Array.ext (by simp [both]; omega) fun i h1 h2 => ?_
      by_cases hi : i < k
      · have := hall i hi
        simpa [Array.getD, h1, both, Array.getElem_append_left, hi] using this
      · have := hno i (by omega)
        simp only [Array.getD, h1, dif_pos] at this
        rw [show L[i] = false from this]
        have h3 : (both (Array.replicate k true) (l.length - k)).getD i false = false := by
          unfold both
          rw [Array.getD_eq_getD_getElem?, Array.getElem?_append_right (by simp; omega)]
          simp [Array.getElem?_replicate]
          split <;> rfl
        rw [Array.getD, dif_pos h2] at h3
        exact h3.symm
    have hcount : l.length - k ≤ L.toList.count false := by
      rw [eL]
      simp [both]
    exact any_forced (l.drop k) k L f a w (fun j => by simp) (by rw [eL]; simpa using hseq) (by simp; omega) (hend a w hT hL fun i hi => hA i hi (hall i hi))
  intro f
  induction f with
  | zero =>
    intro L a w hs hc hT hL hA hno hcl
    refine full 0 L a w hs hc hT hL hA hno fun i hi => ?_
    cases hv : L.getD i false with
    | true => rfl
    | false =>
      exfalso
      have h0 : L.toList.count false = 0 := by omega
      rw [List.count_eq_zero] at h0
      refine h0 ?_
      have hlt : i < L.size := by omega
      rw [Array.getD, dif_pos hlt] at hv
      have hv : L[i] = false := hv
      rw [← hv]
      exact Array.getElem_mem_toList hlt
  | succ f ih =>
    intro L a w hs hc hT hL hA hno hcl
    by_cases hfull : ∀ i, i < k → L.getD i false = true
    · exact full (f + 1) L a w hs hc hT hL hA hno hfull
    · refine ⟨fun hr => ?_, fun i hi => ?_⟩
      · exfalso
        refine hfull fun i => ?_
        induction i using Nat.strongRecOn with
        | _ i ih' =>
          intro hi
          cases hv : L.getD i false with
          | true => rfl
          | false =>
            have hil : i < l.length := by omega
            have hmem : i ∈ Region.ready .any l.toArray L := by
              rw [mem_ready]
              refine ⟨getD_in (by omega) hv, l[i], by simp [hil], fun e he hb => ?_⟩
              have hlt := back i l[i] hi (List.getElem?_eq_getElem hil) e.on ((mem_deps (List.getElem?_eq_getElem hil)).2 ⟨e, he, hb, rfl⟩)
              exact ih' e.on hlt (by omega)
            rw [hr] at hmem
            cases hmem
      · obtain ⟨h1, o, ho, hall⟩ := mem_ready.1 hi
        have hol : l[i]? = some o := by simpa using ho
        have hil : i < l.length := (List.getElem?_eq_some_iff.1 hol).1
        have hdeps : ∀ j ∈ depsOf l i, L.getD j false = true := fun j hj => by
          obtain ⟨e, he, hb, rfl⟩ := (mem_deps hol).1 hj
          exact hall e he hb
        have hik : i < k := by
          rcases Nat.lt_or_ge i k with h | h
          · exact h
          · exact absurd (fun j hj => need_in hcl 6 i j (need i h hil j hj) hdeps) hfull
        obtain ⟨hg, hd, hlt, hne⟩ := solo i o hik hol
        have hcome := hop i o ((same i hik).trans hol) a w hT hL (fun e he hb => hA e.on (by have := back i o hik hol e.on ((mem_deps hol).2 ⟨e, he, hb, rfl⟩); omega) (hall e he hb))
        have hnot : L.toList[i]? = some false := by
          have hlt' : i < L.size := by omega
          rw [Array.getD, dif_pos hlt'] at h1
          rw [Array.getElem?_toList, Array.getElem?_eq_getElem hlt']
          exact congrArg some h1
        have hset : ∀ j, (L.setIfInBounds i true).getD j false = true → j = i ∨ L.getD j false = true := fun j hj => by
          by_cases hij : j = i
          · exact .inl hij
          · rw [Array.getD_eq_getD_getElem?, Array.getElem?_setIfInBounds_ne (Ne.symm hij), ← Array.getD_eq_getD_getElem?] at hj
            exact .inr hj
        have hkeep : ∀ j, L.getD j false = true → (L.setIfInBounds i true).getD j false = true := fun j hj => by
          by_cases hij : j = i
          · subst hij
            have hlt' : j < L.size := by omega
            simp [Array.getD, hlt']
          · rw [Array.getD_eq_getD_getElem?, Array.getElem?_setIfInBounds_ne (Ne.symm hij), ← Array.getD_eq_getD_getElem?]
            exact hj
        have hnext : ∀ (v : Value) (w' : World), Below w.heap.size w w' → S i v w' → wpAnyIn F n P .any l.toArray Q f (L.setIfInBounds i true) (a.put o.dst v) w' := by
          intro v w' hB' hv
          rw [hd]
          refine ih _ _ w' (by simpa using hs) ?_ (then_below hT hB') ⟨?_, ?_, ?_⟩ ?_ ?_ ?_
          · have := count_set L.toList i hnot
            rw [Array.toList_setIfInBounds]
            omega
          · simp [Act.put]; exact hL.size
          · simp [Act.put]; exact hL.defers
          · intro t ht
            rw [put_ne (ht i (by rw [hlen]; exact hik))]
            exact hL.out t ht
          · intro j hjk hj
            by_cases hij : j = i
            · subst hij
              show S j ((a.put (some (dstOf (l.take k) j)) v).tmps.getD (dstOf (l.take k) j) undef) w'
              rw [put_at (by rw [hL.size]; exact hlt)]
              exact hv
            · rcases hset j hj with e | hjl
              · exact absurd e hij
              · show S j ((a.put (some (dstOf (l.take k) i)) v).tmps.getD (dstOf (l.take k) j) undef) w'
                rw [getD_ne (hne j hjk hij)]
                exact hS _ _ _ _ (hA j hjk hjl) hB'
          · intro t ht
            have hti : t ≠ i := by omega
            rw [Array.getD_eq_getD_getElem?, Array.getElem?_setIfInBounds_ne (Ne.symm hti), ← Array.getD_eq_getD_getElem?]
            exact hno t ht
          · intro t ht j hj
            rcases hset t ht with rfl | ht'
            · exact hkeep j (hdeps j hj)
            · exact hkeep j (hcl t ht' j hj)
        have hfn : ∀ f, o.about P w a.eval = some f → F.fn f := fun f _ => hF.fn f
        simp only [wpOpIn, ho, Region.wanted, hg, if_true]
        refine ⟨hfn, ?_⟩
        rw [Oper.semAt_eq _ _ _ (noDefer_spec hnd ho)]
        rcases hcome with ⟨v, e, hv⟩ | ⟨g, args, e, hc'⟩
        · rw [e]; exact hnext v w (Below.refl _ _) hv
        · rw [e]
          refine ⟨fun hx => (hF.depth hx).elim, hF.calls _ _ _ _ _ (hc'.mono ?_)⟩
          rintro x w' ⟨v, rfl, hB', hv⟩
          exact hnext v w' hB' hv

/-- In whatever order the beginning goes: each of its operations' words holds when the rest begins. -/
theorem wp_region_loud3 {id : Nat} (k : Nat) (S : Nat → Value → World → Prop) (hm : P.follows .mixedOrders = true) (hB : soloB3 l k a0.tmps.size = true)
    (hS : ∀ i v w w', S i v w → Below w.heap.size w w' → S i v w')
    (hop : ∀ (i : Nat) (o : Oper), (l.take k)[i]? = some o → ∀ (a : Act) (w : World), Below w0.heap.size w0 w → Like (l.take k) a0 a → (∀ e ∈ o.after, Region.binds .any e = true → S e.on (slot (l.take k) a e.on) w) → Comes P o a w (S i))
    (hend : ∀ (v : Nat → Value) (w : World), Below w0.heap.size w0 w → (∀ i, i < k → S i (v i) w) → wpListIn Fence.wide 0 P l.toArray Q (l.drop k) ((List.range (l.take k).length).foldl (fun b i => b.put (some (dstOf (l.take k) i)) (v i)) a0) w) :
    (Code.region id l.toArray true).wp P Q a0 w0 := by
  refine (wpIn_wide (n := 0)).1 (wpIn_region_any hm ?_)
  refine any_loud3 (loose_wide P) hB hS hop (fun a w hT hL hA => ?_) _ _ _ _ (by simp) (by simp) ((Below.refl _ w0).drew) ⟨rfl, rfl, fun _ _ => rfl⟩ (fun i _ hi => ?_) (fun t _ => ?_) (fun t ht => ?_)
  · rw [like_puts hL]
    exact hend (slot (l.take k) a) w hT hA
  · exfalso
    rw [Array.getD_eq_getD_getElem?] at hi
    simp [Array.getElem?_replicate] at hi
    split at hi <;> simp at hi
  · rw [Array.getD_eq_getD_getElem?]
    simp [Array.getElem?_replicate]
    split <;> simp
  · exfalso
    rw [Array.getD_eq_getD_getElem?] at ht
    simp [Array.getElem?_replicate] at ht
    split at ht <;> simp at ht
end

/-- 'append(list, more...)', as one operation: what it comes to. -/
theorem cat_run {o : Oper} {a : Act} {W : World} {base b2 : Nat} {v u : Value} {xs ys : List Int} (s x : Operand)
    (ho : o.op = .call { callee := .builtin .append, args := #[s, x], argTypes := #[36, 36] }) (hs : a.eval s = v) (hx : a.eval x = u)
    (hown : Lst W base v xs) (hu : Lst W b2 u ys) (hl : xs.length ≤ 100000) (hl2 : ys.length ≤ 100000) (hb : base ≤ W.heap.size) :
    ∃ v' w', (execOp a.eval o).run Tryz.prog W = .ok (.value v') w' ∧ Lst w' base v' (xs ++ ys) ∧ Below base W w' := by
  obtain ⟨i0, hi, hz0, hz1, hz2⟩ := info_parts info_int
  have hv := hu.view
  rcases hu.2 with ⟨rfl, hn⟩ | ⟨g, cap, cur, rfl, hg, hh, hc, hc2, hs2, ht⟩
  · have : ys = [] := List.length_eq_zero_iff.1 hn
    subst this
    rw [List.append_nil]
    have hrun := run_append_owned_none (P := Tryz.prog) (w := W) base 36 o.type 3 i0 1 Tryz.underlying36 hi v xs.length _ hown
    refine ⟨v, W, ?_, hown, Below.refl _ _⟩
    simp [execOp, ho, resolve, invoke, builtin, hs, hx, hrun, Result.andThen]
  · have hnews : ∀ j y, (ys.map (Value.int .i64))[j]? = some y → W.cell? ((⟨g, 0, none⟩ : Addr).add j) = some y := by
      intro j y hj
      have hjl : j < ys.length := by
        have := (List.getElem?_eq_some_iff.1 hj).1
        simpa using this
      obtain ⟨ao, c, e, hw⟩ := hv
      simp only [Value.slice.injEq] at e
      obtain ⟨rfl, -, -⟩ := e
      obtain ⟨g', cur', e, hB, hc'⟩ := hw j hjl
      simp only [Option.some.injEq, Addr.mk.injEq] at e
      obtain ⟨rfl, -, -⟩ := e
      have : (⟨g, 0, none⟩ : Addr).add j = ⟨g, j, none⟩ := by
        unfold Addr.add
        split
        · rename_i h0; subst h0; rfl
        · simp
      rw [this, hB.cell j, hc', ← hj]
      simp [hjl]
    have hone : ∀ y ∈ ys.map (Value.int .i64), y.oneCell' = true := by
      intro y hy
      obtain ⟨z, _, rfl⟩ := List.mem_map.1 hy
      rfl
    obtain ⟨v', w', hr, h2, h3, _⟩ := run_append_own (P := Tryz.prog) W base 36 o.type 3 i0 (.int .i64 0) 1 8 Tryz.underlying36 hi hz0 hz1 hz2 rfl (by decide) v xs.length (xs.map (Value.int .i64)) hown ⟨g, 0, none⟩ ys.length cap (ys.map (Value.int .i64)) (by simp) hnews hone (by unfold maxLen; omega) (by omega) hb
    refine ⟨v', w', ?_, ?_, (Below.refl base W).grown h3 hb (fun k hk => (World.ownsRow.lt hown k hk).1)⟩
    · simp [execOp, ho, resolve, invoke, builtin, hs, hx, hr, Result.andThen]
    · unfold Lst
      rw [List.map_append, List.length_append]
      exact h2

end Go.Proofs.YtbobfhoimhambaaGreatDoor

/-
  What the document's own answer for layer 6 (tidehallref06) gives: May, Check. And a set of numbers, as tidehallref03.From makes it.
-/
namespace Go.Proofs.YtbobfhoimhambaaGreatDoor
open Go Go.RowKit Go.Shelf

theorem jx0 (x y z : Int) (w : World) : (Instr.index 22 (A3 x y z) (.int .i64 0)).run Tryz.prog w = .ok (.int .i64 x) w := by kernel_rfl
theorem jx1 (x y z : Int) (w : World) : (Instr.index 22 (A3 x y z) (.int .i64 1)).run Tryz.prog w = .ok (.int .i64 y) w := by kernel_rfl
theorem jx2 (x y z : Int) (w : World) : (Instr.index 22 (A3 x y z) (.int .i64 2)).run Tryz.prog w = .ok (.int .i64 z) w := by kernel_rfl

attribute [local go_sem] Oper.semAt_some ext_const eq_arr eq_arr9 same3_self

/-- tidehallref03.From, of numbers that tell a known set. -/
theorem from_set {n : Int} {l : List Int} {p : Nat → Bool} {v : Value} {base : Nat} (w : World) (hv : Lst w base v l) (hl : l.length ≤ 65536) (h1 : 1 ≤ n) (h2 : n ≤ 12288) (hall : ∀ x ∈ l, 0 ≤ x ∧ x < n) (hp : ∀ j : Nat, inL l j = (decide (j < n.toNat) && p j)) :
    Calls Tryz.prog 33 #[I n, v] w fun e W' => ∃ u, e = .returned u ∧ SetR W' w.heap.size u (setOf n p) ∧ Below w.heap.size w W' := by
  obtain ⟨m, rfl⟩ : ∃ m : Nat, n = m := ⟨n.toNat, by omega⟩
  refine (from_calls w hv.its hl m (by omega) (by omega) (fun i hi => ?_)).mono ?_
  · rw [List.getD_eq_getElem?_getD, List.getElem?_eq_getElem hi]
    exact hall _ (List.getElem_mem hi)
  · rintro e w1 ⟨u, ws, rfl, hu, hi, hB⟩
    have e : ws = setOf (m : Int) p := hi.ext ((setOf_is (m : Int) p).congr hp)
    rw [← e]
    exact ⟨u, rfl, .inl hu, hB⟩

theorem sameBx_sym (a b : Bx) : sameBx a b = sameBx b a := by
  rw [Bool.eq_iff_iff, sameBx_iff, sameBx_iff]
  exact eq_comm

set_option maxRecDepth 100000 in
set_option maxHeartbeats 8000000 in
theorem rpmay_calls (d0 d1 d2 : Int) (b : Bx) (t0 t1 t2 : Bool) (w : World) :
    Calls Tryz.prog 29 #[A3 d0 d1 d2, P9 b t0 t1 t2] w fun e W' => e = .returned (.bool (mayPB d0 d1 d2 b t0 t1 t2)) ∧ Below w.heap.size w W' := by
  have hmx : Tryz.prog.follows .mixedOrders = true := by kernel_rfl
  have HM : Hid (∀ w, Calls Tryz.prog 50 #[A3 d0 d1 d2, B6 b] w fun e W' => e = .returned (.bool (mayBB d0 d1 d2 b)) ∧ Below w.heap.size w W') := fun w => rmayb_calls d0 d1 d2 b w
  have HC : Hid (∀ w, Calls Tryz.prog 51 #[A3 d0 d1 d2, B6 b] w fun e W' => e = .returned (B6 (canonB d0 d1 d2 b)) ∧ Below w.heap.size w W') := fun w => rtold_calls d0 d1 d2 b w
  have HA : Hid (mayPB d0 d1 d2 b t0 t1 t2 = (mayBB d0 d1 d2 b && sameBx b (canonB d0 d1 d2 b) && !torB b t0 t1 t2)) := rfl
  have HT : Hid (torB b t0 t1 t2 = ((t0 && b.a == 1) || (t1 && b.b == 1) || (t2 && b.c == 1))) := rfl
  have HS : Hid (sameBx b (canonB d0 d1 d2 b) = (same3 (canonB d0 d1 d2 b).x (canonB d0 d1 d2 b).y (canonB d0 d1 d2 b).z b.x b.y b.z && same3 (canonB d0 d1 d2 b).a (canonB d0 d1 d2 b).b (canonB d0 d1 d2 b).c b.a b.b b.c)) := sameBx_sym b (canonB d0 d1 d2 b)
  generalize sameBx b (canonB d0 d1 d2 b) = sm at *
  generalize canonB d0 d1 d2 b = c at *
  generalize mayPB d0 d1 d2 b t0 t1 t2 = ans at *
  generalize torB b t0 t1 t2 = tb at *
  generalize mayBB d0 d1 d2 b = mb at *
  go_enter Tryz.func29, Tryz.ntmps29
  go_wp2_with fail
  obtain ⟨W, hW, hB0, b0, b1⟩ := two_start w #[I d0, I d1, I d2] (C9 b t0 t1 t2) 23 28
  rw [hW]
  clear hW
  obtain ⟨c0, c1, c2, hz⟩ := b0.three (Below.refl _ _)
  obtain ⟨⟨x0, x1, x2⟩, ⟨x3, x4, x5⟩, ⟨x6, x7, x8⟩, hz1⟩ := b1.nine (Below.refl _ _)
  go_loopw [5] (fun i wr => ((i = .int .i64 0) ∨ (i = .int .i64 1 ∧ Hid ((t0 && b.a == 1) = false)) ∨ (i = .int .i64 2 ∧ Hid ((t0 && b.a == 1) = false) ∧ Hid ((t1 && b.b == 1) = false)) ∨ (i = .int .i64 3 ∧ Hid ((t0 && b.a == 1) = false) ∧ Hid ((t1 && b.b == 1) = false) ∧ Hid ((t2 && b.c == 1) = false))) ∧ wr = W) (fun i _ => 3 - (intOf i).toNat)
  case atStart => exact ⟨.inl rfl, rfl⟩
  case round =>
    obtain ⟨hi, rfl⟩ := hrel
    rcases hi with rfl | ⟨rfl, h0⟩ | ⟨rfl, h0, h1⟩ | ⟨rfl, h0, h1, h2⟩
    · cases t0
      · go_wp2
        go_roundw
        case rel => exact ⟨.inr (.inl ⟨rfl, by show _ = _; simp⟩), by trivial⟩
        case measure => simp [intOf]
      · cases hq : b.a == 1
        · go_wp2
          go_roundw
          case rel => exact ⟨.inr (.inl ⟨rfl, by show _ = _; simp⟩), by trivial⟩
          case measure => simp [intOf]
        · go_wp2
          go_ret
          exact ⟨by rw [HA.out, HT.out, hq]; simp, hB0⟩
    · cases t1
      · go_wp2
        go_roundw
        case rel => exact ⟨.inr (.inr (.inl ⟨rfl, h0, by show _ = _; simp⟩)), by trivial⟩
        case measure => simp [intOf]
      · cases hq : b.b == 1
        · go_wp2
          go_roundw
          case rel => exact ⟨.inr (.inr (.inl ⟨rfl, h0, by show _ = _; simp⟩)), by trivial⟩
          case measure => simp [intOf]
        · go_wp2
          go_ret
          exact ⟨by rw [HA.out, HT.out, hq]; simp, hB0⟩
    · cases t2
      · go_wp2
        go_roundw
        case rel => exact ⟨.inr (.inr (.inr ⟨rfl, h0, h1, by show _ = _; simp⟩)), by trivial⟩
        case measure => simp [intOf]
      · cases hq : b.c == 1
        · go_wp2
          go_roundw
          case rel => exact ⟨.inr (.inr (.inr ⟨rfl, h0, h1, by show _ = _; simp⟩)), by trivial⟩
          case measure => simp [intOf]
        · go_wp2
          go_ret
          exact ⟨by rw [HA.out, HT.out, hq]; simp, hB0⟩
    · have e0 := Ext.cell b0 0
      have e1 := Ext.cell b0 1
      have e2 := Ext.cell b0 2
      have f0 := Ext.cell b1 0
      have f1 := Ext.cell b1 1
      have f2 := Ext.cell b1 2
      have f3 := Ext.cell b1 3
      have f4 := Ext.cell b1 4
      have f5 := Ext.cell b1 5
      simp at e0 e1 e2 f0 f1 f2 f3 f4 f5
      have EA : Hid (ans = (mb && sm)) := by show _ = _; rw [HA.out, HT.out, h0.out, h1.out, h2.out]; simp
      clear HA HT h0 h1 h2
      cases mb
      · go_wp2_with fail
        refine wp_region_look hmx (by kernel_rfl) ?_
        repeat (go_big_quiet_step ((first | (go_at_call 50; exact calls_ext (HM.out _)) | (go_at_call 51; exact calls_ext (HC.out _)))))
        refine wpQuiet_nil ?_
        intro x
        go_wp2
        go_ret
        exact ⟨by rw [EA.out]; rfl, then_below hB0 x.le⟩
      · have E : sm = (same3 c.x c.y c.z b.x b.y b.z && same3 c.a c.b c.c b.a b.b b.c) := HS.out
        cases q1 : same3 c.x c.y c.z b.x b.y b.z
        · rw [q1] at E
          go_wp2_with fail
          refine wp_region_look hmx (by kernel_rfl) ?_
          repeat (go_big_quiet_step ((first | (go_at_call 50; exact calls_ext (HM.out _)) | (go_at_call 51; exact calls_ext (HC.out _)))))
          refine wpQuiet_nil ?_
          intro x
          go_wp2
          go_ret
          exact ⟨by rw [EA.out, E]; rfl, then_below hB0 x.le⟩
        · cases q2 : same3 c.a c.b c.c b.a b.b b.c
          · rw [q1, q2] at E
            go_wp2_with fail
            refine wp_region_look hmx (by kernel_rfl) ?_
            repeat (go_big_quiet_step ((first | (go_at_call 50; exact calls_ext (HM.out _)) | (go_at_call 51; exact calls_ext (HC.out _)))))
            refine wpQuiet_nil ?_
            intro x
            go_wp2
            go_ret
            exact ⟨by rw [EA.out, E]; rfl, then_below hB0 x.le⟩
          · rw [q1, q2] at E
            go_wp2_with fail
            refine wp_region_look hmx (by kernel_rfl) ?_
            repeat (go_big_quiet_step ((first | (go_at_call 50; exact calls_ext (HM.out _)) | (go_at_call 51; exact calls_ext (HC.out _)))))
            refine wpQuiet_nil ?_
            intro x
            go_wp2
            go_ret
            exact ⟨by rw [EA.out, E]; rfl, then_below hB0 x.le⟩

set_option maxRecDepth 100000 in
set_option maxHeartbeats 4000000 in
theorem rpcheck_calls (d0 d1 d2 : Int) (b : Bx) (t0 t1 t2 : Bool) (w : World) :
    Calls Tryz.prog 11 #[A3 d0 d1 d2, P9 b t0 t1 t2] w fun e W' => e = .returned (I (errP d0 d1 d2 b t0 t1 t2)) ∧ Below w.heap.size w W' := by
  have HP : Hid (∀ w, Calls Tryz.prog 29 #[A3 d0 d1 d2, P9 b t0 t1 t2] w fun e W' => e = .returned (.bool (mayPB d0 d1 d2 b t0 t1 t2)) ∧ Below w.heap.size w W') := fun w => rpmay_calls d0 d1 d2 b t0 t1 t2 w
  have HE : Hid (errP d0 d1 d2 b t0 t1 t2 = if okDB d0 d1 d2 then codeOf (mayPB d0 d1 d2 b t0 t1 t2) else 8) := rfl
  by_cases hm : mayD d0 d1 d2
  · have HM : Hid (∀ w, Calls Tryz.prog 28 #[A3 d0 d1 d2] w fun e W' => e = .returned (.bool true) ∧ Below w.heap.size w W') := fun w => rmay_yes w hm
    have E : Hid (errP d0 d1 d2 b t0 t1 t2 = codeOf (mayPB d0 d1 d2 b t0 t1 t2)) := by show _ = _; rw [HE.out, (okDB_iff _ _ _).2 hm]; rfl
    generalize mayPB d0 d1 d2 b t0 t1 t2 = mp at *
    generalize errP d0 d1 d2 b t0 t1 t2 = er at *
    clear hm HE
    go_enter Tryz.func11, Tryz.ntmps11
    go_wp2_with fail
    obtain ⟨W, hW, hB0, b0, b1⟩ := two_start w #[I d0, I d1, I d2] (C9 b t0 t1 t2) 23 28
    rw [hW]
    clear hW
    refine (HM.out _).mono ?_
    rintro e w1 ⟨rfl, hT⟩
    obtain ⟨c0, c1, c2, hz⟩ := b0.three hT
    obtain ⟨⟨x0, x1, x2⟩, ⟨x3, x4, x5⟩, ⟨x6, x7, x8⟩, hz1⟩ := b1.nine hT
    go_wp2_with fail
    refine (HP.out _).mono ?_
    rintro e w2 ⟨rfl, hT2⟩
    cases mp
    · go_wp2
      go_ret
      exact ⟨by rw [E.out]; rfl, then_below hB0 (then_below hT hT2)⟩
    · go_wp2
      go_ret
      exact ⟨by rw [E.out]; rfl, then_below hB0 (then_below hT hT2)⟩
  · have HM : Hid (∀ w, Calls Tryz.prog 28 #[A3 d0 d1 d2] w fun e W' => e = .returned (.bool false) ∧ Below w.heap.size w W') := fun w => rmay_no w hm
    have E : Hid (errP d0 d1 d2 b t0 t1 t2 = 8) := by
      show _ = _
      rw [HE.out, show okDB d0 d1 d2 = false by
        cases h : okDB d0 d1 d2
        · rfl
        · exact absurd ((okDB_iff _ _ _).1 h) hm]
      rfl
    generalize errP d0 d1 d2 b t0 t1 t2 = er at *
    clear hm HE
    go_enter Tryz.func11, Tryz.ntmps11
    go_wp2_with fail
    obtain ⟨W, hW, hB0, b0, b1⟩ := two_start w #[I d0, I d1, I d2] (C9 b t0 t1 t2) 23 28
    rw [hW]
    clear hW
    refine (HM.out _).mono ?_
    rintro e w1 ⟨rfl, hT⟩
    go_wp2
    go_ret
    exact ⟨by rw [E.out]; rfl, then_below hB0 hT⟩

end Go.Proofs.YtbobfhoimhambaaGreatDoor
