/-
  As Loud2, where one or more operations store into memory that the statement itself made: what the later worlds keep is told by a relation of worlds; an operation that writes no slot has the word of a slot that it waits for.
-/
import Derived.Test.YtlahfffgmfjpaaaGreatDoorPart32
namespace Go.Proofs.YtlahfffgmfjpaaaGreatDoor
open Go Go.RowKit Go.Shelf

section
variable {F : Fence} {n : Nat} {P : Program}

/-- The slot that an operation writes. -/
def dst5 (l : List Oper) (i : Nat) : Option Nat := match l[i]? with | some o => o.dst | none => none
/-- Each operation that writes writes a slot of its own, below number m; the others look at a slot that one for which they wait has written; none is guarded; none defers. -/
def solo5 (l : List Oper) (s : List Nat) (m : Nat) : Bool :=
  (l.all fun o => o.guard.isNone) &&
  ((List.range l.length).all fun i => match l[i]? with
    | none => true
    | some o => decide (s.getD i 0 < m) && (match o.dst with
      | some d => d == s.getD i 0
      | none => (List.range l.length).any fun j => waits o j && dst5 l j == some (s.getD i 0))) &&
  ((List.range l.length).all fun i => (List.range l.length).all fun j => i == j || dst5 l i == none || dst5 l i != dst5 l j) && noDefer l.toArray && beginB l l.length

structure Like5 (l : List Oper) (a0 a : Act) : Prop where
  size : a.tmps.size = a0.tmps.size
  defers : a.defers = a0.defers
  out : ∀ t, (∀ i, i < l.length → dst5 l i ≠ some t) → a.tmps[t]? = a0.tmps[t]?

abbrev look5 (s : List Nat) (a : Act) (i : Nat) : Value := a.tmps.getD (s.getD i 0) undef

/-- What an operation comes to: a value, it may be in a turned world; nothing, in a turned world; or a call. -/
def Comes5 (P : Program) (Rw : World → World → Prop) (o : Oper) (v0 : Value) (a : Act) (w : World) (R : Value → World → Prop) : Prop :=
  (∃ v w', (execOp a.eval o).run P w = .ok (.value v) w' ∧ o.dst.isSome = true ∧ Rw w w' ∧ R v w') ∨
  (∃ f args, (execOp a.eval o).run P w = .ok (.enter f args) w ∧ o.dst.isSome = true ∧ Calls P f args w fun e w' => ∃ v, e = .returned v ∧ Rw w w' ∧ R v w') ∨
  (∃ w', (execOp a.eval o).run P w = .ok .skip w' ∧ o.dst = none ∧ Rw w w' ∧ R v0 w')

variable {l : List Oper} {s : List Nat} {a0 : Act} {w0 : World} {Q : Exit → Act → World → Prop} {S : Nat → Value → World → Prop} {Rw : World → World → Prop}

theorem solo5_at {m i : Nat} {o : Oper} (h : solo5 l s m = true) (hi : l[i]? = some o) :
    o.guard = none ∧ s.getD i 0 < m ∧ (∀ d, o.dst = some d → d = s.getD i 0) ∧ (o.dst = none → ∃ j, waits o j = true ∧ dst5 l j = some (s.getD i 0)) ∧ ∀ d, o.dst = some d → ∀ j, j < l.length → j ≠ i → dst5 l j ≠ some d := by
  simp only [solo5, Bool.and_eq_true] at h
  obtain ⟨⟨⟨⟨h1, h2⟩, h3⟩, _⟩, _⟩ := h
  obtain ⟨hlt, he⟩ := List.getElem?_eq_some_iff.1 hi
  have k1 := List.all_eq_true.1 h1 o (he ▸ List.getElem_mem hlt)
  have k2 := List.all_eq_true.1 h2 i (List.mem_range.2 hlt)
  rw [hi] at k2
  simp only [Bool.and_eq_true, decide_eq_true_eq] at k2
  refine ⟨by simpa using k1, k2.1, ?_, ?_, ?_⟩
  · intro d hd
    have := k2.2
    rw [hd] at this
    simpa using this
  · intro hd
    have := k2.2
    rw [hd] at this
    obtain ⟨j, _, hj⟩ := List.any_eq_true.1 this
    simp only [Bool.and_eq_true, beq_iff_eq] at hj
    exact ⟨j, hj.1, hj.2⟩
  · intro d hd j hj hne e
    have := List.all_eq_true.1 (List.all_eq_true.1 h3 i (List.mem_range.2 hlt)) j (List.mem_range.2 hj)
    have hdi : dst5 l i = some d := by simp [dst5, hi, hd]
    simp only [hdi, e, Bool.or_eq_true, beq_iff_eq, bne_iff_ne] at this
    rcases this with (e1 | e1) | e1
    · exact hne e1.symm
    · cases e1
    · exact e1 rfl

/-- What is listed waited for nothing that is not. -/
def Closed5 (l : List Oper) (L : Array Bool) : Prop := ∀ (j : Nat) (o : Oper), L.getD j false = true → l[j]? = some o → ∀ e ∈ o.after, Region.binds .any e = true → L.getD e.on false = true

theorem any_loud5 (hF : Loose F P) (hB : solo5 l s a0.tmps.size = true)
    (hRt : ∀ a b c, Rw a b → Rw b c → Rw a c)
    (hS : ∀ i v w w', S i v w → Rw w w' → S i v w')
    (hop : ∀ (i : Nat) (o : Oper), l[i]? = some o → ∀ (a : Act) (w : World), Rw w0 w → Like5 l a0 a → (∀ e ∈ o.after, Region.binds .any e = true → S e.on (look5 s a e.on) w) → Comes5 P Rw o (look5 s a i) a w (S i))
    (hend : ∀ (a : Act) (w : World), Rw w0 w → Like5 l a0 a → (∀ i, i < l.length → S i (look5 s a i) w) → Q .normal a w) :
    ∀ (f : Nat) (L : Array Bool) (a : Act) (w : World), L.size = l.length → L.toList.count false ≤ f → Rw w0 w → Like5 l a0 a → Closed5 l L → (∀ i, L.getD i false = true → S i (look5 s a i) w) → wpAnyIn F n P .any l.toArray Q f L a w := by
  have hbeg : beginB l l.length = true := (Bool.and_eq_true_iff.1 hB).2
  have hnd : noDefer l.toArray = true := (Bool.and_eq_true_iff.1 (Bool.and_eq_true_iff.1 hB).1).2
  have htake : l.take l.length = l := List.take_length
  have fin : ∀ (L : Array Bool) (a : Act) (w : World), L.size = l.length → Region.ready .any l.toArray L = [] → Rw w0 w → Like5 l a0 a → (∀ i, L.getD i false = true → S i (look5 s a i) w) → Q .normal a w := by
    intro L a w hs hr hT hL hA
    have hfull := full_of_none (l := l) (m := l.length) hbeg hs (by rw [htake]; exact hr)
    refine hend a w hT hL fun i hi => hA i ?_
    rw [hfull]
    simp [Array.getD, hi]
  intro f
  induction f with
  | zero =>
    intro L a w hs hc hT hL _ hA
    have hall : Region.ready .any l.toArray L = [] := by
      apply List.eq_nil_iff_forall_not_mem.2
      intro i hi
      obtain ⟨h1, _⟩ := mem_ready.1 hi
      have h0 : L.toList.count false = 0 := by omega
      rw [List.count_eq_zero] at h0
      refine h0 ?_
      by_cases hlt : i < L.size
      · rw [Array.getD, dif_pos hlt] at h1
        rw [← h1]
        exact Array.getElem_mem_toList hlt
      · rw [Array.getD, dif_neg hlt] at h1; cases h1
    exact ⟨hall, fin L a w hs hall hT hL hA⟩
  | succ f ih =>
    intro L a w hs hc hT hL hcl hA
    refine ⟨fun hr => fin L a w hs hr hT hL hA, fun i hi => ?_⟩
    obtain ⟨h1, o, ho, hall⟩ := mem_ready.1 hi
    have hol : l[i]? = some o := by simpa using ho
    have hil : i < l.length := (List.getElem?_eq_some_iff.1 hol).1
    obtain ⟨hg, hlt, hd1, hd2, hne⟩ := solo5_at hB hol
    have hcome := hop i o hol a w hT hL (fun e he hb => hA e.on (hall e he hb))
    have hnot : L.toList[i]? = some false := by
      have hlt' : i < L.size := by omega
      rw [Array.getD, dif_pos hlt'] at h1
      rw [Array.getElem?_toList, Array.getElem?_eq_getElem hlt']
      exact congrArg some h1
    have hcnt : (L.setIfInBounds i true).toList.count false ≤ f := by
      have := count_set L.toList i hnot
      rw [Array.toList_setIfInBounds]
      omega
    have hold : ∀ j, j ≠ i → (L.setIfInBounds i true).getD j false = true → L.getD j false = true := fun j hij hj => by
      rw [Array.getD_eq_getD_getElem?, Array.getElem?_setIfInBounds_ne (Ne.symm hij), ← Array.getD_eq_getD_getElem?] at hj
      exact hj
    have hnew : ∀ j, L.getD j false = true → (L.setIfInBounds i true).getD j false = true := fun j hj => by
      by_cases hij : j = i
      · subst hij
        rw [Array.getD_eq_getD_getElem?, Array.getElem?_setIfInBounds_self_of_lt (by omega)]; rfl
      · rw [Array.getD_eq_getD_getElem?, Array.getElem?_setIfInBounds_ne (Ne.symm hij), ← Array.getD_eq_getD_getElem?]
        exact hj
    have hcl2 : Closed5 l (L.setIfInBounds i true) := fun j oj hj hoj e he hb => by
      by_cases hij : j = i
      · subst hij
        rw [hol] at hoj
        cases hoj
        exact hnew _ (hall e he hb)
      · exact hnew _ (hcl j oj (hold j hij hj) hoj e he hb)
    have hjl : ∀ j, L.getD j false = true → j < l.length := fun j hj => by
      rcases Nat.lt_or_ge j L.size with h | h
      · omega
      · rw [Array.getD, dif_neg (by omega)] at hj; cases hj
    have hval : ∀ (d : Nat) (v : Value) (w' : World), o.dst = some d → Rw w w' → S i v w' → wpAnyIn F n P .any l.toArray Q f (L.setIfInBounds i true) (a.put o.dst v) w' := by
      intro d v w' hd hB' hv
      have hds := hd1 d hd
      rw [hd]
      refine ih _ _ w' (by simpa using hs) hcnt (hRt _ _ _ hT hB') ⟨?_, ?_, ?_⟩ hcl2 ?_
      · simp [Act.put]; exact hL.size
      · simp [Act.put]; exact hL.defers
      · intro t ht
        have : d ≠ t := fun e => ht i hil (by simp [dst5, hol, hd, e])
        rw [put_ne this]
        exact hL.out t ht
      · intro j hj
        by_cases hij : j = i
        · subst hij
          show S j ((a.put (some d) v).tmps.getD (s.getD j 0) undef) w'
          rw [← hds, put_at (by rw [hL.size, hds]; exact hlt)]
          exact hv
        · have hjo := hold j hij hj
          have hjlt := hjl j hjo
          obtain ⟨oj, hoj⟩ : ∃ oj, l[j]? = some oj := ⟨l[j], by simp [hjlt]⟩
          have hsj : d ≠ s.getD j 0 := by
            intro e
            obtain ⟨_, _, g1, g2, _⟩ := solo5_at hB hoj
            cases hdj : oj.dst with
            | some dj =>
              have := g1 dj hdj
              exact hne d hd j hjlt hij (by simp [dst5, hoj, hdj, this, e])
            | none =>
              obtain ⟨j', hw, hj'⟩ := g2 hdj
              obtain ⟨ev, he, hb⟩ := Array.any_eq_true'.1 hw
              simp only [Bool.and_eq_true, beq_iff_eq] at hb
              have hl' : L.getD j' false = true := by
                have := hcl j oj hjo hoj ev he hb.1
                rw [hb.2] at this
                exact this
              have hne' : j' ≠ i := fun e2 => by
                subst e2
                have hlt2 : j' < L.size := by omega
                rw [Array.getD, dif_pos hlt2] at h1 hl'
                rw [h1] at hl'
                cases hl'
              exact hne d hd j' (hjl j' hl') hne' (by rw [hj', e])
          show S j ((a.put (some d) v).tmps.getD (s.getD j 0) undef) w'
          rw [getD_ne hsj]
          exact hS _ _ _ _ (hA j hjo) hB'
    have hfn : ∀ f, o.about P w a.eval = some f → F.fn f := fun f _ => hF.fn f
    simp only [wpOpIn, ho, Region.wanted, hg, if_true]
    refine ⟨hfn, ?_⟩
    rw [Oper.semAt_eq _ _ _ (noDefer_spec hnd ho)]
    rcases hcome with ⟨v, w', e, hds, hB', hv⟩ | ⟨g, args, e, hds, hc'⟩ | ⟨w', e, hds, hB', hv⟩
    · obtain ⟨d, hd⟩ := Option.isSome_iff_exists.1 hds
      rw [e]; exact hval d v w' hd hB' hv
    · obtain ⟨d, hd⟩ := Option.isSome_iff_exists.1 hds
      rw [e]
      refine ⟨fun hx => (hF.depth hx).elim, hF.calls _ _ _ _ _ (hc'.mono ?_)⟩
      rintro x w' ⟨v, rfl, hB', hv⟩
      exact hval d v w' hd hB' hv
    · rw [e]
      show wpAnyIn F n P .any l.toArray Q f (L.setIfInBounds i true) (a.put o.dst undef) w'
      rw [hds]
      show wpAnyIn F n P .any l.toArray Q f (L.setIfInBounds i true) a w'
      refine ih _ _ w' (by simpa using hs) hcnt (hRt _ _ _ hT hB') hL hcl2 ?_
      intro j hj
      by_cases hij : j = i
      · subst hij
        exact hv
      · exact hS _ _ _ _ (hA j (hold j hij hj)) hB'

/-- All slots of the region, put one behind the other in the text's order. -/
theorem like_puts5 {m : Nat} (hB : solo5 l s m = true) (hm : a0.tmps.size = m) {a : Act} (hL : Like5 l a0 a) : a = (List.range l.length).foldl (fun b i => b.put (dst5 l i) (look5 s a i)) a0 := by
  have hsd : ∀ i d, i < l.length → dst5 l i = some d → d = s.getD i 0 ∧ d < m := fun i d hi hd => by
    obtain ⟨o, ho⟩ : ∃ o, l[i]? = some o := ⟨l[i], by simp [hi]⟩
    obtain ⟨_, h2, h3, _⟩ := solo5_at hB ho
    have : o.dst = some d := by simpa [dst5, ho] using hd
    have e := h3 d this
    exact ⟨e, by rw [e]; exact h2⟩
  have key : ∀ k, k ≤ l.length → ∀ b, b = (List.range k).foldl (fun b i => b.put (dst5 l i) (look5 s a i)) a0 → b.tmps.size = a0.tmps.size ∧ b.defers = a0.defers ∧ ∀ t, t < a0.tmps.size → b.tmps[t]? = if (∃ i, i < k ∧ dst5 l i = some t) then a.tmps[t]? else a0.tmps[t]? := by
    intro k
    induction k with
    | zero => rintro _ b rfl; simp
    | succ k ih =>
      rintro hk b rfl
      obtain ⟨h1, h2, h3⟩ := ih (by omega) _ rfl
      rw [List.range_succ, List.foldl_append]
      simp only [List.foldl_cons, List.foldl_nil]
      generalize (List.range k).foldl (fun b i => b.put (dst5 l i) (look5 s a i)) a0 = b at h1 h2 h3
      cases hd : dst5 l k with
      | none =>
        refine ⟨h1, h2, fun t ht => ?_⟩
        show b.tmps[t]? = _
        rw [h3 t ht]
        by_cases he : ∃ i, i < k ∧ dst5 l i = some t
        · obtain ⟨i, hi, hit⟩ := he
          rw [if_pos ⟨i, hi, hit⟩, if_pos ⟨i, by omega, hit⟩]
        · rw [if_neg he, if_neg]
          rintro ⟨i, hi, hit⟩
          rcases Nat.lt_succ_iff_lt_or_eq.1 hi with h | rfl
          · exact he ⟨i, h, hit⟩
          · rw [hd] at hit; cases hit
      | some d =>
        obtain ⟨hs1, hs2⟩ := hsd k d (by omega) hd
        refine ⟨by simp [Act.put, h1], by simp [Act.put, h2], fun t ht => ?_⟩
        by_cases hdt : d = t
        · rw [if_pos ⟨k, by omega, by rw [hd, hdt]⟩]
          subst hdt
          have hlt : d < b.tmps.size := by omega
          have hlt2 : d < a.tmps.size := by rw [hL.size]; omega
          show (b.put (some d) (a.tmps.getD (s.getD k 0) undef)).tmps[d]? = _
          rw [← hs1]
          simp [Act.put, Array.getD, hlt, hlt2]
        · rw [put_ne hdt, h3 t ht]
          by_cases he : ∃ i, i < k ∧ dst5 l i = some t
          · obtain ⟨i, hi, hit⟩ := he
            rw [if_pos ⟨i, hi, hit⟩, if_pos ⟨i, by omega, hit⟩]
          · rw [if_neg he, if_neg]
            rintro ⟨i, hi, hit⟩
            rcases Nat.lt_succ_iff_lt_or_eq.1 hi with h | rfl
            · exact he ⟨i, h, hit⟩
            · rw [hd] at hit; cases hit; exact hdt rfl
  obtain ⟨h1, h2, h3⟩ := key l.length (Nat.le_refl _) _ rfl
  generalize (List.range l.length).foldl (fun b i => b.put (dst5 l i) (look5 s a i)) a0 = b at h1 h2 h3
  have ht : a.tmps = b.tmps := by
    apply Array.ext_getElem?
    intro t
    by_cases hlt : t < a0.tmps.size
    · rw [h3 t hlt]
      by_cases he : ∃ i, i < l.length ∧ dst5 l i = some t
      · rw [if_pos he]
      · rw [if_neg he]
        exact hL.out t fun i hi hit => he ⟨i, hi, hit⟩
    · rw [Array.getElem?_eq_none (by rw [hL.size]; omega), Array.getElem?_eq_none (by omega)]
  have hd : a.defers = b.defers := by rw [hL.defers, h2]
  cases a; cases b; simp_all

/-- In whatever order: each operation's word holds at the end. -/
theorem wp_region_loud5 {id : Nat} (s : List Nat) (S : Nat → Value → World → Prop) (Rw : World → World → Prop) (hm : P.follows .mixedOrders = true) (hB : solo5 l s a0.tmps.size = true)
    (hRt : ∀ a b c, Rw a b → Rw b c → Rw a c) (hRd : Rw w0 w0.drew)
    (hS : ∀ i v w w', S i v w → Rw w w' → S i v w')
    (hop : ∀ (i : Nat) (o : Oper), l[i]? = some o → ∀ (a : Act) (w : World), Rw w0 w → Like5 l a0 a → (∀ e ∈ o.after, Region.binds .any e = true → S e.on (look5 s a e.on) w) → Comes5 P Rw o (look5 s a i) a w (S i))
    (hend : ∀ (v : Nat → Value) (w : World), Rw w0 w → (∀ i j, s.getD i 0 = s.getD j 0 → v i = v j) → (∀ i, i < l.length → S i (v i) w) → Q .normal ((List.range l.length).foldl (fun b i => b.put (dst5 l i) (v i)) a0) w) :
    (Code.region id l.toArray true).wp P Q a0 w0 := by
  refine (wpIn_wide (n := 0)).1 (wpIn_region_any hm ?_)
  refine any_loud5 (loose_wide P) hB hRt hS hop (fun a w hT hL hA => ?_) _ _ _ _ (by simp) (by simp) hRd ⟨rfl, rfl, fun _ _ => rfl⟩ (fun j _ hj => ?_) (fun i hi => ?_)
  · rw [like_puts5 hB rfl hL]
    exact hend (look5 s a) w hT (fun i j e => by show a.tmps.getD _ _ = a.tmps.getD _ _; rw [e]) hA
  · exfalso
    rw [Array.getD_eq_getD_getElem?, Array.getElem?_replicate] at hj
    split at hj <;> cases hj
  · exfalso
    rw [Array.getD_eq_getD_getElem?, Array.getElem?_replicate] at hi
    split at hi <;> cases hi
end

end Go.Proofs.YtlahfffgmfjpaaaGreatDoor
