/-
  As Loud2, where one or more operations store into memory that the statement itself made: what the later worlds keep is told by a relation of worlds; an operation that writes no slot has the word of a slot that it waits for.
-/
import Derived.Test.YtjmfdpilmljppaaPart12
import Derived.Deep.LoopGhost
import Derived.Scope
namespace Go.Proofs.Ytjmfdpilmljppaa
open Go Go.RowKit Go.Shelf

section
variable {F : Fence} {n : Nat} {P : Program}

/-- The slot that an operation writes. -/
def dst5 (l : List Oper) (i : Nat) : Option Nat := match l[i]? with | some o => o.dst | none => none
/-- Each operation that writes writes a slot of its own, below number m; the others look at a slot that one for which they wait has written; none is guarded; none defers. -/
def solo5 (l : List Oper) (s : List Nat) (m : Nat) : Bool :=
  (l.all fun o => o.guard.isNone) &&
  ((List.range l.length).all fun i => match l[i]? with
    | none => true
    | some o => decide (s.getD i 0 < m) && (match o.dst with
      | some d => d == s.getD i 0
      | none => (List.range l.length).any fun j => waits o j && dst5 l j == some (s.getD i 0))) &&
  ((List.range l.length).all fun i => (List.range l.length).all fun j => i == j || dst5 l i == none || dst5 l i != dst5 l j) && noDefer l.toArray && beginB l l.length

structure Like5 (l : List Oper) (a0 a : Act) : Prop where
  size : a.tmps.size = a0.tmps.size
  defers : a.defers = a0.defers
  out : ∀ t, (∀ i, i < l.length → dst5 l i ≠ some t) → a.tmps[t]? = a0.tmps[t]?

abbrev look5 (s : List Nat) (a : Act) (i : Nat) : Value := a.tmps.getD (s.getD i 0) undef

/-- What an operation comes to: a value, it may be in a turned world; nothing, in a turned world; or a call. -/
def Comes5 (P : Program) (Rw : World → World → Prop) (o : Oper) (v0 : Value) (a : Act) (w : World) (R : Value → World → Prop) : Prop :=
  (∃ v w', (execOp a.eval o).run P w = .ok (.value v) w' ∧ o.dst.isSome = true ∧ Rw w w' ∧ R v w') ∨
  (∃ f args, (execOp a.eval o).run P w = .ok (.enter f args) w ∧ o.dst.isSome = true ∧ Calls P f args w fun e w' => ∃ v, e = .returned v ∧ Rw w w' ∧ R v w') ∨
  (∃ w', (execOp a.eval o).run P w = .ok .skip w' ∧ o.dst = none ∧ Rw w w' ∧ R v0 w')

variable {l : List Oper} {s : List Nat} {a0 : Act} {w0 : World} {Q : Exit → Act → World → Prop} {S : Nat → Value → World → Prop} {Rw : World → World → Prop}

theorem solo5_at {m i : Nat} {o : Oper} (h : solo5 l s m = true) (hi : l[i]? = some o) :
    o.guard = none ∧ s.getD i 0 < m ∧ (∀ d, o.dst = some d → d = s.getD i 0) ∧ (o.dst = none → ∃ j, waits o j = true ∧ dst5 l j = some (s.getD i 0)) ∧ ∀ d, o.dst = some d → ∀ j, j < l.length → j ≠ i → dst5 l j ≠ some d := by
  simp only [solo5, Bool.and_eq_true] at h
  obtain ⟨⟨⟨⟨h1, h2⟩, h3⟩, _⟩, _⟩ := h
  obtain ⟨hlt, he⟩ := List.getElem?_eq_some_iff.1 hi
  have k1 := List.all_eq_true.1 h1 o (he ▸ List.getElem_mem hlt)
  have k2 := List.all_eq_true.1 h2 i (List.mem_range.2 hlt)
  rw [hi] at k2
  simp only [Bool.and_eq_true, decide_eq_true_eq] at k2
  refine ⟨by simpa using k1, k2.1, ?_, ?_, ?_⟩
  · intro d hd
    have := k2.2
    rw [hd] at this
    simpa using this
  · intro hd
    have := k2.2
    rw [hd] at this
    obtain ⟨j, _, hj⟩ := List.any_eq_true.1 this
    simp only [Bool.and_eq_true, beq_iff_eq] at hj
    exact ⟨j, hj.1, hj.2⟩
  · intro d hd j hj hne e
    have := List.all_eq_true.1 (List.all_eq_true.1 h3 i (List.mem_range.2 hlt)) j (List.mem_range.2 hj)
    have hdi : dst5 l i = some d := by simp [dst5, hi, hd]
    simp only [hdi, e, Bool.or_eq_true, beq_iff_eq, bne_iff_ne] at this
    rcases this with (e1 | e1) | e1
    · exact hne e1.symm
    · cases e1
    · exact e1 rfl

/-- What is listed waited for nothing that is not. -/
def Closed5 (l : List Oper) (L : Array Bool) : Prop := ∀ (j : Nat) (o : Oper), L.getD j false = true → l[j]? = some o → ∀ e ∈ o.after, Region.binds .any e = true → L.getD e.on false = true

theorem any_loud5 (hF : Loose F P) (hB : solo5 l s a0.tmps.size = true)
    (hRt : ∀ a b c, Rw a b → Rw b c → Rw a c)
    (hS : ∀ i v w w', S i v w → Rw w w' → S i v w')
    (hop : ∀ (i : Nat) (o : Oper), l[i]? = some o → ∀ (a : Act) (w : World), Rw w0 w → Like5 l a0 a → (∀ e ∈ o.after, Region.binds .any e = true → S e.on (look5 s a e.on) w) → Comes5 P Rw o (look5 s a i) a w (S i))
    (hend : ∀ (a : Act) (w : World), Rw w0 w → Like5 l a0 a → (∀ i, i < l.length → S i (look5 s a i) w) → Q .normal a w) :
    ∀ (f : Nat) (L : Array Bool) (a : Act) (w : World), L.size = l.length → L.toList.count false ≤ f → Rw w0 w → Like5 l a0 a → Closed5 l L → (∀ i, L.getD i false = true → S i (look5 s a i) w) → wpAnyIn F n P .any l.toArray Q f L a w := by
  have hbeg : beginB l l.length = true := (Bool.and_eq_true_iff.1 hB).2
  have hnd : noDefer l.toArray = true := (Bool.and_eq_true_iff.1 (Bool.and_eq_true_iff.1 hB).1).2
  have htake : l.take l.length = l := List.take_length
  have fin : ∀ (L : Array Bool) (a : Act) (w : World), L.size = l.length → Region.ready .any l.toArray L = [] → Rw w0 w → Like5 l a0 a → (∀ i, L.getD i false = true → S i (look5 s a i) w) → Q .normal a w := by
    intro L a w hs hr hT hL hA
    have hfull := full_of_none (l := l) (m := l.length) hbeg hs (by rw [htake]; exact hr)
    refine hend a w hT hL fun i hi => hA i ?_
    rw [hfull]
    simp [Array.getD, hi]
  intro f
  induction f with
  | zero =>
    intro L a w hs hc hT hL _ hA
    have hall : Region.ready .any l.toArray L = [] := by
      apply List.eq_nil_iff_forall_not_mem.2
      intro i hi
      obtain ⟨h1, _⟩ := mem_ready.1 hi
      have h0 : L.toList.count false = 0 := by omega
      rw [List.count_eq_zero] at h0
      refine h0 ?_
      by_cases hlt : i < L.size
      · rw [Array.getD, dif_pos hlt] at h1
        rw [← h1]
        exact Array.getElem_mem_toList hlt
      · rw [Array.getD, dif_neg hlt] at h1; cases h1
    exact ⟨hall, fin L a w hs hall hT hL hA⟩
  | succ f ih =>
    intro L a w hs hc hT hL hcl hA
    refine ⟨fun hr => fin L a w hs hr hT hL hA, fun i hi => ?_⟩
    obtain ⟨h1, o, ho, hall⟩ := mem_ready.1 hi
    have hol : l[i]? = some o := by simpa using ho
    have hil : i < l.length := (List.getElem?_eq_some_iff.1 hol).1
    obtain ⟨hg, hlt, hd1, hd2, hne⟩ := solo5_at hB hol
    have hcome := hop i o hol a w hT hL (fun e he hb => hA e.on (hall e he hb))
    have hnot : L.toList[i]? = some false := by
      have hlt' : i < L.size := by omega
      rw [Array.getD, dif_pos hlt'] at h1
      rw [Array.getElem?_toList, Array.getElem?_eq_getElem hlt']
      exact congrArg some h1
    have hcnt : (L.setIfInBounds i true).toList.count false ≤ f := by
      have := count_set L.toList i hnot
      rw [Array.toList_setIfInBounds]
      omega
    have hold : ∀ j, j ≠ i → (L.setIfInBounds i true).getD j false = true → L.getD j false = true := fun j hij hj => by
      rw [Array.getD_eq_getD_getElem?, Array.getElem?_setIfInBounds_ne (Ne.symm hij), ← Array.getD_eq_getD_getElem?] at hj
      exact hj
    have hnew : ∀ j, L.getD j false = true → (L.setIfInBounds i true).getD j false = true := fun j hj => by
      by_cases hij : j = i
      · subst hij
        rw [Array.getD_eq_getD_getElem?, Array.getElem?_setIfInBounds_self_of_lt (by omega)]; rfl
      · rw [Array.getD_eq_getD_getElem?, Array.getElem?_setIfInBounds_ne (Ne.symm hij), ← Array.getD_eq_getD_getElem?]
        exact hj
    have hcl2 : Closed5 l (L.setIfInBounds i true) := fun j oj hj hoj e he hb => by
      by_cases hij : j = i
      · subst hij
        rw [hol] at hoj
        cases hoj
        exact hnew _ (hall e he hb)
      · exact hnew _ (hcl j oj (hold j hij hj) hoj e he hb)
    have hjl : ∀ j, L.getD j false = true → j < l.length := fun j hj => by
      rcases Nat.lt_or_ge j L.size with h | h
      · omega
      · rw [Array.getD, dif_neg (by omega)] at hj; cases hj
    have hval : ∀ (d : Nat) (v : Value) (w' : World), o.dst = some d → Rw w w' → S i v w' → wpAnyIn F n P .any l.toArray Q f (L.setIfInBounds i true) (a.put o.dst v) w' := by
      intro d v w' hd hB' hv
      have hds := hd1 d hd
      rw [hd]
      refine ih _ _ w' (by simpa using hs) hcnt (hRt _ _ _ hT hB') ⟨?_, ?_, ?_⟩ hcl2 ?_
      · simp [Act.put]; exact hL.size
      · simp [Act.put]; exact hL.defers
      · intro t ht
        have : d ≠ t := fun e => ht i hil (by simp [dst5, hol, hd, e])
        rw [put_ne this]
        exact hL.out t ht
      · intro j hj
        by_cases hij : j = i
        · subst hij
          show S j ((a.put (some d) v).tmps.getD (s.getD j 0) undef) w'
          rw [← hds, put_at (by rw [hL.size, hds]; exact hlt)]
          exact hv
        · have hjo := hold j hij hj
          have hjlt := hjl j hjo
          obtain ⟨oj, hoj⟩ : ∃ oj, l[j]? = some oj := ⟨l[j], by simp [hjlt]⟩
          have hsj : d ≠ s.getD j 0 := by
            intro e
            obtain ⟨_, _, g1, g2, _⟩ := solo5_at hB hoj
            cases hdj : oj.dst with
            | some dj =>
              have := g1 dj hdj
              exact hne d hd j hjlt hij (by simp [dst5, hoj, hdj, this, e])
            | none =>
              obtain ⟨j', hw, hj'⟩ := g2 hdj
              obtain ⟨ev, he, hb⟩ := Array.any_eq_true'.1 hw
              simp only [Bool.and_eq_true, beq_iff_eq] at hb
              have hl' : L.getD j' false = true := by
                have := hcl j oj hjo hoj ev he hb.1
                rw [hb.2] at this
                exact this
              have hne' : j' ≠ i := fun e2 => by
                subst e2
                have hlt2 : j' < L.size := by omega
                rw [Array.getD, dif_pos hlt2] at h1 hl'
                rw [h1] at hl'
                cases hl'
              exact hne d hd j' (hjl j' hl') hne' (by rw [hj', e])
          show S j ((a.put (some d) v).tmps.getD (s.getD j 0) undef) w'
          rw [getD_ne hsj]
          exact hS _ _ _ _ (hA j hjo) hB'
    have hfn : ∀ f, o.about P w a.eval = some f → F.fn f := fun f _ => hF.fn f
    simp only [wpOpIn, ho, Region.wanted, hg, if_true]
    refine ⟨hfn, ?_⟩
    rw [Oper.semAt_eq _ _ _ (noDefer_spec hnd ho)]
    rcases hcome with ⟨v, w', e, hds, hB', hv⟩ | ⟨g, args, e, hds, hc'⟩ | ⟨w', e, hds, hB', hv⟩
    · obtain ⟨d, hd⟩ := Option.isSome_iff_exists.1 hds
      rw [e]; exact hval d v w' hd hB' hv
    · obtain ⟨d, hd⟩ := Option.isSome_iff_exists.1 hds
      rw [e]
      refine ⟨fun hx => (hF.depth hx).elim, hF.calls _ _ _ _ _ (hc'.mono ?_)⟩
      rintro x w' ⟨v, rfl, hB', hv⟩
      exact hval d v w' hd hB' hv
    · rw [e]
      show wpAnyIn F n P .any l.toArray Q f (L.setIfInBounds i true) (a.put o.dst undef) w'
      rw [hds]
      show wpAnyIn F n P .any l.toArray Q f (L.setIfInBounds i true) a w'
      refine ih _ _ w' (by simpa using hs) hcnt (hRt _ _ _ hT hB') hL hcl2 ?_
      intro j hj
      by_cases hij : j = i
      · subst hij
        exact hv
      · exact hS _ _ _ _ (hA j (hold j hij hj)) hB'

/-- All slots of the region, put one behind the other in the text's order. -/
theorem like_puts5 {m : Nat} (hB : solo5 l s m = true) (hm : a0.tmps.size = m) {a : Act} (hL : Like5 l a0 a) : a = (List.range l.length).foldl (fun b i => b.put (dst5 l i) (look5 s a i)) a0 := by
  have hsd : ∀ i d, i < l.length → dst5 l i = some d → d = s.getD i 0 ∧ d < m := fun i d hi hd => by
    obtain ⟨o, ho⟩ : ∃ o, l[i]? = some o := ⟨l[i], by simp [hi]⟩
    obtain ⟨_, h2, h3, _⟩ := solo5_at hB ho
    have : o.dst = some d := by simpa [dst5, ho] using hd
    have e := h3 d this
    exact ⟨e, by rw [e]; exact h2⟩
  have key : ∀ k, k ≤ l.length → ∀ b, b = (List.range k).foldl (fun b i => b.put (dst5 l i) (look5 s a i)) a0 → b.tmps.size = a0.tmps.size ∧ b.defers = a0.defers ∧ ∀ t, t < a0.tmps.size → b.tmps[t]? = if (∃ i, i < k ∧ dst5 l i = some t) then a.tmps[t]? else a0.tmps[t]? := by
    intro k
    induction k with
    | zero => rintro _ b rfl; simp
    | succ k ih =>
      rintro hk b rfl
      obtain ⟨h1, h2, h3⟩ := ih (by omega) _ rfl
      rw [List.range_succ, List.foldl_append]
      simp only [List.foldl_cons, List.foldl_nil]
      generalize (List.range k).foldl (fun b i => b.put (dst5 l i) (look5 s a i)) a0 = b at h1 h2 h3
      cases hd : dst5 l k with
      | none =>
        refine ⟨h1, h2, fun t ht => ?_⟩
        show b.tmps[t]? = _
        rw [h3 t ht]
        by_cases he : ∃ i, i < k ∧ dst5 l i = some t
        · obtain ⟨i, hi, hit⟩ := he
          rw [if_pos ⟨i, hi, hit⟩, if_pos ⟨i, by omega, hit⟩]
        · rw [if_neg he, if_neg]
          rintro ⟨i, hi, hit⟩
          rcases Nat.lt_succ_iff_lt_or_eq.1 hi with h | rfl
          · exact he ⟨i, h, hit⟩
          · rw [hd] at hit; cases hit
      | some d =>
        obtain ⟨hs1, hs2⟩ := hsd k d (by omega) hd
        refine ⟨by simp [Act.put, h1], by simp [Act.put, h2], fun t ht => ?_⟩
        by_cases hdt : d = t
        · rw [if_pos ⟨k, by omega, by rw [hd, hdt]⟩]
          subst hdt
          have hlt : d < b.tmps.size := by omega
          have hlt2 : d < a.tmps.size := by rw [hL.size]; omega
          show (b.put (some d) (a.tmps.getD (s.getD k 0) undef)).tmps[d]? = _
          rw [← hs1]
          simp [Act.put, Array.getD, hlt, hlt2]
        · rw [put_ne hdt, h3 t ht]
          by_cases he : ∃ i, i < k ∧ dst5 l i = some t
          · obtain ⟨i, hi, hit⟩ := he
            rw [if_pos ⟨i, hi, hit⟩, if_pos ⟨i, by omega, hit⟩]
          · rw [if_neg he, if_neg]
            rintro ⟨i, hi, hit⟩
            rcases Nat.lt_succ_iff_lt_or_eq.1 hi with h | rfl
            · exact he ⟨i, h, hit⟩
            · rw [hd] at hit; cases hit; exact hdt rfl
  obtain ⟨h1, h2, h3⟩ := key l.length (Nat.le_refl _) _ rfl
  generalize (List.range l.length).foldl (fun b i => b.put (dst5 l i) (look5 s a i)) a0 = b at h1 h2 h3
  have ht : a.tmps = b.tmps := by
    apply Array.ext_getElem?
    intro t
    by_cases hlt : t < a0.tmps.size
    · rw [h3 t hlt]
      by_cases he : ∃ i, i < l.length ∧ dst5 l i = some t
      · rw [if_pos he]
      · rw [if_neg he]
        exact hL.out t fun i hi hit => he ⟨i, hi, hit⟩
    · rw [Array.getElem?_eq_none (by rw [hL.size]; omega), Array.getElem?_eq_none (by omega)]
  have hd : a.defers = b.defers := by rw [hL.defers, h2]
  cases a; cases b; simp_all

/-- In whatever order: each operation's word holds at the end. -/
theorem wp_region_loud5 {id : Nat} (s : List Nat) (S : Nat → Value → World → Prop) (Rw : World → World → Prop) (hm : P.follows .mixedOrders = true) (hB : solo5 l s a0.tmps.size = true)
    (hRt : ∀ a b c, Rw a b → Rw b c → Rw a c) (hRd : Rw w0 w0.drew)
    (hS : ∀ i v w w', S i v w → Rw w w' → S i v w')
    (hop : ∀ (i : Nat) (o : Oper), l[i]? = some o → ∀ (a : Act) (w : World), Rw w0 w → Like5 l a0 a → (∀ e ∈ o.after, Region.binds .any e = true → S e.on (look5 s a e.on) w) → Comes5 P Rw o (look5 s a i) a w (S i))
    (hend : ∀ (v : Nat → Value) (w : World), Rw w0 w → (∀ i j, s.getD i 0 = s.getD j 0 → v i = v j) → (∀ i, i < l.length → S i (v i) w) → Q .normal ((List.range l.length).foldl (fun b i => b.put (dst5 l i) (v i)) a0) w) :
    (Code.region id l.toArray true).wp P Q a0 w0 := by
  refine (wpIn_wide (n := 0)).1 (wpIn_region_any hm ?_)
  refine any_loud5 (loose_wide P) hB hRt hS hop (fun a w hT hL hA => ?_) _ _ _ _ (by simp) (by simp) hRd ⟨rfl, rfl, fun _ _ => rfl⟩ (fun j _ hj => ?_) (fun i hi => ?_)
  · rw [like_puts5 hB rfl hL]
    exact hend (look5 s a) w hT (fun i j e => by show a.tmps.getD _ _ = a.tmps.getD _ _; rw [e]) hA
  · exfalso
    rw [Array.getD_eq_getD_getElem?, Array.getElem?_replicate] at hj
    split at hj <;> cases hj
  · exfalso
    rw [Array.getD_eq_getD_getElem?, Array.getElem?_replicate] at hi
    split at hi <;> cases hi
end

end Go.Proofs.Ytjmfdpilmljppaa

/-
  grow.grown: a box grown as far as it goes, whatever tells what is free.
-/
namespace Go.Proofs.Ytjmfdpilmljppaa
open Go Go.RowKit Go.Shelf

attribute [local go_sem] Oper.semAt_some ext_const

/-- What the loops keep. -/
structure GrPv (w : World) (d0 d1 d2 : Int) (p0 p1 p2 p3 p4 p5 pd B3 B4 B6r B7 : Nat) (b : Bx) (V : World) : Prop where
  below : Below w.heap.size w V
  six : Six d0 d1 d2 p0 p1 p2 p3 p4 p5 pd V
  d : Blk V B3 26 #[I d0, I d1, I d2]
  b : Blk V B4 32 (C6 b)
  r : Blk V B6r 32 #[I 0, I 0, I 0, I 0, I 0, I 0]
  s : Blk V B7 98 #[fE p0, fB p1 pd, fE p2, fB p3 pd, fE p4, fB p5 pd]
theorem GrPv.later {w : World} {d0 d1 d2 : Int} {p0 p1 p2 p3 p4 p5 pd B3 B4 B6r B7 : Nat} {b : Bx} {V V' : World} (h : GrPv w d0 d1 d2 p0 p1 p2 p3 p4 p5 pd B3 B4 B6r B7 b V) (hb : Below V.heap.size V V') : GrPv w d0 d1 d2 p0 p1 p2 p3 p4 p5 pd B3 B4 B6r B7 b V' :=
  ⟨then_below h.below hb, h.six.later hb, h.d.later hb, h.b.later hb, h.r.later hb, h.s.later hb⟩

abbrev z6 : Array Value := #[I 0, I 0, I 0, I 0, I 0, I 0]
/-- What lay stays, but that a new box of the statement may become the next one. -/
def KeepN (n : Nat) (nx : Bx) (w w' : World) : Prop := Below n w w' ∧ ∀ (k : Nat) (o : Obj), n ≤ k → w.heap[k]? = some o → w'.heap[k]? = some o ∨ (o = .cells z6 32 ∧ w'.heap[k]? = some (.cells (C6 nx) 32))
theorem KeepN.refl (n : Nat) (nx : Bx) (w : World) : KeepN n nx w w := ⟨Below.refl _ _, fun _ _ _ h => .inl h⟩
theorem KeepN.trans {n : Nat} {nx : Bx} (a b c : World) (h : KeepN n nx a b) (k : KeepN n nx b c) : KeepN n nx a c :=
  ⟨h.1.trans k.1, fun i o hi ho => by
    rcases h.2 i o hi ho with h1 | ⟨e, h1⟩
    · exact k.2 i o hi h1
    · rcases k.2 i _ hi h1 with h2 | ⟨_, h2⟩
      · exact .inr ⟨e, h2⟩
      · exact .inr ⟨e, h2⟩⟩
theorem KeepN.below {n : Nat} {nx : Bx} {w w' : World} (h : Below w.heap.size w w') (hn : n ≤ w.heap.size) : KeepN n nx w w' :=
  ⟨h.mono hn, fun k _ _ ho => .inl ((h.block k (Array.getElem?_eq_some_iff.1 ho).1).trans ho)⟩
theorem KeepN.nx {n : Nat} {nx : Bx} {w w' : World} (h : KeepN n nx w w') {B : Nat} (hn : n ≤ B) (hB : Blk w B 32 (C6 nx)) : Blk w' B 32 (C6 nx) := by
  rcases h.2 B _ hn hB with h1 | ⟨_, h1⟩
  · exact h1
  · exact h1
theorem KeepN.new {n : Nat} {nx : Bx} {w w' : World} (h : KeepN n nx w w') {B : Nat} (hn : n ≤ B) (hB : Blk w B 32 z6 ∨ Blk w B 32 (C6 nx)) : Blk w' B 32 z6 ∨ Blk w' B 32 (C6 nx) := by
  rcases hB with hB | hB
  · rcases h.2 B _ hn hB with h1 | ⟨_, h1⟩
    · exact .inl h1
    · exact .inr h1
  · exact .inr (h.nx hn hB)
/-- What an operation of the region comes to. -/
def wordG (n : Nat) (d0 d1 d2 : Int) (f : Value) (b raw nx : Bx) (er : Int) (i : Nat) (v : Value) (w : World) : Prop :=
  match i with
  | 0 => v = A3 d0 d1 d2
  | 1 => v = f
  | 2 => v = B6 b
  | 3 => v = B6 raw
  | 4 => v = .tuple #[B6 nx, I er]
  | 5 => v = .tuple #[B6 nx, I er]
  | 6 => v = B6 nx
  | 7 => v = I er
  | 8 => ∃ B, v = .pointer (some ⟨B, 0, none⟩) ∧ n ≤ B ∧ (Blk w B 32 z6 ∨ Blk w B 32 (C6 nx))
  | 9 => ∃ B, v = .pointer (some ⟨B, 0, none⟩) ∧ n ≤ B ∧ Blk w B 32 (C6 nx)
  | 10 => v = I er
  | _ => False
theorem wordG_later {n : Nat} {d0 d1 d2 : Int} {f : Value} {b raw nx : Bx} {er : Int} (i : Nat) (v : Value) (w w' : World) (h : wordG n d0 d1 d2 f b raw nx er i v w) (hB : KeepN n nx w w') : wordG n d0 d1 d2 f b raw nx er i v w' := by
  match i, h with
  | 0, h => exact h
  | 1, h => exact h
  | 2, h => exact h
  | 3, h => exact h
  | 4, h => exact h
  | 5, h => exact h
  | 6, h => exact h
  | 7, h => exact h
  | 8, h =>
    obtain ⟨B, e, hn, hk⟩ := h
    exact ⟨B, e, hn, hB.new hn hk⟩
  | 9, h =>
    obtain ⟨B, e, hn, hk⟩ := h
    exact ⟨B, e, hn, hB.nx hn hk⟩
  | 10, h => exact h
  | n + 11, h => exact h.elim

set_option maxRecDepth 100000 in
theorem store_nx {n : Nat} {nx : Bx} {w : World} {B : Nat} (hn : n ≤ B) (hB : Blk w B 32 z6 ∨ Blk w B 32 (C6 nx)) :
    ∃ w', (Instr.storeAt 32 (.pointer (some ⟨B, 0, none⟩)) (B6 nx)).run Try.prog w = .ok () w' ∧ KeepN n nx w w' ∧ Blk w' B 32 (C6 nx) := by
  obtain ⟨x0, x1, x2, x3, x4, x5, hk⟩ : ∃ x0 x1 x2 x3 x4 x5, Blk w B 32 #[x0, x1, x2, x3, x4, x5] := by
    rcases hB with h | h
    · exact ⟨_, _, _, _, _, _, h⟩
    · exact ⟨_, _, _, _, _, _, h⟩
  have h6 := hk.set6 (I nx.x) (I nx.y) (I nx.z) (I nx.a) (I nx.b) (I nx.c)
  have hb6 := below_set6 (Below.refl n w) hn (I nx.x) (I nx.y) (I nx.z) (I nx.a) (I nx.b) (I nx.c)
  have hother : ∀ k, k ≠ B → ((((((w.setCell ⟨B, 0, none⟩ (I nx.x)).setCell ⟨B, 1, none⟩ (I nx.y)).setCell ⟨B, 2, none⟩ (I nx.z)).setCell ⟨B, 3, none⟩ (I nx.a)).setCell ⟨B, 4, none⟩ (I nx.b)).setCell ⟨B, 5, none⟩ (I nx.c)).heap[k]? = w.heap[k]? := fun k hne =>
    ((((((RowKit.Below.heap_setCell _ ⟨B, 5, none⟩ _ k hne).trans (RowKit.Below.heap_setCell _ ⟨B, 4, none⟩ _ k hne)).trans (RowKit.Below.heap_setCell _ ⟨B, 3, none⟩ _ k hne)).trans (RowKit.Below.heap_setCell _ ⟨B, 2, none⟩ _ k hne)).trans (RowKit.Below.heap_setCell _ ⟨B, 1, none⟩ _ k hne)).trans (RowKit.Below.heap_setCell _ ⟨B, 0, none⟩ _ k hne))
  refine ⟨_, ?_, ⟨hb6, fun k o hk2 ho => ?_⟩, h6⟩
  · obtain ⟨⟨c0, c1, c2, c3, c4, c5⟩, f0, f1, f2, f3, f4, f5⟩ := hk.row6
    clear hB hb6 hother
    have k1 := hk.set 0 (I nx.x)
    have k2 := k1.set 1 (I nx.y)
    have k3 := k2.set 2 (I nx.z)
    have k4 := k3.set 3 (I nx.a)
    have k5 := k4.set 4 (I nx.b)
    have r1 := k1.cell 1; have r2 := k2.cell 2; have r3 := k3.cell 3; have r4 := k4.cell 4; have r5 := k5.cell 5
    have g1 := k1.frozen 1; have g2 := k2.frozen 2; have g3 := k3.frozen 3; have g4 := k4.frozen 4; have g5 := k5.frozen 5
    simp at r1 r2 r3 r4 r5
    clear k1 k2 k3 k4 k5 hk h6
    go_simp
  · by_cases e : k = B
    · subst e
      rcases hB with h | h
      · refine .inr ⟨?_, h6⟩
        have h' : w.heap[k]? = some (.cells z6 32) := h
        rw [ho] at h'
        exact Option.some.inj h'
      · have h' : w.heap[k]? = some (.cells (C6 nx) 32) := h
        rw [ho] at h'
        rw [Option.some.inj h']
        exact .inl h6
    · exact .inl ((hother k e).trans ho)

/-- One of the six closures, as it is called. -/
def StepFn (b raw : Bx) (fn : Nat) (lb : Array Value) (w : World) : Prop := ∀ w1, Below w.heap.size w w1 → Calls Try.prog fn (#[B6 b] ++ lb) w1 fun e W' => e = .returned (B6 raw) ∧ Below w1.heap.size w1 W'

set_option maxRecDepth 100000 in
theorem step_at {d0 d1 d2 : Int} (hd : mayD d0 d1 d2) {b : Bx} (hb : mayB d0 d1 d2 b) {p0 p1 p2 p3 p4 p5 pd : Nat} {W : World} (hS : Six d0 d1 d2 p0 p1 p2 p3 p4 p5 pd W) {k : Nat} (hk : k < 6) :
    ∃ fn lb, (∀ w, (Instr.index 98 (.agg #[fE p0, fB p1 pd, fE p2, fB p3 pd, fE p4, fB p5 pd]) (.int .i64 k)).run Try.prog w = .ok (.func (.func fn) #[] lb) w) ∧ (∀ args w, (callFunc fn args).run Try.prog w = .ok (.enter fn args) w) ∧
      StepFn b (rawB d0 d1 d2 b (stepsL.getD k (0, false))) fn lb W := by
  have ex := enters_of Try.func82 (by kernel_rfl) rfl
  have ey := enters_of Try.func84 (by kernel_rfl) rfl
  obtain ⟨s0, s1, s2⟩ := sizes_bd hd hb
  obtain ⟨⟨_, u0⟩, ⟨_, u1⟩, _, u2⟩ := hd
  match k, hk with
  | 0, _ =>
    refine ⟨82, #[.pointer (some ⟨p0, 0, none⟩)], fun w => by kernel_rfl, ex, fun w1 h1 => ?_⟩
    exact end0_calls w1 (hS.h0.later h1) s0
  | 1, _ =>
    refine ⟨84, #[.pointer (some ⟨p1, 0, none⟩), .pointer (some ⟨pd, 0, none⟩)], fun w => by kernel_rfl, ey, fun w1 h1 => ?_⟩
    exact beg0_calls w1 (hS.h1.later h1) (hS.hd.later h1) s0 hb.1.2 u0 (back_rem hb.1.2)
  | 2, _ =>
    refine ⟨82, #[.pointer (some ⟨p2, 0, none⟩)], fun w => by kernel_rfl, ex, fun w1 h1 => ?_⟩
    exact end1_calls w1 (hS.h2.later h1) s1
  | 3, _ =>
    refine ⟨84, #[.pointer (some ⟨p3, 0, none⟩), .pointer (some ⟨pd, 0, none⟩)], fun w => by kernel_rfl, ey, fun w1 h1 => ?_⟩
    exact beg1_calls w1 (hS.h3.later h1) (hS.hd.later h1) s1 hb.2.1.2 u1 (back_rem hb.2.1.2)
  | 4, _ =>
    refine ⟨82, #[.pointer (some ⟨p4, 0, none⟩)], fun w => by kernel_rfl, ex, fun w1 h1 => ?_⟩
    exact end2_calls w1 (hS.h4.later h1) s2
  | 5, _ =>
    refine ⟨84, #[.pointer (some ⟨p5, 0, none⟩), .pointer (some ⟨pd, 0, none⟩)], fun w => by kernel_rfl, ey, fun w1 h1 => ?_⟩
    exact beg2_calls w1 (hS.h5.later h1) (hS.hd.later h1) s2 hb.2.2.2 u2 (back_rem hb.2.2.2)

set_option maxRecDepth 100000 in
set_option maxHeartbeats 16000000 in
theorem grown_calls {d0 d1 d2 : Int} (hd : mayD d0 d1 d2) {b : Bx} (hb : mayB d0 d1 d2 b) (q : Bx → Bool) {g : Nat} {fi lb : Array Value} (w : World) (heg : ∀ args w, (callFunc g args).run Try.prog w = .ok (.enter g args) w)
    (hF : ∀ nx w1, mayB d0 d1 d2 nx → canonB d0 d1 d2 nx = nx → Below w.heap.size w w1 → Calls Try.prog g (fi.push (B6 nx) ++ lb) w1 fun e W' => e = .returned (.bool (q nx)) ∧ Below w1.heap.size w1 W') :
    Calls Try.prog 31 #[A3 d0 d1 d2, B6 b, .func (.func g) fi lb] w fun e W' => e = .returned (B6 (growG d0 d1 d2 q b)) ∧ Below w.heap.size w W' := by
  have mixed : Try.prog.follows .mixedOrders = true := by kernel_rfl
  have HD : Hid (mayD d0 d1 d2) := hd
  have HF : Hid (∀ nx w1, mayB d0 d1 d2 nx → canonB d0 d1 d2 nx = nx → Below w.heap.size w w1 → Calls Try.prog g (fi.push (B6 nx) ++ lb) w1 fun e W' => e = .returned (.bool (q nx)) ∧ Below w1.heap.size w1 W') := hF
  have HS : Hid (∀ w, Calls Try.prog 57 #[A3 d0 d1 d2] w fun e W' => ∃ p0 p1 p2 p3 p4 p5 pd, e = .returned (.agg #[fE p0, fB p1 pd, fE p2, fB p3 pd, fE p4, fB p5 pd]) ∧ Six d0 d1 d2 p0 p1 p2 p3 p4 p5 pd W' ∧ Below w.heap.size w W') := fun w => steps_calls d0 d1 d2 w
  obtain ⟨R, hR⟩ : ∃ R, R = growG d0 d1 d2 q b := ⟨_, rfl⟩
  rw [← hR]
  have HR : Hid (growG d0 d1 d2 q b = R) := hR.symm
  obtain ⟨n0, hn0⟩ : ∃ n0 : Nat, 48 - szB b = n0 := ⟨(48 - szB b).toNat, by have := sz_bd hd hb; omega⟩
  have HN : Hid (48 - szB b = n0 ∧ mayB d0 d1 d2 b) := ⟨hn0, hb⟩
  clear hd hb hF hR hn0
  obtain ⟨W, hW, hs, hB0, b0, b1, b2⟩ := three_start w #[I d0, I d1, I d2] (C6 b) #[I 0, I 0, I 0, I 0, I 0, I 0] 26 32 32
  have HW : Hid (((w.alloc (.cells #[I d0, I d1, I d2] 26)).alloc (.cells (C6 b) 32)).alloc (.cells #[I 0, I 0, I 0, I 0, I 0, I 0] 32) = W) := hW
  clear hW hs
  go_enter Try.func31, Try.ntmps31
  go_wp2
  refine wp_scope_straight ?_
  obtain ⟨e0, e1, e2, ez⟩ := b0.three (Below.refl _ _)
  rw [HW.out]
  go_wp2_with fail
  refine (HS.out _).mono ?_
  rintro e w1 ⟨p0, p1, p2, p3, p4, p5, pd, rfl, hS, hB⟩
  have h7 : Below w1.heap.size w1 (w1.alloc (.cells #[fE p0, fB p1 pd, fE p2, fB p3 pd, fE p4, fB p5 pd] 98)) := (Below.refl _ w1).alloc (Nat.le_refl _) _
  have pv : GrPv w d0 d1 d2 p0 p1 p2 p3 p4 p5 pd w.heap.size (w.heap.size + 1) (w.heap.size + 1 + 1) w1.heap.size b (w1.alloc (.cells #[fE p0, fB p1 pd, fE p2, fB p3 pd, fE p4, fB p5 pd] 98)) :=
    ⟨then_below (then_below hB0 hB) h7, hS.later h7, (b0.later hB).later h7, (b1.later hB).later h7, (b2.later hB).later h7, Blk.new _ _ _⟩
  have HU : Hid (w.heap.size ≤ w.heap.size + 1 ∧ w.heap.size + 1 ≠ w.heap.size + 1 + 1 ∧ w.heap.size ≤ w.heap.size + 1 + 1 ∧ w.heap.size ≠ w.heap.size + 1) := ⟨by omega, by omega, by omega, by omega⟩
  clear e0 e1 e2 ez HW HS hS hB h7 b0 b1 b2 hB0
  obtain ⟨U, hU⟩ : ∃ U, U = w1.alloc (.cells #[fE p0, fB p1 pd, fE p2, fB p3 pd, fE p4, fB p5 pd] 98) := ⟨_, rfl⟩
  rw [← hU] at pv
  generalize w.heap.size + 1 + 1 = B6r at *
  generalize w.heap.size + 1 = B4 at *
  go_wp2_with fail
  refine wp_label ?_
  go_wp2_with fail
  rw [← hU]
  clear hU
  generalize w1.heap.size = B7 at *
  clear w1
  go_loopg [] n0 (fun n wr => ∃ b', Hid (48 - szB b' = (n : Int) ∧ mayB d0 d1 d2 b' ∧ growG d0 d1 d2 q b' = R) ∧ GrPv w d0 d1 d2 p0 p1 p2 p3 p4 p5 pd w.heap.size B4 B6r B7 b' wr)
  case atStart => exact ⟨b, ⟨HN.out.1, HN.out.2, HR.out⟩, pv⟩
  case round =>
    clear pv HN HR
    obtain ⟨b', HB', pv1⟩ := hrel
    obtain ⟨⟨s0, s1, s2, s3, s4, s5⟩, _⟩ := pv1.s.row6
    have sz := pv1.s.lt
    go_wp2_with fail
    go_loopw [15] (fun i wr2 => ∃ (k : Nat), k ≤ 6 ∧ i = .int .i64 k ∧ GrPv w d0 d1 d2 p0 p1 p2 p3 p4 p5 pd w.heap.size B4 B6r B7 b' wr2 ∧ Hid (∀ j, j < k → tryG d0 d1 d2 q b' (stepsL.getD j (0, false)) = false)) (fun i _ => 6 - (RowKit.intOf i).toNat)
    case atStart => exact ⟨0, by omega, rfl, pv1, fun j h => absurd h (Nat.not_lt_zero j)⟩
    case round =>
      clear pv1 s0 s1 s2 s3 s4 s5 sz
      rename World => wr2
      obtain ⟨k, hk, rfl, pv2, HNo⟩ := hrel
      by_cases hlt : (k : Int) < 6
      · have hk6 : k < 6 := by omega
        obtain ⟨fn, la, hix, hen, hst⟩ := step_at HD.out HB'.out.2.1 pv2.six hk6
        have HX : Hid (∀ args w, (callFunc fn args).run Try.prog w = .ok (.enter fn args) w) := hen
        have HSt : Hid (StepFn b' (rawB d0 d1 d2 b' (stepsL.getD k (0, false))) fn la wr2) := hst
        clear hen hst
        have hcan : ∃ (nx : Bx) (er : Int), (∀ w, Calls Try.prog 23 #[A3 d0 d1 d2, B6 (rawB d0 d1 d2 b' (stepsL.getD k (0, false)))] w fun e W' => e = .returned (.tuple #[B6 nx, I er]) ∧ Below w.heap.size w W') ∧
            ((er = 0 ∧ nx = stepB d0 d1 d2 b' (stepsL.getD k (0, false)).1 (stepsL.getD k (0, false)).2 ∧ sAt b' (stepsL.getD k (0, false)).1 + 1 ≤ dimAt d0 d1 d2 (stepsL.getD k (0, false)).1) ∨ (er ≠ 0 ∧ tryG d0 d1 d2 q b' (stepsL.getD k (0, false)) = false)) := by
          by_cases hm : sAt b' (stepsL.getD k (0, false)).1 + 1 ≤ dimAt d0 d1 d2 (stepsL.getD k (0, false)).1
          · exact ⟨_, 0, fun w => bcanon_ok w HD.out ((raw_may HB'.out.2.1).2 hm), .inl ⟨rfl, rfl, hm⟩⟩
          · have hr : ¬ mayB d0 d1 d2 (rawB d0 d1 d2 b' (stepsL.getD k (0, false))) := fun h => hm ((raw_may HB'.out.2.1).1 h)
            have he := errB_no HD.out hr
            refine ⟨⟨0, 0, 0, 0, 0, 0⟩, 2, fun w => ?_, .inr ⟨by decide, ?_⟩⟩
            · have := bcanon_err w (d0 := d0) (d1 := d1) (d2 := d2) (b := rawB d0 d1 d2 b' (stepsL.getD k (0, false))) (by rw [he]; decide)
              rw [he] at this
              exact this
            · unfold tryG
              rw [decide_eq_false hm, Bool.false_and]
        obtain ⟨nx, er, hC, hcase⟩ := hcan
        have HC : Hid (∀ w, Calls Try.prog 23 #[A3 d0 d1 d2, B6 (rawB d0 d1 d2 b' (stepsL.getD k (0, false)))] w fun e W' => e = .returned (.tuple #[B6 nx, I er]) ∧ Below w.heap.size w W') := hC
        have Hcase : Hid ((er = 0 ∧ nx = stepB d0 d1 d2 b' (stepsL.getD k (0, false)).1 (stepsL.getD k (0, false)).2 ∧ sAt b' (stepsL.getD k (0, false)).1 + 1 ≤ dimAt d0 d1 d2 (stepsL.getD k (0, false)).1) ∨ (er ≠ 0 ∧ tryG d0 d1 d2 q b' (stepsL.getD k (0, false)) = false)) := hcase
        clear hC hcase
        generalize hraw : rawB d0 d1 d2 b' (stepsL.getD k (0, false)) = raw at *
        clear hraw
        go_wp2_with fail
        refine wp_region_loud5 (w0 := wr2) [19, 20, 21, 22, 23, 18, 24, 25, 10, 10, 11] (wordG wr2.heap.size d0 d1 d2 (.func (.func fn) #[] la) b' raw nx er) (KeepN wr2.heap.size nx) mixed (by kernel_rfl) (fun a b c h k => KeepN.trans a b c h k) (KeepN.below ((Below.refl _ wr2).drew) (Nat.le_refl _)) wordG_later ?_ ?_
        · intro i op hi act w' hKT hL hpre
          have hTT := hKT.1
          have hsz : wr2.heap.size ≤ w'.heap.size := hTT.size
          have s3 : act.tmps.getD 3 undef = .pointer (some ⟨w.heap.size, 0, none⟩) := by
            rw [Array.getD_eq_getD_getElem?, hL.out 3 (of_decide_eq_true (by kernel_rfl))]; rfl
          have s4 : act.tmps.getD 4 undef = .pointer (some ⟨B4, 0, none⟩) := by
            rw [Array.getD_eq_getD_getElem?, hL.out 4 (of_decide_eq_true (by kernel_rfl))]; rfl
          have s9 : act.tmps.getD 9 undef = .func (.func fn) #[] la := by
            rw [Array.getD_eq_getD_getElem?, hL.out 9 (of_decide_eq_true (by kernel_rfl))]; rfl
          have hBw := KeepN.refl wr2.heap.size nx w'
          clear hL hix
          match i, hi with
          | 0, hi =>
            obtain rfl := Option.some.inj hi
            obtain ⟨e0, e1, e2, ez⟩ := pv2.d.three hTT
            refine .inl ⟨A3 d0 d1 d2, w', ?_, rfl, hBw, rfl⟩
            simp [execOp, go_sem, Act.eval, s3, e0, e1, e2]
          | 1, hi =>
            obtain rfl := Option.some.inj hi
            refine .inl ⟨.func (.func fn) #[] la, w', ?_, rfl, hBw, rfl⟩
            simp [execOp, go_sem, Act.eval, s9]
          | 2, hi =>
            obtain rfl := Option.some.inj hi
            obtain ⟨e0, e1, e2, e3, e4, e5, ez⟩ := pv2.b.sixX hTT
            refine .inl ⟨B6 b', w', ?_, rfl, hBw, rfl⟩
            simp [execOp, go_sem, Act.eval, s4, e0, e1, e2, e3, e4, e5]
          | 3, hi =>
            obtain rfl := Option.some.inj hi
            have x0 : act.tmps.getD 20 undef = .func (.func fn) #[] la := hpre ⟨1, .data⟩ (by simp) rfl
            have x1 : act.tmps.getD 21 undef = B6 b' := hpre ⟨2, .data⟩ (by simp) rfl
            refine .inr (.inl ⟨fn, #[B6 b'] ++ la, ?_, rfl, ?_⟩)
            · simp [go_sem, Act.eval, x0, x1, HX.out]
            · refine (HSt.out w' hTT).mono ?_
              rintro e w'' ⟨rfl, hB⟩
              exact ⟨_, rfl, KeepN.below hB hsz, rfl⟩
          | 4, hi =>
            obtain rfl := Option.some.inj hi
            have x0 : act.tmps.getD 19 undef = A3 d0 d1 d2 := hpre ⟨0, .data⟩ (by simp) rfl
            have x1 : act.tmps.getD 22 undef = B6 raw := hpre ⟨3, .data⟩ (by simp) rfl
            refine .inr (.inl ⟨23, #[A3 d0 d1 d2, B6 raw], ?_, rfl, ?_⟩)
            · simp [go_sem, Act.eval, x0, x1]
            · refine (HC.out w').mono ?_
              rintro e w'' ⟨rfl, hB⟩
              exact ⟨_, rfl, KeepN.below hB hsz, rfl⟩
          | 5, hi =>
            obtain rfl := Option.some.inj hi
            have x0 : act.tmps.getD 23 undef = .tuple #[B6 nx, I er] := hpre ⟨4, .data⟩ (by simp) rfl
            refine .inl ⟨.tuple #[B6 nx, I er], w', ?_, rfl, hBw, rfl⟩
            simp [execOp, go_sem, Act.eval, x0]
          | 6, hi =>
            obtain rfl := Option.some.inj hi
            have x0 : act.tmps.getD 18 undef = .tuple #[B6 nx, I er] := hpre ⟨5, .data⟩ (by simp) rfl
            refine .inl ⟨B6 nx, w', ?_, rfl, hBw, rfl⟩
            simp [execOp, go_sem, Act.eval, x0]
          | 7, hi =>
            obtain rfl := Option.some.inj hi
            have x0 : act.tmps.getD 18 undef = .tuple #[B6 nx, I er] := hpre ⟨5, .data⟩ (by simp) rfl
            refine .inl ⟨I er, w', ?_, rfl, hBw, rfl⟩
            simp [execOp, go_sem, Act.eval, x0]
          | 8, hi =>
            obtain rfl := Option.some.inj hi
            refine .inl ⟨.pointer (some ⟨w'.heap.size, 0, none⟩), w'.alloc (.cells #[I 0, I 0, I 0, I 0, I 0, I 0] 32), ?_, rfl, KeepN.below ((Below.refl _ w').alloc (Nat.le_refl _) _) hsz, w'.heap.size, rfl, hsz, .inl (Blk.new w' _ _)⟩
            simp [execOp, go_sem]
          | 9, hi =>
            obtain rfl := Option.some.inj hi
            have x0 : act.tmps.getD 24 undef = B6 nx := hpre ⟨6, .data⟩ (by simp) rfl
            obtain ⟨B, x1, hnB, hkB⟩ : ∃ B, act.tmps.getD 10 undef = .pointer (some ⟨B, 0, none⟩) ∧ wr2.heap.size ≤ B ∧ (Blk w' B 32 z6 ∨ Blk w' B 32 (C6 nx)) := hpre ⟨8, .data⟩ (by simp) rfl
            obtain ⟨w'', hrun, hkp, hnx⟩ := store_nx hnB hkB
            refine .inr (.inr ⟨w'', ?_, rfl, hkp, B, x1, hnB, hnx⟩)
            rw [Array.getD_eq_getD_getElem?] at x0 x1
            simp [execOp, Act.eval, x0, x1, hrun, Result.andThen]
          | 10, hi =>
            obtain rfl := Option.some.inj hi
            have x0 : act.tmps.getD 25 undef = I er := hpre ⟨7, .data⟩ (by simp) rfl
            refine .inl ⟨I er, w', ?_, rfl, hBw, rfl⟩
            simp [execOp, go_sem, Act.eval, x0]
          | n + 11, hi => simp at hi
        · intro vs w5 hT5 hsame hall
          have hse := hsame 8 9 rfl
          clear hsame
          have h10 : vs 10 = I er := hall 10 (of_decide_eq_true (by kernel_rfl))
          have h7 : vs 7 = I er := hall 7 (of_decide_eq_true (by kernel_rfl))
          obtain ⟨Bn, h8, hn9, kn⟩ : ∃ B, vs 9 = .pointer (some ⟨B, 0, none⟩) ∧ wr2.heap.size ≤ B ∧ Blk w5 B 32 (C6 nx) := hall 9 (of_decide_eq_true (by kernel_rfl))
          have h89 : vs 8 = vs 9 := hse
          rw [h8] at h89
          clear hall hse
          simp only [List.length_cons, List.length_nil, Nat.zero_add, Nat.reduceAdd, List.range, List.range.loop, List.foldl_cons, List.foldl_nil, dst5, List.getElem?_cons_zero, List.getElem?_cons_succ, Act.put, List.setIfInBounds_toArray, List.set_cons_succ, List.set_cons_zero, h89, h10]
          clear h89 h10 h8 h7
          generalize vs 0 = y0
          generalize vs 1 = y1
          generalize vs 2 = y2
          generalize vs 3 = y3
          generalize vs 4 = y4
          generalize vs 5 = y5
          generalize vs 6 = y6
          generalize vs 7 = y7
          clear vs
          have pv5 := pv2.later hT5.1
          have HB5 : Hid (GrPv w d0 d1 d2 p0 p1 p2 p3 p4 p5 pd w.heap.size B4 B6r B7 b' w5 ∧ Blk w5 Bn 32 (C6 nx)) := ⟨pv5, kn⟩
          obtain ⟨g0, g1, g2, g3, g4, g5, gz⟩ := kn.sixX (Below.refl _ _)
          clear pv2 hT5 kn HSt HC HX hix
          rcases Hcase.out with ⟨rfl, hnx, hmay⟩ | ⟨hne, htr⟩
          · have HFn : Hid (Calls Try.prog g (fi.push (B6 nx) ++ lb) w5 fun e W' => e = .returned (.bool (q nx)) ∧ Below w5.heap.size w5 W') := by
              obtain ⟨m1, m2, _, _⟩ := step_is HD.out HB'.out.2.1 hmay (stepsL.getD k (0, false)).2
              rw [← hnx] at m1 m2
              exact HF.out nx w5 m1 m2 pv5.below
            have Hnx : Hid (nx = stepB d0 d1 d2 b' (stepsL.getD k (0, false)).1 (stepsL.getD k (0, false)).2 ∧ sAt b' (stepsL.getD k (0, false)).1 + 1 ≤ dimAt d0 d1 d2 (stepsL.getD k (0, false)).1) := ⟨hnx, hmay⟩
            have HQ : Hid (∀ ans, q nx = ans → tryG d0 d1 d2 q b' (stepsL.getD k (0, false)) = ans) := fun ans ha => by
              unfold tryG
              rw [decide_eq_true hmay, Bool.true_and, ← hnx, ha]
            clear hnx hmay Hcase pv5
            generalize hq : q nx = ans at HFn
            have Hq : Hid (q nx = ans) := hq
            clear hq
            go_wp2_with fail
            refine HFn.out.mono ?_
            rintro e w6 ⟨rfl, hB6⟩
            have pv6 := HB5.out.1.later hB6
            have kn6 := HB5.out.2.later hB6
            clear HB5 HFn hB6 g0 g1 g2 g3 g4 g5 gz
            cases ans
            · have HNo2 : Hid (∀ j, j < k + 1 → tryG d0 d1 d2 q b' (stepsL.getD j (0, false)) = false) := fun j hj => by
                by_cases e : j = k
                · rw [e]; exact HQ.out _ Hq.out
                · exact HNo.out j (by omega)
              have HP : Hid (GrPv w d0 d1 d2 p0 p1 p2 p3 p4 p5 pd w.heap.size B4 B6r B7 b' w6) := pv6
              clear pv6 kn6 HNo HQ Hnx
              go_wp2
              exact ⟨⟨k + 1, by omega, by go_num, HP.out, HNo2.out⟩, by simp [RowKit.intOf]; omega⟩
            · have Hn : Hid (nextG d0 d1 d2 q b' = some (stepsL.getD k (0, false))) := next_at hk6 (HQ.out _ Hq.out) HNo.out
              obtain ⟨g0, g1, g2, g3, g4, g5, gz⟩ := kn6.sixX (Below.refl _ _)
              obtain ⟨⟨c0, c1, c2, c3, c4, c5⟩, f0, f1, f2, f3, f4, f5⟩ := pv6.b.row6
              have hz4 := pv6.b.lt
              have HP : Hid (GrPv w d0 d1 d2 p0 p1 p2 p3 p4 p5 pd w.heap.size B4 B6r B7 b' w6) := pv6
              clear pv6 kn6 HNo HQ
              have h6 := HP.out.b.set6 (I nx.x) (I nx.y) (I nx.z) (I nx.a) (I nx.b) (I nx.c)
              have HG : Hid (48 - szB nx = ((gk - 1 : Nat) : Int) ∧ mayB d0 d1 d2 nx ∧ growG d0 d1 d2 q nx = R ∧ gk - 1 < gk) := by
                obtain ⟨hz, hm, hg⟩ := HB'.out
                obtain ⟨m1, _, _, z1⟩ := step_is HD.out hm Hnx.out.2 (stepsL.getD k (0, false)).2
                rw [← Hnx.out.1] at m1 z1
                have hzz := sz_bd HD.out m1
                refine ⟨by omega, m1, ?_, by omega⟩
                rw [Hnx.out.1, ← grow_some HD.out hm Hn.out]
                exact hg
              have HP2 : Hid (GrPv w d0 d1 d2 p0 p1 p2 p3 p4 p5 pd w.heap.size B4 B6r B7 nx ((((((w6.setCell ⟨B4, 0, none⟩ (I nx.x)).setCell ⟨B4, 1, none⟩ (I nx.y)).setCell ⟨B4, 2, none⟩ (I nx.z)).setCell ⟨B4, 3, none⟩ (I nx.a)).setCell ⟨B4, 4, none⟩ (I nx.b)).setCell ⟨B4, 5, none⟩ (I nx.c))) := by
                have hP := HP.out
                have hoth : ∀ {B : Nat} {t : TypeId} {vs : Array Value}, Blk w6 B t vs → B ≠ B4 → Blk ((((((w6.setCell ⟨B4, 0, none⟩ (I nx.x)).setCell ⟨B4, 1, none⟩ (I nx.y)).setCell ⟨B4, 2, none⟩ (I nx.z)).setCell ⟨B4, 3, none⟩ (I nx.a)).setCell ⟨B4, 4, none⟩ (I nx.b)).setCell ⟨B4, 5, none⟩ (I nx.c)) B t vs := fun h hne => (((((h.other _ _ hne).other _ _ hne).other _ _ hne).other _ _ hne).other _ _ hne).other _ _ hne
                have hty : ∀ {B : Nat} {t : TypeId} {vs : Array Value}, Blk w6 B t vs → t ≠ 32 → B ≠ B4 := fun {B t vs} h hne e => by
                  subst e
                  have := (show w6.heap[B]? = _ from h).symm.trans (show w6.heap[B]? = _ from hP.b)
                  cases this
                  exact hne rfl
                have hS := hP.six
                exact ⟨below_set6 hP.below HU.out.1 _ _ _ _ _ _, ⟨hoth hS.h0 (hty hS.h0 (by decide)), hoth hS.h1 (hty hS.h1 (by decide)), hoth hS.h2 (hty hS.h2 (by decide)), hoth hS.h3 (hty hS.h3 (by decide)), hoth hS.h4 (hty hS.h4 (by decide)), hoth hS.h5 (hty hS.h5 (by decide)), hoth hS.hd (hty hS.hd (by decide))⟩, hoth hP.d (hty hP.d (by decide)), h6, hoth hP.r (fun e => HU.out.2.1 e.symm), hoth hP.s (hty hP.s (by decide))⟩
              clear h6 HP Hn Hnx Hq
              go_wp2
              go_roundg (gk - 1)
              case measure => exact HG.out.2.2.2
              case rel => exact ⟨nx, ⟨HG.out.1, HG.out.2.1, HG.out.2.2.1⟩, HP2.out⟩
          · have Htr : Hid (tryG d0 d1 d2 q b' (stepsL.getD k (0, false)) = false) := htr
            have hE0 : decide (er = 0) = false := by simpa using hne
            have hE1 : (er == 0) = false := by simpa using hne
            clear htr Hcase hne pv5
            go_wp2
            exact ⟨⟨k + 1, by omega, by go_num, HB5.out.1, fun j hj => by
              by_cases e : j = k
              · rw [e]; exact Htr.out
              · exact HNo.out j (by omega)⟩, by simp [RowKit.intOf]; omega⟩
      · obtain rfl : k = 6 := by omega
        have Hn : Hid (nextG d0 d1 d2 q b' = none) := next_no HNo.out
        obtain ⟨g0, g1, g2, g3, g4, g5, gz⟩ := pv2.b.sixX (Below.refl _ _)
        obtain ⟨⟨c0, c1, c2, c3, c4, c5⟩, f0, f1, f2, f3, f4, f5⟩ := pv2.r.row6
        have hz4 := pv2.r.lt
        have HP : Hid (GrPv w d0 d1 d2 p0 p1 p2 p3 p4 p5 pd w.heap.size B4 B6r B7 b' wr2) := pv2
        clear pv2 HNo
        go_wp2
        have h6 := HP.out.r.set6 (I b'.x) (I b'.y) (I b'.z) (I b'.a) (I b'.b) (I b'.c)
        have hB2 := below_set6 HP.out.below HU.out.2.2.1 (I b'.x) (I b'.y) (I b'.z) (I b'.a) (I b'.b) (I b'.c)
        obtain ⟨⟨m0, m1, m2, m3, m4, m5⟩, _⟩ := h6.row6
        have hbR : b' = R := by rw [← HB'.out.2.2]; exact (grow_none Hn.out).symm
        exact bodyPost_ret (v := B6 b') (by simp [results, Try.f31, go_sem, m0, m1, m2, m3, m4, m5]) rfl ⟨by rw [hbR], hB2⟩

end Go.Proofs.Ytjmfdpilmljppaa
