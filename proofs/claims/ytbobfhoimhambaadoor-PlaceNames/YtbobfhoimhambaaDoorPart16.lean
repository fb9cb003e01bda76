/-
  Plain lists: what wire.line hands out, sorted, are the cables of those midplanes, rising. No program is named here.
-/
import Derived.Test.YtbobfhoimhambaaDoorPart15
import Derived.Test.YtbobfhoimhambaaDoorPart3
namespace Go.Proofs.YtbobfhoimhambaaDoor
open Go.RowKit

theorem seqW_take (d0 d1 d2 m : Int) (k : Fin 3) {n n' : Nat} (h : n ≤ n') : (seqW d0 d1 d2 m k n').take n = seqW d0 d1 d2 m k n := by
  have := List.prefix_iff_eq_take.1 (seqW_pre d0 d1 d2 m k h)
  rw [seqW_len] at this
  exact this.symm

theorem sort_rise {l l' : List Int} (h : l.Perm l') (h' : l'.Pairwise (· < ·)) : (l.mergeSort fun x y => decide (x ≤ y)) = l' := by
  have tr : ∀ a b c : Int, decide (a ≤ b) = true → decide (b ≤ c) = true → decide (a ≤ c) = true := fun a b c h1 h2 => by simp only [decide_eq_true_eq] at *; omega
  have to : ∀ a b : Int, (decide (a ≤ b) || decide (b ≤ a)) = true := fun a b => by simp only [Bool.or_eq_true, decide_eq_true_eq]; omega
  refine List.Perm.eq_of_pairwise (le := fun a b : Int => decide (a ≤ b) = true) (fun a b _ _ h1 h2 => ?_) (List.pairwise_mergeSort tr to l) (h'.imp fun hab => ?_) ((List.mergeSort_perm l _).trans h)
  · simp only [decide_eq_true_eq] at h1 h2; omega
  · simp only [decide_eq_true_eq]; omega

theorem seq_perm {d0 d1 d2 m : Int} (h : mayD d0 d1 d2) (hm : 0 ≤ m ∧ m < d0 * d1 * d2) (k : Fin 3) {mo : Nat} (hk : (mo : Int) ≤ dimAt d0 d1 d2 k) (h1 : 1 < dimAt d0 d1 d2 k) : (seqW d0 d1 d2 m k mo).Perm (cablesW d0 d1 d2 m k mo) := by
  have hn1 : (seqW d0 d1 d2 m k mo).Nodup := by
    refine List.pairwise_map.2 ((List.pairwise_lt_range (n := mo)).imp_of_mem fun {a b} ha hb hab e => ?_)
    have ha' := List.mem_range.1 ha
    have hb' := List.mem_range.1 hb
    have := on_inj h hm k (a := (a : Int)) (b := (b : Int)) (by omega) (by omega) (cab_inj e)
    omega
  have hn2 : (cablesW d0 d1 d2 m k mo).Nodup := (cables_rise d0 d1 d2 m k mo).imp fun hab e => by omega
  refine (List.perm_ext_iff_of_nodup hn1 hn2).2 fun x => ?_
  rw [cables_mem]
  constructor
  · intro hx
    obtain ⟨i, hi, rfl⟩ := List.mem_map.1 hx
    have hi' := List.mem_range.1 hi
    have hb := on_node h hm k (i : Int)
    refine ⟨h1, (onD d0 d1 d2 m k (i : Int)).toNat, nodes_mem.2 ⟨by omega, i, hi', by omega⟩, ?_⟩
    rw [Int.toNat_of_nonneg hb.1]
  · rintro ⟨_, o, ho, rfl⟩
    obtain ⟨_, i, hi, e⟩ := nodes_mem.1 ho
    exact List.mem_map.2 ⟨i, List.mem_range.2 hi, by rw [e]⟩

/-- What is handed out, at most so many, sorted. -/
theorem sort_out {d0 d1 d2 m : Int} (h : mayD d0 d1 d2) (hm : 0 ≤ m ∧ m < d0 * d1 * d2) (k : Fin 3) {mo : Nat} (hk : (mo : Int) ≤ dimAt d0 d1 d2 k) :
    (((outW d0 d1 d2 m k).take mo).mergeSort fun x y => decide (x ≤ y)) = cablesW d0 d1 d2 m k mo := by
  unfold outW
  split
  · rename_i h1
    rw [seqW_take _ _ _ _ _ (by omega)]
    exact sort_rise (seq_perm h hm k hk h1) (cables_rise d0 d1 d2 m k mo)
  · rename_i h1
    unfold cablesW
    rw [if_neg h1]
    simp

end Go.Proofs.YtbobfhoimhambaaDoor

/-
  A statement whose order the language leaves open and whose callees make memory: each operation keeps a word of its own, which lasts in every later world; so, in whatever order, at the end all words hold.
-/
namespace Go.Proofs.YtbobfhoimhambaaDoor
open Go Go.RowKit Go.Shelf

section
variable {F : Fence} {n : Nat} {P : Program}

/-- How many are not listed yet. -/
theorem count_set : ∀ (l : List Bool) (i : Nat), l[i]? = some false → (l.set i true).count false + 1 = l.count false
  | [], _, h => by simp at h
  | b :: l, 0, h => by simp at h; subst h; simp
  | b :: l, i + 1, h => by
    simp at h
    have := count_set l i h
    simp [List.count_cons]
    omega

def dstOf (l : List Oper) (i : Nat) : Nat := match l[i]? with | some o => o.dst.getD 0 | none => 0
/-- Each operation writes a slot of its own, below number m; none is guarded; none defers. -/
def soloB (l : List Oper) (m : Nat) : Bool := (l.all fun o => o.guard.isNone && o.dst.isSome) && ((List.range l.length).all fun i => decide (dstOf l i < m) && (List.range l.length).all fun j => i == j || dstOf l i != dstOf l j) && noDefer l.toArray && beginB l l.length

/-- The frame a holds, outside the slots that the region writes, what a0 does. -/
structure Like (l : List Oper) (a0 a : Act) : Prop where
  size : a.tmps.size = a0.tmps.size
  defers : a.defers = a0.defers
  out : ∀ t, (∀ i, i < l.length → dstOf l i ≠ t) → a.tmps[t]? = a0.tmps[t]?

abbrev slot (l : List Oper) (a : Act) (i : Nat) : Value := a.tmps.getD (dstOf l i) undef

/-- What an operation comes to: a value, or a call. -/
def Comes (P : Program) (o : Oper) (a : Act) (w : World) (R : Value → World → Prop) : Prop :=
  (∃ v, (execOp a.eval o).run P w = .ok (.value v) w ∧ R v w) ∨ (∃ f args, (execOp a.eval o).run P w = .ok (.enter f args) w ∧ Calls P f args w fun e w' => ∃ v, e = .returned v ∧ Below w.heap.size w w' ∧ R v w')

theorem put_at {a : Act} {d : Nat} {v : Value} (h : d < a.tmps.size) : (a.put (some d) v).tmps.getD d undef = v := by
  simp [Act.put, Array.getD, h]
theorem put_ne {a : Act} {d t : Nat} {v : Value} (h : d ≠ t) : (a.put (some d) v).tmps[t]? = a.tmps[t]? := by
  simp [Act.put, Array.getElem?_setIfInBounds_ne h]
theorem getD_ne {a : Act} {d t : Nat} {v : Value} (h : d ≠ t) : (a.put (some d) v).tmps.getD t undef = a.tmps.getD t undef := by
  rw [Array.getD_eq_getD_getElem?, Array.getD_eq_getD_getElem?, put_ne h]

theorem solo_at {l : List Oper} {m i : Nat} {o : Oper} (h : soloB l m = true) (hi : l[i]? = some o) : o.guard = none ∧ o.dst = some (dstOf l i) ∧ dstOf l i < m ∧ ∀ j, j < l.length → j ≠ i → dstOf l i ≠ dstOf l j := by
  simp only [soloB, Bool.and_eq_true] at h
  obtain ⟨⟨⟨h1, h2⟩, _⟩, _⟩ := h
  obtain ⟨hlt, he⟩ := List.getElem?_eq_some_iff.1 hi
  have k1 := List.all_eq_true.1 h1 o (he ▸ List.getElem_mem hlt)
  simp only [Bool.and_eq_true, Option.isNone_iff_eq_none] at k1
  have k2 := List.all_eq_true.1 h2 i (List.mem_range.2 hlt)
  simp only [Bool.and_eq_true, decide_eq_true_eq] at k2
  refine ⟨k1.1, ?_, k2.1, fun j hj hne => ?_⟩
  · obtain ⟨d, hd⟩ := Option.isSome_iff_exists.1 k1.2
    simp [dstOf, hi, hd]
  · have := List.all_eq_true.1 k2.2 j (List.mem_range.2 hj)
    simp only [Bool.or_eq_true, beq_iff_eq, bne_iff_ne] at this
    rcases this with e | e
    · exact absurd e.symm hne
    · exact e

variable {l : List Oper} {a0 : Act} {w0 : World} {Q : Exit → Act → World → Prop} {S : Nat → Value → World → Prop}

theorem any_loud (hF : Loose F P) (hB : soloB l a0.tmps.size = true)
    (hS : ∀ i v w w', S i v w → Below w.heap.size w w' → S i v w')
    (hop : ∀ (i : Nat) (o : Oper), l[i]? = some o → ∀ (a : Act) (w : World), Below w0.heap.size w0 w → Like l a0 a → (∀ e ∈ o.after, Region.binds .any e = true → S e.on (slot l a e.on) w) → Comes P o a w (S i))
    (hend : ∀ (a : Act) (w : World), Below w0.heap.size w0 w → Like l a0 a → (∀ i, i < l.length → S i (slot l a i) w) → Q .normal a w) :
    ∀ (f : Nat) (L : Array Bool) (a : Act) (w : World), L.size = l.length → L.toList.count false ≤ f → Below w0.heap.size w0 w → Like l a0 a → (∀ i, L.getD i false = true → S i (slot l a i) w) → wpAnyIn F n P .any l.toArray Q f L a w := by
  have hbeg : beginB l l.length = true := (Bool.and_eq_true_iff.1 hB).2
  have hnd : noDefer l.toArray = true := (Bool.and_eq_true_iff.1 (Bool.and_eq_true_iff.1 hB).1).2
  have htake : l.take l.length = l := List.take_length
  have fin : ∀ (L : Array Bool) (a : Act) (w : World), L.size = l.length → Region.ready .any l.toArray L = [] → Below w0.heap.size w0 w → Like l a0 a → (∀ i, L.getD i false = true → S i (slot l a i) w) → Q .normal a w := by
    intro L a w hs hr hT hL hA
    have hfull := full_of_none (l := l) (m := l.length) hbeg hs (by rw [htake]; exact hr)
    refine hend a w hT hL fun i hi => hA i ?_
    rw [hfull]
    simp [Array.getD, hi]
  intro f
  induction f with
  | zero =>
    intro L a w hs hc hT hL hA
    have hall : Region.ready .any l.toArray L = [] := by
      apply List.eq_nil_iff_forall_not_mem.2
      intro i hi
      obtain ⟨h1, _⟩ := mem_ready.1 hi
      have h0 : L.toList.count false = 0 := by omega
      rw [List.count_eq_zero] at h0
      refine h0 ?_
      by_cases hlt : i < L.size
      · rw [Array.getD, dif_pos hlt] at h1
        rw [← h1]
        exact Array.getElem_mem_toList hlt
      · rw [Array.getD, dif_neg hlt] at h1; cases h1
    exact ⟨hall, fin L a w hs hall hT hL hA⟩
  | succ f ih =>
    intro L a w hs hc hT hL hA
    refine ⟨fun hr => fin L a w hs hr hT hL hA, fun i hi => ?_⟩
    obtain ⟨h1, o, ho, hall⟩ := mem_ready.1 hi
    have hol : l[i]? = some o := by simpa using ho
    have hil : i < l.length := (List.getElem?_eq_some_iff.1 hol).1
    obtain ⟨hg, hd, hlt, hne⟩ := solo_at hB hol
    have hcome := hop i o hol a w hT hL (fun e he hb => hA e.on (hall e he hb))
    have hnot : L.toList[i]? = some false := by
      have hlt' : i < L.size := by omega
      rw [Array.getD, dif_pos hlt'] at h1
      rw [Array.getElem?_toList, Array.getElem?_eq_getElem hlt']
      exact congrArg some h1
    have hnext : ∀ (v : Value) (w' : World), Below w.heap.size w w' → S i v w' → wpAnyIn F n P .any l.toArray Q f (L.setIfInBounds i true) (a.put o.dst v) w' := by
      intro v w' hB' hv
      rw [hd]
      refine ih _ _ w' (by simpa using hs) ?_ (then_below hT hB') ⟨?_, ?_, ?_⟩ ?_
      · have := count_set L.toList i hnot
        rw [Array.toList_setIfInBounds]
        omega
      · simp [Act.put]; exact hL.size
      · simp [Act.put]; exact hL.defers
      · intro t ht
        rw [put_ne (ht i hil)]
        exact hL.out t ht
      · intro j hj
        by_cases hij : j = i
        · subst hij
          show S j ((a.put (some (dstOf l j)) v).tmps.getD (dstOf l j) undef) w'
          rw [put_at (by rw [hL.size]; exact hlt)]
          exact hv
        · have hjl : L.getD j false = true := by
            rw [Array.getD_eq_getD_getElem?, Array.getElem?_setIfInBounds_ne (Ne.symm hij), ← Array.getD_eq_getD_getElem?] at hj
            exact hj
          have hjlt : j < l.length := by
            rcases Nat.lt_or_ge j L.size with h | h
            · omega
            · rw [Array.getD, dif_neg (by omega)] at hjl; cases hjl
          show S j ((a.put (some (dstOf l i)) v).tmps.getD (dstOf l j) undef) w'
          rw [getD_ne (hne j hjlt hij)]
          exact hS _ _ _ _ (hA j hjl) hB'
    have hfn : ∀ f, o.about P w a.eval = some f → F.fn f := fun f _ => hF.fn f
    simp only [wpOpIn, ho, Region.wanted, hg, if_true]
    refine ⟨hfn, ?_⟩
    rw [Oper.semAt_eq _ _ _ (noDefer_spec hnd ho)]
    rcases hcome with ⟨v, e, hv⟩ | ⟨g, args, e, hc'⟩
    · rw [e]; exact hnext v w (Below.refl _ _) hv
    · rw [e]
      refine ⟨fun hx => (hF.depth hx).elim, hF.calls _ _ _ _ _ (hc'.mono ?_)⟩
      rintro x w' ⟨v, rfl, hB', hv⟩
      exact hnext v w' hB' hv

/-- All slots of the region, put one behind the other in the text's order. -/
theorem like_puts {a : Act} (hL : Like l a0 a) : a = (List.range l.length).foldl (fun b i => b.put (some (dstOf l i)) (slot l a i)) a0 := by
  have key : ∀ k, k ≤ l.length → ∀ b, b = (List.range k).foldl (fun b i => b.put (some (dstOf l i)) (slot l a i)) a0 → b.tmps.size = a0.tmps.size ∧ b.defers = a0.defers ∧ ∀ t, t < a0.tmps.size → b.tmps[t]? = if (∃ i, i < k ∧ dstOf l i = t) then a.tmps[t]? else a0.tmps[t]? := by
    intro k
    induction k with
    | zero => rintro _ b rfl; simp
    | succ k ih =>
      rintro hk b rfl
      obtain ⟨h1, h2, h3⟩ := ih (by omega) _ rfl
      rw [List.range_succ, List.foldl_append]
      simp only [List.foldl_cons, List.foldl_nil]
      generalize (List.range k).foldl (fun b i => b.put (some (dstOf l i)) (slot l a i)) a0 = b at h1 h2 h3
      refine ⟨by simp [Act.put, h1], by simp [Act.put, h2], fun t ht => ?_⟩
      by_cases hd : dstOf l k = t
      · rw [if_pos ⟨k, by omega, hd⟩]
        subst hd
        have hlt : dstOf l k < b.tmps.size := by omega
        have hlt2 : dstOf l k < a.tmps.size := by rw [hL.size]; omega
        simp [Act.put, slot, Array.getD, hlt, hlt2]
      · rw [put_ne hd, h3 t ht]
        by_cases he : ∃ i, i < k ∧ dstOf l i = t
        · obtain ⟨i, hi, hit⟩ := he
          rw [if_pos ⟨i, hi, hit⟩, if_pos ⟨i, by omega, hit⟩]
        · rw [if_neg he, if_neg]
          rintro ⟨i, hi, hit⟩
          rcases Nat.lt_succ_iff_lt_or_eq.1 hi with h | rfl
          · exact he ⟨i, h, hit⟩
          · exact hd hit
  obtain ⟨h1, h2, h3⟩ := key l.length (Nat.le_refl _) _ rfl
  generalize (List.range l.length).foldl (fun b i => b.put (some (dstOf l i)) (slot l a i)) a0 = b at h1 h2 h3
  have ht : a.tmps = b.tmps := by
    apply Array.ext_getElem?
    intro t
    by_cases hlt : t < a0.tmps.size
    · rw [h3 t hlt]
      by_cases he : ∃ i, i < l.length ∧ dstOf l i = t
      · rw [if_pos he]
      · rw [if_neg he]
        exact hL.out t fun i hi hit => he ⟨i, hi, hit⟩
    · rw [Array.getElem?_eq_none (by rw [hL.size]; omega), Array.getElem?_eq_none (by omega)]
  have hd : a.defers = b.defers := by rw [hL.defers, h2]
  cases a; cases b; simp_all

/-- In whatever order: each operation's word holds at the end. -/
theorem wp_region_loud {id : Nat} (S : Nat → Value → World → Prop) (hm : P.follows .mixedOrders = true) (hB : soloB l a0.tmps.size = true)
    (hS : ∀ i v w w', S i v w → Below w.heap.size w w' → S i v w')
    (hop : ∀ (i : Nat) (o : Oper), l[i]? = some o → ∀ (a : Act) (w : World), Below w0.heap.size w0 w → Like l a0 a → (∀ e ∈ o.after, Region.binds .any e = true → S e.on (slot l a e.on) w) → Comes P o a w (S i))
    (hend : ∀ (v : Nat → Value) (w : World), Below w0.heap.size w0 w → (∀ i, i < l.length → S i (v i) w) → Q .normal ((List.range l.length).foldl (fun b i => b.put (some (dstOf l i)) (v i)) a0) w) :
    (Code.region id l.toArray true).wp P Q a0 w0 := by
  refine (wpIn_wide (n := 0)).1 (wpIn_region_any hm ?_)
  refine any_loud (loose_wide P) hB hS hop (fun a w hT hL hA => ?_) _ _ _ _ (by simp) (by simp) ((Below.refl _ w0).drew) ⟨rfl, rfl, fun _ _ => rfl⟩ (fun i hi => ?_)
  · rw [like_puts hL]
    exact hend (slot l a) w hT hA
  · exfalso
    rw [Array.getD_eq_getD_getElem?] at hi
    simp [Array.getElem?_replicate] at hi
    split at hi <;> simp at hi
end
end Go.Proofs.YtbobfhoimhambaaDoor

/-
  wire.Line, wire.Run: the cables of a line, and those that a run takes, rising, in new memory; for every input.
-/
namespace Go.Proofs.YtbobfhoimhambaaDoor
open Go Go.RowKit Go.Shelf

attribute [local go_sem] Oper.semAt_some ext_const

/-- A line that is handed out, wherever its three variables lie. -/
def IsLine (d0 d1 d2 axis m : Int) (v : Value) (w : World) : Prop :=
  ∃ B : Nat, v = .func (.func 72) #[] #[.pointer (some ⟨B, 0, none⟩), .pointer (some ⟨B + 1, 0, none⟩), .pointer (some ⟨B + 1 + 1, 0, none⟩)] ∧
    Blk w B 27 #[I d0, I d1, I d2] ∧ Blk w (B + 1) 3 #[I axis] ∧ Blk w (B + 1 + 1) 3 #[I m]
theorem IsLine.later {d0 d1 d2 axis m : Int} {v : Value} {w w' : World} (h : IsLine d0 d1 d2 axis m v w) (hB : Below w.heap.size w w') : IsLine d0 d1 d2 axis m v w' := by
  obtain ⟨B, e, h0, h1, h2⟩ := h
  exact ⟨B, e, h0.later hB, h1.later hB, h2.later hB⟩

theorem line_is (d0 d1 d2 axis m : Int) (w : World) :
    Calls Tryd.prog 69 #[A3 d0 d1 d2, I axis, I m] w fun e w' => ∃ v, e = .returned v ∧ Below w.heap.size w w' ∧ IsLine d0 d1 d2 axis m v w' := by
  refine (line_calls d0 d1 d2 axis m w).mono ?_
  rintro e w' ⟨rfl, rfl⟩
  refine ⟨_, rfl, (((Below.refl _ w).alloc (Nat.le_refl _) _).alloc (by simp) _).alloc (by simp; omega) _, w.heap.size, rfl, ((Blk.new w _ _).alloc _).alloc _, ?_, ?_⟩
  · have := (Blk.new (w.alloc (.cells #[I d0, I d1, I d2] 27)) 3 #[I axis]).alloc (.cells #[I m] 3)
    simpa using this
  · have := Blk.new ((w.alloc (.cells #[I d0, I d1, I d2] 27)).alloc (.cells #[I axis] 3)) 3 #[I m]
    simpa using this

/-- wire.rising over a line. -/
theorem rising_is {d0 d1 d2 m z : Int} (hm : mayD d0 d1 d2) (hn : 0 ≤ m ∧ m < d0 * d1 * d2) (k : Fin 3) (hz : 0 ≤ z ∧ z ≤ dimAt d0 d1 d2 k) {v : Value} (w : World) (hv : IsLine d0 d1 d2 (axI k) m v w) :
    Calls Tryd.prog 68 #[v, I z] w fun e W' => ∃ u, e = .returned u ∧ Lst W' w.heap.size u (cablesW d0 d1 d2 m k z.toNat) ∧ Below w.heap.size w W' := by
  obtain ⟨B, rfl, h0, h1, h2⟩ := hv
  obtain ⟨mo, rfl⟩ : ∃ mo : Nat, z = (mo : Int) := ⟨z.toNat, by omega⟩
  have hk := dimAt_ok hm k
  unfold okD at hk
  refine (rising_calls hm hn k mo (by omega) B (B + 1) (B + 1 + 1) w h0.lt h1.lt h2.lt h0 h1 h2).mono ?_
  rintro e W' ⟨u, rfl, hL, hB⟩
  rw [sort_out hm hn k (by omega)] at hL
  exact ⟨u, rfl, by rw [Int.toNat_natCast]; exact hL, hB⟩

set_option maxHeartbeats 400000 in
theorem wrun_ref {d0 d1 d2 axis m e : Int} (long : Int) (torus : Bool) (w : World) (h : Refused d0 d1 d2 axis m e) :
    Calls Tryd.prog 64 #[A3 d0 d1 d2, I axis, I m, I long, .bool torus] w fun x W' => x = .returned (.tuple #[.slice none 0 0, I e]) ∧ Below w.heap.size w W' := by
  have he := h.ne
  have H : Hid (Refused d0 d1 d2 axis m e) := h
  clear h
  go_enter Tryd.func64, Tryd.ntmps64
  go_wp2_with fail
  refine (checkl_ref _ H.out).mono ?_
  rintro x w1 ⟨rfl, hB⟩
  go_wp2
  go_ret2
  exact ⟨rfl, then_below ((Below.refl _ w).alloc (Nat.le_refl _) _) hB⟩

/-- What each operation of wire.Line's last statement keeps. -/
def wordL (d0 d1 d2 m axis dim : Int) (Bn off base : Nat) (X : List Int) (i : Nat) (v : Value) (w : World) : Prop :=
  match i with
  | 0 => v = A3 d0 d1 d2
  | 1 => v = I axis
  | 2 => v = I m
  | 3 => IsLine d0 d1 d2 axis m v w
  | 4 => v = I axis
  | 5 => v = .pointer (some ⟨Bn, off, none⟩)
  | 6 => v = I dim
  | 7 => Lst w base v X
  | 8 => Lst w base v X
  | 9 => v = I 0
  | _ => False
theorem wordL_later {d0 d1 d2 m axis dim : Int} {Bn off base : Nat} {X : List Int} (i : Nat) (v : Value) (w w' : World) (h : wordL d0 d1 d2 m axis dim Bn off base X i v w) (hB : Below w.heap.size w w') : wordL d0 d1 d2 m axis dim Bn off base X i v w' := by
  match i, h with
  | 0, h => exact h
  | 1, h => exact h
  | 2, h => exact h
  | 3, h => exact h.later hB
  | 4, h => exact h
  | 5, h => exact h
  | 6, h => exact h
  | 7, h => exact h.later hB
  | 8, h => exact h.later hB
  | 9, h => exact h
  | n + 10, h => exact h.elim

end Go.Proofs.YtbobfhoimhambaaDoor

/-
  wire.Run: the cables that a run takes, rising, in new memory; for every input.
-/
namespace Go.Proofs.YtbobfhoimhambaaDoor
open Go Go.RowKit Go.Shelf

attribute [local go_sem] Oper.semAt_some ext_const

set_option maxHeartbeats 1000000 in
theorem wrun_no {d0 d1 d2 axis m long : Int} (torus : Bool) (w : World) (hm : mayD d0 d1 d2) (hn : 0 ≤ m ∧ m < d0 * d1 * d2) {k : Fin 3} (hk : axis = axI k) (hl : ¬ (1 ≤ long ∧ long ≤ dimAt d0 d1 d2 k)) :
    Calls Tryd.prog 64 #[A3 d0 d1 d2, I axis, I m, I long, .bool torus] w fun x W' => x = .returned (.tuple #[.slice none 0 0, I 2]) ∧ Below w.heap.size w W' := by
  subst hk
  have HC : Hid (∀ w, Calls Tryd.prog 67 #[A3 d0 d1 d2, I (axI k), I m] w fun x W' => x = .returned (I 0) ∧ Below w.heap.size w W') := fun w => checkl_yes w hm hn rfl
  clear hn
  by_cases h1 : long < 1
  · clear hl
    go_enter Tryd.func64, Tryd.ntmps64
    go_wp2_with fail
    refine (HC.out _).mono ?_
    rintro x w1 ⟨rfl, hB⟩
    have hB1 := then_below ((Below.refl _ w).alloc (Nat.le_refl _) (.cells #[I d0, I d1, I d2] 27)) hB
    go_wp2
    go_ret2
    exact ⟨rfl, hB1⟩
  · have h2 : dimAt d0 d1 d2 k < long := by omega
    clear hl
    rcases fin3 k with rfl | rfl | rfl
    all_goals
      simp only [axI, dimAt] at *
      go_enter Tryd.func64, Tryd.ntmps64
      go_wp2_with fail
      refine (HC.out _).mono ?_
      rintro x w1 ⟨rfl, hB⟩
      have hB1 := then_below ((Below.refl _ w).alloc (Nat.le_refl _) (.cells #[I d0, I d1, I d2] 27)) hB
      have g0 := (Blk.new w 27 #[I d0, I d1, I d2]).later hB
      have c0 := g0.cell 0
      have c1 := g0.cell 1
      have c2 := g0.cell 2
      simp at c0 c1 c2
      go_wp2
      go_ret2
      exact ⟨rfl, hB1⟩

/-- From how many midplanes on the cables that a run takes go. -/
def mostW (dim long : Int) (torus : Bool) : Int := if torus = true ∧ 1 < long then dim else long - 1

set_option maxRecDepth 100000 in
set_option maxHeartbeats 4000000 in
theorem wrun_yes {d0 d1 d2 axis m long : Int} (torus : Bool) (w : World) (hm : mayD d0 d1 d2) (hn : 0 ≤ m ∧ m < d0 * d1 * d2) {k : Fin 3} (hk : axis = axI k) (hl : 1 ≤ long ∧ long ≤ dimAt d0 d1 d2 k) :
    Calls Tryd.prog 64 #[A3 d0 d1 d2, I axis, I m, I long, .bool torus] w fun e W' => ∃ v, e = .returned (.tuple #[v, I 0]) ∧ Lst W' w.heap.size v (cablesW d0 d1 d2 m k (mostW (dimAt d0 d1 d2 k) long torus).toNat) ∧ Below w.heap.size w W' := by
  subst hk
  have hok := dimAt_ok hm k
  unfold okD at hok
  have HC : Hid (∀ w, Calls Tryd.prog 67 #[A3 d0 d1 d2, I (axI k), I m] w fun x W' => x = .returned (I 0) ∧ Below w.heap.size w W') := fun w => checkl_yes w hm hn rfl
  have HL : Hid (∀ w, Calls Tryd.prog 69 #[A3 d0 d1 d2, I (axI k), I m] w fun e w' => ∃ v, e = .returned v ∧ Below w.heap.size w w' ∧ IsLine d0 d1 d2 (axI k) m v w') := fun w => line_is d0 d1 d2 (axI k) m w
  have hmb : 0 ≤ mostW (dimAt d0 d1 d2 k) long torus ∧ mostW (dimAt d0 d1 d2 k) long torus ≤ dimAt d0 d1 d2 k := by unfold mostW; split <;> omega
  have HR : Hid (∀ v w, IsLine d0 d1 d2 (axI k) m v w → Calls Tryd.prog 68 #[v, I (mostW (dimAt d0 d1 d2 k) long torus)] w fun e W' => ∃ u, e = .returned u ∧ Lst W' w.heap.size u (cablesW d0 d1 d2 m k (mostW (dimAt d0 d1 d2 k) long torus).toNat) ∧ Below w.heap.size w W') := fun v w hv => rising_is hm hn k hmb w hv
  have hcase : (torus = true ∧ 1 < long ∧ mostW (dimAt d0 d1 d2 k) long torus = dimAt d0 d1 d2 k) ∨ (torus = true ∧ long = 1 ∧ mostW (dimAt d0 d1 d2 k) long torus = 0) ∨ (torus = false ∧ mostW (dimAt d0 d1 d2 k) long torus = long - 1) := by
    unfold mostW
    cases torus
    · exact .inr (.inr ⟨rfl, by simp⟩)
    · by_cases h : 1 < long
      · exact .inl ⟨rfl, h, by simp [h]⟩
      · exact .inr (.inl ⟨rfl, by omega, by simp [h]; omega⟩)
  generalize mostW (dimAt d0 d1 d2 k) long torus = z at *
  generalize cablesW d0 d1 d2 m k z.toNat = X at *
  clear hn hmb
  obtain ⟨hl1, hl2⟩ := hl
  rcases hcase with ⟨rfl, h1, rfl⟩ | ⟨rfl, rfl, rfl⟩ | ⟨rfl, rfl⟩
  all_goals rcases fin3 k with rfl | rfl | rfl
  all_goals
    simp only [axI, dimAt] at *
    go_enter Tryd.func64, Tryd.ntmps64
    go_wp2_with fail
    refine (HC.out _).mono ?_
    rintro x w1 ⟨rfl, hB⟩
    have hB1 := then_below ((Below.refl _ w).alloc (Nat.le_refl _) (.cells #[I d0, I d1, I d2] 27)) hB
    have g0 := (Blk.new w 27 #[I d0, I d1, I d2]).later hB
    have c0 := g0.cell 0
    have c1 := g0.cell 1
    have c2 := g0.cell 2
    simp at c0 c1 c2
    go_wp2_with fail
    refine (HL.out _).mono ?_
    rintro x w2 ⟨v, rfl, hB2, hv⟩
    go_wp2_with fail
    refine (HR.out _ _ hv).mono ?_
    rintro x w3 ⟨u, rfl, hX, hB3⟩
    go_wp2
    go_ret2
    exact ⟨_, rfl, hX.weak (then_below hB1 hB2).size, then_below (then_below hB1 hB2) hB3⟩

end Go.Proofs.YtbobfhoimhambaaDoor
