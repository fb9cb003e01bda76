/-
  A statement whose order the language leaves open: where all but its last operations only look, and its callees leave what lay before as it lay, one walk in the order of the text serves every order; in a function's own frame and in a round of a range over a function.
-/
import Derived.Test.YtlahfffgmfjpaaaGreatDoorPart1
import Derived.StillTail
import Derived.OrdersIn
import Derived.BigQuiet
import Derived.Test.YtlahfffgmfjpaaaGreatDoorPart2
import Derived.Test.YtlahfffgmfjpaaaGreatDoorProg
import Derived.OwnWalk
namespace Go.Proofs.YtlahfffgmfjpaaaGreatDoor
open Go Go.RowKit Go.Shelf

/-- The worlds that leave all that lay in w as it lay. -/
structure Ext (w : World) : Type where
  wd : World
  le : Below w.heap.size w wd
theorem ext_const (w : World) (p : Prop) : (∀ _ : Ext w, p) ↔ p := ⟨fun h => h ⟨w, Below.refl _ _⟩, fun h _ => h⟩
theorem Ext.cell {w : World} {B : Nat} {t : TypeId} {vs : Array Value} (h : Blk w B t vs) (i : Nat) (x : Ext w) : x.wd.cell? ⟨B, i, none⟩ = vs[i]? := (h.later x.le).cell i
theorem Ext.frozen {w : World} {B : Nat} {t : TypeId} {vs : Array Value} (h : Blk w B t vs) (i : Nat) (x : Ext w) : x.wd.frozen? ⟨B, i, none⟩ = false := (h.later x.le).frozen i

theorem keeps_below {W W' : World} (h : Below W.heap.size W W') : KeepsOthers W W' :=
  ⟨h.size, fun k _ hk _ => (h.block k (Array.getElem?_eq_some_iff.1 hk).1).trans hk⟩
theorem below_ext {w W : World} (hB : Below w.heap.size w W) (x : Ext W) : Below w.heap.size w x.wd := hB.trans (x.le.mono hB.size)

theorem calls_ext {P : Program} {f : FuncId} {args : Array Value} {w : World} {x : Ext w} {v : Value}
    (h : Calls P f args x.wd fun e w' => e = .returned v ∧ Below x.wd.heap.size x.wd w') : Calls P f args x.wd fun e w'' => e = .returned v ∧ ∃ y : Ext w, w'' = y.wd :=
  h.mono fun _ w' ⟨he, hb⟩ => ⟨he, ⟨⟨w', x.le.trans (hb.mono x.le.size)⟩, rfl⟩⟩
theorem calls_ext_same {P : Program} {f : FuncId} {args : Array Value} {w : World} {x : Ext w} {v : Value}
    (h : Calls P f args x.wd fun e w' => e = .returned v ∧ w' = x.wd) : Calls P f args x.wd fun e w'' => e = .returned v ∧ ∃ y : Ext w, w'' = y.wd :=
  h.mono fun _ _ ⟨he, hb⟩ => ⟨he, x, hb⟩

section
variable {F : Fence} {n : Nat} {P : Program} {ops : Array Oper} {md : Region.Mode} {C : World → Prop}

/-- A fence that asks nothing. -/
structure Loose (F : Fence) (P : Program) : Prop where
  fn : ∀ f, F.fn f
  depth : F.depth.isSome = true → False
  calls : ∀ (m : Nat) (f : FuncId) (args : Array Value) (w : World) (R : Ending → World → Prop), Calls P f args w R → CallsIn F m P f args w R

theorem loose_wide (P : Program) : Loose Fence.wide P := ⟨fun _ => trivial, fun h => (by cases h), fun _ _ _ _ _ h => callsIn_wide.2 h⟩
theorem loose_round (P : Program) (l : Nat) : Loose (Fence.wide.inRound l) P := ⟨fun _ => trivial, fun h => (by cases h), fun _ _ _ _ _ h => CallsIn.inRound l (callsIn_wide.2 h)⟩

def noDefer (ops : Array Oper) : Bool := ops.toList.all fun o => match o.op with | .defer _ => false | _ => true
theorem noDefer_spec {ops : Array Oper} (h : noDefer ops = true) {i : Nat} {o : Oper} (hi : ops[i]? = some o) : ∀ c, o.op ≠ .defer c := by
  intro c hc
  have h1 := List.all_eq_true.1 h o (by
    obtain ⟨hlt, he⟩ := Array.getElem?_eq_some_iff.1 hi
    rw [← he]; exact Array.getElem_mem_toList hlt)
  rw [hc] at h1
  cases h1

/-- What an operation that only looks can have come to. -/
theorem quiet_came {o : Oper} {a : Act} {w : World} {v : Value} (h : o.quietAt P a C w v) :
    (execOp a.eval o).run P w = .ok (.value v) w ∨ ((execOp a.eval o).run P w = .ok .skip w ∧ v = undef) ∨
    ∃ f args, (execOp a.eval o).run P w = .ok (.enter f args) w ∧ Calls P f args w (fun e w'' => e = .returned v ∧ C w'') := by
  unfold Oper.quietAt at h
  generalize (execOp a.eval o).run P w = r at h ⊢
  match r, h with
  | .ok (.value _) _, h => exact .inl (by rw [h.1, h.2])
  | .ok .skip _, h => exact .inr (.inl ⟨by rw [h.1], h.2⟩)
  | .ok (.enter f args) _, h => exact .inr (.inr ⟨f, args, by rw [h.1], h.2⟩)

/-- An operation of a greater region, walked as one of its beginning. -/
theorem look_in {opsH : Array Oper} (hF : Loose F P) (hd : noDefer ops = true) {i : Nat} {o : Oper} (ho : ops[i]? = some o) (hoH : opsH[i]? = some o) {a : Act}
    (hw : Region.wanted o (yielded ops a.tmps) = Region.wanted o (yielded opsH a.tmps)) {K : Act → Prop} {K' : Act → World → Prop} {Q : Exit → Act → World → Prop} {w : World} (hC : C w)
    (hK : ∀ a w', C w' → K a → K' a w') (h : qOp P opsH C i K a) : wpOpIn F n P ops Q i K' a w := by
  have hfn : ∀ f, o.about P w a.eval = some f → F.fn f := fun f _ => hF.fn f
  simp only [qOp, hoH] at h
  simp only [wpOpIn, ho, hw]
  by_cases hy : Region.wanted o (yielded opsH a.tmps) = true
  · rw [if_pos hy] at h ⊢
    obtain ⟨v, hv, hk⟩ := h
    refine ⟨hfn, ?_⟩
    rw [Oper.semAt_eq _ _ _ (noDefer_spec hd ho)]
    rcases quiet_came (hv w hC) with e | ⟨e, rfl⟩ | ⟨f, args, e, hc⟩
    · rw [e]; exact hK _ _ hC hk
    · rw [e]; exact hK _ _ hC hk
    · rw [e]
      refine ⟨fun hx => (hF.depth hx).elim, hF.calls _ _ _ _ _ (hc.mono ?_)⟩
      rintro x w' ⟨rfl, hC'⟩
      exact hK _ _ hC' hk
  · rw [if_neg hy] at h ⊢
    exact ⟨hfn, hK _ _ hC h⟩

/-- The beginning of a region, of m operations: each waits for such as stand ahead of it alone, and all the others wait for each of it. -/
def waits (o : Oper) (i : Nat) : Bool := o.after.any fun e => Region.binds .any e && e.on == i
def backOnly (o : Oper) (i : Nat) : Bool := (o.after.all fun e => !Region.binds .any e || decide (e.on < i)) && (match o.guard with | some (j, _) => decide (j < i) | none => true)
def beginB (l : List Oper) (m : Nat) : Bool :=
  decide (m ≤ l.length) && ((List.range l.length).all fun t => match l[t]? with
    | some o => if t < m then backOnly o t else (List.range m).all fun i => waits o i
    | none => true)

theorem begin_head {l : List Oper} {m i : Nat} {o : Oper} (h : beginB l m = true) (hi : i < m) (ho : l[i]? = some o) :
    (∀ e ∈ o.after, Region.binds .any e = true → e.on < i) ∧ ∀ j b, o.guard = some (j, b) → j < i := by
  have hlt : i < l.length := (List.getElem?_eq_some_iff.1 ho).1
  have h1 := List.all_eq_true.1 (Bool.and_eq_true_iff.1 h).2 i (List.mem_range.2 hlt)
  rw [ho] at h1
  simp only [hi, if_true, backOnly, Bool.and_eq_true] at h1
  constructor
  · intro e he hb
    have := Array.all_eq_true'.1 h1.1 e he
    simpa [hb] using this
  · intro j b hg
    have := h1.2
    rw [hg] at this
    simpa using this
theorem begin_tail {l : List Oper} {m t i : Nat} {o : Oper} (h : beginB l m = true) (ht : m ≤ t) (ho : l[t]? = some o) (hi : i < m) : ∃ e ∈ o.after, Region.binds .any e = true ∧ e.on = i := by
  have hlt : t < l.length := (List.getElem?_eq_some_iff.1 ho).1
  have h1 := List.all_eq_true.1 (Bool.and_eq_true_iff.1 h).2 t (List.mem_range.2 hlt)
  rw [ho] at h1
  simp only [if_neg (Nat.not_lt.2 ht)] at h1
  have h2 := List.all_eq_true.1 h1 i (List.mem_range.2 hi)
  obtain ⟨e, he, hb⟩ := Array.any_eq_true'.1 h2
  simp only [Bool.and_eq_true, beq_iff_eq] at hb
  exact ⟨e, he, hb.1, hb.2⟩

/-- What is listed: of the beginning as LH says, of the rest nothing. -/
def both (LH : Array Bool) (g : Nat) : Array Bool := LH ++ Array.replicate g false
theorem both_lt {LH : Array Bool} {g i : Nat} (h : i < LH.size) (b : Bool) : (both LH g).getD i b = LH.getD i b := by
  simp [both, Array.getD, h, Array.getElem_append_left h, show i < LH.size + g by omega]
theorem both_set {LH : Array Bool} {g i : Nat} (h : i < LH.size) : (both LH g).setIfInBounds i true = both (LH.setIfInBounds i true) g := by
  simp [both, Array.setIfInBounds_append_left h]

variable {l : List Oper} {m : Nat}

theorem ready_head (hB : beginB l m = true) {LH : Array Bool} (hs : LH.size = m) (g i : Nat) (hi : i < m) : i ∈ Region.ready .any l.toArray (both LH g) ↔ i ∈ Region.ready .any (l.take m).toArray LH := by
  have hsame : (l.take m).toArray[i]? = l.toArray[i]? := by simp [hi]
  rw [mem_ready, mem_ready, both_lt (by omega), hsame]
  refine and_congr_right fun _ => exists_congr fun o => and_congr_right fun ho => ?_
  have hback := (begin_head hB hi (by simpa using ho)).1
  exact forall_congr' fun e => forall_congr' fun he => forall_congr' fun hb => by rw [both_lt (by have := hback e he hb; omega)]

/-- If nothing of the beginning may come up, all of it has. -/
theorem full_of_none (hB : beginB l m = true) {LH : Array Bool} (hs : LH.size = m) (h : Region.ready .any (l.take m).toArray LH = []) : LH = Array.replicate m true := by
  have hml : m ≤ l.length := by simpa using (Bool.and_eq_true_iff.1 hB).1
  have key : ∀ i, i < m → LH.getD i false = true := by
    intro i
    induction i using Nat.strongRecOn with
    | _ i ih =>
      intro hi
      cases hv : LH.getD i false with
      | true => rfl
      | false =>
        have hil : i < l.length := by omega
        have hmem : i ∈ Region.ready .any (l.take m).toArray LH := by
          rw [mem_ready]
          refine ⟨getD_in (by omega) hv, l[i], by simp [hi, hil], fun e he hb => ?_⟩
          have hlt := (begin_head hB hi (List.getElem?_eq_getElem hil)).1 e he hb
          exact ih e.on hlt (by omega)
        rw [h] at hmem
        cases hmem
  refine Array.ext (by simpa using hs) fun i h1 h2 => ?_
  have := key i (by omega)
  simpa [Array.getD, h1] using this

/-- Whatever order the beginning takes, the rest stands as behind the order of the text. -/
theorem any_begun (hF : Loose F P) (hd : noDefer l.toArray = true) (hB : beginB l m = true) {Q : Exit → Act → World → Prop} {L : Act → Prop} (g : Nat)
    (hrest : ∀ (k : Nat) (a : Act) (w : World), C w → L a → g ≤ k → wpAnyIn F n P .any l.toArray Q k (both (Array.replicate m true) g) a w) :
    ∀ (f : Nat) (LH : Array Bool) (a : Act) (w : World), LH.size = m → C w → wpAnyQ P .any (l.take m).toArray C L f LH a → wpAnyIn F n P .any l.toArray Q (f + g) (both LH g) a w := by
  have hml : m ≤ l.length := by simpa using (Bool.and_eq_true_iff.1 hB).1
  intro f
  induction f with
  | zero =>
    intro LH a w hs hC h
    rw [full_of_none hB hs h.1]
    exact hrest _ a w hC h.2 (by omega)
  | succ f ih =>
    intro LH a w hs hC h
    by_cases hnone : Region.ready .any (l.take m).toArray LH = []
    · rw [full_of_none hB hs hnone]
      exact hrest _ a w hC (h.1 hnone) (by omega)
    · obtain ⟨i0, hi0⟩ := List.exists_mem_of_ne_nil _ hnone
      obtain ⟨hun, o0, ho0, _⟩ := mem_ready.1 hi0
      have hlt0 : i0 < m := by
        have := (Array.getElem?_eq_some_iff.1 ho0).1
        simp at this; omega
      rw [show f + 1 + g = (f + g) + 1 by omega]
      refine ⟨fun hx => ?_, fun i hi => ?_⟩
      · have := (ready_head hB hs g i0 hlt0).2 hi0
        rw [hx] at this; cases this
      · obtain ⟨_, o, ho, hall⟩ := mem_ready.1 hi
        have hol : l[i]? = some o := by simpa using ho
        have him : i < m := by
          rcases Nat.lt_or_ge i m with hx | hx
          · exact hx
          · obtain ⟨e, he, hb, hon⟩ := begin_tail hB hx hol hlt0
            have h1 := hall e he hb
            rw [hon, both_lt (by omega), getD_both hun] at h1
            cases h1
        have hiH := (ready_head hB hs g i him).1 hi
        have hoH : (l.take m).toArray[i]? = some o := by simpa [him] using hol
        refine look_in hF hd ho hoH ?_ hC (fun a' w' hC' h' => ?_) (h.2 i hiH)
        · unfold Region.wanted
          cases hgd : o.guard with
          | none => rfl
          | some jb =>
            have hj := (begin_head hB him hol).2 jb.1 jb.2 hgd
            have : yielded l.toArray a.tmps jb.1 = yielded (l.take m).toArray a.tmps jb.1 := by
              unfold yielded
              rw [show (l.take m).toArray[jb.1]? = l.toArray[jb.1]? by simp [show jb.1 < m by omega]]
            simp only [this]
        · rw [both_set (by omega)]
          exact ih _ a' w' (by simpa using hs) hC' h'

/-- Operations of which each is the only one that may come up. -/
theorem any_forced {Q : Exit → Act → World → Prop} : ∀ (r : List Oper) (k : Nat) (listed : Array Bool) (fuel : Nat) (a : Act) (w : World), (∀ j, r[j]? = l.toArray[k + j]?) →
    Region.seqB .any l.toArray r.length k listed = true → r.length ≤ fuel → wpListIn F n P l.toArray Q r a w → wpAnyIn F n P .any l.toArray Q fuel listed a w
  | [], k, listed, fuel, a, w, _, hq, _, h => by
    have he : Region.ready .any l.toArray listed = [] := by simpa [Region.seqB] using hq
    cases fuel with
    | zero => exact ⟨he, h⟩
    | succ f => exact ⟨fun _ => h, fun i hi => by rw [he] at hi; cases hi⟩
  | o :: r, k, listed, 0, a, w, _, _, hf, _ => by simp at hf
  | o :: r, k, listed, fuel + 1, a, w, hr, hq, hf, h => by
    have hk : l.toArray[k]? = some o := by rw [← Nat.add_zero k, ← hr 0]; rfl
    obtain ⟨hone, hq'⟩ := Bool.and_eq_true_iff.1 hq
    have hone : Region.ready .any l.toArray listed = [k] := of_decide_eq_true hone
    refine ⟨fun hx => (by rw [hone] at hx; cases hx), fun i hi => ?_⟩
    rw [hone, List.mem_singleton] at hi
    subst hi
    have hop : wpOpIn F n P l.toArray Q i (wpListIn F n P l.toArray Q r) a w := by simp only [wpOpIn, hk]; exact h
    refine wpOpIn_mono (fun a' w' h' => any_forced r (i + 1) _ fuel a' w' (fun j => ?_) hq' (by simpa using hf) h') hop
    have := hr (j + 1)
    rw [show i + 1 + j = i + (j + 1) by omega]
    simpa using this

def tailB (l : List Oper) (m : Nat) : Bool := noDefer l.toArray && beginB l m && Region.lexB .any (l.take m).toArray && Region.seqB .any l.toArray (l.length - m) m (both (Array.replicate m true) (l.length - m))

/-- All but the operations from number m on only look; those come last, in the order of the text. -/
theorem wpIn_region_tail {id : Nat} {Q : Exit → Act → World → Prop} {a : Act} {w : World} {l : List Oper} (m : Nat) (hF : Loose F P) (hm : P.follows .mixedOrders = true) (hB : tailB l m = true)
    (h : wpQuiet P (l.take m).toArray (fun w' => ∃ x : Ext w, w' = x.wd) (fun a' => ∀ x : Ext w, wpListIn F n P l.toArray Q (l.drop m) a' x.wd) (l.take m) a) : (Code.region id l.toArray true).wpIn F n P Q a w := by
  obtain ⟨h123, hseq⟩ := Bool.and_eq_true_iff.1 hB
  obtain ⟨h12, hlex⟩ := Bool.and_eq_true_iff.1 h123
  obtain ⟨hd, hbeg⟩ := Bool.and_eq_true_iff.1 h12
  obtain ⟨hsel, hlf⟩ := Bool.and_eq_true_iff.1 hlex
  have hml : m ≤ l.length := by simpa using (Bool.and_eq_true_iff.1 hbeg).1
  have hlen : (l.take m).length = m := by simp [hml]
  have hq := wpAnyQ_lex (C := fun w' => ∃ x : Ext w, w' = x.wd) (md := .any) hsel (l.take m) 0 (Array.replicate (l.take m).toArray.size false) a (by simp) (by simpa using hlf) h
  rw [hlen] at hq
  refine wpIn_region_any hm ?_
  have hsz : (Array.replicate l.toArray.size false : Array Bool) = both (Array.replicate m false) (l.length - m) := by
    refine Array.ext (by simp [both]; omega) fun i h1 h2 => ?_
    simp [both]
  rw [hsz, show l.toArray.size = m + (l.length - m) by simp; omega]
  refine any_begun (C := fun w' => ∃ x : Ext w, w' = x.wd) hF hd hbeg (l.length - m) ?_ m _ a _ (by simp) ⟨⟨_, (Below.refl w.heap.size w).drew⟩, rfl⟩ (by simpa [hlen] using hq)
  rintro k a' w' ⟨x, rfl⟩ hL hk
  exact any_forced (l.drop m) m _ k a' x.wd (fun j => by simp) (by simpa using hseq) (by simpa using hk) (hL x)

def lookB (l : List Oper) : Bool := tailB l l.length

/-- All operations only look. -/
theorem wpIn_region_look {id : Nat} {Q : Exit → Act → World → Prop} {a : Act} {w : World} {l : List Oper} (hF : Loose F P) (hm : P.follows .mixedOrders = true) (hB : lookB l = true)
    (h : wpQuiet P l.toArray (fun w' => ∃ x : Ext w, w' = x.wd) (fun a' => ∀ x : Ext w, Q .normal a' x.wd) l a) : (Code.region id l.toArray true).wpIn F n P Q a w := by
  refine wpIn_region_tail l.length hF hm hB ?_
  rw [List.take_length, List.drop_length]
  exact h

/-- In a function's own frame, without a fence. -/
theorem wp_region_tail {id : Nat} {Q : Exit → Act → World → Prop} {a : Act} {w : World} {l : List Oper} (m : Nat) (hm : P.follows .mixedOrders = true) (hB : tailB l m = true)
    (h : wpQuiet P (l.take m).toArray (fun w' => ∃ x : Ext w, w' = x.wd) (fun a' => ∀ x : Ext w, wpListIn Fence.wide 0 P l.toArray Q (l.drop m) a' x.wd) (l.take m) a) : (Code.region id l.toArray true).wp P Q a w :=
  wpIn_wide.1 (wpIn_region_tail m (loose_wide P) hm hB h)
theorem wp_region_look {id : Nat} {Q : Exit → Act → World → Prop} {a : Act} {w : World} {l : List Oper} (hm : P.follows .mixedOrders = true) (hB : lookB l = true)
    (h : wpQuiet P l.toArray (fun w' => ∃ x : Ext w, w' = x.wd) (fun a' => ∀ x : Ext w, Q .normal a' x.wd) l a) : (Code.region id l.toArray true).wp P Q a w :=
  wpIn_wide.1 (wpIn_region_look (n := 0) (loose_wide P) hm hB h)

end
end Go.Proofs.YtlahfffgmfjpaaaGreatDoor

/-
  pos.Check, pos.many, pos.Many, pos.checkNode: what each call answers, for every input; nothing that lay before is turned.
-/
namespace Go.Proofs.YtlahfffgmfjpaaaGreatDoor
open Go.RowKit Go.Shelf

attribute [local go_sem] Oper.semAt_some ext_const

set_option maxRecDepth 100000 in
set_option maxHeartbeats 2000000 in
theorem check_in (F : Fence) (n : Nat) (hC : F.fn 39) (hA : F.fn 65) (hF : F.fn 93) (hro : F.round = none) (hn : 3 ≤ n) (d0 d1 d2 : Int) (w : World) :
    CallsIn F n Tryz.prog 39 #[A3 d0 d1 d2] w fun e W' => ((mayD d0 d1 d2 ∧ e = .returned (I 0)) ∨ (¬ mayD d0 d1 d2 ∧ e = .returned (I 8))) ∧ Below w.heap.size w W' := by
  have h1 : 1 ≤ n := by omega
  refine callsIn_of_wp_marks Tryz.func39 rfl hC ?_ hro
  simp only [Tryz.ntmps39, List.size_toArray, List.length_cons, List.length_nil, Nat.reduceAdd, Nat.reduceSub, Array.replicate_succ, Array.replicate_zero, List.push_toArray, List.append_toArray, List.nil_append, List.cons_append]
  gi_wp2_with (gi_at_call 65; refine (axes_in F (n - 1) hA hro _ _ _ _).mono ?_; rintro e w' ⟨rfl, rfl⟩)
  have b0 := ((Blk.new w 23 #[I d0, I d1, I d2]).alloc (.cells #[I 0] 35)).alloc (.cells #[I d0, I d1, I d2] 23)
  have b1 := (Blk.new (w.alloc (.cells #[I d0, I d1, I d2] 23)) 35 #[I 0]).alloc (.cells #[I d0, I d1, I d2] 23)
  have b2 := Blk.new ((w.alloc (.cells #[I d0, I d1, I d2] 23)).alloc (.cells #[I 0] 35)) 23 #[I d0, I d1, I d2]
  simp only [World.size_alloc] at b1 b2
  have hB0 : Below w.heap.size w (((w.alloc (.cells #[I d0, I d1, I d2] 23)).alloc (.cells #[I 0] 35)).alloc (.cells #[I d0, I d1, I d2] 23)) := (((Below.refl _ w).alloc (Nat.le_refl _) _).alloc (by simp) _).alloc (by simp; omega) _
  refine wpIn_rangeFunc_ownF hro h1 (gf := 93) (lb := #[.pointer (some ⟨w.heap.size + 1 + 1, 0, none⟩)]) rfl hF (enters_of Tryz.func93 (by kernel_rfl) rfl)
    (axes_stops F (n - 1) hF hro (by omega) (w.heap.size + 1 + 1) d0 d1 d2 _ b2.lt (b2.cell 0) (b2.cell 1) (b2.cell 2)) (fun _ _ => trivial) (fun _ _ _ _ _ _ _ _ => trivial) (Below.refl _ _) (fun _ => rfl)
    (fun pre W => (((∀ k ∈ pre, okD (dimAt d0 d1 d2 k)) ∧ Blk W w.heap.size 23 #[I d0, I d1, I d2]) ∧ Blk W (w.heap.size + 1) 35 #[I 0]) ∧ Below w.heap.size w W)
    (fun c pre W => ((c = .ret ∧ (∃ k ∈ pre, ¬ okD (dimAt d0 d1 d2 k))) ∧ Blk W (w.heap.size + 1) 35 #[I 8]) ∧ Below w.heap.size w W)
    (OwnFrom.and (Own.from (own_and (own_and (own_pure _) (blk_own _ _ _)) (blk_own _ _ _)) _) (ownFrom_below (Nat.le_refl _) (by simp; omega)))
    (fun c => OwnFrom.and (Own.from (own_and (own_pure _) (blk_own _ _ _)) _) (ownFrom_below (Nat.le_refl _) (by simp; omega)))
    ⟨⟨⟨by simp, b0⟩, b1⟩, hB0⟩
    (fun x => { tmps := #[A3 d0 d1 d2, .pointer (some ⟨w.heap.size, 0, none⟩), .pointer (some ⟨w.heap.size + 1, 0, none⟩), .int .i64 (axI x), A3 d0 d1 d2, .func (.func 93) #[] #[.pointer (some ⟨w.heap.size + 1 + 1, 0, none⟩)], .int .i64 (axI x), .int .i64 (strd d0 d1 x), undef, undef, undef, undef, undef, undef, undef, undef, undef, undef], defers := [] }) ?assign ?body ?done ?stop
  case assign =>
    intro l x W K hK
    gi_wp2
    exact hK
  case body =>
    rintro l pre x W ⟨⟨⟨hp, hb0⟩, hb1⟩, hB⟩ _
    have c0 := hb0.cell 0
    have c1 := hb0.cell 1
    have c2 := hb0.cell 2
    have c3 := hb1.cell 0
    have f3 := hb1.frozen 0
    have fin : ∀ x : Fin 3, okD (dimAt d0 d1 d2 x) → ∀ k ∈ pre ++ [x], okD (dimAt d0 d1 d2 k) := fun x hx k hk => by
      rcases List.mem_append.1 hk with h | h
      · exact hp k h
      · simp at h; subst h; exact hx
    simp at c0 c1 c2 c3
    rcases fin3 x with rfl | rfl | rfl
    all_goals
      simp only [axI]
      gi_wp2
    all_goals first
      | exact ⟨KeepsOthers.refl _, trivial, ⟨⟨fin _ (by simp only [dimAt, okD]; omega), hb0⟩, hb1⟩, hB⟩
      | exact ⟨KeepsOthers.setCell _ _ _, ⟨⟨rfl, _, List.mem_append.2 (.inr (List.mem_singleton.2 rfl)), by simp only [dimAt, okD]; omega⟩, hb1.set 0 _⟩, hB.setCell (p := ⟨w.heap.size + 1, 0, none⟩) (by simp) _⟩
  case done =>
    rintro D xs W hD rfl ⟨⟨⟨hp, hb0⟩, hb1⟩, hB⟩ hK
    have c3 := hb1.cell 0
    have f3 := hb1.frozen 0
    simp at c3
    gi_wp2
    have hK' := (KeepsOthers.setCell W ⟨w.heap.size + 1, 0, none⟩ (.int .i64 0)).same D _ hK rfl
    refine ⟨by simp, .inl ⟨_, _, rfl, run_takeDeferred hK', ?_⟩⟩
    have hc5 := ((hb1.set 0 (.int .i64 0)).putObj (.deferred none) hK' rfl).cell 0
    have ho0 := hp 0 (by simp)
    have ho1 := hp 1 (by simp)
    have ho2 := hp 2 (by simp)
    simp only [dimAt, okD] at ho0 ho1 ho2
    refine ⟨.int .i64 0, ?_, .inl ⟨⟨ho0, ho1, ho2⟩, rfl⟩, below_put _ (hB.setCell (p := ⟨w.heap.size + 1, 0, none⟩) (by simp) _) (by simp at hD; omega) hK'⟩
    simp [results, Tryz.f39, go_sem, hc5]
  case stop =>
    rintro D c pre W hD hpre ⟨⟨⟨rfl, k, hk, hno⟩, hb1⟩, hB⟩ hK
    have c3 := hb1.cell 0
    simp at c3
    gi_wp2
    refine ⟨by simp, .inl ⟨_, _, rfl, run_takeDeferred hK, ?_⟩⟩
    have hc5 := (hb1.putObj (.deferred none) hK rfl).cell 0
    refine ⟨.int .i64 8, ?_, .inr ⟨fun hm => hno ?_, rfl⟩, below_put _ hB (by simp at hD; omega) hK⟩
    · simp [results, Tryz.f39, go_sem, hc5]
    · obtain ⟨m0, m1, m2⟩ := hm
      rcases fin3 k with rfl | rfl | rfl <;> simp only [dimAt, okD] <;> assumption

theorem check_yes {d0 d1 d2 : Int} (w : World) (h : mayD d0 d1 d2) : Calls Tryz.prog 39 #[A3 d0 d1 d2] w fun e W' => e = .returned (I 0) ∧ Below w.heap.size w W' := by
  refine ((callsIn_wide (n := 3)).1 (check_in Fence.wide 3 trivial trivial trivial rfl (by omega) d0 d1 d2 w)).mono ?_
  rintro e W' ⟨⟨_, rfl⟩ | ⟨hn, _⟩, hB⟩
  · exact ⟨rfl, hB⟩
  · exact absurd h hn

theorem check_no {d0 d1 d2 : Int} (w : World) (h : ¬ mayD d0 d1 d2) : Calls Tryz.prog 39 #[A3 d0 d1 d2] w fun e W' => e = .returned (I 8) ∧ Below w.heap.size w W' := by
  refine ((callsIn_wide (n := 3)).1 (check_in Fence.wide 3 trivial trivial trivial rfl (by omega) d0 d1 d2 w)).mono ?_
  rintro e W' ⟨⟨hy, _⟩ | ⟨_, rfl⟩, hB⟩
  · exact absurd hy h
  · exact ⟨rfl, hB⟩

theorem axes_calls (d0 d1 d2 : Int) (w : World) :
    Calls Tryz.prog 65 #[A3 d0 d1 d2] w fun e w' => e = .returned (.func (.func 93) #[] #[.pointer (some ⟨w.heap.size, 0, none⟩)]) ∧ w' = w.alloc (.cells #[I d0, I d1, I d2] 23) :=
  (callsIn_wide (n := 3)).1 (axes_in Fence.wide 3 trivial rfl d0 d1 d2 w)

theorem below_calls (k n : Int) (w : World) :
    Calls Tryz.prog 75 #[I k, I n] w fun e w' => e = .returned (.bool (belowB k n)) ∧ w' = w := by
  go_enter Tryz.func75, Tryz.ntmps75
  go_wp2
  all_goals
    go_ret
    first
      | exact ⟨rfl, rfl⟩
      | (refine ⟨?_, rfl⟩; simp [belowB]; omega)

set_option maxRecDepth 100000 in
set_option maxHeartbeats 2000000 in
theorem many_calls {d0 d1 d2 : Int} (w : World) (hm : mayD d0 d1 d2) :
    Calls Tryz.prog 66 #[A3 d0 d1 d2] w fun e W' => e = .returned (I (d0 * d1 * d2)) ∧ Below w.heap.size w W' := by
  refine (callsIn_wide (n := 3)).1 ?_
  have h1 : 1 ≤ 3 := by omega
  refine callsIn_of_wp_marks Tryz.func66 rfl trivial ?_ rfl
  simp only [Tryz.ntmps66, List.size_toArray, List.length_cons, List.length_nil, Nat.reduceAdd, Nat.reduceSub, Array.replicate_succ, Array.replicate_zero, List.push_toArray, List.append_toArray, List.nil_append, List.cons_append]
  gi_wp2_with (refine ⟨trivial, ?_⟩; gi_at_call 65; refine (callsIn_wide.2 (axes_calls _ _ _ _)).mono ?_; rintro e w' ⟨rfl, rfl⟩)
  have b0 := ((Blk.new w 23 #[I d0, I d1, I d2]).alloc (.cells #[I 1] 3)).alloc (.cells #[I d0, I d1, I d2] 23)
  have b1 := (Blk.new (w.alloc (.cells #[I d0, I d1, I d2] 23)) 3 #[I 1]).alloc (.cells #[I d0, I d1, I d2] 23)
  have b2 := Blk.new ((w.alloc (.cells #[I d0, I d1, I d2] 23)).alloc (.cells #[I 1] 3)) 23 #[I d0, I d1, I d2]
  simp only [World.size_alloc] at b1 b2
  have hB0 : Below w.heap.size w (((w.alloc (.cells #[I d0, I d1, I d2] 23)).alloc (.cells #[I 1] 3)).alloc (.cells #[I d0, I d1, I d2] 23)) := (((Below.refl _ w).alloc (Nat.le_refl _) _).alloc (by simp) _).alloc (by simp; omega) _
  refine wpIn_axes (w.heap.size + 1 + 1) d0 d1 d2 rfl b2 rfl
    (fun pre W => (Blk W w.heap.size 23 #[I d0, I d1, I d2] ∧ Blk W (w.heap.size + 1) 3 #[I (prodL d0 d1 d2 pre)]) ∧ Below w.heap.size w W)
    (fun _ _ _ => False)
    (OwnFrom.and (Own.from (own_and (blk_own _ _ _) (blk_own _ _ _)) _) (ownFrom_below (Nat.le_refl _) (by simp; omega)))
    (fun _ _ _ _ _ hs _ _ => hs)
    ⟨⟨b0, b1⟩, hB0⟩
    (fun x => { tmps := #[A3 d0 d1 d2, .pointer (some ⟨w.heap.size, 0, none⟩), .int .i64 0, .pointer (some ⟨w.heap.size + 1, 0, none⟩), .int .i64 (axI x), A3 d0 d1 d2, .func (.func 93) #[] #[.pointer (some ⟨w.heap.size + 1 + 1, 0, none⟩)], .int .i64 (axI x), .int .i64 (strd d0 d1 x), undef, undef, undef, undef, undef, undef], defers := [] }) ?assign ?body ?done ?stop
  case assign =>
    intro l x W K hK
    gi_wp2
    exact hK
  case body =>
    rintro l pre x W ⟨⟨hb0, hb1⟩, hB⟩ hlen
    have c0 := hb0.cell 0
    have c1 := hb0.cell 1
    have c2 := hb0.cell 2
    have c3 := hb1.cell 0
    have f3 := hb1.frozen 0
    simp at c0 c1 c2 c3
    have hw := Hid.out (prodL_snoc hm pre x hlen)
    have HW : Hid (wrap64 (prodL d0 d1 d2 pre * dimAt d0 d1 d2 x) = prodL d0 d1 d2 (pre ++ [x])) := hw
    clear hw
    have hmx : Tryz.prog.follows .mixedOrders = true := by kernel_rfl
    have e0 := Ext.cell hb0 0
    have e1 := Ext.cell hb0 1
    have e2 := Ext.cell hb0 2
    have e3 := Ext.cell hb1 0
    simp at e0 e1 e2 e3
    rcases fin3 x with rfl | rfl | rfl
    all_goals
      simp only [axI]
      gi_wp2
      refine wpIn_region_tail 5 (loose_round _ l) hmx (by kernel_rfl) ?_
      simp only [List.take_succ_cons, List.take_zero, List.drop_succ_cons, List.drop_zero]
      repeat (go_big_quiet_step (fail))
      refine wpQuiet_nil ?_
      intro x
      have g3 := Ext.frozen hb1 0 x
      gi_wp2
      refine ⟨(keeps_below x.le).trans (KeepsOthers.setCell _ _ _), trivial, ⟨(hb0.later x.le).other 0 _ (by omega), ?_⟩, (below_ext hB x).setCell (p := ⟨w.heap.size + 1, 0, none⟩) (by simp) _⟩
      rw [← HW.out]
      exact (hb1.later x.le).set 0 _
  case done =>
    rintro D W hD ⟨⟨hb0, hb1⟩, hB⟩ hK
    have c3 := hb1.cell 0
    simp at c3
    gi_wp2
    refine ⟨by simp, .inl ⟨_, _, rfl, run_takeDeferred hK, ?_⟩⟩
    exact ⟨_, results_tmp rfl _ _ _, by simp [prodL, dimAt], below_put _ hB (by simp at hD; omega) hK⟩
  case stop =>
    rintro D c pre W _ _ h _
    exact h.elim

end Go.Proofs.YtlahfffgmfjpaaaGreatDoor

/-
  pos.Many, pos.checkNode: what each call answers, for every input; nothing that lay before is turned.
-/
namespace Go.Proofs.YtlahfffgmfjpaaaGreatDoor
open Go.RowKit Go.Shelf

attribute [local go_sem] Oper.semAt_some ext_const

set_option maxHeartbeats 400000 in
theorem many_yes {d0 d1 d2 : Int} (w : World) (hm : mayD d0 d1 d2) :
    Calls Tryz.prog 40 #[A3 d0 d1 d2] w fun e W' => e = .returned (.tuple #[I (d0 * d1 * d2), I 0]) ∧ Below w.heap.size w W' := by
  go_enter Tryz.func40, Tryz.ntmps40
  go_wp2_with fail
  refine (check_yes _ hm).mono ?_
  rintro e w1 ⟨rfl, hB⟩
  have b0 := (Blk.new w 23 #[I d0, I d1, I d2]).later hB
  have c0 := b0.cell 0
  have c1 := b0.cell 1
  have c2 := b0.cell 2
  simp at c0 c1 c2
  go_wp2_with fail
  refine (many_calls _ hm).mono ?_
  rintro e w2 ⟨rfl, hB2⟩
  go_wp2
  go_ret2
  exact ⟨rfl, (((Below.refl _ w).alloc (Nat.le_refl _) _).trans (hB.mono (by simp))).trans (hB2.mono (by have := hB.size; simp at this; omega))⟩

set_option maxHeartbeats 400000 in
theorem node_yes {d0 d1 d2 : Int} (m : Int) (w : World) (hm : mayD d0 d1 d2) (hn : belowB m (d0 * d1 * d2) = true) :
    Calls Tryz.prog 95 #[A3 d0 d1 d2, I m] w fun e W' => e = .returned (I 0) ∧ Below w.heap.size w W' := by
  go_enter Tryz.func95, Tryz.ntmps95
  go_wp2_with fail
  refine (many_yes _ hm).mono ?_
  rintro e w1 ⟨rfl, hB⟩
  go_wp2_with fail
  refine (below_calls _ _ _).mono ?_
  rintro e w2 ⟨rfl, rfl⟩
  go_wp2
  go_ret
  exact ⟨rfl, ((Below.refl _ w).alloc (Nat.le_refl _) _).trans (hB.mono (by simp))⟩

end Go.Proofs.YtlahfffgmfjpaaaGreatDoor

/-
  box's sides: sideOf, mayBe, after, has, meets, within: what each call answers; nothing that lay before is turned.
-/
namespace Go.Proofs.YtlahfffgmfjpaaaGreatDoor
open Go.RowKit Go.Shelf

attribute [local go_sem] Oper.semAt_some ext_const

/-- What a later world has in a box's block. -/
theorem Blk.six {W W' : World} {B : Nat} {t : TypeId} {a b c d e f : Int} (h : Blk W B t #[I a, I b, I c, I d, I e, I f]) (hb : Below W.heap.size W W') :
    (W'.cell? ⟨B, 0, none⟩ = some (I a) ∧ W'.cell? ⟨B, 1, none⟩ = some (I b) ∧ W'.cell? ⟨B, 2, none⟩ = some (I c)) ∧ (W'.cell? ⟨B, 3, none⟩ = some (I d) ∧ W'.cell? ⟨B, 4, none⟩ = some (I e) ∧ W'.cell? ⟨B, 5, none⟩ = some (I f)) ∧ B < W'.heap.size :=
  ⟨⟨(h.later hb).cell 0, (h.later hb).cell 1, (h.later hb).cell 2⟩, ⟨(h.later hb).cell 3, (h.later hb).cell 4, (h.later hb).cell 5⟩, (h.later hb).lt⟩

theorem after_calls {r b k : Int} (s : Int) (w : World) (hr : r ≤ 16) (hb : 0 ≤ b ∧ b < r) (hk : 0 ≤ k ∧ k < r) :
    Calls Tryz.prog 149 #[A3 r b s, I k] w fun e W' => e = .returned (I (aft r b k)) ∧ Below w.heap.size w W' := by
  have HR : Hid ((k - b + r) % r = aft r b k) := aft_rem hb hk
  obtain ⟨b0, b1⟩ := hb
  obtain ⟨k0, k1⟩ := hk
  go_enter Tryz.func149, Tryz.ntmps149
  go_wp2
  go_ret
  rw [HR.out]
  exact ⟨rfl, (Below.refl _ w).alloc (Nat.le_refl _) _⟩

theorem has_calls {r b k : Int} (s : Int) (w : World) (hr : r ≤ 16) (hb : 0 ≤ b ∧ b < r) (hk : 0 ≤ k ∧ k < r) :
    Calls Tryz.prog 143 #[A3 r b s, I k] w fun e W' => e = .returned (.bool (hasS r b s k)) ∧ Below w.heap.size w W' := by
  have hmx : Tryz.prog.follows .mixedOrders = true := by kernel_rfl
  go_enter Tryz.func143, Tryz.ntmps143
  go_wp2
  have b0 := Blk.new w 165 #[I r, I b, I s]
  have x0 := Ext.cell b0 0
  have x1 := Ext.cell b0 1
  have x2 := Ext.cell b0 2
  simp at x0 x1 x2
  have hT : Below w.heap.size w (w.alloc (.cells #[I r, I b, I s] 165)) := (Below.refl _ w).alloc (Nat.le_refl _) _
  refine wp_region_look hmx (by kernel_rfl) ?_
  repeat (go_big_quiet_step ((go_at_call 149; exact calls_ext (after_calls s _ hr hb hk))))
  refine wpQuiet_nil ?_
  intro v
  go_wp2
  go_ret
  exact ⟨rfl, then_below hT v.le⟩

theorem maybe_calls (r b s : Int) (w : World) :
    Calls Tryz.prog 108 #[A3 r b s] w fun e W' => e = .returned (.bool (maySB r b s)) ∧ Below w.heap.size w W' := by
  go_enter Tryz.func108, Tryz.ntmps108
  go_wp2
  all_goals
    go_ret
    refine ⟨?_, (Below.refl _ w).alloc (Nat.le_refl _) _⟩
    simp [maySB, *]
    try omega

theorem three_start (w : World) (u0 u1 u2 : Array Value) (t0 t1 t2 : TypeId) :
    ∃ W : World, ((w.alloc (.cells u0 t0)).alloc (.cells u1 t1)).alloc (.cells u2 t2) = W ∧ W.heap.size = w.heap.size + 3 ∧ Below w.heap.size w W ∧ Blk W w.heap.size t0 u0 ∧ Blk W (w.heap.size + 1) t1 u1 ∧ Blk W (w.heap.size + 1 + 1) t2 u2 := by
  obtain ⟨W, hW, hB, b0, b1⟩ := two_start w u0 u1 t0 t1
  refine ⟨_, rfl, by simp, ?_, ?_, ?_, ?_⟩
  · rw [hW]; exact then_alloc hB _
  · rw [hW]; exact b0.alloc _
  · rw [hW]; exact b1.alloc _
  · have := Blk.new ((w.alloc (.cells u0 t0)).alloc (.cells u1 t1)) t2 u2; simpa using this

set_option maxHeartbeats 1000000 in
theorem side_calls (d0 d1 d2 : Int) (b : Bx) (k : Fin 3) (w : World) :
    Calls Tryz.prog 107 #[A3 d0 d1 d2, B6 b, I (axI k)] w fun e W' => e = .returned (A3 (dimAt d0 d1 d2 k) (bAt b k) (sAt b k)) ∧ Below w.heap.size w W' := by
  have hmx : Tryz.prog.follows .mixedOrders = true := by kernel_rfl
  rcases fin3 k with rfl | rfl | rfl
  all_goals
    simp only [axI, bAt, sAt, dimAt]
    go_enter Tryz.func107, Tryz.ntmps107
    go_wp2
    obtain ⟨W, hW, hs, hB0, b0, b1, b2⟩ := three_start w #[I d0, I d1, I d2] #[I b.x, I b.y, I b.z, I b.a, I b.b, I b.c] #[I 0, I 0, I 0] 23 30 165
    rw [hW]
    clear hW
    have x0 := Ext.cell b0 0
    have x1 := Ext.cell b0 1
    have x2 := Ext.cell b0 2
    have y0 := Ext.cell b1 0
    have y1 := Ext.cell b1 1
    have y2 := Ext.cell b1 2
    have y3 := Ext.cell b1 3
    have y4 := Ext.cell b1 4
    have y5 := Ext.cell b1 5
    simp at x0 x1 x2 y0 y1 y2 y3 y4 y5
    refine wp_region_tail 12 hmx (by kernel_rfl) ?_
    simp only [List.take_succ_cons, List.take_zero, List.drop_succ_cons, List.drop_zero]
    repeat (go_big_quiet_step (fail))
    refine wpQuiet_nil ?_
    intro v
    have q2 := b2.later v.le
    obtain ⟨c0, c1, c2, f0, f1, f2⟩ := q2.row
    gi_wp2
  · have hBX := below_set3 (below_ext hB0 v) (show w.heap.size ≤ w.heap.size + 1 + 1 by omega) (I d0) (I b.x) (I b.a)
    obtain ⟨j0, j1, j2, _, _, _⟩ := (q2.set3 (I d0) (I b.x) (I b.a)).row
    go_wp2
    exact bodyPost_ret (v := A3 d0 b.x b.a) (by simp [results, Tryz.f107, go_sem, j0, j1, j2]) rfl ⟨rfl, hBX⟩
  · have hBX := below_set3 (below_ext hB0 v) (show w.heap.size ≤ w.heap.size + 1 + 1 by omega) (I d1) (I b.y) (I b.b)
    obtain ⟨j0, j1, j2, _, _, _⟩ := (q2.set3 (I d1) (I b.y) (I b.b)).row
    go_wp2
    exact bodyPost_ret (v := A3 d1 b.y b.b) (by simp [results, Tryz.f107, go_sem, j0, j1, j2]) rfl ⟨rfl, hBX⟩
  · have hBX := below_set3 (below_ext hB0 v) (show w.heap.size ≤ w.heap.size + 1 + 1 by omega) (I d2) (I b.z) (I b.c)
    obtain ⟨j0, j1, j2, _, _, _⟩ := (q2.set3 (I d2) (I b.z) (I b.c)).row
    go_wp2
    exact bodyPost_ret (v := A3 d2 b.z b.c) (by simp [results, Tryz.f107, go_sem, j0, j1, j2]) rfl ⟨rfl, hBX⟩

end Go.Proofs.YtlahfffgmfjpaaaGreatDoor

/-
  Lists of whole numbers in memory that a call made: they stay behind what leaves old memory as it lay; tidehallref02.Ints compares two of them.
-/
namespace Go.Proofs.YtlahfffgmfjpaaaGreatDoor
open Go Go.RowKit Go.Shelf

attribute [local go_sem] Oper.semAt_some ext_const

/-- The slice v holds the numbers xs, in a block of its own from number base on. -/
def Lst (W : World) (base : Nat) (v : Value) (xs : List Int) : Prop := W.ownsRow base 3 1 v xs.length (xs.map (Value.int .i64))

theorem Lst.nil (W : World) (base : Nat) : Lst W base (.slice none 0 0) [] := World.ownsRow_nil _ _ _ _
theorem Lst.later {W W' : World} {base : Nat} {v : Value} {xs : List Int} (h : Lst W base v xs) (hb : Below W.heap.size W W') : Lst W' base v xs := by
  obtain ⟨h1, h2⟩ := h
  refine ⟨h1, ?_⟩
  rcases h2 with h2 | ⟨g, cap, cur, e, hg, hh, r⟩
  · exact .inl h2
  · exact .inr ⟨g, cap, cur, e, hg, (hb.block g (Array.getElem?_eq_some_iff.1 hh).1).trans hh, r⟩
theorem Lst.weak {W : World} {base base' : Nat} {v : Value} {xs : List Int} (h : Lst W base v xs) (hb : base' ≤ base) : Lst W base' v xs := by
  obtain ⟨h1, h2⟩ := h
  refine ⟨h1, ?_⟩
  rcases h2 with h2 | ⟨g, cap, cur, e, hg, r⟩
  · exact .inl h2
  · exact .inr ⟨g, cap, cur, e, Nat.le_trans hb hg, r⟩

/-- What a walk asks of a list that it reads. -/
theorem Lst.view {W : World} {base : Nat} {v : Value} {xs : List Int} (h : Lst W base v xs) :
    ∃ ao cap, v = .slice ao xs.length cap ∧ ∀ k : Nat, k < xs.length → ∃ g cur, ao = some ⟨g, 0, none⟩ ∧ Blk W g 3 cur ∧ cur[k]? = some (I (xs.getD k 0)) := by
  obtain ⟨h1, h2⟩ := h
  rcases h2 with ⟨rfl, hn⟩ | ⟨g, cap, cur, rfl, hg, hh, hc, hc2, hs, ht⟩
  · exact ⟨none, 0, by rw [hn], fun k hk => by omega⟩
  · refine ⟨_, cap, rfl, fun k hk => ⟨g, cur, rfl, hh, ?_⟩⟩
    have := congrArg (fun l => l[k]?) ht
    simp only [Nat.mul_one, List.getElem?_take_of_lt hk, List.getElem?_map, Array.getElem?_toList] at this
    rw [this, List.getElem?_eq_getElem hk]
    simp [hk]

theorem info_int : (Tryz.prog.info? 3).map (fun i => (i.zero, i.size, i.bytes)) = some (some (.int .i64 0), 1, 8) := by kernel_rfl

/-- 'list = append(list, y)', the list a call's own. -/
theorem wpList_app {ops : Array Oper} {rest : List Oper} {o : Oper} {a : Act} {Q : Exit → Act → World → Prop} {W : World} {base : Nat} {v : Value} {xs : List Int} {y : Int} (hgd : o.guard = none) (s x : Operand)
    (ho : o.op = .call { callee := .builtin .append, args := #[s, x], argTypes := #[158, 158] }) (hs : a.eval s = v) (hx : a.eval x = .slice (some ⟨W.heap.size, 0, none⟩) 1 1)
    (hown : Lst W base v xs) (hl : xs.length ≤ 100000) (hb : base ≤ W.heap.size)
    (h : ∀ v' w', Lst w' base v' (xs ++ [y]) → Below base W w' → wpList Tryz.prog ops Q rest (a.put o.dst v') w') : wpList Tryz.prog ops Q (o :: rest) a (W.alloc (.cells #[.int .i64 y] 3)) := by
  obtain ⟨i0, hi, hz0, hz1, hz2⟩ := info_parts info_int
  refine wpList_append_own (w := W.alloc (.cells #[.int .i64 y] 3)) hgd s x 158 ho base 3 i0 (.int .i64 0) 1 8 Tryz.underlying158 hi hz0 hz1 hz2 rfl (by decide) v xs.length _ hs (hown.alloc _) ⟨W.heap.size, 0, none⟩ 1 1 [.int .i64 y] hx rfl ?_ ?_ ?_ ?_ ?_ ?_
  · intro j u hj
    match j, hj with
    | 0, hj => simp at hj; subst hj; simp [Addr.add]
  · intro u hu; simp at hu; subst hu; rfl
  · unfold maxLen; omega
  · omega
  · simp; omega
  · intro v' w1 hown' hgrow _
    refine h v' w1 ?_ ?_
    · unfold Lst
      rw [List.map_append, List.length_append]
      exact hown'
    · exact ((Below.refl base W).alloc hb _).grown hgrow (by simp; omega) (fun k hk => (hown.lt k hk).1)

/-- 'make([]int, 0, n)'. -/
theorem wpList_mk {ops : Array Oper} {rest : List Oper} {o : Oper} {a : Act} {Q : Exit → Act → World → Prop} {W : World} {base : Nat} (hgd : o.guard = none) (l c : Operand) (ho : o.op = Op.makeSlice 158 l c) (n : Int)
    (hl : a.eval l = .int .i64 0) (hc : a.eval c = .int .i64 n) (h0 : 0 ≤ n) (h1 : n ≤ 100000) (hb : base ≤ W.heap.size)
    (h : ∀ v' w', Lst w' base v' [] → Below base W w' → wpList Tryz.prog ops Q rest (a.put o.dst v') w') : wpList Tryz.prog ops Q (o :: rest) a W := by
  obtain ⟨i0, hi, hz0, hz1, hz2⟩ := info_parts info_int
  refine wpList_make_own W hgd l c 158 ho base 3 i0 (.int .i64 0) 1 Tryz.underlying158 hi hz0 hz1 .i64 .i64 n n.toNat hl hc (by omega) (by rw [hz2]; omega) (by unfold maxLen; omega) hb ?_
  intro w' h1 h2
  exact h _ w' h1 ((Below.refl base W).grown h2 hb (fun k hk => by cases hk))

end Go.Proofs.YtlahfffgmfjpaaaGreatDoor
