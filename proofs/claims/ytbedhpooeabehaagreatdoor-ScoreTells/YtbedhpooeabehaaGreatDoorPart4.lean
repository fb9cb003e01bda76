/-
  A statement whose order the language leaves open: where all but its last operations only look, and its callees leave what lay before as it lay, one walk in the order of the text serves every order; in a function's own frame and in a round of a range over a function.
-/
import Derived.Test.YtbedhpooeabehaaGreatDoorPart1
import Derived.StillTail
import Derived.OrdersIn
import Derived.BigQuiet
import Derived.Test.YtbedhpooeabehaaGreatDoorProg
import Derived.OwnWalk
import Derived.Laws.BitsAllLaws
import Derived.Laws.ShiftsVarLaws
namespace Go.Proofs.YtbedhpooeabehaaGreatDoor
open Go Go.RowKit Go.Shelf

/-- The worlds that leave all that lay in w as it lay. -/
structure Ext (w : World) : Type where
  wd : World
  le : Below w.heap.size w wd
theorem ext_const (w : World) (p : Prop) : (∀ _ : Ext w, p) ↔ p := ⟨fun h => h ⟨w, Below.refl _ _⟩, fun h _ => h⟩
theorem Ext.cell {w : World} {B : Nat} {t : TypeId} {vs : Array Value} (h : Blk w B t vs) (i : Nat) (x : Ext w) : x.wd.cell? ⟨B, i, none⟩ = vs[i]? := (h.later x.le).cell i
theorem Ext.frozen {w : World} {B : Nat} {t : TypeId} {vs : Array Value} (h : Blk w B t vs) (i : Nat) (x : Ext w) : x.wd.frozen? ⟨B, i, none⟩ = false := (h.later x.le).frozen i

theorem keeps_below {W W' : World} (h : Below W.heap.size W W') : KeepsOthers W W' :=
  ⟨h.size, fun k _ hk _ => (h.block k (Array.getElem?_eq_some_iff.1 hk).1).trans hk⟩
theorem below_ext {w W : World} (hB : Below w.heap.size w W) (x : Ext W) : Below w.heap.size w x.wd := hB.trans (x.le.mono hB.size)

theorem calls_ext {P : Program} {f : FuncId} {args : Array Value} {w : World} {x : Ext w} {v : Value}
    (h : Calls P f args x.wd fun e w' => e = .returned v ∧ Below x.wd.heap.size x.wd w') : Calls P f args x.wd fun e w'' => e = .returned v ∧ ∃ y : Ext w, w'' = y.wd :=
  h.mono fun _ w' ⟨he, hb⟩ => ⟨he, ⟨⟨w', x.le.trans (hb.mono x.le.size)⟩, rfl⟩⟩
theorem calls_ext_same {P : Program} {f : FuncId} {args : Array Value} {w : World} {x : Ext w} {v : Value}
    (h : Calls P f args x.wd fun e w' => e = .returned v ∧ w' = x.wd) : Calls P f args x.wd fun e w'' => e = .returned v ∧ ∃ y : Ext w, w'' = y.wd :=
  h.mono fun _ _ ⟨he, hb⟩ => ⟨he, x, hb⟩

section
variable {F : Fence} {n : Nat} {P : Program} {ops : Array Oper} {md : Region.Mode} {C : World → Prop}

/-- A fence that asks nothing. -/
structure Loose (F : Fence) (P : Program) : Prop where
  fn : ∀ f, F.fn f
  depth : F.depth.isSome = true → False
  calls : ∀ (m : Nat) (f : FuncId) (args : Array Value) (w : World) (R : Ending → World → Prop), Calls P f args w R → CallsIn F m P f args w R

theorem loose_wide (P : Program) : Loose Fence.wide P := ⟨fun _ => trivial, fun h => (by cases h), fun _ _ _ _ _ h => callsIn_wide.2 h⟩
theorem loose_round (P : Program) (l : Nat) : Loose (Fence.wide.inRound l) P := ⟨fun _ => trivial, fun h => (by cases h), fun _ _ _ _ _ h => CallsIn.inRound l (callsIn_wide.2 h)⟩

def noDefer (ops : Array Oper) : Bool := ops.toList.all fun o => match o.op with | .defer _ => false | _ => true
theorem noDefer_spec {ops : Array Oper} (h : noDefer ops = true) {i : Nat} {o : Oper} (hi : ops[i]? = some o) : ∀ c, o.op ≠ .defer c := by
  intro c hc
  have h1 := List.all_eq_true.1 h o (by
    obtain ⟨hlt, he⟩ := Array.getElem?_eq_some_iff.1 hi
    rw [← he]; exact Array.getElem_mem_toList hlt)
  rw [hc] at h1
  cases h1

/-- What an operation that only looks can have come to. -/
theorem quiet_came {o : Oper} {a : Act} {w : World} {v : Value} (h : o.quietAt P a C w v) :
    (execOp a.eval o).run P w = .ok (.value v) w ∨ ((execOp a.eval o).run P w = .ok .skip w ∧ v = undef) ∨
    ∃ f args, (execOp a.eval o).run P w = .ok (.enter f args) w ∧ Calls P f args w (fun e w'' => e = .returned v ∧ C w'') := by
  unfold Oper.quietAt at h
  generalize (execOp a.eval o).run P w = r at h ⊢
  match r, h with
  | .ok (.value _) _, h => exact .inl (by rw [h.1, h.2])
  | .ok .skip _, h => exact .inr (.inl ⟨by rw [h.1], h.2⟩)
  | .ok (.enter f args) _, h => exact .inr (.inr ⟨f, args, by rw [h.1], h.2⟩)

/-- An operation of a greater region, walked as one of its beginning. -/
theorem look_in {opsH : Array Oper} (hF : Loose F P) (hd : noDefer ops = true) {i : Nat} {o : Oper} (ho : ops[i]? = some o) (hoH : opsH[i]? = some o) {a : Act}
    (hw : Region.wanted o (yielded ops a.tmps) = Region.wanted o (yielded opsH a.tmps)) {K : Act → Prop} {K' : Act → World → Prop} {Q : Exit → Act → World → Prop} {w : World} (hC : C w)
    (hK : ∀ a w', C w' → K a → K' a w') (h : qOp P opsH C i K a) : wpOpIn F n P ops Q i K' a w := by
  have hfn : ∀ f, o.about P w a.eval = some f → F.fn f := fun f _ => hF.fn f
  simp only [qOp, hoH] at h
  simp only [wpOpIn, ho, hw]
  by_cases hy : Region.wanted o (yielded opsH a.tmps) = true
  · rw [if_pos hy] at h ⊢
    obtain ⟨v, hv, hk⟩ := h
    refine ⟨hfn, ?_⟩
    rw [Oper.semAt_eq _ _ _ (noDefer_spec hd ho)]
    rcases quiet_came (hv w hC) with e | ⟨e, rfl⟩ | ⟨f, args, e, hc⟩
    · rw [e]; exact hK _ _ hC hk
    · rw [e]; exact hK _ _ hC hk
    · rw [e]
      refine ⟨fun hx => (hF.depth hx).elim, hF.calls _ _ _ _ _ (hc.mono ?_)⟩
      rintro x w' ⟨rfl, hC'⟩
      exact hK _ _ hC' hk
  · rw [if_neg hy] at h ⊢
    exact ⟨hfn, hK _ _ hC h⟩

/-- The beginning of a region, of m operations: each waits for such as stand ahead of it alone, and all the others wait for each of it. -/
def waits (o : Oper) (i : Nat) : Bool := o.after.any fun e => Region.binds .any e && e.on == i
def backOnly (o : Oper) (i : Nat) : Bool := (o.after.all fun e => !Region.binds .any e || decide (e.on < i)) && (match o.guard with | some (j, _) => decide (j < i) | none => true)
def beginB (l : List Oper) (m : Nat) : Bool :=
  decide (m ≤ l.length) && ((List.range l.length).all fun t => match l[t]? with
    | some o => if t < m then backOnly o t else (List.range m).all fun i => waits o i
    | none => true)

theorem begin_head {l : List Oper} {m i : Nat} {o : Oper} (h : beginB l m = true) (hi : i < m) (ho : l[i]? = some o) :
    (∀ e ∈ o.after, Region.binds .any e = true → e.on < i) ∧ ∀ j b, o.guard = some (j, b) → j < i := by
  have hlt : i < l.length := (List.getElem?_eq_some_iff.1 ho).1
  have h1 := List.all_eq_true.1 (Bool.and_eq_true_iff.1 h).2 i (List.mem_range.2 hlt)
  rw [ho] at h1
  simp only [hi, if_true, backOnly, Bool.and_eq_true] at h1
  constructor
  · intro e he hb
    have := Array.all_eq_true'.1 h1.1 e he
    simpa [hb] using this
  · intro j b hg
    have := h1.2
    rw [hg] at this
    simpa using this
theorem begin_tail {l : List Oper} {m t i : Nat} {o : Oper} (h : beginB l m = true) (ht : m ≤ t) (ho : l[t]? = some o) (hi : i < m) : ∃ e ∈ o.after, Region.binds .any e = true ∧ e.on = i := by
  have hlt : t < l.length := (List.getElem?_eq_some_iff.1 ho).1
  have h1 := List.all_eq_true.1 (Bool.and_eq_true_iff.1 h).2 t (List.mem_range.2 hlt)
  rw [ho] at h1
  simp only [if_neg (Nat.not_lt.2 ht)] at h1
  have h2 := List.all_eq_true.1 h1 i (List.mem_range.2 hi)
  obtain ⟨e, he, hb⟩ := Array.any_eq_true'.1 h2
  simp only [Bool.and_eq_true, beq_iff_eq] at hb
  exact ⟨e, he, hb.1, hb.2⟩

/-- What is listed: of the beginning as LH says, of the rest nothing. -/
def both (LH : Array Bool) (g : Nat) : Array Bool := LH ++ Array.replicate g false
theorem both_lt {LH : Array Bool} {g i : Nat} (h : i < LH.size) (b : Bool) : (both LH g).getD i b = LH.getD i b := by
  simp [both, Array.getD, h, Array.getElem_append_left h, show i < LH.size + g by omega]
theorem both_set {LH : Array Bool} {g i : Nat} (h : i < LH.size) : (both LH g).setIfInBounds i true = both (LH.setIfInBounds i true) g := by
  simp [both, Array.setIfInBounds_append_left h]

variable {l : List Oper} {m : Nat}

theorem ready_head (hB : beginB l m = true) {LH : Array Bool} (hs : LH.size = m) (g i : Nat) (hi : i < m) : i ∈ Region.ready .any l.toArray (both LH g) ↔ i ∈ Region.ready .any (l.take m).toArray LH := by
  have hsame : (l.take m).toArray[i]? = l.toArray[i]? := by simp [hi]
  rw [mem_ready, mem_ready, both_lt (by omega), hsame]
  refine and_congr_right fun _ => exists_congr fun o => and_congr_right fun ho => ?_
  have hback := (begin_head hB hi (by simpa using ho)).1
  exact forall_congr' fun e => forall_congr' fun he => forall_congr' fun hb => by rw [both_lt (by have := hback e he hb; omega)]

/-- If nothing of the beginning may come up, all of it has. -/
theorem full_of_none (hB : beginB l m = true) {LH : Array Bool} (hs : LH.size = m) (h : Region.ready .any (l.take m).toArray LH = []) : LH = Array.replicate m true := by
  have hml : m ≤ l.length := by simpa using (Bool.and_eq_true_iff.1 hB).1
  have key : ∀ i, i < m → LH.getD i false = true := by
    intro i
    induction i using Nat.strongRecOn with
    | _ i ih =>
      intro hi
      cases hv : LH.getD i false with
      | true => rfl
      | false =>
        have hil : i < l.length := by omega
        have hmem : i ∈ Region.ready .any (l.take m).toArray LH := by
          rw [mem_ready]
          refine ⟨getD_in (by omega) hv, l[i], by simp [hi, hil], fun e he hb => ?_⟩
          have hlt := (begin_head hB hi (List.getElem?_eq_getElem hil)).1 e he hb
          exact ih e.on hlt (by omega)
        rw [h] at hmem
        cases hmem
  refine Array.ext (by simpa using hs) fun i h1 h2 => ?_
  have := key i (by omega)
  simpa [Array.getD, h1] using this

/-- Whatever order the beginning takes, the rest stands as behind the order of the text. -/
theorem any_begun (hF : Loose F P) (hd : noDefer l.toArray = true) (hB : beginB l m = true) {Q : Exit → Act → World → Prop} {L : Act → Prop} (g : Nat)
    (hrest : ∀ (k : Nat) (a : Act) (w : World), C w → L a → g ≤ k → wpAnyIn F n P .any l.toArray Q k (both (Array.replicate m true) g) a w) :
    ∀ (f : Nat) (LH : Array Bool) (a : Act) (w : World), LH.size = m → C w → wpAnyQ P .any (l.take m).toArray C L f LH a → wpAnyIn F n P .any l.toArray Q (f + g) (both LH g) a w := by
  have hml : m ≤ l.length := by simpa using (Bool.and_eq_true_iff.1 hB).1
  intro f
  induction f with
  | zero =>
    intro LH a w hs hC h
    rw [full_of_none hB hs h.1]
    exact hrest _ a w hC h.2 (by omega)
  | succ f ih =>
    intro LH a w hs hC h
    by_cases hnone : Region.ready .any (l.take m).toArray LH = []
    · rw [full_of_none hB hs hnone]
      exact hrest _ a w hC (h.1 hnone) (by omega)
    · obtain ⟨i0, hi0⟩ := List.exists_mem_of_ne_nil _ hnone
      obtain ⟨hun, o0, ho0, _⟩ := mem_ready.1 hi0
      have hlt0 : i0 < m := by
        have := (Array.getElem?_eq_some_iff.1 ho0).1
        simp at this; omega
      rw [show f + 1 + g = (f + g) + 1 by omega]
      refine ⟨fun hx => ?_, fun i hi => ?_⟩
      · have := (ready_head hB hs g i0 hlt0).2 hi0
        rw [hx] at this; cases this
      · obtain ⟨_, o, ho, hall⟩ := mem_ready.1 hi
        have hol : l[i]? = some o := by simpa using ho
        have him : i < m := by
          rcases Nat.lt_or_ge i m with hx | hx
          · exact hx
          · obtain ⟨e, he, hb, hon⟩ := begin_tail hB hx hol hlt0
            have h1 := hall e he hb
            rw [hon, both_lt (by omega), getD_both hun] at h1
            cases h1
        have hiH := (ready_head hB hs g i him).1 hi
        have hoH : (l.take m).toArray[i]? = some o := by simpa [him] using hol
        refine look_in hF hd ho hoH ?_ hC (fun a' w' hC' h' => ?_) (h.2 i hiH)
        · unfold Region.wanted
          cases hgd : o.guard with
          | none => rfl
          | some jb =>
            have hj := (begin_head hB him hol).2 jb.1 jb.2 hgd
            have : yielded l.toArray a.tmps jb.1 = yielded (l.take m).toArray a.tmps jb.1 := by
              unfold yielded
              rw [show (l.take m).toArray[jb.1]? = l.toArray[jb.1]? by simp [show jb.1 < m by omega]]
            simp only [this]
        · rw [both_set (by omega)]
          exact ih _ a' w' (by simpa using hs) hC' h'

/-- Operations of which each is the only one that may come up. -/
theorem any_forced {Q : Exit → Act → World → Prop} : ∀ (r : List Oper) (k : Nat) (listed : Array Bool) (fuel : Nat) (a : Act) (w : World), (∀ j, r[j]? = l.toArray[k + j]?) →
    Region.seqB .any l.toArray r.length k listed = true → r.length ≤ fuel → wpListIn F n P l.toArray Q r a w → wpAnyIn F n P .any l.toArray Q fuel listed a w
  | [], k, listed, fuel, a, w, _, hq, _, h => by
    have he : Region.ready .any l.toArray listed = [] := by simpa [Region.seqB] using hq
    cases fuel with
    | zero => exact ⟨he, h⟩
    | succ f => exact ⟨fun _ => h, fun i hi => by rw [he] at hi; cases hi⟩
  | o :: r, k, listed, 0, a, w, _, _, hf, _ => by simp at hf
  | o :: r, k, listed, fuel + 1, a, w, hr, hq, hf, h => by
    have hk : l.toArray[k]? = some o := by rw [← Nat.add_zero k, ← hr 0]; rfl
    obtain ⟨hone, hq'⟩ := Bool.and_eq_true_iff.1 hq
    have hone : Region.ready .any l.toArray listed = [k] := of_decide_eq_true hone
    refine ⟨fun hx => (by rw [hone] at hx; cases hx), fun i hi => ?_⟩
    rw [hone, List.mem_singleton] at hi
    subst hi
    have hop : wpOpIn F n P l.toArray Q i (wpListIn F n P l.toArray Q r) a w := by simp only [wpOpIn, hk]; exact h
    refine wpOpIn_mono (fun a' w' h' => any_forced r (i + 1) _ fuel a' w' (fun j => ?_) hq' (by simpa using hf) h') hop
    have := hr (j + 1)
    rw [show i + 1 + j = i + (j + 1) by omega]
    simpa using this

def tailB (l : List Oper) (m : Nat) : Bool := noDefer l.toArray && beginB l m && Region.lexB .any (l.take m).toArray && Region.seqB .any l.toArray (l.length - m) m (both (Array.replicate m true) (l.length - m))

/-- All but the operations from number m on only look; those come last, in the order of the text. -/
theorem wpIn_region_tail {id : Nat} {Q : Exit → Act → World → Prop} {a : Act} {w : World} {l : List Oper} (m : Nat) (hF : Loose F P) (hm : P.follows .mixedOrders = true) (hB : tailB l m = true)
    (h : wpQuiet P (l.take m).toArray (fun w' => ∃ x : Ext w, w' = x.wd) (fun a' => ∀ x : Ext w, wpListIn F n P l.toArray Q (l.drop m) a' x.wd) (l.take m) a) : (Code.region id l.toArray true).wpIn F n P Q a w := by
  obtain ⟨h123, hseq⟩ := Bool.and_eq_true_iff.1 hB
  obtain ⟨h12, hlex⟩ := Bool.and_eq_true_iff.1 h123
  obtain ⟨hd, hbeg⟩ := Bool.and_eq_true_iff.1 h12
  obtain ⟨hsel, hlf⟩ := Bool.and_eq_true_iff.1 hlex
  have hml : m ≤ l.length := by simpa using (Bool.and_eq_true_iff.1 hbeg).1
  have hlen : (l.take m).length = m := by simp [hml]
  have hq := wpAnyQ_lex (C := fun w' => ∃ x : Ext w, w' = x.wd) (md := .any) hsel (l.take m) 0 (Array.replicate (l.take m).toArray.size false) a (by simp) (by simpa using hlf) h
  rw [hlen] at hq
  refine wpIn_region_any hm ?_
  have hsz : (Array.replicate l.toArray.size false : Array Bool) = both (Array.replicate m false) (l.length - m) := by
    refine Array.ext (by simp [both]; omega) fun i h1 h2 => ?_
    simp [both]
  rw [hsz, show l.toArray.size = m + (l.length - m) by simp; omega]
  refine any_begun (C := fun w' => ∃ x : Ext w, w' = x.wd) hF hd hbeg (l.length - m) ?_ m _ a _ (by simp) ⟨⟨_, (Below.refl w.heap.size w).drew⟩, rfl⟩ (by simpa [hlen] using hq)
  rintro k a' w' ⟨x, rfl⟩ hL hk
  exact any_forced (l.drop m) m _ k a' x.wd (fun j => by simp) (by simpa using hseq) (by simpa using hk) (hL x)

def lookB (l : List Oper) : Bool := tailB l l.length

/-- All operations only look. -/
theorem wpIn_region_look {id : Nat} {Q : Exit → Act → World → Prop} {a : Act} {w : World} {l : List Oper} (hF : Loose F P) (hm : P.follows .mixedOrders = true) (hB : lookB l = true)
    (h : wpQuiet P l.toArray (fun w' => ∃ x : Ext w, w' = x.wd) (fun a' => ∀ x : Ext w, Q .normal a' x.wd) l a) : (Code.region id l.toArray true).wpIn F n P Q a w := by
  refine wpIn_region_tail l.length hF hm hB ?_
  rw [List.take_length, List.drop_length]
  exact h

/-- In a function's own frame, without a fence. -/
theorem wp_region_tail {id : Nat} {Q : Exit → Act → World → Prop} {a : Act} {w : World} {l : List Oper} (m : Nat) (hm : P.follows .mixedOrders = true) (hB : tailB l m = true)
    (h : wpQuiet P (l.take m).toArray (fun w' => ∃ x : Ext w, w' = x.wd) (fun a' => ∀ x : Ext w, wpListIn Fence.wide 0 P l.toArray Q (l.drop m) a' x.wd) (l.take m) a) : (Code.region id l.toArray true).wp P Q a w :=
  wpIn_wide.1 (wpIn_region_tail m (loose_wide P) hm hB h)
theorem wp_region_look {id : Nat} {Q : Exit → Act → World → Prop} {a : Act} {w : World} {l : List Oper} (hm : P.follows .mixedOrders = true) (hB : lookB l = true)
    (h : wpQuiet P l.toArray (fun w' => ∃ x : Ext w, w' = x.wd) (fun a' => ∀ x : Ext w, Q .normal a' x.wd) l a) : (Code.region id l.toArray true).wp P Q a w :=
  wpIn_wide.1 (wpIn_region_look (n := 0) (loose_wide P) hm hB h)

end
end Go.Proofs.YtbedhpooeabehaaGreatDoor

/-
  Sets of numbers, 64 to a word, as plain arithmetic: which numbers a row of words has, and that they tell it.
-/
namespace Go.Proofs.YtbedhpooeabehaaGreatDoor

/-- The number k is in the set of these words. -/
def hasW (ws : List Nat) (k : Nat) : Bool := (ws.getD (k / 64) 0).testBit (k % 64)
/-- A set below n may be: as many words as are needed, each a word, no bit at n or beyond. -/
structure MayW (n : Nat) (ws : List Nat) : Prop where
  len : ws.length = (n + 63) / 64
  word : ∀ w ∈ ws, w < 2 ^ 64
  none : ∀ k, n ≤ k → hasW ws k = false

theorem hasW_at (ws : List Nat) (i j : Nat) (hj : j < 64) : hasW ws (64 * i + j) = (ws.getD i 0).testBit j := by
  unfold hasW
  rw [show (64 * i + j) / 64 = i by omega, show (64 * i + j) % 64 = j by omega]
theorem word_ext {a b : Nat} (ha : a < 2 ^ 64) (hb : b < 2 ^ 64) (h : ∀ j, j < 64 → a.testBit j = b.testBit j) : a = b := by
  apply Nat.eq_of_testBit_eq
  intro j
  by_cases hj : j < 64
  · exact h j hj
  · rw [Nat.testBit_lt_two_pow (Nat.lt_of_lt_of_le ha (Nat.pow_le_pow_right (by omega) (by omega))), Nat.testBit_lt_two_pow (Nat.lt_of_lt_of_le hb (Nat.pow_le_pow_right (by omega) (by omega)))]
/-- A set is told by its numbers. -/
theorem set_ext {n : Nat} {a b : List Nat} (ha : MayW n a) (hb : MayW n b) (h : ∀ k, k < n → hasW a k = hasW b k) : a = b := by
  apply List.ext_getElem
  · rw [ha.len, hb.len]
  · intro i h1 h2
    refine word_ext (ha.word _ (List.getElem_mem h1)) (hb.word _ (List.getElem_mem h2)) fun j hj => ?_
    have e : hasW a (64 * i + j) = hasW b (64 * i + j) := by
      by_cases hk : 64 * i + j < n
      · exact h _ hk
      · rw [ha.none _ (by omega), hb.none _ (by omega)]
    rw [hasW_at _ _ _ hj, hasW_at _ _ _ hj] at e
    simpa [h1, h2] using e

/-- The numbers of a set below k, rising. -/
def listTo (ws : List Nat) (k : Nat) : List Nat := (List.range k).filter fun m => hasW ws m
theorem listTo_mem {ws : List Nat} {k m : Nat} : m ∈ listTo ws k ↔ m < k ∧ hasW ws m = true := by simp [listTo, List.mem_filter, List.mem_range]
theorem listTo_yes {ws : List Nat} {k : Nat} (h : hasW ws k = true) : listTo ws (k + 1) = listTo ws k ++ [k] := by simp [listTo, List.range_succ, List.filter_append, h]
theorem listTo_no {ws : List Nat} {k : Nat} (h : hasW ws k = false) : listTo ws (k + 1) = listTo ws k := by simp [listTo, List.range_succ, List.filter_append, h]
theorem listTo_rise (ws : List Nat) (k : Nat) : (listTo ws k).Pairwise (· < ·) := List.Pairwise.filter _ List.pairwise_lt_range
theorem listTo_len (ws : List Nat) (k : Nat) : (listTo ws k).length ≤ k := by
  have := List.length_filter_le (fun m => hasW ws m) (List.range k)
  simpa [listTo] using this
/-- Beyond the bound there is nothing to list. -/
theorem listTo_past {n : Nat} {ws : List Nat} (h : MayW n ws) : ∀ j, listTo ws (n + j) = listTo ws n
  | 0 => rfl
  | j + 1 => by rw [← Nat.add_assoc, listTo_no (h.none _ (by omega)), listTo_past h j]
/-- What is in both and what is in either are together as many as both have. -/
theorem count_both {a b x y : List Nat} (hx : ∀ k, hasW x k = (hasW a k && hasW b k)) (hy : ∀ k, hasW y k = (hasW a k || hasW b k)) : ∀ k, (listTo x k).length + (listTo y k).length = (listTo a k).length + (listTo b k).length
  | 0 => rfl
  | k + 1 => by
    have ih := count_both hx hy k
    have h1 := hx k
    have h2 := hy k
    cases ha : hasW a k <;> cases hb : hasW b k <;> rw [ha, hb] at h1 h2 <;> simp only [Bool.and_self, Bool.or_self, Bool.and_true, Bool.and_false, Bool.or_true, Bool.or_false] at h1 h2 <;>
      simp only [listTo, List.range_succ, List.filter_append, List.length_append, List.filter_cons, List.filter_nil, h1, h2, ha, hb] at ih ⊢ <;> simp <;> omega

/-- Words joined bit by bit. -/
theorem hasW_zip {f : Nat → Nat → Nat} {g : Bool → Bool → Bool} (hf : ∀ x y j, j < 64 → (f x y).testBit j = g (x.testBit j) (y.testBit j)) (h0 : g false false = false) {a b : List Nat} (hl : a.length = b.length) (k : Nat) : hasW (List.zipWith f a b) k = g (hasW a k) (hasW b k) := by
  unfold hasW
  simp only [List.getD_eq_getElem?_getD, List.getElem?_zipWith]
  by_cases hi : k / 64 < a.length
  · have hi' : k / 64 < b.length := by omega
    rw [List.getElem?_eq_getElem hi, List.getElem?_eq_getElem hi']
    exact hf _ _ _ (Nat.mod_lt k (by omega))
  · rw [List.getElem?_eq_none (Nat.not_lt.1 hi), List.getElem?_eq_none (by omega : b.length ≤ k / 64)]
    simp [h0]

end Go.Proofs.YtbedhpooeabehaaGreatDoor

/-
  Rows of words and of whole numbers, wherever in memory they lie: what a walk asks of a slice that it reads.
-/
namespace Go.Proofs.YtbedhpooeabehaaGreatDoor
open Go Go.RowKit Go.Shelf

abbrev U (x : Nat) : Value := .int .u64 (x : Int)

/-- The slice v reads as the values vs. -/
def Sl (W : World) (v : Value) (vs : List Value) : Prop :=
  ∃ ao cap, v = .slice ao vs.length cap ∧ ∀ k, k < vs.length → ∃ g off, ao = some ⟨g, off, none⟩ ∧ g < W.heap.size ∧ W.cell? ⟨g, off + k, none⟩ = vs[k]?
theorem Sl.later {W W' : World} {v : Value} {vs : List Value} (h : Sl W v vs) (hb : Below W.heap.size W W') : Sl W' v vs := by
  obtain ⟨ao, cap, e, h⟩ := h
  refine ⟨ao, cap, e, fun k hk => ?_⟩
  obtain ⟨g, off, e, hg, hc⟩ := h k hk
  exact ⟨g, off, e, Nat.lt_of_lt_of_le hg hb.size, (hb.cell (p := ⟨g, off + k, none⟩) hg).trans hc⟩
theorem Sl.nil (W : World) : Sl W (.slice none 0 0) [] := ⟨none, 0, rfl, fun k hk => by simp at hk⟩
theorem Sl.blk {W : World} {g : Nat} {t : TypeId} {vs : List Value} (h : Blk W g t vs.toArray) (cap : Nat) : Sl W (.slice (some ⟨g, 0, none⟩) vs.length cap) vs :=
  ⟨_, _, rfl, fun k hk => ⟨g, 0, rfl, h.lt, by rw [Nat.zero_add, h.cell k]; simp⟩⟩

/-- A row of words; a row of whole numbers. -/
def Wds (W : World) (v : Value) (ws : List Nat) : Prop := (∀ x ∈ ws, x < 18446744073709551616) ∧ Sl W v (ws.map U)
def Its (W : World) (v : Value) (xs : List Int) : Prop := Sl W v (xs.map I)
theorem Wds.later {W W' : World} {v : Value} {ws : List Nat} (h : Wds W v ws) (hb : Below W.heap.size W W') : Wds W' v ws := ⟨h.1, h.2.later hb⟩
theorem Its.later {W W' : World} {v : Value} {xs : List Int} (h : Its W v xs) (hb : Below W.heap.size W W') : Its W' v xs := Sl.later h hb
theorem Wds.nil (W : World) : Wds W (.slice none 0 0) [] := ⟨fun _ h => (by cases h), Sl.nil W⟩
theorem Its.nil (W : World) : Its W (.slice none 0 0) [] := Sl.nil W
theorem Wds.view {W : World} {v : Value} {ws : List Nat} (h : Wds W v ws) :
    ∃ ao cap, v = .slice ao ws.length cap ∧ ∀ k, k < ws.length → ∃ g off, ao = some ⟨g, off, none⟩ ∧ g < W.heap.size ∧ W.cell? ⟨g, off + k, none⟩ = some (U (ws.getD k 0)) := by
  obtain ⟨_, ao, cap, e, h⟩ := h
  refine ⟨ao, cap, by simpa using e, fun k hk => ?_⟩
  obtain ⟨g, off, e, hg, hc⟩ := h k (by simpa using hk)
  exact ⟨g, off, e, hg, by rw [hc]; simp [hk]⟩
theorem Its.view {W : World} {v : Value} {xs : List Int} (h : Its W v xs) :
    ∃ ao cap, v = .slice ao xs.length cap ∧ ∀ k, k < xs.length → ∃ g off, ao = some ⟨g, off, none⟩ ∧ g < W.heap.size ∧ W.cell? ⟨g, off + k, none⟩ = some (I (xs.getD k 0)) := by
  obtain ⟨ao, cap, e, h⟩ := h
  refine ⟨ao, cap, by simpa using e, fun k hk => ?_⟩
  obtain ⟨g, off, e, hg, hc⟩ := h k (by simpa using hk)
  exact ⟨g, off, e, hg, by rw [hc]; simp [hk]⟩
theorem Wds.word {W : World} {v : Value} {ws : List Nat} (h : Wds W v ws) (k : Nat) : ws.getD k 0 < 18446744073709551616 := by
  by_cases hk : k < ws.length
  · have := h.1 (ws[k]) (List.getElem_mem hk)
    simpa [hk] using this
  · simp [Nat.not_lt.1 hk]

/-- One bit of a word, as the program asks for it. -/
theorem bit_of (x j : Nat) (hx : x < 18446744073709551616) : (bits .and .u64 ((x : Int) / 2 ^ j) 1 == 1) = x.testBit j := by
  have e : (x : Int) / 2 ^ j = ((x / 2 ^ j : Nat) : Int) := by norm_cast
  rw [e, show (1 : Int) = ((1 : Nat) : Int) from rfl, u64_and_nat _ _ (Nat.lt_of_le_of_lt (Nat.div_le_self _ _) hx) (by decide), Nat.and_one_is_mod]
  rw [Nat.testBit_eq_decide_div_mod_eq]
  have : x / 2 ^ j % 2 = 0 ∨ x / 2 ^ j % 2 = 1 := by omega
  rcases this with h | h <;> rw [h] <;> rfl

theorem hasW_out {ws : List Nat} {k : Nat} (h : ws.length ≤ k / 64) : hasW ws k = false := by
  unfold hasW
  simp [h]
theorem hasW_past {ws : List Nat} {k : Nat} (h : 64 * ws.length ≤ k) : hasW ws k = false := hasW_out (by omega)

/-- A set below n may be. -/
def maySet (n : Nat) (ws : List Nat) : Bool := decide (ws.length = (n + 63) / 64) && (List.range (64 * ws.length)).all fun k => decide (k < n) || !hasW ws k
theorem mayS_iff {n : Nat} {ws : List Nat} : maySet n ws = true ↔ ws.length = (n + 63) / 64 ∧ ∀ k, n ≤ k → hasW ws k = false := by
  unfold maySet
  rw [Bool.and_eq_true, decide_eq_true_eq, List.all_eq_true]
  constructor
  · rintro ⟨h1, h2⟩
    refine ⟨h1, fun k hk => ?_⟩
    by_cases hl : k < 64 * ws.length
    · have := h2 k (List.mem_range.2 hl)
      simpa [Nat.not_lt.2 hk] using this
    · exact hasW_past (by omega)
  · rintro ⟨h1, h2⟩
    refine ⟨h1, fun k _ => ?_⟩
    by_cases hk : k < n
    · simp [hk]
    · simp [h2 k (by omega)]
theorem mayS_len {n : Nat} {ws : List Nat} (h : ws.length ≠ (n + 63) / 64) : maySet n ws = false := by simp [maySet, h]
theorem mayS_no {n k : Nat} {ws : List Nat} (hk : n ≤ k) (h : hasW ws k = true) : maySet n ws = false := by
  cases e : maySet n ws
  · rfl
  · rw [(mayS_iff.1 e).2 k hk] at h; cases h
theorem mayS_full {n : Nat} {ws : List Nat} (hl : ws.length = (n + 63) / 64) (h0 : n % 64 = 0) : maySet n ws = true :=
  mayS_iff.2 ⟨hl, fun k hk => hasW_past (by omega)⟩
theorem mayS_last {n : Nat} {ws : List Nat} (hx : ws.getD (ws.length - 1) 0 < 18446744073709551616) (hn : 1 ≤ n) (hl : ws.length = (n + 63) / 64) (h0 : n % 64 ≠ 0) : maySet n ws = ((ws.getD (ws.length - 1) 0 : Int) / 2 ^ (n % 64) == 0) := by
  have e : ((ws.getD (ws.length - 1) 0 : Nat) : Int) / 2 ^ (n % 64) = ((ws.getD (ws.length - 1) 0 / 2 ^ (n % 64) : Nat) : Int) := by norm_cast
  rw [e, Bool.eq_iff_iff, mayS_iff]
  simp only [beq_iff_eq]
  have hp : 0 < 2 ^ (n % 64) := Nat.two_pow_pos _
  constructor
  · rintro ⟨_, h⟩
    have : ws.getD (ws.length - 1) 0 < 2 ^ (n % 64) := by
      apply Nat.lt_pow_two_of_testBit
      intro i hi
      by_cases h64 : i < 64
      · have := h (64 * (ws.length - 1) + i) (by omega)
        rwa [hasW_at _ _ _ h64] at this
      · exact Nat.testBit_lt_two_pow (Nat.lt_of_lt_of_le hx (Nat.pow_le_pow_right (n := 2) (i := 64) (by omega) (by omega)))
    rw [Nat.div_eq_of_lt this]; rfl
  · intro h
    have h : ws.getD (ws.length - 1) 0 / 2 ^ (n % 64) = 0 := by exact_mod_cast h
    refine ⟨hl, fun k hk => ?_⟩
    by_cases hk2 : k < 64 * ws.length
    · have : k = 64 * (ws.length - 1) + k % 64 := by omega
      rw [this, hasW_at _ _ _ (Nat.mod_lt k (by omega))]
      have hlt : ws.getD (ws.length - 1) 0 < 2 ^ (n % 64) := by
        rcases Nat.div_eq_zero_iff.1 h with h' | h'
        · omega
        · exact h'
      exact Nat.testBit_lt_two_pow (Nat.lt_of_lt_of_le hlt (Nat.pow_le_pow_right (by omega) (by omega)))
    · exact hasW_past (by omega)

/-- The error of some sets below n. -/
def okN (n : Int) : Bool := decide (1 ≤ n ∧ n ≤ 12288)
def errAll (n : Int) (wss : List (List Nat)) : Int := if okN n then (if wss.all (maySet n.toNat) then 0 else 8) else 2
theorem errAll_bad {n : Int} (h : ¬ (1 ≤ n ∧ n ≤ 12288)) (wss : List (List Nat)) : errAll n wss = 2 := by simp [errAll, okN, h]
theorem errAll_not {n : Nat} {wss : List (List Nat)} (h : 1 ≤ n ∧ n ≤ 12288) {k : Nat} (hk : k < wss.length) (hm : maySet n (wss.getD k []) = false) : errAll n wss = 8 := by
  have e : okN (n : Int) = true := by simp [okN]; omega
  unfold errAll
  rw [if_pos e, if_neg]
  intro ha
  have := List.all_eq_true.1 ha (wss[k]) (List.getElem_mem hk)
  simp [hk] at hm
  simp [hm] at this
theorem errAll_ok {n : Nat} {wss : List (List Nat)} (h : 1 ≤ n ∧ n ≤ 12288) (hm : ∀ k, k < wss.length → maySet n (wss.getD k []) = true) : errAll n wss = 0 := by
  have e : okN (n : Int) = true := by simp [okN]; omega
  unfold errAll
  rw [if_pos e, if_pos]
  apply List.all_eq_true.2
  intro x hx
  obtain ⟨k, hk, rfl⟩ := List.mem_iff_getElem.1 hx
  have := hm k hk
  simpa [hk] using this

end Go.Proofs.YtbedhpooeabehaaGreatDoor

/-
  The calls of set, and of the document's answer, that only look: whether a number is in a set, whether a set may be.
-/
namespace Go.Proofs.YtbedhpooeabehaaGreatDoor
open Go Go.RowKit Go.Shelf

set_option maxRecDepth 100000 in
set_option maxHeartbeats 2000000 in
theorem there_calls {v : Value} {ws : List Nat} (w : World) (h : Wds w v ws) (k : Nat) (hk : k ≤ 9223372036854775807) :
    Calls Tryz.prog 29 #[v, I k] w fun e W' => e = .returned (.bool (hasW ws k)) ∧ W' = w := by
  obtain ⟨ao, cap, rfl, hv⟩ := h.view
  have hw := h.word (k / 64)
  by_cases hlt : k / 64 < ws.length
  · obtain ⟨g, off, rfl, hg, hc⟩ := hv _ hlt
    have hb := bit_of _ (k % 64) hw
    have e : hasW ws k = (ws.getD (k / 64) 0).testBit (k % 64) := rfl
    rw [e, ← hb]
    clear hb e hv h
    generalize ws.getD (k / 64) 0 = x at *
    go_enter Tryz.func29, Tryz.ntmps29
    go_wp2
    go_ret
    exact ⟨rfl, rfl⟩
  · rw [hasW_out (Nat.not_lt.1 hlt)]
    clear hv h hw
    have hlt' : ¬ ((k : Int) / 64 < ws.length) := by omega
    go_enter Tryz.func29, Tryz.ntmps29
    go_wp2
    go_ret
    exact ⟨rfl, rfl⟩

theorem there_neg {ao : Option Addr} {len cap : Nat} (w : World) (k : Int) (hk : k < 0) :
    Calls Tryz.prog 29 #[.slice ao len cap, I k] w fun e W' => e = .returned (.bool false) ∧ W' = w := by
  go_enter Tryz.func29, Tryz.ntmps29
  go_wp2
  go_ret
  exact ⟨rfl, rfl⟩

theorem words_calls (n : Nat) (w : World) (hn : n ≤ 12288) : Calls Tryz.prog 69 #[I n] w fun e W' => e = .returned (I ((n + 63) / 64 : Nat)) ∧ W' = w := by
  go_enter Tryz.func69, Tryz.ntmps69
  go_wp2
  go_ret
  exact ⟨by go_num, rfl⟩

set_option maxRecDepth 100000 in
set_option maxHeartbeats 2000000 in
theorem mayBe_calls {v : Value} {ws : List Nat} (w : World) (h : Wds w v ws) (n : Nat) (h1 : 1 ≤ n) (h2 : n ≤ 12288) :
    Calls Tryz.prog 52 #[I n, v] w fun e W' => e = .returned (.bool (maySet n ws)) ∧ W' = w := by
  obtain ⟨ao, cap, rfl, hv⟩ := h.view
  have hwc := fun w => words_calls n w h2
  by_cases hl : ws.length = (n + 63) / 64
  · by_cases h0 : n % 64 = 0
    · rw [mayS_full hl h0]
      rw [← hl] at hwc
      clear hv h hl
      generalize ws.length = l at *
      have h0' : (n : Int) % 64 = 0 := by omega
      go_enter Tryz.func52, Tryz.ntmps52
      go_wp2_with fail
      refine (hwc _).mono ?_
      rintro e w1 ⟨rfl, rfl⟩
      go_wp2
      go_ret
      exact ⟨rfl, rfl⟩
    · rw [mayS_last (h.word _) h1 hl h0]
      have h0' : ¬ ((n : Int) % 64 = 0) := by omega
      have hlt : ws.length - 1 < ws.length := by omega
      obtain ⟨g, off, rfl, hg, hc⟩ := hv _ hlt
      have hw := h.word (ws.length - 1)
      generalize ws.getD (ws.length - 1) 0 = x at *
      have hub : ws.length ≤ 200 := by omega
      rw [← hl] at hwc
      clear hv h hl
      generalize ws.length = l at *
      have hpos : 1 ≤ l := by omega
      go_enter Tryz.func52, Tryz.ntmps52
      go_wp2_with fail
      refine (hwc _).mono ?_
      rintro e w1 ⟨rfl, rfl⟩
      go_wp2
      go_ret
      refine ⟨?_, rfl⟩
      show Ending.returned (Value.bool (((n : Int) % 64 == 0) || _)) = _
      rw [show ((n : Int) % 64 == 0) = false from by simpa using h0']
      rfl
  · rw [mayS_len hl]
    clear hv h
    generalize (n + 63) / 64 = l at *
    have hl' : ¬ ((ws.length : Int) = (l : Int)) := by omega
    go_enter Tryz.func52, Tryz.ntmps52
    go_wp2_with fail
    refine (hwc _).mono ?_
    rintro e w1 ⟨rfl, rfl⟩
    go_wp2
    go_ret
    exact ⟨rfl, rfl⟩

set_option maxRecDepth 100000 in
set_option maxHeartbeats 2000000 in
theorem check_calls {v : Value} {vs : List Value} {wss : List (List Nat)} (w : World) (hv : Sl w v vs) (hl : vs.length = wss.length) (hs : vs.length ≤ 2) (hw : ∀ i, i < vs.length → Wds w (vs.getD i undef) (wss.getD i [])) (n : Int) :
    Calls Tryz.prog 33 #[I n, v] w fun e W' => e = .returned (I (errAll n wss)) ∧ W' = w := by
  obtain ⟨ao, cap, rfl, hv⟩ := hv
  by_cases hn : 1 ≤ n ∧ n ≤ 12288
  · obtain ⟨m, rfl⟩ : ∃ m : Nat, n = m := ⟨n.toNat, by omega⟩
    obtain ⟨h1, h2⟩ := hn
    have HV : Hid (∀ k, k < vs.length → ∃ g off, ao = some ⟨g, off, none⟩ ∧ g < w.heap.size ∧ w.cell? ⟨g, off + k, none⟩ = vs[k]?) := hv
    have HW : Hid (∀ i, i < vs.length → Wds w (vs.getD i undef) (wss.getD i [])) := hw
    obtain ⟨ans, hans⟩ : ∃ ans, ans = errAll m wss := ⟨_, rfl⟩
    rw [← hans]
    have HS : Hid (ans = errAll m wss) := hans
    clear hans hv hw
    go_enter Tryz.func33, Tryz.ntmps33
    go_wp2
    go_loopw [15] (fun i wr => ∃ k : Nat, k ≤ vs.length ∧ i = .int .i64 k ∧ Hid (∀ j, j < k → maySet m (wss.getD j []) = true) ∧ wr = w) (fun i _ => vs.length - (RowKit.intOf i).toNat)
    case atStart => exact ⟨0, by omega, rfl, fun j hj => by omega, rfl⟩
    case round =>
      obtain ⟨k, hk, rfl, HT, rfl⟩ := hrel
      by_cases hlt : (k : Int) < (vs.length : Int)
      · have hkx : k < vs.length := by omega
        obtain ⟨g, off, rfl, hg, hc⟩ := HV.out k hkx
        have hW := HW.out k hkx
        rw [show vs[k]? = some (vs.getD k undef) by simp [hkx]] at hc
        have HX : Hid (Wds wr (vs.getD k undef) (wss.getD k [])) := hW
        have H8 : Hid (maySet m (wss.getD k []) = false → ans = 8) := fun hm => by rw [HS.out]; exact errAll_not ⟨by omega, by omega⟩ (by omega) hm
        have H0 : Hid (maySet m (wss.getD k []) = true → ∀ j, j < k + 1 → maySet m (wss.getD j []) = true) := fun hm j hj => by
          rcases Nat.lt_succ_iff_lt_or_eq.1 hj with hj | rfl
          · exact HT.out j hj
          · exact hm
        clear hW
        obtain ⟨u, hu⟩ : ∃ u, u = vs.getD k undef := ⟨_, rfl⟩
        rw [← hu] at hc HX
        have hone : u.oneCell' = true := by
          obtain ⟨ao', cap', e, _⟩ := HX.out.view
          rw [e]; rfl
        clear hu
        go_wp2_with fail
        refine (mayBe_calls _ HX.out m (by omega) (by omega)).mono ?_
        rintro e w1 ⟨rfl, rfl⟩
        cases hm : maySet m (wss.getD k [])
        · have E := H8.out hm
          subst E
          go_wp2
          go_ret
          exact ⟨rfl, rfl⟩
        · go_wp2
          go_roundw
          case rel => exact ⟨k + 1, by omega, by go_num, H0.out hm, by trivial⟩
          case measure => simp [RowKit.intOf]; omega
      · have E : ans = 0 := by
          rw [HS.out]
          exact errAll_ok ⟨by omega, by omega⟩ (fun j hj => HT.out j (by omega))
        subst E
        go_wp2
        go_ret
        exact ⟨rfl, rfl⟩
  · rw [errAll_bad hn]
    clear hv hw
    by_cases h1 : 1 ≤ n
    · have h2 : ¬ n ≤ 12288 := fun h => hn ⟨h1, h⟩
      clear hn
      go_enter Tryz.func33, Tryz.ntmps33
      go_wp2
      go_ret
      exact ⟨rfl, rfl⟩
    · clear hn
      go_enter Tryz.func33, Tryz.ntmps33
      go_wp2
      go_ret
      exact ⟨rfl, rfl⟩

set_option maxRecDepth 100000 in
set_option maxHeartbeats 2000000 in
theorem may_calls {v : Value} {ws : List Nat} (w : World) (h : Wds w v ws) (n : Nat) (h1 : 1 ≤ n) (h2 : n ≤ 12288) :
    Calls Tryz.prog 26 #[I n, v] w fun e W' => e = .returned (.bool (maySet n ws)) ∧ W' = w := by
  have HW : Hid (Wds w v ws) := h
  obtain ⟨ao, cap, rfl, _⟩ := h.view
  obtain ⟨ans, hans⟩ : ∃ ans, ans = maySet n ws := ⟨_, rfl⟩
  rw [← hans]
  have HS : Hid (ans = maySet n ws) := hans
  clear hans h
  go_enter Tryz.func26, Tryz.ntmps26
  go_wp2
  go_loopw [5] (fun i wr => ∃ m : Nat, m ≤ (n + 63) / 64 ∧ i = .int .i64 m ∧ wr = w) (fun i _ => (n + 63) / 64 - (RowKit.intOf i).toNat)
  case atStart => exact ⟨0, by omega, rfl, rfl⟩
  case round =>
    obtain ⟨m, hm, rfl, rfl⟩ := hrel
    by_cases hlt : (64 : Int) * (m : Int) < (n : Int)
    · go_wp2
      go_roundw
      case rel => exact ⟨m + 1, by omega, by go_num, by trivial⟩
      case measure => simp [RowKit.intOf]; omega
    · have em : m = (n + 63) / 64 := by omega
      by_cases hl : m = ws.length
      · have EM : Hid (m = (n + 63) / 64) := em
        clear em
        subst hl
        go_wp2
        go_loopw [6] (fun i wr' => ∃ k : Nat, n ≤ k ∧ k ≤ 64 * ws.length ∧ i = .int .i64 k ∧ Hid (∀ j, n ≤ j → j < k → hasW ws j = false) ∧ wr' = wr) (fun i _ => 64 * ws.length - (RowKit.intOf i).toNat)
        case atStart => exact ⟨n, by omega, by have := EM.out; omega, rfl, fun j h1 h2 => by omega, rfl⟩
        case round =>
          obtain ⟨k, hk1, hk2, rfl, HT, rfl⟩ := hrel
          by_cases hlt2 : (k : Int) < (64 : Int) * (ws.length : Int)
          · go_wp2_with fail
            refine (there_calls _ HW.out k (by omega)).mono ?_
            rintro e w1 ⟨rfl, rfl⟩
            cases hq : hasW ws k
            · have H0 : Hid (∀ j, n ≤ j → j < k + 1 → hasW ws j = false) := fun j h1 h2 => by
                rcases Nat.lt_succ_iff_lt_or_eq.1 h2 with hj | rfl
                · exact HT.out j h1 hj
                · exact hq
              go_wp2
              go_roundw
              case rel => exact ⟨k + 1, by omega, by omega, by go_num, H0, by trivial⟩
              case measure => simp [RowKit.intOf]; omega
            · have E : ans = false := by rw [HS.out]; exact mayS_no hk1 hq
              subst E
              go_wp2
              go_ret
              exact ⟨rfl, rfl⟩
          · have E : ans = true := by
              rw [HS.out]
              refine mayS_iff.2 ⟨EM.out, fun j hj => ?_⟩
              by_cases hj2 : j < k
              · exact HT.out j hj hj2
              · exact hasW_past (by omega)
            subst E
            go_wp2
            go_ret
            exact ⟨rfl, rfl⟩
      · have E : ans = false := by rw [HS.out]; exact mayS_len (by omega)
        have hl' : ¬ ((ws.length : Int) = (m : Int)) := by omega
        clear em hl
        subst E
        go_wp2
        go_ret
        exact ⟨rfl, rfl⟩

end Go.Proofs.YtbedhpooeabehaaGreatDoor
