/-
  A statement whose order the language leaves open (as in Draw): where the last operations wait for each of the others, if only by way of one another.
-/
import Derived.Test.YtlahfffgmfjpaaaGreatDoorPart3
import Derived.Test.YtlahfffgmfjpaaaGreatDoorPart18
import Derived.Test.YtlahfffgmfjpaaaGreatDoorPart1
namespace Go.Proofs.YtlahfffgmfjpaaaGreatDoor
open Go Go.RowKit Go.Shelf

section
variable {F : Fence} {n : Nat} {P : Program} {C : World → Prop} {l : List Oper} {m : Nat}

/-- An operation waits for another one, if only by way of others. -/
def deepB (l : List Oper) : Nat → Nat → Nat → Bool
  | 0, _, _ => false
  | f + 1, t, i => match l[t]? with
    | some o => waits o i || (List.range l.length).any fun j => waits o j && deepB l f j i
    | none => false
def beginB2 (l : List Oper) (m : Nat) : Bool :=
  beginB (l.take m) m && decide (m ≤ l.length) && ((List.range l.length).all fun t => decide (t < m) || (List.range m).all fun i => deepB l l.length t i)

theorem begin2_parts (h : beginB2 l m = true) : beginB (l.take m) m = true ∧ m ≤ l.length ∧ ∀ t, m ≤ t → t < l.length → ∀ i, i < m → deepB l l.length t i = true := by
  unfold beginB2 at h
  rw [Bool.and_eq_true, Bool.and_eq_true, decide_eq_true_eq] at h
  refine ⟨h.1.1, h.1.2, fun t h1 h2 i h3 => ?_⟩
  have := List.all_eq_true.1 h.2 t (List.mem_range.2 h2)
  rw [Bool.or_eq_true, decide_eq_true_eq] at this
  rcases this with k | k
  · omega
  · exact List.all_eq_true.1 k i (List.mem_range.2 h3)
theorem begin2_head (h : beginB2 l m = true) {i : Nat} {o : Oper} (hi : i < m) (ho : l[i]? = some o) : (∀ e ∈ o.after, Region.binds .any e = true → e.on < i) ∧ ∀ j b, o.guard = some (j, b) → j < i :=
  begin_head (begin2_parts h).1 hi (by simpa [hi] using ho)
theorem ready_head2 (hB : beginB2 l m = true) {LH : Array Bool} (hs : LH.size = m) (g i : Nat) (hi : i < m) : i ∈ Region.ready .any l.toArray (both LH g) ↔ i ∈ Region.ready .any (l.take m).toArray LH := by
  have hsame : (l.take m).toArray[i]? = l.toArray[i]? := by simp [hi]
  rw [mem_ready, mem_ready, both_lt (by omega), hsame]
  refine and_congr_right fun _ => exists_congr fun o => and_congr_right fun ho => ?_
  have hback := (begin2_head hB hi (by simpa using ho)).1
  exact forall_congr' fun e => forall_congr' fun he => forall_congr' fun hb => by rw [both_lt (by have := hback e he hb; omega)]
theorem full_of_none2 (hB : beginB2 l m = true) {LH : Array Bool} (hs : LH.size = m) (h : Region.ready .any (l.take m).toArray LH = []) : LH = Array.replicate m true :=
  full_of_none (begin2_parts hB).1 hs (by rw [List.take_take, Nat.min_self]; exact h)

/-- What is listed waited for nothing that is not. -/
def ClosedL (l : List Oper) (LH : Array Bool) : Prop := ∀ (j : Nat) (o : Oper), LH.getD j false = true → l[j]? = some o → ∀ e ∈ o.after, Region.binds .any e = true → LH.getD e.on false = true
theorem waits_spec {o : Oper} {i : Nat} (h : waits o i = true) : ∃ e ∈ o.after, Region.binds .any e = true ∧ e.on = i := by
  obtain ⟨e, he, hb⟩ := Array.any_eq_true'.1 h
  simp only [Bool.and_eq_true, beq_iff_eq] at hb
  exact ⟨e, he, hb.1, hb.2⟩
theorem both_out {LH : Array Bool} {g i : Nat} (h : (both LH g).getD i false = true) : LH.getD i false = true := by
  by_cases hi : i < LH.size
  · rwa [both_lt hi] at h
  · exfalso
    unfold both at h
    rw [Array.getD_eq_getD_getElem?, Array.getElem?_append_right (by omega), Array.getElem?_replicate] at h
    split at h <;> cases h
theorem deep_listed {LH : Array Bool} (hc : ClosedL l LH) (g : Nat) : ∀ (f t i : Nat) (o : Oper), l[t]? = some o → (∀ e ∈ o.after, Region.binds .any e = true → (both LH g).getD e.on false = true) → deepB l f t i = true → LH.getD i false = true
  | 0, _, _, _, _, _, h => by cases h
  | f + 1, t, i, o, ho, hd, h => by
    simp only [deepB, ho, Bool.or_eq_true] at h
    rcases h with h | h
    · obtain ⟨e, he, hb, rfl⟩ := waits_spec h
      exact both_out (hd e he hb)
    · obtain ⟨j, hj, hw⟩ := List.any_eq_true.1 h
      rw [Bool.and_eq_true] at hw
      obtain ⟨e, he, hb, rfl⟩ := waits_spec hw.1
      have hl := both_out (hd e he hb)
      have hjl := List.mem_range.1 hj
      refine deep_listed hc g f e.on i l[e.on] (List.getElem?_eq_getElem hjl) (fun e' he' hb' => ?_) hw.2
      have := hc e.on l[e.on] hl (List.getElem?_eq_getElem hjl) e' he' hb'
      by_cases hi : e'.on < LH.size
      · rwa [both_lt hi]
      · rw [Array.getD, dif_neg hi] at this
        cases this

theorem any_begun2 (hF : Loose F P) (hd : noDefer l.toArray = true) (hB : beginB2 l m = true) {Q : Exit → Act → World → Prop} {L : Act → Prop} (g : Nat)
    (hrest : ∀ (k : Nat) (a : Act) (w : World), C w → L a → g ≤ k → wpAnyIn F n P .any l.toArray Q k (both (Array.replicate m true) g) a w) :
    ∀ (f : Nat) (LH : Array Bool) (a : Act) (w : World), LH.size = m → ClosedL l LH → C w → wpAnyQ P .any (l.take m).toArray C L f LH a → wpAnyIn F n P .any l.toArray Q (f + g) (both LH g) a w := by
  obtain ⟨_, hml, htail⟩ := begin2_parts hB
  intro f
  induction f with
  | zero =>
    intro LH a w hs _ hC h
    rw [full_of_none2 hB hs h.1]
    exact hrest _ a w hC h.2 (by omega)
  | succ f ih =>
    intro LH a w hs hcl hC h
    by_cases hnone : Region.ready .any (l.take m).toArray LH = []
    · rw [full_of_none2 hB hs hnone]
      exact hrest _ a w hC (h.1 hnone) (by omega)
    · obtain ⟨i0, hi0⟩ := List.exists_mem_of_ne_nil _ hnone
      obtain ⟨hun, o0, ho0, _⟩ := mem_ready.1 hi0
      have hlt0 : i0 < m := by
        have := (Array.getElem?_eq_some_iff.1 ho0).1
        simp at this; omega
      rw [show f + 1 + g = (f + g) + 1 by omega]
      refine ⟨fun hx => ?_, fun i hi => ?_⟩
      · have := (ready_head2 hB hs g i0 hlt0).2 hi0
        rw [hx] at this; cases this
      · obtain ⟨_, o, ho, hall⟩ := mem_ready.1 hi
        have hol : l[i]? = some o := by simpa using ho
        have hil : i < l.length := (List.getElem?_eq_some_iff.1 hol).1
        have him : i < m := by
          rcases Nat.lt_or_ge i m with hx | hx
          · exact hx
          · have h1 := deep_listed hcl g l.length i i0 o hol hall (htail i hx hil i0 hlt0)
            rw [Array.getD_eq_getD_getElem?] at h1
            rw [Array.getD_eq_getD_getElem?] at hun
            have hz : i0 < LH.size := by omega
            simp [hz] at h1 hun
            rw [h1] at hun; cases hun
        have hiH := (ready_head2 hB hs g i him).1 hi
        have hoH : (l.take m).toArray[i]? = some o := by simpa [him] using hol
        refine look_in hF hd ho hoH ?_ hC (fun a' w' hC' h' => ?_) (h.2 i hiH)
        · unfold Region.wanted
          cases hgd : o.guard with
          | none => rfl
          | some jb =>
            have hj := (begin2_head hB him hol).2 jb.1 jb.2 hgd
            have : yielded l.toArray a.tmps jb.1 = yielded (l.take m).toArray a.tmps jb.1 := by
              unfold yielded
              rw [show (l.take m).toArray[jb.1]? = l.toArray[jb.1]? by simp [show jb.1 < m by omega]]
            simp only [this]
        · rw [both_set (by omega)]
          refine ih _ a' w' (by simpa using hs) (fun j o' hj ho' e he hb => ?_) hC' h'
          by_cases hij : j = i
          · subst hij
            rw [hol] at ho'
            cases ho'
            have h2 := both_out (hall e he hb)
            rw [Array.getD_eq_getD_getElem?] at h2 ⊢
            by_cases hei : e.on = j
            · rw [hei, Array.getElem?_setIfInBounds_self_of_lt (by omega)]; rfl
            · rw [Array.getElem?_setIfInBounds_ne (fun e' => hei e'.symm)]; exact h2
          · have hj' : LH.getD j false = true := by
              rw [Array.getD_eq_getD_getElem?] at hj ⊢
              rwa [Array.getElem?_setIfInBounds_ne (fun e' => hij e'.symm)] at hj
            have h2 := hcl j o' hj' ho' e he hb
            rw [Array.getD_eq_getD_getElem?] at h2 ⊢
            by_cases hei : e.on = i
            · rw [hei, Array.getElem?_setIfInBounds_self_of_lt (by omega)]; rfl
            · rw [Array.getElem?_setIfInBounds_ne (fun e' => hei e'.symm)]; exact h2

def tailB2 (l : List Oper) (m : Nat) : Bool := noDefer l.toArray && beginB2 l m && Region.lexB .any (l.take m).toArray && Region.seqB .any l.toArray (l.length - m) m (both (Array.replicate m true) (l.length - m))

/-- All but the operations from number m on only look; those come last, in the order of the text. -/
theorem wpIn_region_tail2 {id : Nat} {Q : Exit → Act → World → Prop} {a : Act} {w : World} {l : List Oper} (m : Nat) (hF : Loose F P) (hm : P.follows .mixedOrders = true) (hB : tailB2 l m = true)
    (h : wpQuiet P (l.take m).toArray (fun w' => ∃ x : Ext w, w' = x.wd) (fun a' => ∀ x : Ext w, wpListIn F n P l.toArray Q (l.drop m) a' x.wd) (l.take m) a) : (Code.region id l.toArray true).wpIn F n P Q a w := by
  obtain ⟨h123, hseq⟩ := Bool.and_eq_true_iff.1 hB
  obtain ⟨h12, hlex⟩ := Bool.and_eq_true_iff.1 h123
  obtain ⟨hd, hbeg⟩ := Bool.and_eq_true_iff.1 h12
  obtain ⟨hsel, hlf⟩ := Bool.and_eq_true_iff.1 hlex
  have hml : m ≤ l.length := (begin2_parts hbeg).2.1
  have hlen : (l.take m).length = m := by simp [hml]
  have hq := wpAnyQ_lex (C := fun w' => ∃ x : Ext w, w' = x.wd) (md := .any) hsel (l.take m) 0 (Array.replicate (l.take m).toArray.size false) a (by simp) (by simpa using hlf) h
  rw [hlen] at hq
  refine wpIn_region_any hm ?_
  have hsz : (Array.replicate l.toArray.size false : Array Bool) = both (Array.replicate m false) (l.length - m) := by
    refine Array.ext (by simp [both]; omega) fun i h1 h2 => ?_
    simp [both]
  rw [hsz, show l.toArray.size = m + (l.length - m) by simp; omega]
  refine any_begun2 (C := fun w' => ∃ x : Ext w, w' = x.wd) hF hd hbeg (l.length - m) ?_ m _ a _ (by simp) (fun j o hj _ _ _ _ => ?_) ⟨⟨_, (Below.refl w.heap.size w).drew⟩, rfl⟩ (by simpa [hlen] using hq)
  · rintro k a' w' ⟨x, rfl⟩ hL hk
    exact any_forced (l.drop m) m _ k a' x.wd (fun j => by simp) (by simpa using hseq) (by simpa using hk) (hL x)
  · rw [Array.getD_eq_getD_getElem?, Array.getElem?_replicate] at hj
    split at hj <;> cases hj

end
end Go.Proofs.YtlahfffgmfjpaaaGreatDoor

/-
  The blocks that loops over functions leave behind for deferred calls; what one owner's facts are another's.
-/
namespace Go.Proofs.YtlahfffgmfjpaaaGreatDoor
open Go Go.RowKit

theorem own_mono {β : Type} {B B' : Nat} {J : β → World → Prop} (h : OwnFrom B J) (hb : B ≤ B') : OwnFrom B' J := fun s W W' row hs hg hr => h s W W' row hs hg fun r e => ⟨Nat.le_trans hb (hr r e).1, (hr r e).2⟩
/-- The blocks of earlier loops for deferred calls. -/
def MarkB (n : Nat) (bs : List Nat) (W : World) : Prop := bs.Nodup ∧ ∀ b ∈ bs, n ≤ b ∧ W.heap[b]? = some (.deferred (some []))
theorem MarkB.nil (n : Nat) (W : World) : MarkB n [] W := ⟨List.nodup_nil, fun b h => by cases h⟩
theorem MarkB.cons {n D : Nat} {bs : List Nat} {W : World} (h : MarkB n bs W) (hn : n ≤ D) (hD : W.heap[D]? = some (.deferred (some []))) (hne : ∀ b ∈ bs, b < D) : MarkB n (D :: bs) W :=
  ⟨List.nodup_cons.2 ⟨fun hm => by have := hne D hm; omega, h.1⟩, fun b hm => by
    rcases List.mem_cons.1 hm with rfl | hm
    · exact ⟨hn, hD⟩
    · exact h.2 b hm⟩
theorem MarkB.lt {n : Nat} {bs : List Nat} {W : World} (h : MarkB n bs W) {b : Nat} (hb : b ∈ bs) : b < W.heap.size := (Array.getElem?_eq_some_iff.1 (h.2 b hb).2).1
theorem MarkB.grown {n m : Nat} {bs : List Nat} {W W' : World} (h : MarkB n bs W) (hb : ∀ b ∈ bs, b < m) {row : Option Nat} (hg : W.grownBy W' row) (hr : ∀ r, row = some r → m ≤ r ∧ ∃ o : Obj, W.heap[r]? = some o ∧ o.isCells = false) : MarkB n bs W' :=
  ⟨h.1, fun b hm => ⟨(h.2 b hm).1, keeps_other hg (h.2 b hm).2 (fun e => by have := (hr b e).1; have := hb b hm; omega)⟩⟩
theorem MarkB.later {n : Nat} {bs : List Nat} {W W' : World} (h : MarkB n bs W) (hb : Below W.heap.size W W') : MarkB n bs W' := ⟨h.1, fun b hm => ⟨(h.2 b hm).1, (hb.block b (h.lt hm)).trans (h.2 b hm).2⟩⟩
theorem MarkB.keep {n m : Nat} {bs : List Nat} {W W' : World} (h : MarkB n bs W) (hk : KeepsFrom m W W') (hm : m ≤ n) : MarkB n bs W' := ⟨h.1, fun b hb => ⟨(h.2 b hb).1, hk.same b _ (Nat.le_trans hm (h.2 b hb).1) (h.2 b hb).2 rfl⟩⟩
abbrev markDs (bs : List Nat) : List Deferred := bs.map fun b => { target := .collected b, args := #[] }
theorem keepsFrom_setCell {n : Nat} (W : World) {a : Addr} (ha : a.block < n) (v : Value) : KeepsFrom n W (W.setCell a v) :=
  ⟨by simp, fun k o hk ho _ => (RowKit.Below.heap_setCell _ _ _ _ (by omega)).trans ho⟩
theorem keepT_setCell {ok : TypeId → Bool} {V : World} {B i : Nat} {t : TypeId} {vs : Array Value} (h : Blk V B t vs) (ht : ok t = false) (v : Value) : KeepT ok V (V.setCell ⟨B, i, none⟩ v) :=
  ⟨by simp, fun k c t' f hk ho => (RowKit.Below.heap_setCell _ _ _ _ (fun e => by
    have e : k = B := e
    subst e
    rw [show V.heap[k]? = _ from h] at hk
    cases hk
    rw [ht] at ho
    cases ho)).trans hk⟩

end Go.Proofs.YtlahfffgmfjpaaaGreatDoor
