/-
  A statement whose order the language leaves open (as in Draw): where the last operations wait for each of the others, if only by way of one another.
-/
import Derived.Test.YtjmfdpilmljppaaPart2
import Derived.Test.YtjmfdpilmljppaaPart11
import Derived.Laws.EntriesVeiled
import Derived.Test.YtjmfdpilmljppaaPart4
import Derived.Test.YtjmfdpilmljppaaPart8
namespace Go.Proofs.Ytjmfdpilmljppaa
open Go Go.RowKit Go.Shelf

section
variable {F : Fence} {n : Nat} {P : Program} {C : World → Prop} {l : List Oper} {m : Nat}

/-- An operation waits for another one, if only by way of others. -/
def deepB (l : List Oper) : Nat → Nat → Nat → Bool
  | 0, _, _ => false
  | f + 1, t, i => match l[t]? with
    | some o => waits o i || (List.range l.length).any fun j => waits o j && deepB l f j i
    | none => false
def beginB2 (l : List Oper) (m : Nat) : Bool :=
  beginB (l.take m) m && decide (m ≤ l.length) && ((List.range l.length).all fun t => decide (t < m) || (List.range m).all fun i => deepB l l.length t i)

theorem begin2_parts (h : beginB2 l m = true) : beginB (l.take m) m = true ∧ m ≤ l.length ∧ ∀ t, m ≤ t → t < l.length → ∀ i, i < m → deepB l l.length t i = true := by
  unfold beginB2 at h
  rw [Bool.and_eq_true, Bool.and_eq_true, decide_eq_true_eq] at h
  refine ⟨h.1.1, h.1.2, fun t h1 h2 i h3 => ?_⟩
  have := List.all_eq_true.1 h.2 t (List.mem_range.2 h2)
  rw [Bool.or_eq_true, decide_eq_true_eq] at this
  rcases this with k | k
  · omega
  · exact List.all_eq_true.1 k i (List.mem_range.2 h3)
theorem begin2_head (h : beginB2 l m = true) {i : Nat} {o : Oper} (hi : i < m) (ho : l[i]? = some o) : (∀ e ∈ o.after, Region.binds .any e = true → e.on < i) ∧ ∀ j b, o.guard = some (j, b) → j < i :=
  begin_head (begin2_parts h).1 hi (by simpa [hi] using ho)
theorem ready_head2 (hB : beginB2 l m = true) {LH : Array Bool} (hs : LH.size = m) (g i : Nat) (hi : i < m) : i ∈ Region.ready .any l.toArray (both LH g) ↔ i ∈ Region.ready .any (l.take m).toArray LH := by
  have hsame : (l.take m).toArray[i]? = l.toArray[i]? := by simp [hi]
  rw [mem_ready, mem_ready, both_lt (by omega), hsame]
  refine and_congr_right fun _ => exists_congr fun o => and_congr_right fun ho => ?_
  have hback := (begin2_head hB hi (by simpa using ho)).1
  exact forall_congr' fun e => forall_congr' fun he => forall_congr' fun hb => by rw [both_lt (by have := hback e he hb; omega)]
theorem full_of_none2 (hB : beginB2 l m = true) {LH : Array Bool} (hs : LH.size = m) (h : Region.ready .any (l.take m).toArray LH = []) : LH = Array.replicate m true :=
  full_of_none (begin2_parts hB).1 hs (by rw [List.take_take, Nat.min_self]; exact h)

/-- What is listed waited for nothing that is not. -/
def ClosedL (l : List Oper) (LH : Array Bool) : Prop := ∀ (j : Nat) (o : Oper), LH.getD j false = true → l[j]? = some o → ∀ e ∈ o.after, Region.binds .any e = true → LH.getD e.on false = true
theorem waits_spec {o : Oper} {i : Nat} (h : waits o i = true) : ∃ e ∈ o.after, Region.binds .any e = true ∧ e.on = i := by
  obtain ⟨e, he, hb⟩ := Array.any_eq_true'.1 h
  simp only [Bool.and_eq_true, beq_iff_eq] at hb
  exact ⟨e, he, hb.1, hb.2⟩
theorem both_out {LH : Array Bool} {g i : Nat} (h : (both LH g).getD i false = true) : LH.getD i false = true := by
  by_cases hi : i < LH.size
  · rwa [both_lt hi] at h
  · exfalso
    unfold both at h
    rw [Array.getD_eq_getD_getElem?, Array.getElem?_append_right (by omega), Array.getElem?_replicate] at h
    split at h <;> cases h
theorem deep_listed {LH : Array Bool} (hc : ClosedL l LH) (g : Nat) : ∀ (f t i : Nat) (o : Oper), l[t]? = some o → (∀ e ∈ o.after, Region.binds .any e = true → (both LH g).getD e.on false = true) → deepB l f t i = true → LH.getD i false = true
  | 0, _, _, _, _, _, h => by cases h
  | f + 1, t, i, o, ho, hd, h => by
    simp only [deepB, ho, Bool.or_eq_true] at h
    rcases h with h | h
    · obtain ⟨e, he, hb, rfl⟩ := waits_spec h
      exact both_out (hd e he hb)
    · obtain ⟨j, hj, hw⟩ := List.any_eq_true.1 h
      rw [Bool.and_eq_true] at hw
      obtain ⟨e, he, hb, rfl⟩ := waits_spec hw.1
      have hl := both_out (hd e he hb)
      have hjl := List.mem_range.1 hj
      refine deep_listed hc g f e.on i l[e.on] (List.getElem?_eq_getElem hjl) (fun e' he' hb' => ?_) hw.2
      have := hc e.on l[e.on] hl (List.getElem?_eq_getElem hjl) e' he' hb'
      by_cases hi : e'.on < LH.size
      · rwa [both_lt hi]
      · rw [Array.getD, dif_neg hi] at this
        cases this

theorem any_begun2 (hF : Loose F P) (hd : noDefer l.toArray = true) (hB : beginB2 l m = true) {Q : Exit → Act → World → Prop} {L : Act → Prop} (g : Nat)
    (hrest : ∀ (k : Nat) (a : Act) (w : World), C w → L a → g ≤ k → wpAnyIn F n P .any l.toArray Q k (both (Array.replicate m true) g) a w) :
    ∀ (f : Nat) (LH : Array Bool) (a : Act) (w : World), LH.size = m → ClosedL l LH → C w → wpAnyQ P .any (l.take m).toArray C L f LH a → wpAnyIn F n P .any l.toArray Q (f + g) (both LH g) a w := by
  obtain ⟨_, hml, htail⟩ := begin2_parts hB
  intro f
  induction f with
  | zero =>
    intro LH a w hs _ hC h
    rw [full_of_none2 hB hs h.1]
    exact hrest _ a w hC h.2 (by omega)
  | succ f ih =>
    intro LH a w hs hcl hC h
    by_cases hnone : Region.ready .any (l.take m).toArray LH = []
    · rw [full_of_none2 hB hs hnone]
      exact hrest _ a w hC (h.1 hnone) (by omega)
    · obtain ⟨i0, hi0⟩ := List.exists_mem_of_ne_nil _ hnone
      obtain ⟨hun, o0, ho0, _⟩ := mem_ready.1 hi0
      have hlt0 : i0 < m := by
        have := (Array.getElem?_eq_some_iff.1 ho0).1
        simp at this; omega
      rw [show f + 1 + g = (f + g) + 1 by omega]
      refine ⟨fun hx => ?_, fun i hi => ?_⟩
      · have := (ready_head2 hB hs g i0 hlt0).2 hi0
        rw [hx] at this; cases this
      · obtain ⟨_, o, ho, hall⟩ := mem_ready.1 hi
        have hol : l[i]? = some o := by simpa using ho
        have hil : i < l.length := (List.getElem?_eq_some_iff.1 hol).1
        have him : i < m := by
          rcases Nat.lt_or_ge i m with hx | hx
          · exact hx
          · have h1 := deep_listed hcl g l.length i i0 o hol hall (htail i hx hil i0 hlt0)
            rw [Array.getD_eq_getD_getElem?] at h1
            rw [Array.getD_eq_getD_getElem?] at hun
            have hz : i0 < LH.size := by omega
            simp [hz] at h1 hun
            rw [h1] at hun; cases hun
        have hiH := (ready_head2 hB hs g i him).1 hi
        have hoH : (l.take m).toArray[i]? = some o := by simpa [him] using hol
        refine look_in hF hd ho hoH ?_ hC (fun a' w' hC' h' => ?_) (h.2 i hiH)
        · unfold Region.wanted
          cases hgd : o.guard with
          | none => rfl
          | some jb =>
            have hj := (begin2_head hB him hol).2 jb.1 jb.2 hgd
            have : yielded l.toArray a.tmps jb.1 = yielded (l.take m).toArray a.tmps jb.1 := by
              unfold yielded
              rw [show (l.take m).toArray[jb.1]? = l.toArray[jb.1]? by simp [show jb.1 < m by omega]]
            simp only [this]
        · rw [both_set (by omega)]
          refine ih _ a' w' (by simpa using hs) (fun j o' hj ho' e he hb => ?_) hC' h'
          by_cases hij : j = i
          · subst hij
            rw [hol] at ho'
            cases ho'
            have h2 := both_out (hall e he hb)
            rw [Array.getD_eq_getD_getElem?] at h2 ⊢
            by_cases hei : e.on = j
            · rw [hei, Array.getElem?_setIfInBounds_self_of_lt (by omega)]; rfl
            · rw [Array.getElem?_setIfInBounds_ne (fun e' => hei e'.symm)]; exact h2
          · have hj' : LH.getD j false = true := by
              rw [Array.getD_eq_getD_getElem?] at hj ⊢
              rwa [Array.getElem?_setIfInBounds_ne (fun e' => hij e'.symm)] at hj
            have h2 := hcl j o' hj' ho' e he hb
            rw [Array.getD_eq_getD_getElem?] at h2 ⊢
            by_cases hei : e.on = i
            · rw [hei, Array.getElem?_setIfInBounds_self_of_lt (by omega)]; rfl
            · rw [Array.getElem?_setIfInBounds_ne (fun e' => hei e'.symm)]; exact h2

def tailB2 (l : List Oper) (m : Nat) : Bool := noDefer l.toArray && beginB2 l m && Region.lexB .any (l.take m).toArray && Region.seqB .any l.toArray (l.length - m) m (both (Array.replicate m true) (l.length - m))

/-- All but the operations from number m on only look; those come last, in the order of the text. -/
theorem wpIn_region_tail2 {id : Nat} {Q : Exit → Act → World → Prop} {a : Act} {w : World} {l : List Oper} (m : Nat) (hF : Loose F P) (hm : P.follows .mixedOrders = true) (hB : tailB2 l m = true)
    (h : wpQuiet P (l.take m).toArray (fun w' => ∃ x : Ext w, w' = x.wd) (fun a' => ∀ x : Ext w, wpListIn F n P l.toArray Q (l.drop m) a' x.wd) (l.take m) a) : (Code.region id l.toArray true).wpIn F n P Q a w := by
  obtain ⟨h123, hseq⟩ := Bool.and_eq_true_iff.1 hB
  obtain ⟨h12, hlex⟩ := Bool.and_eq_true_iff.1 h123
  obtain ⟨hd, hbeg⟩ := Bool.and_eq_true_iff.1 h12
  obtain ⟨hsel, hlf⟩ := Bool.and_eq_true_iff.1 hlex
  have hml : m ≤ l.length := (begin2_parts hbeg).2.1
  have hlen : (l.take m).length = m := by simp [hml]
  have hq := wpAnyQ_lex (C := fun w' => ∃ x : Ext w, w' = x.wd) (md := .any) hsel (l.take m) 0 (Array.replicate (l.take m).toArray.size false) a (by simp) (by simpa using hlf) h
  rw [hlen] at hq
  refine wpIn_region_any hm ?_
  have hsz : (Array.replicate l.toArray.size false : Array Bool) = both (Array.replicate m false) (l.length - m) := by
    refine Array.ext (by simp [both]; omega) fun i h1 h2 => ?_
    simp [both]
  rw [hsz, show l.toArray.size = m + (l.length - m) by simp; omega]
  refine any_begun2 (C := fun w' => ∃ x : Ext w, w' = x.wd) hF hd hbeg (l.length - m) ?_ m _ a _ (by simp) (fun j o hj _ _ _ _ => ?_) ⟨⟨_, (Below.refl w.heap.size w).drew⟩, rfl⟩ (by simpa [hlen] using hq)
  · rintro k a' w' ⟨x, rfl⟩ hL hk
    exact any_forced (l.drop m) m _ k a' x.wd (fun j => by simp) (by simpa using hseq) (by simpa using hk) (hL x)
  · rw [Array.getD_eq_getD_getElem?, Array.getElem?_replicate] at hj
    split at hj <;> cases hj

end
end Go.Proofs.Ytjmfdpilmljppaa

/-
  grow.steps: an array of closures; what each of them makes of a box. (Written by tools/gen/grow_steps.py.)
-/
namespace Go.Proofs.Ytjmfdpilmljppaa
open Go Go.RowKit Go.Shelf

attribute [local go_sem] Oper.semAt_some ext_const

theorem back_rem {r b : Int} (hb : 0 ≤ b ∧ b < r) : (b + r - 1) % r = backS r b true := by
  unfold backS
  by_cases h : b = 0
  · subst h
    rw [if_pos rfl, if_pos rfl, Int.zero_add]
    exact Int.emod_eq_of_lt (by omega) (by omega)
  · rw [if_pos rfl, if_neg h, show b + r - 1 = b - 1 + r by omega, Int.add_emod_right]
    exact Int.emod_eq_of_lt (by omega) (by omega)

set_option maxRecDepth 100000 in
set_option maxHeartbeats 4000000 in
theorem end0_calls {b : Bx} {Ba : Nat} (w : World) (hA : Blk w Ba 3 #[I 0]) (hs : 1 ≤ b.a ∧ b.a ≤ 16) :
    Calls Try.prog 82 #[B6 b, .pointer (some ⟨Ba, 0, none⟩)] w fun e W' => e = .returned (.agg #[I b.x, I b.y, I b.z, I (b.a + 1), I b.b, I b.c]) ∧ Below w.heap.size w W' := by
  have ca := hA.cell 0
  have az := hA.lt
  simp at ca
  clear hA
  go_enter Try.func82, Try.ntmps82
  go_wp2
  exact bodyPost_ret (v := .agg #[I b.x, I b.y, I b.z, I (b.a + 1), I b.b, I b.c]) (by simp [results, Try.f82, go_sem]) rfl ⟨rfl, ((Below.refl _ w).alloc (Nat.le_refl _) _).alloc (by simp) _⟩

set_option maxRecDepth 100000 in
set_option maxHeartbeats 4000000 in
theorem beg0_calls {b : Bx} {Ba Bd : Nat} {d0 d1 d2 bs : Int} (w : World) (hA : Blk w Ba 3 #[I 0]) (hD : Blk w Bd 26 #[I d0, I d1, I d2]) (hs : 1 ≤ b.a ∧ b.a ≤ 16) (hx : 0 ≤ b.x ∧ b.x < d0) (hd : d0 ≤ 16) (hb : (b.x + d0 - 1) % d0 = bs) :
    Calls Try.prog 84 #[B6 b, .pointer (some ⟨Ba, 0, none⟩), .pointer (some ⟨Bd, 0, none⟩)] w fun e W' => e = .returned (.agg #[I bs, I b.y, I b.z, I (b.a + 1), I b.b, I b.c]) ∧ Below w.heap.size w W' := by
  have mixed : Try.prog.follows .mixedOrders = true := by kernel_rfl
  obtain ⟨W, hW, hB0, b0, b1⟩ := two_start w (C6 b) #[I 0, I 0, I 0, I 0, I 0, I 0] 32 32
  have HW : Hid ((w.alloc (.cells (C6 b) 32)).alloc (.cells #[I 0, I 0, I 0, I 0, I 0, I 0] 32) = W) := hW
  have kA := hA.later hB0
  have kD := hD.later hB0
  have HK : Hid (Blk W w.heap.size 32 (C6 b) ∧ Blk W (w.heap.size + 1) 32 #[I 0, I 0, I 0, I 0, I 0, I 0] ∧ Blk W Ba 3 #[I 0] ∧ Below w.heap.size w W) := ⟨b0, b1, kA, hB0⟩
  have ca : ∀ X : Ext W, X.wd.cell? ⟨Ba, 0, none⟩ = some (I 0) := fun X => (kA.later X.le).cell 0
  have cd : ∀ X : Ext W, X.wd.cell? ⟨Bd, 0, none⟩ = some (I d0) := fun X => (kD.later X.le).cell 0
  have cb : ∀ X : Ext W, X.wd.cell? ⟨w.heap.size, 0, none⟩ = some (I b.x) := fun X => (b0.later X.le).cell 0
  have hAB : Ba ≠ w.heap.size := by have := hA.lt; omega
  have HE : Hid ((b.x + d0 - 1) % d0 = bs) := hb
  clear hW hA hD kA kD b0 b1 hB0 hb
  refine (callsIn_wide (n := 3)).1 ?_
  refine callsIn_of_wp Try.func84 rfl trivial ?_ rfl
  simp only [Try.ntmps84, List.size_toArray, List.length_cons, List.length_nil, Nat.reduceAdd, Nat.reduceSub, Array.replicate_succ, Array.replicate_zero, List.push_toArray, List.append_toArray, List.nil_append, List.cons_append]
  gi_wp2_with fail
  rw [HW.out]
  refine wpIn_region_tail2 16 (loose_wide _) mixed (by kernel_rfl) ?_
  simp only [List.take_succ_cons, List.take_zero, List.drop_succ_cons, List.drop_zero]
  repeat (go_big_quiet_step (fail))
  refine wpQuiet_nil ?_
  intro X
  rw [HE.out]
  have hX := X.le
  have b0 := HK.out.1.later hX
  have b1 := HK.out.2.1.later hX
  have kA := HK.out.2.2.1.later hX
  have hB := then_below HK.out.2.2.2 hX
  clear ca cd cb hX HW HK
  generalize X.wd = w1 at *
  clear X W
  obtain ⟨⟨c0, c1, c2, c3, c4, c5⟩, g0, g1, g2, g3, g4, g5⟩ := b0.row6
  obtain ⟨⟨e0, e1, e2, e3, e4, e5⟩, f0, f1, f2, f3, f4, f5⟩ := b1.row6
  have ca := kA.cell 0
  have az := kA.lt
  have bz := b0.lt
  have bz1 := b1.lt
  simp at ca
  have HK : Hid (Blk w1 w.heap.size 32 (C6 b) ∧ Blk w1 (w.heap.size + 1) 32 #[I 0, I 0, I 0, I 0, I 0, I 0] ∧ Below w.heap.size w w1) := ⟨b0, b1, hB⟩
  have hne : Ba ≠ w.heap.size := hAB
  clear b0 b1 kA hB
  gi_wp2
  have k2 := ((((HK.out.2.1.other (B' := w.heap.size) 0 (I bs) (by omega)).other (B' := w.heap.size) 3 (I (b.a + 1)) (by omega)).set6 (I bs) (I b.y) (I b.z) (I (b.a + 1)) (I b.b) (I b.c)).row6).1
  have hB2 := below_set6 ((HK.out.2.2.setCell (p := ⟨w.heap.size, 0, none⟩) (Nat.le_refl _) (I bs)).setCell (p := ⟨w.heap.size, 3, none⟩) (Nat.le_refl _) (I (b.a + 1))) (show w.heap.size ≤ w.heap.size + 1 by omega) (I bs) (I b.y) (I b.z) (I (b.a + 1)) (I b.b) (I b.c)
  obtain ⟨m0, m1, m2, m3, m4, m5⟩ := k2
  exact bodyPost_ret (v := .agg #[I bs, I b.y, I b.z, I (b.a + 1), I b.b, I b.c]) (by simp [results, Try.f84, go_sem, m0, m1, m2, m3, m4, m5]) rfl ⟨rfl, hB2⟩

set_option maxRecDepth 100000 in
set_option maxHeartbeats 4000000 in
theorem end1_calls {b : Bx} {Ba : Nat} (w : World) (hA : Blk w Ba 3 #[I 1]) (hs : 1 ≤ b.b ∧ b.b ≤ 16) :
    Calls Try.prog 82 #[B6 b, .pointer (some ⟨Ba, 0, none⟩)] w fun e W' => e = .returned (.agg #[I b.x, I b.y, I b.z, I b.a, I (b.b + 1), I b.c]) ∧ Below w.heap.size w W' := by
  have ca := hA.cell 0
  have az := hA.lt
  simp at ca
  clear hA
  go_enter Try.func82, Try.ntmps82
  go_wp2
  exact bodyPost_ret (v := .agg #[I b.x, I b.y, I b.z, I b.a, I (b.b + 1), I b.c]) (by simp [results, Try.f82, go_sem]) rfl ⟨rfl, ((Below.refl _ w).alloc (Nat.le_refl _) _).alloc (by simp) _⟩

set_option maxRecDepth 100000 in
set_option maxHeartbeats 4000000 in
theorem beg1_calls {b : Bx} {Ba Bd : Nat} {d0 d1 d2 bs : Int} (w : World) (hA : Blk w Ba 3 #[I 1]) (hD : Blk w Bd 26 #[I d0, I d1, I d2]) (hs : 1 ≤ b.b ∧ b.b ≤ 16) (hx : 0 ≤ b.y ∧ b.y < d1) (hd : d1 ≤ 16) (hb : (b.y + d1 - 1) % d1 = bs) :
    Calls Try.prog 84 #[B6 b, .pointer (some ⟨Ba, 0, none⟩), .pointer (some ⟨Bd, 0, none⟩)] w fun e W' => e = .returned (.agg #[I b.x, I bs, I b.z, I b.a, I (b.b + 1), I b.c]) ∧ Below w.heap.size w W' := by
  have mixed : Try.prog.follows .mixedOrders = true := by kernel_rfl
  obtain ⟨W, hW, hB0, b0, b1⟩ := two_start w (C6 b) #[I 0, I 0, I 0, I 0, I 0, I 0] 32 32
  have HW : Hid ((w.alloc (.cells (C6 b) 32)).alloc (.cells #[I 0, I 0, I 0, I 0, I 0, I 0] 32) = W) := hW
  have kA := hA.later hB0
  have kD := hD.later hB0
  have HK : Hid (Blk W w.heap.size 32 (C6 b) ∧ Blk W (w.heap.size + 1) 32 #[I 0, I 0, I 0, I 0, I 0, I 0] ∧ Blk W Ba 3 #[I 1] ∧ Below w.heap.size w W) := ⟨b0, b1, kA, hB0⟩
  have ca : ∀ X : Ext W, X.wd.cell? ⟨Ba, 0, none⟩ = some (I 1) := fun X => (kA.later X.le).cell 0
  have cd : ∀ X : Ext W, X.wd.cell? ⟨Bd, 1, none⟩ = some (I d1) := fun X => (kD.later X.le).cell 1
  have cb : ∀ X : Ext W, X.wd.cell? ⟨w.heap.size, 1, none⟩ = some (I b.y) := fun X => (b0.later X.le).cell 1
  have hAB : Ba ≠ w.heap.size := by have := hA.lt; omega
  have HE : Hid ((b.y + d1 - 1) % d1 = bs) := hb
  clear hW hA hD kA kD b0 b1 hB0 hb
  refine (callsIn_wide (n := 3)).1 ?_
  refine callsIn_of_wp Try.func84 rfl trivial ?_ rfl
  simp only [Try.ntmps84, List.size_toArray, List.length_cons, List.length_nil, Nat.reduceAdd, Nat.reduceSub, Array.replicate_succ, Array.replicate_zero, List.push_toArray, List.append_toArray, List.nil_append, List.cons_append]
  gi_wp2_with fail
  rw [HW.out]
  refine wpIn_region_tail2 16 (loose_wide _) mixed (by kernel_rfl) ?_
  simp only [List.take_succ_cons, List.take_zero, List.drop_succ_cons, List.drop_zero]
  repeat (go_big_quiet_step (fail))
  refine wpQuiet_nil ?_
  intro X
  rw [HE.out]
  have hX := X.le
  have b0 := HK.out.1.later hX
  have b1 := HK.out.2.1.later hX
  have kA := HK.out.2.2.1.later hX
  have hB := then_below HK.out.2.2.2 hX
  clear ca cd cb hX HW HK
  generalize X.wd = w1 at *
  clear X W
  obtain ⟨⟨c0, c1, c2, c3, c4, c5⟩, g0, g1, g2, g3, g4, g5⟩ := b0.row6
  obtain ⟨⟨e0, e1, e2, e3, e4, e5⟩, f0, f1, f2, f3, f4, f5⟩ := b1.row6
  have ca := kA.cell 0
  have az := kA.lt
  have bz := b0.lt
  have bz1 := b1.lt
  simp at ca
  have HK : Hid (Blk w1 w.heap.size 32 (C6 b) ∧ Blk w1 (w.heap.size + 1) 32 #[I 0, I 0, I 0, I 0, I 0, I 0] ∧ Below w.heap.size w w1) := ⟨b0, b1, hB⟩
  have hne : Ba ≠ w.heap.size := hAB
  clear b0 b1 kA hB
  gi_wp2
  have k2 := ((((HK.out.2.1.other (B' := w.heap.size) 1 (I bs) (by omega)).other (B' := w.heap.size) 4 (I (b.b + 1)) (by omega)).set6 (I b.x) (I bs) (I b.z) (I b.a) (I (b.b + 1)) (I b.c)).row6).1
  have hB2 := below_set6 ((HK.out.2.2.setCell (p := ⟨w.heap.size, 1, none⟩) (Nat.le_refl _) (I bs)).setCell (p := ⟨w.heap.size, 4, none⟩) (Nat.le_refl _) (I (b.b + 1))) (show w.heap.size ≤ w.heap.size + 1 by omega) (I b.x) (I bs) (I b.z) (I b.a) (I (b.b + 1)) (I b.c)
  obtain ⟨m0, m1, m2, m3, m4, m5⟩ := k2
  exact bodyPost_ret (v := .agg #[I b.x, I bs, I b.z, I b.a, I (b.b + 1), I b.c]) (by simp [results, Try.f84, go_sem, m0, m1, m2, m3, m4, m5]) rfl ⟨rfl, hB2⟩

set_option maxRecDepth 100000 in
set_option maxHeartbeats 4000000 in
theorem end2_calls {b : Bx} {Ba : Nat} (w : World) (hA : Blk w Ba 3 #[I 2]) (hs : 1 ≤ b.c ∧ b.c ≤ 16) :
    Calls Try.prog 82 #[B6 b, .pointer (some ⟨Ba, 0, none⟩)] w fun e W' => e = .returned (.agg #[I b.x, I b.y, I b.z, I b.a, I b.b, I (b.c + 1)]) ∧ Below w.heap.size w W' := by
  have ca := hA.cell 0
  have az := hA.lt
  simp at ca
  clear hA
  go_enter Try.func82, Try.ntmps82
  go_wp2
  exact bodyPost_ret (v := .agg #[I b.x, I b.y, I b.z, I b.a, I b.b, I (b.c + 1)]) (by simp [results, Try.f82, go_sem]) rfl ⟨rfl, ((Below.refl _ w).alloc (Nat.le_refl _) _).alloc (by simp) _⟩

set_option maxRecDepth 100000 in
set_option maxHeartbeats 4000000 in
theorem beg2_calls {b : Bx} {Ba Bd : Nat} {d0 d1 d2 bs : Int} (w : World) (hA : Blk w Ba 3 #[I 2]) (hD : Blk w Bd 26 #[I d0, I d1, I d2]) (hs : 1 ≤ b.c ∧ b.c ≤ 16) (hx : 0 ≤ b.z ∧ b.z < d2) (hd : d2 ≤ 16) (hb : (b.z + d2 - 1) % d2 = bs) :
    Calls Try.prog 84 #[B6 b, .pointer (some ⟨Ba, 0, none⟩), .pointer (some ⟨Bd, 0, none⟩)] w fun e W' => e = .returned (.agg #[I b.x, I b.y, I bs, I b.a, I b.b, I (b.c + 1)]) ∧ Below w.heap.size w W' := by
  have mixed : Try.prog.follows .mixedOrders = true := by kernel_rfl
  obtain ⟨W, hW, hB0, b0, b1⟩ := two_start w (C6 b) #[I 0, I 0, I 0, I 0, I 0, I 0] 32 32
  have HW : Hid ((w.alloc (.cells (C6 b) 32)).alloc (.cells #[I 0, I 0, I 0, I 0, I 0, I 0] 32) = W) := hW
  have kA := hA.later hB0
  have kD := hD.later hB0
  have HK : Hid (Blk W w.heap.size 32 (C6 b) ∧ Blk W (w.heap.size + 1) 32 #[I 0, I 0, I 0, I 0, I 0, I 0] ∧ Blk W Ba 3 #[I 2] ∧ Below w.heap.size w W) := ⟨b0, b1, kA, hB0⟩
  have ca : ∀ X : Ext W, X.wd.cell? ⟨Ba, 0, none⟩ = some (I 2) := fun X => (kA.later X.le).cell 0
  have cd : ∀ X : Ext W, X.wd.cell? ⟨Bd, 2, none⟩ = some (I d2) := fun X => (kD.later X.le).cell 2
  have cb : ∀ X : Ext W, X.wd.cell? ⟨w.heap.size, 2, none⟩ = some (I b.z) := fun X => (b0.later X.le).cell 2
  have hAB : Ba ≠ w.heap.size := by have := hA.lt; omega
  have HE : Hid ((b.z + d2 - 1) % d2 = bs) := hb
  clear hW hA hD kA kD b0 b1 hB0 hb
  refine (callsIn_wide (n := 3)).1 ?_
  refine callsIn_of_wp Try.func84 rfl trivial ?_ rfl
  simp only [Try.ntmps84, List.size_toArray, List.length_cons, List.length_nil, Nat.reduceAdd, Nat.reduceSub, Array.replicate_succ, Array.replicate_zero, List.push_toArray, List.append_toArray, List.nil_append, List.cons_append]
  gi_wp2_with fail
  rw [HW.out]
  refine wpIn_region_tail2 16 (loose_wide _) mixed (by kernel_rfl) ?_
  simp only [List.take_succ_cons, List.take_zero, List.drop_succ_cons, List.drop_zero]
  repeat (go_big_quiet_step (fail))
  refine wpQuiet_nil ?_
  intro X
  rw [HE.out]
  have hX := X.le
  have b0 := HK.out.1.later hX
  have b1 := HK.out.2.1.later hX
  have kA := HK.out.2.2.1.later hX
  have hB := then_below HK.out.2.2.2 hX
  clear ca cd cb hX HW HK
  generalize X.wd = w1 at *
  clear X W
  obtain ⟨⟨c0, c1, c2, c3, c4, c5⟩, g0, g1, g2, g3, g4, g5⟩ := b0.row6
  obtain ⟨⟨e0, e1, e2, e3, e4, e5⟩, f0, f1, f2, f3, f4, f5⟩ := b1.row6
  have ca := kA.cell 0
  have az := kA.lt
  have bz := b0.lt
  have bz1 := b1.lt
  simp at ca
  have HK : Hid (Blk w1 w.heap.size 32 (C6 b) ∧ Blk w1 (w.heap.size + 1) 32 #[I 0, I 0, I 0, I 0, I 0, I 0] ∧ Below w.heap.size w w1) := ⟨b0, b1, hB⟩
  have hne : Ba ≠ w.heap.size := hAB
  clear b0 b1 kA hB
  gi_wp2
  have k2 := ((((HK.out.2.1.other (B' := w.heap.size) 2 (I bs) (by omega)).other (B' := w.heap.size) 5 (I (b.c + 1)) (by omega)).set6 (I b.x) (I b.y) (I bs) (I b.a) (I b.b) (I (b.c + 1))).row6).1
  have hB2 := below_set6 ((HK.out.2.2.setCell (p := ⟨w.heap.size, 2, none⟩) (Nat.le_refl _) (I bs)).setCell (p := ⟨w.heap.size, 5, none⟩) (Nat.le_refl _) (I (b.c + 1))) (show w.heap.size ≤ w.heap.size + 1 by omega) (I b.x) (I b.y) (I bs) (I b.a) (I b.b) (I (b.c + 1))
  obtain ⟨m0, m1, m2, m3, m4, m5⟩ := k2
  exact bodyPost_ret (v := .agg #[I b.x, I b.y, I bs, I b.a, I b.b, I (b.c + 1)]) (by simp [results, Try.f84, go_sem, m0, m1, m2, m3, m4, m5]) rfl ⟨rfl, hB2⟩

end Go.Proofs.Ytjmfdpilmljppaa

/-
  grow.steps: the array of closures. (Written by tools/gen/grow_steps.py.)
-/
namespace Go.Proofs.Ytjmfdpilmljppaa
open Go Go.RowKit Go.Shelf

attribute [local go_sem] Oper.semAt_some ext_const

/-! ### the array -/
abbrev fE (p : Nat) : Value := .func (.func 82) #[] #[.pointer (some ⟨p, 0, none⟩)]
abbrev fB (p d : Nat) : Value := .func (.func 84) #[] #[.pointer (some ⟨p, 0, none⟩), .pointer (some ⟨d, 0, none⟩)]
theorem stepE_calls (k : Int) (w : World) : Calls Try.prog 81 #[I k] w fun e W' => e = .returned (fE w.heap.size) ∧ W' = w.alloc (.cells #[I k] 3) := by
  go_enter Try.func81, Try.ntmps81
  go_wp2
  go_ret
  exact ⟨rfl, rfl⟩
theorem stepB_calls (k : Int) (d : Nat) (w : World) : Calls Try.prog 83 #[I k, .pointer (some ⟨d, 0, none⟩)] w fun e W' => e = .returned (fB w.heap.size d) ∧ W' = w.alloc (.cells #[I k] 3) := by
  go_enter Try.func83, Try.ntmps83
  go_wp2
  go_ret
  exact ⟨rfl, rfl⟩
/-- What the six closures read. -/
structure Six (d0 d1 d2 : Int) (p0 p1 p2 p3 p4 p5 pd : Nat) (W : World) : Prop where
  h0 : Blk W p0 3 #[I 0]
  h1 : Blk W p1 3 #[I 0]
  h2 : Blk W p2 3 #[I 1]
  h3 : Blk W p3 3 #[I 1]
  h4 : Blk W p4 3 #[I 2]
  h5 : Blk W p5 3 #[I 2]
  hd : Blk W pd 26 #[I d0, I d1, I d2]
theorem Six.later {d0 d1 d2 : Int} {p0 p1 p2 p3 p4 p5 pd : Nat} {W W' : World} (h : Six d0 d1 d2 p0 p1 p2 p3 p4 p5 pd W) (hb : Below W.heap.size W W') : Six d0 d1 d2 p0 p1 p2 p3 p4 p5 pd W' :=
  ⟨h.h0.later hb, h.h1.later hb, h.h2.later hb, h.h3.later hb, h.h4.later hb, h.h5.later hb, h.hd.later hb⟩

set_option maxRecDepth 100000 in
set_option maxHeartbeats 4000000 in
theorem steps_calls (d0 d1 d2 : Int) (w : World) : Calls Try.prog 57 #[A3 d0 d1 d2] w fun e W' => ∃ p0 p1 p2 p3 p4 p5 pd, e = .returned (.agg #[fE p0, fB p1 pd, fE p2, fB p3 pd, fE p4, fB p5 pd]) ∧ Six d0 d1 d2 p0 p1 p2 p3 p4 p5 pd W' ∧ Below w.heap.size w W' := by
  obtain ⟨W, hW, hB0, b0, b1⟩ := two_start w #[I d0, I d1, I d2] #[.nilFunc, .nilFunc, .nilFunc, .nilFunc, .nilFunc, .nilFunc] 26 98
  have HW : Hid ((w.alloc (.cells #[I d0, I d1, I d2] 26)).alloc (.cells #[.nilFunc, .nilFunc, .nilFunc, .nilFunc, .nilFunc, .nilFunc] 98) = W) := hW
  clear hW
  go_enter Try.func57, Try.ntmps57
  go_wp2_with fail
  rw [HW.out]
  refine (stepE_calls _ _).mono ?_
  rintro e w1 ⟨rfl, hw⟩
  have hT : Below W.heap.size W w1 := by rw [hw]; exact (Below.refl _ W).alloc (Nat.le_refl _) _
  have q0 : Blk w1 W.heap.size 3 #[I 0] := by rw [hw]; exact Blk.new _ _ _
  have hB := then_below hB0 hT
  have kd := b0.later hT
  have kn := b1.later hT
  clear hw hT b0 b1 hB0 HW
  generalize W.heap.size = p0 at *
  clear W
  go_wp2_with fail
  refine (stepB_calls _ _ _).mono ?_
  rintro e w2 ⟨rfl, hw⟩
  have hT : Below w1.heap.size w1 w2 := by rw [hw]; exact (Below.refl _ w1).alloc (Nat.le_refl _) _
  have q1 : Blk w2 w1.heap.size 3 #[I 0] := by rw [hw]; exact Blk.new _ _ _
  replace hB := then_below hB hT
  replace kd := kd.later hT
  replace kn := kn.later hT
  replace q0 := q0.later hT
  clear hw hT
  generalize w1.heap.size = p1 at *
  clear w1
  go_wp2_with fail
  refine (stepE_calls _ _).mono ?_
  rintro e w3 ⟨rfl, hw⟩
  have hT : Below w2.heap.size w2 w3 := by rw [hw]; exact (Below.refl _ w2).alloc (Nat.le_refl _) _
  have q2 : Blk w3 w2.heap.size 3 #[I 1] := by rw [hw]; exact Blk.new _ _ _
  replace hB := then_below hB hT
  replace kd := kd.later hT
  replace kn := kn.later hT
  replace q0 := q0.later hT
  replace q1 := q1.later hT
  clear hw hT
  generalize w2.heap.size = p2 at *
  clear w2
  go_wp2_with fail
  refine (stepB_calls _ _ _).mono ?_
  rintro e w4 ⟨rfl, hw⟩
  have hT : Below w3.heap.size w3 w4 := by rw [hw]; exact (Below.refl _ w3).alloc (Nat.le_refl _) _
  have q3 : Blk w4 w3.heap.size 3 #[I 1] := by rw [hw]; exact Blk.new _ _ _
  replace hB := then_below hB hT
  replace kd := kd.later hT
  replace kn := kn.later hT
  replace q0 := q0.later hT
  replace q1 := q1.later hT
  replace q2 := q2.later hT
  clear hw hT
  generalize w3.heap.size = p3 at *
  clear w3
  go_wp2_with fail
  refine (stepE_calls _ _).mono ?_
  rintro e w5 ⟨rfl, hw⟩
  have hT : Below w4.heap.size w4 w5 := by rw [hw]; exact (Below.refl _ w4).alloc (Nat.le_refl _) _
  have q4 : Blk w5 w4.heap.size 3 #[I 2] := by rw [hw]; exact Blk.new _ _ _
  replace hB := then_below hB hT
  replace kd := kd.later hT
  replace kn := kn.later hT
  replace q0 := q0.later hT
  replace q1 := q1.later hT
  replace q2 := q2.later hT
  replace q3 := q3.later hT
  clear hw hT
  generalize w4.heap.size = p4 at *
  clear w4
  go_wp2_with fail
  refine (stepB_calls _ _ _).mono ?_
  rintro e w6 ⟨rfl, hw⟩
  have hT : Below w5.heap.size w5 w6 := by rw [hw]; exact (Below.refl _ w5).alloc (Nat.le_refl _) _
  have q5 : Blk w6 w5.heap.size 3 #[I 2] := by rw [hw]; exact Blk.new _ _ _
  replace hB := then_below hB hT
  replace kd := kd.later hT
  replace kn := kn.later hT
  replace q0 := q0.later hT
  replace q1 := q1.later hT
  replace q2 := q2.later hT
  replace q3 := q3.later hT
  replace q4 := q4.later hT
  clear hw hT
  generalize w5.heap.size = p5 at *
  clear w5
  obtain ⟨⟨c0, c1, c2, c3, c4, c5⟩, g0, g1, g2, g3, g4, g5⟩ := kn.row6
  have kz := kn.lt
  have HE : Hid (Below w.heap.size w w6 ∧ Blk w6 (w.heap.size + 1) 98 #[.nilFunc, .nilFunc, .nilFunc, .nilFunc, .nilFunc, .nilFunc] ∧ Six d0 d1 d2 p0 p1 p2 p3 p4 p5 w.heap.size w6) := ⟨hB, kn, ⟨q0, q1, q2, q3, q4, q5, kd⟩⟩
  clear hB kn q0 q1 q2 q3 q4 q5 kd
  go_wp2
  have h6 := HE.out.2.1.set6 (fE p0) (fB p1 w.heap.size) (fE p2) (fB p3 w.heap.size) (fE p4) (fB p5 w.heap.size)
  obtain ⟨⟨m0, m1, m2, m3, m4, m5⟩, _⟩ := h6.row6
  have hB2 := below_set6 HE.out.1 (show w.heap.size ≤ w.heap.size + 1 by omega) (fE p0) (fB p1 w.heap.size) (fE p2) (fB p3 w.heap.size) (fE p4) (fB p5 w.heap.size)
  have hs6 : ∀ {x0 x1 x2 x3 x4 x5 : Value} {B B' : Nat} {t : TypeId} {vs : Array Value}, Blk w6 B t vs → B ≠ B' → Blk ((((((w6.setCell ⟨B', 0, none⟩ x0).setCell ⟨B', 1, none⟩ x1).setCell ⟨B', 2, none⟩ x2).setCell ⟨B', 3, none⟩ x3).setCell ⟨B', 4, none⟩ x4).setCell ⟨B', 5, none⟩ x5) B t vs := fun h hne => (((((h.other _ _ hne).other _ _ hne).other _ _ hne).other _ _ hne).other _ _ hne).other _ _ hne
  have hty : ∀ {B : Nat} {t : TypeId} {vs : Array Value}, Blk w6 B t vs → t ≠ 98 → B ≠ w.heap.size + 1 := fun {B t vs} h hne e => by
    subst e
    have := (show w6.heap[w.heap.size + 1]? = _ from h).symm.trans (show w6.heap[w.heap.size + 1]? = _ from HE.out.2.1)
    cases this
    exact hne rfl
  have hS := HE.out.2.2
  have hR := (show Six d0 d1 d2 p0 p1 p2 p3 p4 p5 w.heap.size _ from ⟨hs6 hS.h0 (hty hS.h0 (by decide)), hs6 hS.h1 (hty hS.h1 (by decide)), hs6 hS.h2 (hty hS.h2 (by decide)), hs6 hS.h3 (hty hS.h3 (by decide)), hs6 hS.h4 (hty hS.h4 (by decide)), hs6 hS.h5 (hty hS.h5 (by decide)), hs6 hS.hd (hty hS.hd (by decide))⟩ : Six d0 d1 d2 p0 p1 p2 p3 p4 p5 w.heap.size ((((((w6.setCell ⟨w.heap.size + 1, 0, none⟩ (fE p0)).setCell ⟨w.heap.size + 1, 1, none⟩ (fB p1 w.heap.size)).setCell ⟨w.heap.size + 1, 2, none⟩ (fE p2)).setCell ⟨w.heap.size + 1, 3, none⟩ (fB p3 w.heap.size)).setCell ⟨w.heap.size + 1, 4, none⟩ (fE p4)).setCell ⟨w.heap.size + 1, 5, none⟩ (fB p5 w.heap.size)))
  exact bodyPost_ret (v := .agg #[fE p0, fB p1 w.heap.size, fE p2, fB p3 w.heap.size, fE p4, fB p5 w.heap.size]) (by simp [results, Try.f57, go_sem, m0, m1, m2, m3, m4, m5]) rfl ⟨p0, p1, p2, p3, p4, p5, w.heap.size, rfl, hR, hB2⟩

end Go.Proofs.Ytjmfdpilmljppaa

/-
  Plain arithmetic of boxes that are grown as far as they go: what the loop over the steps comes to.
-/
namespace Go.Proofs.Ytjmfdpilmljppaa
open Go Go.RowKit

abbrev Sp := Fin 3 × Bool
/-- The steps in the order in which they are tried. -/
def stepsL : List Sp := [(0, false), (0, true), (1, false), (1, true), (2, false), (2, true)]
/-- A step, before it is canonical; it may not be. -/
def rawB (d0 d1 d2 : Int) (b : Bx) (s : Sp) : Bx := putB b s.1 (backS (dimAt d0 d1 d2 s.1) (bAt b s.1) s.2) (sAt b s.1 + 1)
theorem raw_step (d0 d1 d2 : Int) (b : Bx) (s : Sp) : canonB d0 d1 d2 (rawB d0 d1 d2 b s) = stepB d0 d1 d2 b s.1 s.2 := rfl
theorem raw_may {d0 d1 d2 : Int} {b : Bx} (hb : mayB d0 d1 d2 b) {s : Sp} : mayB d0 d1 d2 (rawB d0 d1 d2 b s) ↔ sAt b s.1 + 1 ≤ dimAt d0 d1 d2 s.1 := by
  obtain ⟨k, back⟩ := s
  constructor
  · intro h
    have h1 := (mayB_at h k).1.2
    match k with
    | 0 => exact h1
    | 1 => exact h1
    | 2 => exact h1
  · intro h
    exact put_may hb (back_inS (mayB_at hb k) h back).1
/-- A step that may be, and leads to a box that is asked for. -/
def tryG (d0 d1 d2 : Int) (q : Bx → Bool) (b : Bx) (s : Sp) : Bool := decide (sAt b s.1 + 1 ≤ dimAt d0 d1 d2 s.1) && q (stepB d0 d1 d2 b s.1 s.2)
def nextG (d0 d1 d2 : Int) (q : Bx → Bool) (b : Bx) : Option Sp := stepsL.find? (tryG d0 d1 d2 q b)
def growN (d0 d1 d2 : Int) (q : Bx → Bool) : Nat → Bx → Bx
  | 0, b => b
  | n + 1, b => match nextG d0 d1 d2 q b with
    | none => b
    | some s => growN d0 d1 d2 q n (stepB d0 d1 d2 b s.1 s.2)
/-- Grown as far as it goes. -/
def growG (d0 d1 d2 : Int) (q : Bx → Bool) (b : Bx) : Bx := growN d0 d1 d2 q (48 - szB b).toNat b
theorem grow_none {d0 d1 d2 : Int} {q : Bx → Bool} {b : Bx} (h : nextG d0 d1 d2 q b = none) : growG d0 d1 d2 q b = b := by
  unfold growG
  cases (48 - szB b).toNat with
  | zero => rfl
  | succ n => simp [growN, h]
theorem next_try {d0 d1 d2 : Int} {q : Bx → Bool} {b : Bx} {s : Sp} (h : nextG d0 d1 d2 q b = some s) : sAt b s.1 + 1 ≤ dimAt d0 d1 d2 s.1 ∧ q (stepB d0 d1 d2 b s.1 s.2) = true := by
  have := List.find?_some h
  unfold tryG at this
  rw [Bool.and_eq_true, decide_eq_true_eq] at this
  exact this
theorem grow_some {d0 d1 d2 : Int} (hd : mayD d0 d1 d2) {q : Bx → Bool} {b : Bx} (hb : mayB d0 d1 d2 b) {s : Sp} (h : nextG d0 d1 d2 q b = some s) : growG d0 d1 d2 q b = growG d0 d1 d2 q (stepB d0 d1 d2 b s.1 s.2) := by
  obtain ⟨h1, _⟩ := next_try h
  obtain ⟨m1, _, _, z1⟩ := step_is hd hb h1 s.2
  have hz := sz_bd hd m1
  unfold growG
  rw [show (48 - szB b).toNat = (48 - szB (stepB d0 d1 d2 b s.1 s.2)).toNat + 1 by omega]
  simp [growN, h]
theorem next_at {d0 d1 d2 : Int} {q : Bx → Bool} {b : Bx} {k : Nat} (hk : k < 6) (ht : tryG d0 d1 d2 q b (stepsL.getD k (0, false)) = true) (hno : ∀ j, j < k → tryG d0 d1 d2 q b (stepsL.getD j (0, false)) = false) : nextG d0 d1 d2 q b = some (stepsL.getD k (0, false)) := by
  have n0 := hno 0; have n1 := hno 1; have n2 := hno 2; have n3 := hno 3; have n4 := hno 4
  unfold nextG stepsL at *
  match k, hk with
  | 0, _ => simp at ht; simp [List.find?, ht]
  | 1, _ => simp at ht n0; simp [List.find?, ht, n0]
  | 2, _ => simp at ht n0 n1; simp [List.find?, ht, n0, n1]
  | 3, _ => simp at ht n0 n1 n2; simp [List.find?, ht, n0, n1, n2]
  | 4, _ => simp at ht n0 n1 n2 n3; simp [List.find?, ht, n0, n1, n2, n3]
  | 5, _ => simp at ht n0 n1 n2 n3 n4; simp [List.find?, ht, n0, n1, n2, n3, n4]
theorem next_no {d0 d1 d2 : Int} {q : Bx → Bool} {b : Bx} (hno : ∀ j, j < 6 → tryG d0 d1 d2 q b (stepsL.getD j (0, false)) = false) : nextG d0 d1 d2 q b = none := by
  have n0 := hno 0 (by omega); have n1 := hno 1 (by omega); have n2 := hno 2 (by omega); have n3 := hno 3 (by omega); have n4 := hno 4 (by omega); have n5 := hno 5 (by omega)
  unfold nextG stepsL at *
  simp at n0 n1 n2 n3 n4 n5
  simp [List.find?, n0, n1, n2, n3, n4, n5]
/-- What is grown: it may be, is canonical, is asked for, has the box within, and has no step left. -/
theorem grow_is {d0 d1 d2 : Int} (hd : mayD d0 d1 d2) {q : Bx → Bool} : ∀ (n : Nat) {b : Bx}, mayB d0 d1 d2 b → canonB d0 d1 d2 b = b → q b = true → 48 - szB b ≤ n →
    mayB d0 d1 d2 (growG d0 d1 d2 q b) ∧ canonB d0 d1 d2 (growG d0 d1 d2 q b) = growG d0 d1 d2 q b ∧ q (growG d0 d1 d2 q b) = true ∧ inB d0 d1 d2 b (growG d0 d1 d2 q b) = true ∧ nextG d0 d1 d2 q (growG d0 d1 d2 q b) = none
  | n, b, hb, hc, hq, hn => by
    rcases hx : nextG d0 d1 d2 q b with _ | s
    · rw [grow_none hx]
      exact ⟨hb, hc, hq, in_self hd hb, hx⟩
    · rw [grow_some hd hb hx]
      obtain ⟨h1, h2⟩ := next_try hx
      obtain ⟨m1, m2, m3, z1⟩ := step_is hd hb h1 s.2
      have hz := sz_bd hd m1
      match n with
      | 0 => omega
      | n + 1 =>
        obtain ⟨r1, r2, r3, r4, r5⟩ := grow_is hd n m1 m2 h2 (by omega)
        exact ⟨r1, r2, r3, in_trans hd hb m1 r1 m3 r4, r5⟩
theorem next_none_iff {d0 d1 d2 : Int} {q : Bx → Bool} {b : Bx} : nextG d0 d1 d2 q b = none ↔ ∀ s : Sp, tryG d0 d1 d2 q b s = false := by
  unfold nextG
  rw [List.find?_eq_none]
  constructor
  · rintro h ⟨k, back⟩
    have hm : (k, back) ∈ stepsL := by
      unfold stepsL
      match k, back with
      | 0, false => decide
      | 0, true => decide
      | 1, false => decide
      | 1, true => decide
      | 2, false => decide
      | 2, true => decide
    have := h _ hm
    simpa using this
  · intro h s _
    simp [h s]

end Go.Proofs.Ytjmfdpilmljppaa

/-
  As Loud, where an operation itself may make memory too (a slice written out).
-/
namespace Go.Proofs.Ytjmfdpilmljppaa
open Go Go.RowKit Go.Shelf

section
variable {F : Fence} {n : Nat} {P : Program}

/-- What an operation comes to: a value, or a value and new memory, or a call. -/
def Comes2 (P : Program) (o : Oper) (a : Act) (w : World) (R : Value → World → Prop) : Prop :=
  (∃ v w', (execOp a.eval o).run P w = .ok (.value v) w' ∧ Below w.heap.size w w' ∧ R v w') ∨ (∃ f args, (execOp a.eval o).run P w = .ok (.enter f args) w ∧ Calls P f args w fun e w' => ∃ v, e = .returned v ∧ Below w.heap.size w w' ∧ R v w')

variable {l : List Oper} {a0 : Act} {w0 : World} {Q : Exit → Act → World → Prop} {S : Nat → Value → World → Prop}

theorem any_loud2 (hF : Loose F P) (hB : soloB l a0.tmps.size = true)
    (hS : ∀ i v w w', S i v w → Below w.heap.size w w' → S i v w')
    (hop : ∀ (i : Nat) (o : Oper), l[i]? = some o → ∀ (a : Act) (w : World), Below w0.heap.size w0 w → Like l a0 a → (∀ e ∈ o.after, Region.binds .any e = true → S e.on (slot l a e.on) w) → Comes2 P o a w (S i))
    (hend : ∀ (a : Act) (w : World), Below w0.heap.size w0 w → Like l a0 a → (∀ i, i < l.length → S i (slot l a i) w) → Q .normal a w) :
    ∀ (f : Nat) (L : Array Bool) (a : Act) (w : World), L.size = l.length → L.toList.count false ≤ f → Below w0.heap.size w0 w → Like l a0 a → (∀ i, L.getD i false = true → S i (slot l a i) w) → wpAnyIn F n P .any l.toArray Q f L a w := by
  have hbeg : beginB l l.length = true := (Bool.and_eq_true_iff.1 hB).2
  have hnd : noDefer l.toArray = true := (Bool.and_eq_true_iff.1 (Bool.and_eq_true_iff.1 hB).1).2
  have htake : l.take l.length = l := List.take_length
  have fin : ∀ (L : Array Bool) (a : Act) (w : World), L.size = l.length → Region.ready .any l.toArray L = [] → Below w0.heap.size w0 w → Like l a0 a → (∀ i, L.getD i false = true → S i (slot l a i) w) → Q .normal a w := by
    intro L a w hs hr hT hL hA
    have hfull := full_of_none (l := l) (m := l.length) hbeg hs (by rw [htake]; exact hr)
    refine hend a w hT hL fun i hi => hA i ?_
    rw [hfull]
    simp [Array.getD, hi]
  intro f
  induction f with
  | zero =>
    intro L a w hs hc hT hL hA
    have hall : Region.ready .any l.toArray L = [] := by
      apply List.eq_nil_iff_forall_not_mem.2
      intro i hi
      obtain ⟨h1, _⟩ := mem_ready.1 hi
      have h0 : L.toList.count false = 0 := by omega
      rw [List.count_eq_zero] at h0
      refine h0 ?_
      by_cases hlt : i < L.size
      · rw [Array.getD, dif_pos hlt] at h1
        rw [← h1]
        exact Array.getElem_mem_toList hlt
      · rw [Array.getD, dif_neg hlt] at h1; cases h1
    exact ⟨hall, fin L a w hs hall hT hL hA⟩
  | succ f ih =>
    intro L a w hs hc hT hL hA
    refine ⟨fun hr => fin L a w hs hr hT hL hA, fun i hi => ?_⟩
    obtain ⟨h1, o, ho, hall⟩ := mem_ready.1 hi
    have hol : l[i]? = some o := by simpa using ho
    have hil : i < l.length := (List.getElem?_eq_some_iff.1 hol).1
    obtain ⟨hg, hd, hlt, hne⟩ := solo_at hB hol
    have hcome := hop i o hol a w hT hL (fun e he hb => hA e.on (hall e he hb))
    have hnot : L.toList[i]? = some false := by
      have hlt' : i < L.size := by omega
      rw [Array.getD, dif_pos hlt'] at h1
      rw [Array.getElem?_toList, Array.getElem?_eq_getElem hlt']
      exact congrArg some h1
    have hnext : ∀ (v : Value) (w' : World), Below w.heap.size w w' → S i v w' → wpAnyIn F n P .any l.toArray Q f (L.setIfInBounds i true) (a.put o.dst v) w' := by
      intro v w' hB' hv
      rw [hd]
      refine ih _ _ w' (by simpa using hs) ?_ (then_below hT hB') ⟨?_, ?_, ?_⟩ ?_
      · have := count_set L.toList i hnot
        rw [Array.toList_setIfInBounds]
        omega
      · simp [Act.put]; exact hL.size
      · simp [Act.put]; exact hL.defers
      · intro t ht
        rw [put_ne (ht i hil)]
        exact hL.out t ht
      · intro j hj
        by_cases hij : j = i
        · subst hij
          show S j ((a.put (some (dstOf l j)) v).tmps.getD (dstOf l j) undef) w'
          rw [put_at (by rw [hL.size]; exact hlt)]
          exact hv
        · have hjl : L.getD j false = true := by
            rw [Array.getD_eq_getD_getElem?, Array.getElem?_setIfInBounds_ne (Ne.symm hij), ← Array.getD_eq_getD_getElem?] at hj
            exact hj
          have hjlt : j < l.length := by
            rcases Nat.lt_or_ge j L.size with h | h
            · omega
            · rw [Array.getD, dif_neg (by omega)] at hjl; cases hjl
          show S j ((a.put (some (dstOf l i)) v).tmps.getD (dstOf l j) undef) w'
          rw [getD_ne (hne j hjlt hij)]
          exact hS _ _ _ _ (hA j hjl) hB'
    have hfn : ∀ f, o.about P w a.eval = some f → F.fn f := fun f _ => hF.fn f
    simp only [wpOpIn, ho, Region.wanted, hg, if_true]
    refine ⟨hfn, ?_⟩
    rw [Oper.semAt_eq _ _ _ (noDefer_spec hnd ho)]
    rcases hcome with ⟨v, w', e, hB', hv⟩ | ⟨g, args, e, hc'⟩
    · rw [e]; exact hnext v w' hB' hv
    · rw [e]
      refine ⟨fun hx => (hF.depth hx).elim, hF.calls _ _ _ _ _ (hc'.mono ?_)⟩
      rintro x w' ⟨v, rfl, hB', hv⟩
      exact hnext v w' hB' hv

/-- In whatever order: each operation's word holds at the end. -/
theorem wp_region_loud2 {id : Nat} (S : Nat → Value → World → Prop) (hm : P.follows .mixedOrders = true) (hB : soloB l a0.tmps.size = true)
    (hS : ∀ i v w w', S i v w → Below w.heap.size w w' → S i v w')
    (hop : ∀ (i : Nat) (o : Oper), l[i]? = some o → ∀ (a : Act) (w : World), Below w0.heap.size w0 w → Like l a0 a → (∀ e ∈ o.after, Region.binds .any e = true → S e.on (slot l a e.on) w) → Comes2 P o a w (S i))
    (hend : ∀ (v : Nat → Value) (w : World), Below w0.heap.size w0 w → (∀ i, i < l.length → S i (v i) w) → Q .normal ((List.range l.length).foldl (fun b i => b.put (some (dstOf l i)) (v i)) a0) w) :
    (Code.region id l.toArray true).wp P Q a0 w0 := by
  refine (wpIn_wide (n := 0)).1 (wpIn_region_any hm ?_)
  refine any_loud2 (loose_wide P) hB hS hop (fun a w hT hL hA => ?_) _ _ _ _ (by simp) (by simp) ((Below.refl _ w0).drew) ⟨rfl, rfl, fun _ _ => rfl⟩ (fun i hi => ?_)
  · rw [like_puts hL]
    exact hend (slot l a) w hT hA
  · exfalso
    rw [Array.getD_eq_getD_getElem?] at hi
    simp [Array.getElem?_replicate] at hi
    split at hi <;> simp at hi
end
end Go.Proofs.Ytjmfdpilmljppaa
