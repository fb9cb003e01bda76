/-
  What tidehalllaw02's helpers answer: the chapter's dimensions, its box A; its first examples hold. BoxNames.
-/
import Derived.Test.YtjmfdpilmljppaaPart8
import Derived.Test.YtjmfdpilmljppaaPart5
import Derived.Test.YtjmfdpilmljppaaPart7
import Derived.Test.YtjmfdpilmljppaaPart1
import Derived.Test.YtjmfdpilmljppaaProg
import Derived.Test.YtjmfdpilmljppaaPart15
import Derived.Test.YtjmfdpilmljppaaPart11
import Derived.Test.YtjmfdpilmljppaaLawGrow
namespace Go.Proofs.Ytjmfdpilmljppaa
open Go.RowKit Go.Shelf

attribute [local go_sem] Oper.semAt_some ext_const eq_arr eq_arr9 same3_self

theorem Lst.two {W : World} {B base : Nat} {x y : Int} (h : Blk W B 3 #[I x, I y]) (hb : base ≤ B) : Lst W base (.slice (some ⟨B, 0, none⟩) 2 2) [x, y] :=
  ⟨rfl, .inr ⟨B, 2, _, rfl, hb, h, Nat.le_refl _, by unfold maxLen; omega, rfl, rfl⟩⟩

theorem may432b : mayD 4 3 2 := by unfold mayD okD; omega
abbrev bxA : Bx := ⟨3, 0, 0, 2, 1, 1⟩
theorem mayA : mayB 4 3 2 bxA := by unfold mayB mayS; decide

theorem nodesA : nodesB 4 3 2 bxA = [0, 3] := by decide

end Go.Proofs.Ytjmfdpilmljppaa

/-
  What the document's own answer for layer 2 (tidehallref02) gives: Nodes, Meet, Within.
-/
namespace Go.Proofs.Ytjmfdpilmljppaa
open Go.RowKit Go.Shelf

attribute [local go_sem] Oper.semAt_some ext_const

theorem getD_at {l : List Int} {k : Nat} (h : k < l.length) : l.getD k 0 = l[k] := by simp [h]
theorem nodesB_mem {d0 d1 d2 : Int} (hm : mayD d0 d1 d2) {b : Bx} {m : Int} : m ∈ nodesB d0 d1 d2 b ↔ (0 ≤ m ∧ m < d0 * d1 * d2) ∧ hasB d0 d1 d2 b m = true := by
  have := N_bd hm
  simp only [nodesB, nodesTo, List.mem_map, List.mem_filter, List.mem_range]
  constructor
  · rintro ⟨j, ⟨h1, h2⟩, rfl⟩
    exact ⟨⟨by omega, by omega⟩, h2⟩
  · rintro ⟨⟨h1, h2⟩, h3⟩
    exact ⟨m.toNat, ⟨by omega, by rw [Int.toNat_of_nonneg h1]; exact h3⟩, Int.toNat_of_nonneg h1⟩
theorem nodesB_get {d0 d1 d2 : Int} (hm : mayD d0 d1 d2) {b : Bx} {k : Nat} (hk : k < (nodesB d0 d1 d2 b).length) : (0 ≤ (nodesB d0 d1 d2 b).getD k 0 ∧ (nodesB d0 d1 d2 b).getD k 0 < d0 * d1 * d2) ∧ hasB d0 d1 d2 b ((nodesB d0 d1 d2 b).getD k 0) = true :=
  (nodesB_mem hm).1 (by rw [getD_at hk]; exact List.getElem_mem hk)
theorem meetB_list {d0 d1 d2 : Int} (hm : mayD d0 d1 d2) {a b : Bx} (ha : mayB d0 d1 d2 a) (hb : mayB d0 d1 d2 b) {k : Nat} (hk : (nodesB d0 d1 d2 a).length ≤ k) (h : ∀ j, j < k → hasB d0 d1 d2 b ((nodesB d0 d1 d2 a).getD j 0) = false) : meetB d0 d1 d2 a b = false := by
  rw [← Bool.not_eq_true, meetB_iff hm ha hb]
  rintro ⟨m, h1, h2, h3⟩
  obtain ⟨j, hj, he⟩ := List.getElem_of_mem ((nodesB_mem hm).2 ⟨h1, h2⟩)
  have := h j (by omega)
  rw [getD_at hj, he, h3] at this
  cases this
theorem meetB_some {d0 d1 d2 : Int} (hm : mayD d0 d1 d2) {a b : Bx} (ha : mayB d0 d1 d2 a) (hb : mayB d0 d1 d2 b) {k : Nat} (hk : k < (nodesB d0 d1 d2 a).length) (h : hasB d0 d1 d2 b ((nodesB d0 d1 d2 a).getD k 0) = true) : meetB d0 d1 d2 a b = true :=
  (meetB_iff hm ha hb).2 ⟨_, (nodesB_get hm hk).1, (nodesB_get hm hk).2, h⟩
theorem inB_list {d0 d1 d2 : Int} (hm : mayD d0 d1 d2) {a b : Bx} (ha : mayB d0 d1 d2 a) (hb : mayB d0 d1 d2 b) {k : Nat} (hk : (nodesB d0 d1 d2 a).length ≤ k) (h : ∀ j, j < k → j < (nodesB d0 d1 d2 a).length → hasB d0 d1 d2 b ((nodesB d0 d1 d2 a).getD j 0) = true) : inB d0 d1 d2 a b = true := by
  rw [inB_iff hm ha hb]
  intro m h1 h2
  obtain ⟨j, hj, he⟩ := List.getElem_of_mem ((nodesB_mem hm).2 ⟨h1, h2⟩)
  have := h j (by omega) hj
  rwa [getD_at hj, he] at this
theorem inB_some {d0 d1 d2 : Int} (hm : mayD d0 d1 d2) {a b : Bx} (ha : mayB d0 d1 d2 a) (hb : mayB d0 d1 d2 b) {k : Nat} (hk : k < (nodesB d0 d1 d2 a).length) (h : hasB d0 d1 d2 b ((nodesB d0 d1 d2 a).getD k 0) = false) : inB d0 d1 d2 a b = false := by
  rw [← Bool.not_eq_true, inB_iff hm ha hb]
  intro hall
  have := hall _ (nodesB_get hm hk).1 (nodesB_get hm hk).2
  rw [h] at this
  cases this

end Go.Proofs.Ytjmfdpilmljppaa

/-
  The program's call and the document's answer come to one value.
-/
namespace Go.Proofs.Ytjmfdpilmljppaa
open Go.RowKit Go.Shelf

/-- The program's call and the document's answer come to one value. -/
def Both (f g : FuncId) (args : Array Value) (v : Value) : Prop :=
  (∀ w : World, Calls Try.prog f args w fun x W' => x = .returned v ∧ Below w.heap.size w W') ∧ (∀ w : World, Calls Try.prog g args w fun x W' => x = .returned v ∧ Below w.heap.size w W')

end Go.Proofs.Ytjmfdpilmljppaa

/-
  tidehalllaw02.BoxTwo and BoxTells return true, whatever they are handed; nothing that lay before is turned.
-/
namespace Go.Proofs.Ytjmfdpilmljppaa
open Go.RowKit Go.Shelf

attribute [local go_sem] Oper.semAt_some ext_const eq_arr eq_arr9 same3_self

theorem errB_bd (d0 d1 d2 : Int) (b : Bx) : 0 ≤ errB d0 d1 d2 b ∧ errB d0 d1 d2 b ≤ 8 := by
  rcases errB_cases d0 d1 d2 b with ⟨_, _, h⟩ | ⟨h | h, _⟩ <;> omega
theorem errB_ne {d0 d1 d2 : Int} {b : Bx} (h : ¬ (mayD d0 d1 d2 ∧ mayB d0 d1 d2 b)) : (errB d0 d1 d2 b != 0) = true := by
  rcases errB_cases d0 d1 d2 b with ⟨h1, h2, _⟩ | ⟨h1 | h1, _⟩
  · exact absurd ⟨h1, h2⟩ h
  · rw [h1]; rfl
  · rw [h1]; rfl
theorem errB2_ne {d0 d1 d2 : Int} {a b : Bx} (h : ¬ (mayD d0 d1 d2 ∧ mayB d0 d1 d2 a ∧ mayB d0 d1 d2 b)) : (errB2 d0 d1 d2 a b != 0) = true := by
  by_cases hm : mayD d0 d1 d2
  · rw [errB2_no hm (fun k => h ⟨hm, k⟩)]; rfl
  · rw [errB2_bad hm]; rfl
theorem errB2_bd (d0 d1 d2 : Int) (a b : Bx) : 0 ≤ errB2 d0 d1 d2 a b ∧ errB2 d0 d1 d2 a b ≤ 8 := by
  unfold errB2 codeOf
  split
  · split <;> omega
  · omega

/-- A call that answers a list in new memory, and an error. -/
def Lists (f : FuncId) (args : Array Value) (L : List Int) (e : Int) : Prop :=
  ∀ w : World, Calls Try.prog f args w fun x W' => ∃ v, x = .returned (.tuple #[v, I e]) ∧ Lst W' 0 v L ∧ Below w.heap.size w W'
end Go.Proofs.Ytjmfdpilmljppaa

/-
  tidehalllaw02.BoxHas returns true, whatever it is handed; nothing that lay before is turned.
-/
namespace Go.Proofs.Ytjmfdpilmljppaa
open Go.RowKit Go.Shelf

attribute [local go_sem] Oper.semAt_some ext_const eq_arr

/-- How many coordinates a side has below n. -/
theorem coordsTo_count {r b s : Int} (h : mayS r b s) : ∀ n : Nat, (n : Int) ≤ r → ((coordsTo r b s n).length : Int) = if b + s ≤ r then min (n : Int) (b + s) - min (n : Int) b else min (n : Int) (b + s - r) + max 0 ((n : Int) - b) := by
  obtain ⟨⟨h1, h2⟩, h3, h4⟩ := h
  intro n
  induction n with
  | zero => intro _; simp [coordsTo]; split <;> omega
  | succ n ih =>
    intro hn
    have ih := ih (by omega)
    cases hq : hasS r b s n
    · rw [coordsTo_no hq, ih]
      simp only [hasS, decide_eq_false_iff_not] at hq
      unfold aft at hq
      split <;> split at hq <;> omega
    · rw [coordsTo_yes hq, List.length_append, Int.natCast_add, ih]
      simp only [hasS, decide_eq_true_eq] at hq
      unfold aft at hq
      simp only [List.length_cons, List.length_nil]
      split <;> split at hq <;> omega
theorem coordsS_count {r b s : Int} (h : mayS r b s) : ((coordsS r b s).length : Int) = s := by
  have h' := h
  obtain ⟨⟨h1, h2⟩, h3, h4⟩ := h'
  have := coordsTo_count h r.toNat (by omega)
  unfold coordsS
  rw [this]
  split <;> omega
theorem flat_len {f : Int → List Int} {c : Nat} : ∀ {l : List Int}, (∀ a, (f a).length = c) → (l.flatMap f).length = l.length * c
  | [], _ => by simp
  | a :: l, h => by
    rw [List.flatMap_cons, List.length_append, h a, flat_len h, List.length_cons, Nat.succ_mul]
    omega
theorem nodesB_count {d0 d1 d2 : Int} {b : Bx} (hm : mayD d0 d1 d2) (hb : mayB d0 d1 d2 b) : ((nodesB d0 d1 d2 b).length : Int) = manyB b := by
  rw [← nodesB_flat hm, flat_len (c := (coordsS d1 b.y b.b).length * (coordsS d0 b.x b.a).length)]
  · rw [Int.natCast_mul, Int.natCast_mul, coordsS_count hb.1, coordsS_count hb.2.1, coordsS_count hb.2.2]
    unfold manyB
    rw [Int.mul_comm b.c, Int.mul_comm b.b]
  · intro z
    rw [flat_len (c := (coordsS d0 b.x b.a).length)]
    intro y
    simp

theorem nodesTo_prefix (d0 d1 d2 : Int) (b : Bx) {m n : Nat} (h : m ≤ n) : nodesTo d0 d1 d2 b m <+: nodesTo d0 d1 d2 b n := by
  induction n with
  | zero => rw [Nat.le_zero.1 h]; exact List.prefix_rfl
  | succ n ih =>
    rcases Nat.lt_or_eq_of_le h with h | rfl
    · refine (ih (by omega)).trans ?_
      cases hq : hasB d0 d1 d2 b n
      · rw [nodesTo_no hq]; exact List.prefix_rfl
      · rw [nodesTo_yes hq]; exact List.prefix_append _ _
    · exact List.prefix_rfl
theorem nodes_at {d0 d1 d2 : Int} {b : Bx} {m : Nat} (hn : m < (d0 * d1 * d2).toNat) (h : hasB d0 d1 d2 b m = true) :
    (nodesTo d0 d1 d2 b m).length < (nodesB d0 d1 d2 b).length ∧ (nodesB d0 d1 d2 b).getD (nodesTo d0 d1 d2 b m).length 0 = m := by
  have hp := nodesTo_prefix d0 d1 d2 b (show m + 1 ≤ (d0 * d1 * d2).toNat by omega)
  rw [nodesTo_yes h] at hp
  obtain ⟨t, ht⟩ := hp
  unfold nodesB
  rw [← ht]
  constructor
  · simp
  · simp

end Go.Proofs.Ytjmfdpilmljppaa

/-
  What GrowAll and GrowMost ask, without a program: with nothing taken the whole machine is the only one that lies in no other; how many the largest free box can have; each free box lies in one that lies in no other one.
-/
namespace Go.Proofs.Ytjmfdpilmljppaa
open Go Go.RowKit Go.Shelf

theorem topM_pos : ∀ (xs : List Bx), 0 ≤ topM xs := by
  intro xs
  unfold topM
  have : ∀ (xs : List Bx) (m : Int), 0 ≤ m → 0 ≤ xs.foldl (fun m b => max m (manyB b)) m := by
    intro xs
    induction xs with
    | nil => intro m h; exact h
    | cons x xs ih => intro m h; exact ih _ (show 0 ≤ max m (manyB x) by omega)
  exact this xs 0 (by omega)
theorem topM_le {R : Int} (hR : 0 ≤ R) : ∀ {xs : List Bx}, (∀ x ∈ xs, manyB x ≤ R) → topM xs ≤ R := by
  intro xs hx
  unfold topM
  have : ∀ (xs : List Bx) (m : Int), (∀ x ∈ xs, manyB x ≤ R) → m ≤ R → xs.foldl (fun m b => max m (manyB b)) m ≤ R := by
    intro xs
    induction xs with
    | nil => intro m _ h; exact h
    | cons x xs ih =>
      intro m h hm
      have := h x (by simp)
      exact ih _ (fun y hy => h y (by simp [hy])) (show max m (manyB x) ≤ R by omega)
  exact this xs 0 hx hR
theorem topM_ge {xs : List Bx} {x : Bx} (hx : x ∈ xs) : manyB x ≤ topM xs := by
  unfold topM
  have hm : ∀ (xs : List Bx) (m : Int), m ≤ xs.foldl (fun m b => max m (manyB b)) m := by
    intro xs
    induction xs with
    | nil => intro m; exact Int.le_refl _
    | cons x xs ih => intro m; exact Int.le_trans (by omega) (ih (max m (manyB x)))
  have : ∀ (xs : List Bx) (m : Int), x ∈ xs → manyB x ≤ xs.foldl (fun m b => max m (manyB b)) m := by
    intro xs
    induction xs with
    | nil => intro m h; cases h
    | cons y xs ih =>
      intro m h
      rcases List.mem_cons.1 h with rfl | h
      · exact Int.le_trans (by omega) (hm xs (max m (manyB x)))
      · exact ih _ h
  exact this xs 0 hx

/-- The whole machine. -/
abbrev wholeX (d0 d1 d2 : Int) : Bx := ⟨0, 0, 0, d0, d1, d2⟩
theorem wholeX_may {d0 d1 d2 : Int} (hd : mayD d0 d1 d2) : mayB d0 d1 d2 (wholeX d0 d1 d2) ∧ canonB d0 d1 d2 (wholeX d0 d1 d2) = wholeX d0 d1 d2 := by
  obtain ⟨⟨a1, a2⟩, ⟨b1, b2⟩, c1, c2⟩ := hd
  refine ⟨⟨⟨⟨a1, Int.le_refl _⟩, by show (0 : Int) ≤ 0 ∧ 0 < d0; omega⟩, ⟨⟨b1, Int.le_refl _⟩, by show (0 : Int) ≤ 0 ∧ 0 < d1; omega⟩, ⟨c1, Int.le_refl _⟩, by show (0 : Int) ≤ 0 ∧ 0 < d2; omega⟩, ?_⟩
  simp [canonB]
theorem no_step {d0 d1 d2 : Int} {q : Bx → Bool} {b : Bx} (h : nextG d0 d1 d2 q b = none) {k : Fin 3} {back : Bool} (hk : sAt b k + 1 ≤ dimAt d0 d1 d2 k) : q (stepB d0 d1 d2 b k back) = false := by
  have := next_none_iff.1 h (k, back)
  unfold tryG at this
  rw [decide_eq_true hk, Bool.true_and] at this
  exact this
theorem grown_same {d0 d1 d2 : Int} (hd : mayD d0 d1 d2) {xs : List Bx} {b : Bx} (hb : mayB d0 d1 d2 b) (hc : canonB d0 d1 d2 b = b) (hx : b ∈ xs) : lonely d0 d1 d2 xs b = true ↔ nextG d0 d1 d2 (memX xs) b = none := by
  unfold lonely
  rw [sameBx_iff]
  constructor
  · intro h
    have := (grow_is hd (q := memX xs) 48 hb hc (memX_iff.2 hx) (by
      have h1 := hb.1.1.1; have h2 := hb.2.1.1.1; have h3 := hb.2.2.1.1
      show 48 - szB b ≤ ((48 : Nat) : Int)
      unfold szB
      omega)).2.2.2.2
    rwa [h] at this
  · exact grow_none
theorem lonely_all {d0 d1 d2 : Int} (hd : mayD d0 d1 d2) {xs : List Bx} (hall : ∀ b, mayB d0 d1 d2 b → canonB d0 d1 d2 b = b → b ∈ xs) (hmay : ∀ b ∈ xs, mayB d0 d1 d2 b ∧ canonB d0 d1 d2 b = b) {b : Bx} (hb : b ∈ xs) : lonely d0 d1 d2 xs b = true ↔ b = wholeX d0 d1 d2 := by
  obtain ⟨mb, cb⟩ := hmay b hb
  rw [grown_same hd mb cb hb]
  constructor
  · intro h
    have full : ∀ k : Fin 3, sAt b k = dimAt d0 d1 d2 k := fun k => by
      have h1 := (mayB_at mb k).1.2
      by_cases hk : sAt b k + 1 ≤ dimAt d0 d1 d2 k
      · obtain ⟨m1, m2, _⟩ := step_is hd mb hk false
        have := no_step h (back := false) hk
        rw [memX_iff.2 (hall _ m1 m2)] at this
        cases this
      · omega
    have f0 : b.a = d0 := full 0
    have f1 : b.b = d1 := full 1
    have f2 : b.c = d2 := full 2
    obtain ⟨x, y, z, u, v, t⟩ := b
    simp only at f0 f1 f2
    subst f0 f1 f2
    simp only [canonB, if_true] at cb
    injection cb with e0 e1 e2
    rw [← e0, ← e1, ← e2]
  · rintro rfl
    refine next_none_iff.2 fun s => ?_
    unfold tryG
    obtain ⟨k, back⟩ := s
    have : ¬ (sAt (wholeX d0 d1 d2) k + 1 ≤ dimAt d0 d1 d2 k) := by
      match k with
      | 0 => show ¬ (d0 + 1 ≤ d0); omega
      | 1 => show ¬ (d1 + 1 ≤ d1); omega
      | 2 => show ¬ (d2 + 1 ≤ d2); omega
    rw [decide_eq_false this, Bool.false_and]

theorem sizesZ_nodup (a b c : Nat) : (sizesZ a b c).Pairwise (· ≠ ·) := by
  have hr : ∀ x y : Nat, (rowZ x y c).Pairwise (· ≠ ·) := fun x y => by
    unfold rowZ
    rw [List.pairwise_map]
    exact List.nodup_range.imp fun {i j} hne e => hne (by
      have := congrArg (fun t : Tz => t.2.2) e
      simp only at this
      omega)
  have hp : ∀ x : Nat, (planeZ c x b).Pairwise (· ≠ ·) := fun x => by
    unfold planeZ
    rw [List.pairwise_flatMap]
    refine ⟨fun y _ => hr x y, List.nodup_range.imp fun {i j} hne => ?_⟩
    intro s hs t ht e
    subst e
    simp only [rowZ, List.mem_map] at hs ht
    obtain ⟨_, _, e1⟩ := hs
    obtain ⟨_, _, e2⟩ := ht
    have q1 := congrArg (fun t : Tz => t.2.1) e1
    have q2 := congrArg (fun t : Tz => t.2.1) e2
    simp only at q1 q2
    exact hne (by omega)
  unfold sizesZ cubeZ
  rw [List.pairwise_flatMap]
  refine ⟨fun x _ => hp x, List.nodup_range.imp fun {i j} hne => ?_⟩
  intro s hs t ht e
  subst e
  simp only [planeZ, rowZ, List.mem_flatMap, List.mem_map] at hs ht
  obtain ⟨_, _, _, _, e1⟩ := hs
  obtain ⟨_, _, _, _, e2⟩ := ht
  have q1 := congrArg (fun t : Tz => t.1) e1
  have q2 := congrArg (fun t : Tz => t.1) e2
  simp only at q1 q2
  exact hne (by omega)
theorem boxesZ_nodup (d0 d1 d2 : Int) : (boxesZ d0 d1 d2).Pairwise (· ≠ ·) := by
  unfold boxesZ bxP
  rw [List.pairwise_flatMap]
  refine ⟨fun m _ => ?_, List.nodup_range.imp fun {i j} hne => ?_⟩
  · unfold bxL
    refine List.Pairwise.filter _ ?_
    rw [List.pairwise_map]
    exact (sizesZ_nodup _ _ _).imp fun {s t} hne e => hne (by
      obtain ⟨s1, s2, s3⟩ := s
      obtain ⟨t1, t2, t3⟩ := t
      unfold bxZ at e
      injection e with _ _ _ q1 q2 q3
      simp only at q1 q2 q3
      rw [q1, q2, q3])
  · intro x hx y hy e
    subst e
    simp only [bxL, List.mem_filter, List.mem_map] at hx hy
    obtain ⟨⟨s, _, e1⟩, _⟩ := hx
    obtain ⟨⟨t, _, e2⟩, _⟩ := hy
    have e := e1.trans e2.symm
    unfold bxZ at e
    injection e with q1 q2 q3 _ _ _
    have n1 := num_of_node (d0 := d0) (d1 := d1) (m := (i : Int))
    have n2 := num_of_node (d0 := d0) (d1 := d1) (m := (j : Int))
    rw [q1, q2, q3] at n1
    exact hne (by omega)
theorem filter_one {F : Bx} {p : Bx → Bool} : ∀ {xs : List Bx}, xs.Pairwise (· ≠ ·) → F ∈ xs → (∀ x ∈ xs, p x = true ↔ x = F) → xs.filter p = [F]
  | [], _, h, _ => by cases h
  | x :: xs, hn, h, hp => by
    obtain ⟨h1, h2⟩ := List.pairwise_cons.1 hn
    by_cases e : x = F
    · subst e
      rw [List.filter_cons_of_pos ((hp x (by simp)).2 rfl)]
      congr 1
      rw [List.filter_eq_nil_iff]
      intro y hy hpy
      exact h1 y hy ((hp y (by simp [hy])).1 hpy).symm
    · rw [List.filter_cons_of_neg (fun hpx => e ((hp x (by simp)).1 hpx))]
      exact filter_one h2 ((List.mem_cons.1 h).resolve_left fun k => e k.symm) fun y hy => hp y (by simp [hy])

theorem freeL_nodup (d0 d1 d2 : Int) (ws : List Nat) : (freeL d0 d1 d2 ws).Pairwise (· ≠ ·) := List.Pairwise.filter _ (boxesZ_nodup d0 d1 d2)
theorem errF_ok {d0 d1 d2 : Int} {ws : List Nat} (hd : mayD d0 d1 d2) (he : errAll (d0 * d1 * d2) [ws] = 0) (hn : d0 * d1 * d2 ≤ 64) : errF d0 d1 d2 ws = 0 := by
  rcases errG_cases d0 d1 d2 ws with ⟨_, _, hr⟩ | ⟨h, _⟩ | ⟨_, h, _⟩
  · simp [errF, hr, hn]
  · exact absurd hd h
  · rw [he] at h; cases h
theorem most_none {d0 d1 d2 : Int} {S : List Nat} (hd : mayD d0 d1 d2) (he : errAll (d0 * d1 * d2) [S] = 0) (hn : d0 * d1 * d2 ≤ 64) (hS : ∀ k, hasW S k = false) : mostV d0 d1 d2 S = [wholeX d0 d1 d2] := by
  unfold mostV
  rw [if_pos (errF_ok hd he hn)]
  unfold mostL
  have hm : ∀ b, b ∈ freeL d0 d1 d2 S ↔ mayB d0 d1 d2 b ∧ canonB d0 d1 d2 b = b := fun b => by
    unfold freeL
    rw [List.mem_filter, boxesZ_mem hd, clearX_iff]
    exact ⟨fun h => h.1, fun h => ⟨h, fun k _ _ => hS k⟩⟩
  exact filter_one (freeL_nodup _ _ _ _) ((hm _).2 (wholeX_may hd)) fun x hx => lonely_all hd (fun b h1 h2 => (hm b).2 ⟨h1, h2⟩) (fun b hb => (hm b).1 hb) hx
theorem top_mono {d0 d1 d2 : Int} {a c : List Nat} (h : ∀ k : Nat, hasW a k = true → hasW c k = true) : topM (freeL d0 d1 d2 c) ≤ topM (freeL d0 d1 d2 a) := by
  refine topM_le (topM_pos _) fun x hx => topM_ge ?_
  unfold freeL at hx ⊢
  rw [List.mem_filter] at hx ⊢
  refine ⟨hx.1, clearX_iff.2 fun k hk hb => ?_⟩
  have := clearX_iff.1 hx.2 k hk hb
  cases ha : hasW a k
  · rfl
  · rw [h k ha] at this; cases this

theorem count_off : ∀ (l : List Nat) (p q : Nat → Bool), (∀ k ∈ l, p k = true → q k = false) → (l.filter p).length + (l.filter q).length ≤ l.length
  | [], _, _, _ => by simp
  | x :: l, p, q, h => by
    have := count_off l p q fun k hk => h k (by simp [hk])
    have hx := h x (by simp)
    cases hp : p x <;> cases hq : q x <;> simp [hp, hq] at hx ⊢ <;> omega
theorem set_count {n : Nat} {ws : List Nat} (he : errAll (n : Int) [ws] = 0) : manyR n ws = ((List.range n).filter fun k => hasW ws k).length := by
  obtain ⟨h1, h2, hm⟩ := err_one he
  obtain ⟨hl, hz⟩ := mayS_iff.1 hm
  rw [manyR_in he, manyS_to hl]
  have e : 64 * (((n : Int).toNat + 63) / 64) = n + (64 * ((n + 63) / 64) - n) := by
    rw [Int.toNat_natCast]; omega
  rw [e]
  have hmw : ∀ j, listTo ws (n + j) = listTo ws n := by
    intro j
    induction j with
    | zero => rfl
    | succ j ih => rw [← Nat.add_assoc, listTo_no (hz (n + j) (by rw [Int.toNat_natCast]; omega)), ih]
  rw [hmw]
  rfl
theorem top_room {d0 d1 d2 : Int} {ws : List Nat} (hd : mayD d0 d1 d2) (he : errAll (d0 * d1 * d2) [ws] = 0) : topM (freeL d0 d1 d2 ws) ≤ d0 * d1 * d2 - manyR (d0 * d1 * d2) ws := by
  have hn := N_bd hd
  obtain ⟨N, hN⟩ : ∃ N : Nat, d0 * d1 * d2 = N := ⟨(d0 * d1 * d2).toNat, by omega⟩
  have hk := set_count (n := N) (by rw [← hN]; exact he)
  have hle : ((List.range N).filter fun k => hasW ws k).length ≤ N := Nat.le_trans (List.length_filter_le _ _) (by simp)
  rw [hN, hk]
  refine topM_le (by omega) fun x hx => ?_
  unfold freeL at hx
  rw [List.mem_filter, boxesZ_mem hd] at hx
  have hc := nodesB_count hd hx.1.1
  have hf : (nodesB d0 d1 d2 x).length = ((List.range N).filter fun k : Nat => hasB d0 d1 d2 x (k : Int)).length := by
    unfold nodesB nodesTo
    rw [hN, Int.toNat_natCast, List.length_map]
  have := count_off (List.range N) (fun k : Nat => hasB d0 d1 d2 x (k : Int)) (fun k => hasW ws k) fun k hk2 hb => clearX_iff.1 hx.2 k (by rw [hN]; simpa using hk2) hb
  rw [List.length_range] at this
  omega
theorem hasS_unit {r b c : Int} (hb : 0 ≤ b ∧ b < r) (hc : 0 ≤ c ∧ c < r) : hasS r b 1 c = true ↔ c = b := by
  have := aft_bd hb hc
  simp only [hasS, decide_eq_true_eq]
  unfold aft at this ⊢
  split <;> omega
theorem one_free {d0 d1 d2 : Int} {ws : List Nat} (hd : mayD d0 d1 d2) {m : Nat} (hm : (m : Int) < d0 * d1 * d2) (hw : hasW ws m = false) : (⟨cx d0 m, cy d0 d1 m, cz d0 d1 m, 1, 1, 1⟩ : Bx) ∈ freeL d0 d1 d2 ws := by
  obtain ⟨g1, g2, g3⟩ := inD_of_node hd (m := m) ⟨by omega, hm⟩
  have hb : mayB d0 d1 d2 ⟨cx d0 m, cy d0 d1 m, cz d0 d1 m, 1, 1, 1⟩ := by
    obtain ⟨⟨a1, a2⟩, ⟨b1, b2⟩, c1, c2⟩ := hd
    exact ⟨⟨⟨Int.le_refl 1, a1⟩, g1⟩, ⟨⟨Int.le_refl 1, b1⟩, g2⟩, ⟨Int.le_refl 1, c1⟩, g3⟩
  unfold freeL
  rw [List.mem_filter, boxesZ_mem hd, clearX_iff]
  refine ⟨⟨hb, ?_⟩, fun k hk hh => ?_⟩
  · unfold canonB
    simp only [Bx.mk.injEq, and_true]
    refine ⟨?_, ?_, ?_⟩ <;> split <;> omega
  · have hk2 : ((k : Nat) : Int) < d0 * d1 * d2 := by omega
    obtain ⟨f1, f2, f3⟩ := inD_of_node hd (m := k) ⟨by omega, hk2⟩
    simp only [hasB, Bool.and_eq_true] at hh
    have e0 := (hasS_unit g1 f1).1 hh.1.1
    have e1 := (hasS_unit g2 f2).1 hh.1.2
    have e2 := (hasS_unit g3 f3).1 hh.2
    have n1 := num_of_node (d0 := d0) (d1 := d1) (m := (k : Int))
    have n2 := num_of_node (d0 := d0) (d1 := d1) (m := (m : Int))
    rw [e0, e1, e2, n2] at n1
    have : k = m := by omega
    rw [this]
    exact hw
theorem top_zero {d0 d1 d2 : Int} {ws : List Nat} (hd : mayD d0 d1 d2) (he : errAll (d0 * d1 * d2) [ws] = 0) : topM (freeL d0 d1 d2 ws) = 0 ↔ (manyR (d0 * d1 * d2) ws : Int) = d0 * d1 * d2 := by
  have hn := N_bd hd
  have hr := top_room hd he
  have hp := topM_pos (freeL d0 d1 d2 ws)
  constructor
  · intro h
    obtain ⟨N, hN⟩ : ∃ N : Nat, d0 * d1 * d2 = N := ⟨(d0 * d1 * d2).toNat, by omega⟩
    have hk := set_count (n := N) (by rw [← hN]; exact he)
    rw [hN, hk]
    have : ((List.range N).filter fun k => hasW ws k) = List.range N := by
      rw [List.filter_eq_self]
      intro k hk2
      have hk3 : k < N := by simpa using hk2
      cases hw : hasW ws k
      · have := topM_ge (one_free hd (m := k) (by omega) hw)
        rw [h] at this
        exact absurd this (by show ¬ ((1 * 1 * 1 : Int) ≤ 0); decide)
      · rfl
    rw [this, List.length_range]
  · intro h
    omega

end Go.Proofs.Ytjmfdpilmljppaa

/-
  tidehallref13.may, Clear, inside.
-/
namespace Go.Proofs.Ytjmfdpilmljppaa
open Go Go.RowKit Go.Shelf Go.Maps

attribute [local go_sem] Oper.semAt_some ext_const
attribute [local go_sem high] eq_box

theorem errG_bool {d0 d1 d2 : Int} {ws : List Nat} : (okDB d0 d1 d2 && maySet (d0 * d1 * d2).toNat ws) = decide (errG d0 d1 d2 ws = 0) := by
  unfold errG
  cases okDB d0 d1 d2 && maySet (d0 * d1 * d2).toNat ws <;> rfl

set_option maxRecDepth 100000 in
set_option maxHeartbeats 4000000 in
theorem rgmay_calls {v : Value} {ws : List Nat} (d0 d1 d2 : Int) (w : World) (hv : Wds w v ws) :
    Calls Try.prog 33 #[A3 d0 d1 d2, v] w fun e W' => e = .returned (.bool (decide (errG d0 d1 d2 ws = 0))) ∧ Below w.heap.size w W' := by
  have hB0 : Below w.heap.size w (w.alloc (.cells #[I d0, I d1, I d2] 26)) := (Below.refl _ w).alloc (Nat.le_refl _) _
  have b0 := Blk.new w 26 #[I d0, I d1, I d2]
  rw [← errG_bool]
  by_cases hd : mayD d0 d1 d2
  · have hn := N_bd hd
    have HM : Hid (∀ w, Calls Try.prog 61 #[A3 d0 d1 d2] w fun e W' => e = .returned (.bool true) ∧ Below w.heap.size w W') := fun w => rmay_yes w hd
    have HN : Hid (∀ w, Calls Try.prog 34 #[A3 d0 d1 d2] w fun e W' => e = .returned (I (d0 * d1 * d2)) ∧ Below w.heap.size w W') := fun w => rn_calls w hd
    have HS : Hid (∀ w1, Below w.heap.size w w1 → Calls Try.prog 62 #[I (d0 * d1 * d2), v] w1 fun e W' => e = .returned (.bool (maySet (d0 * d1 * d2).toNat ws)) ∧ W' = w1) := fun w1 h1 => by
      have := may_calls w1 (hv.later h1) (d0 * d1 * d2).toNat (by omega) (by omega)
      rw [Int.toNat_of_nonneg (by omega)] at this
      exact this
    obtain ⟨ao, cap, rfl, _⟩ := hv.view
    rw [(okDB_iff _ _ _).2 hd, Bool.true_and]
    clear hd hv hn
    generalize maySet (d0 * d1 * d2).toNat ws = ans at *
    generalize d0 * d1 * d2 = N at *
    generalize ws.length = n at *
    obtain ⟨e0, e1, e2, ez⟩ := b0.three (Below.refl _ _)
    go_enter Try.func33, Try.ntmps33
    go_wp2_with fail
    refine (HM.out _).mono ?_
    rintro e w1 ⟨rfl, hB⟩
    have hT := then_below hB0 hB
    replace b0 := b0.later hB
    clear hB hB0 HM e0 e1 e2 ez
    obtain ⟨e0, e1, e2, ez⟩ := b0.three (Below.refl _ _)
    go_wp2_with fail
    refine (HN.out _).mono ?_
    rintro e w2 ⟨rfl, hB⟩
    replace hT := then_below hT hB
    clear hB HN e0 e1 e2 ez b0
    go_wp2_with fail
    refine (HS.out _ hT).mono ?_
    rintro e w3 ⟨rfl, hw⟩
    subst hw
    cases ans <;> (go_wp2; go_ret; exact ⟨rfl, hT⟩)
  · have HM : Hid (∀ w, Calls Try.prog 61 #[A3 d0 d1 d2] w fun e W' => e = .returned (.bool false) ∧ Below w.heap.size w W') := fun w => rmay_no w hd
    rw [okDB_no hd, Bool.false_and]
    obtain ⟨ao, cap, rfl, _⟩ := hv.view
    clear hd hv
    go_enter Try.func33, Try.ntmps33
    go_wp2_with fail
    refine (HM.out _).mono ?_
    rintro e w1 ⟨rfl, hB⟩
    have hT := then_below hB0 hB
    clear hB hB0 HM
    go_wp2
    go_ret
    exact ⟨rfl, hT⟩

/-- None of the nodes is in the set. -/
theorem clear_all {d0 d1 d2 : Int} (hd : mayD d0 d1 d2) (ws : List Nat) (b : Bx) : clearX d0 d1 d2 ws b = (nodesB d0 d1 d2 b).all fun m => !hasW ws m.toNat := by
  have hn := N_bd hd
  rw [Bool.eq_iff_iff, clearX_iff, List.all_eq_true]
  constructor
  · intro h m hm
    obtain ⟨⟨m0, m1⟩, m2⟩ := nodesP_mem.1 hm
    rw [h m.toNat (by omega) (by rw [Int.toNat_of_nonneg m0]; exact m2)]
    rfl
  · intro h k hk hb
    have := h k (nodesP_mem.2 ⟨⟨by omega, by omega⟩, hb⟩)
    simpa using this
theorem in_all {d0 d1 d2 : Int} (hd : mayD d0 d1 d2) {a b : Bx} (ha : mayB d0 d1 d2 a) (hb : mayB d0 d1 d2 b) : inB d0 d1 d2 a b = (nodesB d0 d1 d2 a).all fun m => hasB d0 d1 d2 b m := by
  rw [Bool.eq_iff_iff, inB_iff hd ha hb, List.all_eq_true]
  constructor
  · intro h m hm
    obtain ⟨h1, h2⟩ := nodesP_mem.1 hm
    exact h m h1 h2
  · intro h m h1 h2
    exact h m (nodesP_mem.2 ⟨h1, h2⟩)

/-- A list of ints at a number. -/
theorem Lst.atG {W : World} {base : Nat} {ao : Option Addr} {n cap : Nat} {xs : List Int} (h : Lst W base (.slice ao n cap) xs) {k : Nat} (hk : k < xs.length) :
    ∃ g cur, ao = some ⟨g, 0, none⟩ ∧ Blk W g 3 cur ∧ cur[k]? = some (I (xs.getD k 0)) := by
  obtain ⟨ao', cap', e, hv⟩ := h.view
  rw [Value.slice.injEq] at e
  obtain ⟨g, cur, hg, hb, hc⟩ := hv k hk
  exact ⟨g, cur, e.1.trans hg, hb, hc⟩
theorem take_nextI {l : List Int} {k : Nat} (h : k < l.length) : l.take (k + 1) = l.take k ++ [l.getD k 0] := by
  rw [List.take_succ_eq_append_getElem h]
  simp [h]

set_option maxRecDepth 100000 in
set_option maxHeartbeats 8000000 in
theorem rgclear_calls {d0 d1 d2 : Int} {b : Bx} {v : Value} {ws : List Nat} (w : World) (hd : mayD d0 d1 d2) (hb : mayB d0 d1 d2 b) (hv : Wds w v ws) :
    Calls Try.prog 40 #[A3 d0 d1 d2, B6 b, v] w fun e W' => e = .returned (.bool (clearX d0 d1 d2 ws b)) ∧ Below w.heap.size w W' := by
  have HA : Hid (∀ w, Calls Try.prog 38 #[A3 d0 d1 d2, B6 b] w fun e W' => ∃ v, e = .returned v ∧ Lst W' w.heap.size v (nodesB d0 d1 d2 b) ∧ Below w.heap.size w W') := fun w => rall_calls w hd hb
  have hn := N_bd hd
  have hlen := nodesB_len hd b
  have HT : Hid (∀ (m : Int) (w1 : World), m ∈ nodesB d0 d1 d2 b → Below w.heap.size w w1 → Calls Try.prog 66 #[v, I m] w1 fun e W' => e = .returned (.bool (hasW ws m.toNat)) ∧ W' = w1) := fun m w1 hm h1 => by
    obtain ⟨⟨m0, m1⟩, _⟩ := nodesP_mem.1 hm
    have := there_calls w1 (hv.later h1) m.toNat (by omega)
    rw [Int.toNat_of_nonneg m0] at this
    exact this
  have HR : Hid (clearX d0 d1 d2 ws b = (nodesB d0 d1 d2 b).all fun m => !hasW ws m.toNat) := clear_all hd ws b
  obtain ⟨ao, cap, rfl, _⟩ := hv.view
  clear hd hb hv hn
  generalize clearX d0 d1 d2 ws b = ans at *
  generalize nodesB d0 d1 d2 b = ns at *
  generalize hl : ws.length = n at *
  clear hl
  obtain ⟨W, hW, hB0, b0, b1⟩ := two_start w #[I d0, I d1, I d2] (C6 b) 26 32
  have HW : Hid ((w.alloc (.cells #[I d0, I d1, I d2] 26)).alloc (.cells (C6 b) 32) = W) := hW
  clear hW b0 b1
  go_enter Try.func40, Try.ntmps40
  go_wp2_with fail
  rw [HW.out]
  refine (HA.out _).mono ?_
  rintro e w1 ⟨u, rfl, hL, hB⟩
  have hT := then_below hB0 hB
  clear hB hB0 HA HW
  obtain ⟨no, nc, rfl, _⟩ := hL.view
  go_wp2
  go_loopw [8] (fun i wr => ∃ (k : Nat), k ≤ ns.length ∧ i = .int .i64 k ∧ Hid (((ns.take k).all fun m => !hasW ws m.toNat) = true) ∧ Lst wr W.heap.size (.slice no ns.length nc) ns ∧ Hid (Below w.heap.size w wr)) (fun i _ => ns.length - (RowKit.intOf i).toNat)
  case atStart => exact ⟨0, by omega, rfl, rfl, hL, hT⟩
  case round =>
    clear hL hT
    obtain ⟨k, hk, rfl, Hk, hL, HB⟩ := hrel
    by_cases hlt : (k : Int) < (ns.length : Int)
    · have hk2 : k < ns.length := by omega
      obtain ⟨gn, cur, rfl, hcur, hcv⟩ := hL.atG hk2
      have hm : ns.getD k 0 ∈ ns := by simp [hk2]
      have HTk : Hid (∀ w1, Below w.heap.size w w1 → Calls Try.prog 66 #[.slice ao n cap, I (ns.getD k 0)] w1 fun e W' => e = .returned (.bool (hasW ws (ns.getD k 0).toNat)) ∧ W' = w1) := fun w1 h1 => HT.out _ w1 hm h1
      have HN1 : Hid (hasW ws (ns.getD k 0).toNat = false → ((ns.take (k + 1)).all fun m => !hasW ws m.toNat) = true) := fun h => by
        rw [take_nextI hk2, List.all_append, Hk.out]
        simp only [List.all_cons, List.all_nil, h]
        rfl
      have HN0 : Hid (hasW ws (ns.getD k 0).toNat = true → ans = false) := fun h => by
        rw [HR.out, List.all_eq_false]
        exact ⟨_, hm, by rw [h]; decide⟩
      generalize hasW ws (ns.getD k 0).toNat = hw at *
      generalize ns.getD k 0 = m at *
      have c0 : wr.cell? ⟨gn, k, none⟩ = some (I m) := (hcur.cell k).trans hcv
      have hz := hcur.lt
      have HL : Hid (Lst wr W.heap.size (.slice (some ⟨gn, 0, none⟩) ns.length nc) ns) := hL
      clear hm hcur hcv hL Hk
      go_wp2_with fail
      refine (HTk.out _ HB.out).mono ?_
      rintro e w2 ⟨rfl, hw2⟩
      subst hw2
      clear HTk
      cases hw
      · have H1 : Hid (((ns.take (k + 1)).all fun m => !hasW ws m.toNat) = true) := HN1.out rfl
        clear HN1 HN0
        go_wp2
        exact ⟨⟨k + 1, by omega, by go_num, H1.out, HL.out, HB.out⟩, by simp [RowKit.intOf]; omega⟩
      · have H0 : Hid (ans = false) := HN0.out rfl
        clear HN1 HN0
        go_wp2
        go_ret
        exact ⟨by rw [H0.out]; rfl, HB.out⟩
    · obtain rfl : k = ns.length := by omega
      have H1 : Hid (ans = true) := by
        have := Hk.out
        rw [List.take_length] at this
        exact HR.out.trans this
      clear Hk hL
      go_wp2
      go_ret
      exact ⟨by rw [H1.out]; rfl, HB.out⟩

set_option maxRecDepth 100000 in
set_option maxHeartbeats 8000000 in
theorem rginside_calls {d0 d1 d2 : Int} {a b : Bx} (w : World) (hd : mayD d0 d1 d2) (ha : mayB d0 d1 d2 a) (hb : mayB d0 d1 d2 b) :
    Calls Try.prog 37 #[A3 d0 d1 d2, B6 a, B6 b] w fun e W' => e = .returned (.bool (inB d0 d1 d2 a b)) ∧ Below w.heap.size w W' := by
  have mixed : Try.prog.follows .mixedOrders = true := by kernel_rfl
  have HA : Hid (∀ w, Calls Try.prog 38 #[A3 d0 d1 d2, B6 a] w fun e W' => ∃ v, e = .returned v ∧ Lst W' w.heap.size v (nodesB d0 d1 d2 a) ∧ Below w.heap.size w W') := fun w => rall_calls w hd ha
  have hlen := nodesB_len hd a
  have HT : Hid (∀ (m : Int) (w1 : World), m ∈ nodesB d0 d1 d2 a → Calls Try.prog 65 #[A3 d0 d1 d2, B6 b, I m] w1 fun e W' => e = .returned (.bool (hasB d0 d1 d2 b m)) ∧ Below w1.heap.size w1 W') := fun m w1 hm => rin_calls w1 hd hb (nodesP_mem.1 hm).1
  have HR : Hid (inB d0 d1 d2 a b = (nodesB d0 d1 d2 a).all fun m => hasB d0 d1 d2 b m) := in_all hd ha hb
  clear hd ha hb
  generalize inB d0 d1 d2 a b = ans at *
  generalize nodesB d0 d1 d2 a = ns at *
  generalize hasB d0 d1 d2 b = q at *
  obtain ⟨W, hW, hs, hB0, b0, b1, b2⟩ := three_start w #[I d0, I d1, I d2] (C6 a) (C6 b) 26 32 32
  have HW : Hid (((w.alloc (.cells #[I d0, I d1, I d2] 26)).alloc (.cells (C6 a) 32)).alloc (.cells (C6 b) 32) = W) := hW
  clear hW hs b1
  go_enter Try.func37, Try.ntmps37
  go_wp2_with fail
  rw [HW.out]
  refine (HA.out _).mono ?_
  rintro e w1 ⟨u, rfl, hL, hB⟩
  have hT := then_below hB0 hB
  replace b0 := b0.later hB
  replace b2 := b2.later hB
  clear hB hB0 HA HW
  obtain ⟨no, nc, rfl, _⟩ := hL.view
  generalize W.heap.size = nb at *
  generalize w.heap.size + 1 + 1 = B2 at *
  go_wp2
  go_loopw [8] (fun i wr => ∃ (k : Nat), k ≤ ns.length ∧ i = .int .i64 k ∧ Hid ((ns.take k).all q = true) ∧ Lst wr nb (.slice no ns.length nc) ns ∧ Hid (Below w.heap.size w wr) ∧ Blk wr w.heap.size 26 #[I d0, I d1, I d2] ∧ Blk wr B2 32 (C6 b)) (fun i _ => ns.length - (RowKit.intOf i).toNat)
  case atStart => exact ⟨0, by omega, rfl, rfl, hL, hT, b0, b2⟩
  case round =>
    clear hL hT b0 b2
    obtain ⟨k, hk, rfl, Hk, hL, HB, b0, b2⟩ := hrel
    by_cases hlt : (k : Int) < (ns.length : Int)
    · have hk2 : k < ns.length := by omega
      obtain ⟨gn, cur, rfl, hcur, hcv⟩ := hL.atG hk2
      have hm : ns.getD k 0 ∈ ns := by simp [hk2]
      have HTk : Hid (∀ w1, Calls Try.prog 65 #[A3 d0 d1 d2, B6 b, I (ns.getD k 0)] w1 fun e W' => e = .returned (.bool (q (ns.getD k 0))) ∧ Below w1.heap.size w1 W') := fun w1 => HT.out _ w1 hm
      have HN1 : Hid (q (ns.getD k 0) = true → (ns.take (k + 1)).all q = true) := fun h => by
        rw [take_nextI hk2, List.all_append, Hk.out]
        simp only [List.all_cons, List.all_nil, h, Bool.and_self]
      have HN0 : Hid (q (ns.getD k 0) = false → ans = false) := fun h => by
        rw [HR.out, List.all_eq_false]
        exact ⟨_, hm, by rw [h]; decide⟩
      generalize q (ns.getD k 0) = hw at *
      generalize ns.getD k 0 = m at *
      have x0 : ∀ X : Ext wr, X.wd.cell? ⟨gn, k, none⟩ = some (I m) := fun X => ((hcur.later X.le).cell k).trans hcv
      have z0 := Ext.cell b0 0
      have z1 := Ext.cell b0 1
      have z2 := Ext.cell b0 2
      have y0 := Ext.cell b2 0
      have y1 := Ext.cell b2 1
      have y2 := Ext.cell b2 2
      have y3 := Ext.cell b2 3
      have y4 := Ext.cell b2 4
      have y5 := Ext.cell b2 5
      simp at z0 z1 z2 y0 y1 y2 y3 y4 y5
      have HL : Hid (Lst wr nb (.slice (some ⟨gn, 0, none⟩) ns.length nc) ns ∧ Blk wr w.heap.size 26 #[I d0, I d1, I d2] ∧ Blk wr B2 32 (C6 b) ∧ Below w.heap.size w wr) := ⟨hL, b0, b2, HB.out⟩
      clear hm hcur hcv hL Hk b0 b2 HB
      go_wp2_with fail
      refine wp_region_look mixed (by kernel_rfl) ?_
      repeat (go_big_quiet_step ((go_at_call 65; exact calls_ext (HTk.out _))))
      refine wpQuiet_nil ?_
      intro X
      have hX := X.le
      have HL2 : Hid (Lst X.wd nb (.slice (some ⟨gn, 0, none⟩) ns.length nc) ns ∧ Blk X.wd w.heap.size 26 #[I d0, I d1, I d2] ∧ Blk X.wd B2 32 (C6 b) ∧ Below w.heap.size w X.wd) := ⟨HL.out.1.later hX, HL.out.2.1.later hX, HL.out.2.2.1.later hX, HL.out.2.2.2.trans (hX.mono HL.out.2.2.2.size)⟩
      clear x0 z0 z1 z2 y0 y1 y2 y3 y4 y5 hX HL HTk
      generalize X.wd = w6 at *
      clear X
      cases hw
      · have H0 : Hid (ans = false) := HN0.out rfl
        clear HN1 HN0
        go_wp2
        go_ret
        exact ⟨by rw [H0.out]; rfl, HL2.out.2.2.2⟩
      · have H1 : Hid ((ns.take (k + 1)).all q = true) := HN1.out rfl
        clear HN1 HN0
        go_wp2
        exact ⟨⟨k + 1, by omega, by go_num, H1.out, HL2.out.1, HL2.out.2.2.2, HL2.out.2.1, HL2.out.2.2.1⟩, by simp [RowKit.intOf]; omega⟩
    · obtain rfl : k = ns.length := by omega
      have H1 : Hid (ans = true) := by
        have := Hk.out
        rw [List.take_length] at this
        exact HR.out.trans this
      clear Hk hL b0 b2
      go_wp2
      go_ret
      exact ⟨by rw [H1.out]; rfl, HB.out⟩

end Go.Proofs.Ytjmfdpilmljppaa
