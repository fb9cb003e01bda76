/-
  What tidehalllaw02's helpers answer: the chapter's dimensions, its box A; its first examples hold. BoxNames.
-/
import Derived.Test.YtjmfdpilmljppaaPart8
import Derived.Test.YtjmfdpilmljppaaPart5
import Derived.Test.YtjmfdpilmljppaaPart7
import Derived.Test.YtjmfdpilmljppaaPart1
import Derived.Test.YtjmfdpilmljppaaProg
import Derived.Test.YtjmfdpilmljppaaPart15
import Derived.Test.YtjmfdpilmljppaaPart11
import Derived.Test.YtjmfdpilmljppaaPart10
import Derived.Laws.AppendOwn
import Derived.Laws.AppendOwnNone
import Derived.Test.YtjmfdpilmljppaaLawGrow
import Derived.Test.YtjmfdpilmljppaaRows
import Derived.ProofKit
import Derived.OpenShut
import Derived.ChangeOld
import Derived.Below
import Derived.Laws.IdiomArrays
namespace Go.Proofs.Ytjmfdpilmljppaa
open Go.RowKit Go.Shelf

attribute [local go_sem] Oper.semAt_some ext_const eq_arr eq_arr9 same3_self

theorem Lst.two {W : World} {B base : Nat} {x y : Int} (h : Blk W B 3 #[I x, I y]) (hb : base ≤ B) : Lst W base (.slice (some ⟨B, 0, none⟩) 2 2) [x, y] :=
  ⟨rfl, .inr ⟨B, 2, _, rfl, hb, h, Nat.le_refl _, by unfold maxLen; omega, rfl, rfl⟩⟩

theorem may432b : mayD 4 3 2 := by unfold mayD okD; omega
abbrev bxA : Bx := ⟨3, 0, 0, 2, 1, 1⟩
theorem mayA : mayB 4 3 2 bxA := by unfold mayB mayS; decide

theorem nodesA : nodesB 4 3 2 bxA = [0, 3] := by decide

end Go.Proofs.Ytjmfdpilmljppaa

/-
  What the document's own answer for layer 2 (tidehallref02) gives: Nodes, Meet, Within.
-/
namespace Go.Proofs.Ytjmfdpilmljppaa
open Go.RowKit Go.Shelf

attribute [local go_sem] Oper.semAt_some ext_const

theorem getD_at {l : List Int} {k : Nat} (h : k < l.length) : l.getD k 0 = l[k] := by simp [h]
theorem nodesB_mem {d0 d1 d2 : Int} (hm : mayD d0 d1 d2) {b : Bx} {m : Int} : m ∈ nodesB d0 d1 d2 b ↔ (0 ≤ m ∧ m < d0 * d1 * d2) ∧ hasB d0 d1 d2 b m = true := by
  have := N_bd hm
  simp only [nodesB, nodesTo, List.mem_map, List.mem_filter, List.mem_range]
  constructor
  · rintro ⟨j, ⟨h1, h2⟩, rfl⟩
    exact ⟨⟨by omega, by omega⟩, h2⟩
  · rintro ⟨⟨h1, h2⟩, h3⟩
    exact ⟨m.toNat, ⟨by omega, by rw [Int.toNat_of_nonneg h1]; exact h3⟩, Int.toNat_of_nonneg h1⟩
theorem nodesB_get {d0 d1 d2 : Int} (hm : mayD d0 d1 d2) {b : Bx} {k : Nat} (hk : k < (nodesB d0 d1 d2 b).length) : (0 ≤ (nodesB d0 d1 d2 b).getD k 0 ∧ (nodesB d0 d1 d2 b).getD k 0 < d0 * d1 * d2) ∧ hasB d0 d1 d2 b ((nodesB d0 d1 d2 b).getD k 0) = true :=
  (nodesB_mem hm).1 (by rw [getD_at hk]; exact List.getElem_mem hk)
theorem meetB_list {d0 d1 d2 : Int} (hm : mayD d0 d1 d2) {a b : Bx} (ha : mayB d0 d1 d2 a) (hb : mayB d0 d1 d2 b) {k : Nat} (hk : (nodesB d0 d1 d2 a).length ≤ k) (h : ∀ j, j < k → hasB d0 d1 d2 b ((nodesB d0 d1 d2 a).getD j 0) = false) : meetB d0 d1 d2 a b = false := by
  rw [← Bool.not_eq_true, meetB_iff hm ha hb]
  rintro ⟨m, h1, h2, h3⟩
  obtain ⟨j, hj, he⟩ := List.getElem_of_mem ((nodesB_mem hm).2 ⟨h1, h2⟩)
  have := h j (by omega)
  rw [getD_at hj, he, h3] at this
  cases this
theorem meetB_some {d0 d1 d2 : Int} (hm : mayD d0 d1 d2) {a b : Bx} (ha : mayB d0 d1 d2 a) (hb : mayB d0 d1 d2 b) {k : Nat} (hk : k < (nodesB d0 d1 d2 a).length) (h : hasB d0 d1 d2 b ((nodesB d0 d1 d2 a).getD k 0) = true) : meetB d0 d1 d2 a b = true :=
  (meetB_iff hm ha hb).2 ⟨_, (nodesB_get hm hk).1, (nodesB_get hm hk).2, h⟩
theorem inB_list {d0 d1 d2 : Int} (hm : mayD d0 d1 d2) {a b : Bx} (ha : mayB d0 d1 d2 a) (hb : mayB d0 d1 d2 b) {k : Nat} (hk : (nodesB d0 d1 d2 a).length ≤ k) (h : ∀ j, j < k → j < (nodesB d0 d1 d2 a).length → hasB d0 d1 d2 b ((nodesB d0 d1 d2 a).getD j 0) = true) : inB d0 d1 d2 a b = true := by
  rw [inB_iff hm ha hb]
  intro m h1 h2
  obtain ⟨j, hj, he⟩ := List.getElem_of_mem ((nodesB_mem hm).2 ⟨h1, h2⟩)
  have := h j (by omega) hj
  rwa [getD_at hj, he] at this
theorem inB_some {d0 d1 d2 : Int} (hm : mayD d0 d1 d2) {a b : Bx} (ha : mayB d0 d1 d2 a) (hb : mayB d0 d1 d2 b) {k : Nat} (hk : k < (nodesB d0 d1 d2 a).length) (h : hasB d0 d1 d2 b ((nodesB d0 d1 d2 a).getD k 0) = false) : inB d0 d1 d2 a b = false := by
  rw [← Bool.not_eq_true, inB_iff hm ha hb]
  intro hall
  have := hall _ (nodesB_get hm hk).1 (nodesB_get hm hk).2
  rw [h] at this
  cases this

end Go.Proofs.Ytjmfdpilmljppaa

/-
  The program's call and the document's answer come to one value.
-/
namespace Go.Proofs.Ytjmfdpilmljppaa
open Go.RowKit Go.Shelf

/-- The program's call and the document's answer come to one value. -/
def Both (f g : FuncId) (args : Array Value) (v : Value) : Prop :=
  (∀ w : World, Calls Try.prog f args w fun x W' => x = .returned v ∧ Below w.heap.size w W') ∧ (∀ w : World, Calls Try.prog g args w fun x W' => x = .returned v ∧ Below w.heap.size w W')

end Go.Proofs.Ytjmfdpilmljppaa

/-
  tidehalllaw02.BoxTwo and BoxTells return true, whatever they are handed; nothing that lay before is turned.
-/
namespace Go.Proofs.Ytjmfdpilmljppaa
open Go.RowKit Go.Shelf

attribute [local go_sem] Oper.semAt_some ext_const eq_arr eq_arr9 same3_self

theorem errB_bd (d0 d1 d2 : Int) (b : Bx) : 0 ≤ errB d0 d1 d2 b ∧ errB d0 d1 d2 b ≤ 8 := by
  rcases errB_cases d0 d1 d2 b with ⟨_, _, h⟩ | ⟨h | h, _⟩ <;> omega
theorem errB_ne {d0 d1 d2 : Int} {b : Bx} (h : ¬ (mayD d0 d1 d2 ∧ mayB d0 d1 d2 b)) : (errB d0 d1 d2 b != 0) = true := by
  rcases errB_cases d0 d1 d2 b with ⟨h1, h2, _⟩ | ⟨h1 | h1, _⟩
  · exact absurd ⟨h1, h2⟩ h
  · rw [h1]; rfl
  · rw [h1]; rfl
theorem errB2_ne {d0 d1 d2 : Int} {a b : Bx} (h : ¬ (mayD d0 d1 d2 ∧ mayB d0 d1 d2 a ∧ mayB d0 d1 d2 b)) : (errB2 d0 d1 d2 a b != 0) = true := by
  by_cases hm : mayD d0 d1 d2
  · rw [errB2_no hm (fun k => h ⟨hm, k⟩)]; rfl
  · rw [errB2_bad hm]; rfl
theorem errB2_bd (d0 d1 d2 : Int) (a b : Bx) : 0 ≤ errB2 d0 d1 d2 a b ∧ errB2 d0 d1 d2 a b ≤ 8 := by
  unfold errB2 codeOf
  split
  · split <;> omega
  · omega

/-- A call that answers a list in new memory, and an error. -/
def Lists (f : FuncId) (args : Array Value) (L : List Int) (e : Int) : Prop :=
  ∀ w : World, Calls Try.prog f args w fun x W' => ∃ v, x = .returned (.tuple #[v, I e]) ∧ Lst W' 0 v L ∧ Below w.heap.size w W'
end Go.Proofs.Ytjmfdpilmljppaa

/-
  tidehalllaw02.BoxHas returns true, whatever it is handed; nothing that lay before is turned.
-/
namespace Go.Proofs.Ytjmfdpilmljppaa
open Go.RowKit Go.Shelf

attribute [local go_sem] Oper.semAt_some ext_const eq_arr

/-- How many coordinates a side has below n. -/
theorem coordsTo_count {r b s : Int} (h : mayS r b s) : ∀ n : Nat, (n : Int) ≤ r → ((coordsTo r b s n).length : Int) = if b + s ≤ r then min (n : Int) (b + s) - min (n : Int) b else min (n : Int) (b + s - r) + max 0 ((n : Int) - b) := by
  obtain ⟨⟨h1, h2⟩, h3, h4⟩ := h
  intro n
  induction n with
  | zero => intro _; simp [coordsTo]; split <;> omega
  | succ n ih =>
    intro hn
    have ih := ih (by omega)
    cases hq : hasS r b s n
    · rw [coordsTo_no hq, ih]
      simp only [hasS, decide_eq_false_iff_not] at hq
      unfold aft at hq
      split <;> split at hq <;> omega
    · rw [coordsTo_yes hq, List.length_append, Int.natCast_add, ih]
      simp only [hasS, decide_eq_true_eq] at hq
      unfold aft at hq
      simp only [List.length_cons, List.length_nil]
      split <;> split at hq <;> omega
theorem coordsS_count {r b s : Int} (h : mayS r b s) : ((coordsS r b s).length : Int) = s := by
  have h' := h
  obtain ⟨⟨h1, h2⟩, h3, h4⟩ := h'
  have := coordsTo_count h r.toNat (by omega)
  unfold coordsS
  rw [this]
  split <;> omega
theorem flat_len {f : Int → List Int} {c : Nat} : ∀ {l : List Int}, (∀ a, (f a).length = c) → (l.flatMap f).length = l.length * c
  | [], _ => by simp
  | a :: l, h => by
    rw [List.flatMap_cons, List.length_append, h a, flat_len h, List.length_cons, Nat.succ_mul]
    omega
theorem nodesB_count {d0 d1 d2 : Int} {b : Bx} (hm : mayD d0 d1 d2) (hb : mayB d0 d1 d2 b) : ((nodesB d0 d1 d2 b).length : Int) = manyB b := by
  rw [← nodesB_flat hm, flat_len (c := (coordsS d1 b.y b.b).length * (coordsS d0 b.x b.a).length)]
  · rw [Int.natCast_mul, Int.natCast_mul, coordsS_count hb.1, coordsS_count hb.2.1, coordsS_count hb.2.2]
    unfold manyB
    rw [Int.mul_comm b.c, Int.mul_comm b.b]
  · intro z
    rw [flat_len (c := (coordsS d0 b.x b.a).length)]
    intro y
    simp

theorem nodesTo_prefix (d0 d1 d2 : Int) (b : Bx) {m n : Nat} (h : m ≤ n) : nodesTo d0 d1 d2 b m <+: nodesTo d0 d1 d2 b n := by
  induction n with
  | zero => rw [Nat.le_zero.1 h]; exact List.prefix_rfl
  | succ n ih =>
    rcases Nat.lt_or_eq_of_le h with h | rfl
    · refine (ih (by omega)).trans ?_
      cases hq : hasB d0 d1 d2 b n
      · rw [nodesTo_no hq]; exact List.prefix_rfl
      · rw [nodesTo_yes hq]; exact List.prefix_append _ _
    · exact List.prefix_rfl
theorem nodes_at {d0 d1 d2 : Int} {b : Bx} {m : Nat} (hn : m < (d0 * d1 * d2).toNat) (h : hasB d0 d1 d2 b m = true) :
    (nodesTo d0 d1 d2 b m).length < (nodesB d0 d1 d2 b).length ∧ (nodesB d0 d1 d2 b).getD (nodesTo d0 d1 d2 b m).length 0 = m := by
  have hp := nodesTo_prefix d0 d1 d2 b (show m + 1 ≤ (d0 * d1 * d2).toNat by omega)
  rw [nodesTo_yes h] at hp
  obtain ⟨t, ht⟩ := hp
  unfold nodesB
  rw [← ht]
  constructor
  · simp
  · simp

end Go.Proofs.Ytjmfdpilmljppaa

/-
  What GrowAll and GrowMost ask, without a program: with nothing taken the whole machine is the only one that lies in no other; how many the largest free box can have; each free box lies in one that lies in no other one.
-/
namespace Go.Proofs.Ytjmfdpilmljppaa
open Go Go.RowKit Go.Shelf

theorem topM_pos : ∀ (xs : List Bx), 0 ≤ topM xs := by
  intro xs
  unfold topM
  have : ∀ (xs : List Bx) (m : Int), 0 ≤ m → 0 ≤ xs.foldl (fun m b => max m (manyB b)) m := by
    intro xs
    induction xs with
    | nil => intro m h; exact h
    | cons x xs ih => intro m h; exact ih _ (show 0 ≤ max m (manyB x) by omega)
  exact this xs 0 (by omega)
theorem topM_le {R : Int} (hR : 0 ≤ R) : ∀ {xs : List Bx}, (∀ x ∈ xs, manyB x ≤ R) → topM xs ≤ R := by
  intro xs hx
  unfold topM
  have : ∀ (xs : List Bx) (m : Int), (∀ x ∈ xs, manyB x ≤ R) → m ≤ R → xs.foldl (fun m b => max m (manyB b)) m ≤ R := by
    intro xs
    induction xs with
    | nil => intro m _ h; exact h
    | cons x xs ih =>
      intro m h hm
      have := h x (by simp)
      exact ih _ (fun y hy => h y (by simp [hy])) (show max m (manyB x) ≤ R by omega)
  exact this xs 0 hx hR
theorem topM_ge {xs : List Bx} {x : Bx} (hx : x ∈ xs) : manyB x ≤ topM xs := by
  unfold topM
  have hm : ∀ (xs : List Bx) (m : Int), m ≤ xs.foldl (fun m b => max m (manyB b)) m := by
    intro xs
    induction xs with
    | nil => intro m; exact Int.le_refl _
    | cons x xs ih => intro m; exact Int.le_trans (by omega) (ih (max m (manyB x)))
  have : ∀ (xs : List Bx) (m : Int), x ∈ xs → manyB x ≤ xs.foldl (fun m b => max m (manyB b)) m := by
    intro xs
    induction xs with
    | nil => intro m h; cases h
    | cons y xs ih =>
      intro m h
      rcases List.mem_cons.1 h with rfl | h
      · exact Int.le_trans (by omega) (hm xs (max m (manyB x)))
      · exact ih _ h
  exact this xs 0 hx

/-- The whole machine. -/
abbrev wholeX (d0 d1 d2 : Int) : Bx := ⟨0, 0, 0, d0, d1, d2⟩
theorem wholeX_may {d0 d1 d2 : Int} (hd : mayD d0 d1 d2) : mayB d0 d1 d2 (wholeX d0 d1 d2) ∧ canonB d0 d1 d2 (wholeX d0 d1 d2) = wholeX d0 d1 d2 := by
  obtain ⟨⟨a1, a2⟩, ⟨b1, b2⟩, c1, c2⟩ := hd
  refine ⟨⟨⟨⟨a1, Int.le_refl _⟩, by show (0 : Int) ≤ 0 ∧ 0 < d0; omega⟩, ⟨⟨b1, Int.le_refl _⟩, by show (0 : Int) ≤ 0 ∧ 0 < d1; omega⟩, ⟨c1, Int.le_refl _⟩, by show (0 : Int) ≤ 0 ∧ 0 < d2; omega⟩, ?_⟩
  simp [canonB]
theorem no_step {d0 d1 d2 : Int} {q : Bx → Bool} {b : Bx} (h : nextG d0 d1 d2 q b = none) {k : Fin 3} {back : Bool} (hk : sAt b k + 1 ≤ dimAt d0 d1 d2 k) : q (stepB d0 d1 d2 b k back) = false := by
  have := next_none_iff.1 h (k, back)
  unfold tryG at this
  rw [decide_eq_true hk, Bool.true_and] at this
  exact this
theorem grown_same {d0 d1 d2 : Int} (hd : mayD d0 d1 d2) {xs : List Bx} {b : Bx} (hb : mayB d0 d1 d2 b) (hc : canonB d0 d1 d2 b = b) (hx : b ∈ xs) : lonely d0 d1 d2 xs b = true ↔ nextG d0 d1 d2 (memX xs) b = none := by
  unfold lonely
  rw [sameBx_iff]
  constructor
  · intro h
    have := (grow_is hd (q := memX xs) 48 hb hc (memX_iff.2 hx) (by
      have h1 := hb.1.1.1; have h2 := hb.2.1.1.1; have h3 := hb.2.2.1.1
      show 48 - szB b ≤ ((48 : Nat) : Int)
      unfold szB
      omega)).2.2.2.2
    rwa [h] at this
  · exact grow_none
theorem lonely_all {d0 d1 d2 : Int} (hd : mayD d0 d1 d2) {xs : List Bx} (hall : ∀ b, mayB d0 d1 d2 b → canonB d0 d1 d2 b = b → b ∈ xs) (hmay : ∀ b ∈ xs, mayB d0 d1 d2 b ∧ canonB d0 d1 d2 b = b) {b : Bx} (hb : b ∈ xs) : lonely d0 d1 d2 xs b = true ↔ b = wholeX d0 d1 d2 := by
  obtain ⟨mb, cb⟩ := hmay b hb
  rw [grown_same hd mb cb hb]
  constructor
  · intro h
    have full : ∀ k : Fin 3, sAt b k = dimAt d0 d1 d2 k := fun k => by
      have h1 := (mayB_at mb k).1.2
      by_cases hk : sAt b k + 1 ≤ dimAt d0 d1 d2 k
      · obtain ⟨m1, m2, _⟩ := step_is hd mb hk false
        have := no_step h (back := false) hk
        rw [memX_iff.2 (hall _ m1 m2)] at this
        cases this
      · omega
    have f0 : b.a = d0 := full 0
    have f1 : b.b = d1 := full 1
    have f2 : b.c = d2 := full 2
    obtain ⟨x, y, z, u, v, t⟩ := b
    simp only at f0 f1 f2
    subst f0 f1 f2
    simp only [canonB, if_true] at cb
    injection cb with e0 e1 e2
    rw [← e0, ← e1, ← e2]
  · rintro rfl
    refine next_none_iff.2 fun s => ?_
    unfold tryG
    obtain ⟨k, back⟩ := s
    have : ¬ (sAt (wholeX d0 d1 d2) k + 1 ≤ dimAt d0 d1 d2 k) := by
      match k with
      | 0 => show ¬ (d0 + 1 ≤ d0); omega
      | 1 => show ¬ (d1 + 1 ≤ d1); omega
      | 2 => show ¬ (d2 + 1 ≤ d2); omega
    rw [decide_eq_false this, Bool.false_and]

theorem sizesZ_nodup (a b c : Nat) : (sizesZ a b c).Pairwise (· ≠ ·) := by
  have hr : ∀ x y : Nat, (rowZ x y c).Pairwise (· ≠ ·) := fun x y => by
    unfold rowZ
    rw [List.pairwise_map]
    exact List.nodup_range.imp fun {i j} hne e => hne (by
      have := congrArg (fun t : Tz => t.2.2) e
      simp only at this
      omega)
  have hp : ∀ x : Nat, (planeZ c x b).Pairwise (· ≠ ·) := fun x => by
    unfold planeZ
    rw [List.pairwise_flatMap]
    refine ⟨fun y _ => hr x y, List.nodup_range.imp fun {i j} hne => ?_⟩
    intro s hs t ht e
    subst e
    simp only [rowZ, List.mem_map] at hs ht
    obtain ⟨_, _, e1⟩ := hs
    obtain ⟨_, _, e2⟩ := ht
    have q1 := congrArg (fun t : Tz => t.2.1) e1
    have q2 := congrArg (fun t : Tz => t.2.1) e2
    simp only at q1 q2
    exact hne (by omega)
  unfold sizesZ cubeZ
  rw [List.pairwise_flatMap]
  refine ⟨fun x _ => hp x, List.nodup_range.imp fun {i j} hne => ?_⟩
  intro s hs t ht e
  subst e
  simp only [planeZ, rowZ, List.mem_flatMap, List.mem_map] at hs ht
  obtain ⟨_, _, _, _, e1⟩ := hs
  obtain ⟨_, _, _, _, e2⟩ := ht
  have q1 := congrArg (fun t : Tz => t.1) e1
  have q2 := congrArg (fun t : Tz => t.1) e2
  simp only at q1 q2
  exact hne (by omega)
theorem boxesZ_nodup (d0 d1 d2 : Int) : (boxesZ d0 d1 d2).Pairwise (· ≠ ·) := by
  unfold boxesZ bxP
  rw [List.pairwise_flatMap]
  refine ⟨fun m _ => ?_, List.nodup_range.imp fun {i j} hne => ?_⟩
  · unfold bxL
    refine List.Pairwise.filter _ ?_
    rw [List.pairwise_map]
    exact (sizesZ_nodup _ _ _).imp fun {s t} hne e => hne (by
      obtain ⟨s1, s2, s3⟩ := s
      obtain ⟨t1, t2, t3⟩ := t
      unfold bxZ at e
      injection e with _ _ _ q1 q2 q3
      simp only at q1 q2 q3
      rw [q1, q2, q3])
  · intro x hx y hy e
    subst e
    simp only [bxL, List.mem_filter, List.mem_map] at hx hy
    obtain ⟨⟨s, _, e1⟩, _⟩ := hx
    obtain ⟨⟨t, _, e2⟩, _⟩ := hy
    have e := e1.trans e2.symm
    unfold bxZ at e
    injection e with q1 q2 q3 _ _ _
    have n1 := num_of_node (d0 := d0) (d1 := d1) (m := (i : Int))
    have n2 := num_of_node (d0 := d0) (d1 := d1) (m := (j : Int))
    rw [q1, q2, q3] at n1
    exact hne (by omega)
theorem filter_one {F : Bx} {p : Bx → Bool} : ∀ {xs : List Bx}, xs.Pairwise (· ≠ ·) → F ∈ xs → (∀ x ∈ xs, p x = true ↔ x = F) → xs.filter p = [F]
  | [], _, h, _ => by cases h
  | x :: xs, hn, h, hp => by
    obtain ⟨h1, h2⟩ := List.pairwise_cons.1 hn
    by_cases e : x = F
    · subst e
      rw [List.filter_cons_of_pos ((hp x (by simp)).2 rfl)]
      congr 1
      rw [List.filter_eq_nil_iff]
      intro y hy hpy
      exact h1 y hy ((hp y (by simp [hy])).1 hpy).symm
    · rw [List.filter_cons_of_neg (fun hpx => e ((hp x (by simp)).1 hpx))]
      exact filter_one h2 ((List.mem_cons.1 h).resolve_left fun k => e k.symm) fun y hy => hp y (by simp [hy])

theorem freeL_nodup (d0 d1 d2 : Int) (ws : List Nat) : (freeL d0 d1 d2 ws).Pairwise (· ≠ ·) := List.Pairwise.filter _ (boxesZ_nodup d0 d1 d2)
theorem errF_ok {d0 d1 d2 : Int} {ws : List Nat} (hd : mayD d0 d1 d2) (he : errAll (d0 * d1 * d2) [ws] = 0) (hn : d0 * d1 * d2 ≤ 64) : errF d0 d1 d2 ws = 0 := by
  rcases errG_cases d0 d1 d2 ws with ⟨_, _, hr⟩ | ⟨h, _⟩ | ⟨_, h, _⟩
  · simp [errF, hr, hn]
  · exact absurd hd h
  · rw [he] at h; cases h
theorem most_none {d0 d1 d2 : Int} {S : List Nat} (hd : mayD d0 d1 d2) (he : errAll (d0 * d1 * d2) [S] = 0) (hn : d0 * d1 * d2 ≤ 64) (hS : ∀ k, hasW S k = false) : mostV d0 d1 d2 S = [wholeX d0 d1 d2] := by
  unfold mostV
  rw [if_pos (errF_ok hd he hn)]
  unfold mostL
  have hm : ∀ b, b ∈ freeL d0 d1 d2 S ↔ mayB d0 d1 d2 b ∧ canonB d0 d1 d2 b = b := fun b => by
    unfold freeL
    rw [List.mem_filter, boxesZ_mem hd, clearX_iff]
    exact ⟨fun h => h.1, fun h => ⟨h, fun k _ _ => hS k⟩⟩
  exact filter_one (freeL_nodup _ _ _ _) ((hm _).2 (wholeX_may hd)) fun x hx => lonely_all hd (fun b h1 h2 => (hm b).2 ⟨h1, h2⟩) (fun b hb => (hm b).1 hb) hx
theorem top_mono {d0 d1 d2 : Int} {a c : List Nat} (h : ∀ k : Nat, hasW a k = true → hasW c k = true) : topM (freeL d0 d1 d2 c) ≤ topM (freeL d0 d1 d2 a) := by
  refine topM_le (topM_pos _) fun x hx => topM_ge ?_
  unfold freeL at hx ⊢
  rw [List.mem_filter] at hx ⊢
  refine ⟨hx.1, clearX_iff.2 fun k hk hb => ?_⟩
  have := clearX_iff.1 hx.2 k hk hb
  cases ha : hasW a k
  · rfl
  · rw [h k ha] at this; cases this

theorem count_off : ∀ (l : List Nat) (p q : Nat → Bool), (∀ k ∈ l, p k = true → q k = false) → (l.filter p).length + (l.filter q).length ≤ l.length
  | [], _, _, _ => by simp
  | x :: l, p, q, h => by
    have := count_off l p q fun k hk => h k (by simp [hk])
    have hx := h x (by simp)
    cases hp : p x <;> cases hq : q x <;> simp [hp, hq] at hx ⊢ <;> omega
theorem set_count {n : Nat} {ws : List Nat} (he : errAll (n : Int) [ws] = 0) : manyR n ws = ((List.range n).filter fun k => hasW ws k).length := by
  obtain ⟨h1, h2, hm⟩ := err_one he
  obtain ⟨hl, hz⟩ := mayS_iff.1 hm
  rw [manyR_in he, manyS_to hl]
  have e : 64 * (((n : Int).toNat + 63) / 64) = n + (64 * ((n + 63) / 64) - n) := by
    rw [Int.toNat_natCast]; omega
  rw [e]
  have hmw : ∀ j, listTo ws (n + j) = listTo ws n := by
    intro j
    induction j with
    | zero => rfl
    | succ j ih => rw [← Nat.add_assoc, listTo_no (hz (n + j) (by rw [Int.toNat_natCast]; omega)), ih]
  rw [hmw]
  rfl
theorem top_room {d0 d1 d2 : Int} {ws : List Nat} (hd : mayD d0 d1 d2) (he : errAll (d0 * d1 * d2) [ws] = 0) : topM (freeL d0 d1 d2 ws) ≤ d0 * d1 * d2 - manyR (d0 * d1 * d2) ws := by
  have hn := N_bd hd
  obtain ⟨N, hN⟩ : ∃ N : Nat, d0 * d1 * d2 = N := ⟨(d0 * d1 * d2).toNat, by omega⟩
  have hk := set_count (n := N) (by rw [← hN]; exact he)
  have hle : ((List.range N).filter fun k => hasW ws k).length ≤ N := Nat.le_trans (List.length_filter_le _ _) (by simp)
  rw [hN, hk]
  refine topM_le (by omega) fun x hx => ?_
  unfold freeL at hx
  rw [List.mem_filter, boxesZ_mem hd] at hx
  have hc := nodesB_count hd hx.1.1
  have hf : (nodesB d0 d1 d2 x).length = ((List.range N).filter fun k : Nat => hasB d0 d1 d2 x (k : Int)).length := by
    unfold nodesB nodesTo
    rw [hN, Int.toNat_natCast, List.length_map]
  have := count_off (List.range N) (fun k : Nat => hasB d0 d1 d2 x (k : Int)) (fun k => hasW ws k) fun k hk2 hb => clearX_iff.1 hx.2 k (by rw [hN]; simpa using hk2) hb
  rw [List.length_range] at this
  omega
theorem hasS_unit {r b c : Int} (hb : 0 ≤ b ∧ b < r) (hc : 0 ≤ c ∧ c < r) : hasS r b 1 c = true ↔ c = b := by
  have := aft_bd hb hc
  simp only [hasS, decide_eq_true_eq]
  unfold aft at this ⊢
  split <;> omega
theorem one_free {d0 d1 d2 : Int} {ws : List Nat} (hd : mayD d0 d1 d2) {m : Nat} (hm : (m : Int) < d0 * d1 * d2) (hw : hasW ws m = false) : (⟨cx d0 m, cy d0 d1 m, cz d0 d1 m, 1, 1, 1⟩ : Bx) ∈ freeL d0 d1 d2 ws := by
  obtain ⟨g1, g2, g3⟩ := inD_of_node hd (m := m) ⟨by omega, hm⟩
  have hb : mayB d0 d1 d2 ⟨cx d0 m, cy d0 d1 m, cz d0 d1 m, 1, 1, 1⟩ := by
    obtain ⟨⟨a1, a2⟩, ⟨b1, b2⟩, c1, c2⟩ := hd
    exact ⟨⟨⟨Int.le_refl 1, a1⟩, g1⟩, ⟨⟨Int.le_refl 1, b1⟩, g2⟩, ⟨Int.le_refl 1, c1⟩, g3⟩
  unfold freeL
  rw [List.mem_filter, boxesZ_mem hd, clearX_iff]
  refine ⟨⟨hb, ?_⟩, fun k hk hh => ?_⟩
  · unfold canonB
    simp only [Bx.mk.injEq, and_true]
    refine ⟨?_, ?_, ?_⟩ <;> split <;> omega
  · have hk2 : ((k : Nat) : Int) < d0 * d1 * d2 := by omega
    obtain ⟨f1, f2, f3⟩ := inD_of_node hd (m := k) ⟨by omega, hk2⟩
    simp only [hasB, Bool.and_eq_true] at hh
    have e0 := (hasS_unit g1 f1).1 hh.1.1
    have e1 := (hasS_unit g2 f2).1 hh.1.2
    have e2 := (hasS_unit g3 f3).1 hh.2
    have n1 := num_of_node (d0 := d0) (d1 := d1) (m := (k : Int))
    have n2 := num_of_node (d0 := d0) (d1 := d1) (m := (m : Int))
    rw [e0, e1, e2, n2] at n1
    have : k = m := by omega
    rw [this]
    exact hw
theorem top_zero {d0 d1 d2 : Int} {ws : List Nat} (hd : mayD d0 d1 d2) (he : errAll (d0 * d1 * d2) [ws] = 0) : topM (freeL d0 d1 d2 ws) = 0 ↔ (manyR (d0 * d1 * d2) ws : Int) = d0 * d1 * d2 := by
  have hn := N_bd hd
  have hr := top_room hd he
  have hp := topM_pos (freeL d0 d1 d2 ws)
  constructor
  · intro h
    obtain ⟨N, hN⟩ : ∃ N : Nat, d0 * d1 * d2 = N := ⟨(d0 * d1 * d2).toNat, by omega⟩
    have hk := set_count (n := N) (by rw [← hN]; exact he)
    rw [hN, hk]
    have : ((List.range N).filter fun k => hasW ws k) = List.range N := by
      rw [List.filter_eq_self]
      intro k hk2
      have hk3 : k < N := by simpa using hk2
      cases hw : hasW ws k
      · have := topM_ge (one_free hd (m := k) (by omega) hw)
        rw [h] at this
        exact absurd this (by show ¬ ((1 * 1 * 1 : Int) ≤ 0); decide)
      · rfl
    rw [this, List.length_range]
  · intro h
    omega

end Go.Proofs.Ytjmfdpilmljppaa

/-
  A set among the arguments: as it came in, and a copy of it.
-/
namespace Go.Proofs.Ytjmfdpilmljppaa
open Go Go.RowKit Go.Shelf

/-- A row of words that came in. -/
def ArgW (W : World) (v : Value) (ws : List Nat) : Prop := Wds W v ws ∧ (v = .slice none 0 0 ∨ ∃ ad cap, v = .slice (some ad) ws.length cap)
def ArgI (W : World) (v : Value) (xs : List Int) : Prop := Its W v xs ∧ (v = .slice none 0 0 ∨ ∃ ad cap, v = .slice (some ad) xs.length cap)

theorem owns_wds {W : World} {base : Nat} {v : Value} {ws : List Nat} (hw : ∀ x ∈ ws, x < 18446744073709551616) (h : W.ownsRow base 28 1 v ws.length (ws.map U)) : Wds W v ws := by
  obtain ⟨h1, h2⟩ := h
  refine ⟨hw, ?_⟩
  rcases h2 with ⟨rfl, hn⟩ | ⟨g, cap, cur, rfl, hg, hh, hc, hc2, hs, ht⟩
  · have : ws = [] := List.length_eq_zero_iff.1 hn
    subst this
    exact Sl.nil W
  · refine ⟨_, cap, by simp, fun k hk => ⟨g, 0, rfl, (Array.getElem?_eq_some_iff.1 hh).1, ?_⟩⟩
    have hb : Blk W g 28 cur := hh
    rw [Nat.zero_add, hb.cell k]
    have := congrArg (fun l => l[k]?) ht
    simp only [Nat.mul_one] at this
    rw [List.length_map] at hk
    rw [List.getElem?_take_of_lt hk, Array.getElem?_toList] at this
    exact this

/-- 'own = append(own, s...)', own nil. -/
theorem wpList_copy {ops : Array Oper} {rest : List Oper} {o : Oper} {a : Act} {Q : Exit → Act → World → Prop} {W : World} {v : Value} {ws : List Nat} (hgd : o.guard = none) (s x : Operand)
    (ho : o.op = .call { callee := .builtin .append, args := #[s, x], argTypes := #[30, 30] }) (hs : a.eval s = .slice none 0 0) (hx : a.eval x = v)
    (hA : ArgW W v ws) (hl : ws.length ≤ 1000)
    (h : ∀ v' w', Wds w' v' ws → Below W.heap.size W w' → wpList Try.prog ops Q rest (a.put o.dst v') w') : wpList Try.prog ops Q (o :: rest) a W := by
  obtain ⟨i0, hi, hz0, hz1, hz2⟩ := info_parts info_u64
  obtain ⟨hW, rfl | ⟨ad, cap, rfl⟩⟩ := hA
  · have e : ws = [] := by
      obtain ⟨ao, c, e, _⟩ := hW.view
      simp only [Value.slice.injEq] at e
      exact List.length_eq_zero_iff.1 e.2.1.symm
    subst e
    exact wpList_append_own_none hgd s x 30 ho W.heap.size 28 i0 1 Try.underlying30 hi (.slice none 0 0) 0 [] hs (World.ownsRow_nil _ _ _ _) hx (h _ _ (Wds.nil W) (Below.refl _ _))
  · refine wpList_append_own (w := W) hgd s x 30 ho W.heap.size 28 i0 (.int .u64 0) 1 8 Try.underlying30 hi hz0 hz1 hz2 rfl (by decide) (.slice none 0 0) 0 [] hs (World.ownsRow_nil _ _ _ _) ad ws.length cap (ws.map U) hx (by simp) ?_ ?_ ?_ ?_ ?_ ?_
    · intro j u hj
      obtain ⟨ao, c, e, hv⟩ := hW.view
      simp only [Value.slice.injEq] at e
      obtain ⟨rfl, -, -⟩ := e
      have hjl : j < ws.length := by
        have := (List.getElem?_eq_some_iff.1 hj).1
        simpa using this
      obtain ⟨g, off, e, hg, hc⟩ := hv j hjl
      simp only [Option.some.injEq] at e
      subst e
      have : (⟨g, off, none⟩ : Addr).add j = ⟨g, off + j, none⟩ := by
        unfold Addr.add
        split
        · rename_i h0; subst h0; rfl
        · rfl
      rw [this, hc, ← hj]
      simp [hjl]
    · intro u hu
      obtain ⟨y, _, rfl⟩ := List.mem_map.1 hu
      rfl
    · unfold maxLen; omega
    · omega
    · omega
    · intro v' w1 hown' hgrow _
      refine h v' w1 (owns_wds hW.1 (by simpa using hown')) ?_
      exact (Below.refl _ W).grown hgrow (Nat.le_refl _) (fun k hk => by cases hk)

end Go.Proofs.Ytjmfdpilmljppaa

/-
  The statement GrowAll, walked.
-/
namespace Go.Proofs.Ytjmfdpilmljppaa
open Go Go.RowKit Go.Shelf Go.Maps

attribute [local go_sem] Oper.semAt_some ext_const
attribute [local go_sem high] eq_box

theorem topV_no {d0 d1 d2 : Int} {ws : List Nat} (h : errF d0 d1 d2 ws ≠ 0) : topV d0 d1 d2 ws = 0 := by
  unfold topV
  rw [if_neg h]
theorem ofNone {n : Int} (h1 : 1 ≤ n) (h2 : n ≤ 12288) {S : List Nat} (h : OfIs n [] S) : S = setOf n (fun _ => false) :=
  setOf_of h (by simp [ofOk, okN]; omega) fun j => by simp [inL]

set_option maxRecDepth 100000 in
set_option maxHeartbeats 16000000 in
theorem growAll_walk (d0 d1 d2 : Int) (w : World) {v : Value} {ws : List Nat} (hv0 : ArgW w v ws) {u : Value} {us : List Nat} (hu0 : ArgW w u us) : Calls Try.prog 7 #[A3 d0 d1 d2, v, u] w fun e W' => e = .returned (.bool true) ∧ Below w.heap.size w W' := by
  have mixed : Try.prog.follows .mixedOrders = true := by kernel_rfl
  have HV : Hid (Wds w v ws ∧ Wds w u us) := ⟨hv0.1, hu0.1⟩
  obtain ⟨ao, cap, rfl, _⟩ := hv0.1.view
  obtain ⟨bo, bcap, rfl, _⟩ := hu0.1.view
  clear hv0 hu0
  have hB0 : Below w.heap.size w (w.alloc (.cells #[I d0, I d1, I d2] 26)) := (Below.refl _ w).alloc (Nat.le_refl _) _
  have b0 := Blk.new w 26 #[I d0, I d1, I d2]
  have HSm : Hid (∀ w, Calls Try.prog 14 #[A3 d0 d1 d2] w fun e W' => e = .returned (.bool (smallG d0 d1 d2)) ∧ Below w.heap.size w W') := fun w => small13_calls d0 d1 d2 w
  have HLa : Hid (∀ w1, Below w.heap.size w w1 → Calls Try.prog 8 #[A3 d0 d1 d2, .slice ao ws.length cap] w1 fun e W' => e = .returned (.tuple #[I (topV d0 d1 d2 ws), I (errF d0 d1 d2 ws)]) ∧ Below w1.heap.size w1 W') := fun w1 h1 => glargest_calls d0 d1 d2 w1 (HV.out.1.later h1)
  go_enter Try.func7, Try.ntmps7
  go_wp2_with fail
  refine (alive13_calls _).mono ?_
  rintro e w1 ⟨rfl, hB⟩
  replace b0 := b0.later hB
  have hT := then_below hB0 hB
  clear hB hB0
  by_cases hlen : (100 : Int) < (ws.length : Int)
  · go_wp2
    go_ret
    exact ⟨rfl, hT⟩
  have hl0 : decide ((100 : Int) < (ws.length : Int)) = false := by simpa using hlen
  by_cases hlen2 : (100 : Int) < (us.length : Int)
  · go_wp2
    go_ret
    exact ⟨rfl, hT⟩
  have hl1 : decide ((100 : Int) < (us.length : Int)) = false := by simpa using hlen2
  obtain ⟨e0, e1, e2, ez⟩ := b0.three (Below.refl _ _)
  go_wp2_with fail
  refine (HSm.out _).mono ?_
  rintro e w2 ⟨rfl, hB⟩
  replace b0 := b0.later hB
  replace hT := then_below hT hB
  clear hB e0 e1 e2 ez HSm hl0 hl1
  cases hsm : smallG d0 d1 d2
  · go_wp2
    go_ret
    exact ⟨rfl, hT⟩
  clear hsm
  obtain ⟨e0, e1, e2, ez⟩ := b0.three (Below.refl _ _)
  go_wp2_with fail
  refine (HLa.out _ hT).mono ?_
  rintro e w3 ⟨rfl, hB⟩
  replace b0 := b0.later hB
  replace hT := then_below hT hB
  clear hB e0 e1 e2 ez HLa
  by_cases he : errF d0 d1 d2 ws = 0
  · obtain ⟨hd, hs, hn64⟩ := errF_may he
    have hn := N_bd hd
    have HD : Hid (mayD d0 d1 d2 ∧ errAll (d0 * d1 * d2) [ws] = 0 ∧ d0 * d1 * d2 ≤ 64) := ⟨hd, hs, hn64⟩
    have htv : topV d0 d1 d2 ws = topM (freeL d0 d1 d2 ws) := by simp [topV, he]
    rw [he, htv]
    have hw1 : wrap64 (d0 * d1) = d0 * d1 := wrap_in _ (by
      obtain ⟨⟨u1, u2⟩, ⟨v1, v2⟩, _⟩ := hd
      have hm : 0 ≤ d0 * d1 ∧ d0 * d1 ≤ 16 * 16 := mul_bd (by omega) u2 (by omega) v2
      omega)
    have hw2 : wrap64 (d0 * d1 * d2) = d0 * d1 * d2 := wrap_in _ (by omega)
    have HOf : Hid (∀ w1, Calls Try.prog 26 #[I (d0 * d1 * d2), .slice none 0 0] w1 fun e W' => ∃ s, e = .returned (.tuple #[s, I 0]) ∧ SetR W' w1.heap.size s (setOf (d0 * d1 * d2) (fun _ => false)) ∧ Below w1.heap.size w1 W') := fun w1 => by
      refine (of_calls w1 (Its.nil w1) (by simp) (d0 * d1 * d2)).mono ?_
      rintro e W' ⟨s, S, rfl, hs, ho, hB⟩
      rw [show ofErr (d0 * d1 * d2) [] = 0 by simp [ofErr, ofOk, okN]; omega, ← ofNone (by omega) (by omega) ho]
      exact ⟨s, rfl, hs, hB⟩
    have hS0 : ∀ k, hasW (setOf (d0 * d1 * d2) (fun _ => false)) k = false := fun k => by rw [(setOf_is _ _).has]; simp
    have hSe : errAll (d0 * d1 * d2) [setOf (d0 * d1 * d2) (fun _ => false)] = 0 := setOf_err (by omega) (by omega) _
    have HMo : Hid (∀ w1 s, Wds w1 s (setOf (d0 * d1 * d2) (fun _ => false)) → Calls Try.prog 16 #[A3 d0 d1 d2, s] w1 fun e W' => ∃ l, e = .returned (.tuple #[l, I 0]) ∧ Lx W' w1.heap.size l [wholeX d0 d1 d2] ∧ Below w1.heap.size w1 W') := fun w1 s hw => by
      have := gmost_calls d0 d1 d2 w1 hw
      rw [most_none hd hSe hn64 hS0, errF_ok hd hSe hn64] at this
      exact this
    have HOr : Hid (∀ w1, Below w.heap.size w w1 → Calls Try.prog 27 #[I (d0 * d1 * d2), .slice ao ws.length cap, .slice bo us.length bcap] w1 fun e W' => ∃ s, e = .returned (.tuple #[s, I (errAll (d0 * d1 * d2) [ws, us])]) ∧ SetR W' w1.heap.size s (joinW orW (d0 * d1 * d2) ws us) ∧ Below w1.heap.size w1 W') := fun w1 h1 => or_calls w1 (HV.out.1.later h1) (HV.out.2.later h1) _
    have HMn : Hid (∀ w1, Below w.heap.size w w1 → Calls Try.prog 28 #[I (d0 * d1 * d2), .slice ao ws.length cap] w1 fun e W' => e = .returned (.tuple #[I (manyR (d0 * d1 * d2) ws), I 0]) ∧ Below w1.heap.size w1 W') := fun w1 h1 => by
      have := manyn_calls w1 (HV.out.1.later h1) (d0 * d1 * d2)
      rw [hs] at this
      exact this
    have HL2 : Hid (errAll (d0 * d1 * d2) [ws, us] = 0 → ∃ m, m ≤ topM (freeL d0 d1 d2 ws) ∧ ∀ w1 s, Wds w1 s (joinW orW (d0 * d1 * d2) ws us) → Calls Try.prog 8 #[A3 d0 d1 d2, s] w1 fun e W' => e = .returned (.tuple #[I m, I 0]) ∧ Below w1.heap.size w1 W') := fun hee => by
      have T := three_of HV.out.1.1 HV.out.2.1 hee
      refine ⟨topM (freeL d0 d1 d2 (joinW orW (d0 * d1 * d2) ws us)), top_mono fun k hk => by rw [T.i2.has, hk, Bool.true_or], fun w1 s hw => ?_⟩
      have := glargest_calls d0 d1 d2 w1 hw
      rw [errF_ok hd T.e2 hn64, show topV d0 d1 d2 (joinW orW (d0 * d1 * d2) ws us) = topM (freeL d0 d1 d2 (joinW orW (d0 * d1 * d2) ws us)) by unfold topV; rw [if_pos (errF_ok hd T.e2 hn64)]] at this
      exact this
    have hroom := top_room hd hs
    have hzero := top_zero hd hs
    have hpos := topM_pos (freeL d0 d1 d2 ws)
    have hmr : (manyR (d0 * d1 * d2) ws : Int) ≤ d0 * d1 * d2 := by omega
    have HF : Hid ((topM (freeL d0 d1 d2 ws) = 0 ↔ (manyR (d0 * d1 * d2) ws : Int) = d0 * d1 * d2) ∧ topM (freeL d0 d1 d2 ws) ≤ d0 * d1 * d2 - manyR (d0 * d1 * d2) ws ∧ 0 ≤ topM (freeL d0 d1 d2 ws) ∧ d0 * d1 * d2 ≤ 64) := ⟨hzero, hroom, hpos, hn64⟩
    clear he htv hd hs hn64 hS0 hSe hroom hzero hpos hmr HV
    generalize topM (freeL d0 d1 d2 ws) = nn at *
    generalize joinW orW (d0 * d1 * d2) ws us = jw at *
    generalize setOf (d0 * d1 * d2) (fun _ => false) = S0 at *
    generalize manyR (d0 * d1 * d2) ws = mr at *
    generalize hee : errAll (d0 * d1 * d2) [ws, us] = ee at *
    clear hee
    generalize hP : d0 * d1 * d2 = P at *
    have HP : Hid (d0 * d1 * d2 = P) := hP
    obtain ⟨e0, e1, e2, ez⟩ := b0.three (Below.refl _ _)
    go_wp2_with fail
    refine (HOf.out _).mono ?_
    rintro e w4 ⟨sn, rfl, hS, hB⟩
    replace b0 := b0.later hB
    replace hT := then_below hT hB
    clear hB e0 e1 e2 ez HOf hP
    have hSW := hS.wds
    obtain ⟨so, sc, rfl, _⟩ := hSW.view
    obtain ⟨e0, e1, e2, ez⟩ := b0.three (Below.refl _ _)
    go_wp2_with fail
    refine (HMo.out _ _ hSW).mono ?_
    rintro e w5 ⟨lv, rfl, hL, hB⟩
    replace b0 := b0.later hB
    replace hT := then_below hT hB
    clear hB e0 e1 e2 ez HMo hS hSW
    obtain ⟨lo, lc, rfl, hL⟩ := hL.form
    obtain ⟨gl, rfl, hat⟩ := hL.at (k := 0) (by simp)
    obtain ⟨x0, x1, x2, x3, x4, x5⟩ := hat.ext
    simp only [List.getD_cons_zero] at x0 x1 x2 x3 x4 x5
    have z0 := Ext.cell b0 0
    have z1 := Ext.cell b0 1
    have z2 := Ext.cell b0 2
    simp at z0 z1 z2
    have HB5 : Hid (Blk w5 w.heap.size 26 #[I d0, I d1, I d2] ∧ Below w.heap.size w w5) := ⟨b0, hT⟩
    have hsb : sameBx ⟨0, 0, 0, d0, d1, d2⟩ ⟨0, 0, 0, d0, d1, d2⟩ = true := sameBx_self _
    clear b0 hT hL hat
    go_wp2_with fail
    refine wp_region_look mixed (by kernel_rfl) ?_
    repeat (go_big_quiet_step (fail))
    refine wpQuiet_nil ?_
    intro X
    have hX := X.le
    have b0 := HB5.out.1.later hX
    have hT := HB5.out.2.trans (hX.mono HB5.out.2.size)
    clear x0 x1 x2 x3 x4 x5 z0 z1 z2 hX HB5
    generalize X.wd = w6 at *
    clear X
    go_wp2_with fail
    refine (HOr.out _ hT).mono ?_
    rintro e w7 ⟨sv, rfl, hR, hB⟩
    replace b0 := b0.later hB
    replace hT := then_below hT hB
    clear hB HOr
    have hRW := hR.wds
    obtain ⟨ro, rc, rfl, _⟩ := hRW.view
    by_cases hee : ee = 0
    · subst hee
      obtain ⟨m, hmn, hL2⟩ := HL2.out rfl
      have HL3 : Hid (∀ w1 s, Wds w1 s jw → Calls Try.prog 8 #[A3 d0 d1 d2, s] w1 fun e W' => e = .returned (.tuple #[I m, I 0]) ∧ Below w1.heap.size w1 W') := hL2
      clear hL2 HL2 hsb
      obtain ⟨e0, e1, e2, ez⟩ := b0.three (Below.refl _ _)
      go_wp2_with fail
      refine (HL3.out _ _ hRW).mono ?_
      rintro e w8 ⟨rfl, hB⟩
      replace hT := then_below hT hB
      clear hB HL3 e0 e1 e2 ez hR hRW b0
      go_wp2_with fail
      refine (HMn.out _ hT).mono ?_
      rintro e w9 ⟨rfl, hB⟩
      replace hT := then_below hT hB
      clear hB HMn
      obtain ⟨hf1, hf2, hf3, hf4⟩ := HF.out
      have c1 : decide (m ≤ nn) = true := by simpa using hmn
      have hmr0 : (0 : Int) ≤ (mr : Int) := by omega
      have hw3 : wrap64 (P - (mr : Int)) = P - (mr : Int) := wrap_in _ (by omega)
      have c2 : decide (nn ≤ P - (mr : Int)) = true := by simpa using hf2
      have HC : Hid ((decide (nn = 0) == decide ((mr : Int) = P)) = true ∧ ((nn == 0) == ((mr : Int) == P)) = true) := by
        by_cases h0 : nn = 0
        · have h1 := hf1.1 h0
          exact ⟨by simp [h0, h1], by simp [h0, h1]⟩
        · have h1 : ¬ ((mr : Int) = P) := fun h => h0 (hf1.2 h)
          have q0 : (nn == 0) = false := by simpa using h0
          have q1 : ((mr : Int) == P) = false := by simpa using h1
          exact ⟨by rw [decide_eq_false h0, decide_eq_false h1]; rfl, by rw [q0, q1]; rfl⟩
      clear hf1 hf2
      go_wp2
      first
        | rw [HC.out.2]
        | rw [HC.out.1]
      go_ret
      exact ⟨rfl, hT⟩
    · have hE0 : decide (ee = 0) = false := by simpa using hee
      have hE1 : (ee == 0) = false := by simpa using hee
      have hE2 : (ee != 0) = true := by simpa using hee
      clear hee HL2
      go_wp2
      go_ret
      exact ⟨rfl, hT⟩
  · have hE0 : decide (errF d0 d1 d2 ws = 0) = false := by simpa using he
    have hE1 : (errF d0 d1 d2 ws == 0) = false := by simpa using he
    have hE2 : (errF d0 d1 d2 ws != 0) = true := by simpa using he
    rw [topV_no he]
    clear he
    generalize errF d0 d1 d2 ws = er at *
    go_wp2
    go_ret
    exact ⟨by first | rfl | simp, hT⟩

end Go.Proofs.Ytjmfdpilmljppaa

/-
  How the arguments of this seat's statements are opened: whole numbers, and rows of three of them.
-/
namespace Go.Proofs.Ytjmfdpilmljppaa
open Go.ChangeShapes Go.WideShapes Go.ChangeAt Go.RowKit

theorem own : ownKnob Try.prog.godebug = none := by kernel_rfl
theorem laidOut : laidOutB Try.prog = true := by kernel_rfl

theorem list3 {α : Type} (l : List α) (h : (⟨l⟩ : Array α).size = 3) : ∃ a b c, l = [a, b, c] := by
  match l, h with
  | [a, b, c], _ => exact ⟨a, b, c, rfl⟩

/-- A row of three whole numbers, by value. -/
theorem open_arr3 {P : Program} {w : World} {H : Type} {enc : TypeId × Value → H} {r : Reach} {b0 base : Nat} {spare : Nat → Bool} {held : Bool} {t e : TypeId} {v : Value} {d : DataW H} {p : List MemPlace}
    (ht : P.underlying t = some (.array 3 e)) (he : P.underlying e = some (.int .i64)) (hce : P.cellsOf e = 1) (hct : P.cellsOf t = 3)
    (hv : Value.okWide P w r b0 t v) (h : DataW.Trod enc P w base spare held t v d p) :
    ∃ a b c : Int, v = A3 a b c ∧ (Lit.int .i64 a).wf = true ∧ (Lit.int .i64 b).wf = true ∧ (Lit.int .i64 c).wf = true := by
  obtain ⟨cs, rfl, hsz, _⟩ : ∃ cs, v = .agg cs ∧ cs.size = P.cellsOf t ∧ Row.okWide P w r b0 t cs := by
    simpa [Value.okWide, ht] using hv
  rw [hct] at hsz
  obtain ⟨l⟩ := cs
  obtain ⟨c0, c1, c2, rfl⟩ := list3 l hsz
  obtain ⟨fuel, hf⟩ := h
  obtain ⟨y0, y1, y2, m, hx, hy0, hy1, hy2⟩ := trod_array3 ht hce hf
  obtain ⟨x0, e0, rfl, w0⟩ := DataW.trod_int he hy0
  obtain ⟨x1, e1, rfl, w1⟩ := DataW.trod_int he hy1
  obtain ⟨x2, e2, rfl, w2⟩ := DataW.trod_int he hy2
  simp at e0 e1 e2
  subst e0 e1 e2
  exact ⟨x0, x1, x2, rfl, w0, w1, w2⟩

theorem open_num {P : Program} {w : World} {H : Type} {enc : TypeId × Value → H} {r : Reach} {b0 base : Nat} {spare : Nat → Bool} {held : Bool} {t : TypeId} {k : IntKind} {v : Value} {d : DataW H} {p : List MemPlace}
    (ht : P.underlying t = some (.int k)) (hv : Value.okWide P w r b0 t v) (h : DataW.Trod enc P w base spare held t v d p) :
    ∃ a : Int, v = .int k a ∧ (Lit.int k a).wf = true := by
  obtain ⟨x, rfl, rfl, rfl, wx⟩ := open_int ht hv h
  exact ⟨x, rfl, wx⟩

theorem trod_lt' {H : Type} {enc : TypeId × Value → H} {P : Program} {W : World} {t : TypeId} {v : Value} {d : DataW H} {ps : List MemPlace} {sp : Nat → Bool} (h : DataW.Trod enc P W 0 sp true t v d ps) : ∀ x ∈ ps, x.block < W.heap.size := by
  obtain ⟨m, hm⟩ := h; exact DataW.trod_lt m _ _ _ hm

end Go.Proofs.Ytjmfdpilmljppaa
