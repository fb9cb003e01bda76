/-
  What tidehalllaw02's helpers answer: the chapter's dimensions, its box A; its first examples hold. BoxNames.
-/
import Derived.Test.YtjmfdpilmljppaaPart8
import Derived.Test.YtjmfdpilmljppaaPart5
import Derived.Test.YtjmfdpilmljppaaPart7
import Derived.Test.YtjmfdpilmljppaaPart1
import Derived.Test.YtjmfdpilmljppaaProg
import Derived.Test.YtjmfdpilmljppaaPart15
import Derived.Test.YtjmfdpilmljppaaPart11
import Derived.Test.YtjmfdpilmljppaaPart10
import Derived.Laws.AppendOwn
import Derived.Laws.AppendOwnNone
namespace Go.Proofs.Ytjmfdpilmljppaa
open Go.RowKit Go.Shelf

attribute [local go_sem] Oper.semAt_some ext_const eq_arr eq_arr9 same3_self

theorem Lst.two {W : World} {B base : Nat} {x y : Int} (h : Blk W B 3 #[I x, I y]) (hb : base ≤ B) : Lst W base (.slice (some ⟨B, 0, none⟩) 2 2) [x, y] :=
  ⟨rfl, .inr ⟨B, 2, _, rfl, hb, h, Nat.le_refl _, by unfold maxLen; omega, rfl, rfl⟩⟩

theorem may432b : mayD 4 3 2 := by unfold mayD okD; omega
abbrev bxA : Bx := ⟨3, 0, 0, 2, 1, 1⟩
theorem mayA : mayB 4 3 2 bxA := by unfold mayB mayS; decide

theorem nodesA : nodesB 4 3 2 bxA = [0, 3] := by decide

end Go.Proofs.Ytjmfdpilmljppaa

/-
  What the document's own answer for layer 2 (tidehallref02) gives: Nodes, Meet, Within.
-/
namespace Go.Proofs.Ytjmfdpilmljppaa
open Go.RowKit Go.Shelf

attribute [local go_sem] Oper.semAt_some ext_const

theorem getD_at {l : List Int} {k : Nat} (h : k < l.length) : l.getD k 0 = l[k] := by simp [h]
theorem nodesB_mem {d0 d1 d2 : Int} (hm : mayD d0 d1 d2) {b : Bx} {m : Int} : m ∈ nodesB d0 d1 d2 b ↔ (0 ≤ m ∧ m < d0 * d1 * d2) ∧ hasB d0 d1 d2 b m = true := by
  have := N_bd hm
  simp only [nodesB, nodesTo, List.mem_map, List.mem_filter, List.mem_range]
  constructor
  · rintro ⟨j, ⟨h1, h2⟩, rfl⟩
    exact ⟨⟨by omega, by omega⟩, h2⟩
  · rintro ⟨⟨h1, h2⟩, h3⟩
    exact ⟨m.toNat, ⟨by omega, by rw [Int.toNat_of_nonneg h1]; exact h3⟩, Int.toNat_of_nonneg h1⟩
theorem nodesB_get {d0 d1 d2 : Int} (hm : mayD d0 d1 d2) {b : Bx} {k : Nat} (hk : k < (nodesB d0 d1 d2 b).length) : (0 ≤ (nodesB d0 d1 d2 b).getD k 0 ∧ (nodesB d0 d1 d2 b).getD k 0 < d0 * d1 * d2) ∧ hasB d0 d1 d2 b ((nodesB d0 d1 d2 b).getD k 0) = true :=
  (nodesB_mem hm).1 (by rw [getD_at hk]; exact List.getElem_mem hk)
theorem meetB_list {d0 d1 d2 : Int} (hm : mayD d0 d1 d2) {a b : Bx} (ha : mayB d0 d1 d2 a) (hb : mayB d0 d1 d2 b) {k : Nat} (hk : (nodesB d0 d1 d2 a).length ≤ k) (h : ∀ j, j < k → hasB d0 d1 d2 b ((nodesB d0 d1 d2 a).getD j 0) = false) : meetB d0 d1 d2 a b = false := by
  rw [← Bool.not_eq_true, meetB_iff hm ha hb]
  rintro ⟨m, h1, h2, h3⟩
  obtain ⟨j, hj, he⟩ := List.getElem_of_mem ((nodesB_mem hm).2 ⟨h1, h2⟩)
  have := h j (by omega)
  rw [getD_at hj, he, h3] at this
  cases this
theorem meetB_some {d0 d1 d2 : Int} (hm : mayD d0 d1 d2) {a b : Bx} (ha : mayB d0 d1 d2 a) (hb : mayB d0 d1 d2 b) {k : Nat} (hk : k < (nodesB d0 d1 d2 a).length) (h : hasB d0 d1 d2 b ((nodesB d0 d1 d2 a).getD k 0) = true) : meetB d0 d1 d2 a b = true :=
  (meetB_iff hm ha hb).2 ⟨_, (nodesB_get hm hk).1, (nodesB_get hm hk).2, h⟩
theorem inB_list {d0 d1 d2 : Int} (hm : mayD d0 d1 d2) {a b : Bx} (ha : mayB d0 d1 d2 a) (hb : mayB d0 d1 d2 b) {k : Nat} (hk : (nodesB d0 d1 d2 a).length ≤ k) (h : ∀ j, j < k → j < (nodesB d0 d1 d2 a).length → hasB d0 d1 d2 b ((nodesB d0 d1 d2 a).getD j 0) = true) : inB d0 d1 d2 a b = true := by
  rw [inB_iff hm ha hb]
  intro m h1 h2
  obtain ⟨j, hj, he⟩ := List.getElem_of_mem ((nodesB_mem hm).2 ⟨h1, h2⟩)
  have := h j (by omega) hj
  rwa [getD_at hj, he] at this
theorem inB_some {d0 d1 d2 : Int} (hm : mayD d0 d1 d2) {a b : Bx} (ha : mayB d0 d1 d2 a) (hb : mayB d0 d1 d2 b) {k : Nat} (hk : k < (nodesB d0 d1 d2 a).length) (h : hasB d0 d1 d2 b ((nodesB d0 d1 d2 a).getD k 0) = false) : inB d0 d1 d2 a b = false := by
  rw [← Bool.not_eq_true, inB_iff hm ha hb]
  intro hall
  have := hall _ (nodesB_get hm hk).1 (nodesB_get hm hk).2
  rw [h] at this
  cases this

end Go.Proofs.Ytjmfdpilmljppaa

/-
  The program's call and the document's answer come to one value.
-/
namespace Go.Proofs.Ytjmfdpilmljppaa
open Go.RowKit Go.Shelf

/-- The program's call and the document's answer come to one value. -/
def Both (f g : FuncId) (args : Array Value) (v : Value) : Prop :=
  (∀ w : World, Calls Try.prog f args w fun x W' => x = .returned v ∧ Below w.heap.size w W') ∧ (∀ w : World, Calls Try.prog g args w fun x W' => x = .returned v ∧ Below w.heap.size w W')

end Go.Proofs.Ytjmfdpilmljppaa

/-
  tidehalllaw02.BoxTwo and BoxTells return true, whatever they are handed; nothing that lay before is turned.
-/
namespace Go.Proofs.Ytjmfdpilmljppaa
open Go.RowKit Go.Shelf

attribute [local go_sem] Oper.semAt_some ext_const eq_arr eq_arr9 same3_self

theorem errB_bd (d0 d1 d2 : Int) (b : Bx) : 0 ≤ errB d0 d1 d2 b ∧ errB d0 d1 d2 b ≤ 8 := by
  rcases errB_cases d0 d1 d2 b with ⟨_, _, h⟩ | ⟨h | h, _⟩ <;> omega
theorem errB_ne {d0 d1 d2 : Int} {b : Bx} (h : ¬ (mayD d0 d1 d2 ∧ mayB d0 d1 d2 b)) : (errB d0 d1 d2 b != 0) = true := by
  rcases errB_cases d0 d1 d2 b with ⟨h1, h2, _⟩ | ⟨h1 | h1, _⟩
  · exact absurd ⟨h1, h2⟩ h
  · rw [h1]; rfl
  · rw [h1]; rfl
theorem errB2_ne {d0 d1 d2 : Int} {a b : Bx} (h : ¬ (mayD d0 d1 d2 ∧ mayB d0 d1 d2 a ∧ mayB d0 d1 d2 b)) : (errB2 d0 d1 d2 a b != 0) = true := by
  by_cases hm : mayD d0 d1 d2
  · rw [errB2_no hm (fun k => h ⟨hm, k⟩)]; rfl
  · rw [errB2_bad hm]; rfl
theorem errB2_bd (d0 d1 d2 : Int) (a b : Bx) : 0 ≤ errB2 d0 d1 d2 a b ∧ errB2 d0 d1 d2 a b ≤ 8 := by
  unfold errB2 codeOf
  split
  · split <;> omega
  · omega

/-- A call that answers a list in new memory, and an error. -/
def Lists (f : FuncId) (args : Array Value) (L : List Int) (e : Int) : Prop :=
  ∀ w : World, Calls Try.prog f args w fun x W' => ∃ v, x = .returned (.tuple #[v, I e]) ∧ Lst W' 0 v L ∧ Below w.heap.size w W'
end Go.Proofs.Ytjmfdpilmljppaa

/-
  tidehalllaw02.BoxHas returns true, whatever it is handed; nothing that lay before is turned.
-/
namespace Go.Proofs.Ytjmfdpilmljppaa
open Go.RowKit Go.Shelf

attribute [local go_sem] Oper.semAt_some ext_const eq_arr

/-- How many coordinates a side has below n. -/
theorem coordsTo_count {r b s : Int} (h : mayS r b s) : ∀ n : Nat, (n : Int) ≤ r → ((coordsTo r b s n).length : Int) = if b + s ≤ r then min (n : Int) (b + s) - min (n : Int) b else min (n : Int) (b + s - r) + max 0 ((n : Int) - b) := by
  obtain ⟨⟨h1, h2⟩, h3, h4⟩ := h
  intro n
  induction n with
  | zero => intro _; simp [coordsTo]; split <;> omega
  | succ n ih =>
    intro hn
    have ih := ih (by omega)
    cases hq : hasS r b s n
    · rw [coordsTo_no hq, ih]
      simp only [hasS, decide_eq_false_iff_not] at hq
      unfold aft at hq
      split <;> split at hq <;> omega
    · rw [coordsTo_yes hq, List.length_append, Int.natCast_add, ih]
      simp only [hasS, decide_eq_true_eq] at hq
      unfold aft at hq
      simp only [List.length_cons, List.length_nil]
      split <;> split at hq <;> omega
theorem coordsS_count {r b s : Int} (h : mayS r b s) : ((coordsS r b s).length : Int) = s := by
  have h' := h
  obtain ⟨⟨h1, h2⟩, h3, h4⟩ := h'
  have := coordsTo_count h r.toNat (by omega)
  unfold coordsS
  rw [this]
  split <;> omega
theorem flat_len {f : Int → List Int} {c : Nat} : ∀ {l : List Int}, (∀ a, (f a).length = c) → (l.flatMap f).length = l.length * c
  | [], _ => by simp
  | a :: l, h => by
    rw [List.flatMap_cons, List.length_append, h a, flat_len h, List.length_cons, Nat.succ_mul]
    omega
theorem nodesB_count {d0 d1 d2 : Int} {b : Bx} (hm : mayD d0 d1 d2) (hb : mayB d0 d1 d2 b) : ((nodesB d0 d1 d2 b).length : Int) = manyB b := by
  rw [← nodesB_flat hm, flat_len (c := (coordsS d1 b.y b.b).length * (coordsS d0 b.x b.a).length)]
  · rw [Int.natCast_mul, Int.natCast_mul, coordsS_count hb.1, coordsS_count hb.2.1, coordsS_count hb.2.2]
    unfold manyB
    rw [Int.mul_comm b.c, Int.mul_comm b.b]
  · intro z
    rw [flat_len (c := (coordsS d0 b.x b.a).length)]
    intro y
    simp

theorem nodesTo_prefix (d0 d1 d2 : Int) (b : Bx) {m n : Nat} (h : m ≤ n) : nodesTo d0 d1 d2 b m <+: nodesTo d0 d1 d2 b n := by
  induction n with
  | zero => rw [Nat.le_zero.1 h]; exact List.prefix_rfl
  | succ n ih =>
    rcases Nat.lt_or_eq_of_le h with h | rfl
    · refine (ih (by omega)).trans ?_
      cases hq : hasB d0 d1 d2 b n
      · rw [nodesTo_no hq]; exact List.prefix_rfl
      · rw [nodesTo_yes hq]; exact List.prefix_append _ _
    · exact List.prefix_rfl
theorem nodes_at {d0 d1 d2 : Int} {b : Bx} {m : Nat} (hn : m < (d0 * d1 * d2).toNat) (h : hasB d0 d1 d2 b m = true) :
    (nodesTo d0 d1 d2 b m).length < (nodesB d0 d1 d2 b).length ∧ (nodesB d0 d1 d2 b).getD (nodesTo d0 d1 d2 b m).length 0 = m := by
  have hp := nodesTo_prefix d0 d1 d2 b (show m + 1 ≤ (d0 * d1 * d2).toNat by omega)
  rw [nodesTo_yes h] at hp
  obtain ⟨t, ht⟩ := hp
  unfold nodesB
  rw [← ht]
  constructor
  · simp
  · simp

end Go.Proofs.Ytjmfdpilmljppaa

/-
  What GrowAll and GrowMost ask, without a program: with nothing taken the whole machine is the only one that lies in no other; how many the largest free box can have; each free box lies in one that lies in no other one.
-/
namespace Go.Proofs.Ytjmfdpilmljppaa
open Go Go.RowKit Go.Shelf

theorem topM_pos : ∀ (xs : List Bx), 0 ≤ topM xs := by
  intro xs
  unfold topM
  have : ∀ (xs : List Bx) (m : Int), 0 ≤ m → 0 ≤ xs.foldl (fun m b => max m (manyB b)) m := by
    intro xs
    induction xs with
    | nil => intro m h; exact h
    | cons x xs ih => intro m h; exact ih _ (show 0 ≤ max m (manyB x) by omega)
  exact this xs 0 (by omega)
theorem topM_le {R : Int} (hR : 0 ≤ R) : ∀ {xs : List Bx}, (∀ x ∈ xs, manyB x ≤ R) → topM xs ≤ R := by
  intro xs hx
  unfold topM
  have : ∀ (xs : List Bx) (m : Int), (∀ x ∈ xs, manyB x ≤ R) → m ≤ R → xs.foldl (fun m b => max m (manyB b)) m ≤ R := by
    intro xs
    induction xs with
    | nil => intro m _ h; exact h
    | cons x xs ih =>
      intro m h hm
      have := h x (by simp)
      exact ih _ (fun y hy => h y (by simp [hy])) (show max m (manyB x) ≤ R by omega)
  exact this xs 0 hx hR
theorem topM_ge {xs : List Bx} {x : Bx} (hx : x ∈ xs) : manyB x ≤ topM xs := by
  unfold topM
  have hm : ∀ (xs : List Bx) (m : Int), m ≤ xs.foldl (fun m b => max m (manyB b)) m := by
    intro xs
    induction xs with
    | nil => intro m; exact Int.le_refl _
    | cons x xs ih => intro m; exact Int.le_trans (by omega) (ih (max m (manyB x)))
  have : ∀ (xs : List Bx) (m : Int), x ∈ xs → manyB x ≤ xs.foldl (fun m b => max m (manyB b)) m := by
    intro xs
    induction xs with
    | nil => intro m h; cases h
    | cons y xs ih =>
      intro m h
      rcases List.mem_cons.1 h with rfl | h
      · exact Int.le_trans (by omega) (hm xs (max m (manyB x)))
      · exact ih _ h
  exact this xs 0 hx

/-- The whole machine. -/
abbrev wholeX (d0 d1 d2 : Int) : Bx := ⟨0, 0, 0, d0, d1, d2⟩
theorem wholeX_may {d0 d1 d2 : Int} (hd : mayD d0 d1 d2) : mayB d0 d1 d2 (wholeX d0 d1 d2) ∧ canonB d0 d1 d2 (wholeX d0 d1 d2) = wholeX d0 d1 d2 := by
  obtain ⟨⟨a1, a2⟩, ⟨b1, b2⟩, c1, c2⟩ := hd
  refine ⟨⟨⟨⟨a1, Int.le_refl _⟩, by show (0 : Int) ≤ 0 ∧ 0 < d0; omega⟩, ⟨⟨b1, Int.le_refl _⟩, by show (0 : Int) ≤ 0 ∧ 0 < d1; omega⟩, ⟨c1, Int.le_refl _⟩, by show (0 : Int) ≤ 0 ∧ 0 < d2; omega⟩, ?_⟩
  simp [canonB]
theorem no_step {d0 d1 d2 : Int} {q : Bx → Bool} {b : Bx} (h : nextG d0 d1 d2 q b = none) {k : Fin 3} {back : Bool} (hk : sAt b k + 1 ≤ dimAt d0 d1 d2 k) : q (stepB d0 d1 d2 b k back) = false := by
  have := next_none_iff.1 h (k, back)
  unfold tryG at this
  rw [decide_eq_true hk, Bool.true_and] at this
  exact this
theorem grown_same {d0 d1 d2 : Int} (hd : mayD d0 d1 d2) {xs : List Bx} {b : Bx} (hb : mayB d0 d1 d2 b) (hc : canonB d0 d1 d2 b = b) (hx : b ∈ xs) : lonely d0 d1 d2 xs b = true ↔ nextG d0 d1 d2 (memX xs) b = none := by
  unfold lonely
  rw [sameBx_iff]
  constructor
  · intro h
    have := (grow_is hd (q := memX xs) 48 hb hc (memX_iff.2 hx) (by
      have h1 := hb.1.1.1; have h2 := hb.2.1.1.1; have h3 := hb.2.2.1.1
      show 48 - szB b ≤ ((48 : Nat) : Int)
      unfold szB
      omega)).2.2.2.2
    rwa [h] at this
  · exact grow_none
theorem lonely_all {d0 d1 d2 : Int} (hd : mayD d0 d1 d2) {xs : List Bx} (hall : ∀ b, mayB d0 d1 d2 b → canonB d0 d1 d2 b = b → b ∈ xs) (hmay : ∀ b ∈ xs, mayB d0 d1 d2 b ∧ canonB d0 d1 d2 b = b) {b : Bx} (hb : b ∈ xs) : lonely d0 d1 d2 xs b = true ↔ b = wholeX d0 d1 d2 := by
  obtain ⟨mb, cb⟩ := hmay b hb
  rw [grown_same hd mb cb hb]
  constructor
  · intro h
    have full : ∀ k : Fin 3, sAt b k = dimAt d0 d1 d2 k := fun k => by
      have h1 := (mayB_at mb k).1.2
      by_cases hk : sAt b k + 1 ≤ dimAt d0 d1 d2 k
      · obtain ⟨m1, m2, _⟩ := step_is hd mb hk false
        have := no_step h (back := false) hk
        rw [memX_iff.2 (hall _ m1 m2)] at this
        cases this
      · omega
    have f0 : b.a = d0 := full 0
    have f1 : b.b = d1 := full 1
    have f2 : b.c = d2 := full 2
    obtain ⟨x, y, z, u, v, t⟩ := b
    simp only at f0 f1 f2
    subst f0 f1 f2
    simp only [canonB, if_true] at cb
    injection cb with e0 e1 e2
    rw [← e0, ← e1, ← e2]
  · rintro rfl
    refine next_none_iff.2 fun s => ?_
    unfold tryG
    obtain ⟨k, back⟩ := s
    have : ¬ (sAt (wholeX d0 d1 d2) k + 1 ≤ dimAt d0 d1 d2 k) := by
      match k with
      | 0 => show ¬ (d0 + 1 ≤ d0); omega
      | 1 => show ¬ (d1 + 1 ≤ d1); omega
      | 2 => show ¬ (d2 + 1 ≤ d2); omega
    rw [decide_eq_false this, Bool.false_and]

theorem sizesZ_nodup (a b c : Nat) : (sizesZ a b c).Pairwise (· ≠ ·) := by
  have hr : ∀ x y : Nat, (rowZ x y c).Pairwise (· ≠ ·) := fun x y => by
    unfold rowZ
    rw [List.pairwise_map]
    exact List.nodup_range.imp fun {i j} hne e => hne (by
      have := congrArg (fun t : Tz => t.2.2) e
      simp only at this
      omega)
  have hp : ∀ x : Nat, (planeZ c x b).Pairwise (· ≠ ·) := fun x => by
    unfold planeZ
    rw [List.pairwise_flatMap]
    refine ⟨fun y _ => hr x y, List.nodup_range.imp fun {i j} hne => ?_⟩
    intro s hs t ht e
    subst e
    simp only [rowZ, List.mem_map] at hs ht
    obtain ⟨_, _, e1⟩ := hs
    obtain ⟨_, _, e2⟩ := ht
    have q1 := congrArg (fun t : Tz => t.2.1) e1
    have q2 := congrArg (fun t : Tz => t.2.1) e2
    simp only at q1 q2
    exact hne (by omega)
  unfold sizesZ cubeZ
  rw [List.pairwise_flatMap]
  refine ⟨fun x _ => hp x, List.nodup_range.imp fun {i j} hne => ?_⟩
  intro s hs t ht e
  subst e
  simp only [planeZ, rowZ, List.mem_flatMap, List.mem_map] at hs ht
  obtain ⟨_, _, _, _, e1⟩ := hs
  obtain ⟨_, _, _, _, e2⟩ := ht
  have q1 := congrArg (fun t : Tz => t.1) e1
  have q2 := congrArg (fun t : Tz => t.1) e2
  simp only at q1 q2
  exact hne (by omega)
theorem boxesZ_nodup (d0 d1 d2 : Int) : (boxesZ d0 d1 d2).Pairwise (· ≠ ·) := by
  unfold boxesZ bxP
  rw [List.pairwise_flatMap]
  refine ⟨fun m _ => ?_, List.nodup_range.imp fun {i j} hne => ?_⟩
  · unfold bxL
    refine List.Pairwise.filter _ ?_
    rw [List.pairwise_map]
    exact (sizesZ_nodup _ _ _).imp fun {s t} hne e => hne (by
      obtain ⟨s1, s2, s3⟩ := s
      obtain ⟨t1, t2, t3⟩ := t
      unfold bxZ at e
      injection e with _ _ _ q1 q2 q3
      simp only at q1 q2 q3
      rw [q1, q2, q3])
  · intro x hx y hy e
    subst e
    simp only [bxL, List.mem_filter, List.mem_map] at hx hy
    obtain ⟨⟨s, _, e1⟩, _⟩ := hx
    obtain ⟨⟨t, _, e2⟩, _⟩ := hy
    have e := e1.trans e2.symm
    unfold bxZ at e
    injection e with q1 q2 q3 _ _ _
    have n1 := num_of_node (d0 := d0) (d1 := d1) (m := (i : Int))
    have n2 := num_of_node (d0 := d0) (d1 := d1) (m := (j : Int))
    rw [q1, q2, q3] at n1
    exact hne (by omega)
theorem filter_one {F : Bx} {p : Bx → Bool} : ∀ {xs : List Bx}, xs.Pairwise (· ≠ ·) → F ∈ xs → (∀ x ∈ xs, p x = true ↔ x = F) → xs.filter p = [F]
  | [], _, h, _ => by cases h
  | x :: xs, hn, h, hp => by
    obtain ⟨h1, h2⟩ := List.pairwise_cons.1 hn
    by_cases e : x = F
    · subst e
      rw [List.filter_cons_of_pos ((hp x (by simp)).2 rfl)]
      congr 1
      rw [List.filter_eq_nil_iff]
      intro y hy hpy
      exact h1 y hy ((hp y (by simp [hy])).1 hpy).symm
    · rw [List.filter_cons_of_neg (fun hpx => e ((hp x (by simp)).1 hpx))]
      exact filter_one h2 ((List.mem_cons.1 h).resolve_left fun k => e k.symm) fun y hy => hp y (by simp [hy])

theorem freeL_nodup (d0 d1 d2 : Int) (ws : List Nat) : (freeL d0 d1 d2 ws).Pairwise (· ≠ ·) := List.Pairwise.filter _ (boxesZ_nodup d0 d1 d2)
theorem errF_ok {d0 d1 d2 : Int} {ws : List Nat} (hd : mayD d0 d1 d2) (he : errAll (d0 * d1 * d2) [ws] = 0) (hn : d0 * d1 * d2 ≤ 64) : errF d0 d1 d2 ws = 0 := by
  rcases errG_cases d0 d1 d2 ws with ⟨_, _, hr⟩ | ⟨h, _⟩ | ⟨_, h, _⟩
  · simp [errF, hr, hn]
  · exact absurd hd h
  · rw [he] at h; cases h
theorem most_none {d0 d1 d2 : Int} {S : List Nat} (hd : mayD d0 d1 d2) (he : errAll (d0 * d1 * d2) [S] = 0) (hn : d0 * d1 * d2 ≤ 64) (hS : ∀ k, hasW S k = false) : mostV d0 d1 d2 S = [wholeX d0 d1 d2] := by
  unfold mostV
  rw [if_pos (errF_ok hd he hn)]
  unfold mostL
  have hm : ∀ b, b ∈ freeL d0 d1 d2 S ↔ mayB d0 d1 d2 b ∧ canonB d0 d1 d2 b = b := fun b => by
    unfold freeL
    rw [List.mem_filter, boxesZ_mem hd, clearX_iff]
    exact ⟨fun h => h.1, fun h => ⟨h, fun k _ _ => hS k⟩⟩
  exact filter_one (freeL_nodup _ _ _ _) ((hm _).2 (wholeX_may hd)) fun x hx => lonely_all hd (fun b h1 h2 => (hm b).2 ⟨h1, h2⟩) (fun b hb => (hm b).1 hb) hx
theorem top_mono {d0 d1 d2 : Int} {a c : List Nat} (h : ∀ k : Nat, hasW a k = true → hasW c k = true) : topM (freeL d0 d1 d2 c) ≤ topM (freeL d0 d1 d2 a) := by
  refine topM_le (topM_pos _) fun x hx => topM_ge ?_
  unfold freeL at hx ⊢
  rw [List.mem_filter] at hx ⊢
  refine ⟨hx.1, clearX_iff.2 fun k hk hb => ?_⟩
  have := clearX_iff.1 hx.2 k hk hb
  cases ha : hasW a k
  · rfl
  · rw [h k ha] at this; cases this

theorem count_off : ∀ (l : List Nat) (p q : Nat → Bool), (∀ k ∈ l, p k = true → q k = false) → (l.filter p).length + (l.filter q).length ≤ l.length
  | [], _, _, _ => by simp
  | x :: l, p, q, h => by
    have := count_off l p q fun k hk => h k (by simp [hk])
    have hx := h x (by simp)
    cases hp : p x <;> cases hq : q x <;> simp [hp, hq] at hx ⊢ <;> omega
theorem set_count {n : Nat} {ws : List Nat} (he : errAll (n : Int) [ws] = 0) : manyR n ws = ((List.range n).filter fun k => hasW ws k).length := by
  obtain ⟨h1, h2, hm⟩ := err_one he
  obtain ⟨hl, hz⟩ := mayS_iff.1 hm
  rw [manyR_in he, manyS_to hl]
  have e : 64 * (((n : Int).toNat + 63) / 64) = n + (64 * ((n + 63) / 64) - n) := by
    rw [Int.toNat_natCast]; omega
  rw [e]
  have hmw : ∀ j, listTo ws (n + j) = listTo ws n := by
    intro j
    induction j with
    | zero => rfl
    | succ j ih => rw [← Nat.add_assoc, listTo_no (hz (n + j) (by rw [Int.toNat_natCast]; omega)), ih]
  rw [hmw]
  rfl
theorem top_room {d0 d1 d2 : Int} {ws : List Nat} (hd : mayD d0 d1 d2) (he : errAll (d0 * d1 * d2) [ws] = 0) : topM (freeL d0 d1 d2 ws) ≤ d0 * d1 * d2 - manyR (d0 * d1 * d2) ws := by
  have hn := N_bd hd
  obtain ⟨N, hN⟩ : ∃ N : Nat, d0 * d1 * d2 = N := ⟨(d0 * d1 * d2).toNat, by omega⟩
  have hk := set_count (n := N) (by rw [← hN]; exact he)
  have hle : ((List.range N).filter fun k => hasW ws k).length ≤ N := Nat.le_trans (List.length_filter_le _ _) (by simp)
  rw [hN, hk]
  refine topM_le (by omega) fun x hx => ?_
  unfold freeL at hx
  rw [List.mem_filter, boxesZ_mem hd] at hx
  have hc := nodesB_count hd hx.1.1
  have hf : (nodesB d0 d1 d2 x).length = ((List.range N).filter fun k : Nat => hasB d0 d1 d2 x (k : Int)).length := by
    unfold nodesB nodesTo
    rw [hN, Int.toNat_natCast, List.length_map]
  have := count_off (List.range N) (fun k : Nat => hasB d0 d1 d2 x (k : Int)) (fun k => hasW ws k) fun k hk2 hb => clearX_iff.1 hx.2 k (by rw [hN]; simpa using hk2) hb
  rw [List.length_range] at this
  omega
theorem hasS_unit {r b c : Int} (hb : 0 ≤ b ∧ b < r) (hc : 0 ≤ c ∧ c < r) : hasS r b 1 c = true ↔ c = b := by
  have := aft_bd hb hc
  simp only [hasS, decide_eq_true_eq]
  unfold aft at this ⊢
  split <;> omega
theorem one_free {d0 d1 d2 : Int} {ws : List Nat} (hd : mayD d0 d1 d2) {m : Nat} (hm : (m : Int) < d0 * d1 * d2) (hw : hasW ws m = false) : (⟨cx d0 m, cy d0 d1 m, cz d0 d1 m, 1, 1, 1⟩ : Bx) ∈ freeL d0 d1 d2 ws := by
  obtain ⟨g1, g2, g3⟩ := inD_of_node hd (m := m) ⟨by omega, hm⟩
  have hb : mayB d0 d1 d2 ⟨cx d0 m, cy d0 d1 m, cz d0 d1 m, 1, 1, 1⟩ := by
    obtain ⟨⟨a1, a2⟩, ⟨b1, b2⟩, c1, c2⟩ := hd
    exact ⟨⟨⟨Int.le_refl 1, a1⟩, g1⟩, ⟨⟨Int.le_refl 1, b1⟩, g2⟩, ⟨Int.le_refl 1, c1⟩, g3⟩
  unfold freeL
  rw [List.mem_filter, boxesZ_mem hd, clearX_iff]
  refine ⟨⟨hb, ?_⟩, fun k hk hh => ?_⟩
  · unfold canonB
    simp only [Bx.mk.injEq, and_true]
    refine ⟨?_, ?_, ?_⟩ <;> split <;> omega
  · have hk2 : ((k : Nat) : Int) < d0 * d1 * d2 := by omega
    obtain ⟨f1, f2, f3⟩ := inD_of_node hd (m := k) ⟨by omega, hk2⟩
    simp only [hasB, Bool.and_eq_true] at hh
    have e0 := (hasS_unit g1 f1).1 hh.1.1
    have e1 := (hasS_unit g2 f2).1 hh.1.2
    have e2 := (hasS_unit g3 f3).1 hh.2
    have n1 := num_of_node (d0 := d0) (d1 := d1) (m := (k : Int))
    have n2 := num_of_node (d0 := d0) (d1 := d1) (m := (m : Int))
    rw [e0, e1, e2, n2] at n1
    have : k = m := by omega
    rw [this]
    exact hw
theorem top_zero {d0 d1 d2 : Int} {ws : List Nat} (hd : mayD d0 d1 d2) (he : errAll (d0 * d1 * d2) [ws] = 0) : topM (freeL d0 d1 d2 ws) = 0 ↔ (manyR (d0 * d1 * d2) ws : Int) = d0 * d1 * d2 := by
  have hn := N_bd hd
  have hr := top_room hd he
  have hp := topM_pos (freeL d0 d1 d2 ws)
  constructor
  · intro h
    obtain ⟨N, hN⟩ : ∃ N : Nat, d0 * d1 * d2 = N := ⟨(d0 * d1 * d2).toNat, by omega⟩
    have hk := set_count (n := N) (by rw [← hN]; exact he)
    rw [hN, hk]
    have : ((List.range N).filter fun k => hasW ws k) = List.range N := by
      rw [List.filter_eq_self]
      intro k hk2
      have hk3 : k < N := by simpa using hk2
      cases hw : hasW ws k
      · have := topM_ge (one_free hd (m := k) (by omega) hw)
        rw [h] at this
        exact absurd this (by show ¬ ((1 * 1 * 1 : Int) ≤ 0); decide)
      · rfl
    rw [this, List.length_range]
  · intro h
    omega

end Go.Proofs.Ytjmfdpilmljppaa

/-
  What GrowMost asks, without a program: each free box lies in one that can't be grown; those lie in no other one; what is grown as far as it goes is one of them.
-/
namespace Go.Proofs.Ytjmfdpilmljppaa
open Go Go.RowKit Go.Shelf

def qW (ws : List Nat) (m : Int) : Bool := hasW ws m.toNat
theorem free_is {d0 d1 d2 : Int} (hd : mayD d0 d1 d2) {ws : List Nat} {b : Bx} : b ∈ freeL d0 d1 d2 ws ↔ freeG d0 d1 d2 (qW ws) b := by
  have hn := N_bd hd
  unfold freeL freeG qW
  rw [List.mem_filter, boxesZ_mem hd, clearX_iff]
  constructor
  · rintro ⟨⟨h1, h2⟩, h3⟩
    exact ⟨h1, h2, fun m hm hb => h3 m.toNat (by omega) (by rw [Int.toNat_of_nonneg hm.1]; exact hb)⟩
  · rintro ⟨h1, h2, h3⟩
    exact ⟨⟨h1, h2⟩, fun k hk hb => h3 k ⟨by omega, by omega⟩ hb⟩
theorem lone_is {d0 d1 d2 : Int} (hd : mayD d0 d1 d2) {ws : List Nat} {b : Bx} (hb : b ∈ freeL d0 d1 d2 ws) : lonely d0 d1 d2 (freeL d0 d1 d2 ws) b = true ↔ loneG d0 d1 d2 (qW ws) b := by
  have hf := (free_is hd).1 hb
  rw [grown_same hd hf.1 hf.2.1 hb]
  constructor
  · intro h
    refine lone_of hd hf fun k back hk hs => ?_
    have := no_step h (back := back) hk
    rw [memX_iff.2 ((free_is hd).2 hs)] at this
    cases this
  · intro h
    refine next_none_iff.2 fun s => ?_
    obtain ⟨k, back⟩ := s
    unfold tryG
    by_cases hk : sAt b k + 1 ≤ dimAt d0 d1 d2 k
    · rw [decide_eq_true hk, Bool.true_and]
      cases hm : memX (freeL d0 d1 d2 ws) (stepB d0 d1 d2 b k back)
      · rfl
      · exfalso
        obtain ⟨_, _, hi, hz⟩ := step_is hd hf.1 hk back
        have := h _ ((free_is hd).1 (memX_iff.1 hm)) hi
        rw [this] at hz
        omega
    · rw [decide_eq_false hk, Bool.false_and]
theorem most_is {d0 d1 d2 : Int} (hd : mayD d0 d1 d2) {ws : List Nat} {b : Bx} : b ∈ mostL d0 d1 d2 (freeL d0 d1 d2 ws) ↔ freeG d0 d1 d2 (qW ws) b ∧ loneG d0 d1 d2 (qW ws) b := by
  unfold mostL
  rw [List.mem_filter]
  constructor
  · rintro ⟨h1, h2⟩
    exact ⟨(free_is hd).1 h1, (lone_is hd h1).1 h2⟩
  · rintro ⟨h1, h2⟩
    have h3 := (free_is hd).2 h1
    exact ⟨h3, (lone_is hd h3).2 h2⟩
/-- What the statement asks of the two lists. -/
structure MostOk (d0 d1 d2 : Int) (xs ms : List Bx) : Prop where
  mx : ∀ x ∈ xs, mayB d0 d1 d2 x
  mm : ∀ x ∈ ms, mayB d0 d1 d2 x
  lies : ∀ x ∈ xs, (ms.any fun c => inB d0 d1 d2 x c) = true
  own : ∀ c ∈ ms, memX xs c = true
  lone : ∀ i k, i < ms.length → k < ms.length → k ≠ i → inB d0 d1 d2 (ms.getD i zX) (ms.getD k zX) = false
theorem most_ok {d0 d1 d2 : Int} (hd : mayD d0 d1 d2) (ws : List Nat) : MostOk d0 d1 d2 (freeL d0 d1 d2 ws) (mostL d0 d1 d2 (freeL d0 d1 d2 ws)) where
  mx := fun x hx => ((free_is hd).1 hx).1
  mm := fun x hx => ((most_is hd).1 hx).1.1
  lies := fun x hx => by
    have hf := (free_is hd).1 hx
    obtain ⟨c, h1, h2, h3⟩ := in_lone hd 48 hf (by
      have q0 := hf.1.1.1.1; have q1 := hf.1.2.1.1.1; have q2 := hf.1.2.2.1.1
      show 48 - szB x ≤ ((48 : Nat) : Int)
      unfold szB
      omega)
    exact List.any_eq_true.2 ⟨c, (most_is hd).2 ⟨h1, h2⟩, h3⟩
  own := fun c hc => memX_iff.2 ((free_is hd).2 ((most_is hd).1 hc).1)
  lone := fun i k hi hk hne => by
    cases h : inB d0 d1 d2 ((mostL d0 d1 d2 (freeL d0 d1 d2 ws)).getD i zX) ((mostL d0 d1 d2 (freeL d0 d1 d2 ws)).getD k zX)
    · rfl
    · exfalso
      have hnd : (mostL d0 d1 d2 (freeL d0 d1 d2 ws)).Pairwise (· ≠ ·) := List.Pairwise.filter _ (freeL_nodup d0 d1 d2 ws)
      have mi : (mostL d0 d1 d2 (freeL d0 d1 d2 ws)).getD i zX ∈ mostL d0 d1 d2 (freeL d0 d1 d2 ws) := by simp [hi]
      have mk : (mostL d0 d1 d2 (freeL d0 d1 d2 ws)).getD k zX ∈ mostL d0 d1 d2 (freeL d0 d1 d2 ws) := by simp [hk]
      have e := ((most_is hd).1 mi).2 _ ((most_is hd).1 mk).1 h
      generalize mostL d0 d1 d2 (freeL d0 d1 d2 ws) = ms at *
      rw [List.pairwise_iff_getElem] at hnd
      simp only [List.getD_eq_getElem?_getD, List.getElem?_eq_getElem hi, List.getElem?_eq_getElem hk, Option.getD_some] at e
      rcases Nat.lt_or_gt_of_ne hne with h1 | h1
      · exact hnd k i hk hi h1 e
      · exact hnd i k hi hk h1 e.symm
/-- What is grown as far as it goes. -/
theorem whole_ok {d0 d1 d2 : Int} {ws : List Nat} {b : Bx} (hd : mayD d0 d1 d2) (h : errW d0 d1 d2 b ws = 0) :
    mayB d0 d1 d2 b ∧ wholeV d0 d1 d2 b ws ∈ mostL d0 d1 d2 (freeL d0 d1 d2 ws) ∧ mayB d0 d1 d2 (wholeV d0 d1 d2 b ws) ∧ inB d0 d1 d2 b (wholeV d0 d1 d2 b ws) = true := by
  unfold wholeV
  rw [if_pos h]
  unfold errW at h
  split at h
  · split at h
    · rename_i hb
      have hb := (mayBB_iff _ _ _ _).1 hb
      split at h
      · rename_i hc
        obtain ⟨g1, g2, g3, g4, g5⟩ := grow_is hd (q := clearX d0 d1 d2 ws) 48 (canon_may hb) (canon_canon _ _ _ _) hc (by
          have q0 := hb.1.1.1; have q1 := hb.2.1.1.1; have q2 := hb.2.2.1.1
          show 48 - szB (canonB d0 d1 d2 b) ≤ ((48 : Nat) : Int)
          rw [canon_sz]
          unfold szB
          omega)
        have hfr : growG d0 d1 d2 (clearX d0 d1 d2 ws) (canonB d0 d1 d2 b) ∈ freeL d0 d1 d2 ws := by
          unfold freeL
          rw [List.mem_filter, boxesZ_mem hd]
          exact ⟨⟨g1, g2⟩, g3⟩
        have hfg := (free_is hd).1 hfr
        refine ⟨hb, (most_is hd).2 ⟨hfg, lone_of hd hfg fun k back hk hs => ?_⟩, g1, in_trans hd hb (canon_may hb) g1 (canon_in hb).1 g4⟩
        have := no_step g5 (back := back) hk
        have hin := (free_is hd).2 hs
        unfold freeL at hin
        rw [(List.mem_filter.1 hin).2] at this
        cases this
      · cases h
    · cases h
  · cases h

end Go.Proofs.Ytjmfdpilmljppaa

/-
  A set among the arguments: as it came in, and a copy of it.
-/
namespace Go.Proofs.Ytjmfdpilmljppaa
open Go Go.RowKit Go.Shelf

/-- A row of words that came in. -/
def ArgW (W : World) (v : Value) (ws : List Nat) : Prop := Wds W v ws ∧ (v = .slice none 0 0 ∨ ∃ ad cap, v = .slice (some ad) ws.length cap)
def ArgI (W : World) (v : Value) (xs : List Int) : Prop := Its W v xs ∧ (v = .slice none 0 0 ∨ ∃ ad cap, v = .slice (some ad) xs.length cap)

theorem owns_wds {W : World} {base : Nat} {v : Value} {ws : List Nat} (hw : ∀ x ∈ ws, x < 18446744073709551616) (h : W.ownsRow base 28 1 v ws.length (ws.map U)) : Wds W v ws := by
  obtain ⟨h1, h2⟩ := h
  refine ⟨hw, ?_⟩
  rcases h2 with ⟨rfl, hn⟩ | ⟨g, cap, cur, rfl, hg, hh, hc, hc2, hs, ht⟩
  · have : ws = [] := List.length_eq_zero_iff.1 hn
    subst this
    exact Sl.nil W
  · refine ⟨_, cap, by simp, fun k hk => ⟨g, 0, rfl, (Array.getElem?_eq_some_iff.1 hh).1, ?_⟩⟩
    have hb : Blk W g 28 cur := hh
    rw [Nat.zero_add, hb.cell k]
    have := congrArg (fun l => l[k]?) ht
    simp only [Nat.mul_one] at this
    rw [List.length_map] at hk
    rw [List.getElem?_take_of_lt hk, Array.getElem?_toList] at this
    exact this

/-- 'own = append(own, s...)', own nil. -/
theorem wpList_copy {ops : Array Oper} {rest : List Oper} {o : Oper} {a : Act} {Q : Exit → Act → World → Prop} {W : World} {v : Value} {ws : List Nat} (hgd : o.guard = none) (s x : Operand)
    (ho : o.op = .call { callee := .builtin .append, args := #[s, x], argTypes := #[30, 30] }) (hs : a.eval s = .slice none 0 0) (hx : a.eval x = v)
    (hA : ArgW W v ws) (hl : ws.length ≤ 1000)
    (h : ∀ v' w', Wds w' v' ws → Below W.heap.size W w' → wpList Try.prog ops Q rest (a.put o.dst v') w') : wpList Try.prog ops Q (o :: rest) a W := by
  obtain ⟨i0, hi, hz0, hz1, hz2⟩ := info_parts info_u64
  obtain ⟨hW, rfl | ⟨ad, cap, rfl⟩⟩ := hA
  · have e : ws = [] := by
      obtain ⟨ao, c, e, _⟩ := hW.view
      simp only [Value.slice.injEq] at e
      exact List.length_eq_zero_iff.1 e.2.1.symm
    subst e
    exact wpList_append_own_none hgd s x 30 ho W.heap.size 28 i0 1 Try.underlying30 hi (.slice none 0 0) 0 [] hs (World.ownsRow_nil _ _ _ _) hx (h _ _ (Wds.nil W) (Below.refl _ _))
  · refine wpList_append_own (w := W) hgd s x 30 ho W.heap.size 28 i0 (.int .u64 0) 1 8 Try.underlying30 hi hz0 hz1 hz2 rfl (by decide) (.slice none 0 0) 0 [] hs (World.ownsRow_nil _ _ _ _) ad ws.length cap (ws.map U) hx (by simp) ?_ ?_ ?_ ?_ ?_ ?_
    · intro j u hj
      obtain ⟨ao, c, e, hv⟩ := hW.view
      simp only [Value.slice.injEq] at e
      obtain ⟨rfl, -, -⟩ := e
      have hjl : j < ws.length := by
        have := (List.getElem?_eq_some_iff.1 hj).1
        simpa using this
      obtain ⟨g, off, e, hg, hc⟩ := hv j hjl
      simp only [Option.some.injEq] at e
      subst e
      have : (⟨g, off, none⟩ : Addr).add j = ⟨g, off + j, none⟩ := by
        unfold Addr.add
        split
        · rename_i h0; subst h0; rfl
        · rfl
      rw [this, hc, ← hj]
      simp [hjl]
    · intro u hu
      obtain ⟨y, _, rfl⟩ := List.mem_map.1 hu
      rfl
    · unfold maxLen; omega
    · omega
    · omega
    · intro v' w1 hown' hgrow _
      refine h v' w1 (owns_wds hW.1 (by simpa using hown')) ?_
      exact (Below.refl _ W).grown hgrow (Nat.le_refl _) (fun k hk => by cases hk)

end Go.Proofs.Ytjmfdpilmljppaa
