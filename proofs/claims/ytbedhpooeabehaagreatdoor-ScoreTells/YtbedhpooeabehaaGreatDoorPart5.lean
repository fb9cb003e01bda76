/-
  Sets in memory that a call made: one is made empty, and a number after the other is put in.
-/
import Derived.Test.YtbedhpooeabehaaGreatDoorPart4
import Derived.Laws.MakeOwn
import Derived.Lib.TrailingZeros
import Derived.Laws.Bits128
import Derived.Test.YtbedhpooeabehaaGreatDoorProg
import Derived.OwnWalk
namespace Go.Proofs.YtbedhpooeabehaaGreatDoor
open Go Go.RowKit Go.Shelf

/-- The set v holds the words ws, in a block of its own from number base on. -/
def Set1 (W : World) (base : Nat) (v : Value) (ws : List Nat) : Prop :=
  (∀ x ∈ ws, x < 18446744073709551616) ∧ ∃ g, v = .slice (some ⟨g, 0, none⟩) ws.length ws.length ∧ base ≤ g ∧ Blk W g 80 (ws.map U).toArray
/-- .. or there is none. -/
def SetR (W : World) (base : Nat) (v : Value) (ws : List Nat) : Prop := Set1 W base v ws ∨ (v = .slice none 0 0 ∧ ws = [])
theorem Set1.wds {W : World} {base : Nat} {v : Value} {ws : List Nat} (h : Set1 W base v ws) : Wds W v ws := by
  obtain ⟨h1, g, rfl, _, hb⟩ := h
  have := Sl.blk hb ws.length
  rw [List.length_map] at this
  exact ⟨h1, this⟩
theorem Set1.later {W W' : World} {base : Nat} {v : Value} {ws : List Nat} (h : Set1 W base v ws) (hb : Below W.heap.size W W') : Set1 W' base v ws := by
  obtain ⟨h1, g, e, hg, hk⟩ := h
  exact ⟨h1, g, e, hg, hk.later hb⟩
theorem Set1.weak {W : World} {base base' : Nat} {v : Value} {ws : List Nat} (h : Set1 W base v ws) (hb : base' ≤ base) : Set1 W base' v ws := by
  obtain ⟨h1, g, e, hg, hk⟩ := h
  exact ⟨h1, g, e, Nat.le_trans hb hg, hk⟩
theorem SetR.wds {W : World} {base : Nat} {v : Value} {ws : List Nat} (h : SetR W base v ws) : Wds W v ws := by
  rcases h with h | ⟨rfl, rfl⟩
  · exact h.wds
  · exact Wds.nil W
theorem SetR.later {W W' : World} {base : Nat} {v : Value} {ws : List Nat} (h : SetR W base v ws) (hb : Below W.heap.size W W') : SetR W' base v ws := by
  rcases h with h | h
  · exact .inl (h.later hb)
  · exact .inr h
theorem SetR.weak {W : World} {base base' : Nat} {v : Value} {ws : List Nat} (h : SetR W base v ws) (hb : base' ≤ base) : SetR W base' v ws := by
  rcases h with h | h
  · exact .inl (h.weak hb)
  · exact .inr h

theorem info_u64 : (Tryz.prog.info? 80).map (fun i => (i.zero, i.size, i.bytes)) = some (some (.int .u64 0), 1, 8) := by kernel_rfl

theorem made_zero (n : Nat) : madeCells #[.int .u64 0] n = ((List.replicate n 0).map U).toArray := by
  apply Array.ext
  · simp [madeCells]
  · intro i h1 h2
    simp only [madeCells, Array.getElem_map, Array.getElem_range]
    simp [Nat.mod_one]

/-- 'make(api.Set, n)'. -/
theorem wpList_mkW {ops : Array Oper} {rest : List Oper} {o : Oper} {a : Act} {Q : Exit → Act → World → Prop} {W : World} (hgd : o.guard = none) (l c : Operand) (ho : o.op = Op.makeSlice 25 l c) (n : Nat)
    (hl : a.eval l = .int .i64 n) (hc : a.eval c = .int .i64 n) (h1 : n ≤ 100000)
    (h : ∀ w', Blk w' W.heap.size 80 ((List.replicate n 0).map U).toArray → Below W.heap.size W w' → wpList Tryz.prog ops Q rest (a.put o.dst (.slice (some ⟨W.heap.size, 0, none⟩) n n)) w') : wpList Tryz.prog ops Q (o :: rest) a W := by
  obtain ⟨i0, hi, hz0, hz1, hz2⟩ := info_parts info_u64
  refine wpList_plain hgd fun K hK' => ?_
  have hrun := run_make (P := Tryz.prog) W 25 80 i0 (.int .u64 0) Tryz.underlying25 hi hz0 .i64 .i64 n n (by omega) (by omega) (by rw [hz2]; omega) (by omega)
  rw [hz1, Nat.mul_one] at hrun
  simp only [Int.toNat_natCast] at hrun
  rw [show (Value.int .u64 0).cells = #[.int .u64 0] from rfl, made_zero] at hrun
  have hN := h _ (Blk.new W 80 _) ((Below.refl _ W).alloc (Nat.le_refl _) _)
  clear h
  generalize ((List.replicate n 0).map U).toArray = cs at hrun hN
  unfold Oper.wp
  simp [execOp, ho, hl, hc, hrun, Result.andThen]
  exact hK' _ _ hN

/-- A number is put into a set. -/
def putW (ws : List Nat) (k : Nat) : List Nat := ws.set (k / 64) (ws.getD (k / 64) 0 ||| 2 ^ (k % 64))
theorem putW_len (ws : List Nat) (k : Nat) : (putW ws k).length = ws.length := by simp [putW]
theorem or_lt (x j : Nat) (hx : x < 18446744073709551616) (hj : j < 64) : x ||| 2 ^ j < 18446744073709551616 :=
  Nat.or_lt_two_pow (n := 64) hx (Nat.pow_lt_pow_right (by omega) hj)
theorem getD_lt {ws : List Nat} (h : ∀ x ∈ ws, x < 18446744073709551616) (k : Nat) : ws.getD k 0 < 18446744073709551616 := by
  by_cases hk : k < ws.length
  · have := h (ws[k]) (List.getElem_mem hk)
    simpa [hk] using this
  · simp [Nat.not_lt.1 hk]
theorem putW_lt {ws : List Nat} (h : ∀ x ∈ ws, x < 18446744073709551616) (k : Nat) : ∀ x ∈ putW ws k, x < 18446744073709551616 := by
  intro x hx
  rcases List.mem_or_eq_of_mem_set hx with hx | rfl
  · exact h x hx
  · exact or_lt _ _ (getD_lt h _) (Nat.mod_lt k (by omega))
theorem hasW_put {ws : List Nat} {k : Nat} (hk : k / 64 < ws.length) (j : Nat) : hasW (putW ws k) j = (hasW ws j || decide (j = k)) := by
  unfold hasW putW
  by_cases he : j / 64 = k / 64
  · rw [he]
    simp only [List.getD_eq_getElem?_getD, List.getElem?_set_self hk, Option.getD_some, Nat.testBit_or, Nat.testBit_two_pow]
    congr 1
    rw [decide_eq_decide]
    omega
  · simp only [List.getD_eq_getElem?_getD]
    rw [List.getElem?_set_ne (fun h => he h.symm)]
    rw [show decide (j = k) = false from by rw [decide_eq_false_iff_not]; intro h; rw [h] at he; exact he rfl, Bool.or_false]
theorem add_or {x j : Nat} (h : x.testBit j = false) : x + 2 ^ j = x ||| 2 ^ j := by
  have hp : 2 ^ (j + 1) = 2 * 2 ^ j := by rw [Nat.pow_succ, Nat.mul_comm]
  obtain ⟨a, b, hx, hb⟩ : ∃ a b, x = 2 ^ (j + 1) * a + b ∧ b < 2 ^ j := by
    refine ⟨x / 2 ^ j / 2, x % 2 ^ j, ?_, Nat.mod_lt x (Nat.two_pow_pos j)⟩
    have h2 : x / 2 ^ j % 2 = 0 := by
      rw [Nat.testBit_eq_decide_div_mod_eq] at h
      have := of_decide_eq_false h
      omega
    have h3 := Nat.div_add_mod x (2 ^ j)
    rw [hp, Nat.mul_comm 2, Nat.mul_assoc, show 2 * (x / 2 ^ j / 2) = x / 2 ^ j by omega]
    exact h3.symm
  have e1 : 2 ^ (j + 1) * a + b = 2 ^ (j + 1) * a ||| b := Nat.two_pow_add_eq_or_of_lt (by omega) a
  have e2 : 2 ^ j * 1 + b = 2 ^ j * 1 ||| b := Nat.two_pow_add_eq_or_of_lt hb 1
  have e3 : 2 ^ (j + 1) * a + (2 ^ j * 1 + b) = 2 ^ (j + 1) * a ||| (2 ^ j * 1 + b) := Nat.two_pow_add_eq_or_of_lt (by omega) a
  rw [hx, e1, Nat.or_assoc, Nat.or_comm b, show 2 ^ j ||| b = 2 ^ j * 1 + b by rw [e2, Nat.mul_one], ← e3, ← e1]
  omega

/-- The words of a set of l words, told by its numbers. -/
structure IsSet (l : Nat) (ws : List Nat) (p : Nat → Bool) : Prop where
  len : ws.length = l
  word : ∀ x ∈ ws, x < 18446744073709551616
  has : ∀ k, hasW ws k = p k
theorem IsSet.none (l : Nat) : IsSet l (List.replicate l 0) (fun _ => false) := ⟨by simp, fun x hx => by rw [(List.mem_replicate.1 hx).2]; decide, fun k => by
  unfold hasW
  rw [List.getD_eq_getElem?_getD, List.getElem?_replicate]
  split <;> simp⟩
theorem IsSet.put {l : Nat} {ws : List Nat} {p q : Nat → Bool} {k : Nat} (h : IsSet l ws p) (hk : k / 64 < l) (hq : ∀ j, q j = (p j || decide (j = k))) : IsSet l (putW ws k) q :=
  ⟨by rw [putW_len, h.len], putW_lt h.word k, fun j => by rw [hasW_put (by rw [h.len]; exact hk), h.has, hq]⟩
theorem IsSet.ext {l : Nat} {a b : List Nat} {p : Nat → Bool} (ha : IsSet l a p) (hb : IsSet l b p) : a = b := by
  apply List.ext_getElem
  · rw [ha.len, hb.len]
  · intro i h1 h2
    refine word_ext (ha.word _ (List.getElem_mem h1)) (hb.word _ (List.getElem_mem h2)) fun j hj => ?_
    have e := (ha.has (64 * i + j)).trans (hb.has (64 * i + j)).symm
    rw [hasW_at _ _ _ hj, hasW_at _ _ _ hj] at e
    simpa [h1, h2] using e
theorem IsSet.congr {l : Nat} {ws : List Nat} {p q : Nat → Bool} (h : IsSet l ws p) (hq : ∀ j, q j = p j) : IsSet l ws q := ⟨h.len, h.word, fun j => by rw [hq, h.has]⟩

/-- The cell that is written. -/
theorem blk_put {W : World} {g : Nat} {ws : List Nat} (h : Blk W g 80 (ws.map U).toArray) (i x : Nat) : Blk (W.setCell ⟨g, i, none⟩ (U x)) g 80 ((ws.set i x).map U).toArray := by
  have := h.set i (U x)
  rw [List.map_set]
  simpa using this
theorem blk_get {W : World} {g : Nat} {ws : List Nat} (h : Blk W g 80 (ws.map U).toArray) {i : Nat} (hi : i < ws.length) : W.cell? ⟨g, i, none⟩ = some (U (ws.getD i 0)) := by
  rw [h.cell i]
  simp [hi]

end Go.Proofs.YtbedhpooeabehaaGreatDoor

/-
  Sets of two: set.join and what it is handed; set.And, set.Or, set.Less.
-/
namespace Go.Proofs.YtbedhpooeabehaaGreatDoor
open Go Go.RowKit Go.Shelf

attribute [local go_sem] Oper.semAt_some ext_const

def notW (x y : Nat) : Nat := x &&& (18446744073709551615 - y)
theorem and_lt (x y : Nat) (hx : x < 18446744073709551616) : x &&& y < 18446744073709551616 := Nat.lt_of_le_of_lt Nat.and_le_left hx
theorem bits_or_lt (x y : Nat) (hx : x < 18446744073709551616) (hy : y < 18446744073709551616) : x ||| y < 18446744073709551616 := Nat.or_lt_two_pow (n := 64) hx hy
theorem notW_bit (x y j : Nat) (hy : y < 18446744073709551616) (hj : j < 64) : (notW x y).testBit j = (x.testBit j && !y.testBit j) := by
  unfold notW
  rw [Nat.testBit_and, show 18446744073709551615 - y = 2 ^ 64 - (y + 1) by omega, Nat.testBit_two_pow_sub_succ (by omega)]
  simp [hj]

/-- What a call that joins answers. -/
def joinW (op : Nat → Nat → Nat) (n : Int) (a b : List Nat) : List Nat := if errAll n [a, b] = 0 then List.zipWith op a b else []

theorem err_two {n : Int} {a b : List Nat} (h : errAll n [a, b] = 0) : 1 ≤ n ∧ n ≤ 12288 ∧ maySet n.toNat a = true ∧ maySet n.toNat b = true := by
  unfold errAll okN at h
  split at h
  · rename_i h1
    have h1 := of_decide_eq_true h1
    split at h
    · rename_i h2
      simp at h2
      exact ⟨h1.1, h1.2, h2.1, h2.2⟩
    · cases h
  · cases h
theorem err_one {n : Int} {a : List Nat} (h : errAll n [a] = 0) : 1 ≤ n ∧ n ≤ 12288 ∧ maySet n.toNat a = true := by
  unfold errAll okN at h
  split at h
  · rename_i h1
    have h1 := of_decide_eq_true h1
    split at h
    · rename_i h2
      simp at h2
      exact ⟨h1.1, h1.2, h2⟩
    · cases h
  · cases h
theorem err_cases (n : Int) (wss : List (List Nat)) : errAll n wss = 0 ∨ errAll n wss = 2 ∨ errAll n wss = 8 := by
  unfold errAll
  split
  · split <;> simp
  · simp

structure JoinAt (W : World) (g : Nat) (op : Nat → Nat → Nat) (a b : List Nat) (l k : Nat) (cs : List Nat) : Prop where
  len : cs.length = l
  word : ∀ x ∈ cs, x < 18446744073709551616
  done : ∀ j, j < k → cs.getD j 0 = op (a.getD j 0) (b.getD j 0)
  blk : Blk W g 80 (cs.map U).toArray
theorem JoinAt.step {W W' : World} {g : Nat} {op : Nat → Nat → Nat} {a b : List Nat} {l k : Nat} {cs : List Nat} (h : JoinAt W g op a b l k cs) (hb : Below W.heap.size W W') (hk : k < l) {z : Nat} (hz : z < 18446744073709551616) (he : z = op (a.getD k 0) (b.getD k 0)) :
    JoinAt (W'.setCell ⟨g, k, none⟩ (U z)) g op a b l (k + 1) (cs.set k z) := by
  refine ⟨by rw [List.length_set, h.len], fun x hx => ?_, fun j hj => ?_, blk_put (h.blk.later hb) k z⟩
  · rcases List.mem_or_eq_of_mem_set hx with hx | rfl
    · exact h.word x hx
    · exact hz
  · by_cases e : j = k
    · subst e
      rw [List.getD_eq_getElem?_getD, List.getElem?_set_self (by rw [h.len]; exact hk), ← he]
      rfl
    · rw [List.getD_eq_getElem?_getD, List.getElem?_set_ne (fun h => e h.symm), ← List.getD_eq_getElem?_getD]
      exact h.done j (by omega)
theorem JoinAt.all {W : World} {g : Nat} {op : Nat → Nat → Nat} {a b : List Nat} {l : Nat} {cs : List Nat} (h : JoinAt W g op a b l l cs) (ha : a.length = l) (hb : b.length = l) : cs = List.zipWith op a b := by
  apply List.ext_getElem
  · simp [h.len, ha, hb]
  · intro i h1 h2
    have := h.done i (by rw [← h.len]; exact h1)
    have ha' : i < a.length := by rw [ha, ← h.len]; exact h1
    have hb' : i < b.length := by rw [hb, ← h.len]; exact h1
    simpa [h1, ha', hb'] using this

end Go.Proofs.YtbedhpooeabehaaGreatDoor

/-
  Words as plain arithmetic: how many bits are on (the sums by halves that math/bits makes), and the least bit that is on.
-/
namespace Go.Proofs.YtbedhpooeabehaaGreatDoor
open Go

/-- How many of the lowest n bits of x are on. -/
def popTo : Nat → Nat → Nat
  | 0, _ => 0
  | n + 1, x => x % 2 + popTo n (x / 2)

theorem popTo_add (m : Nat) : ∀ (n x : Nat), popTo (n + m) x = popTo n x + popTo m (x / 2 ^ n)
  | 0, x => by simp [popTo]
  | n + 1, x => by
    rw [show n + 1 + m = (n + m) + 1 by omega, popTo, popTo, popTo_add m n (x / 2), Nat.div_div_eq_div_mul, Nat.pow_succ, Nat.mul_comm 2, Nat.add_assoc]
theorem popTo_low : ∀ (n x y : Nat), popTo n (2 ^ n * y + x) = popTo n x
  | 0, x, y => rfl
  | n + 1, x, y => by
    rw [popTo, popTo, ← popTo_low n (x / 2) y]
    rw [show 2 ^ (n + 1) * y + x = 2 * (2 ^ n * y) + x by rw [Nat.pow_succ]; ac_rfl]
    rw [show (2 * (2 ^ n * y) + x) % 2 = x % 2 by omega, show (2 * (2 ^ n * y) + x) / 2 = 2 ^ n * y + x / 2 by omega]
theorem popTo_byte (n y b : Nat) (hb : b < 256) : popTo (n + 8) (256 * y + b) = popTo 8 b + popTo n y := by
  rw [Nat.add_comm n 8, popTo_add, show (256 : Nat) = 2 ^ 8 from rfl, popTo_low, show (2 ^ 8 * y + b) / 2 ^ 8 = y by omega]

theorem and_byte (a b c d : Nat) (hb : b < 256) (hd : d < 256) : (256 * a + b) &&& (256 * c + d) = 256 * (a &&& c) + (b &&& d) := by
  have hbd : b &&& d < 2 ^ 8 := Nat.and_lt_two_pow _ hd
  apply Nat.eq_of_testBit_eq
  intro i
  rw [Nat.testBit_and, show (256 : Nat) = 2 ^ 8 from rfl, Nat.testBit_two_pow_mul_add _ hb, Nat.testBit_two_pow_mul_add _ hd, Nat.testBit_two_pow_mul_add _ hbd]
  split <;> simp

/-- The masks of n bytes. -/
def rep (d : Nat) : Nat → Nat
  | 0 => 0
  | n + 1 => 256 * rep d n + d

def st1 (n x : Nat) : Nat := (x / 2 &&& rep 85 n) + (x &&& rep 85 n)
def st2 (n x : Nat) : Nat := (x / 4 &&& rep 51 n) + (x &&& rep 51 n)
def st3 (n x : Nat) : Nat := (x / 16 + x) &&& rep 15 n

theorem byte1 : ∀ b, b < 256 → ∀ t, t < 2 → (128 * t + b / 2 &&& 85) + (b &&& 85) = (b / 2 &&& 85) + (b &&& 85) ∧ (b / 2 &&& 85) + (b &&& 85) < 256 := by decide +kernel
theorem byte2 : ∀ b, b < 256 → ∀ t, t < 4 → (64 * t + b / 4 &&& 51) + (b &&& 51) = (b / 4 &&& 51) + (b &&& 51) ∧ (b / 4 &&& 51) + (b &&& 51) < 256 := by decide +kernel
/-- A byte's bits, summed by halves. -/
def b1 (b : Nat) : Nat := (b / 2 &&& 85) + (b &&& 85)
def b2 (b : Nat) : Nat := (b1 b / 4 &&& 51) + (b1 b &&& 51)
theorem byte3 : ∀ b, b < 256 → ∀ t, t < 5 → 16 * t + b2 b / 16 + b2 b < 256 ∧ (16 * t + b2 b / 16 + b2 b &&& 15) = popTo 8 b ∧ b2 b % 16 < 5 ∧ b1 b < 256 ∧ b2 b < 256 ∧ popTo 8 b ≤ 8 := by decide +kernel

theorem st1_step (n y b : Nat) (hb : b < 256) : st1 (n + 1) (256 * y + b) = 256 * st1 n y + b1 b := by
  unfold st1
  have h := byte1 b hb (y % 2) (by omega)
  rw [show (256 * y + b) / 2 = 256 * (y / 2) + (128 * (y % 2) + b / 2) by omega, rep, and_byte _ _ _ _ (by omega) (by omega), and_byte _ _ _ _ hb (by omega)]
  unfold b1
  omega
theorem st2_step (n y b : Nat) (hb : b < 256) : st2 (n + 1) (256 * y + b1 b) = 256 * st2 n y + b2 b := by
  have hb1 : b1 b < 256 := (byte3 b hb 0 (by omega)).2.2.2.1
  unfold st2
  have h := byte2 (b1 b) hb1 (y % 4) (by omega)
  rw [show (256 * y + b1 b) / 4 = 256 * (y / 4) + (64 * (y % 4) + b1 b / 4) by omega, rep, and_byte _ _ _ _ (by omega) (by omega), and_byte _ _ _ _ hb1 (by omega)]
  unfold b2
  omega
theorem st3_step (n y b : Nat) (hb : b < 256) (hy : y % 16 < 5) : st3 (n + 1) (256 * y + b2 b) = 256 * st3 n y + popTo 8 b := by
  have h := byte3 b hb (y % 16) hy
  unfold st3
  rw [show (256 * y + b2 b) / 16 + (256 * y + b2 b) = 256 * (y / 16 + y) + (16 * (y % 16) + b2 b / 16 + b2 b) by omega, rep, and_byte _ _ _ _ h.1 (by omega), h.2.1]

theorem st12 : ∀ (n x : Nat), x < 256 ^ n → st2 n (st1 n x) % 16 < 5
  | 0, x, h => by simp [st1, st2, rep]
  | n + 1, x, h => by
    have e : x = 256 * (x / 256) + x % 256 := by omega
    have hb : x % 256 < 256 := by omega
    rw [e, st1_step _ _ _ hb, st2_step _ _ _ hb]
    have := (byte3 _ hb 0 (by omega)).2.2.1
    omega
/-- The bytes' sums. -/
theorem st_bytes (n x : Nat) (h : x < 256 ^ (n + 1)) : st3 (n + 1) (st2 (n + 1) (st1 (n + 1) x)) = 256 * st3 n (st2 n (st1 n (x / 256))) + popTo 8 (x % 256) := by
  have e : x = 256 * (x / 256) + x % 256 := by omega
  have hb : x % 256 < 256 := by omega
  have h' : x / 256 < 256 ^ n := by rw [Nat.pow_succ] at h; omega
  conv => lhs; rw [e]
  rw [st1_step _ _ _ hb, st2_step _ _ _ hb, st3_step _ _ _ hb (st12 n _ h')]
theorem pop8 (b : Nat) (h : b < 256) : popTo 8 b ≤ 8 := (byte3 b h 0 (by omega)).2.2.2.2.2
theorem pop_byte (n x : Nat) : popTo (n + 8) x = popTo 8 (x % 256) + popTo n (x / 256) := by
  conv => lhs; rw [show x = 256 * (x / 256) + x % 256 by omega]
  exact popTo_byte _ _ _ (by omega)

theorem fold8 (a0 a1 a2 a3 a4 a5 a6 a7 : Nat) (h0 : a0 ≤ 8) (h1 : a1 ≤ 8) (h2 : a2 ≤ 8) (h3 : a3 ≤ 8) (h4 : a4 ≤ 8) (h5 : a5 ≤ 8) (h6 : a6 ≤ 8) (h7 : a7 ≤ 8) (z y x : Nat)
    (hz : z = a0 + 256 * a1 + 65536 * a2 + 16777216 * a3 + 4294967296 * a4 + 1099511627776 * a5 + 281474976710656 * a6 + 72057594037927936 * a7) (hy : y = z + z / 256) (hx : x = y + y / 65536) :
    (x + x / 4294967296) % 128 = a0 + a1 + a2 + a3 + a4 + a5 + a6 + a7 := by
  have z1 : z / 256 = a1 + 256 * a2 + 65536 * a3 + 16777216 * a4 + 4294967296 * a5 + 1099511627776 * a6 + 281474976710656 * a7 := by omega
  have y0 : y = (a0 + a1) + 256 * (a1 + a2) + 65536 * (a2 + a3) + 16777216 * (a3 + a4) + 4294967296 * (a4 + a5) + 1099511627776 * (a5 + a6) + 281474976710656 * (a6 + a7) + 72057594037927936 * a7 := by omega
  clear hz hy z1
  have y1 : y / 65536 = (a2 + a3) + 256 * (a3 + a4) + 65536 * (a4 + a5) + 16777216 * (a5 + a6) + 4294967296 * (a6 + a7) + 1099511627776 * a7 := by omega
  have x0 : x = (a0 + a1 + a2 + a3) + 256 * (a1 + a2 + a3 + a4) + 65536 * (a2 + a3 + a4 + a5) + 16777216 * (a3 + a4 + a5 + a6) + 4294967296 * (a4 + a5 + a6 + a7) + 1099511627776 * (a5 + a6 + a7) + 281474976710656 * (a6 + a7) + 72057594037927936 * a7 := by omega
  clear hx y0 y1
  have x1 : x / 4294967296 = (a4 + a5 + a6 + a7) + 256 * (a5 + a6 + a7) + 65536 * (a6 + a7) + 16777216 * a7 := by omega
  omega

/-- What math/bits reckons. -/
theorem ones_eq (x : Nat) (h : x < 18446744073709551616) : ∃ z, st3 8 (st2 8 (st1 8 x)) = z ∧ z < 578721382704613385 ∧ st1 8 x < 18446744073709551616 ∧ st2 8 (st1 8 x) / 16 + st2 8 (st1 8 x) < 18446744073709551616 ∧
    ((z + z / 256) + (z + z / 256) / 65536 + ((z + z / 256) + (z + z / 256) / 65536) / 4294967296) % 128 = popTo 64 x ∧ popTo 64 x ≤ 64 := by
  have p0 := pop8 (x % 256) (by omega)
  have p1 := pop8 (x / 256 % 256) (by omega)
  have p2 := pop8 (x / 256 / 256 % 256) (by omega)
  have p3 := pop8 (x / 256 / 256 / 256 % 256) (by omega)
  have p4 := pop8 (x / 256 / 256 / 256 / 256 % 256) (by omega)
  have p5 := pop8 (x / 256 / 256 / 256 / 256 / 256 % 256) (by omega)
  have p6 := pop8 (x / 256 / 256 / 256 / 256 / 256 / 256 % 256) (by omega)
  have p7 := pop8 (x / 256 / 256 / 256 / 256 / 256 / 256 / 256 % 256) (by omega)
  have e0 := st_bytes 7 x (by omega)
  have e1 := st_bytes 6 (x / 256) (by omega)
  have e2 := st_bytes 5 (x / 256 / 256) (by omega)
  have e3 := st_bytes 4 (x / 256 / 256 / 256) (by omega)
  have e4 := st_bytes 3 (x / 256 / 256 / 256 / 256) (by omega)
  have e5 := st_bytes 2 (x / 256 / 256 / 256 / 256 / 256) (by omega)
  have e6 := st_bytes 1 (x / 256 / 256 / 256 / 256 / 256 / 256) (by omega)
  have e7 := st_bytes 0 (x / 256 / 256 / 256 / 256 / 256 / 256 / 256) (by omega)
  have ez : st3 0 (st2 0 (st1 0 (x / 256 / 256 / 256 / 256 / 256 / 256 / 256 / 256))) = 0 := by simp [st1, st2, st3, rep]
  have q0 := pop_byte 56 x
  have q1 := pop_byte 48 (x / 256)
  have q2 := pop_byte 40 (x / 256 / 256)
  have q3 := pop_byte 32 (x / 256 / 256 / 256)
  have q4 := pop_byte 24 (x / 256 / 256 / 256 / 256)
  have q5 := pop_byte 16 (x / 256 / 256 / 256 / 256 / 256)
  have q6 := pop_byte 8 (x / 256 / 256 / 256 / 256 / 256 / 256)
  have q7 := pop_byte 0 (x / 256 / 256 / 256 / 256 / 256 / 256 / 256)
  have qz : popTo 0 (x / 256 / 256 / 256 / 256 / 256 / 256 / 256 / 256) = 0 := rfl
  simp only [Nat.reduceAdd] at e0 e1 e2 e3 e4 e5 e6 e7 q0 q1 q2 q3 q4 q5 q6 q7
  have er : rep 51 8 = 3689348814741910323 := by decide
  have es : rep 85 8 = 6148914691236517205 := by decide
  have hx2 : st2 8 (st1 8 x) ≤ 7378697629483820646 := by
    have r1 : st2 8 (st1 8 x) = (st1 8 x / 4 &&& rep 51 8) + (st1 8 x &&& rep 51 8) := rfl
    have l1 : st1 8 x / 4 &&& rep 51 8 ≤ rep 51 8 := Nat.and_le_right
    have l2 : st1 8 x &&& rep 51 8 ≤ rep 51 8 := Nat.and_le_right
    omega
  have hx1 : st1 8 x ≤ 12297829382473034410 := by
    have r1 : st1 8 x = (x / 2 &&& rep 85 8) + (x &&& rep 85 8) := rfl
    have l1 : x / 2 &&& rep 85 8 ≤ rep 85 8 := Nat.and_le_right
    have l2 : x &&& rep 85 8 ≤ rep 85 8 := Nat.and_le_right
    omega
  have ze : st3 8 (st2 8 (st1 8 x)) = popTo 8 (x % 256) + 256 * popTo 8 (x / 256 % 256) + 65536 * popTo 8 (x / 256 / 256 % 256) + 16777216 * popTo 8 (x / 256 / 256 / 256 % 256) + 4294967296 * popTo 8 (x / 256 / 256 / 256 / 256 % 256) + 1099511627776 * popTo 8 (x / 256 / 256 / 256 / 256 / 256 % 256) + 281474976710656 * popTo 8 (x / 256 / 256 / 256 / 256 / 256 / 256 % 256) + 72057594037927936 * popTo 8 (x / 256 / 256 / 256 / 256 / 256 / 256 / 256 % 256) := by omega
  refine ⟨_, ze, by omega, by omega, by omega, ?_, by omega⟩
  rw [fold8 _ _ _ _ _ _ _ _ p0 p1 p2 p3 p4 p5 p6 p7 _ _ _ rfl rfl rfl]
  omega

end Go.Proofs.YtbedhpooeabehaaGreatDoor

/-
  How many numbers a set has: math/bits.OnesCount64, set.many.
-/
namespace Go.Proofs.YtbedhpooeabehaaGreatDoor
open Go Go.RowKit Go.Shelf

theorem and_u64 (a : Int) (x m : Nat) (ha : a = (x : Int)) (hx : x < 18446744073709551616) (hm : m < 18446744073709551616) : bits .and .u64 a (m : Int) = ((x &&& m : Nat) : Int) := by
  rw [ha]; exact u64_and_nat x m hx hm
theorem half1 (x : Nat) (hx : x < 18446744073709551616) (h : st1 8 x < 18446744073709551616) :
    IntKind.u64.wrap (bits .and .u64 ((x : Int) / 2) 6148914691236517205 + bits .and .u64 (x : Int) 6148914691236517205) = ((st1 8 x : Nat) : Int) := by
  have a := and_u64 ((x : Int) / 2) (x / 2) 6148914691236517205 (by omega) (by omega) (by decide)
  have b := and_u64 (x : Int) x 6148914691236517205 rfl hx (by decide)
  have e : rep 85 8 = 6148914691236517205 := by decide
  unfold st1 at h ⊢
  rw [e] at h ⊢
  rw [show (6148914691236517205 : Int) = ((6148914691236517205 : Nat) : Int) from rfl, a, b, IntKind.wrap_u64]
  omega
theorem half2 (x : Nat) (hx : x < 18446744073709551616) (h : st2 8 x < 18446744073709551616) :
    IntKind.u64.wrap (bits .and .u64 ((x : Int) / 4) 3689348814741910323 + bits .and .u64 (x : Int) 3689348814741910323) = ((st2 8 x : Nat) : Int) := by
  have a := and_u64 ((x : Int) / 4) (x / 4) 3689348814741910323 (by omega) (by omega) (by decide)
  have b := and_u64 (x : Int) x 3689348814741910323 rfl hx (by decide)
  have e : rep 51 8 = 3689348814741910323 := by decide
  unfold st2 at h ⊢
  rw [e] at h ⊢
  rw [show (3689348814741910323 : Int) = ((3689348814741910323 : Nat) : Int) from rfl, a, b, IntKind.wrap_u64]
  omega
theorem half3 (x : Nat) (h : x / 16 + x < 18446744073709551616) :
    bits .and .u64 (IntKind.u64.wrap ((x : Int) / 16 + (x : Int))) 1085102592571150095 = ((st3 8 x : Nat) : Int) := by
  have e : rep 15 8 = 1085102592571150095 := by decide
  unfold st3
  rw [e]
  exact and_u64 _ (x / 16 + x) 1085102592571150095 (by rw [IntKind.wrap_u64]; omega) h (by decide)
theorem half4 (x c : Nat) (hx : 2 * x < 18446744073709551616) : IntKind.u64.wrap ((x : Int) + (x : Int) / (c : Int)) = ((x + x / c : Nat) : Int) := by
  have : x / c ≤ x := Nat.div_le_self x c
  rw [IntKind.wrap_u64, show (x : Int) / (c : Int) = ((x / c : Nat) : Int) by norm_cast]
  generalize x / c = d at *
  omega

theorem last7 (t p : Nat) (ht : t < 9223372036854775808) (hp : t % 128 = p) : bits BinOp.and IntKind.i64 (wrap64 (t : Int)) 127 = (p : Int) := by
  rw [i64_and127, show wrap64 (t : Int) = (t : Int) by unfold wrap64; omega]
  omega

set_option maxRecDepth 100000 in
set_option maxHeartbeats 2000000 in
theorem ones_calls (x : Nat) (hx : x < 18446744073709551616) (w : World) :
    Calls Tryz.prog 53 #[U x] w fun e W' => e = .returned (I (popTo 64 x)) ∧ W' = w := by
  go_enter Tryz.func53, Tryz.ntmps53
  go_wp2
  go_ret
  refine ⟨?_, rfl⟩
  obtain ⟨z, hz, hz1, h1, h2, hp, hp2⟩ := ones_eq x hx
  have g4 := half4 z 256 (by omega)
  have l4 : z + z / 256 ≤ 2 * z := by have := Nat.div_le_self z 256; omega
  generalize z + z / 256 = y at *
  have g5 := half4 y 65536 (by omega)
  have l5 : y + y / 65536 ≤ 2 * y := by have := Nat.div_le_self y 65536; omega
  generalize y + y / 65536 = t at *
  have g6 := half4 t 4294967296 (by omega)
  have l6 : t + t / 4294967296 ≤ 2 * t := by have := Nat.div_le_self t 4294967296; omega
  generalize t + t / 4294967296 = u at *
  have g7 := last7 u _ (by omega) hp
  simp only [Int.cast_ofNat_Int] at g4 g5 g6
  simp only [half1 x hx h1, half2 (st1 8 x) h1 (by omega), half3 _ h2, hz, g4, g5, g6, g7]
  rfl

/-- How many numbers the first k words have. -/
def cntTo (ws : List Nat) : Nat → Nat
  | 0 => 0
  | k + 1 => cntTo ws k + popTo 64 (ws.getD k 0)
theorem pop_le : ∀ (n x : Nat), popTo n x ≤ n
  | 0, x => Nat.le_refl 0
  | n + 1, x => by rw [popTo]; have := pop_le n (x / 2); omega
theorem cnt_le (ws : List Nat) : ∀ k, cntTo ws k ≤ 64 * k
  | 0 => Nat.le_refl 0
  | k + 1 => by rw [cntTo]; have := cnt_le ws k; have := pop_le 64 (ws.getD k 0); omega
theorem pop_succ (j x : Nat) : popTo (j + 1) x = popTo j x + (if x.testBit j then 1 else 0) := by
  rw [popTo_add 1 j x, popTo, popTo, Nat.testBit_eq_decide_div_mod_eq]
  have : x / 2 ^ j % 2 = 0 ∨ x / 2 ^ j % 2 = 1 := by omega
  rcases this with h | h <;> simp [h]
theorem list_word (ws : List Nat) (k : Nat) (h : (listTo ws (64 * k)).length = cntTo ws k) : ∀ j, j ≤ 64 → (listTo ws (64 * k + j)).length = cntTo ws k + popTo j (ws.getD k 0)
  | 0, _ => by simpa [popTo] using h
  | j + 1, hj => by
    have ih := list_word ws k h j (by omega)
    have hb := hasW_at ws k j (by omega)
    rw [pop_succ, ← Nat.add_assoc]
    cases e : (ws.getD k 0).testBit j
    · rw [e] at hb
      rw [listTo_no hb, ih]; simp
    · rw [e] at hb
      rw [listTo_yes hb, List.length_append, ih]; simp; omega
theorem list_cnt (ws : List Nat) : ∀ k, (listTo ws (64 * k)).length = cntTo ws k
  | 0 => rfl
  | k + 1 => by
    have := list_word ws k (list_cnt ws k) 64 (by omega)
    rwa [show 64 * (k + 1) = 64 * k + 64 by omega, cntTo]

/-- How many numbers a set has. -/
def manyS (ws : List Nat) : Nat := cntTo ws ws.length

set_option maxRecDepth 100000 in
set_option maxHeartbeats 2000000 in
theorem manyS_calls {v : Value} {ws : List Nat} (w : World) (h : Wds w v ws) (hs : ws.length ≤ 300) :
    Calls Tryz.prog 34 #[v] w fun e W' => e = .returned (I (manyS ws)) ∧ W' = w := by
  have hw := h.word
  obtain ⟨ao, cap, rfl, hv⟩ := h.view
  have HV : Hid (∀ k, k < ws.length → ∃ g off, ao = some ⟨g, off, none⟩ ∧ g < w.heap.size ∧ w.cell? ⟨g, off + k, none⟩ = some (U (ws.getD k 0))) := hv
  have HW : Hid (∀ k, ws.getD k 0 < 18446744073709551616) := hw
  clear hv hw h
  go_enter Tryz.func34, Tryz.ntmps34
  go_wp2
  go_loopw [3, 8] (fun s i wr => ∃ k : Nat, k ≤ ws.length ∧ i = .int .i64 k ∧ s = .int .i64 (cntTo ws k : Nat) ∧ wr = w) (fun s i _ => ws.length - (RowKit.intOf i).toNat)
  case atStart => exact ⟨0, by omega, rfl, rfl, rfl⟩
  case round =>
    obtain ⟨k, hk, rfl, rfl, rfl⟩ := hrel
    by_cases hlt : (k : Int) < (ws.length : Int)
    · obtain ⟨g, off, rfl, hg, hc⟩ := HV.out k (by omega)
      have hx := HW.out k
      have hle := cnt_le ws k
      have hpl := pop_le 64 (ws.getD k 0)
      have HC : Hid (cntTo ws (k + 1) = cntTo ws k + popTo 64 (ws.getD k 0)) := show _ = _ from rfl
      have O := fun w => ones_calls _ hx w
      generalize ws.getD k 0 = x at *
      generalize hpx : popTo 64 x = p at *
      generalize hcx : cntTo ws k = c at *
      clear hcx hpx
      go_wp2_with fail
      refine (O _).mono ?_
      rintro e w1 ⟨rfl, rfl⟩
      go_wp2
      go_roundw
      case rel => exact ⟨k + 1, by omega, by go_num, by rw [HC.out]; go_num, by trivial⟩
      case measure => simp [RowKit.intOf]; omega
    · have e : k = ws.length := by omega
      subst e
      go_wp2
      go_ret
      exact ⟨rfl, rfl⟩

end Go.Proofs.YtbedhpooeabehaaGreatDoor

/-
  Sets of two, whether two meet, whether one is in the other one: set.And, set.Or, set.Less, set.Meet, set.In.
-/
namespace Go.Proofs.YtbedhpooeabehaaGreatDoor
open Go Go.RowKit Go.Shelf

theorem zip_set {op : Nat → Nat → Nat} {g : Bool → Bool → Bool} (hop : ∀ x y, x < 18446744073709551616 → y < 18446744073709551616 → op x y < 18446744073709551616)
    (hf : ∀ x y j, y < 18446744073709551616 → j < 64 → (op x y).testBit j = g (x.testBit j) (y.testBit j)) (h0 : g false false = false) {a b : List Nat} {l : Nat}
    (ha : a.length = l) (hb : b.length = l) (wa : ∀ x ∈ a, x < 18446744073709551616) (wb : ∀ x ∈ b, x < 18446744073709551616) : IsSet l (List.zipWith op a b) (fun j => g (hasW a j) (hasW b j)) := by
  refine ⟨by simp [ha, hb], fun x hx => ?_, fun k => ?_⟩
  · obtain ⟨i, hi, rfl⟩ := List.mem_iff_getElem.1 hx
    rw [List.getElem_zipWith]
    exact hop _ _ (wa _ (List.getElem_mem _)) (wb _ (List.getElem_mem _))
  · unfold hasW
    have hj := Nat.mod_lt k (show 0 < 64 by omega)
    simp only [List.getD_eq_getElem?_getD, List.getElem?_zipWith]
    by_cases hi : k / 64 < l
    · rw [List.getElem?_eq_getElem (by omega : k / 64 < a.length), List.getElem?_eq_getElem (by omega : k / 64 < b.length)]
      exact hf _ _ _ (wb _ (List.getElem_mem _)) hj
    · rw [List.getElem?_eq_none (by omega : a.length ≤ k / 64), List.getElem?_eq_none (by omega : b.length ≤ k / 64)]
      simp [h0]

def andW (x y : Nat) : Nat := x &&& y
def orW (x y : Nat) : Nat := x ||| y
theorem zip_and {a b : List Nat} {l : Nat} (ha : a.length = l) (hb : b.length = l) (wa : ∀ x ∈ a, x < 18446744073709551616) (wb : ∀ x ∈ b, x < 18446744073709551616) : IsSet l (List.zipWith andW a b) (fun j => hasW a j && hasW b j) :=
  zip_set (g := fun x y => x && y) (fun x y hx _ => and_lt x y hx) (fun x y j _ _ => Nat.testBit_and x y j) rfl ha hb wa wb
theorem zip_or {a b : List Nat} {l : Nat} (ha : a.length = l) (hb : b.length = l) (wa : ∀ x ∈ a, x < 18446744073709551616) (wb : ∀ x ∈ b, x < 18446744073709551616) : IsSet l (List.zipWith orW a b) (fun j => hasW a j || hasW b j) :=
  zip_set (g := fun x y => x || y) (fun x y hx hy => bits_or_lt x y hx hy) (fun x y j _ _ => Nat.testBit_or x y j) rfl ha hb wa wb
theorem zip_not {a b : List Nat} {l : Nat} (ha : a.length = l) (hb : b.length = l) (wa : ∀ x ∈ a, x < 18446744073709551616) (wb : ∀ x ∈ b, x < 18446744073709551616) : IsSet l (List.zipWith notW a b) (fun j => hasW a j && !hasW b j) :=
  zip_set (g := fun x y => x && !y) (fun x _ hx _ => and_lt x _ hx) (fun x y j hy hj => notW_bit x y j hy hj) rfl ha hb wa wb

/-- Whether two meet; whether one is in the other one. -/
def meetSB (n : Int) (a b : List Nat) : Bool := decide (errAll n [a, b] = 0) && (List.range (64 * a.length)).any fun j => hasW a j && hasW b j
def inSB (n : Int) (a b : List Nat) : Bool := decide (errAll n [a, b] = 0) && (List.range (64 * a.length)).all fun j => !hasW a j || hasW b j

theorem many_zero {ws : List Nat} : manyS ws = 0 ↔ ∀ j, hasW ws j = false := by
  unfold manyS
  rw [← list_cnt, List.length_eq_zero_iff]
  constructor
  · intro h j
    by_cases hj : j < 64 * ws.length
    · cases e : hasW ws j
      · rfl
      · have := listTo_mem.2 ⟨hj, e⟩
        rw [h] at this; cases this
    · exact hasW_past (by omega)
  · intro h
    rw [List.eq_nil_iff_forall_not_mem]
    intro m hm
    rw [listTo_mem, h] at hm
    cases hm.2
theorem joinW_len {op : Nat → Nat → Nat} {n : Int} {a b : List Nat} : (joinW op n a b).length ≤ 192 := by
  unfold joinW
  split
  · rename_i h
    obtain ⟨h1, h2, hma, hmb⟩ := err_two h
    have := (mayS_iff.1 hma).1
    simp only [List.length_zipWith]
    omega
  · simp
theorem meet_eq {n : Int} {a b : List Nat} (wa : ∀ x ∈ a, x < 18446744073709551616) (wb : ∀ x ∈ b, x < 18446744073709551616) (h : errAll n [a, b] = 0) : meetSB n a b = decide (0 < manyS (joinW andW n a b)) := by
  obtain ⟨h1, h2, hma, hmb⟩ := err_two h
  have hz := zip_and (mayS_iff.1 hma).1 (mayS_iff.1 hmb).1 wa wb
  unfold meetSB joinW
  rw [if_pos h, decide_eq_true h, Bool.true_and, Bool.eq_iff_iff, decide_eq_true_eq, List.any_eq_true]
  have key := many_zero (ws := List.zipWith andW a b)
  constructor
  · rintro ⟨j, _, hj⟩
    have : manyS (List.zipWith andW a b) ≠ 0 := by
      intro e
      have := key.1 e j
      rw [hz.has, hj] at this; cases this
    omega
  · intro hp
    have : ¬ ∀ j, hasW (List.zipWith andW a b) j = false := fun e => by have := key.2 e; omega
    obtain ⟨j, hj⟩ := Classical.not_forall.1 this
    rw [hz.has] at hj
    have hj : (hasW a j && hasW b j) = true := by simpa using hj
    refine ⟨j, List.mem_range.2 ?_, hj⟩
    apply Nat.lt_of_not_le
    intro hle
    rw [hasW_past hle] at hj; cases hj
theorem in_eq {n : Int} {a b : List Nat} (wa : ∀ x ∈ a, x < 18446744073709551616) (wb : ∀ x ∈ b, x < 18446744073709551616) (h : errAll n [a, b] = 0) : inSB n a b = (((manyS (joinW notW n a b) : Nat) : Int) == 0) := by
  obtain ⟨h1, h2, hma, hmb⟩ := err_two h
  have hz := zip_not (mayS_iff.1 hma).1 (mayS_iff.1 hmb).1 wa wb
  unfold inSB joinW
  rw [if_pos h, decide_eq_true h, Bool.true_and, Bool.eq_iff_iff, beq_iff_eq, List.all_eq_true]
  have key := many_zero (ws := List.zipWith notW a b)
  constructor
  · intro hj
    have : manyS (List.zipWith notW a b) = 0 := key.2 fun j => by
      rw [hz.has]
      by_cases hl : j < 64 * a.length
      · have := hj j (List.mem_range.2 hl)
        cases ha : hasW a j <;> cases hb : hasW b j <;> simp [ha, hb] at this ⊢
      · rw [hasW_past (Nat.not_lt.1 hl)]; rfl
    omega
  · intro hp j _
    have := key.1 (by omega) j
    rw [hz.has] at this
    cases ha : hasW a j <;> cases hb : hasW b j <;> simp [ha, hb] at this ⊢

end Go.Proofs.YtbedhpooeabehaaGreatDoor

/-
  Lists of whole numbers in memory that a call made: they stay behind what leaves old memory as it lay; tidehallref02.Ints compares two of them.
-/
namespace Go.Proofs.YtbedhpooeabehaaGreatDoor
open Go Go.RowKit Go.Shelf

attribute [local go_sem] Oper.semAt_some ext_const

/-- The slice v holds the numbers xs, in a block of its own from number base on. -/
def Lst (W : World) (base : Nat) (v : Value) (xs : List Int) : Prop := W.ownsRow base 3 1 v xs.length (xs.map (Value.int .i64))

theorem Lst.nil (W : World) (base : Nat) : Lst W base (.slice none 0 0) [] := World.ownsRow_nil _ _ _ _
theorem Lst.later {W W' : World} {base : Nat} {v : Value} {xs : List Int} (h : Lst W base v xs) (hb : Below W.heap.size W W') : Lst W' base v xs := by
  obtain ⟨h1, h2⟩ := h
  refine ⟨h1, ?_⟩
  rcases h2 with h2 | ⟨g, cap, cur, e, hg, hh, r⟩
  · exact .inl h2
  · exact .inr ⟨g, cap, cur, e, hg, (hb.block g (Array.getElem?_eq_some_iff.1 hh).1).trans hh, r⟩
theorem Lst.weak {W : World} {base base' : Nat} {v : Value} {xs : List Int} (h : Lst W base v xs) (hb : base' ≤ base) : Lst W base' v xs := by
  obtain ⟨h1, h2⟩ := h
  refine ⟨h1, ?_⟩
  rcases h2 with h2 | ⟨g, cap, cur, e, hg, r⟩
  · exact .inl h2
  · exact .inr ⟨g, cap, cur, e, Nat.le_trans hb hg, r⟩

/-- What a walk asks of a list that it reads. -/
theorem Lst.view {W : World} {base : Nat} {v : Value} {xs : List Int} (h : Lst W base v xs) :
    ∃ ao cap, v = .slice ao xs.length cap ∧ ∀ k : Nat, k < xs.length → ∃ g cur, ao = some ⟨g, 0, none⟩ ∧ Blk W g 3 cur ∧ cur[k]? = some (I (xs.getD k 0)) := by
  obtain ⟨h1, h2⟩ := h
  rcases h2 with ⟨rfl, hn⟩ | ⟨g, cap, cur, rfl, hg, hh, hc, hc2, hs, ht⟩
  · exact ⟨none, 0, by rw [hn], fun k hk => by omega⟩
  · refine ⟨_, cap, rfl, fun k hk => ⟨g, cur, rfl, hh, ?_⟩⟩
    have := congrArg (fun l => l[k]?) ht
    simp only [Nat.mul_one, List.getElem?_take_of_lt hk, List.getElem?_map, Array.getElem?_toList] at this
    rw [this, List.getElem?_eq_getElem hk]
    simp [hk]

theorem info_int : (Tryz.prog.info? 3).map (fun i => (i.zero, i.size, i.bytes)) = some (some (.int .i64 0), 1, 8) := by kernel_rfl

/-- 'list = append(list, y)', the list a call's own. -/
theorem wpList_app {ops : Array Oper} {rest : List Oper} {o : Oper} {a : Act} {Q : Exit → Act → World → Prop} {W : World} {base : Nat} {v : Value} {xs : List Int} {y : Int} (hgd : o.guard = none) (s x : Operand)
    (ho : o.op = .call { callee := .builtin .append, args := #[s, x], argTypes := #[57, 57] }) (hs : a.eval s = v) (hx : a.eval x = .slice (some ⟨W.heap.size, 0, none⟩) 1 1)
    (hown : Lst W base v xs) (hl : xs.length ≤ 100000) (hb : base ≤ W.heap.size)
    (h : ∀ v' w', Lst w' base v' (xs ++ [y]) → Below base W w' → wpList Tryz.prog ops Q rest (a.put o.dst v') w') : wpList Tryz.prog ops Q (o :: rest) a (W.alloc (.cells #[.int .i64 y] 3)) := by
  obtain ⟨i0, hi, hz0, hz1, hz2⟩ := info_parts info_int
  refine wpList_append_own (w := W.alloc (.cells #[.int .i64 y] 3)) hgd s x 57 ho base 3 i0 (.int .i64 0) 1 8 Tryz.underlying57 hi hz0 hz1 hz2 rfl (by decide) v xs.length _ hs (hown.alloc _) ⟨W.heap.size, 0, none⟩ 1 1 [.int .i64 y] hx rfl ?_ ?_ ?_ ?_ ?_ ?_
  · intro j u hj
    match j, hj with
    | 0, hj => simp at hj; subst hj; simp [Addr.add]
  · intro u hu; simp at hu; subst hu; rfl
  · unfold maxLen; omega
  · omega
  · simp; omega
  · intro v' w1 hown' hgrow _
    refine h v' w1 ?_ ?_
    · unfold Lst
      rw [List.map_append, List.length_append]
      exact hown'
    · exact ((Below.refl base W).alloc hb _).grown hgrow (by simp; omega) (fun k hk => (hown.lt k hk).1)

/-- 'make([]int, 0, n)'. -/
theorem wpList_mk {ops : Array Oper} {rest : List Oper} {o : Oper} {a : Act} {Q : Exit → Act → World → Prop} {W : World} {base : Nat} (hgd : o.guard = none) (l c : Operand) (ho : o.op = Op.makeSlice 57 l c) (n : Int)
    (hl : a.eval l = .int .i64 0) (hc : a.eval c = .int .i64 n) (h0 : 0 ≤ n) (h1 : n ≤ 100000) (hb : base ≤ W.heap.size)
    (h : ∀ v' w', Lst w' base v' [] → Below base W w' → wpList Tryz.prog ops Q rest (a.put o.dst v') w') : wpList Tryz.prog ops Q (o :: rest) a W := by
  obtain ⟨i0, hi, hz0, hz1, hz2⟩ := info_parts info_int
  refine wpList_make_own W hgd l c 57 ho base 3 i0 (.int .i64 0) 1 Tryz.underlying57 hi hz0 hz1 .i64 .i64 n n.toNat hl hc (by omega) (by rw [hz2]; omega) (by unfold maxLen; omega) hb ?_
  intro w' h1 h2
  exact h _ w' h1 ((Below.refl base W).grown h2 hb (fun k hk => by cases hk))

theorem take_eq_succ {xs ys : List Int} {k : Nat} (hx : k < xs.length) (hy : k < ys.length) (h : xs.take k = ys.take k) (he : xs.getD k 0 = ys.getD k 0) : xs.take (k + 1) = ys.take (k + 1) := by
  rw [List.take_succ_eq_append_getElem hx, List.take_succ_eq_append_getElem hy, h]
  simp [hx, hy] at he
  rw [he]

end Go.Proofs.YtbedhpooeabehaaGreatDoor

/-
  The document's answer of sets of two (tidehallref03): Same, two, joined, And, Or, Less, All, Meets, Meet, Inside, In.
-/
namespace Go.Proofs.YtbedhpooeabehaaGreatDoor
open Go Go.RowKit Go.Shelf

attribute [local go_sem] Oper.semAt_some ext_const

theorem take_eq_succN {xs ys : List Nat} {k : Nat} (hx : k < xs.length) (hy : k < ys.length) (h : xs.take k = ys.take k) (he : xs.getD k 0 = ys.getD k 0) : xs.take (k + 1) = ys.take (k + 1) := by
  rw [List.take_succ_eq_append_getElem hx, List.take_succ_eq_append_getElem hy, h]
  simp [hx, hy] at he
  rw [he]

theorem errAll_first {n : Int} {a b : List Nat} (h : errAll n [a] ≠ 0) : errAll n [a, b] = errAll n [a] := by
  unfold errAll at h ⊢
  cases h1 : okN n <;> cases h2 : maySet n.toNat a <;> cases h3 : maySet n.toNat b <;> simp_all
theorem errAll_second {n : Int} {a b : List Nat} (h : errAll n [a] = 0) : errAll n [a, b] = errAll n [b] := by
  unfold errAll at h ⊢
  cases h1 : okN n <;> cases h2 : maySet n.toNat a <;> cases h3 : maySet n.toNat b <;> simp_all

def pick3 (c1 c2 c3 x y : Bool) : Bool := x && y && c1 || x && !y && c2 || !x && y && c3

theorem upto_yes {p : Nat → Bool} {k : Nat} (h : p k = true) (j : Nat) : (decide (j < k + 1) && p j) = ((decide (j < k) && p j) || decide (j = k)) := by
  by_cases e : j = k
  · subst e; simp [h]
  · have : decide (j < k + 1) = decide (j < k) := by rw [decide_eq_decide]; omega
    rw [this]; simp [e]
theorem upto_no {p : Nat → Bool} {k : Nat} (h : p k = false) (j : Nat) : (decide (j < k + 1) && p j) = (decide (j < k) && p j) := by
  by_cases e : j = k
  · subst e; simp [h]
  · have : decide (j < k + 1) = decide (j < k) := by rw [decide_eq_decide]; omega
    rw [this]

/-- The bit that is put, as the program reckons it. -/
theorem shl_bit (j : Nat) (hj : j < 64) : IntKind.u64.wrap ((2 : Int) ^ j) = 2 ^ j := by
  rw [IntKind.wrap_u64]
  have : 2 ^ j < 2 ^ 64 := Nat.pow_lt_pow_right (by omega) hj
  have e : ((2 : Int) ^ j) = ((2 ^ j : Nat) : Int) := by norm_cast
  rw [e]
  generalize 2 ^ j = y at *
  omega
theorem or_bit (x j : Nat) (hx : x < 18446744073709551616) (hj : j < 64) : bits .or .u64 (x : Int) ((2 : Int) ^ j) = ((x ||| 2 ^ j : Nat) : Int) := by
  have e : ((2 : Int) ^ j) = ((2 ^ j : Nat) : Int) := by norm_cast
  rw [e]
  exact u64_or_nat x (2 ^ j) hx (show 2 ^ j < 2 ^ 64 from Nat.pow_lt_pow_right (by omega) hj)

end Go.Proofs.YtbedhpooeabehaaGreatDoor
