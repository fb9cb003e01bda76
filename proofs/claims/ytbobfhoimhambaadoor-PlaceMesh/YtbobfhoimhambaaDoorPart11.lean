/-
  How many numbers a set has: math/bits.OnesCount64, set.many.
-/
import Derived.Test.YtbobfhoimhambaaDoorPart10
import Derived.Test.YtbobfhoimhambaaDoorPart9
import Derived.Laws.Bits128
import Derived.Test.YtbobfhoimhambaaDoorPart6
namespace Go.Proofs.YtbobfhoimhambaaDoor
open Go Go.RowKit Go.Shelf

theorem and_u64 (a : Int) (x m : Nat) (ha : a = (x : Int)) (hx : x < 18446744073709551616) (hm : m < 18446744073709551616) : bits .and .u64 a (m : Int) = ((x &&& m : Nat) : Int) := by
  rw [ha]; exact u64_and_nat x m hx hm
theorem half1 (x : Nat) (hx : x < 18446744073709551616) (h : st1 8 x < 18446744073709551616) :
    IntKind.u64.wrap (bits .and .u64 ((x : Int) / 2) 6148914691236517205 + bits .and .u64 (x : Int) 6148914691236517205) = ((st1 8 x : Nat) : Int) := by
  have a := and_u64 ((x : Int) / 2) (x / 2) 6148914691236517205 (by omega) (by omega) (by decide)
  have b := and_u64 (x : Int) x 6148914691236517205 rfl hx (by decide)
  have e : rep 85 8 = 6148914691236517205 := by decide
  unfold st1 at h ⊢
  rw [e] at h ⊢
  rw [show (6148914691236517205 : Int) = ((6148914691236517205 : Nat) : Int) from rfl, a, b, IntKind.wrap_u64]
  omega
theorem half2 (x : Nat) (hx : x < 18446744073709551616) (h : st2 8 x < 18446744073709551616) :
    IntKind.u64.wrap (bits .and .u64 ((x : Int) / 4) 3689348814741910323 + bits .and .u64 (x : Int) 3689348814741910323) = ((st2 8 x : Nat) : Int) := by
  have a := and_u64 ((x : Int) / 4) (x / 4) 3689348814741910323 (by omega) (by omega) (by decide)
  have b := and_u64 (x : Int) x 3689348814741910323 rfl hx (by decide)
  have e : rep 51 8 = 3689348814741910323 := by decide
  unfold st2 at h ⊢
  rw [e] at h ⊢
  rw [show (3689348814741910323 : Int) = ((3689348814741910323 : Nat) : Int) from rfl, a, b, IntKind.wrap_u64]
  omega
theorem half3 (x : Nat) (h : x / 16 + x < 18446744073709551616) :
    bits .and .u64 (IntKind.u64.wrap ((x : Int) / 16 + (x : Int))) 1085102592571150095 = ((st3 8 x : Nat) : Int) := by
  have e : rep 15 8 = 1085102592571150095 := by decide
  unfold st3
  rw [e]
  exact and_u64 _ (x / 16 + x) 1085102592571150095 (by rw [IntKind.wrap_u64]; omega) h (by decide)
theorem half4 (x c : Nat) (hx : 2 * x < 18446744073709551616) : IntKind.u64.wrap ((x : Int) + (x : Int) / (c : Int)) = ((x + x / c : Nat) : Int) := by
  have : x / c ≤ x := Nat.div_le_self x c
  rw [IntKind.wrap_u64, show (x : Int) / (c : Int) = ((x / c : Nat) : Int) by norm_cast]
  generalize x / c = d at *
  omega

theorem last7 (t p : Nat) (ht : t < 9223372036854775808) (hp : t % 128 = p) : bits BinOp.and IntKind.i64 (wrap64 (t : Int)) 127 = (p : Int) := by
  rw [i64_and127, show wrap64 (t : Int) = (t : Int) by unfold wrap64; omega]
  omega

set_option maxRecDepth 100000 in
set_option maxHeartbeats 2000000 in
theorem ones_calls (x : Nat) (hx : x < 18446744073709551616) (w : World) :
    Calls Tryd.prog 56 #[U x] w fun e W' => e = .returned (I (popTo 64 x)) ∧ W' = w := by
  go_enter Tryd.func56, Tryd.ntmps56
  go_wp2
  go_ret
  refine ⟨?_, rfl⟩
  obtain ⟨z, hz, hz1, h1, h2, hp, hp2⟩ := ones_eq x hx
  have g4 := half4 z 256 (by omega)
  have l4 : z + z / 256 ≤ 2 * z := by have := Nat.div_le_self z 256; omega
  generalize z + z / 256 = y at *
  have g5 := half4 y 65536 (by omega)
  have l5 : y + y / 65536 ≤ 2 * y := by have := Nat.div_le_self y 65536; omega
  generalize y + y / 65536 = t at *
  have g6 := half4 t 4294967296 (by omega)
  have l6 : t + t / 4294967296 ≤ 2 * t := by have := Nat.div_le_self t 4294967296; omega
  generalize t + t / 4294967296 = u at *
  have g7 := last7 u _ (by omega) hp
  simp only [Int.cast_ofNat_Int] at g4 g5 g6
  simp only [half1 x hx h1, half2 (st1 8 x) h1 (by omega), half3 _ h2, hz, g4, g5, g6, g7]
  rfl

/-- How many numbers the first k words have. -/
def cntTo (ws : List Nat) : Nat → Nat
  | 0 => 0
  | k + 1 => cntTo ws k + popTo 64 (ws.getD k 0)
theorem pop_le : ∀ (n x : Nat), popTo n x ≤ n
  | 0, x => Nat.le_refl 0
  | n + 1, x => by rw [popTo]; have := pop_le n (x / 2); omega
theorem cnt_le (ws : List Nat) : ∀ k, cntTo ws k ≤ 64 * k
  | 0 => Nat.le_refl 0
  | k + 1 => by rw [cntTo]; have := cnt_le ws k; have := pop_le 64 (ws.getD k 0); omega
theorem pop_succ (j x : Nat) : popTo (j + 1) x = popTo j x + (if x.testBit j then 1 else 0) := by
  rw [popTo_add 1 j x, popTo, popTo, Nat.testBit_eq_decide_div_mod_eq]
  have : x / 2 ^ j % 2 = 0 ∨ x / 2 ^ j % 2 = 1 := by omega
  rcases this with h | h <;> simp [h]
theorem list_word (ws : List Nat) (k : Nat) (h : (listTo ws (64 * k)).length = cntTo ws k) : ∀ j, j ≤ 64 → (listTo ws (64 * k + j)).length = cntTo ws k + popTo j (ws.getD k 0)
  | 0, _ => by simpa [popTo] using h
  | j + 1, hj => by
    have ih := list_word ws k h j (by omega)
    have hb := hasW_at ws k j (by omega)
    rw [pop_succ, ← Nat.add_assoc]
    cases e : (ws.getD k 0).testBit j
    · rw [e] at hb
      rw [listTo_no hb, ih]; simp
    · rw [e] at hb
      rw [listTo_yes hb, List.length_append, ih]; simp; omega
theorem list_cnt (ws : List Nat) : ∀ k, (listTo ws (64 * k)).length = cntTo ws k
  | 0 => rfl
  | k + 1 => by
    have := list_word ws k (list_cnt ws k) 64 (by omega)
    rwa [show 64 * (k + 1) = 64 * k + 64 by omega, cntTo]

/-- How many numbers a set has. -/
def manyS (ws : List Nat) : Nat := cntTo ws ws.length

set_option maxRecDepth 100000 in
set_option maxHeartbeats 2000000 in
theorem manyS_calls {v : Value} {ws : List Nat} (w : World) (h : Wds w v ws) (hs : ws.length ≤ 300) :
    Calls Tryd.prog 38 #[v] w fun e W' => e = .returned (I (manyS ws)) ∧ W' = w := by
  have hw := h.word
  obtain ⟨ao, cap, rfl, hv⟩ := h.view
  have HV : Hid (∀ k, k < ws.length → ∃ g off, ao = some ⟨g, off, none⟩ ∧ g < w.heap.size ∧ w.cell? ⟨g, off + k, none⟩ = some (U (ws.getD k 0))) := hv
  have HW : Hid (∀ k, ws.getD k 0 < 18446744073709551616) := hw
  clear hv hw h
  go_enter Tryd.func38, Tryd.ntmps38
  go_wp2
  go_loopw [3, 8] (fun s i wr => ∃ k : Nat, k ≤ ws.length ∧ i = .int .i64 k ∧ s = .int .i64 (cntTo ws k : Nat) ∧ wr = w) (fun s i _ => ws.length - (intOf i).toNat)
  case atStart => exact ⟨0, by omega, rfl, rfl, rfl⟩
  case round =>
    obtain ⟨k, hk, rfl, rfl, rfl⟩ := hrel
    by_cases hlt : (k : Int) < (ws.length : Int)
    · obtain ⟨g, off, rfl, hg, hc⟩ := HV.out k (by omega)
      have hx := HW.out k
      have hle := cnt_le ws k
      have hpl := pop_le 64 (ws.getD k 0)
      have HC : Hid (cntTo ws (k + 1) = cntTo ws k + popTo 64 (ws.getD k 0)) := show _ = _ from rfl
      have O := fun w => ones_calls _ hx w
      generalize ws.getD k 0 = x at *
      generalize hpx : popTo 64 x = p at *
      generalize hcx : cntTo ws k = c at *
      clear hcx hpx
      go_wp2_with fail
      refine (O _).mono ?_
      rintro e w1 ⟨rfl, rfl⟩
      go_wp2
      go_roundw
      case rel => exact ⟨k + 1, by omega, by go_num, by rw [HC.out]; go_num, by trivial⟩
      case measure => simp [intOf]; omega
    · have e : k = ws.length := by omega
      subst e
      go_wp2
      go_ret
      exact ⟨rfl, rfl⟩

end Go.Proofs.YtbobfhoimhambaaDoor

/-
  Sets of two, whether two meet, whether one is in the other one: set.And, set.Or, set.Less, set.Meet, set.In.
-/
namespace Go.Proofs.YtbobfhoimhambaaDoor
open Go Go.RowKit Go.Shelf

theorem zip_set {op : Nat → Nat → Nat} {g : Bool → Bool → Bool} (hop : ∀ x y, x < 18446744073709551616 → y < 18446744073709551616 → op x y < 18446744073709551616)
    (hf : ∀ x y j, y < 18446744073709551616 → j < 64 → (op x y).testBit j = g (x.testBit j) (y.testBit j)) (h0 : g false false = false) {a b : List Nat} {l : Nat}
    (ha : a.length = l) (hb : b.length = l) (wa : ∀ x ∈ a, x < 18446744073709551616) (wb : ∀ x ∈ b, x < 18446744073709551616) : IsSet l (List.zipWith op a b) (fun j => g (hasW a j) (hasW b j)) := by
  refine ⟨by simp [ha, hb], fun x hx => ?_, fun k => ?_⟩
  · obtain ⟨i, hi, rfl⟩ := List.mem_iff_getElem.1 hx
    rw [List.getElem_zipWith]
    exact hop _ _ (wa _ (List.getElem_mem _)) (wb _ (List.getElem_mem _))
  · unfold hasW
    have hj := Nat.mod_lt k (show 0 < 64 by omega)
    simp only [List.getD_eq_getElem?_getD, List.getElem?_zipWith]
    by_cases hi : k / 64 < l
    · rw [List.getElem?_eq_getElem (by omega : k / 64 < a.length), List.getElem?_eq_getElem (by omega : k / 64 < b.length)]
      exact hf _ _ _ (wb _ (List.getElem_mem _)) hj
    · rw [List.getElem?_eq_none (by omega : a.length ≤ k / 64), List.getElem?_eq_none (by omega : b.length ≤ k / 64)]
      simp [h0]

def andW (x y : Nat) : Nat := x &&& y
def orW (x y : Nat) : Nat := x ||| y
theorem zip_and {a b : List Nat} {l : Nat} (ha : a.length = l) (hb : b.length = l) (wa : ∀ x ∈ a, x < 18446744073709551616) (wb : ∀ x ∈ b, x < 18446744073709551616) : IsSet l (List.zipWith andW a b) (fun j => hasW a j && hasW b j) :=
  zip_set (g := fun x y => x && y) (fun x y hx _ => and_lt x y hx) (fun x y j _ _ => Nat.testBit_and x y j) rfl ha hb wa wb
theorem zip_or {a b : List Nat} {l : Nat} (ha : a.length = l) (hb : b.length = l) (wa : ∀ x ∈ a, x < 18446744073709551616) (wb : ∀ x ∈ b, x < 18446744073709551616) : IsSet l (List.zipWith orW a b) (fun j => hasW a j || hasW b j) :=
  zip_set (g := fun x y => x || y) (fun x y hx hy => bits_or_lt x y hx hy) (fun x y j _ _ => Nat.testBit_or x y j) rfl ha hb wa wb
theorem zip_not {a b : List Nat} {l : Nat} (ha : a.length = l) (hb : b.length = l) (wa : ∀ x ∈ a, x < 18446744073709551616) (wb : ∀ x ∈ b, x < 18446744073709551616) : IsSet l (List.zipWith notW a b) (fun j => hasW a j && !hasW b j) :=
  zip_set (g := fun x y => x && !y) (fun x _ hx _ => and_lt x _ hx) (fun x y j hy hj => notW_bit x y j hy hj) rfl ha hb wa wb

theorem and_calls {va vb : Value} {a b : List Nat} (w : World) (ha : Wds w va a) (hb : Wds w vb b) (n : Int) :
    Calls Tryd.prog 65 #[I n, va, vb] w fun e W' => ∃ v, e = .returned (.tuple #[v, I (errAll n [a, b])]) ∧ SetR W' w.heap.size v (joinW andW n a b) ∧ Below w.heap.size w W' := by
  go_enter Tryd.func65, Tryd.ntmps65
  go_wp2_with fail
  refine (join_and (op := andW) rfl (fun x y hx hy w => and1_calls x y hx hy w) (fun x y hx _ => and_lt x y hx) w ha hb n).mono ?_
  rintro e w1 ⟨v, rfl, hR, hB⟩
  go_wp2
  go_ret2
  exact ⟨_, rfl, hR, hB⟩
theorem less_calls {va vb : Value} {a b : List Nat} (w : World) (ha : Wds w va a) (hb : Wds w vb b) (n : Int) :
    Calls Tryd.prog 25 #[I n, va, vb] w fun e W' => ∃ v, e = .returned (.tuple #[v, I (errAll n [a, b])]) ∧ SetR W' w.heap.size v (joinW notW n a b) ∧ Below w.heap.size w W' := by
  go_enter Tryd.func25, Tryd.ntmps25
  go_wp2_with fail
  refine (join_less (op := notW) rfl (fun x y hx hy w => less1_calls x y hx hy w) (fun x _ hx _ => and_lt x _ hx) w ha hb n).mono ?_
  rintro e w1 ⟨v, rfl, hR, hB⟩
  go_wp2
  go_ret2
  exact ⟨_, rfl, hR, hB⟩

/-- Whether two meet; whether one is in the other one. -/
def meetSB (n : Int) (a b : List Nat) : Bool := decide (errAll n [a, b] = 0) && (List.range (64 * a.length)).any fun j => hasW a j && hasW b j
def inSB (n : Int) (a b : List Nat) : Bool := decide (errAll n [a, b] = 0) && (List.range (64 * a.length)).all fun j => !hasW a j || hasW b j

theorem many_zero {ws : List Nat} : manyS ws = 0 ↔ ∀ j, hasW ws j = false := by
  unfold manyS
  rw [← list_cnt, List.length_eq_zero_iff]
  constructor
  · intro h j
    by_cases hj : j < 64 * ws.length
    · cases e : hasW ws j
      · rfl
      · have := listTo_mem.2 ⟨hj, e⟩
        rw [h] at this; cases this
    · exact hasW_past (by omega)
  · intro h
    rw [List.eq_nil_iff_forall_not_mem]
    intro m hm
    rw [listTo_mem, h] at hm
    cases hm.2
theorem joinW_len {op : Nat → Nat → Nat} {n : Int} {a b : List Nat} : (joinW op n a b).length ≤ 192 := by
  unfold joinW
  split
  · rename_i h
    obtain ⟨h1, h2, hma, hmb⟩ := err_two h
    have := (mayS_iff.1 hma).1
    simp only [List.length_zipWith]
    omega
  · simp
theorem meet_eq {n : Int} {a b : List Nat} (wa : ∀ x ∈ a, x < 18446744073709551616) (wb : ∀ x ∈ b, x < 18446744073709551616) (h : errAll n [a, b] = 0) : meetSB n a b = decide (0 < manyS (joinW andW n a b)) := by
  obtain ⟨h1, h2, hma, hmb⟩ := err_two h
  have hz := zip_and (mayS_iff.1 hma).1 (mayS_iff.1 hmb).1 wa wb
  unfold meetSB joinW
  rw [if_pos h, decide_eq_true h, Bool.true_and, Bool.eq_iff_iff, decide_eq_true_eq, List.any_eq_true]
  have key := many_zero (ws := List.zipWith andW a b)
  constructor
  · rintro ⟨j, _, hj⟩
    have : manyS (List.zipWith andW a b) ≠ 0 := by
      intro e
      have := key.1 e j
      rw [hz.has, hj] at this; cases this
    omega
  · intro hp
    have : ¬ ∀ j, hasW (List.zipWith andW a b) j = false := fun e => by have := key.2 e; omega
    obtain ⟨j, hj⟩ := Classical.not_forall.1 this
    rw [hz.has] at hj
    have hj : (hasW a j && hasW b j) = true := by simpa using hj
    refine ⟨j, List.mem_range.2 ?_, hj⟩
    apply Nat.lt_of_not_le
    intro hle
    rw [hasW_past hle] at hj; cases hj
theorem in_eq {n : Int} {a b : List Nat} (wa : ∀ x ∈ a, x < 18446744073709551616) (wb : ∀ x ∈ b, x < 18446744073709551616) (h : errAll n [a, b] = 0) : inSB n a b = (((manyS (joinW notW n a b) : Nat) : Int) == 0) := by
  obtain ⟨h1, h2, hma, hmb⟩ := err_two h
  have hz := zip_not (mayS_iff.1 hma).1 (mayS_iff.1 hmb).1 wa wb
  unfold inSB joinW
  rw [if_pos h, decide_eq_true h, Bool.true_and, Bool.eq_iff_iff, beq_iff_eq, List.all_eq_true]
  have key := many_zero (ws := List.zipWith notW a b)
  constructor
  · intro hj
    have : manyS (List.zipWith notW a b) = 0 := key.2 fun j => by
      rw [hz.has]
      by_cases hl : j < 64 * a.length
      · have := hj j (List.mem_range.2 hl)
        cases ha : hasW a j <;> cases hb : hasW b j <;> simp [ha, hb] at this ⊢
      · rw [hasW_past (Nat.not_lt.1 hl)]; rfl
    omega
  · intro hp j _
    have := key.1 (by omega) j
    rw [hz.has] at this
    cases ha : hasW a j <;> cases hb : hasW b j <;> simp [ha, hb] at this ⊢

theorem meet_calls {va vb : Value} {a b : List Nat} (w : World) (ha : Wds w va a) (hb : Wds w vb b) (n : Int) :
    Calls Tryd.prog 50 #[I n, va, vb] w fun e W' => e = .returned (.tuple #[.bool (meetSB n a b), I (errAll n [a, b])]) ∧ Below w.heap.size w W' := by
  obtain ⟨ans, hans⟩ : ∃ ans, ans = meetSB n a b := ⟨_, rfl⟩
  obtain ⟨er, her⟩ : ∃ er, er = errAll n [a, b] := ⟨_, rfl⟩
  have C := and_calls w ha hb n
  have HL := joinW_len (op := andW) (n := n) (a := a) (b := b)
  have HM : Hid (er = 0 → ans = decide (0 < manyS (joinW andW n a b))) := fun e => by rw [hans]; exact meet_eq ha.1 hb.1 (her ▸ e)
  have HF : Hid (er ≠ 0 → ans = false) := fun e => by rw [hans, meetSB, ← her, decide_eq_false e, Bool.false_and]
  rw [← her] at C ⊢
  rw [← hans]
  clear her hans
  generalize joinW andW n a b = zs at *
  go_enter Tryd.func50, Tryd.ntmps50
  go_wp2_with fail
  refine C.mono ?_
  rintro e w1 ⟨v, rfl, hR, hB⟩
  by_cases h0 : er = 0
  · subst h0
    have E := HM
    generalize hm : manyS zs = m at *
    have M := manyS_calls _ hR.wds (by omega)
    rw [hm] at M
    clear hm
    go_wp2_with fail
    refine M.mono ?_
    rintro e w2 ⟨rfl, rfl⟩
    go_wp2
    go_ret2
    exact ⟨by rw [E.out (by trivial)]; rfl, hB⟩
  · have E := HF.out h0
    subst E
    go_wp2
    go_ret2
    exact ⟨rfl, hB⟩

theorem in_calls {va vb : Value} {a b : List Nat} (w : World) (ha : Wds w va a) (hb : Wds w vb b) (n : Int) :
    Calls Tryd.prog 18 #[I n, va, vb] w fun e W' => e = .returned (.tuple #[.bool (inSB n a b), I (errAll n [a, b])]) ∧ Below w.heap.size w W' := by
  obtain ⟨ans, hans⟩ : ∃ ans, ans = inSB n a b := ⟨_, rfl⟩
  obtain ⟨er, her⟩ : ∃ er, er = errAll n [a, b] := ⟨_, rfl⟩
  have C := less_calls w ha hb n
  have HL := joinW_len (op := notW) (n := n) (a := a) (b := b)
  have HM : Hid (er = 0 → ans = (((manyS (joinW notW n a b) : Nat) : Int) == 0)) := fun e => by rw [hans]; exact in_eq ha.1 hb.1 (her ▸ e)
  have HF : Hid (er ≠ 0 → ans = false) := fun e => by rw [hans, inSB, ← her, decide_eq_false e, Bool.false_and]
  rw [← her] at C ⊢
  rw [← hans]
  clear her hans
  generalize joinW notW n a b = zs at *
  go_enter Tryd.func18, Tryd.ntmps18
  go_wp2_with fail
  refine C.mono ?_
  rintro e w1 ⟨v, rfl, hR, hB⟩
  by_cases h0 : er = 0
  · subst h0
    have E := HM
    generalize hm : manyS zs = m at *
    have M := manyS_calls _ hR.wds (by omega)
    rw [hm] at M
    clear hm
    go_wp2_with fail
    refine M.mono ?_
    rintro e w2 ⟨rfl, rfl⟩
    go_wp2
    go_ret2
    exact ⟨by rw [E.out (by trivial)]; rfl, hB⟩
  · have E := HF.out h0
    subst E
    go_wp2
    go_ret2
    exact ⟨rfl, hB⟩

end Go.Proofs.YtbobfhoimhambaaDoor

/-
  The document's answer of sets of two (tidehallref03): Same, two, joined, And, Or, Less, All, Meets, Meet, Inside, In.
-/
namespace Go.Proofs.YtbobfhoimhambaaDoor
open Go Go.RowKit Go.Shelf

attribute [local go_sem] Oper.semAt_some ext_const

theorem take_eq_succN {xs ys : List Nat} {k : Nat} (hx : k < xs.length) (hy : k < ys.length) (h : xs.take k = ys.take k) (he : xs.getD k 0 = ys.getD k 0) : xs.take (k + 1) = ys.take (k + 1) := by
  rw [List.take_succ_eq_append_getElem hx, List.take_succ_eq_append_getElem hy, h]
  simp [hx, hy] at he
  rw [he]

set_option maxRecDepth 100000 in
set_option maxHeartbeats 2000000 in
theorem sameS_calls {xs ys : List Nat} {u v : Value} (w : World) (hu : Wds w u xs) (hv : Wds w v ys) (hx : xs.length ≤ 100000) :
    Calls Tryd.prog 19 #[u, v] w fun e W' => e = .returned (.bool (decide (xs = ys))) ∧ Below w.heap.size w W' := by
  have hmx : Tryd.prog.follows .mixedOrders = true := by kernel_rfl
  obtain ⟨ao, cap, rfl, hA⟩ := hu.view
  obtain ⟨ao', cap', rfl, hB⟩ := hv.view
  have HA : Hid (∀ k, k < xs.length → ∃ g off, ao = some ⟨g, off, none⟩ ∧ g < w.heap.size ∧ w.cell? ⟨g, off + k, none⟩ = some (U (xs.getD k 0))) := hA
  have HB : Hid (∀ k, k < ys.length → ∃ g off, ao' = some ⟨g, off, none⟩ ∧ g < w.heap.size ∧ w.cell? ⟨g, off + k, none⟩ = some (U (ys.getD k 0))) := hB
  clear hu hv hA hB
  obtain ⟨ans, hans⟩ : ∃ ans, ans = decide (xs = ys) := ⟨_, rfl⟩
  rw [← hans]
  have HS : Hid (ans = decide (xs = ys)) := hans
  clear hans
  by_cases hl : (xs.length : Int) = ys.length
  · have hl' : ys.length = xs.length := by omega
    clear hl
    rw [hl'] at HB ⊢
    have HL : Hid (ys.length = xs.length) := hl'
    clear hl'
    go_enter Tryd.func19, Tryd.ntmps19
    go_wp2
    go_loopw [5] (fun i wr => ∃ k : Nat, k ≤ xs.length ∧ i = .int .i64 k ∧ Hid (xs.take k = ys.take k) ∧ Below w.heap.size w wr) (fun i _ => xs.length - (intOf i).toNat)
    case atStart => exact ⟨0, by omega, rfl, by show _ = _; simp, Below.refl _ _⟩
    case round =>
      obtain ⟨k, hk, rfl, HT, hT⟩ := hrel
      by_cases hlt : (k : Int) < (xs.length : Int)
      · have hkx : k < xs.length := by omega
        obtain ⟨g, off, rfl, hg, hc⟩ := HA.out k hkx
        obtain ⟨g', off', rfl, hg', hc'⟩ := HB.out k hkx
        have e0 : ∀ x : Ext wr, x.wd.cell? ⟨g, off + k, none⟩ = some (U (xs.getD k 0)) := fun x => ((below_ext hT x).cell (p := ⟨g, off + k, none⟩) hg).trans hc
        have e1 : ∀ x : Ext wr, x.wd.cell? ⟨g', off' + k, none⟩ = some (U (ys.getD k 0)) := fun x => ((below_ext hT x).cell (p := ⟨g', off' + k, none⟩) hg').trans hc'
        have HE : Hid (xs.getD k 0 = ys.getD k 0 → xs.take (k + 1) = ys.take (k + 1)) := take_eq_succN hkx (by have := HL.out; omega) HT.out
        have HD : Hid (xs.getD k 0 ≠ ys.getD k 0 → ans = false) := fun hne => by rw [HS.out, decide_eq_false_iff_not]; intro he; exact hne (by rw [he])
        clear hg hg' hc hc'
        generalize xs.getD k 0 = x at e0 HE HD
        generalize ys.getD k 0 = y at e1 HE HD
        cases hq : ((x : Int) != (y : Int))
        · go_wp2
          refine wp_region_look hmx (by kernel_rfl) ?_
          repeat (go_big_quiet_step (fail))
          refine wpQuiet_nil ?_
          intro v
          go_wp2
          go_roundw
          case rel => exact ⟨k + 1, by omega, by go_num, HE.out (Int.ofNat_inj.1 (by simpa using hq)), then_below hT v.le⟩
          case measure => simp [intOf]; omega
        · go_wp2
          refine wp_region_look hmx (by kernel_rfl) ?_
          repeat (go_big_quiet_step (fail))
          refine wpQuiet_nil ?_
          intro v
          go_wp2
          go_ret
          exact ⟨by rw [HD.out (fun h => by simp [h] at hq)]; rfl, then_below hT v.le⟩
      · have E : ans = true := by
          rw [HS.out, decide_eq_true_eq]
          have h1 := HT.out
          rwa [List.take_of_length_le (by omega), List.take_of_length_le (by have := HL.out; omega)] at h1
        subst E
        go_wp2
        go_ret
        exact ⟨rfl, hT⟩
  · have E : ans = false := by rw [HS.out, decide_eq_false_iff_not]; intro he; rw [he] at hl; exact hl rfl
    subst E
    go_enter Tryd.func19, Tryd.ntmps19
    go_wp2
    go_ret
    exact ⟨rfl, Below.refl _ _⟩

theorem errAll_first {n : Int} {a b : List Nat} (h : errAll n [a] ≠ 0) : errAll n [a, b] = errAll n [a] := by
  unfold errAll at h ⊢
  cases h1 : okN n <;> cases h2 : maySet n.toNat a <;> cases h3 : maySet n.toNat b <;> simp_all
theorem errAll_second {n : Int} {a b : List Nat} (h : errAll n [a] = 0) : errAll n [a, b] = errAll n [b] := by
  unfold errAll at h ⊢
  cases h1 : okN n <;> cases h2 : maySet n.toNat a <;> cases h3 : maySet n.toNat b <;> simp_all

def pick3 (c1 c2 c3 x y : Bool) : Bool := x && y && c1 || x && !y && c2 || !x && y && c3

theorem upto_yes {p : Nat → Bool} {k : Nat} (h : p k = true) (j : Nat) : (decide (j < k + 1) && p j) = ((decide (j < k) && p j) || decide (j = k)) := by
  by_cases e : j = k
  · subst e; simp [h]
  · have : decide (j < k + 1) = decide (j < k) := by rw [decide_eq_decide]; omega
    rw [this]; simp [e]
theorem upto_no {p : Nat → Bool} {k : Nat} (h : p k = false) (j : Nat) : (decide (j < k + 1) && p j) = (decide (j < k) && p j) := by
  by_cases e : j = k
  · subst e; simp [h]
  · have : decide (j < k + 1) = decide (j < k) := by rw [decide_eq_decide]; omega
    rw [this]

/-- The bit that is put, as the program reckons it. -/
theorem shl_bit (j : Nat) (hj : j < 64) : IntKind.u64.wrap ((2 : Int) ^ j) = 2 ^ j := by
  rw [IntKind.wrap_u64]
  have : 2 ^ j < 2 ^ 64 := Nat.pow_lt_pow_right (by omega) hj
  have e : ((2 : Int) ^ j) = ((2 ^ j : Nat) : Int) := by norm_cast
  rw [e]
  generalize 2 ^ j = y at *
  omega
theorem or_bit (x j : Nat) (hx : x < 18446744073709551616) (hj : j < 64) : bits .or .u64 (x : Int) ((2 : Int) ^ j) = ((x ||| 2 ^ j : Nat) : Int) := by
  have e : ((2 : Int) ^ j) = ((2 ^ j : Nat) : Int) := by norm_cast
  rw [e]
  exact u64_or_nat x (2 ^ j) hx (show 2 ^ j < 2 ^ 64 from Nat.pow_lt_pow_right (by omega) hj)

end Go.Proofs.YtbobfhoimhambaaDoor
