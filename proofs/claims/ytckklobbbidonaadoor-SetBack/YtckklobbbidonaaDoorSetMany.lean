/-
  How many numbers a set has: math/bits.OnesCount64, set.many.
-/
import Derived.Test.YtckklobbbidonaaDoorWordMath
import Derived.Test.YtckklobbbidonaaDoorSetLook
import Derived.Laws.Bits128
namespace Go.Proofs.YtckklobbbidonaaDoor
open Go Go.RowKit Go.Shelf

theorem and_u64 (a : Int) (x m : Nat) (ha : a = (x : Int)) (hx : x < 18446744073709551616) (hm : m < 18446744073709551616) : bits .and .u64 a (m : Int) = ((x &&& m : Nat) : Int) := by
  rw [ha]; exact u64_and_nat x m hx hm
theorem half1 (x : Nat) (hx : x < 18446744073709551616) (h : st1 8 x < 18446744073709551616) :
    IntKind.u64.wrap (bits .and .u64 ((x : Int) / 2) 6148914691236517205 + bits .and .u64 (x : Int) 6148914691236517205) = ((st1 8 x : Nat) : Int) := by
  have a := and_u64 ((x : Int) / 2) (x / 2) 6148914691236517205 (by omega) (by omega) (by decide)
  have b := and_u64 (x : Int) x 6148914691236517205 rfl hx (by decide)
  have e : rep 85 8 = 6148914691236517205 := by decide
  unfold st1 at h ⊢
  rw [e] at h ⊢
  rw [show (6148914691236517205 : Int) = ((6148914691236517205 : Nat) : Int) from rfl, a, b, IntKind.wrap_u64]
  omega
theorem half2 (x : Nat) (hx : x < 18446744073709551616) (h : st2 8 x < 18446744073709551616) :
    IntKind.u64.wrap (bits .and .u64 ((x : Int) / 4) 3689348814741910323 + bits .and .u64 (x : Int) 3689348814741910323) = ((st2 8 x : Nat) : Int) := by
  have a := and_u64 ((x : Int) / 4) (x / 4) 3689348814741910323 (by omega) (by omega) (by decide)
  have b := and_u64 (x : Int) x 3689348814741910323 rfl hx (by decide)
  have e : rep 51 8 = 3689348814741910323 := by decide
  unfold st2 at h ⊢
  rw [e] at h ⊢
  rw [show (3689348814741910323 : Int) = ((3689348814741910323 : Nat) : Int) from rfl, a, b, IntKind.wrap_u64]
  omega
theorem half3 (x : Nat) (h : x / 16 + x < 18446744073709551616) :
    bits .and .u64 (IntKind.u64.wrap ((x : Int) / 16 + (x : Int))) 1085102592571150095 = ((st3 8 x : Nat) : Int) := by
  have e : rep 15 8 = 1085102592571150095 := by decide
  unfold st3
  rw [e]
  exact and_u64 _ (x / 16 + x) 1085102592571150095 (by rw [IntKind.wrap_u64]; omega) h (by decide)
theorem half4 (x c : Nat) (hx : 2 * x < 18446744073709551616) : IntKind.u64.wrap ((x : Int) + (x : Int) / (c : Int)) = ((x + x / c : Nat) : Int) := by
  have : x / c ≤ x := Nat.div_le_self x c
  rw [IntKind.wrap_u64, show (x : Int) / (c : Int) = ((x / c : Nat) : Int) by norm_cast]
  generalize x / c = d at *
  omega

theorem last7 (t p : Nat) (ht : t < 9223372036854775808) (hp : t % 128 = p) : bits BinOp.and IntKind.i64 (wrap64 (t : Int)) 127 = (p : Int) := by
  rw [i64_and127, show wrap64 (t : Int) = (t : Int) by unfold wrap64; omega]
  omega

set_option maxRecDepth 100000 in
set_option maxHeartbeats 2000000 in
theorem ones_calls (x : Nat) (hx : x < 18446744073709551616) (w : World) :
    Calls Tryd.prog 40 #[U x] w fun e W' => e = .returned (I (popTo 64 x)) ∧ W' = w := by
  go_enter Tryd.func40, Tryd.ntmps40
  go_wp2
  go_ret
  refine ⟨?_, rfl⟩
  obtain ⟨z, hz, hz1, h1, h2, hp, hp2⟩ := ones_eq x hx
  have g4 := half4 z 256 (by omega)
  have l4 : z + z / 256 ≤ 2 * z := by have := Nat.div_le_self z 256; omega
  generalize z + z / 256 = y at *
  have g5 := half4 y 65536 (by omega)
  have l5 : y + y / 65536 ≤ 2 * y := by have := Nat.div_le_self y 65536; omega
  generalize y + y / 65536 = t at *
  have g6 := half4 t 4294967296 (by omega)
  have l6 : t + t / 4294967296 ≤ 2 * t := by have := Nat.div_le_self t 4294967296; omega
  generalize t + t / 4294967296 = u at *
  have g7 := last7 u _ (by omega) hp
  simp only [Int.cast_ofNat_Int] at g4 g5 g6
  simp only [half1 x hx h1, half2 (st1 8 x) h1 (by omega), half3 _ h2, hz, g4, g5, g6, g7]
  rfl

/-- How many numbers the first k words have. -/
def cntTo (ws : List Nat) : Nat → Nat
  | 0 => 0
  | k + 1 => cntTo ws k + popTo 64 (ws.getD k 0)
theorem pop_le : ∀ (n x : Nat), popTo n x ≤ n
  | 0, x => Nat.le_refl 0
  | n + 1, x => by rw [popTo]; have := pop_le n (x / 2); omega
theorem cnt_le (ws : List Nat) : ∀ k, cntTo ws k ≤ 64 * k
  | 0 => Nat.le_refl 0
  | k + 1 => by rw [cntTo]; have := cnt_le ws k; have := pop_le 64 (ws.getD k 0); omega
theorem pop_succ (j x : Nat) : popTo (j + 1) x = popTo j x + (if x.testBit j then 1 else 0) := by
  rw [popTo_add 1 j x, popTo, popTo, Nat.testBit_eq_decide_div_mod_eq]
  have : x / 2 ^ j % 2 = 0 ∨ x / 2 ^ j % 2 = 1 := by omega
  rcases this with h | h <;> simp [h]
theorem list_word (ws : List Nat) (k : Nat) (h : (listTo ws (64 * k)).length = cntTo ws k) : ∀ j, j ≤ 64 → (listTo ws (64 * k + j)).length = cntTo ws k + popTo j (ws.getD k 0)
  | 0, _ => by simpa [popTo] using h
  | j + 1, hj => by
    have ih := list_word ws k h j (by omega)
    have hb := hasW_at ws k j (by omega)
    rw [pop_succ, ← Nat.add_assoc]
    cases e : (ws.getD k 0).testBit j
    · rw [e] at hb
      rw [listTo_no hb, ih]; simp
    · rw [e] at hb
      rw [listTo_yes hb, List.length_append, ih]; simp; omega
theorem list_cnt (ws : List Nat) : ∀ k, (listTo ws (64 * k)).length = cntTo ws k
  | 0 => rfl
  | k + 1 => by
    have := list_word ws k (list_cnt ws k) 64 (by omega)
    rwa [show 64 * (k + 1) = 64 * k + 64 by omega, cntTo]

/-- How many numbers a set has. -/
def manyS (ws : List Nat) : Nat := cntTo ws ws.length

set_option maxRecDepth 100000 in
set_option maxHeartbeats 2000000 in
theorem many_calls {v : Value} {ws : List Nat} (w : World) (h : Wds w v ws) (hs : ws.length ≤ 300) :
    Calls Tryd.prog 27 #[v] w fun e W' => e = .returned (I (manyS ws)) ∧ W' = w := by
  have hw := h.word
  obtain ⟨ao, cap, rfl, hv⟩ := h.view
  have HV : Hid (∀ k, k < ws.length → ∃ g off, ao = some ⟨g, off, none⟩ ∧ g < w.heap.size ∧ w.cell? ⟨g, off + k, none⟩ = some (U (ws.getD k 0))) := hv
  have HW : Hid (∀ k, ws.getD k 0 < 18446744073709551616) := hw
  clear hv hw h
  go_enter Tryd.func27, Tryd.ntmps27
  go_wp2
  go_loopw [3, 8] (fun s i wr => ∃ k : Nat, k ≤ ws.length ∧ i = .int .i64 k ∧ s = .int .i64 (cntTo ws k : Nat) ∧ wr = w) (fun s i _ => ws.length - (intOf i).toNat)
  case atStart => exact ⟨0, by omega, rfl, rfl, rfl⟩
  case round =>
    obtain ⟨k, hk, rfl, rfl, rfl⟩ := hrel
    by_cases hlt : (k : Int) < (ws.length : Int)
    · obtain ⟨g, off, rfl, hg, hc⟩ := HV.out k (by omega)
      have hx := HW.out k
      have hle := cnt_le ws k
      have hpl := pop_le 64 (ws.getD k 0)
      have HC : Hid (cntTo ws (k + 1) = cntTo ws k + popTo 64 (ws.getD k 0)) := show _ = _ from rfl
      have O := fun w => ones_calls _ hx w
      generalize ws.getD k 0 = x at *
      generalize hpx : popTo 64 x = p at *
      generalize hcx : cntTo ws k = c at *
      clear hcx hpx
      go_wp2_with fail
      refine (O _).mono ?_
      rintro e w1 ⟨rfl, rfl⟩
      go_wp2
      go_roundw
      case rel => exact ⟨k + 1, by omega, by go_num, by rw [HC.out]; go_num, by trivial⟩
      case measure => simp [intOf]; omega
    · have e : k = ws.length := by omega
      subst e
      go_wp2
      go_ret
      exact ⟨rfl, rfl⟩

end Go.Proofs.YtckklobbbidonaaDoor
