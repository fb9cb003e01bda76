/-
  Plain lists: what wire.line hands out, sorted, are the cables of those midplanes, rising. No program is named here.
-/
import Derived.Test.YtbbddolalglmnaaWireLine
namespace Go.Proofs.Ytbbddolalglmnaa
open Go.RowKit

theorem seqW_take (d0 d1 d2 m : Int) (k : Fin 3) {n n' : Nat} (h : n ≤ n') : (seqW d0 d1 d2 m k n').take n = seqW d0 d1 d2 m k n := by
  have := List.prefix_iff_eq_take.1 (seqW_pre d0 d1 d2 m k h)
  rw [seqW_len] at this
  exact this.symm

theorem sort_rise {l l' : List Int} (h : l.Perm l') (h' : l'.Pairwise (· < ·)) : (l.mergeSort fun x y => decide (x ≤ y)) = l' := by
  have tr : ∀ a b c : Int, decide (a ≤ b) = true → decide (b ≤ c) = true → decide (a ≤ c) = true := fun a b c h1 h2 => by simp only [decide_eq_true_eq] at *; omega
  have to : ∀ a b : Int, (decide (a ≤ b) || decide (b ≤ a)) = true := fun a b => by simp only [Bool.or_eq_true, decide_eq_true_eq]; omega
  refine List.Perm.eq_of_pairwise (le := fun a b : Int => decide (a ≤ b) = true) (fun a b _ _ h1 h2 => ?_) (List.pairwise_mergeSort tr to l) (h'.imp fun hab => ?_) ((List.mergeSort_perm l _).trans h)
  · simp only [decide_eq_true_eq] at h1 h2; omega
  · simp only [decide_eq_true_eq]; omega

theorem seq_perm {d0 d1 d2 m : Int} (h : mayD d0 d1 d2) (hm : 0 ≤ m ∧ m < d0 * d1 * d2) (k : Fin 3) {mo : Nat} (hk : (mo : Int) ≤ dimAt d0 d1 d2 k) (h1 : 1 < dimAt d0 d1 d2 k) : (seqW d0 d1 d2 m k mo).Perm (cablesW d0 d1 d2 m k mo) := by
  have hn1 : (seqW d0 d1 d2 m k mo).Nodup := by
    refine List.pairwise_map.2 ((List.pairwise_lt_range (n := mo)).imp_of_mem fun {a b} ha hb hab e => ?_)
    have ha' := List.mem_range.1 ha
    have hb' := List.mem_range.1 hb
    have := on_inj h hm k (a := (a : Int)) (b := (b : Int)) (by omega) (by omega) (cab_inj e)
    omega
  have hn2 : (cablesW d0 d1 d2 m k mo).Nodup := (cables_rise d0 d1 d2 m k mo).imp fun hab e => by omega
  refine (List.perm_ext_iff_of_nodup hn1 hn2).2 fun x => ?_
  rw [cables_mem]
  constructor
  · intro hx
    obtain ⟨i, hi, rfl⟩ := List.mem_map.1 hx
    have hi' := List.mem_range.1 hi
    have hb := on_node h hm k (i : Int)
    refine ⟨h1, (onD d0 d1 d2 m k (i : Int)).toNat, nodes_mem.2 ⟨by omega, i, hi', by omega⟩, ?_⟩
    rw [Int.toNat_of_nonneg hb.1]
  · rintro ⟨_, o, ho, rfl⟩
    obtain ⟨_, i, hi, e⟩ := nodes_mem.1 ho
    exact List.mem_map.2 ⟨i, List.mem_range.2 hi, by rw [e]⟩

/-- What is handed out, at most so many, sorted. -/
theorem sort_out {d0 d1 d2 m : Int} (h : mayD d0 d1 d2) (hm : 0 ≤ m ∧ m < d0 * d1 * d2) (k : Fin 3) {mo : Nat} (hk : (mo : Int) ≤ dimAt d0 d1 d2 k) :
    (((outW d0 d1 d2 m k).take mo).mergeSort fun x y => decide (x ≤ y)) = cablesW d0 d1 d2 m k mo := by
  unfold outW
  split
  · rename_i h1
    rw [seqW_take _ _ _ _ _ (by omega)]
    exact sort_rise (seq_perm h hm k hk h1) (cables_rise d0 d1 d2 m k mo)
  · rename_i h1
    unfold cablesW
    rw [if_neg h1]
    simp

end Go.Proofs.Ytbbddolalglmnaa
