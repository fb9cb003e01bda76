/-
  tidehalllaw05.WireRuns returns true, whatever it is handed; nothing that lay before is turned.
-/
import Derived.Test.YtbbddolalglmnaaLawWireRuns1
import Derived.Test.YtbbddolalglmnaaLawWireRuns2
namespace Go.Proofs.Ytbbddolalglmnaa
open Go Go.RowKit Go.Shelf

theorem wireRuns_walk (d0 d1 d2 a m long : Int) (ha : 0 ≤ a ∧ a ≤ 255) (w : World) :
    Calls Try.prog 7 #[A3 d0 d1 d2, .int .u8 a, I m, I long] w fun e W' => e = .returned (.bool true) ∧ Below w.heap.size w W' := by
  rcases refused_or d0 d1 d2 (a % 3) m with ⟨e, h⟩ | ⟨hm, hn, k, hk⟩
  · exact runs_off ha w h.ne (lists_no fun w => wrun_ref long false w h) (lists_no fun w => wrun_ref long true w h)
  · have hd := dimAt_ok hm k
    unfold okD at hd
    by_cases hl : 1 ≤ long ∧ long ≤ dimAt d0 d1 d2 k
    · have KL : ListsW 18 #[A3 d0 d1 d2, I (axI k), I m] _ 0 := lists_yes fun w => wline_yes w hm hn rfl
      have hLl := cables_le hm hn k (z := dimAt d0 d1 d2 k) (by omega)
      have KA : ListsW 11 #[A3 d0 d1 d2, I (axI k), I m, I long, .bool false] _ 0 := lists_yes fun w => wrun_yes false w hm hn rfl hl
      have KB : ListsW 11 #[A3 d0 d1 d2, I (axI k), I m, I long, .bool true] _ 0 := lists_yes fun w => wrun_yes true w hm hn rfl hl
      have eA : mostW (dimAt d0 d1 d2 k) long false = long - 1 := by unfold mostW; simp
      rw [eA] at KA
      by_cases h1 : long = 1
      · subst h1
        have eB : mostW (dimAt d0 d1 d2 k) 1 true = 0 := by unfold mostW; simp
        have e0 : cablesW d0 d1 d2 m k ((1 : Int) - 1).toNat = [] := by simp [cablesW, nodesW, amongW]
        have e1 : cablesW d0 d1 d2 m k (0 : Int).toNat = [] := by simp [cablesW, nodesW, amongW]
        rw [e0] at KA
        rw [eB, e1] at KB
        by_cases hf : 1 < dimAt d0 d1 d2 k
        · have hl2 : (1 : Int) ≤ 2 ∧ 2 ≤ dimAt d0 d1 d2 k := by omega
          have KC : ListsW 11 #[A3 d0 d1 d2, I (axI k), I m, I 2, .bool false] _ 0 := lists_yes fun w => wrun_yes false w hm hn rfl hl2
          exact runs_one_fits ha hk w hLl (cables_le hm hn k (most_bd false hl2)) rfl hf KA KB KL KC
        · have KC : ListsW 11 #[A3 d0 d1 d2, I (axI k), I m, I 2, .bool false] [] 2 := lists_no fun w => wrun_no false w hm hn rfl (by omega)
          exact runs_one_full ha hk w hLl (by simp) rfl hf KA KB KL KC
      · have eB : mostW (dimAt d0 d1 d2 k) long true = dimAt d0 d1 d2 k := by unfold mostW; rw [if_pos ⟨rfl, by omega⟩]
        rw [eB] at KB
        have hlen : (cablesW d0 d1 d2 m k (long - 1).toNat).length = (long - 1).toNat := by rw [cables_len hm hn k (by omega), if_pos (by omega)]
        have hAL : ∀ y ∈ cablesW d0 d1 d2 m k (long - 1).toNat, y ∈ cablesW d0 d1 d2 m k (dimAt d0 d1 d2 k).toNat := fun y hy => cables_more (by omega) hy
        by_cases hf : long < dimAt d0 d1 d2 k
        · have hl2 : 1 ≤ long + 1 ∧ long + 1 ≤ dimAt d0 d1 d2 k := by omega
          have KC : ListsW 11 #[A3 d0 d1 d2, I (axI k), I m, I (long + 1), .bool false] _ 0 := lists_yes fun w => wrun_yes false w hm hn rfl hl2
          have hCl := cables_le hm hn k (most_bd false hl2)
          have eC : mostW (dimAt d0 d1 d2 k) (long + 1) false = long := by unfold mostW; simp
          rw [eC] at KC hCl
          have hAC : ∀ y ∈ cablesW d0 d1 d2 m k (long - 1).toNat, y ∈ cablesW d0 d1 d2 m k long.toNat := fun y hy => cables_more (by omega) hy
          generalize cablesW d0 d1 d2 m k long.toNat = C at *
          generalize cablesW d0 d1 d2 m k (long - 1).toNat = A at *
          have e : long = (A.length : Int) + 1 := by omega
          clear eA eB eC
          subst e
          exact runs_more_fits ha hk w hLl hCl (by omega) (by omega) hf KA KB KL KC hAL hAC
        · have KC : ListsW 11 #[A3 d0 d1 d2, I (axI k), I m, I (long + 1), .bool false] [] 2 := lists_no fun w => wrun_no false w hm hn rfl (by omega)
          generalize cablesW d0 d1 d2 m k (long - 1).toNat = A at *
          have e : long = (A.length : Int) + 1 := by omega
          clear eA eB
          subst e
          exact runs_more_full ha hk w hLl (by simp) (by omega) (by omega) hf KA KB KL KC hAL
    · exact runs_off (e := 2) ha w (by decide) (lists_no fun w => wrun_no false w hm hn hk hl) (lists_no fun w => wrun_no true w hm hn hk hl)

end Go.Proofs.Ytbbddolalglmnaa
