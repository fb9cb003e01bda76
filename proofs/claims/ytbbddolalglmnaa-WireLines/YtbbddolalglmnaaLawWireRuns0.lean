/-
  tidehalllaw05.WireRuns returns true, whatever it is handed; nothing that lay before is turned.
-/
import Derived.Test.YtbbddolalglmnaaLawWire
import Derived.Test.YtbbddolalglmnaaLawWireTells
namespace Go.Proofs.Ytbbddolalglmnaa
open Go Go.RowKit Go.Shelf

attribute [local go_sem] Oper.semAt_some ext_const

theorem mod3w (x : Int) : ∃ k : Fin 3, x % 3 = axI k := by
  have h : x % 3 = 0 ∨ x % 3 = 1 ∨ x % 3 = 2 := by omega
  rcases h with h | h | h
  · exact ⟨0, h⟩
  · exact ⟨1, h⟩
  · exact ⟨2, h⟩

theorem view_at {W : World} {base n cap : Nat} {ao : Option Addr} {xs : List Int} (h : Lst W base (.slice ao n cap) xs) {j : Nat} (hj : j < xs.length) : ∃ g cur, ao = some ⟨g, 0, none⟩ ∧ Blk W g 3 cur ∧ cur[j]? = some (I (xs.getD j 0)) := by
  obtain ⟨ao', cap', e, hv⟩ := h.view
  cases e
  exact hv j hj
theorem getD_mem {xs : List Int} {j : Nat} (hj : j < xs.length) : xs.getD j 0 ∈ xs := by
  rw [List.getD_eq_getElem?_getD, List.getElem?_eq_getElem hj]
  exact List.getElem_mem hj

/-- Both runs are refused. -/
theorem runs_off {d0 d1 d2 a m long e : Int} (ha : 0 ≤ a ∧ a ≤ 255) (w : World) (he : (e != 0) = true)
    (HA : ListsW 11 #[A3 d0 d1 d2, I (a % 3), I m, I long, .bool false] [] e) (HB : ListsW 11 #[A3 d0 d1 d2, I (a % 3), I m, I long, .bool true] [] e) :
    Calls Try.prog 7 #[A3 d0 d1 d2, .int .u8 a, I m, I long] w fun e W' => e = .returned (.bool true) ∧ Below w.heap.size w W' := by
  have KA : Hid (ListsW 11 #[A3 d0 d1 d2, I (a % 3), I m, I long, .bool false] [] e) := HA
  have KB : Hid (ListsW 11 #[A3 d0 d1 d2, I (a % 3), I m, I long, .bool true] [] e) := HB
  clear HA HB
  have b0 := Blk.new w 26 #[I d0, I d1, I d2]
  have hB0 := (Below.refl w.heap.size w).alloc (Nat.le_refl _) (.cells #[I d0, I d1, I d2] 26)
  go_enter Try.func7, Try.ntmps7
  go_wp2_with fail
  generalize w.alloc (.cells #[I d0, I d1, I d2] 26) = W at *
  refine (alive5_calls _).mono ?_
  rintro x w1 ⟨rfl, hT⟩
  obtain ⟨c0, c1, c2, hz⟩ := b0.three hT
  go_wp2_with fail
  refine (KA.out _).mono ?_
  rintro x w2 ⟨u, rfl, _, hB⟩
  have hT := then_below hT hB
  clear hB c0 c1 c2 hz
  obtain ⟨c0, c1, c2, hz⟩ := b0.three hT
  go_wp2_with fail
  refine (KB.out _).mono ?_
  rintro x w3 ⟨v, rfl, _, hB⟩
  have hT := then_below hT hB
  clear hB c0 c1 c2 hz
  go_wp2
  go_ret
  exact ⟨rfl, then_below hB0 hT⟩

set_option maxRecDepth 100000 in
set_option maxHeartbeats 4000000 in
theorem runs_one_fits {d0 d1 d2 a m : Int} {k : Fin 3} (ha : 0 ≤ a ∧ a ≤ 255) (hk : a % 3 = axI k) (w : World) {L C : List Int} {B : List Int} (hLl : L.length ≤ 4096) (hCl : C.length ≤ 4096)
    (hB : B = []) (hlt : 1 < dimAt d0 d1 d2 k)
    (HA : ListsW 11 #[A3 d0 d1 d2, I (axI k), I m, I 1, .bool false] [] 0) (HB : ListsW 11 #[A3 d0 d1 d2, I (axI k), I m, I 1, .bool true] B 0)
    (HL : ListsW 18 #[A3 d0 d1 d2, I (axI k), I m] L 0) (HC : ListsW 11 #[A3 d0 d1 d2, I (axI k), I m, I 2, .bool false] C 0)
     :
    Calls Try.prog 7 #[A3 d0 d1 d2, .int .u8 a, I m, I 1] w fun e W' => e = .returned (.bool true) ∧ Below w.heap.size w W' := by
  subst hB
  have KA : Hid (ListsW 11 #[A3 d0 d1 d2, I (axI k), I m, I 1, .bool false] [] 0) := HA
  have KB : Hid (ListsW 11 #[A3 d0 d1 d2, I (axI k), I m, I 1, .bool true] [] 0) := HB
  have KL : Hid (ListsW 18 #[A3 d0 d1 d2, I (axI k), I m] L 0) := HL
  have KC : Hid (ListsW 11 #[A3 d0 d1 d2, I (axI k), I m, I 2, .bool false] C 0) := HC
  have HLl : Hid (L.length ≤ 4096) := hLl
  have HCl : Hid (C.length ≤ 4096) := hCl
  clear HA HB HL HC hLl hCl
  have b0 := Blk.new w 26 #[I d0, I d1, I d2]
  have hB0 := (Below.refl w.heap.size w).alloc (Nat.le_refl _) (.cells #[I d0, I d1, I d2] 26)
  rcases fin3 k with rfl | rfl | rfl
  all_goals
    simp only [axI, dimAt] at *
    go_enter Try.func7, Try.ntmps7
    go_wp2_with fail
    generalize w.alloc (.cells #[I d0, I d1, I d2] 26) = W at *
    refine (alive5_calls _).mono ?_
    rintro x w1 ⟨rfl, hT⟩
    obtain ⟨c0, c1, c2, hz⟩ := b0.three hT
    go_wp2_with fail
    refine (KA.out _).mono ?_
    rintro x w2 ⟨u, rfl, hu, hB⟩
    obtain ⟨aou, capu, rfl, _⟩ := hu.view
    have hT := then_below hT hB
    clear hB c0 c1 c2 hz
    obtain ⟨c0, c1, c2, hz⟩ := b0.three hT
    go_wp2_with fail
    refine (KB.out _).mono ?_
    rintro x w3 ⟨v, rfl, hv, hB⟩
    obtain ⟨aov, capv, rfl, _⟩ := hv.view
    have hu := hu.later hB
    have hT := then_below hT hB
    clear hB c0 c1 c2 hz
    obtain ⟨c0, c1, c2, hz⟩ := b0.three hT
    go_wp2_with fail
    refine (KL.out _).mono ?_
    rintro x w4 ⟨s, rfl, hs, hB⟩
    obtain ⟨aos, caps, rfl, _⟩ := hs.view
    have hu := hu.later hB
    have hv := hv.later hB
    have hT := then_below hT hB
    clear hB c0 c1 c2 hz
    obtain ⟨c0, c1, c2, hz⟩ := b0.three hT
    go_wp2_with fail
    refine (KC.out _).mono ?_
    rintro x w5 ⟨t, rfl, ht, hB⟩
    obtain ⟨aot, capt, rfl, _⟩ := ht.view
    have hu := hu.later hB
    have hv := hv.later hB
    have hs := hs.later hB
    have hT := then_below hT hB
    clear hB c0 c1 c2 hz
    clear KA KB KL KC
    go_wp2
    go_loopw [19] (fun i wr => i = .int .i64 0 ∧ wr = w5) (fun _ _ => 0)
    case atStart => exact ⟨rfl, by trivial⟩
    case round =>
      obtain ⟨rfl, hw⟩ := hrel
      subst hw
      obtain ⟨c0, c1, c2, hz⟩ := b0.three hT
      go_wp2
      go_ret
      refine ⟨?_, then_below hB0 hT⟩
      first
        | rfl
        | (simp; omega)

set_option maxRecDepth 100000 in
set_option maxHeartbeats 4000000 in
theorem runs_one_full {d0 d1 d2 a m : Int} {k : Fin 3} (ha : 0 ≤ a ∧ a ≤ 255) (hk : a % 3 = axI k) (w : World) {L C : List Int} {B : List Int} (hLl : L.length ≤ 4096) (hCl : C.length ≤ 4096)
    (hB : B = []) (hlt : ¬ 1 < dimAt d0 d1 d2 k)
    (HA : ListsW 11 #[A3 d0 d1 d2, I (axI k), I m, I 1, .bool false] [] 0) (HB : ListsW 11 #[A3 d0 d1 d2, I (axI k), I m, I 1, .bool true] B 0)
    (HL : ListsW 18 #[A3 d0 d1 d2, I (axI k), I m] L 0) (HC : ListsW 11 #[A3 d0 d1 d2, I (axI k), I m, I 2, .bool false] C 2)
     :
    Calls Try.prog 7 #[A3 d0 d1 d2, .int .u8 a, I m, I 1] w fun e W' => e = .returned (.bool true) ∧ Below w.heap.size w W' := by
  subst hB
  have KA : Hid (ListsW 11 #[A3 d0 d1 d2, I (axI k), I m, I 1, .bool false] [] 0) := HA
  have KB : Hid (ListsW 11 #[A3 d0 d1 d2, I (axI k), I m, I 1, .bool true] [] 0) := HB
  have KL : Hid (ListsW 18 #[A3 d0 d1 d2, I (axI k), I m] L 0) := HL
  have KC : Hid (ListsW 11 #[A3 d0 d1 d2, I (axI k), I m, I 2, .bool false] C 2) := HC
  have HLl : Hid (L.length ≤ 4096) := hLl
  have HCl : Hid (C.length ≤ 4096) := hCl
  clear HA HB HL HC hLl hCl
  have b0 := Blk.new w 26 #[I d0, I d1, I d2]
  have hB0 := (Below.refl w.heap.size w).alloc (Nat.le_refl _) (.cells #[I d0, I d1, I d2] 26)
  rcases fin3 k with rfl | rfl | rfl
  all_goals
    simp only [axI, dimAt] at *
    go_enter Try.func7, Try.ntmps7
    go_wp2_with fail
    generalize w.alloc (.cells #[I d0, I d1, I d2] 26) = W at *
    refine (alive5_calls _).mono ?_
    rintro x w1 ⟨rfl, hT⟩
    obtain ⟨c0, c1, c2, hz⟩ := b0.three hT
    go_wp2_with fail
    refine (KA.out _).mono ?_
    rintro x w2 ⟨u, rfl, hu, hB⟩
    obtain ⟨aou, capu, rfl, _⟩ := hu.view
    have hT := then_below hT hB
    clear hB c0 c1 c2 hz
    obtain ⟨c0, c1, c2, hz⟩ := b0.three hT
    go_wp2_with fail
    refine (KB.out _).mono ?_
    rintro x w3 ⟨v, rfl, hv, hB⟩
    obtain ⟨aov, capv, rfl, _⟩ := hv.view
    have hu := hu.later hB
    have hT := then_below hT hB
    clear hB c0 c1 c2 hz
    obtain ⟨c0, c1, c2, hz⟩ := b0.three hT
    go_wp2_with fail
    refine (KL.out _).mono ?_
    rintro x w4 ⟨s, rfl, hs, hB⟩
    obtain ⟨aos, caps, rfl, _⟩ := hs.view
    have hu := hu.later hB
    have hv := hv.later hB
    have hT := then_below hT hB
    clear hB c0 c1 c2 hz
    obtain ⟨c0, c1, c2, hz⟩ := b0.three hT
    go_wp2_with fail
    refine (KC.out _).mono ?_
    rintro x w5 ⟨t, rfl, ht, hB⟩
    obtain ⟨aot, capt, rfl, _⟩ := ht.view
    have hu := hu.later hB
    have hv := hv.later hB
    have hs := hs.later hB
    have hT := then_below hT hB
    clear hB c0 c1 c2 hz
    clear KA KB KL KC
    go_wp2
    go_loopw [19] (fun i wr => i = .int .i64 0 ∧ wr = w5) (fun _ _ => 0)
    case atStart => exact ⟨rfl, by trivial⟩
    case round =>
      obtain ⟨rfl, hw⟩ := hrel
      subst hw
      obtain ⟨c0, c1, c2, hz⟩ := b0.three hT
      go_wp2
      go_ret
      refine ⟨?_, then_below hB0 hT⟩
      first
        | rfl
        | (simp; omega)

end Go.Proofs.Ytbbddolalglmnaa
