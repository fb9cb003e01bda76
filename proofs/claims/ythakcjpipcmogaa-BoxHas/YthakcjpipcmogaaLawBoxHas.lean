/-
  tidehalllaw02.BoxHas returns true, whatever it is handed; nothing that lay before is turned.
-/
import Derived.Test.YthakcjpipcmogaaLawBox
import Derived.Test.YthakcjpipcmogaaLawBoxTells
namespace Go.Proofs.Ythakcjpipcmogaa
open Go.RowKit Go.Shelf

attribute [local go_sem] Oper.semAt_some ext_const eq_arr

/-- How many coordinates a side has below n. -/
theorem coordsTo_count {r b s : Int} (h : mayS r b s) : ∀ n : Nat, (n : Int) ≤ r → ((coordsTo r b s n).length : Int) = if b + s ≤ r then min (n : Int) (b + s) - min (n : Int) b else min (n : Int) (b + s - r) + max 0 ((n : Int) - b) := by
  obtain ⟨⟨h1, h2⟩, h3, h4⟩ := h
  intro n
  induction n with
  | zero => intro _; simp [coordsTo]; split <;> omega
  | succ n ih =>
    intro hn
    have ih := ih (by omega)
    cases hq : hasS r b s n
    · rw [coordsTo_no hq, ih]
      simp only [hasS, decide_eq_false_iff_not] at hq
      unfold aft at hq
      split <;> split at hq <;> omega
    · rw [coordsTo_yes hq, List.length_append, Int.natCast_add, ih]
      simp only [hasS, decide_eq_true_eq] at hq
      unfold aft at hq
      simp only [List.length_cons, List.length_nil]
      split <;> split at hq <;> omega
theorem coordsS_count {r b s : Int} (h : mayS r b s) : ((coordsS r b s).length : Int) = s := by
  have h' := h
  obtain ⟨⟨h1, h2⟩, h3, h4⟩ := h'
  have := coordsTo_count h r.toNat (by omega)
  unfold coordsS
  rw [this]
  split <;> omega
theorem flat_len {f : Int → List Int} {c : Nat} : ∀ {l : List Int}, (∀ a, (f a).length = c) → (l.flatMap f).length = l.length * c
  | [], _ => by simp
  | a :: l, h => by
    rw [List.flatMap_cons, List.length_append, h a, flat_len h, List.length_cons, Nat.succ_mul]
    omega
theorem nodesB_count {d0 d1 d2 : Int} {b : Bx} (hm : mayD d0 d1 d2) (hb : mayB d0 d1 d2 b) : ((nodesB d0 d1 d2 b).length : Int) = manyB b := by
  rw [← nodesB_flat hm, flat_len (c := (coordsS d1 b.y b.b).length * (coordsS d0 b.x b.a).length)]
  · rw [Int.natCast_mul, Int.natCast_mul, coordsS_count hb.1, coordsS_count hb.2.1, coordsS_count hb.2.2]
    unfold manyB
    rw [Int.mul_comm b.c, Int.mul_comm b.b]
  · intro z
    rw [flat_len (c := (coordsS d0 b.x b.a).length)]
    intro y
    simp

theorem nodesTo_prefix (d0 d1 d2 : Int) (b : Bx) {m n : Nat} (h : m ≤ n) : nodesTo d0 d1 d2 b m <+: nodesTo d0 d1 d2 b n := by
  induction n with
  | zero => rw [Nat.le_zero.1 h]; exact List.prefix_rfl
  | succ n ih =>
    rcases Nat.lt_or_eq_of_le h with h | rfl
    · refine (ih (by omega)).trans ?_
      cases hq : hasB d0 d1 d2 b n
      · rw [nodesTo_no hq]; exact List.prefix_rfl
      · rw [nodesTo_yes hq]; exact List.prefix_append _ _
    · exact List.prefix_rfl
theorem nodes_at {d0 d1 d2 : Int} {b : Bx} {m : Nat} (hn : m < (d0 * d1 * d2).toNat) (h : hasB d0 d1 d2 b m = true) :
    (nodesTo d0 d1 d2 b m).length < (nodesB d0 d1 d2 b).length ∧ (nodesB d0 d1 d2 b).getD (nodesTo d0 d1 d2 b m).length 0 = m := by
  have hp := nodesTo_prefix d0 d1 d2 b (show m + 1 ≤ (d0 * d1 * d2).toNat by omega)
  rw [nodesTo_yes h] at hp
  obtain ⟨t, ht⟩ := hp
  unfold nodesB
  rw [← ht]
  constructor
  · simp
  · simp

set_option maxRecDepth 100000 in
set_option maxHeartbeats 2000000 in
theorem boxHas_err {d0 d1 d2 : Int} {b : Bx} (w : World) (he : (errB d0 d1 d2 b != 0) = true) :
    Calls Try.prog 6 #[A3 d0 d1 d2, B6 b] w fun e W' => e = .returned (.bool true) ∧ Below w.heap.size w W' := by
  go_enter Try.func6, Try.ntmps6
  go_wp2_with fail
  obtain ⟨W, hW, hB0, b0, b1⟩ := two_start w #[I d0, I d1, I d2] (C6 b) 28 24
  rw [hW]
  clear hW
  refine (alive2_calls _).mono ?_
  rintro e w1 ⟨rfl, hT⟩
  obtain ⟨c0, c1, c2, hz⟩ := b0.three hT
  obtain ⟨⟨k0, k1, k2⟩, ⟨k3, k4, k5⟩, hz1⟩ := b1.six hT
  go_wp2_with fail
  refine (bnodes_err _ he).mono ?_
  rintro e w2 ⟨rfl, hB⟩
  have hT := then_below hT hB
  clear hB c0 c1 c2 hz k0 k1 k2 k3 k4 k5 hz1
  obtain ⟨c0, c1, c2, hz⟩ := b0.three hT
  obtain ⟨⟨k0, k1, k2⟩, ⟨k3, k4, k5⟩, hz1⟩ := b1.six hT
  go_wp2_with fail
  refine (bMany_err _ he).mono ?_
  rintro e w3 ⟨rfl, hB⟩
  have hT := then_below hT hB
  clear hB c0 c1 c2 hz k0 k1 k2 k3 k4 k5 hz1
  obtain ⟨c0, c1, c2, hz⟩ := b0.three hT
  obtain ⟨⟨k0, k1, k2⟩, ⟨k3, k4, k5⟩, hz1⟩ := b1.six hT
  go_wp2_with fail
  refine (bcheck_calls d0 d1 d2 b _).mono ?_
  rintro e w4 ⟨rfl, hB⟩
  have hT := then_below hT hB
  go_wp2
  go_ret
  exact ⟨rfl, then_below hB0 hT⟩

set_option maxRecDepth 100000 in
set_option maxHeartbeats 4000000 in
theorem boxHas_ok {d0 d1 d2 : Int} {b : Bx} (w : World) (hm : mayD d0 d1 d2) (hb : mayB d0 d1 d2 b) :
    Calls Try.prog 6 #[A3 d0 d1 d2, B6 b] w fun e W' => e = .returned (.bool true) ∧ Below w.heap.size w W' := by
  have NB : Hid (Lists 21 #[A3 d0 d1 d2, B6 b] (nodesB d0 d1 d2 b) 0) := fun w => (bnodes_ok w hm hb).mono fun _ _ ⟨v, h1, h2, h3⟩ => ⟨v, h1, h2.weak (Nat.zero_le _), h3⟩
  have KM : Hid (∀ w : World, Calls Try.prog 17 #[A3 d0 d1 d2, B6 b] w fun e W' => e = .returned (.tuple #[I (nodesB d0 d1 d2 b).length, I 0]) ∧ Below w.heap.size w W') := fun w => by
    rw [nodesB_count hm hb]; exact bMany_ok w hm hb
  have hbd := N_bd hm
  have hm' := hm
  obtain ⟨⟨g0, g1⟩, ⟨g2, g3⟩, g4, g5⟩ := hm'
  have hp1 : 0 ≤ d0 * d1 ∧ d0 * d1 ≤ 16 * 16 := mul_bd (by omega) g1 (by omega) g3
  obtain ⟨hp10, hp11⟩ := hp1
  obtain ⟨hbd1, hbd2⟩ := hbd
  have KH : Hid (∀ (w : World) (m : Int), 0 ≤ m → m < d0 * d1 * d2 → Calls Try.prog 19 #[A3 d0 d1 d2, B6 b, I m] w fun e W' => e = .returned (.tuple #[.bool (hasB d0 d1 d2 b m), I 0]) ∧ Below w.heap.size w W') := fun w m h0 h1 => bhas_ok w hm hb ⟨h0, h1⟩
  have KY : Hid (∀ m : Nat, (m : Int) < d0 * d1 * d2 → hasB d0 d1 d2 b m = true → (nodesTo d0 d1 d2 b m).length < (nodesB d0 d1 d2 b).length ∧ (nodesB d0 d1 d2 b).getD (nodesTo d0 d1 d2 b m).length 0 = m) := fun m h0 h1 => nodes_at (by omega) h1
  have KN : Hid (∀ (m : Nat) (k : Nat), hasB d0 d1 d2 b m = false → k < (nodesB d0 d1 d2 b).length → (nodesB d0 d1 d2 b).getD k 0 ≠ m) := fun m k h0 h1 h2 => by
    have := (nodesB_get hm h1).2
    rw [h2, h0] at this
    cases this
  have KE : Hid (∀ m : Nat, (m : Int) = d0 * d1 * d2 → (nodesTo d0 d1 d2 b m).length = (nodesB d0 d1 d2 b).length) := fun m h => by
    unfold nodesB
    rw [← h]; simp
  have hL : (nodesB d0 d1 d2 b).length ≤ 4096 := nodesB_len hm b
  generalize nodesB d0 d1 d2 b = L at NB KM KY KN KE hL
  go_enter Try.func6, Try.ntmps6
  go_wp2_with fail
  obtain ⟨W, hW, hB0, b0, b1⟩ := two_start w #[I d0, I d1, I d2] (C6 b) 28 24
  rw [hW]
  clear hW
  refine (alive2_calls _).mono ?_
  rintro e w1 ⟨rfl, hT⟩
  obtain ⟨c0, c1, c2, hz⟩ := b0.three hT
  obtain ⟨⟨k0, k1, k2⟩, ⟨k3, k4, k5⟩, hz1⟩ := b1.six hT
  go_wp2_with fail
  refine (NB.out _).mono ?_
  rintro e w2 ⟨v, rfl, hl, hB⟩
  have hT := then_below hT hB
  clear hB c0 c1 c2 hz k0 k1 k2 k3 k4 k5 hz1
  obtain ⟨c0, c1, c2, hz⟩ := b0.three hT
  obtain ⟨⟨k0, k1, k2⟩, ⟨k3, k4, k5⟩, hz1⟩ := b1.six hT
  go_wp2_with fail
  refine (KM.out _).mono ?_
  rintro e w3 ⟨rfl, hB⟩
  have hT := then_below hT hB
  have hl := hl.later hB
  clear hB c0 c1 c2 hz k0 k1 k2 k3 k4 k5 hz1
  obtain ⟨ao, cap, rfl, hA⟩ := hl.view
  have HA : Hid (∀ k : Nat, k < L.length → ∃ g cur, ao = some ⟨g, 0, none⟩ ∧ Blk w3 g 3 cur ∧ cur[k]? = some (I (L.getD k 0))) := hA
  clear hl hA
  have b0 := b0.later hT
  have b1 := b1.later hT
  have hB0 := then_below hB0 hT
  clear hT
  go_wp2_with fail
  go_loopw [10, 11] (fun k i wr => ∃ m : Nat, (m : Int) ≤ d0 * d1 * d2 ∧ i = .int .i64 m ∧ k = .int .i64 (nodesTo d0 d1 d2 b m).length ∧ Below w3.heap.size w3 wr) (fun _ i _ => (d0 * d1 * d2).toNat - (intOf i).toNat)
  case atStart => exact ⟨0, by omega, rfl, rfl, Below.refl _ _⟩
  case round =>
    obtain ⟨m, hmm, rfl, rfl, hT⟩ := hrel
    obtain ⟨c0, c1, c2, hz⟩ := b0.three hT
    by_cases hlt : (m : Int) < d0 * d1 * d2
    · have hkl := nodesTo_len d0 d1 d2 b m
      obtain ⟨⟨k0, k1, k2⟩, ⟨k3, k4, k5⟩, hz1⟩ := b1.six hT
      go_wp2_with fail
      refine (KH.out _ m (by omega) hlt).mono ?_
      rintro e w4 ⟨rfl, hB⟩
      have hT := then_below hT hB
      clear hB c0 c1 c2 hz k0 k1 k2 k3 k4 k5 hz1
      cases hq : hasB d0 d1 d2 b m
      · have HS : Hid (nodesTo d0 d1 d2 b (m + 1) = nodesTo d0 d1 d2 b m) := nodesTo_no hq
        have HN : Hid (∀ k : Nat, k < L.length → L.getD k 0 ≠ m) := fun k hk => KN.out m k hq hk
        generalize hK : (nodesTo d0 d1 d2 b m).length = K at hkl ⊢
        have HK : Hid ((nodesTo d0 d1 d2 b m).length = K) := hK
        clear hK
        by_cases hkk : (K : Int) < (L.length : Int)
        · obtain ⟨g, cur, rfl, hg, hc⟩ := HA.out K (by omega)
          have e0 := (hg.later hT).cell K
          rw [hc] at e0
          have hne : (L.getD K 0 == (m : Int)) = false := by
            rw [beq_eq_false_iff_ne]; exact HN.out K (by omega)
          clear hg hc
          generalize L.getD K 0 = x at e0 hne
          go_wp2
          go_roundw
          case rel => exact ⟨m + 1, by omega, by go_num, by rw [HS.out, HK.out], hT⟩
          case measure => simp [intOf]; omega
        · go_wp2
          go_roundw
          case rel => exact ⟨m + 1, by omega, by go_num, by rw [HS.out, HK.out], hT⟩
          case measure => simp [intOf]; omega
      · have HS : Hid ((nodesTo d0 d1 d2 b (m + 1)).length = (nodesTo d0 d1 d2 b m).length + 1) := by
          show _ = _
          rw [nodesTo_yes hq]; simp
        obtain ⟨hy1, hy2⟩ := KY.out m hlt hq
        generalize hK : (nodesTo d0 d1 d2 b m).length = K at hkl hy1 hy2 HS ⊢
        clear hK
        have hkk : (K : Int) < (L.length : Int) := by omega
        obtain ⟨g, cur, rfl, hg, hc⟩ := HA.out K (by omega)
        have e0 := (hg.later hT).cell K
        rw [hc, hy2] at e0
        clear hg hc hy2
        go_wp2
        go_roundw
        case rel => exact ⟨m + 1, by omega, by go_num, by rw [HS.out]; go_num, hT⟩
        case measure => simp [intOf]; omega
    · have E := KE.out m (by omega)
      rw [E]
      clear E
      go_wp2
      go_ret
      exact ⟨by simp, then_below hB0 hT⟩

theorem boxHas_walk (d0 d1 d2 : Int) (b : Bx) (w : World) :
    Calls Try.prog 6 #[A3 d0 d1 d2, B6 b] w fun e W' => e = .returned (.bool true) ∧ Below w.heap.size w W' := by
  by_cases h : mayD d0 d1 d2 ∧ mayB d0 d1 d2 b
  · exact boxHas_ok w h.1 h.2
  · exact boxHas_err w (errB_ne h)

end Go.Proofs.Ythakcjpipcmogaa
