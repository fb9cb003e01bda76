/-
  What the document's own answer for layer 2 (tidehallref02) gives: Nodes, Meet, Within.
-/
import Derived.Test.YthakcjpipcmogaaRefAll
namespace Go.Proofs.Ythakcjpipcmogaa
open Go.RowKit Go.Shelf

attribute [local go_sem] Oper.semAt_some ext_const

theorem getD_at {l : List Int} {k : Nat} (h : k < l.length) : l.getD k 0 = l[k] := by simp [h]
theorem nodesB_mem {d0 d1 d2 : Int} (hm : mayD d0 d1 d2) {b : Bx} {m : Int} : m ∈ nodesB d0 d1 d2 b ↔ (0 ≤ m ∧ m < d0 * d1 * d2) ∧ hasB d0 d1 d2 b m = true := by
  have := N_bd hm
  simp only [nodesB, nodesTo, List.mem_map, List.mem_filter, List.mem_range]
  constructor
  · rintro ⟨j, ⟨h1, h2⟩, rfl⟩
    exact ⟨⟨by omega, by omega⟩, h2⟩
  · rintro ⟨⟨h1, h2⟩, h3⟩
    exact ⟨m.toNat, ⟨by omega, by rw [Int.toNat_of_nonneg h1]; exact h3⟩, Int.toNat_of_nonneg h1⟩
theorem nodesB_get {d0 d1 d2 : Int} (hm : mayD d0 d1 d2) {b : Bx} {k : Nat} (hk : k < (nodesB d0 d1 d2 b).length) : (0 ≤ (nodesB d0 d1 d2 b).getD k 0 ∧ (nodesB d0 d1 d2 b).getD k 0 < d0 * d1 * d2) ∧ hasB d0 d1 d2 b ((nodesB d0 d1 d2 b).getD k 0) = true :=
  (nodesB_mem hm).1 (by rw [getD_at hk]; exact List.getElem_mem hk)
theorem meetB_list {d0 d1 d2 : Int} (hm : mayD d0 d1 d2) {a b : Bx} (ha : mayB d0 d1 d2 a) (hb : mayB d0 d1 d2 b) {k : Nat} (hk : (nodesB d0 d1 d2 a).length ≤ k) (h : ∀ j, j < k → hasB d0 d1 d2 b ((nodesB d0 d1 d2 a).getD j 0) = false) : meetB d0 d1 d2 a b = false := by
  rw [← Bool.not_eq_true, meetB_iff hm ha hb]
  rintro ⟨m, h1, h2, h3⟩
  obtain ⟨j, hj, he⟩ := List.getElem_of_mem ((nodesB_mem hm).2 ⟨h1, h2⟩)
  have := h j (by omega)
  rw [getD_at hj, he, h3] at this
  cases this
theorem meetB_some {d0 d1 d2 : Int} (hm : mayD d0 d1 d2) {a b : Bx} (ha : mayB d0 d1 d2 a) (hb : mayB d0 d1 d2 b) {k : Nat} (hk : k < (nodesB d0 d1 d2 a).length) (h : hasB d0 d1 d2 b ((nodesB d0 d1 d2 a).getD k 0) = true) : meetB d0 d1 d2 a b = true :=
  (meetB_iff hm ha hb).2 ⟨_, (nodesB_get hm hk).1, (nodesB_get hm hk).2, h⟩
theorem inB_list {d0 d1 d2 : Int} (hm : mayD d0 d1 d2) {a b : Bx} (ha : mayB d0 d1 d2 a) (hb : mayB d0 d1 d2 b) {k : Nat} (hk : (nodesB d0 d1 d2 a).length ≤ k) (h : ∀ j, j < k → j < (nodesB d0 d1 d2 a).length → hasB d0 d1 d2 b ((nodesB d0 d1 d2 a).getD j 0) = true) : inB d0 d1 d2 a b = true := by
  rw [inB_iff hm ha hb]
  intro m h1 h2
  obtain ⟨j, hj, he⟩ := List.getElem_of_mem ((nodesB_mem hm).2 ⟨h1, h2⟩)
  have := h j (by omega) hj
  rwa [getD_at hj, he] at this
theorem inB_some {d0 d1 d2 : Int} (hm : mayD d0 d1 d2) {a b : Bx} (ha : mayB d0 d1 d2 a) (hb : mayB d0 d1 d2 b) {k : Nat} (hk : k < (nodesB d0 d1 d2 a).length) (h : hasB d0 d1 d2 b ((nodesB d0 d1 d2 a).getD k 0) = false) : inB d0 d1 d2 a b = false := by
  rw [← Bool.not_eq_true, inB_iff hm ha hb]
  intro hall
  have := hall _ (nodesB_get hm hk).1 (nodesB_get hm hk).2
  rw [h] at this
  cases this

set_option maxHeartbeats 1000000 in
theorem rnodes_err {d0 d1 d2 : Int} {b : Bx} (w : World) (he : (errB d0 d1 d2 b != 0) = true) :
    Calls Try.prog 22 #[A3 d0 d1 d2, B6 b] w fun e W' => e = .returned (.tuple #[.slice none 0 0, I (errB d0 d1 d2 b)]) ∧ Below w.heap.size w W' := by
  go_enter Try.func22, Try.ntmps22
  go_wp2_with fail
  obtain ⟨W, hW, hB0, b0, b1⟩ := two_start w #[I d0, I d1, I d2] (C6 b) 28 24
  rw [hW]
  clear hW
  refine (rcheckb_calls d0 d1 d2 b _).mono ?_
  rintro e w1 ⟨rfl, hT⟩
  go_wp2
  go_ret2
  exact ⟨rfl, then_below hB0 hT⟩
set_option maxHeartbeats 1000000 in
theorem rnodes_ok {d0 d1 d2 : Int} {b : Bx} (w : World) (hm : mayD d0 d1 d2) (hb : mayB d0 d1 d2 b) :
    Calls Try.prog 22 #[A3 d0 d1 d2, B6 b] w fun e W' => ∃ v, e = .returned (.tuple #[v, I 0]) ∧ Lst W' w.heap.size v (nodesB d0 d1 d2 b) ∧ Below w.heap.size w W' := by
  have H0 : Hid (errB d0 d1 d2 b = 0) := errB_ok hm hb
  go_enter Try.func22, Try.ntmps22
  go_wp2_with fail
  obtain ⟨W, hW, hB0, b0, b1⟩ := two_start w #[I d0, I d1, I d2] (C6 b) 28 24
  rw [hW]
  clear hW
  refine (rcheckb_calls d0 d1 d2 b _).mono ?_
  rintro e w1 ⟨rfl, hT⟩
  rw [H0.out]
  obtain ⟨c0, c1, c2, hz⟩ := b0.three hT
  obtain ⟨⟨k0, k1, k2⟩, ⟨k3, k4, k5⟩, hz1⟩ := b1.six hT
  go_wp2_with fail
  refine (rall_calls _ hm hb).mono ?_
  rintro e w2 ⟨v, rfl, hl, hB2⟩
  have hl := hl.weak (then_below hB0 hT).size
  go_wp2
  go_ret2
  exact ⟨_, rfl, hl, then_below hB0 (then_below hT hB2)⟩

set_option maxHeartbeats 1000000 in
theorem rmeet_err {d0 d1 d2 : Int} {a b : Bx} (w : World) (he : (errB2 d0 d1 d2 a b != 0) = true) :
    Calls Try.prog 25 #[A3 d0 d1 d2, B6 a, B6 b] w fun e W' => e = .returned (.tuple #[.bool false, I (errB2 d0 d1 d2 a b)]) ∧ Below w.heap.size w W' := by
  go_enter Try.func25, Try.ntmps25
  go_wp2_with fail
  obtain ⟨W, hW, hs, hB0, b0, b1, b2⟩ := three_start w #[I d0, I d1, I d2] (C6 a) (C6 b) 28 24 24
  rw [hW]
  clear hW
  refine (rboth_calls d0 d1 d2 a b _).mono ?_
  rintro e w1 ⟨rfl, hB⟩
  go_wp2
  go_ret2
  exact ⟨rfl, then_below hB0 hB⟩

set_option maxRecDepth 100000 in
set_option maxHeartbeats 2000000 in
theorem rmeet_ok {d0 d1 d2 : Int} {a b : Bx} (w : World) (hm : mayD d0 d1 d2) (ha : mayB d0 d1 d2 a) (hb : mayB d0 d1 d2 b) :
    Calls Try.prog 25 #[A3 d0 d1 d2, B6 a, B6 b] w fun e W' => e = .returned (.tuple #[.bool (meetB d0 d1 d2 a b), I 0]) ∧ Below w.heap.size w W' := by
  have hmx : Try.prog.follows .mixedOrders = true := by kernel_rfl
  have H0 : Hid (errB2 d0 d1 d2 a b = 0) := errB2_ok hm ha hb
  have HL : Hid (∀ w : World, Calls Try.prog 43 #[A3 d0 d1 d2, B6 a] w fun e W' => ∃ v, e = .returned v ∧ Lst W' w.heap.size v (nodesB d0 d1 d2 a) ∧ Below w.heap.size w W') := fun w => rall_calls w hm ha
  have HG : Hid (∀ (k : Nat), k < (nodesB d0 d1 d2 a).length → ∀ w : World, Calls Try.prog 40 #[A3 d0 d1 d2, B6 b, I ((nodesB d0 d1 d2 a).getD k 0)] w fun e W' => e = .returned (.bool (hasB d0 d1 d2 b ((nodesB d0 d1 d2 a).getD k 0))) ∧ Below w.heap.size w W') :=
    fun k hk w => rin_calls w hm hb (nodesB_get hm hk).1
  have HS : Hid (∀ k : Nat, k < (nodesB d0 d1 d2 a).length → hasB d0 d1 d2 b ((nodesB d0 d1 d2 a).getD k 0) = true → meetB d0 d1 d2 a b = true) := fun k hk h => meetB_some hm ha hb hk h
  have HE0 : Hid (∀ k : Nat, (nodesB d0 d1 d2 a).length ≤ k → (∀ j, j < k → hasB d0 d1 d2 b ((nodesB d0 d1 d2 a).getD j 0) = false) → meetB d0 d1 d2 a b = false) := fun k hk h => meetB_list hm ha hb hk h
  have hlen := nodesB_len hm a
  generalize nodesB d0 d1 d2 a = L at HL HG HS HE0 hlen
  generalize meetB d0 d1 d2 a b = ans at HS HE0 ⊢
  go_enter Try.func25, Try.ntmps25
  go_wp2_with fail
  obtain ⟨W, hW, hs, hB0, b0, b1, b2⟩ := three_start w #[I d0, I d1, I d2] (C6 a) (C6 b) 28 24 24
  rw [hW]
  clear hW
  refine (rboth_calls d0 d1 d2 a b _).mono ?_
  rintro e w1 ⟨rfl, hT⟩
  rw [H0.out]
  obtain ⟨c0, c1, c2, hz⟩ := b0.three hT
  obtain ⟨⟨k0, k1, k2⟩, ⟨k3, k4, k5⟩, hz1⟩ := b1.six hT
  go_wp2_with fail
  refine (HL.out _).mono ?_
  rintro e w2 ⟨v, rfl, hl, hB2⟩
  have hT := then_below hT hB2
  obtain ⟨ao, cap, rfl, hA⟩ := hl.view
  have HA : Hid (∀ k : Nat, k < L.length → ∃ g cur, ao = some ⟨g, 0, none⟩ ∧ Blk w2 g 3 cur ∧ cur[k]? = some (I (L.getD k 0))) := hA
  clear hl hA c0 c1 c2 hz k0 k1 k2 k3 k4 k5 hz1
  have q0 := b0.later hT
  have q2 := b2.later hT
  have hB0 := then_below hB0 hT
  clear b0 b1 b2 hT hB2
  go_wp2_with fail
  go_loopw [10] (fun i wr => ∃ k : Nat, k ≤ L.length ∧ i = .int .i64 k ∧ Hid (∀ j, j < k → hasB d0 d1 d2 b (L.getD j 0) = false) ∧ Below w2.heap.size w2 wr) (fun i _ => L.length - (intOf i).toNat)
  case atStart => exact ⟨0, by omega, rfl, (by intro j hj; omega : ∀ j, j < 0 → hasB d0 d1 d2 b (L.getD j 0) = false), Below.refl _ _⟩
  case round =>
    obtain ⟨k, hk, rfl, HT, hT⟩ := hrel
    by_cases hlt : (k : Int) < (L.length : Int)
    · have hkx : k < L.length := by omega
      obtain ⟨g, cur, rfl, hg, hc⟩ := HA.out k hkx
      have e0 := Ext.cell (hg.later hT) k
      rw [hc] at e0
      have x0 := Ext.cell (q0.later hT) 0
      have x1 := Ext.cell (q0.later hT) 1
      have x2 := Ext.cell (q0.later hT) 2
      have y0 := Ext.cell (q2.later hT) 0
      have y1 := Ext.cell (q2.later hT) 1
      have y2 := Ext.cell (q2.later hT) 2
      have y3 := Ext.cell (q2.later hT) 3
      have y4 := Ext.cell (q2.later hT) 4
      have y5 := Ext.cell (q2.later hT) 5
      simp at x0 x1 x2 y0 y1 y2 y3 y4 y5
      have HC : Hid (∀ w : World, Calls Try.prog 40 #[A3 d0 d1 d2, B6 b, I (L.getD k 0)] w fun e W' => e = .returned (.bool (hasB d0 d1 d2 b (L.getD k 0))) ∧ Below w.heap.size w W') := HG.out k hkx
      have HE : Hid (hasB d0 d1 d2 b (L.getD k 0) = false → ∀ j, j < k + 1 → hasB d0 d1 d2 b (L.getD j 0) = false) := fun h j hj => by rcases Nat.lt_succ_iff_lt_or_eq.1 hj with h1 | rfl; exact HT.out j h1; exact h
      have HD : Hid (hasB d0 d1 d2 b (L.getD k 0) = true → ans = true) := HS.out k hkx
      clear hg hc
      generalize hasB d0 d1 d2 b (L.getD k 0) = is at HC HE HD
      generalize L.getD k 0 = x at e0 HC
      cases is
      · go_wp2
        refine wp_region_look hmx (by kernel_rfl) ?_
        repeat (go_big_quiet_step ((go_at_call 40; exact calls_ext (HC.out _))))
        refine wpQuiet_nil ?_
        intro v
        go_wp2
        go_roundw
        case rel => exact ⟨k + 1, by omega, by go_num, HE.out (by trivial), then_below hT v.le⟩
        case measure => simp [intOf]; omega
      · go_wp2
        refine wp_region_look hmx (by kernel_rfl) ?_
        repeat (go_big_quiet_step ((go_at_call 40; exact calls_ext (HC.out _))))
        refine wpQuiet_nil ?_
        intro v
        go_wp2
        rw [HD.out (by trivial)]
        go_ret2
        exact ⟨rfl, then_below hB0 (then_below hT v.le)⟩
    · have E : ans = false := HE0.out k (by omega) HT.out
      subst E
      go_wp2
      go_ret2
      exact ⟨rfl, then_below hB0 hT⟩

set_option maxHeartbeats 1000000 in
theorem rwithin_err {d0 d1 d2 : Int} {a b : Bx} (w : World) (he : (errB2 d0 d1 d2 a b != 0) = true) :
    Calls Try.prog 26 #[A3 d0 d1 d2, B6 a, B6 b] w fun e W' => e = .returned (.tuple #[.bool false, I (errB2 d0 d1 d2 a b)]) ∧ Below w.heap.size w W' := by
  go_enter Try.func26, Try.ntmps26
  go_wp2_with fail
  obtain ⟨W, hW, hs, hB0, b0, b1, b2⟩ := three_start w #[I d0, I d1, I d2] (C6 a) (C6 b) 28 24 24
  rw [hW]
  clear hW
  refine (rboth_calls d0 d1 d2 a b _).mono ?_
  rintro e w1 ⟨rfl, hB⟩
  go_wp2
  go_ret2
  exact ⟨rfl, then_below hB0 hB⟩

set_option maxRecDepth 100000 in
set_option maxHeartbeats 2000000 in
theorem rwithin_ok {d0 d1 d2 : Int} {a b : Bx} (w : World) (hm : mayD d0 d1 d2) (ha : mayB d0 d1 d2 a) (hb : mayB d0 d1 d2 b) :
    Calls Try.prog 26 #[A3 d0 d1 d2, B6 a, B6 b] w fun e W' => e = .returned (.tuple #[.bool (inB d0 d1 d2 a b), I 0]) ∧ Below w.heap.size w W' := by
  have hmx : Try.prog.follows .mixedOrders = true := by kernel_rfl
  have H0 : Hid (errB2 d0 d1 d2 a b = 0) := errB2_ok hm ha hb
  have HL : Hid (∀ w : World, Calls Try.prog 43 #[A3 d0 d1 d2, B6 a] w fun e W' => ∃ v, e = .returned v ∧ Lst W' w.heap.size v (nodesB d0 d1 d2 a) ∧ Below w.heap.size w W') := fun w => rall_calls w hm ha
  have HG : Hid (∀ (k : Nat), k < (nodesB d0 d1 d2 a).length → ∀ w : World, Calls Try.prog 40 #[A3 d0 d1 d2, B6 b, I ((nodesB d0 d1 d2 a).getD k 0)] w fun e W' => e = .returned (.bool (hasB d0 d1 d2 b ((nodesB d0 d1 d2 a).getD k 0))) ∧ Below w.heap.size w W') :=
    fun k hk w => rin_calls w hm hb (nodesB_get hm hk).1
  have HS : Hid (∀ k : Nat, k < (nodesB d0 d1 d2 a).length → hasB d0 d1 d2 b ((nodesB d0 d1 d2 a).getD k 0) = false → inB d0 d1 d2 a b = false) := fun k hk h => inB_some hm ha hb hk h
  have HE0 : Hid (∀ k : Nat, (nodesB d0 d1 d2 a).length ≤ k → (∀ j, j < k → j < (nodesB d0 d1 d2 a).length → hasB d0 d1 d2 b ((nodesB d0 d1 d2 a).getD j 0) = true) → inB d0 d1 d2 a b = true) := fun k hk h => inB_list hm ha hb hk h
  have hlen := nodesB_len hm a
  generalize nodesB d0 d1 d2 a = L at HL HG HS HE0 hlen
  generalize inB d0 d1 d2 a b = ans at HS HE0 ⊢
  go_enter Try.func26, Try.ntmps26
  go_wp2_with fail
  obtain ⟨W, hW, hs, hB0, b0, b1, b2⟩ := three_start w #[I d0, I d1, I d2] (C6 a) (C6 b) 28 24 24
  rw [hW]
  clear hW
  refine (rboth_calls d0 d1 d2 a b _).mono ?_
  rintro e w1 ⟨rfl, hT⟩
  rw [H0.out]
  obtain ⟨c0, c1, c2, hz⟩ := b0.three hT
  obtain ⟨⟨k0, k1, k2⟩, ⟨k3, k4, k5⟩, hz1⟩ := b1.six hT
  go_wp2_with fail
  refine (HL.out _).mono ?_
  rintro e w2 ⟨v, rfl, hl, hB2⟩
  have hT := then_below hT hB2
  obtain ⟨ao, cap, rfl, hA⟩ := hl.view
  have HA : Hid (∀ k : Nat, k < L.length → ∃ g cur, ao = some ⟨g, 0, none⟩ ∧ Blk w2 g 3 cur ∧ cur[k]? = some (I (L.getD k 0))) := hA
  clear hl hA c0 c1 c2 hz k0 k1 k2 k3 k4 k5 hz1
  have q0 := b0.later hT
  have q2 := b2.later hT
  have hB0 := then_below hB0 hT
  clear b0 b1 b2 hT hB2
  go_wp2_with fail
  go_loopw [10] (fun i wr => ∃ k : Nat, k ≤ L.length ∧ i = .int .i64 k ∧ Hid (∀ j, j < k → j < L.length → hasB d0 d1 d2 b (L.getD j 0) = true) ∧ Below w2.heap.size w2 wr) (fun i _ => L.length - (intOf i).toNat)
  case atStart => exact ⟨0, by omega, rfl, (by intro j hj; omega : ∀ j, j < 0 → j < L.length → hasB d0 d1 d2 b (L.getD j 0) = true), Below.refl _ _⟩
  case round =>
    obtain ⟨k, hk, rfl, HT, hT⟩ := hrel
    by_cases hlt : (k : Int) < (L.length : Int)
    · have hkx : k < L.length := by omega
      obtain ⟨g, cur, rfl, hg, hc⟩ := HA.out k hkx
      have e0 := Ext.cell (hg.later hT) k
      rw [hc] at e0
      have x0 := Ext.cell (q0.later hT) 0
      have x1 := Ext.cell (q0.later hT) 1
      have x2 := Ext.cell (q0.later hT) 2
      have y0 := Ext.cell (q2.later hT) 0
      have y1 := Ext.cell (q2.later hT) 1
      have y2 := Ext.cell (q2.later hT) 2
      have y3 := Ext.cell (q2.later hT) 3
      have y4 := Ext.cell (q2.later hT) 4
      have y5 := Ext.cell (q2.later hT) 5
      simp at x0 x1 x2 y0 y1 y2 y3 y4 y5
      have HC : Hid (∀ w : World, Calls Try.prog 40 #[A3 d0 d1 d2, B6 b, I (L.getD k 0)] w fun e W' => e = .returned (.bool (hasB d0 d1 d2 b (L.getD k 0))) ∧ Below w.heap.size w W') := HG.out k hkx
      have HE : Hid (hasB d0 d1 d2 b (L.getD k 0) = true → ∀ j, j < k + 1 → j < L.length → hasB d0 d1 d2 b (L.getD j 0) = true) := fun h j hj hl => by rcases Nat.lt_succ_iff_lt_or_eq.1 hj with h1 | rfl; exact HT.out j h1 hl; exact h
      have HD : Hid (hasB d0 d1 d2 b (L.getD k 0) = false → ans = false) := HS.out k hkx
      clear hg hc
      generalize hasB d0 d1 d2 b (L.getD k 0) = is at HC HE HD
      generalize L.getD k 0 = x at e0 HC
      cases is
      · go_wp2
        refine wp_region_look hmx (by kernel_rfl) ?_
        repeat (go_big_quiet_step ((go_at_call 40; exact calls_ext (HC.out _))))
        refine wpQuiet_nil ?_
        intro v
        go_wp2
        rw [HD.out (by trivial)]
        go_ret2
        exact ⟨rfl, then_below hB0 (then_below hT v.le)⟩
      · go_wp2
        refine wp_region_look hmx (by kernel_rfl) ?_
        repeat (go_big_quiet_step ((go_at_call 40; exact calls_ext (HC.out _))))
        refine wpQuiet_nil ?_
        intro v
        go_wp2
        go_roundw
        case rel => exact ⟨k + 1, by omega, by go_num, HE.out (by trivial), then_below hT v.le⟩
        case measure => simp [intOf]; omega
    · have E : ans = true := HE0.out k (by omega) HT.out
      subst E
      go_wp2
      go_ret2
      exact ⟨rfl, then_below hB0 hT⟩

end Go.Proofs.Ythakcjpipcmogaa
