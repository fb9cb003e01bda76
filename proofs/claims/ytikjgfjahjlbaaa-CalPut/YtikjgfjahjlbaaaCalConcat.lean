/-
  slices.Grow and slices.Concat over slots: what each call answers.
-/
import Derived.Test.YtikjgfjahjlbaaaCalOwn
import Derived.Lib.AppendZeros
namespace Go.Proofs.Ytikjgfjahjlbaaa
open Go Go.RowKit Go.Shelf

attribute [local go_sem] Oper.semAt_some ext_const

theorem zeroCells_size (n : Nat) : (Builtin.zeroCells (V3 0 0 0).cells n).size = n * 3 := by
  unfold Builtin.zeroCells
  simp
  rfl

/-- 'append(nil, make([]api.Slot, n)...)'. -/
theorem wpList_growS {ops : Array Oper} {rest : List Oper} {o : Oper} {a : Act} {Q : Exit → Act → World → Prop} {W : World} (hgd : o.guard = none) (s x : Operand)
    (ho : o.op = .call { callee := .builtin .append, args := #[s, x], argTypes := #[25, 3] }) (n : Nat) (hs : a.eval s = .slice none 0 0) (hx : a.eval x = .int .i64 n) (h0 : 0 < n) (h1 : n ≤ 100000)
    (h : ∀ cap w', n ≤ cap → So w' W.heap.size (.slice (some ⟨W.heap.size, 0, none⟩) 0 cap) [] → Below W.heap.size W w' → wpList Try.prog ops Q rest (a.put o.dst (.slice (some ⟨W.heap.size, 0, none⟩) n cap)) w') : wpList Try.prog ops Q (o :: rest) a W := by
  obtain ⟨i0, hi, hz0, hz1, hz2⟩ := info_parts info_s
  refine Lib.wpList_append_run W hgd s x 25 3 ho _ _ hs hx _ _ (Lib.run_append_nil_zeros W 25 3 o.type 36 i0 _ .i64 .i64 Try.underlying25 Try.underlying3 hi hz0 n h0 (by rw [hz1]; omega) (by omega) (by rw [hz2]; omega)) ?_
  have hge := grownCap_ge W n 0 36
  have hle := grownCap_le_maxLen W n 0 36 (by unfold maxLen; omega)
  generalize grownCap W n 0 36 = cap at *
  refine h cap _ hge ?_ ?_
  · refine ⟨rfl, .inr ⟨W.heap.size, cap, _, rfl, Nat.le_refl _, World.alloc_heap_new W.drew _, Nat.zero_le _, hle, ?_, by simp [flatS]⟩⟩
    rw [Array.size_append, zeroCells_size, zeroCells_size]
    omega
  · exact (Below.refl _ W).drew.alloc (Nat.le_refl _) _

theorem grow_calls {n : Nat} (w : World) (h0 : 0 < n) (h1 : n ≤ 100000) :
    Calls Try.prog 49 #[.slice none 0 0, I n] w fun e W' => ∃ u, e = .returned u ∧ So W' w.heap.size u [] ∧ Below w.heap.size w W' := by
  have hp : (0 : Int) < (n : Int) := by omega
  have hp1 : decide ((n : Int) < 0) = false := decide_eq_false (by omega)
  go_enter Try.func49, Try.ntmps49
  go_wp2_with (first
    | (at_builtin; refine wpList_growS rfl _ _ rfl n rfl rfl h0 h1 ?_; intro cap w1 hc hO hB)
    | go_in)
  go_ret
  exact ⟨_, rfl, hO, hB⟩

set_option maxRecDepth 100000 in
set_option maxHeartbeats 8000000 in
theorem concat_calls {w : World} {g n1 n2 n3 c1 c2 c3 : Nat} {a1 a2 a3 : Option Addr} {xs1 xs2 xs3 : List Slt} (hK : Blk w g 25 #[.slice a1 n1 c1, .slice a2 n2 c2, .slice a3 n3 c3])
    (h1 : Ss w (.slice a1 n1 c1) xs1) (h2 : Ss w (.slice a2 n2 c2) xs2) (h3 : Ss w (.slice a3 n3 c3) xs3) (hp : 0 < n1 + n2 + n3) (hn : n1 + n2 + n3 ≤ 100000) :
    Calls Try.prog 35 #[.slice (some ⟨g, 0, none⟩) 3 3] w fun e W' => ∃ u, e = .returned u ∧ So W' w.heap.size u (xs1 ++ xs2 ++ xs3) ∧ Below w.heap.size w W' := by
  have L1 : xs1.length = n1 := by obtain ⟨_, _, e, _⟩ := h1; simp only [Value.slice.injEq] at e; exact e.2.1.symm
  have L2 : xs2.length = n2 := by obtain ⟨_, _, e, _⟩ := h2; simp only [Value.slice.injEq] at e; exact e.2.1.symm
  have L3 : xs3.length = n3 := by obtain ⟨_, _, e, _⟩ := h3; simp only [Value.slice.injEq] at e; exact e.2.1.symm
  have HL : Hid (xs1.length = n1 ∧ xs2.length = n2 ∧ xs3.length = n3) := ⟨L1, L2, L3⟩
  have H1 : Hid (Ss w (.slice a1 n1 c1) xs1) := h1
  have H2 : Hid (Ss w (.slice a2 n2 c2) xs2) := h2
  have H3 : Hid (Ss w (.slice a3 n3 c3) xs3) := h3
  have HG : Hid (∀ w, Calls Try.prog 49 #[.slice none 0 0, I ((n1 : Int) + (n2 : Int) + (n3 : Int))] w fun e W' => ∃ u, e = .returned u ∧ So W' w.heap.size u [] ∧ Below w.heap.size w W') := fun w => by
    have := grow_calls (n := n1 + n2 + n3) w hp hn
    rwa [show (((n1 + n2 + n3 : Nat)) : Int) = (n1 : Int) + (n2 : Int) + (n3 : Int) by omega] at this
  clear L1 L2 L3 h1 h2 h3
  have hg := hK.lt
  have HK : Hid (Blk w g 25 #[.slice a1 n1 c1, .slice a2 n2 c2, .slice a3 n3 c3]) := hK
  have k0 : w.cell? ⟨g, 0, none⟩ = some (.slice a1 n1 c1) := hK.cell 0
  have k1 : w.cell? ⟨g, 1, none⟩ = some (.slice a2 n2 c2) := hK.cell 1
  have k2 : w.cell? ⟨g, 2, none⟩ = some (.slice a3 n3 c3) := hK.cell 2
  clear hK
  obtain ⟨tgt, htgt⟩ : ∃ tgt, tgt = xs1 ++ xs2 ++ xs3 := ⟨_, rfl⟩
  have HTG : Hid (tgt = xs1 ++ xs2 ++ xs3) := htgt
  rw [← htgt]
  clear htgt
  have d1 : decide ((n1 : Int) < 0) = false := decide_eq_false (by omega)
  have d2 : decide ((n1 : Int) + (n2 : Int) < 0) = false := decide_eq_false (by omega)
  have d3 : decide ((n1 : Int) + (n2 : Int) + (n3 : Int) < 0) = false := decide_eq_false (by omega)
  go_enter Try.func35, Try.ntmps35
  go_wp2
  go_loopw [3, 11] (fun s i wr => ((i = .int .i64 0 ∧ s = I 0) ∨ (i = .int .i64 1 ∧ s = I n1) ∨ (i = .int .i64 2 ∧ s = I ((n1 : Int) + (n2 : Int))) ∨ (i = .int .i64 3 ∧ s = I ((n1 : Int) + (n2 : Int) + (n3 : Int)))) ∧ wr = w) (fun _ i _ => 3 - (intOf i).toNat)
  case atStart => exact ⟨.inl ⟨rfl, rfl⟩, rfl⟩
  case round =>
    obtain ⟨hi, hwr⟩ := hrel
    obtain rfl := hwr.symm
    rcases hi with ⟨rfl, rfl⟩ | ⟨rfl, rfl⟩ | ⟨rfl, rfl⟩ | ⟨rfl, rfl⟩
    · go_wp2
      go_roundw
      case rel => exact ⟨.inr (.inl ⟨rfl, by go_num⟩), by trivial⟩
      case measure => simp [intOf]
    · go_wp2
      go_roundw
      case rel => exact ⟨.inr (.inr (.inl ⟨rfl, by go_num⟩)), by trivial⟩
      case measure => simp [intOf]
    · go_wp2
      go_roundw
      case rel => exact ⟨.inr (.inr (.inr ⟨rfl, by go_num⟩)), by trivial⟩
      case measure => simp [intOf]
    · go_wp2_with fail
      refine (HG.out _).mono ?_
      rintro e w1 ⟨u, rfl, hO, hB1⟩
      obtain ⟨ao, cap, rfl, _⟩ := hO.ss.form
      have HO : Hid (So w1 w.heap.size (.slice ao 0 cap) []) := hO
      clear hO k0 k1 k2 hg
      go_wp2
      go_loopw [6, 27] (fun u i w2 => ∃ (ao' : Option Addr) (n' cap' : Nat) (ys : List Slt), u = .slice ao' n' cap' ∧ Hid (So w2 w.heap.size (.slice ao' n' cap') ys) ∧ ((i = .int .i64 0 ∧ Hid (ys = [])) ∨ (i = .int .i64 1 ∧ Hid (ys = xs1)) ∨ (i = .int .i64 2 ∧ Hid (ys = xs1 ++ xs2)) ∨ (i = .int .i64 3 ∧ Hid (ys = xs1 ++ xs2 ++ xs3))) ∧ Below w.heap.size w w2) (fun _ i _ => 3 - (intOf i).toNat)
      case atStart => exact ⟨_, _, _, [], rfl, HO, .inl ⟨rfl, rfl⟩, hB1⟩
      case round =>
        obtain ⟨ao', n', cap', ys, rfl, HY, hi, hT⟩ := hrel
        have hKl := HK.out.later hT
        have k0 := hKl.cell 0
        have k1 := hKl.cell 1
        have k2 := hKl.cell 2
        have hg := hKl.lt
        clear hKl
        have hsz := hT.size
        rcases hi with ⟨rfl, HE⟩ | ⟨rfl, HE⟩ | ⟨rfl, HE⟩ | ⟨rfl, HE⟩
        · have hS := H1.out.later hT
          have hle : ys.length + xs1.length ≤ 100000 := by rw [HE.out, HL.out.1]; simp; omega
          have HE2 : Hid (ys ++ xs1 = xs1) := by show _ = _; rw [HE.out]; simp
          go_wp2_with (first
            | (at_builtin; refine wpList_catS (base := w.heap.size) (xs := ys) (ys := xs1) rfl _ _ rfl rfl rfl HY.out hS hle hsz ?_; intro ao4 n4 cap4 w4 hW4 hB4)
            | go_in)
          go_roundw
          case rel => exact ⟨_, _, _, _, rfl, hW4, .inr (.inl ⟨rfl, HE2⟩), hT.trans hB4⟩
          case measure => simp [intOf]
        · have hS := H2.out.later hT
          have hle : ys.length + xs2.length ≤ 100000 := by rw [HE.out, HL.out.1, HL.out.2.1]; omega
          have HE2 : Hid (ys ++ xs2 = xs1 ++ xs2) := by show _ = _; rw [HE.out]
          go_wp2_with (first
            | (at_builtin; refine wpList_catS (base := w.heap.size) (xs := ys) (ys := xs2) rfl _ _ rfl rfl rfl HY.out hS hle hsz ?_; intro ao4 n4 cap4 w4 hW4 hB4)
            | go_in)
          go_roundw
          case rel => exact ⟨_, _, _, _, rfl, hW4, .inr (.inr (.inl ⟨rfl, HE2⟩)), hT.trans hB4⟩
          case measure => simp [intOf]
        · have hS := H3.out.later hT
          have hle : ys.length + xs3.length ≤ 100000 := by rw [HE.out, List.length_append, HL.out.1, HL.out.2.1, HL.out.2.2]; omega
          have HE2 : Hid (ys ++ xs3 = xs1 ++ xs2 ++ xs3) := by show _ = _; rw [HE.out]
          go_wp2_with (first
            | (at_builtin; refine wpList_catS (base := w.heap.size) (xs := ys) (ys := xs3) rfl _ _ rfl rfl rfl HY.out hS hle hsz ?_; intro ao4 n4 cap4 w4 hW4 hB4)
            | go_in)
          go_roundw
          case rel => exact ⟨_, _, _, _, rfl, hW4, .inr (.inr (.inr ⟨rfl, HE2⟩)), hT.trans hB4⟩
          case measure => simp [intOf]
        · have hE : tgt = ys := HTG.out.trans HE.out.symm
          subst hE
          go_wp2
          go_ret
          exact ⟨_, rfl, HY.out, hT⟩

end Go.Proofs.Ytikjgfjahjlbaaa
