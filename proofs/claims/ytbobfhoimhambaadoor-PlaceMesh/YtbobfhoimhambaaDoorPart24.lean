/-
  The statement PlaceMesh, walked.
-/
import Derived.Test.YtbobfhoimhambaaDoorPart23
import Derived.Test.YtbobfhoimhambaaDoorPart16
import Derived.Test.YtbobfhoimhambaaDoorPart1
import Derived.Test.YtbobfhoimhambaaDoorRows
import Derived.ProofKit
import Derived.OpenShut
import Derived.ChangeOld
import Derived.Below
import Derived.Laws.IdiomArrays
import Derived.Test.YtbobfhoimhambaaDoorPart17
import Derived.ChangeSame
import Derived.ChangeArms
import Derived.Test.YtbobfhoimhambaaDoorPart12
import Derived.LaidMore
import Derived.Stop.Joined
import Derived.Lib.LaidTab
import Derived.SevenTiedAt
namespace Go.Proofs.YtbobfhoimhambaaDoor
open Go Go.RowKit Go.Shelf

attribute [local go_sem] Oper.semAt_some ext_const

set_option maxRecDepth 100000 in
set_option maxHeartbeats 8000000 in
theorem placeMesh_err {d0 d1 d2 : Int} {b : Bx} (t0 t1 t2 : Bool) (w : World) (he : (errP d0 d1 d2 b t0 t1 t2 != 0) = true) :
    Calls Tryd.prog 5 #[A3 d0 d1 d2, P9 b t0 t1 t2] w fun e W' => e = .returned (.bool true) ∧ Below w.heap.size w W' := by
  have HS : Hid (∀ w, Calls Tryd.prog 14 #[A3 d0 d1 d2, P9 b t0 t1 t2] w fun e W' => e = .returned (.tuple #[.slice none 0 0, .slice none 0 0, I (errP d0 d1 d2 b t0 t1 t2)]) ∧ Below w.heap.size w W') := fun w => sets_err t0 t1 t2 w he
  generalize errP d0 d1 d2 b t0 t1 t2 = er at *
  go_enter Tryd.func5, Tryd.ntmps5
  go_wp2_with fail
  obtain ⟨W, hW, hB0, b0, b1⟩ := two_start w #[I d0, I d1, I d2] (C9 b t0 t1 t2) 27 33
  rw [hW]
  clear hW
  refine (aliveP_calls _).mono ?_
  rintro e w1 ⟨rfl, hT⟩
  obtain ⟨c0, c1, c2, hz⟩ := b0.three hT
  obtain ⟨⟨x0, x1, x2⟩, ⟨x3, x4, x5⟩, ⟨x6, x7, x8⟩, hz1⟩ := b1.nine hT
  go_wp2_with fail
  refine (HS.out _).mono ?_
  rintro e w2 ⟨rfl, hT2⟩
  go_wp2
  go_ret
  exact ⟨rfl, then_below hB0 (then_below hT hT2)⟩

/-- What each operation of the statement that asks for a cable's ends keeps. -/
def wordE (d0 d1 d2 n x y z : Int) (ao : Option Addr) (len cap : Nat) (j : Int) (g off : Nat) (i : Nat) (v : Value) (_w : World) : Prop :=
  match i with
  | 0 => v = A3 d0 d1 d2
  | 1 => v = .slice ao len cap
  | 2 => v = I j
  | 3 => v = .pointer (some ⟨g, off, none⟩)
  | 4 => v = I n
  | 5 => v = .tuple #[I x, I y, I z, I 0]
  | 6 => v = .tuple #[I x, I y, I z, I 0]
  | 7 => v = I x
  | 8 => v = I y
  | 9 => v = I z
  | 10 => v = I 0
  | 11 => v = I x
  | 12 => v = I y
  | 13 => v = I z
  | 14 => v = I 0
  | _ => False
theorem wordE_later {d0 d1 d2 n x y z : Int} {ao : Option Addr} {len cap : Nat} {j : Int} {g off : Nat} (i : Nat) (v : Value) (w w' : World) (h : wordE d0 d1 d2 n x y z ao len cap j g off i v w) (_hB : Below w.heap.size w w') : wordE d0 d1 d2 n x y z ao len cap j g off i v w' := by
  match i, h with
  | 0, h => exact h
  | 1, h => exact h
  | 2, h => exact h
  | 3, h => exact h
  | 4, h => exact h
  | 5, h => exact h
  | 6, h => exact h
  | 7, h => exact h
  | 8, h => exact h
  | 9, h => exact h
  | 10, h => exact h
  | 11, h => exact h
  | 12, h => exact h
  | 13, h => exact h
  | 14, h => exact h
  | n + 15, h => exact h.elim

set_option maxRecDepth 100000 in
set_option maxHeartbeats 8000000 in
theorem placeMesh_ok {d0 d1 d2 : Int} {b : Bx} {t0 t1 t2 : Bool} (w : World) (hTab : TabOk w) (hm : mayD d0 d1 d2) (hp : mayP d0 d1 d2 b t0 t1 t2) :
    Calls Tryd.prog 5 #[A3 d0 d1 d2, P9 b t0 t1 t2] w fun e W' => e = .returned (.bool true) ∧ Below w.heap.size w W' := by
  have hmx : Tryd.prog.follows .mixedOrders = true := by kernel_rfl
  have hN := N_bd hm
  have hq := mesh_may hp
  have HS : Hid (∀ w, Calls Tryd.prog 14 #[A3 d0 d1 d2, P9 b t0 t1 t2] w fun e W' => ∃ u v, e = .returned (.tuple #[u, v, I 0]) ∧ SetR W' w.heap.size u (midW d0 d1 d2 b) ∧ SetR W' w.heap.size v (cabsW d0 d1 d2 b t0 t1 t2) ∧ Below w.heap.size w W') := fun w => sets_ok w hm hp
  have HQ : Hid (∀ w, Calls Tryd.prog 14 #[A3 d0 d1 d2, P9 b false false false] w fun e W' => ∃ u v, e = .returned (.tuple #[u, v, I 0]) ∧ SetR W' w.heap.size u (midW d0 d1 d2 b) ∧ SetR W' w.heap.size v (cabsW d0 d1 d2 b false false false) ∧ Below w.heap.size w W') := fun w => sets_ok w hm hq
  have HP : Hid (∀ w, TabOk w → Calls Tryd.prog 7 #[A3 d0 d1 d2, P9 b false false false] w fun e W' => ∃ v, e = .returned (.tuple #[v, I 0]) ∧ Lst W' w.heap.size v [] ∧ Below w.heap.size w W') := fun w ht => by
    have := passes_ok w ht hm hq
    rwa [mesh_pass hm hq.1] at this
  have HM : Hid (∀ w, Calls Tryd.prog 15 #[A3 d0 d1 d2] w fun e W' => e = .returned (.tuple #[I (d0 * d1 * d2), I 0]) ∧ Below w.heap.size w W') := fun w => many_yes w hm
  have HI : Hid (∀ w u v b1 b2, SetR w b1 u (cabsW d0 d1 d2 b false false false) → SetR w b2 v (cabsW d0 d1 d2 b t0 t1 t2) → Calls Tryd.prog 18 #[I (3 * (d0 * d1 * d2)), u, v] w fun e W' => e = .returned (.tuple #[.bool true, I 0]) ∧ Below w.heap.size w W') := fun w u v b1 b2 hu hv => by
    have := in_calls w hu.wds hv.wds (3 * (d0 * d1 * d2))
    rw [mesh_within hm hp.1] at this
    rw [show errAll (3 * (d0 * d1 * d2)) [cabsW d0 d1 d2 b false false false, cabsW d0 d1 d2 b t0 t1 t2] = 0 from errAll_both (setOf_err (by omega) (by omega) _) (setOf_err (by omega) (by omega) _)] at this
    exact this
  have HL2 : Hid (∀ w u b1, TabOk w → SetR w b1 u (cabsW d0 d1 d2 b false false false) → Calls Tryd.prog 17 #[I (3 * (d0 * d1 * d2)), u] w fun e W' => ∃ v, e = .returned (.tuple #[v, I 0]) ∧ Lst W' w.heap.size v (listR (3 * (d0 * d1 * d2)) (cabsW d0 d1 d2 b false false false)) ∧ Below w.heap.size w W') := fun w u b1 ht hu => by
    have := list_calls w ht hu.wds (3 * (d0 * d1 * d2))
    rw [show errAll (3 * (d0 * d1 * d2)) [cabsW d0 d1 d2 b false false false] = 0 from setOf_err (by omega) (by omega) _] at this
    exact this
  have HSm : Hid (∀ w u v b1 b2, SetR w b1 u (midW d0 d1 d2 b) → SetR w b2 v (midW d0 d1 d2 b) → Calls Tryd.prog 19 #[u, v] w fun e W' => e = .returned (.bool true) ∧ Below w.heap.size w W') := fun w u v b1 b2 hu hv => by
    have := sameS_calls w hu.wds hv.wds (by unfold midW; rw [setOf_len]; omega)
    rwa [decide_eq_true rfl] at this
  have HE : Hid (∀ n ∈ listR (3 * (d0 * d1 * d2)) (cabsW d0 d1 d2 b false false false), ∃ x y z, (∀ w, Calls Tryd.prog 20 #[A3 d0 d1 d2, I n] w fun e W' => e = .returned (.tuple #[I x, I y, I z, I 0]) ∧ Below w.heap.size w W') ∧
      (∀ w u b1, SetR w b1 u (midW d0 d1 d2 b) → Calls Tryd.prog 21 #[I (d0 * d1 * d2), u, I y] w fun e W' => e = .returned (.tuple #[.bool true, I 0]) ∧ Below w.heap.size w W') ∧
      (∀ w u b1, SetR w b1 u (midW d0 d1 d2 b) → Calls Tryd.prog 21 #[I (d0 * d1 * d2), u, I z] w fun e W' => e = .returned (.tuple #[.bool true, I 0]) ∧ Below w.heap.size w W')) := fun n hn => by
    obtain ⟨k, o, ho, hw, rfl, h1, h2⟩ := mesh_cab hm hq hn
    have he : errAll (d0 * d1 * d2) [midW d0 d1 d2 b] = 0 := setOf_err (by omega) (by omega) _
    refine ⟨axI k, o, onD d0 d1 d2 o k 1, fun w => ends_yes w hm ho k hw, fun w u b1 hu => ?_, fun w u b1 hu => ?_⟩
    · have := hasSet_calls w hu.wds (d0 * d1 * d2) o
      rwa [h1, he] at this
    · have := hasSet_calls w hu.wds (d0 * d1 * d2) (onD d0 d1 d2 o k 1)
      rwa [h2, he] at this
  have hYl : (listR (3 * (d0 * d1 * d2)) (cabsW d0 d1 d2 b false false false)).length ≤ 12288 := by
    unfold cabsW
    rw [setOf_list (by omega) (by omega), ofN_len]
    have := List.length_filter_le (fun j : Nat => cabB d0 d1 d2 b false false false (j : Int)) (List.range (3 * (d0 * d1 * d2)).toNat)
    rw [List.length_range] at this
    omega
  clear hm hp hq
  generalize listR (3 * (d0 * d1 * d2)) (cabsW d0 d1 d2 b false false false) = Y at *
  generalize cabsW d0 d1 d2 b t0 t1 t2 = S2 at *
  generalize cabsW d0 d1 d2 b false false false = S3 at *
  generalize midW d0 d1 d2 b = S1 at *
  generalize d0 * d1 * d2 = N at *
  go_enter Tryd.func5, Tryd.ntmps5
  go_wp2_with fail
  obtain ⟨W, hW, hB0, b0, b1⟩ := two_start w #[I d0, I d1, I d2] (C9 b t0 t1 t2) 27 33
  rw [hW]
  clear hW
  refine (aliveP_calls _).mono ?_
  rintro e w1 ⟨rfl, hT⟩
  obtain ⟨c0, c1, c2, hz⟩ := b0.three hT
  obtain ⟨⟨x0, x1, x2⟩, ⟨x3, x4, x5⟩, ⟨x6, x7, x8⟩, hz1⟩ := b1.nine hT
  go_wp2_with fail
  refine (HS.out _).mono ?_
  rintro e w2 ⟨u, v, rfl, hu, hv, hT2⟩
  have hT := then_below hT hT2
  clear hT2 c0 c1 c2 hz x0 x1 x2 x3 x4 x5 x6 x7 x8 hz1
  obtain ⟨c0, c1, c2, hz⟩ := b0.three hT
  obtain ⟨⟨x0, x1, x2⟩, ⟨x3, x4, x5⟩, ⟨x6, x7, x8⟩, hz1⟩ := b1.nine hT
  go_wp2_with fail
  have hT3 := (Below.refl w2.heap.size w2).alloc (Nat.le_refl _) (.cells (C9 b false false false) 33)
  have b2 := Blk.new w2 33 (C9 b false false false)
  have hu := hu.later hT3
  have hv := hv.later hT3
  have hT := then_below hT hT3
  clear hT3 c0 c1 c2 hz x0 x1 x2 x3 x4 x5 x6 x7 x8 hz1
  generalize hW3 : w2.alloc (.cells (C9 b false false false) 33) = w3 at *
  clear hW3
  refine (HQ.out _).mono ?_
  rintro e w4 ⟨u2, v2, rfl, hu2, hv2, hT2⟩
  have hu := hu.later hT2
  have hv := hv.later hT2
  have b2 := b2.later hT2
  have hT := then_below hT hT2
  clear hT2
  obtain ⟨c0, c1, c2, hz⟩ := b0.three hT
  obtain ⟨⟨x0, x1, x2⟩, ⟨x3, x4, x5⟩, ⟨x6, x7, x8⟩, hz1⟩ := b2.nine (Below.refl _ _)
  go_wp2_with fail
  refine (HP.out _ (hTab.later (then_below hB0 hT))).mono ?_
  rintro e w5 ⟨l, rfl, hl, hT2⟩
  have hu := hu.later hT2
  have hv := hv.later hT2
  have hu2 := hu2.later hT2
  have hv2 := hv2.later hT2
  have hT := then_below hT hT2
  obtain ⟨al, cl, el, hvl⟩ := hl.view
  subst el
  clear hT2 c0 c1 c2 hz x0 x1 x2 x3 x4 x5 x6 x7 x8 hz1 hvl hl b2
  obtain ⟨c0, c1, c2, hz⟩ := b0.three hT
  go_wp2_with fail
  refine (HM.out _).mono ?_
  rintro e w6 ⟨rfl, hT2⟩
  have hu := hu.later hT2
  have hv := hv.later hT2
  have hu2 := hu2.later hT2
  have hv2 := hv2.later hT2
  have hT := then_below hT hT2
  clear hT2 c0 c1 c2 hz
  go_wp2_with fail
  refine (HI.out _ _ _ _ _ hv2 hv).mono ?_
  rintro e w7 ⟨rfl, hT2⟩
  have hu := hu.later hT2
  have hu2 := hu2.later hT2
  have hv2 := hv2.later hT2
  have hT := then_below hT hT2
  clear hT2 hv
  go_wp2_with fail
  refine (HL2.out _ _ _ (hTab.later (then_below hB0 hT)) hv2).mono ?_
  rintro e w8 ⟨l2, rfl, hl2, hT2⟩
  have hu := hu.later hT2
  have hu2 := hu2.later hT2
  have hT := then_below hT hT2
  obtain ⟨aY, cY, eY, hvw⟩ := hl2.view
  subst eY
  have HV : Hid (∀ k : Nat, k < Y.length → ∃ g cur, aY = some ⟨g, 0, none⟩ ∧ Blk w8 g 3 cur ∧ cur[k]? = some (I (Y.getD k 0))) := hvw
  clear hT2 hv2 hl2 hvw
  go_wp2_with fail
  refine (HSm.out _ _ _ _ _ hu hu2).mono ?_
  rintro e w9 ⟨rfl, hT2⟩
  have hu := hu.later hT2
  have hT := then_below hT hT2
  have HV : Hid (∀ k : Nat, k < Y.length → ∃ g cur, aY = some ⟨g, 0, none⟩ ∧ Blk w9 g 3 cur ∧ cur[k]? = some (I (Y.getD k 0))) := fun k hk => by
    obtain ⟨g, cur, e, h1, h2⟩ := HV.out k hk
    exact ⟨g, cur, e, h1.later hT2, h2⟩
  have hB := then_below hB0 hT
  have q0 := b0.later hT
  clear hT2 hu2 hT hB0 b0 b1
  go_wp2_with fail
  go_loopw [21] (fun i wr => ∃ j : Nat, j ≤ Y.length ∧ i = .int .i64 j ∧ Below w9.heap.size w9 wr) (fun i _ => Y.length - (intOf i).toNat)
  case atStart => exact ⟨0, by omega, rfl, Below.refl _ _⟩
  case round =>
    obtain ⟨j, hj, rfl, hT⟩ := hrel
    have gD := q0.later hT
    by_cases hlt : (j : Int) < (Y.length : Int)
    · have hjl : j < Y.length := by omega
      obtain ⟨g, cur, rfl, hg, hc⟩ := HV.out j hjl
      have gg := hg.later hT
      have hin : Y.getD j 0 ∈ Y := by
        rw [List.getD_eq_getElem?_getD, List.getElem?_eq_getElem hjl]
        exact List.getElem_mem hjl
      obtain ⟨x, y, z, HEn, HA1, HA2⟩ := HE.out _ hin
      have hur := hu.later hT
      clear hin hg
      generalize Y.getD j 0 = n at *
      go_wp2_with fail
      refine wp_region_loud (w0 := wr) (wordE d0 d1 d2 n x y z (some ⟨g, 0, none⟩) Y.length cY j g j) hmx (by kernel_rfl) wordE_later ?_ ?_
      · intro i o hi a w' hTT hL hpre
        have s2 : a.tmps.getD 2 undef = .pointer (some ⟨w.heap.size, 0, none⟩) := by
          rw [Array.getD_eq_getD_getElem?, hL.out 2 (of_decide_eq_true (by kernel_rfl))]; rfl
        have s19 : a.tmps.getD 19 undef = .slice (some ⟨g, 0, none⟩) Y.length cY := by
          rw [Array.getD_eq_getD_getElem?, hL.out 19 (of_decide_eq_true (by kernel_rfl))]; rfl
        have s21 : a.tmps.getD 21 undef = I (j : Int) := by
          rw [Array.getD_eq_getD_getElem?, hL.out 21 (of_decide_eq_true (by kernel_rfl))]; rfl
        obtain ⟨c0, c1, c2, hz⟩ := gD.three hTT
        have cj := (gg.later hTT).cell j
        rw [hc] at cj
        clear hL
        match i, hi with
        | 0, hi =>
          obtain rfl := Option.some.inj hi
          refine .inl ⟨A3 d0 d1 d2, ?_, rfl⟩
          simp [execOp, go_sem, Act.eval, s2, c0, c1, c2]
        | 1, hi =>
          obtain rfl := Option.some.inj hi
          refine .inl ⟨_, ?_, rfl⟩
          simp [execOp, go_sem, Act.eval, s19]
        | 2, hi =>
          obtain rfl := Option.some.inj hi
          refine .inl ⟨_, ?_, rfl⟩
          simp [execOp, go_sem, Act.eval, s21]
        | 3, hi =>
          obtain rfl := Option.some.inj hi
          have p0 : a.tmps.getD 118 undef = .slice (some ⟨g, 0, none⟩) Y.length cY := hpre ⟨1, .data⟩ (by simp) rfl
          have p1 : a.tmps.getD 119 undef = I (j : Int) := hpre ⟨2, .data⟩ (by simp) rfl
          refine .inl ⟨.pointer (some ⟨g, j, none⟩), ?_, rfl⟩
          simp [execOp, go_sem, Act.eval, p0, p1, hjl]
        | 4, hi =>
          obtain rfl := Option.some.inj hi
          have p0 : a.tmps.getD 120 undef = .pointer (some ⟨g, j, none⟩) := hpre ⟨3, .data⟩ (by simp) rfl
          refine .inl ⟨I n, ?_, rfl⟩
          simp [execOp, go_sem, Act.eval, p0, cj]
        | 5, hi =>
          obtain rfl := Option.some.inj hi
          have p0 : a.tmps.getD 117 undef = A3 d0 d1 d2 := hpre ⟨0, .data⟩ (by simp) rfl
          have p1 : a.tmps.getD 121 undef = I n := hpre ⟨4, .data⟩ (by simp) rfl
          refine .inr ⟨20, #[A3 d0 d1 d2, I n], ?_, ?_⟩
          · simp [go_sem, Act.eval, p0, p1]
          · refine (HEn w').mono ?_
            rintro e w'' ⟨rfl, hB⟩
            exact ⟨_, rfl, hB, rfl⟩
        | 6, hi =>
          obtain rfl := Option.some.inj hi
          have p0 : a.tmps.getD 122 undef = .tuple #[I x, I y, I z, I 0] := hpre ⟨5, .data⟩ (by simp) rfl
          refine .inl ⟨_, ?_, rfl⟩
          simp [execOp, go_sem, Act.eval, p0]
        | 7, hi =>
          obtain rfl := Option.some.inj hi
          have p0 : a.tmps.getD 116 undef = .tuple #[I x, I y, I z, I 0] := hpre ⟨6, .data⟩ (by simp) rfl
          refine .inl ⟨I x, ?_, rfl⟩
          simp [execOp, go_sem, Act.eval, p0]
        | 8, hi =>
          obtain rfl := Option.some.inj hi
          have p0 : a.tmps.getD 116 undef = .tuple #[I x, I y, I z, I 0] := hpre ⟨6, .data⟩ (by simp) rfl
          refine .inl ⟨I y, ?_, rfl⟩
          simp [execOp, go_sem, Act.eval, p0]
        | 9, hi =>
          obtain rfl := Option.some.inj hi
          have p0 : a.tmps.getD 116 undef = .tuple #[I x, I y, I z, I 0] := hpre ⟨6, .data⟩ (by simp) rfl
          refine .inl ⟨I z, ?_, rfl⟩
          simp [execOp, go_sem, Act.eval, p0]
        | 10, hi =>
          obtain rfl := Option.some.inj hi
          have p0 : a.tmps.getD 116 undef = .tuple #[I x, I y, I z, I 0] := hpre ⟨6, .data⟩ (by simp) rfl
          refine .inl ⟨I 0, ?_, rfl⟩
          simp [execOp, go_sem, Act.eval, p0]
        | 11, hi =>
          obtain rfl := Option.some.inj hi
          have p0 : a.tmps.getD 123 undef = I x := hpre ⟨7, .data⟩ (by simp) rfl
          refine .inl ⟨I x, ?_, rfl⟩
          simp [execOp, go_sem, Act.eval, p0]
        | 12, hi =>
          obtain rfl := Option.some.inj hi
          have p0 : a.tmps.getD 124 undef = I y := hpre ⟨8, .data⟩ (by simp) rfl
          refine .inl ⟨I y, ?_, rfl⟩
          simp [execOp, go_sem, Act.eval, p0]
        | 13, hi =>
          obtain rfl := Option.some.inj hi
          have p0 : a.tmps.getD 125 undef = I z := hpre ⟨9, .data⟩ (by simp) rfl
          refine .inl ⟨I z, ?_, rfl⟩
          simp [execOp, go_sem, Act.eval, p0]
        | 14, hi =>
          obtain rfl := Option.some.inj hi
          have p0 : a.tmps.getD 126 undef = I 0 := hpre ⟨10, .data⟩ (by simp) rfl
          refine .inl ⟨I 0, ?_, rfl⟩
          simp [execOp, go_sem, Act.eval, p0]
        | n + 15, hi => simp at hi
      · intro vs w10 hT10 hall
        have h11 : vs 11 = I x := hall 11 (of_decide_eq_true (by kernel_rfl))
        have h12 : vs 12 = I y := hall 12 (of_decide_eq_true (by kernel_rfl))
        have h13 : vs 13 = I z := hall 13 (of_decide_eq_true (by kernel_rfl))
        have h14 : vs 14 = I 0 := hall 14 (of_decide_eq_true (by kernel_rfl))
        clear hall
        simp only [List.length_cons, List.length_nil, Nat.zero_add, Nat.reduceAdd, List.range, List.range.loop, List.foldl_cons, List.foldl_nil, dstOf, List.getElem?_cons_zero, List.getElem?_cons_succ, Option.getD_some, Act.put, h11, h12, h13, h14, List.setIfInBounds_toArray, List.set_cons_succ, List.set_cons_zero]
        clear h11 h12 h13 h14
        generalize vs 0 = y0
        generalize vs 1 = y1
        generalize vs 2 = y2
        generalize vs 3 = y3
        generalize vs 4 = y4
        generalize vs 5 = y5
        generalize vs 6 = y6
        generalize vs 7 = y7
        generalize vs 8 = y8
        generalize vs 9 = y9
        generalize vs 10 = y10
        clear vs
        have hur := hur.later hT10
        have hT := then_below hT hT10
        clear hT10 gD gg hc
        go_wp2_with fail
        refine (HA1 _ _ _ hur).mono ?_
        rintro e w11 ⟨rfl, hT11⟩
        have hur := hur.later hT11
        have hT := then_below hT hT11
        clear hT11
        go_wp2_with fail
        refine (HA2 _ _ _ hur).mono ?_
        rintro e w12 ⟨rfl, hT11⟩
        have hT := then_below hT hT11
        clear hT11 hur
        go_wp2
        go_roundw
        case rel => exact ⟨j + 1, by omega, by go_num, hT⟩
        case measure => simp [intOf]; omega
    · go_wp2
      go_ret
      exact ⟨rfl, then_below hB hT⟩

theorem placeMesh_walk (d0 d1 d2 : Int) (b : Bx) (t0 t1 t2 : Bool) (w : World) (hTab : TabOk w) :
    Calls Tryd.prog 5 #[A3 d0 d1 d2, P9 b t0 t1 t2] w fun e W' => e = .returned (.bool true) ∧ Below w.heap.size w W' := by
  rcases errP_cases d0 d1 d2 b t0 t1 t2 with ⟨hm, hp, _⟩ | ⟨he, _⟩
  · exact placeMesh_ok w hTab hm hp
  · exact placeMesh_err t0 t1 t2 w (by rcases he with h | h <;> rw [h] <;> rfl)

end Go.Proofs.YtbobfhoimhambaaDoor

/-
  How the arguments of this seat's statements are opened: whole numbers, and rows of three of them.
-/
namespace Go.Proofs.YtbobfhoimhambaaDoor
open Go.ChangeShapes Go.WideShapes Go.ChangeAt Go.RowKit

theorem own : ownKnob Tryd.prog.godebug = none := by kernel_rfl
theorem laidOut : laidOutB Tryd.prog = true := by kernel_rfl

theorem list3 {α : Type} (l : List α) (h : (⟨l⟩ : Array α).size = 3) : ∃ a b c, l = [a, b, c] := by
  match l, h with
  | [a, b, c], _ => exact ⟨a, b, c, rfl⟩

/-- A row of three whole numbers, by value. -/
theorem open_arr3 {P : Program} {w : World} {H : Type} {enc : TypeId × Value → H} {r : Reach} {b0 base : Nat} {spare : Nat → Bool} {held : Bool} {t e : TypeId} {v : Value} {d : DataW H} {p : List MemPlace}
    (ht : P.underlying t = some (.array 3 e)) (he : P.underlying e = some (.int .i64)) (hce : P.cellsOf e = 1) (hct : P.cellsOf t = 3)
    (hv : Value.okWide P w r b0 t v) (h : DataW.Trod enc P w base spare held t v d p) :
    ∃ a b c : Int, v = A3 a b c ∧ (Lit.int .i64 a).wf = true ∧ (Lit.int .i64 b).wf = true ∧ (Lit.int .i64 c).wf = true := by
  obtain ⟨cs, rfl, hsz, _⟩ : ∃ cs, v = .agg cs ∧ cs.size = P.cellsOf t ∧ Row.okWide P w r b0 t cs := by
    simpa [Value.okWide, ht] using hv
  rw [hct] at hsz
  obtain ⟨l⟩ := cs
  obtain ⟨c0, c1, c2, rfl⟩ := list3 l hsz
  obtain ⟨fuel, hf⟩ := h
  obtain ⟨y0, y1, y2, m, hx, hy0, hy1, hy2⟩ := trod_array3 ht hce hf
  obtain ⟨x0, e0, rfl, w0⟩ := DataW.trod_int he hy0
  obtain ⟨x1, e1, rfl, w1⟩ := DataW.trod_int he hy1
  obtain ⟨x2, e2, rfl, w2⟩ := DataW.trod_int he hy2
  simp at e0 e1 e2
  subst e0 e1 e2
  exact ⟨x0, x1, x2, rfl, w0, w1, w2⟩

theorem open_num {P : Program} {w : World} {H : Type} {enc : TypeId × Value → H} {r : Reach} {b0 base : Nat} {spare : Nat → Bool} {held : Bool} {t : TypeId} {k : IntKind} {v : Value} {d : DataW H} {p : List MemPlace}
    (ht : P.underlying t = some (.int k)) (hv : Value.okWide P w r b0 t v) (h : DataW.Trod enc P w base spare held t v d p) :
    ∃ a : Int, v = .int k a ∧ (Lit.int k a).wf = true := by
  obtain ⟨x, rfl, rfl, rfl, wx⟩ := open_int ht hv h
  exact ⟨x, rfl, wx⟩

theorem trod_lt' {H : Type} {enc : TypeId × Value → H} {P : Program} {W : World} {t : TypeId} {v : Value} {d : DataW H} {ps : List MemPlace} {sp : Nat → Bool} (h : DataW.Trod enc P W 0 sp true t v d ps) : ∀ x ∈ ps, x.block < W.heap.size := by
  obtain ⟨m, hm⟩ := h; exact DataW.trod_lt m _ _ _ hm

end Go.Proofs.YtbobfhoimhambaaDoor

/-
  How a place among a statement's arguments is opened: a box's six whole numbers, and three tori.
-/
namespace Go.Proofs.YtbobfhoimhambaaDoor
open Go.ChangeShapes Go.WideShapes Go.ChangeAt Go.RowKit

theorem list9 {α : Type} (l : List α) (h : (⟨l⟩ : Array α).size = 9) : ∃ a b c d e f g i j, l = [a, b, c, d, e, f, g, i, j] := by
  match l, h with
  | [a, b, c, d, e, f, g, i, j], _ => exact ⟨a, b, c, d, e, f, g, i, j, rfl⟩

set_option maxRecDepth 100000 in
theorem open_place {w : World} {H : Type} {enc : TypeId × Value → H} {r : Reach} {b0 base : Nat} {spare : Nat → Bool} {held : Bool} {v : Value} {d : DataW H} {p : List MemPlace}
    (hv : Value.okWide Tryd.prog w r b0 33 v) (h : DataW.Trod enc Tryd.prog w base spare held 33 v d p) : ∃ (b : Bx) (t0 t1 t2 : Bool), v = P9 b t0 t1 t2 := by
  obtain ⟨f0, f1, hu, t0, o0, t1, o1⟩ : ∃ f0 f1, Tryd.prog.underlying 33 = some (.struct #[f0, f1]) ∧ f0.type = 30 ∧ f0.offset = 0 ∧ f1.type = 31 ∧ f1.offset = 6 := ⟨_, _, rfl, rfl, rfl, rfl, rfl⟩
  obtain ⟨s0, s1, hs, q0, r0, q1, r1⟩ : ∃ f0 f1, Tryd.prog.underlying 30 = some (.struct #[f0, f1]) ∧ f0.type = 26 ∧ f0.offset = 0 ∧ f1.type = 26 ∧ f1.offset = 3 := ⟨_, _, rfl, rfl, rfl, rfl, rfl⟩
  obtain ⟨cs, rfl, hsz, _⟩ : ∃ cs, v = .agg cs ∧ cs.size = Tryd.prog.cellsOf 33 ∧ Row.okWide Tryd.prog w r b0 33 cs := by
    simpa [Value.okWide, hu] using hv
  have hct : Tryd.prog.cellsOf 33 = 9 := by kernel_rfl
  rw [hct] at hsz
  obtain ⟨l⟩ := cs
  obtain ⟨c0, c1, c2, c3, c4, c5, c6, c7, c8, rfl⟩ := list9 l hsz
  obtain ⟨fuel, hf⟩ := h
  obtain ⟨x, y, n, _, _, h0, h1⟩ := trod_struct2 hu hf
  have hc6 : Tryd.prog.cellsOf 30 = 6 := by kernel_rfl
  have hc3 : Tryd.prog.cellsOf 26 = 3 := by kernel_rfl
  have hc3' : Tryd.prog.cellsOf 31 = 3 := by kernel_rfl
  have hc1 : Tryd.prog.cellsOf 3 = 1 := by kernel_rfl
  have hc1' : Tryd.prog.cellsOf 4 = 1 := by kernel_rfl
  rw [t0, o0, hc6] at h0
  rw [t1, o1, hc3'] at h1
  have h0 : DataW.trod enc Tryd.prog w base spare held n 30 [c0, c1, c2, c3, c4, c5] = some x := h0
  have h1 : DataW.trod enc Tryd.prog w base spare held n 31 [c6, c7, c8] = some y := h1
  obtain ⟨x', y', n', _, _, h2, h3⟩ := trod_struct2 hs h0
  rw [q0, r0, hc3] at h2
  rw [q1, r1, hc3] at h3
  have h2 : DataW.trod enc Tryd.prog w base spare held n' 26 [c0, c1, c2] = some x' := h2
  have h3 : DataW.trod enc Tryd.prog w base spare held n' 26 [c3, c4, c5] = some y' := h3
  obtain ⟨_, _, _, m, _, g0, g1, g2⟩ := trod_array3 Tryd.underlying26 hc1 h2
  obtain ⟨_, _, _, m', _, g3, g4, g5⟩ := trod_array3 Tryd.underlying26 hc1 h3
  obtain ⟨_, _, _, m'', _, g6, g7, g8⟩ := trod_array3 Tryd.underlying31 hc1' h1
  obtain ⟨x0, e0, _, _⟩ := DataW.trod_int Tryd.underlying3 g0
  obtain ⟨x1, e1, _, _⟩ := DataW.trod_int Tryd.underlying3 g1
  obtain ⟨x2, e2, _, _⟩ := DataW.trod_int Tryd.underlying3 g2
  obtain ⟨x3, e3, _, _⟩ := DataW.trod_int Tryd.underlying3 g3
  obtain ⟨x4, e4, _, _⟩ := DataW.trod_int Tryd.underlying3 g4
  obtain ⟨x5, e5, _, _⟩ := DataW.trod_int Tryd.underlying3 g5
  obtain ⟨y6, e6, _⟩ := DataW.trod_bool Tryd.underlying4 g6
  obtain ⟨y7, e7, _⟩ := DataW.trod_bool Tryd.underlying4 g7
  obtain ⟨y8, e8, _⟩ := DataW.trod_bool Tryd.underlying4 g8
  simp at e0 e1 e2 e3 e4 e5 e6 e7 e8
  subst e0 e1 e2 e3 e4 e5 e6 e7 e8
  exact ⟨⟨x0, x1, x2, x3, x4, x5⟩, y6, y7, y8, rfl⟩

end Go.Proofs.YtbobfhoimhambaaDoor

/-
  What the statements that list math/bits' table ask ahead of a walk: the table lies in its variable, as the condition says.
-/
namespace Go.Proofs.YtbobfhoimhambaaDoor
open Go Go.ChangeShapes Go.WideShapes Go.ChangeAt Go.RowKit

def tabLaid : List (String × DataW Unit) := [("math/bits.deBruijn64tab", Rows.laid_math_bits_deBruijn64tab)]

theorem tab_named : Tryd.prog.globalNamed "math/bits.deBruijn64tab" = some 0 := by kernel_rfl
theorem tab_type : (Tryd.prog.globals[0]?).map (·.type) = some 98 := by kernel_rfl

/-- The heap that the program's own start leaves meets the condition. -/
theorem door_met (os : Os) (args : Array Value) : laidMetH Tryd.prog tabLaid ((World.doorLaid Tryd.prog 14 os).forCall (fun _ _ => 0) ⟨#[], args, []⟩).memory :=
  laidMetH_of_parts3 (fuel := 8) (laidMet_of_run' 8 (by kernel_rfl) (by kernel_rfl)) (by kernel_rfl) (by kernel_rfl)

theorem tab_datum : (Rows.laid_math_bits_deBruijn64tab : DataW Unit) = Lib.tabData .u8 (ofN Lib.deBruijn64tab) := rfl

theorem tab_of {W : World} (h : laidMetH Tryd.prog tabLaid W) : TabOk W := by
  rw [MakeChecks.laidMetH_plain _ _ _ (by kernel_rfl)] at h
  unfold tabLaid at h
  rw [tab_datum] at h
  have hT := Lib.tabIs_of_head tab_named tab_type Tryd.underlying98 Tryd.underlying5 (by kernel_rfl) (by kernel_rfl) h
  intro j hj
  have := hT.cell tab_named j (by rw [ofN_len]; exact hj)
  rw [this, ofN_get]

/-- No parameter's type asks for a stand-in. -/
theorem noS_stand_in (ts : Array TypeId) (h : (ts.toList.all fun t => !Tryd.prog.wantsStandIn t) = true) (j : Nat) (t : TypeId) (ht : ts[j]? = some t) : Tryd.prog.wantsStandIn t = false := by
  have hm : t ∈ ts.toList := by
    obtain ⟨hlt, he⟩ := Array.getElem?_eq_some_iff.1 ht
    rw [← he]
    exact Array.getElem_mem_toList hlt
  have := List.all_eq_true.1 h t hm
  simpa using this

end Go.Proofs.YtbobfhoimhambaaDoor
