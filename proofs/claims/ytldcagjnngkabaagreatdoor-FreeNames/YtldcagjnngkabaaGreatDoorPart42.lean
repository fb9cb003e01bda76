/-
  when.slots hands out the slots of all calendars, one behind the other, and stops where a round says so.
-/
import Derived.Test.YtldcagjnngkabaaGreatDoorPart41
import Derived.Test.YtldcagjnngkabaaGreatDoorPart7
import Derived.RangeFuncNested
import Derived.RangeFuncWrites
import Derived.RangeFuncLeaves
import Derived.LoopNIn
import Derived.LoopIn
import Derived.TacticsInMore
import Derived.OwnWalkIn
import Derived.Shelf.SlIterI.Nil
import Derived.Shelf.SortM.Plain
import Derived.Shelf.SortM.SortNone
import Derived.Shelf.Lay
import Derived.Ground.GgzProg
import Derived.Ground.SlgmProg
namespace Go.Proofs.YtldcagjnngkabaaGreatDoor
open Go Go.RowKit Go.Shelf

theorem ixY0 (x y : Value) (w : World) : (Instr.index 187 (.agg #[x, y]) (.int .i64 0)).run Tryz.prog w = .ok x w := by kernel_rfl
theorem ixY1 (x y : Value) (w : World) : (Instr.index 187 (.agg #[x, y]) (.int .i64 1)).run Tryz.prog w = .ok y w := by kernel_rfl

attribute [local go_sem] Oper.semAt_some ext_const

theorem abide_belowS {J : List SltM → World → Prop} {B : Nat} (hJ : AbidesFrom B J) {pre : List SltM} {W W' : World} (h : J pre W) (hb : Below W.heap.size W W') : J pre W' :=
  hJ pre W W' none h ⟨hb.os, hb.tape, hb.output, hb.size, fun k hk _ => hb.block k hk⟩ (fun r e => by cases e)

theorem slots_calls (a b c : Int) (n l : Value) (w : World) :
    Calls Tryz.prog 106 #[Y5 a b c n l] w fun e w' => e = .returned (.func (.func 133) #[] #[.pointer (some ⟨w.heap.size, 0, none⟩)]) ∧ w' = w.alloc (.cells (K5 a b c n l) 26) := by
  go_enter Tryz.func106, Tryz.ntmps106
  go_wp2
  go_ret
  exact ⟨rfl, rfl⟩

/-- The two lists of calendars, and what was handed out ahead of each. -/
def partY (ns ls : List (List Slt)) (i : Nat) : List (List Slt) := if i = 0 then ns else ls
def headY (ns ls : List (List Slt)) (i : Nat) : List Slt := if i = 0 then [] else if i = 1 then ns.flatten else ns.flatten ++ ls.flatten
def partV (x y : Value) (i : Nat) : Value := if i = 0 then x else y
theorem headY_succ (ns ls : List (List Slt)) {i : Nat} (h : i < 2) : headY ns ls (i + 1) = headY ns ls i ++ (partY ns ls i).flatten := by
  match i, h with
  | 0, _ => rfl
  | 1, _ => rfl
theorem headY_le (ns ls : List (List Slt)) {i : Nat} (h : i < 2) : (headY ns ls i).length + (partY ns ls i).flatten.length ≤ (slotsY ns ls).length := by
  match i, h with
  | 0, _ => simp [headY, partY, slotsY]
  | 1, _ => simp [headY, partY, slotsY]
theorem ixY {x y : Value} {i : Nat} (h : i < 2) (w : World) : (Instr.index 187 (.agg #[x, y]) (.int .i64 (i : Int))).run Tryz.prog w = .ok (partV x y i) w := by
  match i, h with
  | 0, _ => exact ixY0 x y w
  | 1, _ => exact ixY1 x y w

set_option maxRecDepth 100000 in
set_option maxHeartbeats 4000000 in
theorem slots1_in {a b c : Int} {vn vl : Value} {ns ls : List (List Slt)} (hn : maysC ns = true) (hl : maysC ls = true) (w0 : World) (hN : Yl w0 vn ns) (hL : Yl w0 vl ls) (n : Nat) (h1n : 1 ≤ n) (hx1 : ns.length ≤ 100000) (hx2 : ls.length ≤ 100000) (hx3 : ∀ k, (ns.getD k []).length ≤ 100000) (hx4 : ∀ k, (ls.getD k []).length ≤ 100000)
    (l B : Nat) (J Jx : List SltM → World → Prop) (W : World) (hT0 : Below w0.heap.size w0 W) (bB : Blk W B 26 (K5 a b c vn vl)) (hJ : AbidesFrom W.heap.size J)
    (hY : ∀ pre (x : SltM) W1, J pre W1 → pre.length < (slotsY ns ls).length → YieldAt Fence.wide (n - 1) Tryz.prog l #[V3 x.1.1 x.1.2.1 x.1.2.2] W1 fun e W' =>
      (e = .returned (.bool true) ∧ J (pre ++ [x]) W' ∧ Below w0.heap.size W1 W') ∨ (e = .returned (.bool false) ∧ Jx (pre ++ [x]) W')) (h0 : J [] W) :
    CallsIn Fence.wide n Tryz.prog 133 #[.func (.yield l) #[] #[], .pointer (some ⟨B, 0, none⟩)] W fun e W' =>
      (∃ v, e = .returned v) ∧ ((∃ xs : List SltM, xs.map (·.1) = slotsY ns ls ∧ J xs W') ∨ (∃ pre, Jx pre W')) := by
  have HY : Hid (∀ pre (x : SltM) W1, J pre W1 → pre.length < (slotsY ns ls).length → YieldAt Fence.wide (n - 1) Tryz.prog l #[V3 x.1.1 x.1.2.1 x.1.2.2] W1 fun e W' =>
      (e = .returned (.bool true) ∧ J (pre ++ [x]) W' ∧ Below w0.heap.size W1 W') ∨ (e = .returned (.bool false) ∧ Jx (pre ++ [x]) W')) := hY
  have HJ : Hid (AbidesFrom W.heap.size J) := hJ
  have HX : Hid (∀ (i : Nat), i < 2 → ∀ w, (Instr.index 187 (.agg #[vn, vl]) (.int .i64 (i : Int))).run Tryz.prog w = .ok (partV vn vl i) w) := fun i h w => ixY h w
  have HP : Hid (∀ (i : Nat), i < 2 → Yl w0 (partV vn vl i) (partY ns ls i) ∧ maysC (partY ns ls i) = true ∧ (partY ns ls i).length ≤ 100000 ∧ ∀ k, ((partY ns ls i).getD k []).length ≤ 100000) := fun i h => by
    match i, h with
    | 0, _ => exact ⟨hN, hn, hx1, hx3⟩
    | 1, _ => exact ⟨hL, hl, hx2, hx4⟩
  have HS : Hid (∀ i : Nat, i < 2 → headY ns ls (i + 1) = headY ns ls i ++ (partY ns ls i).flatten) := fun i h => headY_succ ns ls h
  have HLe : Hid (∀ i : Nat, i < 2 → (headY ns ls i).length + (partY ns ls i).flatten.length ≤ (slotsY ns ls).length) := fun i h => headY_le ns ls h
  have HZ : Hid (headY ns ls 0 = [] ∧ headY ns ls 2 = slotsY ns ls) := ⟨rfl, rfl⟩
  obtain ⟨an, cn, rfl, _⟩ := hN.form
  obtain ⟨al, cl, rfl, _⟩ := hL.form
  obtain ⟨p0, p1, p2, p3, p4, hz⟩ := bB.five
  clear hY hJ hn hl hN hL hx1 hx2 hx3 hx4
  generalize headY ns ls = hd at *
  generalize slotsY ns ls = tot at *
  generalize partY ns ls = pt at *
  refine callsIn_of_wp Tryz.func133 rfl trivial ?_ rfl
  simp only [Tryz.ntmps133, List.size_toArray, List.length_cons, List.length_nil, Nat.reduceAdd, Nat.reduceSub, Array.replicate_succ, Array.replicate_zero, List.push_toArray, List.append_toArray, List.nil_append, List.cons_append]
  generalize ns.length = n1 at *
  generalize ls.length = n2 at *
  gi_wp2
  gi_loopw [14] (fun i wr => ∃ (j : Nat) (pre : List SltM), j ≤ 2 ∧ i = .int .i64 j ∧ pre.map (·.1) = hd j ∧ J pre wr ∧ Below w0.heap.size w0 wr) (fun i _ => 2 - (RowKit.intOf i).toNat)
  case atStart => exact ⟨0, [], by omega, rfl, HZ.out.1.symm, h0, hT0⟩
  case round =>
    obtain ⟨j, pre, hj, rfl, hpre, hJp, hT⟩ := hrel
    by_cases hlt : (j : Int) < 2
    · have hj2 : j < 2 := by omega
      have hix := HX.out j hj2
      have hS := HS.out j hj2
      have hLe := HLe.out j hj2
      obtain ⟨hY0, hm, hlen, hlens⟩ := HP.out j hj2
      have HSj : Hid (hd (j + 1) = hd j ++ (pt j).flatten) := hS
      have HPj : Hid (pre.map (·.1) = hd j) := hpre
      have HLj : Hid ((hd j).length + (pt j).flatten.length ≤ tot.length) := hLe
      have HMj : Hid (maysC (pt j) = true) := hm
      have HYj : Hid (Yl w0 (partV (.slice an n1 cn) (.slice al n2 cl) j) (pt j)) := hY0
      have HKj : Hid (∀ k, ((pt j).getD k []).length ≤ 100000) := hlens
      clear hS hLe hm hY0 hlens hpre
      generalize partV (.slice an n1 cn) (.slice al n2 cl) j = v at *
      generalize pt j = cs at *
      generalize hd j = hd0 at *
      obtain ⟨ao, cap, rfl, hYf⟩ := HYj.out.form
      clear HYj
      have HYj : Hid (Yl w0 (.slice ao cs.length cap) cs) := hYf
      clear hYf
      gi_wp2
      gi_loopw [19] (fun i wr2 => ∃ (m : Nat) (pre2 : List SltM), m ≤ cs.length ∧ i = .int .i64 m ∧ pre2.map (·.1) = hd0 ++ (cs.take m).flatten ∧ J pre2 wr2 ∧ Below w0.heap.size w0 wr2) (fun i _ => cs.length - (RowKit.intOf i).toNat)
      case atStart => exact ⟨0, pre, by omega, rfl, by rw [HPj.out]; simp, hJp, hT⟩
      case round =>
        rename World => wr2
        obtain ⟨m, pre2, hm, rfl, hpre2, hJp2, hT2⟩ := hrel
        by_cases hltm : (m : Int) < (cs.length : Int)
        · have hm2 : m < cs.length := by omega
          obtain ⟨g, off, bo, mm, cp, rfl, hg, hcc, hemm, hs⟩ := HYj.out.at hm2
          have hc2 : wr2.cell? ⟨g, off + m, none⟩ = some (.slice bo mm cp) := (hT2.cell (p := ⟨g, off + m, none⟩) hg).trans hcc
          have HF : Hid ((cs.take (m + 1)).flatten = (cs.take m).flatten ++ cs.getD m []) := flat_succ hm2
          have HM3 : Hid (∀ k, k < (cs.getD m []).length → maySl ((cs.getD m []).getD k (0, 0, 0))) := fun k hk => slot_mem HMj.out hk
          have HLt : Hid (∀ k, k < (cs.getD m []).length → ((cs.take m).flatten ++ (cs.getD m []).take k).length < cs.flatten.length) := fun k hk => flat_lt hm2 hk
          have hmm : mm ≤ 100000 := by rw [hemm]; exact HKj.out m
          have HP2 : Hid (pre2.map (·.1) = hd0 ++ (cs.take m).flatten) := hpre2
          have HC : Hid (Ss w0 (.slice bo mm cp) (cs.getD m [])) := hs
          have HE : Hid (mm = (cs.getD m []).length) := hemm
          clear hs hcc hpre2 hemm
          generalize cs.getD m [] = xs at *
          gi_wp2
          gi_loopw [25] (fun i wr3 => ∃ (k : Nat) (pre3 : List SltM), k ≤ mm ∧ i = .int .i64 k ∧ pre3.map (·.1) = hd0 ++ ((cs.take m).flatten ++ xs.take k) ∧ J pre3 wr3 ∧ Below w0.heap.size w0 wr3) (fun i _ => mm - (RowKit.intOf i).toNat)
          case atStart => exact ⟨0, pre2, by omega, rfl, by rw [HP2.out]; simp, hJp2, hT2⟩
          case round =>
            rename World => wr3
            obtain ⟨k, pre3, hk, rfl, hpre3, hJp3, hT3⟩ := hrel
            by_cases hltk : (k : Int) < (mm : Int)
            · have hk2 : k < xs.length := by have := HE.out; omega
              obtain ⟨g2, off2, f, t, o, rfl, hgd, ha⟩ := HC.out.at hk2
              obtain ⟨hg2, a0, a1, a2⟩ := ha.later hT3
              have hms : maySl (f, t, o) := hgd ▸ HM3.out k hk2
              have HT : Hid (xs.take (k + 1) = xs.take k ++ [(f, t, o)]) := by show _ = _; rw [take_slot hk2, hgd]
              have HN3 : Hid (pre3.length < tot.length) := by
                have e1 := congrArg List.length hpre3
                rw [List.length_map, List.length_append] at e1
                have e2 := HLt.out k hk2
                have e3 := HLj.out
                show _ < _
                omega
              have HP3 : Hid (pre3.map (·.1) = hd0 ++ ((cs.take m).flatten ++ xs.take k)) := hpre3
              have hBa : Below wr3.heap.size wr3 (wr3.alloc (.cells (C3 f t o) 85)) := (Below.refl _ wr3).alloc (Nat.le_refl _) _
              have hJa := abide_belowS HJ.out hJp3 hBa
              obtain ⟨x, hxv⟩ : ∃ x : SltM, x.1 = (f, t, o) := ⟨⟨_, hms⟩, rfl⟩
              have hYx := HY.out pre3 x _ hJa HN3.out
              rw [hxv] at hYx
              obtain ⟨f1, t1, as1, bo1, hy1, hR1⟩ := hYx
              have HXv : Hid (x.1 = (f, t, o)) := hxv
              clear hgd hpre3 hms hxv
              gi_wp2
              refine hR1.mono ?_
              rintro e W3 (⟨rfl, hJ3, hk3⟩ | ⟨rfl, hJx3⟩)
              · gi_wp2
                go_roundw
                case rel => exact ⟨k + 1, pre3 ++ [x], by omega, by go_num, by rw [List.map_append, HP3.out, List.map_singleton, HXv.out, HT.out]; simp, hJ3, hT3.trans ((hBa.mono hT3.size).trans hk3)⟩
                case measure => simp [RowKit.intOf]; omega
              · gi_wp2
                refine bodyPost_ret (results_none rfl _ _ _) rfl ?_
                exact ⟨⟨_, rfl⟩, .inr ⟨_, hJx3⟩⟩
            · obtain rfl : k = mm := by omega
              have HP3 : Hid (pre3.map (·.1) = hd0 ++ (cs.take (m + 1)).flatten) := by
                show _ = _
                rw [hpre3, HF.out, HE.out, List.take_length]
              clear hpre3
              gi_wp2
              go_roundw
              case rel => exact ⟨m + 1, pre3, by omega, by go_num, HP3.out, hJp3, hT3⟩
              case measure => simp [RowKit.intOf]; omega
        · obtain rfl : m = cs.length := by omega
          have HP2 : Hid (pre2.map (·.1) = hd (j + 1)) := by
            show _ = _
            rw [hpre2, HSj.out, List.take_length]
          clear hpre2
          gi_wp2
          go_roundw
          case rel => exact ⟨j + 1, pre2, by omega, by go_num, HP2.out, hJp2, hT2⟩
          case measure => simp [RowKit.intOf]; omega
    · obtain rfl : j = 2 := by omega
      have HP1 : Hid (pre.map (·.1) = tot) := hpre.trans HZ.out.2
      clear hpre
      gi_wp2
      go_end0
      exact ⟨⟨_, rfl⟩, .inl ⟨pre, HP1.out, hJp⟩⟩

/-- What when.slots hands back, as a range over it asks. -/
theorem slots_stops {a b c : Int} {vn vl : Value} {ns ls : List (List Slt)} (hm : mayY a b c ns ls) (w0 w : World) (hN : Yl w0 vn ns) (hL : Yl w0 vl ls) (n : Nat) (h1n : 1 ≤ n) (B : Nat) (hT : Below w0.heap.size w0 w) (hB : Blk w B 26 (K5 a b c vn vl)) :
    SeqStopsK Fence.wide n Tryz.prog 133 #[.pointer (some ⟨B, 0, none⟩)] (fun x : SltM => #[V3 x.1.1 x.1.2.1 x.1.2.2]) (Below w0.heap.size) (fun xs => xs.map (·.1) = slotsY ns ls) (fun _ => True) (slotsY ns ls).length w := fun l J Jx W hW hJ _ hY h0 => by
  have hbd := hm.bd
  have hmn := hm.2.2.2.1
  have hml := hm.2.2.2.2
  refine (slots1_in hmn hml w0 hN hL n h1n (by omega) (by omega) (fun k => ?_) (fun k => ?_) l B J Jx W (hT.trans (hW.mono hT.size)) (hB.later hW) hJ hY h0).mono ?_
  · have := (maysC_may hmn k).2.2; omega
  · have := (maysC_may hml k).2.2; omega
  · rintro e W' ⟨hv, h | ⟨pre, h⟩⟩
    · exact ⟨hv, .inl h⟩
    · exact ⟨hv, .inr ⟨pre, trivial, h⟩⟩

end Go.Proofs.YtldcagjnngkabaaGreatDoor

/-
  when.rising: a map's keys, in rising order, in new memory: by the library's contracts of maps.Keys and slices.Sorted.
-/
namespace Go.Proofs.YtldcagjnngkabaaGreatDoor
open Go Go.RowKit Go.Shelf Go.Maps Go.Sort

shelf_lay_g SlLaysZI.n7 Ggz 7 at Tryz 108 as keysW
shelf_lay_g SlLaysZI.n6 Ggz 6 at Tryz 107 as sortedW
shelf_lay_g SlLaysM.n5 Slgm 5 at Tryz 135 as sortsW

/-- slices.Sort's two contracts at this program. -/
theorem sorts_in (m : Nat) : AnyZI.SortsIn Tryz.prog sortedW_ren Fence.wide m :=
  ⟨fun blk off cap ss W hH hblk hsz => callsIn_wide.2 (AnyM.slices_Sort_int sortsW blk off cap ss W hH hblk hsz),
   fun p cap W => callsIn_wide.2 (AnyM.slices_Sort_int_none sortsW p cap W)⟩

/-- What a map from moments on owns. -/
abbrev Mom (w : World) (g k : Nat) (D : DataW Unit) : Prop := w.ownsMap Tryz.prog 3 (unitElem (H := Unit)) g k D

set_option maxRecDepth 100000 in
set_option maxHeartbeats 4000000 in
theorem risingM_calls {g k : Nat} {D : DataW Unit} {xs : List Int} (w : World) (hown : Mom w g k D) (hk : k ≤ 1000000) (hK : KeysI D xs) (hx : UpI xs) :
    Calls Tryz.prog 65 #[.map (some g)] w fun e W' => ∃ v, e = .returned v ∧ Lst W' w.heap.size v xs ∧ Below w.heap.size w W' := by
  refine (callsIn_wide (n := 6)).1 ?_
  have hbl := hown.lt
  have hsz := hown.size_le
  have hseq : SeqGives Fence.wide 2 Tryz.prog 136 #[.pointer (some ⟨w.heap.size, 0, none⟩)] encZ (fun ss => ss.Perm (intKeys D)) (Maps.size D) (w.alloc (.cells #[.map (some g)] 114)) :=
    AnyZI.keys_gives (ρ := keysW_ren) { keysW with } Fence.wide _ trivial rfl (by omega) w.heap.size g k D _ (by simp) (by simp) (by
      obtain ⟨es, clock, hb, Ft, hs, hD⟩ := hown
      exact ⟨es, clock, (Below.heap_alloc _ _ g hbl).trans hb, Ft, hs, hD⟩)
  have cK : ∀ mb W, CallsIn Fence.wide 5 Tryz.prog 108 #[.map mb] W fun e w' => e = .returned (.func (.func 136) #[] #[.pointer (some ⟨W.heap.size, 0, none⟩)]) ∧ w' = W.alloc (.cells #[.map mb] 114) := fun mb W => AnyZI.keys_in keysW Fence.wide 5 trivial rfl mb W
  have cS := AnyZI.sorted_in sortedW Fence.wide 5 trivial trivial trivial trivial rfl (by omega) (sorts_in _) (enters_of Tryz.func135 (by kernel_rfl) rfl) 136 #[.pointer (some ⟨w.heap.size, 0, none⟩)] trivial (enters_of Tryz.func136 (by kernel_rfl) rfl) _ _ (by unfold maxLen; omega) (by omega) _ hseq
  change CallsIn _ _ Tryz.prog 107 _ _ _ at cS
  have hfK : Fence.wide.fn 108 := trivial
  have hfS : Fence.wide.fn 107 := trivial
  have HO : Hid (Mom w g k D) := hown
  have HF : Hid (∀ ss : List Int, ss.Perm (intKeys D) → (ss.mergeSort fun x y => decide (x ≤ y)) = xs) := fun ss h => keysI_sort hown Tryz.underlying3 hK hx h
  clear hown hK hx hseq hsz
  refine callsIn_of_wp Tryz.func65 rfl trivial ?_ rfl
  simp only [Tryz.ntmps65, List.size_toArray, List.length_cons, List.length_nil, Nat.reduceAdd, Nat.reduceSub, Array.replicate_succ, Array.replicate_zero, List.push_toArray, List.append_toArray, List.nil_append, List.cons_append]
  gi_wp2_with (first
    | (gi_at_call 108; refine (cK _ _).mono ?_; rintro e w' ⟨rfl, rfl⟩)
    | (gi_at_call 107; refine cS.mono ?_; rintro e w' ⟨v, ss, rfl, hS, hrow, hnil, hb⟩))
  go_ret
  refine ⟨v, rfl, ?_, ((Below.refl _ w).alloc (Nat.le_refl _) _).trans (hb.mono (by simp))⟩
  have hlen : (ss.mergeSort fun x y => decide (x ≤ y)).length = ss.length := List.length_mergeSort _
  have := ownsRow_base_a hrow (base' := w.heap.size) (by simp)
  rw [← hlen, HF.out ss hS] at this
  exact this

end Go.Proofs.YtldcagjnngkabaaGreatDoor

/-
  The two closures of layer 10: which slots are asked for.
-/
namespace Go.Proofs.YtldcagjnngkabaaGreatDoor
open Go Go.RowKit Go.Shelf

attribute [local go_sem] Oper.semAt_some ext_const

theorem timec_calls {w : World} {A : Nat} {x : Int} (s : Slt) (hA : Blk w A 3 #[I x]) : Calls Tryz.prog 64 #[V3 s.1 s.2.1 s.2.2, .pointer (some ⟨A, 0, none⟩)] w fun e W' => e = .returned (.bool (timeP x s)) ∧ Below w.heap.size w W' := by
  obtain ⟨f, t, o⟩ := s
  have hT := Below.refl w.heap.size w
  obtain ⟨c0, hz⟩ := hA.one hT
  obtain ⟨W1, hW1, hB1, hK⟩ := one_start w (C3 f t o) 85
  have HW1 : Hid (w.alloc (.cells (C3 f t o) 85) = W1) := hW1
  obtain ⟨hz2, a0, a1, a2⟩ := hK.at3
  obtain ⟨b0, hz3⟩ := hA.one hB1
  clear hW1
  by_cases h1 : x < t
  · by_cases h2 : t < 1099511627776
    · have e : timeP x (f, t, o) = true := by simp [timeP, h1, h2]
      rw [e]
      go_enter Tryz.func64, Tryz.ntmps64
      go_wp2
      go_ret
      exact ⟨rfl, by rw [HW1.out]; exact hB1⟩
    · have e : timeP x (f, t, o) = false := by simp [timeP, h2]
      rw [e]
      go_enter Tryz.func64, Tryz.ntmps64
      go_wp2
      go_ret
      exact ⟨rfl, by rw [HW1.out]; exact hB1⟩
  · have e : timeP x (f, t, o) = false := by simp [timeP, h1]
    rw [e]
    go_enter Tryz.func64, Tryz.ntmps64
    go_wp2
    go_ret
    exact ⟨rfl, by rw [HW1.out]; exact hB1⟩

end Go.Proofs.YtldcagjnngkabaaGreatDoor
