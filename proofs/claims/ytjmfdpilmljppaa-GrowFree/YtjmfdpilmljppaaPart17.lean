/-
  A set among the arguments: as it came in, and a copy of it.
-/
import Derived.Test.YtjmfdpilmljppaaPart10
import Derived.Laws.AppendOwn
import Derived.Laws.AppendOwnNone
import Derived.Test.YtjmfdpilmljppaaLawGrow
import Derived.Test.YtjmfdpilmljppaaPart1
import Derived.Test.YtjmfdpilmljppaaRows
import Derived.ProofKit
import Derived.OpenShut
import Derived.ChangeOld
import Derived.Below
import Derived.Laws.IdiomArrays
import Derived.Test.YtjmfdpilmljppaaPart2
import Derived.ChangeSame
import Derived.ChangeSlices
namespace Go.Proofs.Ytjmfdpilmljppaa
open Go Go.RowKit Go.Shelf

/-- A row of words that came in. -/
def ArgW (W : World) (v : Value) (ws : List Nat) : Prop := Wds W v ws ∧ (v = .slice none 0 0 ∨ ∃ ad cap, v = .slice (some ad) ws.length cap)
def ArgI (W : World) (v : Value) (xs : List Int) : Prop := Its W v xs ∧ (v = .slice none 0 0 ∨ ∃ ad cap, v = .slice (some ad) xs.length cap)

theorem owns_wds {W : World} {base : Nat} {v : Value} {ws : List Nat} (hw : ∀ x ∈ ws, x < 18446744073709551616) (h : W.ownsRow base 28 1 v ws.length (ws.map U)) : Wds W v ws := by
  obtain ⟨h1, h2⟩ := h
  refine ⟨hw, ?_⟩
  rcases h2 with ⟨rfl, hn⟩ | ⟨g, cap, cur, rfl, hg, hh, hc, hc2, hs, ht⟩
  · have : ws = [] := List.length_eq_zero_iff.1 hn
    subst this
    exact Sl.nil W
  · refine ⟨_, cap, by simp, fun k hk => ⟨g, 0, rfl, (Array.getElem?_eq_some_iff.1 hh).1, ?_⟩⟩
    have hb : Blk W g 28 cur := hh
    rw [Nat.zero_add, hb.cell k]
    have := congrArg (fun l => l[k]?) ht
    simp only [Nat.mul_one] at this
    rw [List.length_map] at hk
    rw [List.getElem?_take_of_lt hk, Array.getElem?_toList] at this
    exact this

/-- 'own = append(own, s...)', own nil. -/
theorem wpList_copy {ops : Array Oper} {rest : List Oper} {o : Oper} {a : Act} {Q : Exit → Act → World → Prop} {W : World} {v : Value} {ws : List Nat} (hgd : o.guard = none) (s x : Operand)
    (ho : o.op = .call { callee := .builtin .append, args := #[s, x], argTypes := #[30, 30] }) (hs : a.eval s = .slice none 0 0) (hx : a.eval x = v)
    (hA : ArgW W v ws) (hl : ws.length ≤ 1000)
    (h : ∀ v' w', Wds w' v' ws → Below W.heap.size W w' → wpList Try.prog ops Q rest (a.put o.dst v') w') : wpList Try.prog ops Q (o :: rest) a W := by
  obtain ⟨i0, hi, hz0, hz1, hz2⟩ := info_parts info_u64
  obtain ⟨hW, rfl | ⟨ad, cap, rfl⟩⟩ := hA
  · have e : ws = [] := by
      obtain ⟨ao, c, e, _⟩ := hW.view
      simp only [Value.slice.injEq] at e
      exact List.length_eq_zero_iff.1 e.2.1.symm
    subst e
    exact wpList_append_own_none hgd s x 30 ho W.heap.size 28 i0 1 Try.underlying30 hi (.slice none 0 0) 0 [] hs (World.ownsRow_nil _ _ _ _) hx (h _ _ (Wds.nil W) (Below.refl _ _))
  · refine wpList_append_own (w := W) hgd s x 30 ho W.heap.size 28 i0 (.int .u64 0) 1 8 Try.underlying30 hi hz0 hz1 hz2 rfl (by decide) (.slice none 0 0) 0 [] hs (World.ownsRow_nil _ _ _ _) ad ws.length cap (ws.map U) hx (by simp) ?_ ?_ ?_ ?_ ?_ ?_
    · intro j u hj
      obtain ⟨ao, c, e, hv⟩ := hW.view
      simp only [Value.slice.injEq] at e
      obtain ⟨rfl, -, -⟩ := e
      have hjl : j < ws.length := by
        have := (List.getElem?_eq_some_iff.1 hj).1
        simpa using this
      obtain ⟨g, off, e, hg, hc⟩ := hv j hjl
      simp only [Option.some.injEq] at e
      subst e
      have : (⟨g, off, none⟩ : Addr).add j = ⟨g, off + j, none⟩ := by
        unfold Addr.add
        split
        · rename_i h0; subst h0; rfl
        · rfl
      rw [this, hc, ← hj]
      simp [hjl]
    · intro u hu
      obtain ⟨y, _, rfl⟩ := List.mem_map.1 hu
      rfl
    · unfold maxLen; omega
    · omega
    · omega
    · intro v' w1 hown' hgrow _
      refine h v' w1 (owns_wds hW.1 (by simpa using hown')) ?_
      exact (Below.refl _ W).grown hgrow (Nat.le_refl _) (fun k hk => by cases hk)

end Go.Proofs.Ytjmfdpilmljppaa

/-
  The statement GrowFree, walked.
-/
namespace Go.Proofs.Ytjmfdpilmljppaa
open Go Go.RowKit Go.Shelf Go.Maps

attribute [local go_sem] Oper.semAt_some ext_const
attribute [local go_sem high] eq_box

theorem topV_bad {d0 d1 d2 : Int} {ws : List Nat} (h : errF d0 d1 d2 ws ≠ 0) : topV d0 d1 d2 ws = 0 := by
  unfold topV
  rw [if_neg h]
/-- None of the first k of a list is in the set. -/
def offTo (N : Int) (ws : List Nat) (w0 : Bool) (ns : List Int) : Bool := w0 && ns.all fun m => !hasR N ws m
theorem offTo_app (N : Int) (ws : List Nat) (w0 : Bool) (ns : List Int) (m : Int) : offTo N ws w0 (ns ++ [m]) = (offTo N ws w0 ns && !hasR N ws m) := by
  simp [offTo, Bool.and_assoc]
theorem free_asks {d0 d1 d2 : Int} (hd : mayD d0 d1 d2) {ws : List Nat} (he : errAll (d0 * d1 * d2) [ws] = 0) (b : Bx) :
    memX (freeL d0 d1 d2 ws) b = (mayBB d0 d1 d2 b && offTo (d0 * d1 * d2) ws (sameBx (canonB d0 d1 d2 b) b) (nodesB d0 d1 d2 b)) := by
  have hn := N_bd hd
  rw [Bool.eq_iff_iff, memX_iff, Bool.and_eq_true, mayBB_iff]
  unfold freeL offTo
  rw [List.mem_filter, boxesZ_mem hd, Bool.and_eq_true, sameBx_iff, List.all_eq_true, clearX_iff]
  constructor
  · rintro ⟨⟨h1, h2⟩, h3⟩
    refine ⟨h1, h2, fun m hm => ?_⟩
    obtain ⟨⟨m0, m1⟩, m2⟩ := nodesP_mem.1 hm
    obtain ⟨k, rfl⟩ : ∃ k : Nat, m = k := ⟨m.toNat, by omega⟩
    rw [hasR_in he, h3 k (by omega) m2]
    rfl
  · rintro ⟨h1, h2, h3⟩
    refine ⟨⟨h1, h2⟩, fun k hk hb => ?_⟩
    have := h3 k (nodesP_mem.2 ⟨⟨by omega, by omega⟩, hb⟩)
    rw [hasR_in he] at this
    simpa using this

set_option maxRecDepth 100000 in
set_option maxHeartbeats 16000000 in
theorem growFree_walk (d0 d1 d2 : Int) (b : Bx) (w : World) {v : Value} {ws : List Nat} (hv0 : ArgW w v ws) : Calls Try.prog 6 #[A3 d0 d1 d2, v, B6 b] w fun e W' => e = .returned (.bool true) ∧ Below w.heap.size w W' := by
  have mixed : Try.prog.follows .mixedOrders = true := by kernel_rfl
  have HV : Hid (Wds w v ws) := hv0.1
  obtain ⟨ao, cap, rfl, _⟩ := hv0.1.view
  clear hv0
  obtain ⟨W, hW, hB0, b0, b1⟩ := two_start w #[I d0, I d1, I d2] (C6 b) 26 32
  have HW : Hid ((w.alloc (.cells #[I d0, I d1, I d2] 26)).alloc (.cells (C6 b) 32) = W) := hW
  clear hW
  have HSm : Hid (∀ w, Calls Try.prog 14 #[A3 d0 d1 d2] w fun e W' => e = .returned (.bool (smallG d0 d1 d2)) ∧ Below w.heap.size w W') := fun w => small13_calls d0 d1 d2 w
  have HFr : Hid (∀ w1, Below w.heap.size w w1 → Calls Try.prog 12 #[A3 d0 d1 d2, .slice ao ws.length cap] w1 fun e W' => ∃ u, e = .returned (.tuple #[u, I (errF d0 d1 d2 ws)]) ∧ Lx W' w1.heap.size u (freeV d0 d1 d2 ws) ∧ Below w1.heap.size w1 W') := fun w1 h1 => gfree_calls d0 d1 d2 w1 (HV.out.later h1)
  have HLa : Hid (∀ w1, Below w.heap.size w w1 → Calls Try.prog 8 #[A3 d0 d1 d2, .slice ao ws.length cap] w1 fun e W' => e = .returned (.tuple #[I (topV d0 d1 d2 ws), I (errF d0 d1 d2 ws)]) ∧ Below w1.heap.size w1 W') := fun w1 h1 => glargest_calls d0 d1 d2 w1 (HV.out.later h1)
  go_enter Try.func6, Try.ntmps6
  go_wp2_with fail
  rw [HW.out]
  refine (alive13_calls _).mono ?_
  rintro e w1 ⟨rfl, hB⟩
  replace b0 := b0.later hB
  replace b1 := b1.later hB
  have hT := then_below hB0 hB
  clear hB hB0 HW
  by_cases hlen : (100 : Int) < (ws.length : Int)
  · go_wp2
    go_ret
    exact ⟨rfl, hT⟩
  have hl0 : decide ((100 : Int) < (ws.length : Int)) = false := by simpa using hlen
  obtain ⟨e0, e1, e2, ez⟩ := b0.three (Below.refl _ _)
  go_wp2_with fail
  refine (HSm.out _).mono ?_
  rintro e w2 ⟨rfl, hB⟩
  replace b0 := b0.later hB
  replace b1 := b1.later hB
  replace hT := then_below hT hB
  clear hB e0 e1 e2 ez HSm hl0
  cases hsm : smallG d0 d1 d2
  · go_wp2
    go_ret
    exact ⟨rfl, hT⟩
  have HSt : Hid (smallG d0 d1 d2 = true) := hsm
  clear hsm
  obtain ⟨e0, e1, e2, ez⟩ := b0.three (Below.refl _ _)
  go_wp2_with fail
  refine (HFr.out _ hT).mono ?_
  rintro e w3 ⟨u, rfl, hL, hB⟩
  replace b0 := b0.later hB
  replace b1 := b1.later hB
  replace hT := then_below hT hB
  clear hB e0 e1 e2 ez HFr
  obtain ⟨lo, lc, rfl, hL⟩ := hL.form
  obtain ⟨e0, e1, e2, ez⟩ := b0.three (Below.refl _ _)
  go_wp2_with fail
  refine (HLa.out _ hT).mono ?_
  rintro e w4 ⟨rfl, hB⟩
  replace b0 := b0.later hB
  replace b1 := b1.later hB
  replace hL := hL.later hB
  replace hT := then_below hT hB
  clear hB e0 e1 e2 ez HLa
  by_cases he : errF d0 d1 d2 ws = 0
  · obtain ⟨hd, hs, _⟩ := errF_may he
    have HD : Hid (mayD d0 d1 d2 ∧ errAll (d0 * d1 * d2) [ws] = 0) := ⟨hd, hs⟩
    have hfv : freeV d0 d1 d2 ws = freeL d0 d1 d2 ws := by simp [freeV, he]
    have htv : topV d0 d1 d2 ws = topM (freeL d0 d1 d2 ws) := by simp [topV, he]
    rw [he, hfv, htv]
    rw [hfv] at hL
    have hne0 := he
    clear he hfv htv hd hs
    have HMx : Hid (∀ x ∈ freeL d0 d1 d2 ws, mayB d0 d1 d2 x) := fun x hx => (freeL_may HD.out.1 hx).1
    have HFin : Hid (memX (freeL d0 d1 d2 ws) b = (mayBB d0 d1 d2 b && offTo (d0 * d1 * d2) ws (sameBx (canonB d0 d1 d2 b) b) (nodesB d0 d1 d2 b))) := free_asks HD.out.1 HD.out.2 b
    have hxl : (freeL d0 d1 d2 ws).length ≤ 262144 := by
      have := freeV_len (d0 := d0) (d1 := d1) (d2 := d2) (ws := ws)
      rwa [show freeV d0 d1 d2 ws = freeL d0 d1 d2 ws by simp [freeV, hne0]] at this
    clear hne0
    generalize freeL d0 d1 d2 ws = xs at *
    obtain ⟨R, hR⟩ : ∃ R, R = topM xs := ⟨_, rfl⟩
    obtain ⟨mx, hmx⟩ : ∃ mx, mx = memX xs b := ⟨_, rfl⟩
    rw [← hR]
    rw [← hmx] at HFin
    have HR : Hid (topM xs = R ∧ memX xs b = mx) := ⟨hR.symm, hmx.symm⟩
    have HT : Hid (Below w.heap.size w w4) := hT
    clear hR hmx hT
    go_wp2
    go_loopw [12, 13, 14] (fun x y i wr => ∃ (k : Nat) (t : Bool) (m : Int), k ≤ xs.length ∧ i = .int .i64 k ∧ x = .bool t ∧ y = .int .i64 m ∧ Hid (memX (xs.take k) b = t ∧ topM (xs.take k) = m) ∧ Blk wr w.heap.size 26 #[I d0, I d1, I d2] ∧ Blk wr (w.heap.size + 1) 32 (C6 b) ∧ Lx wr w2.heap.size (.slice lo xs.length lc) xs ∧ Hid (Below w.heap.size w wr)) (fun _ _ i _ => xs.length - (RowKit.intOf i).toNat)
    case atStart => exact ⟨0, false, 0, by omega, rfl, rfl, rfl, ⟨rfl, rfl⟩, b0, b1, hL, HT.out⟩
    case round =>
      clear b0 b1 hL HT
      obtain ⟨k, t, m, hk, rfl, rfl, rfl, Hm, kd, kb, hLr, HBw⟩ := hrel
      by_cases hlt : (k : Int) < (xs.length : Int)
      · have hk2 : k < xs.length := by omega
        obtain ⟨gl, rfl, hat⟩ := hLr.at hk2
        obtain ⟨x, hx⟩ : ∃ x, x = xs.getD k zX := ⟨_, rfl⟩
        have hxm : x ∈ xs := by rw [hx]; simp [hk2]
        have HT1 : Hid (memX (xs.take (k + 1)) b = (t || sameBx x b) ∧ topM (xs.take (k + 1)) = max m (manyB x)) := by
          show _ ∧ _
          rw [List.take_succ_eq_append_getElem hk2, topM_app, memX_app, show xs[k] = x by rw [hx]; simp [hk2], Hm.out.1, Hm.out.2]
          exact ⟨rfl, rfl⟩
        rw [← hx] at hat
        have HMc : Hid (∀ w1, Calls Try.prog 22 #[A3 d0 d1 d2, B6 x] w1 fun e W' => e = .returned (.tuple #[I (manyB x), I 0]) ∧ Below w1.heap.size w1 W') := fun w1 => bMany_ok w1 HD.out.1 (HMx.out x hxm)
        obtain ⟨s, hs⟩ : ∃ s, sameBx ⟨x.x, x.y, x.z, x.a, x.b, x.c⟩ ⟨b.x, b.y, b.z, b.a, b.b, b.c⟩ = s := ⟨_, rfl⟩
        have HS : Hid (sameBx x b = s) := hs
        have HAll : Hid (Blk wr w.heap.size 26 #[I d0, I d1, I d2] ∧ Blk wr (w.heap.size + 1) 32 (C6 b) ∧ Lx wr w2.heap.size (.slice (some ⟨gl, 0, none⟩) xs.length lc) xs ∧ At6 wr gl (k * 6) x) := ⟨kd, kb, hLr, hat⟩
        obtain ⟨x0, x1, x2, x3, x4, x5⟩ := hat.ext
        have y0 := Ext.cell kb 0
        have y1 := Ext.cell kb 1
        have y2 := Ext.cell kb 2
        have y3 := Ext.cell kb 3
        have y4 := Ext.cell kb 4
        have y5 := Ext.cell kb 5
        simp at y0 y1 y2 y3 y4 y5
        have hx0 := hx
        clear hx hx0 hxm hat kd kb hLr Hm
        generalize manyB x = mb at *
        have HWr : Hid (Below w.heap.size w wr) := HBw.out
        clear HBw
        cases t
        · go_wp2_with fail
          refine wp_region_look mixed (by kernel_rfl) ?_
          repeat (go_big_quiet_step (fail))
          refine wpQuiet_nil ?_
          intro X
          have hX := X.le
          have HA2 : Hid (Blk X.wd w.heap.size 26 #[I d0, I d1, I d2] ∧ Blk X.wd (w.heap.size + 1) 32 (C6 b) ∧ Lx X.wd w2.heap.size (.slice (some ⟨gl, 0, none⟩) xs.length lc) xs ∧ At6 X.wd gl (k * 6) x ∧ Below w.heap.size w X.wd) := ⟨HAll.out.1.later hX, HAll.out.2.1.later hX, HAll.out.2.2.1.later hX, HAll.out.2.2.2.later hX, HWr.out.trans (hX.mono HWr.out.size)⟩
          clear x0 x1 x2 x3 x4 x5 y0 y1 y2 y3 y4 y5 hX HAll HWr
          generalize X.wd = w5 at *
          clear X
          obtain ⟨x0, x1, x2, x3, x4, x5⟩ := HA2.out.2.2.2.1.ext
          have z0 := Ext.cell HA2.out.1 0
          have z1 := Ext.cell HA2.out.1 1
          have z2 := Ext.cell HA2.out.1 2
          simp at z0 z1 z2
          go_wp2_with fail
          refine wp_region_look mixed (by kernel_rfl) ?_
          repeat (go_big_quiet_step ((go_at_call 22; exact calls_ext (HMc.out _))))
          refine wpQuiet_nil ?_
          intro X
          have hX := X.le
          have HA3 : Hid (Blk X.wd w.heap.size 26 #[I d0, I d1, I d2] ∧ Blk X.wd (w.heap.size + 1) 32 (C6 b) ∧ Lx X.wd w2.heap.size (.slice (some ⟨gl, 0, none⟩) xs.length lc) xs ∧ Below w.heap.size w X.wd) := ⟨HA2.out.1.later hX, HA2.out.2.1.later hX, HA2.out.2.2.1.later hX, HA2.out.2.2.2.2.trans (hX.mono HA2.out.2.2.2.2.size)⟩
          clear x0 x1 x2 x3 x4 x5 z0 z1 z2 hX HA2 HMc hs
          generalize X.wd = w6 at *
          clear X
          go_wp2
          have hmax : (if m < mb then mb else m) = max m mb := by
            split <;> omega
          refine ⟨⟨k + 1, s, max m mb, by omega, by go_num, by first | rfl | simp, by first | rw [hmax] | rfl, ⟨by rw [HT1.out.1]; rw [Bool.false_or]; exact HS.out, HT1.out.2⟩, HA3.out.1, HA3.out.2.1, HA3.out.2.2.1, HA3.out.2.2.2⟩, by simp [RowKit.intOf]; omega⟩
        · go_wp2_with fail
          refine wp_region_look mixed (by kernel_rfl) ?_
          repeat (go_big_quiet_step (fail))
          refine wpQuiet_nil ?_
          intro X
          have hX := X.le
          have HA2 : Hid (Blk X.wd w.heap.size 26 #[I d0, I d1, I d2] ∧ Blk X.wd (w.heap.size + 1) 32 (C6 b) ∧ Lx X.wd w2.heap.size (.slice (some ⟨gl, 0, none⟩) xs.length lc) xs ∧ At6 X.wd gl (k * 6) x ∧ Below w.heap.size w X.wd) := ⟨HAll.out.1.later hX, HAll.out.2.1.later hX, HAll.out.2.2.1.later hX, HAll.out.2.2.2.later hX, HWr.out.trans (hX.mono HWr.out.size)⟩
          clear x0 x1 x2 x3 x4 x5 y0 y1 y2 y3 y4 y5 hX HAll HWr
          generalize X.wd = w5 at *
          clear X
          obtain ⟨x0, x1, x2, x3, x4, x5⟩ := HA2.out.2.2.2.1.ext
          have z0 := Ext.cell HA2.out.1 0
          have z1 := Ext.cell HA2.out.1 1
          have z2 := Ext.cell HA2.out.1 2
          simp at z0 z1 z2
          go_wp2_with fail
          refine wp_region_look mixed (by kernel_rfl) ?_
          repeat (go_big_quiet_step ((go_at_call 22; exact calls_ext (HMc.out _))))
          refine wpQuiet_nil ?_
          intro X
          have hX := X.le
          have HA3 : Hid (Blk X.wd w.heap.size 26 #[I d0, I d1, I d2] ∧ Blk X.wd (w.heap.size + 1) 32 (C6 b) ∧ Lx X.wd w2.heap.size (.slice (some ⟨gl, 0, none⟩) xs.length lc) xs ∧ Below w.heap.size w X.wd) := ⟨HA2.out.1.later hX, HA2.out.2.1.later hX, HA2.out.2.2.1.later hX, HA2.out.2.2.2.2.trans (hX.mono HA2.out.2.2.2.2.size)⟩
          clear x0 x1 x2 x3 x4 x5 z0 z1 z2 hX HA2 HMc hs
          generalize X.wd = w6 at *
          clear X
          go_wp2
          have hmax : (if m < mb then mb else m) = max m mb := by
            split <;> omega
          refine ⟨⟨k + 1, true, max m mb, by omega, by go_num, by first | rfl | simp, by first | rw [hmax] | rfl, ⟨by rw [HT1.out.1]; rw [Bool.true_or], HT1.out.2⟩, HA3.out.1, HA3.out.2.1, HA3.out.2.2.1, HA3.out.2.2.2⟩, by simp [RowKit.intOf]; omega⟩
      · obtain rfl : k = xs.length := by omega
        have HM2 : Hid (t = mx ∧ m = R) := by
          have := Hm.out
          rw [List.take_length] at this
          exact ⟨this.1.symm.trans HR.out.2, this.2.symm.trans HR.out.1⟩
        clear Hm hLr
        obtain ⟨rfl, rfl⟩ := HM2.out
        clear HM2
        have hcan : ∃ (cb : Bx) (er : Int) (ns : List Int), (∀ w, Calls Try.prog 23 #[A3 d0 d1 d2, B6 b] w fun e W' => e = .returned (.tuple #[B6 cb, I er]) ∧ Below w.heap.size w W') ∧
            (∀ w, Calls Try.prog 24 #[A3 d0 d1 d2, B6 b] w fun e W' => ∃ v, e = .returned (.tuple #[v, I er]) ∧ Lst W' w.heap.size v ns ∧ Below w.heap.size w W') ∧ ns.length ≤ 4096 ∧
            ((er = 0 ∧ t = offTo (d0 * d1 * d2) ws (sameBx cb b) ns) ∨ (er ≠ 0 ∧ ns = [] ∧ t = false)) := by
          by_cases hb : mayB d0 d1 d2 b
          · refine ⟨_, 0, _, fun w => bcanon_ok w HD.out.1 hb, fun w => bnodes_ok w HD.out.1 hb, nodesB_len HD.out.1 b, .inl ⟨rfl, ?_⟩⟩
            have := HFin.out
            rw [(mayBB_iff _ _ _ _).2 hb, Bool.true_and] at this
            exact this
          · have he2 := errB_no HD.out.1 hb
            have c1 := fun w => bcanon_err w (d0 := d0) (d1 := d1) (d2 := d2) (b := b) (by rw [he2]; decide)
            have c2 := fun w => bnodes_err w (d0 := d0) (d1 := d1) (d2 := d2) (b := b) (by rw [he2]; decide)
            rw [he2] at c1 c2
            refine ⟨_, 2, [], c1, fun w => (c2 w).mono (by rintro e W' ⟨rfl, hB⟩; exact ⟨_, rfl, Lst.nil _ _, hB⟩), by simp, .inr ⟨by decide, rfl, ?_⟩⟩
            have := HFin.out
            rw [mayBB_no hb, Bool.false_and] at this
            exact this
        obtain ⟨cb, er, ns, hC1, hC2, hnl, hcs⟩ := hcan
        have HC1 : Hid (∀ w, Calls Try.prog 23 #[A3 d0 d1 d2, B6 b] w fun e W' => e = .returned (.tuple #[B6 cb, I er]) ∧ Below w.heap.size w W') := hC1
        have HC2 : Hid (∀ w, Calls Try.prog 24 #[A3 d0 d1 d2, B6 b] w fun e W' => ∃ v, e = .returned (.tuple #[v, I er]) ∧ Lst W' w.heap.size v ns ∧ Below w.heap.size w W') := hC2
        have Hcs : Hid ((er = 0 ∧ t = offTo (d0 * d1 * d2) ws (sameBx cb b) ns) ∨ (er ≠ 0 ∧ ns = [] ∧ t = false)) := hcs
        clear hC1 hC2 hcs HFin HR
        obtain ⟨e0, e1, e2, ez⟩ := kd.three (Below.refl _ _)
        obtain ⟨g0, g1, g2, g3, g4, g5, gz⟩ := kb.sixX (Below.refl _ _)
        go_wp2_with fail
        refine (HC1.out _).mono ?_
        rintro e w7 ⟨rfl, hB⟩
        have kd7 := kd.later hB
        have kb7 := kb.later hB
        have hT7 := then_below HBw.out hB
        clear e0 e1 e2 ez g0 g1 g2 g3 g4 g5 gz kd kb HBw hB HC1
        obtain ⟨w8, hw8⟩ : ∃ w8, w8 = w7.alloc (.cells (C6 cb) 32) := ⟨_, rfl⟩
        have hB8 : Below w7.heap.size w7 w8 := by rw [hw8]; exact (Below.refl _ w7).alloc (Nat.le_refl _) _
        have kc : Blk w8 w7.heap.size 32 (C6 cb) := by rw [hw8]; exact Blk.new _ _ _
        have HW8 : Hid (w7.alloc (.cells (C6 cb) 32) = w8) := hw8.symm
        obtain ⟨e0, e1, e2, ez⟩ := kd7.three (Below.refl _ _)
        obtain ⟨g0, g1, g2, g3, g4, g5, gz⟩ := kb7.sixX (Below.refl _ _)
        clear hw8
        go_wp2_with fail
        rw [HW8.out]
        refine (HC2.out _).mono ?_
        rintro e w9 ⟨nv, rfl, hN, hB⟩
        have hT := then_below hB8 hB
        replace kd7 := kd7.later hT
        replace kb7 := kb7.later hT
        replace kc := kc.later hB
        have hT9 := then_below hT7 hT
        clear e0 e1 e2 ez g0 g1 g2 g3 g4 g5 gz hT7 hB8 HW8 hT hB HC2
        obtain ⟨no, nc, rfl, _⟩ := hN.view
        obtain ⟨g0, g1, g2, g3, g4, g5, gz⟩ := kb7.sixX (Below.refl _ _)
        obtain ⟨q0, q1, q2, q3, q4, q5, qz⟩ := kc.sixX (Below.refl _ _)
        rcases Hcs.out with ⟨rfl, ht⟩ | ⟨hne, rfl, rfl⟩
        · obtain ⟨w0, hw0⟩ : ∃ w0, sameBx ⟨cb.x, cb.y, cb.z, cb.a, cb.b, cb.c⟩ ⟨b.x, b.y, b.z, b.a, b.b, b.c⟩ = w0 := ⟨_, rfl⟩
          have HO : Hid (t = offTo (d0 * d1 * d2) ws w0 ns) := by
            show _ = _
            rw [← hw0]
            exact ht
          have hn := N_bd HD.out.1
          have hw1 : wrap64 (d0 * d1) = d0 * d1 := wrap_in _ (by
            obtain ⟨⟨u1, u2⟩, ⟨v1, v2⟩, _⟩ := HD.out.1
            have hm : 0 ≤ d0 * d1 ∧ d0 * d1 ≤ 16 * 16 := mul_bd (by omega) u2 (by omega) v2
            omega)
          have hw2 : wrap64 (d0 * d1 * d2) = d0 * d1 * d2 := wrap_in _ (by omega)
          have HHa : Hid (∀ (m : Int) (w1 : World), Below w.heap.size w w1 → Calls Try.prog 25 #[I (d0 * d1 * d2), .slice ao ws.length cap, I m] w1 fun e W' => e = .returned (.tuple #[.bool (hasR (d0 * d1 * d2) ws m), I 0]) ∧ Below w1.heap.size w1 W') := fun m w1 h1 => by
            have := hasSet_calls w1 (HV.out.later h1) (d0 * d1 * d2) m
            rw [HD.out.2] at this
            exact this
          clear ht Hcs
          go_wp2
          go_loopw [21, 22] (fun x i wr => ∃ (k : Nat) (p : Bool), k ≤ ns.length ∧ i = .int .i64 k ∧ x = .bool p ∧ Hid (offTo (d0 * d1 * d2) ws w0 (ns.take k) = p) ∧ Blk wr w.heap.size 26 #[I d0, I d1, I d2] ∧ Lst wr w8.heap.size (.slice no ns.length nc) ns ∧ Hid (Below w.heap.size w wr)) (fun _ i _ => ns.length - (RowKit.intOf i).toNat)
          case atStart => exact ⟨0, w0, by omega, rfl, rfl, by simp [offTo, Hid], kd7, hN, hT9⟩
          case round =>
            clear g0 g1 g2 g3 g4 g5 gz q0 q1 q2 q3 q4 q5 qz kd7 kb7 kc hT9 hN hw0
            rename World => wr7
            obtain ⟨k, p, hk, rfl, rfl, Hp, kd, hN, HBw⟩ := hrel
            by_cases hlt : (k : Int) < (ns.length : Int)
            · have hk2 : k < ns.length := by omega
              obtain ⟨no', nc', he', hview⟩ := hN.view
              obtain ⟨gn, cur, hgn, hcur, hcv⟩ := hview k hk2
              obtain ⟨rfl, _, rfl⟩ : no = no' ∧ True ∧ nc = nc' := by simpa using he'
              subst hgn
              obtain ⟨m2, hm2⟩ : ∃ m2, m2 = ns.getD k 0 := ⟨_, rfl⟩
              rw [← hm2] at hcv
              have HT2 : Hid (offTo (d0 * d1 * d2) ws w0 (ns.take (k + 1)) = (p && !hasR (d0 * d1 * d2) ws m2)) := by
                show _ = _
                rw [List.take_succ_eq_append_getElem hk2, offTo_app, Hp.out, show ns[k] = m2 by rw [hm2]; simp [hk2]]
              have x0 : ∀ X : Ext wr7, X.wd.cell? ⟨gn, k, none⟩ = some (I m2) := fun X => ((hcur.later X.le).cell k).trans hcv
              have z0 := Ext.cell kd 0
              have z1 := Ext.cell kd 1
              have z2 := Ext.cell kd 2
              simp at z0 z1 z2
              have HAll : Hid (Blk wr7 w.heap.size 26 #[I d0, I d1, I d2] ∧ Lst wr7 w8.heap.size (.slice (some ⟨gn, 0, none⟩) ns.length nc) ns ∧ Below w.heap.size w wr7) := ⟨kd, hN, HBw.out⟩
              have HHx : Hid (∀ X : Ext wr7, Calls Try.prog 25 #[I (d0 * d1 * d2), .slice ao ws.length cap, I m2] X.wd fun e W' => e = .returned (.tuple #[.bool (hasR (d0 * d1 * d2) ws m2), I 0]) ∧ Below X.wd.heap.size X.wd W') := fun X => HHa.out m2 X.wd (HBw.out.trans (X.le.mono HBw.out.size))
              clear hm2 hcur hcv hview he' kd hN HBw Hp
              generalize hasR (d0 * d1 * d2) ws m2 = hr at *
              go_wp2_with fail
              refine wp_region_look mixed (by kernel_rfl) ?_
              repeat (go_big_quiet_step ((go_at_call 25; exact calls_ext (HHx.out _))))
              refine wpQuiet_nil ?_
              intro X
              have hX := X.le
              have HA2 : Hid (Blk X.wd w.heap.size 26 #[I d0, I d1, I d2] ∧ Lst X.wd w8.heap.size (.slice (some ⟨gn, 0, none⟩) ns.length nc) ns ∧ Below w.heap.size w X.wd) := ⟨HAll.out.1.later hX, HAll.out.2.1.later hX, HAll.out.2.2.trans (hX.mono HAll.out.2.2.size)⟩
              clear x0 z0 z1 z2 hX HAll HHx
              generalize X.wd = w6 at *
              clear X
              cases p
              · go_wp2
                exact ⟨⟨k + 1, false, by omega, by go_num, by first | rfl | simp, HT2.out, HA2.out.1, HA2.out.2.1, HA2.out.2.2⟩, by simp [RowKit.intOf]; omega⟩
              · go_wp2
                exact ⟨⟨k + 1, !hr, by omega, by go_num, by first | rfl | simp, HT2.out, HA2.out.1, HA2.out.2.1, HA2.out.2.2⟩, by simp [RowKit.intOf]; omega⟩
            · obtain rfl : k = ns.length := by omega
              have HPt : Hid (p = t) := by
                have := Hp.out
                rw [List.take_length] at this
                exact this.symm.trans HO.out.symm
              clear Hp hN kd
              obtain rfl := HPt.out
              clear HPt HO
              cases p <;> (go_wp2; go_ret; exact ⟨by first | rfl | simp, HBw.out⟩)
        · have hE0 : decide (er = 0) = false := by simpa using hne
          have hE1 : (er == 0) = false := by simpa using hne
          clear hne Hcs
          go_wp2
          refine wp_loop_rounds 1 ?_
          rw [rounds_succ]
          go_wp2
          go_ret
          exact ⟨by first | rfl | simp, hT9⟩
  · have hE0 : decide (errF d0 d1 d2 ws = 0) = false := by simpa using he
    have hE1 : (errF d0 d1 d2 ws == 0) = false := by simpa using he
    have hE2 : (errF d0 d1 d2 ws != 0) = true := by simpa using he
    rw [topV_bad he]
    clear he
    generalize errF d0 d1 d2 ws = er at *
    go_wp2
    go_ret
    exact ⟨by first | rfl | simp, hT⟩

end Go.Proofs.Ytjmfdpilmljppaa

/-
  How the arguments of this seat's statements are opened: whole numbers, and rows of three of them.
-/
namespace Go.Proofs.Ytjmfdpilmljppaa
open Go.ChangeShapes Go.WideShapes Go.ChangeAt Go.RowKit

theorem own : ownKnob Try.prog.godebug = none := by kernel_rfl
theorem laidOut : laidOutB Try.prog = true := by kernel_rfl

theorem list3 {α : Type} (l : List α) (h : (⟨l⟩ : Array α).size = 3) : ∃ a b c, l = [a, b, c] := by
  match l, h with
  | [a, b, c], _ => exact ⟨a, b, c, rfl⟩

/-- A row of three whole numbers, by value. -/
theorem open_arr3 {P : Program} {w : World} {H : Type} {enc : TypeId × Value → H} {r : Reach} {b0 base : Nat} {spare : Nat → Bool} {held : Bool} {t e : TypeId} {v : Value} {d : DataW H} {p : List MemPlace}
    (ht : P.underlying t = some (.array 3 e)) (he : P.underlying e = some (.int .i64)) (hce : P.cellsOf e = 1) (hct : P.cellsOf t = 3)
    (hv : Value.okWide P w r b0 t v) (h : DataW.Trod enc P w base spare held t v d p) :
    ∃ a b c : Int, v = A3 a b c ∧ (Lit.int .i64 a).wf = true ∧ (Lit.int .i64 b).wf = true ∧ (Lit.int .i64 c).wf = true := by
  obtain ⟨cs, rfl, hsz, _⟩ : ∃ cs, v = .agg cs ∧ cs.size = P.cellsOf t ∧ Row.okWide P w r b0 t cs := by
    simpa [Value.okWide, ht] using hv
  rw [hct] at hsz
  obtain ⟨l⟩ := cs
  obtain ⟨c0, c1, c2, rfl⟩ := list3 l hsz
  obtain ⟨fuel, hf⟩ := h
  obtain ⟨y0, y1, y2, m, hx, hy0, hy1, hy2⟩ := trod_array3 ht hce hf
  obtain ⟨x0, e0, rfl, w0⟩ := DataW.trod_int he hy0
  obtain ⟨x1, e1, rfl, w1⟩ := DataW.trod_int he hy1
  obtain ⟨x2, e2, rfl, w2⟩ := DataW.trod_int he hy2
  simp at e0 e1 e2
  subst e0 e1 e2
  exact ⟨x0, x1, x2, rfl, w0, w1, w2⟩

theorem open_num {P : Program} {w : World} {H : Type} {enc : TypeId × Value → H} {r : Reach} {b0 base : Nat} {spare : Nat → Bool} {held : Bool} {t : TypeId} {k : IntKind} {v : Value} {d : DataW H} {p : List MemPlace}
    (ht : P.underlying t = some (.int k)) (hv : Value.okWide P w r b0 t v) (h : DataW.Trod enc P w base spare held t v d p) :
    ∃ a : Int, v = .int k a ∧ (Lit.int k a).wf = true := by
  obtain ⟨x, rfl, rfl, rfl, wx⟩ := open_int ht hv h
  exact ⟨x, rfl, wx⟩

theorem trod_lt' {H : Type} {enc : TypeId × Value → H} {P : Program} {W : World} {t : TypeId} {v : Value} {d : DataW H} {ps : List MemPlace} {sp : Nat → Bool} (h : DataW.Trod enc P W 0 sp true t v d ps) : ∀ x ∈ ps, x.block < W.heap.size := by
  obtain ⟨m, hm⟩ := h; exact DataW.trod_lt m _ _ _ hm

end Go.Proofs.Ytjmfdpilmljppaa

/-
  How a box among a statement's arguments is opened: six whole numbers.
-/
namespace Go.Proofs.Ytjmfdpilmljppaa
open Go.ChangeShapes Go.WideShapes Go.ChangeAt Go.RowKit

theorem list6 {α : Type} (l : List α) (h : (⟨l⟩ : Array α).size = 6) : ∃ a b c d e f, l = [a, b, c, d, e, f] := by
  match l, h with
  | [a, b, c, d, e, f], _ => exact ⟨a, b, c, d, e, f, rfl⟩

set_option maxRecDepth 100000 in
theorem open_box {w : World} {H : Type} {enc : TypeId × Value → H} {r : Reach} {b0 base : Nat} {spare : Nat → Bool} {held : Bool} {v : Value} {d : DataW H} {p : List MemPlace}
    (hv : Value.okWide Try.prog w r b0 32 v) (h : DataW.Trod enc Try.prog w base spare held 32 v d p) : ∃ b : Bx, v = B6 b := by
  obtain ⟨f0, f1, hu, t0, o0, t1, o1⟩ : ∃ f0 f1, Try.prog.underlying 32 = some (.struct #[f0, f1]) ∧ f0.type = 25 ∧ f0.offset = 0 ∧ f1.type = 25 ∧ f1.offset = 3 := ⟨_, _, rfl, rfl, rfl, rfl, rfl⟩
  obtain ⟨cs, rfl, hsz, _⟩ : ∃ cs, v = .agg cs ∧ cs.size = Try.prog.cellsOf 32 ∧ Row.okWide Try.prog w r b0 32 cs := by
    simpa [Value.okWide, hu] using hv
  have hct : Try.prog.cellsOf 32 = 6 := by kernel_rfl
  rw [hct] at hsz
  obtain ⟨l⟩ := cs
  obtain ⟨c0, c1, c2, c3, c4, c5, rfl⟩ := list6 l hsz
  obtain ⟨fuel, hf⟩ := h
  obtain ⟨x, y, n, _, _, h0, h1⟩ := trod_struct2 hu hf
  have hc3 : Try.prog.cellsOf 25 = 3 := by kernel_rfl
  have hc1 : Try.prog.cellsOf 3 = 1 := by kernel_rfl
  rw [t0, o0, hc3] at h0
  rw [t1, o1, hc3] at h1
  have h0 : DataW.trod enc Try.prog w base spare held n 25 [c0, c1, c2] = some x := h0
  have h1 : DataW.trod enc Try.prog w base spare held n 25 [c3, c4, c5] = some y := h1
  obtain ⟨_, _, _, m, _, g0, g1, g2⟩ := trod_array3 Try.underlying25 hc1 h0
  obtain ⟨_, _, _, m', _, g3, g4, g5⟩ := trod_array3 Try.underlying25 hc1 h1
  obtain ⟨x0, e0, _, _⟩ := DataW.trod_int Try.underlying3 g0
  obtain ⟨x1, e1, _, _⟩ := DataW.trod_int Try.underlying3 g1
  obtain ⟨x2, e2, _, _⟩ := DataW.trod_int Try.underlying3 g2
  obtain ⟨x3, e3, _, _⟩ := DataW.trod_int Try.underlying3 g3
  obtain ⟨x4, e4, _, _⟩ := DataW.trod_int Try.underlying3 g4
  obtain ⟨x5, e5, _, _⟩ := DataW.trod_int Try.underlying3 g5
  simp at e0 e1 e2 e3 e4 e5
  subst e0 e1 e2 e3 e4 e5
  exact ⟨⟨x0, x1, x2, x3, x4, x5⟩, rfl⟩

end Go.Proofs.Ytjmfdpilmljppaa

/-
  How a set, and a list of whole numbers, among a statement's arguments is opened.
-/
namespace Go.Proofs.Ytjmfdpilmljppaa
open Go Go.ChangeShapes Go.WideShapes Go.ChangeAt Go.RowKit

theorem spot_none {w : World} {a : Addr} {v : Value} (h : w.cell? a = some v) : a.spot = none := by
  unfold World.cell? at h
  split at h
  · split at h
    · cases h
    · rename_i hs
      cases hq : a.spot
      · rfl
      · rw [hq] at hs; exact absurd rfl hs
  · cases h
theorem block_lt {w : World} {a : Addr} {v : Value} (h : w.cell? a = some v) : a.block < w.heap.size := by
  unfold World.cell? at h
  split at h
  · rename_i hs
    exact (Array.getElem?_eq_some_iff.1 hs).1
  · cases h

set_option maxRecDepth 100000 in
/-- A slice of numbers of one kind, as it came in. -/
theorem open_row_of {P : Program} {w : World} {H : Type} {enc : TypeId × Value → H} {r : Reach} {b0 base : Nat} {spare : Nat → Bool} {held : Bool} {t e : TypeId} {k : IntKind} {v : Value} {d : DataW H} {p : List MemPlace}
    (ht : P.underlying t = some (.slice e)) (he : P.underlying e = some (.int k)) (hc : P.cellsOf e = 1)
    (hv : Value.okWide P w r b0 t v) (h : DataW.Trod enc P w base spare held t v d p) :
    ∃ zs : List Int, (∀ z ∈ zs, (Lit.int k z).wf = true) ∧ Sl w v (zs.map (Value.int k)) ∧ (v = .slice none 0 0 ∧ zs = [] ∨ ∃ ad cap, v = .slice (some ad) zs.length cap) := by
  obtain ⟨a, len, cap, rfl⟩ := okWide_slice ht hv
  obtain ⟨fuel, hf⟩ := h
  rcases open_ints ht he hc hf with ⟨hcs, -⟩ | ⟨a0, len0, cap0, zs, hcs, _, hl, _, hz, _, hcell, hwf⟩
  · have e0 : Value.slice a len cap = .slice none 0 0 := by
      have : [Value.slice a len cap] = [.slice none 0 0] := hcs
      exact List.head_eq_of_cons_eq this
    rw [e0]
    exact ⟨[], fun _ h => (by cases h), Sl.nil w, .inl ⟨rfl, rfl⟩⟩
  · have e0 : Value.slice a len cap = .slice (some a0) len0 cap0 := by
      have : [Value.slice a len cap] = [.slice (some a0) len0 cap0] := hcs
      exact List.head_eq_of_cons_eq this
    rw [e0]
    have hlz : len0 ≤ zs.length := by rw [hz]; split <;> omega
    have hlt : (zs.take len0).length = len0 := by simp [hlz]
    refine ⟨zs.take len0, fun z hz' => hwf z (List.mem_of_mem_take hz'), ⟨some a0, cap0, by simp [hlz], fun i hi => ?_⟩, .inr ⟨a0, cap0, by rw [hlt]⟩⟩
    rw [List.length_map, hlt] at hi
    have hi2 : i < zs.length := by omega
    have c0 := hcell i hi2
    have cc := hcell 0 (by omega)
    obtain ⟨g, off, sp⟩ := a0
    have hs : sp = none := by
      have := spot_none cc
      simpa [Addr.add] using this
    subst hs
    have ea : (⟨g, off, none⟩ : Addr).add i = ⟨g, off + i, none⟩ := by
      unfold Addr.add
      split
      · rename_i h0; subst h0; rfl
      · rfl
    rw [ea] at c0
    exact ⟨g, off, rfl, block_lt c0, by rw [c0]; simp [hi, hi2]⟩

theorem word_of {z : Int} (h : (Lit.int .u64 z).wf = true) : 0 ≤ z ∧ z < 18446744073709551616 := by
  unfold Lit.wf at h
  simp [IntKind.min, IntKind.max, IntKind.signed, IntKind.bits] at h
  omega

set_option maxRecDepth 100000 in
theorem open_set {w : World} {H : Type} {enc : TypeId × Value → H} {r : Reach} {b0 base : Nat} {spare : Nat → Bool} {held : Bool} {v : Value} {d : DataW H} {p : List MemPlace}
    (hv : Value.okWide Try.prog w r b0 30 v) (h : DataW.Trod enc Try.prog w base spare held 30 v d p) : ∃ ws : List Nat, ArgW w v ws := by
  obtain ⟨zs, hw, hs, hc⟩ := open_row_of Try.underlying30 Try.underlying28 (by kernel_rfl) hv h
  have e : (zs.map Int.toNat).map U = zs.map (Value.int .u64) := by
    rw [List.map_map]
    apply List.map_congr_left
    intro z hz
    have := word_of (hw z hz)
    show Value.int .u64 ((z.toNat : Nat) : Int) = _
    rw [Int.toNat_of_nonneg this.1]
  refine ⟨zs.map Int.toNat, ⟨fun x hx => ?_, by rw [e]; exact hs⟩, ?_⟩
  · obtain ⟨z, hz, rfl⟩ := List.mem_map.1 hx
    have := word_of (hw z hz)
    omega
  · rcases hc with ⟨rfl, _⟩ | ⟨ad, cap, rfl⟩
    · exact .inl rfl
    · exact .inr ⟨ad, cap, by simp⟩

set_option maxRecDepth 100000 in
theorem open_list {w : World} {H : Type} {enc : TypeId × Value → H} {r : Reach} {b0 base : Nat} {spare : Nat → Bool} {held : Bool} {v : Value} {d : DataW H} {p : List MemPlace}
    (hv : Value.okWide Try.prog w r b0 52 v) (h : DataW.Trod enc Try.prog w base spare held 52 v d p) : ∃ xs : List Int, ArgI w v xs ∧ ∀ x ∈ xs, (Lit.int .i64 x).wf = true := by
  obtain ⟨zs, hw, hs, hc⟩ := open_row_of Try.underlying52 Try.underlying3 (by kernel_rfl) hv h
  refine ⟨zs, ⟨hs, ?_⟩, hw⟩
  rcases hc with ⟨rfl, _⟩ | h
  · exact .inl rfl
  · exact .inr h

end Go.Proofs.Ytjmfdpilmljppaa
