/-
  How a set, and a list of whole numbers, among a statement's arguments is opened.
-/
import Derived.Test.YtkbdkhohecdbhaaPart22
import Derived.Test.YtkbdkhohecdbhaaPart28
import Derived.ChangeSlices
namespace Go.Proofs.Ytkbdkhohecdbhaa
open Go Go.ChangeShapes Go.WideShapes Go.ChangeAt Go.RowKit

theorem spot_none {w : World} {a : Addr} {v : Value} (h : w.cell? a = some v) : a.spot = none := by
  unfold World.cell? at h
  split at h
  · split at h
    · cases h
    · rename_i hs
      cases hq : a.spot
      · rfl
      · rw [hq] at hs; exact absurd rfl hs
  · cases h
theorem block_lt {w : World} {a : Addr} {v : Value} (h : w.cell? a = some v) : a.block < w.heap.size := by
  unfold World.cell? at h
  split at h
  · rename_i hs
    exact (Array.getElem?_eq_some_iff.1 hs).1
  · cases h

set_option maxRecDepth 100000 in
/-- A slice of numbers of one kind, as it came in. -/
theorem open_row_of {P : Program} {w : World} {H : Type} {enc : TypeId × Value → H} {r : Reach} {b0 base : Nat} {spare : Nat → Bool} {held : Bool} {t e : TypeId} {k : IntKind} {v : Value} {d : DataW H} {p : List MemPlace}
    (ht : P.underlying t = some (.slice e)) (he : P.underlying e = some (.int k)) (hc : P.cellsOf e = 1)
    (hv : Value.okWide P w r b0 t v) (h : DataW.Trod enc P w base spare held t v d p) :
    ∃ zs : List Int, (∀ z ∈ zs, (Lit.int k z).wf = true) ∧ Sl w v (zs.map (Value.int k)) ∧ (v = .slice none 0 0 ∧ zs = [] ∨ ∃ ad cap, v = .slice (some ad) zs.length cap) := by
  obtain ⟨a, len, cap, rfl⟩ := okWide_slice ht hv
  obtain ⟨fuel, hf⟩ := h
  rcases open_ints ht he hc hf with ⟨hcs, -⟩ | ⟨a0, len0, cap0, zs, hcs, _, hl, _, hz, _, hcell, hwf⟩
  · have e0 : Value.slice a len cap = .slice none 0 0 := by
      have : [Value.slice a len cap] = [.slice none 0 0] := hcs
      exact List.head_eq_of_cons_eq this
    rw [e0]
    exact ⟨[], fun _ h => (by cases h), Sl.nil w, .inl ⟨rfl, rfl⟩⟩
  · have e0 : Value.slice a len cap = .slice (some a0) len0 cap0 := by
      have : [Value.slice a len cap] = [.slice (some a0) len0 cap0] := hcs
      exact List.head_eq_of_cons_eq this
    rw [e0]
    have hlz : len0 ≤ zs.length := by rw [hz]; split <;> omega
    have hlt : (zs.take len0).length = len0 := by simp [hlz]
    refine ⟨zs.take len0, fun z hz' => hwf z (List.mem_of_mem_take hz'), ⟨some a0, cap0, by simp [hlz], fun i hi => ?_⟩, .inr ⟨a0, cap0, by rw [hlt]⟩⟩
    rw [List.length_map, hlt] at hi
    have hi2 : i < zs.length := by omega
    have c0 := hcell i hi2
    have cc := hcell 0 (by omega)
    obtain ⟨g, off, sp⟩ := a0
    have hs : sp = none := by
      have := spot_none cc
      simpa [Addr.add] using this
    subst hs
    have ea : (⟨g, off, none⟩ : Addr).add i = ⟨g, off + i, none⟩ := by
      unfold Addr.add
      split
      · rename_i h0; subst h0; rfl
      · rfl
    rw [ea] at c0
    exact ⟨g, off, rfl, block_lt c0, by rw [c0]; simp [hi, hi2]⟩

theorem word_of {z : Int} (h : (Lit.int .u64 z).wf = true) : 0 ≤ z ∧ z < 18446744073709551616 := by
  unfold Lit.wf at h
  simp [IntKind.min, IntKind.max, IntKind.signed, IntKind.bits] at h
  omega

set_option maxRecDepth 100000 in
theorem open_set {w : World} {H : Type} {enc : TypeId × Value → H} {r : Reach} {b0 base : Nat} {spare : Nat → Bool} {held : Bool} {v : Value} {d : DataW H} {p : List MemPlace}
    (hv : Value.okWide Try.prog w r b0 46 v) (h : DataW.Trod enc Try.prog w base spare held 46 v d p) : ∃ ws : List Nat, ArgW w v ws := by
  obtain ⟨zs, hw, hs, hc⟩ := open_row_of Try.underlying46 Try.underlying59 (by kernel_rfl) hv h
  have e : (zs.map Int.toNat).map U = zs.map (Value.int .u64) := by
    rw [List.map_map]
    apply List.map_congr_left
    intro z hz
    have := word_of (hw z hz)
    show Value.int .u64 ((z.toNat : Nat) : Int) = _
    rw [Int.toNat_of_nonneg this.1]
  refine ⟨zs.map Int.toNat, ⟨fun x hx => ?_, by rw [e]; exact hs⟩, ?_⟩
  · obtain ⟨z, hz, rfl⟩ := List.mem_map.1 hx
    have := word_of (hw z hz)
    omega
  · rcases hc with ⟨rfl, _⟩ | ⟨ad, cap, rfl⟩
    · exact .inl rfl
    · exact .inr ⟨ad, cap, by simp⟩

set_option maxRecDepth 100000 in
theorem open_list {w : World} {H : Type} {enc : TypeId × Value → H} {r : Reach} {b0 base : Nat} {spare : Nat → Bool} {held : Bool} {v : Value} {d : DataW H} {p : List MemPlace}
    (hv : Value.okWide Try.prog w r b0 29 v) (h : DataW.Trod enc Try.prog w base spare held 29 v d p) : ∃ xs : List Int, ArgI w v xs ∧ ∀ x ∈ xs, (Lit.int .i64 x).wf = true := by
  obtain ⟨zs, hw, hs, hc⟩ := open_row_of Try.underlying29 Try.underlying3 (by kernel_rfl) hv h
  refine ⟨zs, ⟨hs, ?_⟩, hw⟩
  rcases hc with ⟨rfl, _⟩ | h
  · exact .inl rfl
  · exact .inr h

end Go.Proofs.Ytkbdkhohecdbhaa

/-
  WhenLeast: the walk.
-/
namespace Go.Proofs.Ytkbdkhohecdbhaa
open Go Go.RowKit Go.Shelf

attribute [local go_sem] Oper.semAt_some ext_const

set_option maxRecDepth 100000 in
set_option maxHeartbeats 32000000 in
theorem whenLeast_walk (a b c x at' long : Int) (w : World) {n l vm vk : Value} {ns ls : List (List Slt)} {mw lw : List Nat} (hN : Yl w n ns) (hL : Yl w l ls) (bN : Lids ns) (bL : Lids ls) (hM : ArgW w vm mw) (hK' : ArgW w vk lw) :
    Calls Try.prog 5 #[Y5 a b c n l, vm, vk, I x, I at', I long] w fun e W' => e = .returned (.bool true) ∧ Below w.heap.size w W' := by
  have hmx : Try.prog.follows .mixedOrders = true := by kernel_rfl
  obtain ⟨W, hW, hB, hK⟩ := one_start w (K5 a b c n l) 26
  have HW : Hid (w.alloc (.cells (K5 a b c n l) 26) = W) := hW
  have hM := hM.1
  have hK' := hK'.1
  have HA : Hid (∀ w, Calls Try.prog 11 #[] w fun e W' => e = .returned (.bool true) ∧ Below w.heap.size w W') := alive10_calls
  have HG : Hid (∀ w1, Below W.heap.size W w1 → Calls Try.prog 13 #[Y5 a b c n l] w1 fun e W' => e = .returned (.bool (greatB ns ls)) ∧ Below w1.heap.size w1 W') := fun w1 hb => great_calls w1 (hN.later (then_below hB hb)) (hL.later (then_below hB hb)) bN bL
  have HTm : Hid ((slotsY ns ls).length ≤ 10000 → ∀ w1, Below W.heap.size W w1 → Calls Try.prog 10 #[Y5 a b c n l, I x] w1 fun e W' => ∃ r, e = .returned (.tuple #[r, I (timeE a b c ns ls x)]) ∧ Lst W' w1.heap.size r (timeV a b c ns ls x) ∧ Below w1.heap.size w1 W') := fun h w1 hb => wtimes_calls w1 (hN.later (then_below hB hb)) (hL.later (then_below hB hb)) (by omega)
  have HC1 : Hid (∀ w1, Below W.heap.size W w1 → Calls Try.prog 19 #[I ns.length, vm] w1 fun e W' => e = .returned (I (errAll ns.length [mw])) ∧ Below w1.heap.size w1 W') := fun w1 hb => chk_calls w1 (hM.later (then_below hB hb)) _
  have HC2 : Hid (∀ w1, Below W.heap.size W w1 → Calls Try.prog 19 #[I ls.length, vk] w1 fun e W' => e = .returned (I (errAll ls.length [lw])) ∧ Below w1.heap.size w1 W') := fun w1 hb => chk_calls w1 (hK'.later (then_below hB hb)) _
  have HFr : Hid (mayY a b c ns ls → errAll ns.length [mw] = 0 → errAll ls.length [lw] = 0 → 1 ≤ long → ∀ (f : Int), 0 ≤ f → f + long ≤ 1099511627776 → ∀ w1, Below W.heap.size W w1 → Calls Try.prog 20 #[Y5 a b c n l, vm, vk, I f, I long] w1 fun e W' => e = .returned (.bool (clearY ns ls mw lw f (f + long))) ∧ Below w1.heap.size w1 W') := fun hm e1 e2 h1 f h0 h2 w1 hb => free10_calls w1 (hN.later (then_below hB hb)) (hL.later (then_below hB hb)) (hM.later (then_below hB hb)) (hK'.later (then_below hB hb)) hm e1 e2 h0 h1 h2
  obtain ⟨an, cn, rfl, _⟩ := hN.form
  obtain ⟨al, cl, rfl, _⟩ := hL.form
  obtain ⟨am, cm, rfl, _⟩ := hM.view
  obtain ⟨ak, ck, rfl, _⟩ := hK'.view
  obtain ⟨gr, hgr⟩ : ∃ gr, gr = greatB ns ls := ⟨_, rfl⟩
  rw [← hgr] at HG
  have HSm : Hid (gr = false → Small ns ls) := fun h => small_of bN bL (hgr ▸ h)
  have HSt : Hid (gr = false → (slotsY ns ls).length ≤ 10000) := fun h => slots_small bN bL (hgr ▸ h)
  obtain ⟨e1, he1⟩ : ∃ e1, e1 = timeE a b c ns ls x := ⟨_, rfl⟩
  rw [← he1] at HTm
  have HE1 : Hid (e1 = 0 → (mayY a b c ns ls ∧ 0 ≤ x ∧ x < 1099511627776) ∧ timeV a b c ns ls x = timesT x (slotsY ns ls)) := fun h => ⟨timeE_zero (he1 ▸ h), by rw [timeV, if_pos (he1 ▸ h)]⟩
  clear hW hN hL bN bL hgr hM hK' he1
  go_enter Try.func5, Try.ntmps5
  go_wp2_with fail
  rw [HW.out]
  refine (HA.out _).mono ?_
  rintro e w1 ⟨rfl, hT1⟩
  obtain ⟨p0, p1, p2, p3, p4, hz⟩ := hK.yard hT1
  go_wp2_with fail
  refine (HG.out _ hT1).mono ?_
  rintro e w2 ⟨rfl, hB2⟩
  clear p0 p1 p2 p3 p4 hz
  have hT2 := then_below hT1 hB2
  obtain ⟨p0, p1, p2, p3, p4, hz⟩ := hK.yard hT2
  cases gr
  · have hsm := HSm.out rfl
    have hst := HSt.out rfl
    replace HTm := HTm.out hst
    have HTm : Hid (∀ w1, Below W.heap.size W w1 → Calls Try.prog 10 #[Y5 a b c (.slice an ns.length cn) (.slice al ls.length cl), I x] w1 fun e W' => ∃ r, e = .returned (.tuple #[r, I e1]) ∧ Lst W' w1.heap.size r (timeV a b c ns ls x) ∧ Below w1.heap.size w1 W') := HTm
    have HLn : Hid ((timesT x (slotsY ns ls)).length ≤ 10001) := by have := times_len x (slotsY ns ls); show _ ≤ _; omega
    clear HSm HSt hst hsm
    by_cases hl1 : 100 < (mw.length : Int)
    · clear HTm HC1 HC2 HFr HE1 HLn
      generalize mw.length = mn at *
      generalize lw.length = ln at *
      go_wp2
      go_ret
      exact ⟨rfl, then_below hB hT2⟩
    · have hl1b : decide (100 < (mw.length : Int)) = false := decide_eq_false hl1
      by_cases hl2 : 100 < (lw.length : Int)
      · clear HTm HC1 HC2 HFr HE1 HLn hl1
        generalize mw.length = mn at *
        generalize lw.length = ln at *
        go_wp2
        go_ret
        exact ⟨rfl, then_below hB hT2⟩
      · have hl2b : decide (100 < (lw.length : Int)) = false := decide_eq_false hl2
        clear hl1 hl2
        generalize mw.length = mn at *
        generalize lw.length = ln at *
        go_wp2_with fail
        refine (HTm.out _ hT2).mono ?_
        rintro e w3 ⟨r, rfl, hr, hB3⟩
        clear p0 p1 p2 p3 p4 hz hl1b hl2b HTm
        have hT3 := then_below hT2 hB3
        obtain ⟨p0, p1, p2, p3, p4, hz⟩ := hK.yard hT3
        by_cases h0 : e1 = 0
        · subst h0
          obtain ⟨⟨hm, hx0, hx1⟩, hv⟩ := HE1.out rfl
          rw [hv] at hr
          have HR : Hid (Lst w3 w2.heap.size r (timesT x (slotsY ns ls))) := hr
          have hbd := hm.bd
          have hmul : wrap64 (3 * (ns.length : Int)) = (ls.length : Int) := by rw [wrap_in _ (by omega)]; omega
          have HM : Hid (mayY a b c ns ls) := hm
          have HBd : Hid (1 ≤ ns.length ∧ ns.length ≤ 4096 ∧ ls.length = 3 * ns.length) := hbd
          have HX : Hid (0 ≤ x) := hx0
          clear HE1 hv hr hm hx1 hbd hx0
          have HLe : Hid (errAll ns.length [mw] = 0 → errAll ls.length [lw] = 0 → x ≤ at' → at' < 1099511627776 → 1 ≤ long → clearY ns ls mw lw at' (at' + long) = true → ∃ i, i < (timesT x (slotsY ns ls)).length ∧ (timesT x (slotsY ns ls)).getD i 0 ≤ at' ∧ clearY ns ls mw lw ((timesT x (slotsY ns ls)).getD i 0) ((timesT x (slotsY ns ls)).getD i 0 + long) = true) := fun e1 e2 h1 h2 h3 h4 => by
            have hm := HM.out
            have hbd := HBd.out
            exact least_in hm.2.2.2.1 hm.2.2.2.2 (by omega) (by omega) (by omega) (by omega) e1 e2 h1 h2 h3 h4
          have HFm : Hid (∀ i, i < (timesT x (slotsY ns ls)).length → x ≤ (timesT x (slotsY ns ls)).getD i 0) := fun i hi => times_from hi
          obtain ⟨CY, hCY⟩ : ∃ CY : Int → Bool, ∀ f, clearY ns ls mw lw f (f + long) = CY f := ⟨fun f => clearY ns ls mw lw f (f + long), fun _ => rfl⟩
          have HF2 : Hid (errAll ns.length [mw] = 0 → errAll ls.length [lw] = 0 → 1 ≤ long → ∀ (f : Int), 0 ≤ f → f + long ≤ 1099511627776 → ∀ w1, Below W.heap.size W w1 → Calls Try.prog 20 #[Y5 a b c (.slice an ns.length cn) (.slice al ls.length cl), .slice am mn cm, .slice ak ln ck, I f, I long] w1 fun e W' => e = .returned (.bool (CY f)) ∧ Below w1.heap.size w1 W') := fun e1 e2 h1 f h0 h2 w1 hb => by
            rw [← hCY f]
            exact HFr.out HM.out e1 e2 h1 f h0 h2 w1 hb
          have HLe2 : Hid (errAll ns.length [mw] = 0 → errAll ls.length [lw] = 0 → x ≤ at' → at' < 1099511627776 → 1 ≤ long → CY at' = true → ∃ i, i < (timesT x (slotsY ns ls)).length ∧ (timesT x (slotsY ns ls)).getD i 0 ≤ at' ∧ CY ((timesT x (slotsY ns ls)).getD i 0) = true) := fun e1 e2 h1 h2 h3 h4 => by
            obtain ⟨i, h5, h6, h7⟩ := HLe.out e1 e2 h1 h2 h3 (by rw [hCY]; exact h4)
            exact ⟨i, h5, h6, by rw [← hCY]; exact h7⟩
          obtain ⟨ao, cap, rfl, hA⟩ := HR.out.view
          have HAv : Hid (∀ k : Nat, k < (timesT x (slotsY ns ls)).length → ∃ g cur, ao = some ⟨g, 0, none⟩ ∧ Blk w3 g 3 cur ∧ cur[k]? = some (I ((timesT x (slotsY ns ls)).getD k 0))) := hA
          clear hA hCY HM HBd HR HG HA HFr HLe
          generalize timesT x (slotsY ns ls) = L at *
          generalize errAll ns.length [mw] = er1 at *
          generalize errAll ls.length [lw] = er2 at *
          generalize ns.length = nn at *
          generalize ls.length = ll at *
          by_cases h1 : at' < x
          · have d1 : decide (at' < x) = true := decide_eq_true h1
            clear h1 HC1 HC2 HF2 HLe2 HFm HAv
            go_wp2
            go_ret
            exact ⟨rfl, then_below hB hT3⟩
          · have d1 : decide (at' < x) = false := decide_eq_false h1
            by_cases h2 : 1099511627776 ≤ at'
            · have d2 : decide (1099511627776 ≤ at') = true := decide_eq_true h2
              clear h1 h2 HC1 HC2 HF2 HLe2 HFm HAv
              go_wp2
              go_ret
              exact ⟨rfl, then_below hB hT3⟩
            · have d2 : decide (1099511627776 ≤ at') = false := decide_eq_false h2
              have hx0 := HX.out
              have hsub : wrap64 (1099511627776 - at') = 1099511627776 - at' := wrap_in _ (by omega)
              by_cases h3 : long < 1
              · have d3 : decide (long < 1) = true := decide_eq_true h3
                clear h1 h2 h3 hx0 HC1 HC2 HF2 HLe2 HFm HAv
                go_wp2
                go_ret
                exact ⟨rfl, then_below hB hT3⟩
              · have d3 : decide (long < 1) = false := decide_eq_false h3
                by_cases h4 : 1099511627776 - at' < long
                · have d4 : decide (1099511627776 - at' < long) = true := decide_eq_true h4
                  clear h1 h2 h3 h4 hx0 HC1 HC2 HF2 HLe2 HFm HAv
                  go_wp2
                  go_ret
                  exact ⟨rfl, then_below hB hT3⟩
                · have d4 : decide (1099511627776 - at' < long) = false := decide_eq_false h4
                  have HNm : Hid (x ≤ at' ∧ at' < 1099511627776 ∧ 1 ≤ long ∧ at' + long ≤ 1099511627776) := ⟨by omega, by omega, by omega, by omega⟩
                  clear h1 h2 h3 h4 hx0
                  go_wp2_with fail
                  refine (HC1.out _ hT3).mono ?_
                  rintro e w4 ⟨rfl, hB4⟩
                  have hT4 := then_below hT3 hB4
                  by_cases h5 : er1 = 0
                  · subst h5
                    go_wp2_with fail
                    refine (HC2.out _ hT4).mono ?_
                    rintro e w5 ⟨rfl, hB5⟩
                    have hT5 := then_below hT4 hB5
                    by_cases h6 : er2 = 0
                    · subst h6
                      have hNm := HNm.out
                      have HF3 : Hid (∀ (f : Int), 0 ≤ f → f + long ≤ 1099511627776 → ∀ w1, Below W.heap.size W w1 → Calls Try.prog 20 #[Y5 a b c (.slice an nn cn) (.slice al ll cl), .slice am mn cm, .slice ak ln ck, I f, I long] w1 fun e W' => e = .returned (.bool (CY f)) ∧ Below w1.heap.size w1 W') := HF2.out (by trivial) (by trivial) hNm.2.2.1
                      have HL2 : Hid (CY at' = true → ∃ i, i < L.length ∧ L.getD i 0 ≤ at' ∧ CY (L.getD i 0) = true) := HLe2.out (by trivial) (by trivial) hNm.1 hNm.2.1 hNm.2.2.1
                      have HF0 : Hid (∀ w1, Below W.heap.size W w1 → Calls Try.prog 20 #[Y5 a b c (.slice an nn cn) (.slice al ll cl), .slice am mn cm, .slice ak ln ck, I at', I long] w1 fun e W' => e = .returned (.bool (CY at')) ∧ Below w1.heap.size w1 W') := HF3.out at' (by have := HX.out; omega) hNm.2.2.2
                      clear hNm HLe2 HF2 HC1 HC2 p0 p1 p2 p3 p4 hz
                      obtain ⟨p0, p1, p2, p3, p4, hz⟩ := hK.yard hT5
                      obtain ⟨q0, hq0⟩ : ∃ q0, q0 = CY at' := ⟨_, rfl⟩
                      rw [← hq0] at HF0 HL2
                      clear hq0
                      go_wp2_with fail
                      refine (HF0.out _ hT5).mono ?_
                      rintro e w6 ⟨rfl, hB6⟩
                      have hT6 := then_below hT5 hB6
                      have hR6 := then_below hB4 (then_below hB5 hB6)
                      clear HF0 p0 p1 p2 p3 p4 hz
                      cases q0
                      · clear HL2 HF3 HFm HAv
                        go_wp2
                        go_ret
                        exact ⟨rfl, then_below hB hT6⟩
                      · have HEx : Hid (∃ i, i < L.length ∧ L.getD i 0 ≤ at' ∧ CY (L.getD i 0) = true) := HL2.out rfl
                        clear HL2
                        go_wp2
                        go_loopw [17] (fun i wr => ∃ k : Nat, k ≤ L.length ∧ i = .int .i64 k ∧ Hid (∀ j, j < k → ¬ (L.getD j 0 ≤ at' ∧ CY (L.getD j 0) = true)) ∧ Below w6.heap.size w6 wr) (fun i _ => L.length - (RowKit.intOf i).toNat)
                        case atStart => exact ⟨0, by omega, rfl, fun j hj => by omega, Below.refl _ _⟩
                        case round =>
                          obtain ⟨k, hk, rfl, HI, hT7⟩ := hrel
                          have hLn := HLn.out
                          by_cases hlt : (k : Int) < (L.length : Int)
                          · have hkx : k < L.length := by omega
                            obtain ⟨g, cur, rfl, hg, hc⟩ := HAv.out k hkx
                            have hg7 := hg.later (then_below hR6 hT7)
                            have hTr := then_below hT6 hT7
                            have e0 := Ext.cell hg7 k
                            rw [hc] at e0
                            have y0 := Ext.cell (hK.later hTr) 0
                            have y1 := Ext.cell (hK.later hTr) 1
                            have y2 := Ext.cell (hK.later hTr) 2
                            have y3 := Ext.cell (hK.later hTr) 3
                            have y4 := Ext.cell (hK.later hTr) 4
                            simp at y0 y1 y2 y3 y4
                            have hxm := HFm.out k hkx
                            have HI2 : Hid (¬ (L.getD k 0 ≤ at' ∧ CY (L.getD k 0) = true) → ∀ j, j < k + 1 → ¬ (L.getD j 0 ≤ at' ∧ CY (L.getD j 0) = true)) := fun h j hj => by
                              by_cases e : j = k
                              · subst e; exact h
                              · exact HI.out j (by omega)
                            have HXk : Hid (x ≤ L.getD k 0) := hxm
                            clear hg hc hg7 hxm
                            generalize L.getD k 0 = y at *
                            by_cases hy : y ≤ at'
                            · have d5 : decide (y ≤ at') = true := decide_eq_true hy
                              have KF : Hid (∀ v : Ext wr, Calls Try.prog 20 #[Y5 a b c (.slice an nn cn) (.slice al ll cl), .slice am mn cm, .slice ak ln ck, I y, I long] v.wd fun e W' => e = .returned (.bool (CY y)) ∧ Below v.wd.heap.size v.wd W') := fun v => HF3.out y (by have := HX.out; have := HXk.out; omega) (by have := HNm.out; omega) _ (then_below hTr v.le)
                              obtain ⟨q, hq⟩ : ∃ q, q = CY y := ⟨_, rfl⟩
                              rw [← hq] at KF HI2
                              clear hq hy
                              cases q
                              · go_wp2
                                refine wp_region_look hmx (by kernel_rfl) ?_
                                repeat (go_big_quiet_step ((go_at_call 20; exact calls_ext (KF.out _))))
                                refine wpQuiet_nil ?_
                                intro v
                                go_wp2
                                go_roundw
                                case rel => exact ⟨k + 1, by omega, by go_num, HI2.out (by simp), then_below hT7 v.le⟩
                                case measure => simp [RowKit.intOf]; omega
                              · go_wp2
                                refine wp_region_look hmx (by kernel_rfl) ?_
                                repeat (go_big_quiet_step ((go_at_call 20; exact calls_ext (KF.out _))))
                                refine wpQuiet_nil ?_
                                intro v
                                go_wp2
                                go_ret
                                exact ⟨rfl, then_below hB (then_below hTr v.le)⟩
                            · have d5 : decide (y ≤ at') = false := decide_eq_false hy
                              have HI3 := HI2.out (fun h => hy h.1)
                              have HI3 : Hid (∀ j, j < k + 1 → ¬ (L.getD j 0 ≤ at' ∧ CY (L.getD j 0) = true)) := HI3
                              clear hy HI2
                              go_wp2
                              refine wp_region_look hmx (by kernel_rfl) ?_
                              repeat (go_big_quiet_step (fail))
                              refine wpQuiet_nil ?_
                              intro v
                              go_wp2
                              go_roundw
                              case rel => exact ⟨k + 1, by omega, by go_num, HI3, then_below hT7 v.le⟩
                              case measure => simp [RowKit.intOf]; omega
                          · obtain ⟨i, hi, h7, h8⟩ := HEx.out
                            exact absurd ⟨h7, h8⟩ (HI.out i (by omega))
                    · have hne : (er2 != 0) = true := by simp [h6]
                      clear HF2 HLe2 HFm HAv HC1 HC2 h6
                      go_wp2
                      go_ret
                      exact ⟨rfl, then_below hB hT5⟩
                  · have hne : (er1 != 0) = true := by simp [h5]
                    clear HF2 HLe2 HFm HAv HC1 HC2 h5
                    go_wp2
                    go_ret
                    exact ⟨rfl, then_below hB hT4⟩
        · have hne : (e1 != 0) = true := by simp [h0]
          clear HE1 HC1 HC2 HFr h0 hr
          go_wp2
          go_ret
          exact ⟨rfl, then_below hB hT3⟩
  · clear HTm HC1 HC2 HFr HE1 HSm HSt
    generalize mw.length = mn at *
    generalize lw.length = ln at *
    go_wp2
    go_ret
    exact ⟨rfl, then_below hB hT2⟩

end Go.Proofs.Ytkbdkhohecdbhaa
