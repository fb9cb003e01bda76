/-
  The set of some numbers: set.Of, tidehallref03.From, tidehallref03.Of.
-/
import Derived.Test.YtbedhpooeabehaaGreatDoorPart5
import Derived.WalkMore
import Derived.ScopeJumps
namespace Go.Proofs.YtbedhpooeabehaaGreatDoor
open Go Go.RowKit Go.Shelf

attribute [local go_sem] Oper.semAt_some ext_const

/-- A number is in a list. -/
def inL (l : List Int) (j : Nat) : Bool := l.contains (j : Int)
/-- The numbers of a list are all below n, and n may be. -/
def ofOk (n : Int) (l : List Int) : Bool := okN n && l.all fun x => decide (0 ≤ x ∧ x < n)
def ofErr (n : Int) (l : List Int) : Int := if ofOk n l then 0 else 2
structure OfIs (n : Int) (l : List Int) (ws : List Nat) : Prop where
  yes : ofOk n l = true → IsSet ((n.toNat + 63) / 64) ws (fun j => inL l j)
  no : ofOk n l = false → ws = []
theorem OfIs.ext {n : Int} {l : List Int} {a b : List Nat} (ha : OfIs n l a) (hb : OfIs n l b) : a = b := by
  cases h : ofOk n l
  · rw [ha.no h, hb.no h]
  · exact (ha.yes h).ext (hb.yes h)

theorem take_has {l : List Int} {i k : Nat} (hi : i < l.length) (hk : l.getD i 0 = (k : Int)) (j : Nat) : inL (l.take (i + 1)) j = (inL (l.take i) j || decide (j = k)) := by
  unfold inL
  rw [List.take_succ_eq_append_getElem hi]
  have : l[i] = (k : Int) := by simpa [hi] using hk
  rw [this, Bool.eq_iff_iff]
  have e : ((j : Int) = (k : Int)) ↔ j = k := Int.ofNat_inj
  simp [e]
theorem ofOk_no {n : Int} {l : List Int} {i : Nat} (hi : i < l.length) (h : ¬ (0 ≤ l.getD i 0 ∧ l.getD i 0 < n)) : ofOk n l = false := by
  cases e : ofOk n l
  · rfl
  · unfold ofOk at e
    rw [Bool.and_eq_true] at e
    have := List.all_eq_true.1 e.2 (l[i]) (List.getElem_mem hi)
    simp [hi] at h
    simp at this
    omega
theorem ofOk_yes {n : Nat} {l : List Int} (hn : 1 ≤ n ∧ n ≤ 12288) (h : ∀ i, i < l.length → 0 ≤ l.getD i 0 ∧ l.getD i 0 < n) : ofOk n l = true := by
  unfold ofOk
  rw [show okN n = true by simp [okN]; omega, Bool.true_and, List.all_eq_true]
  intro x hx
  obtain ⟨i, hi, rfl⟩ := List.mem_iff_getElem.1 hx
  have := h i hi
  simp [hi] at this
  simpa using this

set_option maxRecDepth 100000 in
set_option maxHeartbeats 4000000 in
theorem of_calls {v : Value} {l : List Int} (w : World) (hv : Its w v l) (hl : l.length ≤ 65536) (n : Int) :
    Calls Tryz.prog 49 #[I n, v] w fun e W' => ∃ u ws, e = .returned (.tuple #[u, I (ofErr n l)]) ∧ SetR W' w.heap.size u ws ∧ OfIs n l ws ∧ Below w.heap.size w W' := by
  have hmx : Tryz.prog.follows .mixedOrders = true := by kernel_rfl
  obtain ⟨ao, cap, rfl, hv'⟩ := hv.view
  have HV : Hid (∀ k, k < l.length → ∃ g off, ao = some ⟨g, off, none⟩ ∧ g < w.heap.size ∧ w.cell? ⟨g, off + k, none⟩ = some (I (l.getD k 0))) := hv'
  clear hv hv'
  have C : Calls Tryz.prog 33 #[I n, .slice none 0 0] w fun e W' => e = .returned (I (errAll n [])) ∧ W' = w :=
    check_calls (vs := []) (wss := []) w (Sl.nil w) rfl (by simp) (fun i hi => by simp at hi) n
  obtain ⟨er, her⟩ : ∃ er, er = ofErr n l := ⟨_, rfl⟩
  rw [← her]
  have HE : Hid (er = ofErr n l) := her
  clear her
  by_cases hn : 1 ≤ n ∧ n ≤ 12288
  · obtain ⟨m, rfl⟩ : ∃ m : Nat, n = m := ⟨n.toNat, by omega⟩
    rw [errAll_ok (by omega) (fun k hk => by simp at hk)] at C
    have hL : ∀ k, k < m → k / 64 < (m + 63) / 64 := fun k hk => by omega
    have hl2 : (m + 63) / 64 ≤ 192 := by omega
    have WC := fun w => words_calls m w (by omega)
    have HO : Hid (∀ ws, IsSet ((m + 63) / 64) ws (fun j => inL l j) → ofOk m l = true → OfIs m l ws) := fun ws h1 h2 => ⟨fun _ => by rw [Int.toNat_natCast]; exact h1, fun h => by rw [h2] at h; cases h⟩
    have HN : Hid (ofOk m l = false → OfIs m l []) := fun h => ⟨fun h2 => (by rw [h] at h2; cases h2), fun _ => rfl⟩
    obtain ⟨h1, h2⟩ := hn
    obtain ⟨L, hLe⟩ : ∃ L, L = (m + 63) / 64 := ⟨_, rfl⟩
    rw [← hLe] at hL hl2 WC HO
    clear hLe
    have HL : Hid (∀ k, k < m → k / 64 < L) := hL
    clear hL
    go_enter Tryz.func49, Tryz.ntmps49
    go_wp2_with fail
    refine C.mono ?_
    rintro e w1 ⟨rfl, hw⟩
    subst hw
    go_wp2_with fail
    refine (WC _).mono ?_
    rintro e w2 ⟨rfl, hw⟩
    subst hw
    clear WC C
    go_wp2_with (at_make; refine wpList_mkW rfl _ _ rfl L rfl rfl (by omega) ?_; intro w3 hK hT)
    have hJ : IsSet L (List.replicate L 0) (fun j => inL (l.take 0) j) := (IsSet.none L).congr (fun j => by simp [inL])
    obtain ⟨g, hg⟩ : ∃ g, g = w2.heap.size := ⟨_, rfl⟩
    rw [← hg] at hK
    rw [← hg]
    have hg' : w2.heap.size ≤ g := by omega
    clear hg
    go_wp2
    go_loopw [23] (fun i wr => ∃ (k : Nat) (cs : List Nat), k ≤ l.length ∧ i = .int .i64 k ∧ IsSet L cs (fun j => inL (l.take k) j) ∧ Hid (∀ i, i < k → 0 ≤ l.getD i 0 ∧ l.getD i 0 < (m : Int)) ∧ Blk wr g 80 (cs.map U).toArray ∧ Below w2.heap.size w2 wr) (fun i _ => l.length - (RowKit.intOf i).toNat)
    case atStart => exact ⟨0, _, by omega, rfl, hJ, fun i hi => by omega, hK, hT⟩
    case round =>
      clear hJ hK hT
      obtain ⟨k, cs, hk, rfl, hJ, HR, hbk, hB⟩ := hrel
      by_cases hlt : (k : Int) < (l.length : Int)
      · have hkl : k < l.length := by omega
        obtain ⟨gl, ol, rfl, hgl, hcl⟩ := HV.out k hkl
        have hcl := (hB.cell (p := ⟨gl, ol + k, none⟩) hgl).trans hcl
        by_cases hin : 0 ≤ l.getD k 0 ∧ l.getD k 0 < (m : Int)
        · obtain ⟨y, hy⟩ : ∃ y : Nat, l.getD k 0 = (y : Int) := ⟨(l.getD k 0).toNat, by omega⟩
          have HR2 : Hid (∀ i, i < k + 1 → 0 ≤ l.getD i 0 ∧ l.getD i 0 < (m : Int)) := fun i hi => by
            rcases Nat.lt_succ_iff_lt_or_eq.1 hi with hi | rfl
            · exact HR.out i hi
            · exact hin
          rw [hy] at hcl hin
          obtain ⟨hin0, hin1⟩ := hin
          have hyl := HL.out y (by omega)
          have hyi : (y : Int) / 64 < (L : Int) := by omega
          have hlen := hJ.len
          have hword := getD_lt hJ.word (y / 64)
          have e0 : ∀ x : Ext wr, x.wd.cell? ⟨g, y / 64, none⟩ = some (U (cs.getD (y / 64) 0)) := fun x => blk_get (hbk.later x.le) (by rw [hlen]; exact hyl)
          have f0 : ∀ x : Ext wr, x.wd.frozen? ⟨g, y / 64, none⟩ = false := fun x => (hbk.later x.le).frozen _
          have HBK : Hid (∀ x : Ext wr, Blk (x.wd.setCell ⟨g, y / 64, none⟩ (U (cs.getD (y / 64) 0 ||| 2 ^ (y % 64)))) g 80 ((putW cs y).map U).toArray) := fun x => blk_put (hbk.later x.le) (y / 64) _
          have HPU : Hid (IsSet L (putW cs y) (fun j => inL (l.take (k + 1)) j)) := hJ.put hyl (take_has hkl hy)
          have hsb := shl_bit (y % 64) (Nat.mod_lt y (by omega))
          have hlor := or_bit _ (y % 64) hword (Nat.mod_lt y (by omega))
          clear hJ hbk hlen hy
          generalize cs.getD (y / 64) 0 ||| 2 ^ (y % 64) = z at *
          generalize cs.getD (y / 64) 0 = x0 at *
          go_wp2
          refine wp_region_tail 10 hmx (by kernel_rfl) ?_
          simp only [List.take_succ_cons, List.take_zero, List.drop_succ_cons, List.drop_zero]
          repeat (go_big_quiet_step (fail))
          refine wpQuiet_nil ?_
          intro x
          have c1 := e0 x
          have f1 := f0 x
          gi_wp2
          try rw [hsb]
          try rw [hlor]
          have hK := HBK.out x
          have hBX := (below_ext hB x).setCell (p := ⟨g, y / 64, none⟩) hg' (U z)
          generalize x.wd.setCell ⟨g, y / 64, none⟩ (U z) = W5 at *
          clear c1 f1 e0 f0
          go_wp2
          go_roundw
          case rel => exact ⟨k + 1, _, by omega, by go_num, HPU.out, HR2, hK, hBX⟩
          case measure => simp [RowKit.intOf]; omega
        · have hno := ofOk_no hkl hin
          have E : er = 2 := by rw [HE.out, ofErr, hno]; rfl
          subst E
          have HNN := HN.out hno
          clear hJ hbk hno
          generalize l.getD k 0 = y at *
          by_cases hy0 : y < 0
          · go_wp2
            go_ret2
            first | exact ⟨_, rfl, _, .inr ⟨rfl, rfl⟩, HNN, hB⟩ | exact ⟨_, _, rfl, .inr ⟨rfl, rfl⟩, HNN, hB⟩
          · have hy1 : (m : Int) ≤ y := by omega
            clear hin
            go_wp2
            go_ret2
            first | exact ⟨_, rfl, _, .inr ⟨rfl, rfl⟩, HNN, hB⟩ | exact ⟨_, _, rfl, .inr ⟨rfl, rfl⟩, HNN, hB⟩
      · have e : k = l.length := by omega
        subst e
        have hok := ofOk_yes ⟨by omega, by omega⟩ HR.out
        have E : er = 0 := by rw [HE.out, ofErr, hok]; rfl
        subst E
        rw [List.take_length] at hJ
        have hO := HO.out cs hJ hok
        have hR : SetR wr w2.heap.size (.slice (some ⟨g, 0, none⟩) L L) cs := .inl ⟨hJ.word, g, by rw [hJ.len], hg', hbk⟩
        clear hbk hJ hok
        go_wp2
        go_ret2
        first | exact ⟨_, rfl, _, hR, hO, hB⟩ | exact ⟨_, _, rfl, hR, hO, hB⟩
  · rw [errAll_bad hn] at C
    have hno : ofOk n l = false := by unfold ofOk okN; rw [decide_eq_false hn]; rfl
    have E : er = 2 := by rw [HE.out, ofErr, hno]; rfl
    subst E
    have HNN : OfIs n l [] := ⟨fun h2 => (by rw [hno] at h2; cases h2), fun _ => rfl⟩
    clear hno hn
    go_enter Tryz.func49, Tryz.ntmps49
    go_wp2_with fail
    refine C.mono ?_
    rintro e w1 ⟨rfl, hw⟩
    subst hw
    go_wp2
    go_ret2
    first | exact ⟨_, rfl, _, .inr ⟨rfl, rfl⟩, HNN, Below.refl _ _⟩ | exact ⟨_, _, rfl, .inr ⟨rfl, rfl⟩, HNN, Below.refl _ _⟩

set_option maxRecDepth 100000 in
set_option maxHeartbeats 4000000 in
theorem from_calls {v : Value} {l : List Int} (w : World) (hv : Its w v l) (hl : l.length ≤ 65536) (m : Nat) (h1 : 1 ≤ m) (h2 : m ≤ 12288) (hall : ∀ i, i < l.length → 0 ≤ l.getD i 0 ∧ l.getD i 0 < (m : Int)) :
    Calls Tryz.prog 56 #[I m, v] w fun e W' => ∃ u ws, e = .returned u ∧ Set1 W' w.heap.size u ws ∧ IsSet ((m + 63) / 64) ws (fun j => inL l j) ∧ Below w.heap.size w W' := by
  have hmx : Tryz.prog.follows .mixedOrders = true := by kernel_rfl
  obtain ⟨ao, cap, rfl, hv'⟩ := hv.view
  have HV : Hid (∀ k, k < l.length → ∃ g off, ao = some ⟨g, off, none⟩ ∧ g < w.heap.size ∧ w.cell? ⟨g, off + k, none⟩ = some (I (l.getD k 0))) := hv'
  have HA : Hid (∀ i, i < l.length → 0 ≤ l.getD i 0 ∧ l.getD i 0 < (m : Int)) := hall
  clear hv hv' hall
  have hL : ∀ k, k < m → k / 64 < (m + 63) / 64 := fun k hk => by omega
  have hl2 : (m + 63) / 64 ≤ 192 := by omega
  have hwl : ((m : Int) + 63) / 64 = (((m + 63) / 64 : Nat) : Int) := by omega
  obtain ⟨L, hLe⟩ : ∃ L, L = (m + 63) / 64 := ⟨_, rfl⟩
  rw [← hLe] at hL hl2 hwl ⊢
  clear hLe
  have HL : Hid (∀ k, k < m → k / 64 < L) := hL
  clear hL
  go_enter Tryz.func56, Tryz.ntmps56
  go_wp2_with (at_make; refine wpList_mkW rfl _ _ rfl L (congrArg (Value.int IntKind.i64) hwl) (congrArg (Value.int IntKind.i64) hwl) (by omega) ?_; intro w3 hK hT)
  have hJ : IsSet L (List.replicate L 0) (fun j => inL (l.take 0) j) := (IsSet.none L).congr (fun j => by simp [inL])
  obtain ⟨g, hg⟩ : ∃ g, g = w.heap.size := ⟨_, rfl⟩
  rw [← hg] at hK
  rw [← hg]
  have hg' : w.heap.size ≤ g := by omega
  clear hg
  go_wp2
  go_loopw [6] (fun i wr => ∃ (k : Nat) (cs : List Nat), k ≤ l.length ∧ i = .int .i64 k ∧ IsSet L cs (fun j => inL (l.take k) j) ∧ Blk wr g 80 (cs.map U).toArray ∧ Below w.heap.size w wr) (fun i _ => l.length - (RowKit.intOf i).toNat)
  case atStart => exact ⟨0, _, by omega, rfl, hJ, hK, hT⟩
  case round =>
    clear hJ hK hT
    obtain ⟨k, cs, hk, rfl, hJ, hbk, hB⟩ := hrel
    by_cases hlt : (k : Int) < (l.length : Int)
    · have hkl : k < l.length := by omega
      obtain ⟨gl, ol, rfl, hgl, hcl⟩ := HV.out k hkl
      have hin := HA.out k hkl
      obtain ⟨y, hy⟩ : ∃ y : Nat, l.getD k 0 = (y : Int) := ⟨(l.getD k 0).toNat, by omega⟩
      rw [hy] at hcl hin
      obtain ⟨hin0, hin1⟩ := hin
      have hyl := HL.out y (by omega)
      have hyi : (y : Int) / 64 < (L : Int) := by omega
      have hlen := hJ.len
      have hword := getD_lt hJ.word (y / 64)
      have TH := there_calls wr (v := .slice (some ⟨g, 0, none⟩) L L) (ws := cs) (by
        have := (show Set1 wr w.heap.size (.slice (some ⟨g, 0, none⟩) L L) cs from ⟨hJ.word, g, by rw [hlen], hg', hbk⟩).wds
        exact this) y (by omega)
      have hcr := (hB.cell (p := ⟨gl, ol + k, none⟩) hgl).trans hcl
      have hcw : ∀ x : Ext wr, x.wd.cell? ⟨gl, ol + k, none⟩ = some (I (y : Int)) := fun x => ((below_ext hB x).cell (p := ⟨gl, ol + k, none⟩) hgl).trans hcl
      have e0 : ∀ x : Ext wr, x.wd.cell? ⟨g, y / 64, none⟩ = some (U (cs.getD (y / 64) 0)) := fun x => blk_get (hbk.later x.le) (by rw [hlen]; exact hyl)
      have f0 : ∀ x : Ext wr, x.wd.frozen? ⟨g, y / 64, none⟩ = false := fun x => (hbk.later x.le).frozen _
      have HBK : Hid (∀ x : Ext wr, Blk (x.wd.setCell ⟨g, y / 64, none⟩ (U (cs.getD (y / 64) 0 ||| 2 ^ (y % 64)))) g 80 ((putW cs y).map U).toArray) := fun x => blk_put (hbk.later x.le) (y / 64) _
      have HPU : Hid (IsSet L (putW cs y) (fun j => inL (l.take (k + 1)) j)) := hJ.put hyl (take_has hkl hy)
      have HST : Hid (hasW cs y = true → IsSet L cs (fun j => inL (l.take (k + 1)) j)) := fun h => hJ.congr fun j => by
        rw [take_has hkl hy, ← hJ.has j]
        by_cases e : j = y
        · subst e; simp [h]
        · simp [e]
      have hsb := shl_bit (y % 64) (Nat.mod_lt y (by omega))
      have HLO : Hid (hasW cs y = false → IntKind.u64.wrap (((cs.getD (y / 64) 0 : Nat) : Int) + 2 ^ (y % 64)) = ((cs.getD (y / 64) 0 ||| 2 ^ (y % 64) : Nat) : Int)) := fun h => by
        have h3 : (cs.getD (y / 64) 0).testBit (y % 64) = false := h
        have h4 := or_lt _ (y % 64) hword (Nat.mod_lt y (by omega))
        rw [← add_or h3] at h4 ⊢
        rw [IntKind.wrap_u64, show ((2 : Int) ^ (y % 64)) = ((2 ^ (y % 64) : Nat) : Int) by norm_cast]
        generalize 2 ^ (y % 64) = zz at *
        omega
      have HBKK : Hid (Blk wr g 80 (cs.map U).toArray) := hbk
      clear hJ hbk hlen hy hcl
      generalize cs.getD (y / 64) 0 ||| 2 ^ (y % 64) = z at *
      generalize cs.getD (y / 64) 0 = x0 at *
      generalize hasW cs y = q at *
      go_wp2_with fail
      refine TH.mono ?_
      rintro e w4 ⟨rfl, hw⟩
      subst hw
      clear TH
      cases q
      · have hlo := HLO.out rfl
        go_wp2
        refine wp_region_tail 16 hmx (by kernel_rfl) ?_
        simp only [List.take_succ_cons, List.take_zero, List.drop_succ_cons, List.drop_zero]
        repeat (go_big_quiet_step (fail))
        refine wpQuiet_nil ?_
        intro x
        have c1 := e0 x
        have f1 := f0 x
        gi_wp2
        try rw [hsb]
        try rw [hlo]
        have hK := HBK.out x
        have hBX := (below_ext hB x).setCell (p := ⟨g, y / 64, none⟩) hg' (U z)
        generalize x.wd.setCell ⟨g, y / 64, none⟩ (U z) = W5 at *
        clear c1 f1 e0 f0 hcw
        go_wp2
        go_roundw
        case rel => exact ⟨k + 1, _, by omega, by go_num, HPU.out, hK, hBX⟩
        case measure => simp [RowKit.intOf]; omega
      · have HE : Hid _ := HST.out rfl
        clear e0 f0 hcw
        go_wp2
        go_roundw
        case rel => exact ⟨k + 1, cs, by omega, by go_num, HE.out, HBKK.out, hB⟩
        case measure => simp [RowKit.intOf]; omega
    · have e : k = l.length := by omega
      subst e
      rw [List.take_length] at hJ
      have hR : Set1 wr w.heap.size (.slice (some ⟨g, 0, none⟩) L L) cs := ⟨hJ.word, g, by rw [hJ.len], hg', hbk⟩
      clear hbk
      go_wp2
      go_ret
      first | exact ⟨_, rfl, _, hR, hJ, hB⟩ | exact ⟨_, _, rfl, hR, hJ, hB⟩

end Go.Proofs.YtbedhpooeabehaaGreatDoor

/-
  The numbers of a set, rising, as the document lists them: tidehallref03.All.
-/
namespace Go.Proofs.YtbedhpooeabehaaGreatDoor
open Go Go.RowKit Go.Shelf

theorem Lst.its {W : World} {base : Nat} {v : Value} {xs : List Int} (h : Lst W base v xs) : Its W v xs := by
  obtain ⟨ao, cap, rfl, hv⟩ := h.view
  refine ⟨ao, cap, by simp, fun k hk => ?_⟩
  rw [List.length_map] at hk
  obtain ⟨g, cur, e, hb, hc⟩ := hv k hk
  exact ⟨g, 0, e, hb.lt, by rw [Nat.zero_add, hb.cell, hc]; simp [hk]⟩

/-- Numbers, as a list in memory has them. -/
def ofN (l : List Nat) : List Int := l.map fun m : Nat => (m : Int)
/-- A set's numbers, rising. -/
def numsW (ws : List Nat) : List Nat := listTo ws (64 * ws.length)
theorem ofN_len (l : List Nat) : (ofN l).length = l.length := by simp [ofN]
theorem ofN_app (l : List Nat) (m : Nat) : ofN (l ++ [m]) = ofN l ++ [(m : Int)] := by simp [ofN]
theorem ofN_get (l : List Nat) (k : Nat) : (ofN l).getD k 0 = ((l.getD k 0 : Nat) : Int) := by
  simp only [ofN, List.getD_eq_getElem?_getD, List.getElem?_map]
  cases l[k]? <;> rfl

set_option maxRecDepth 100000 in
set_option maxHeartbeats 4000000 in
theorem all_calls {v : Value} {ws : List Nat} (w : World) (h : Wds w v ws) (hs : ws.length ≤ 300) :
    Calls Tryz.prog 37 #[v] w fun e W' => ∃ u, e = .returned u ∧ Lst W' w.heap.size u (ofN (numsW ws)) ∧ Below w.heap.size w W' := by
  have HW : Hid (Wds w v ws) := h
  obtain ⟨ao, cap, rfl, _⟩ := h.view
  clear h
  have HN : Hid (ofN (numsW ws) = ofN (listTo ws (64 * ws.length))) := show _ = _ from rfl
  rw [HN.out]
  go_enter Tryz.func37, Tryz.ntmps37
  go_wp2
  go_loopw [3, 4] (fun s i wr => ∃ k : Nat, k ≤ 64 * ws.length ∧ i = .int .i64 k ∧ Lst wr w.heap.size s (ofN (listTo ws k)) ∧ Below w.heap.size w wr) (fun s i _ => 64 * ws.length - (RowKit.intOf i).toNat)
  case atStart => exact ⟨0, by omega, rfl, Lst.nil _ _, Below.refl _ _⟩
  case round =>
    obtain ⟨k, hk, rfl, hL, hT⟩ := hrel
    by_cases hlt : (k : Int) < (64 : Int) * (ws.length : Int)
    · have TH := there_calls wr (HW.out.later hT) k (by omega)
      have hlen : (ofN (listTo ws k)).length ≤ 100000 := by rw [ofN_len]; have := listTo_len ws k; omega
      have H1 : Hid (hasW ws k = true → ofN (listTo ws (k + 1)) = ofN (listTo ws k) ++ [(k : Int)]) := fun h => by rw [listTo_yes h, ofN_app]
      have H0 : Hid (hasW ws k = false → ofN (listTo ws (k + 1)) = ofN (listTo ws k)) := fun h => by rw [listTo_no h]
      generalize hxs : ofN (listTo ws k) = xs at *
      clear hxs
      go_wp2_with fail
      refine TH.mono ?_
      rintro e w1 ⟨rfl, hw⟩
      subst hw
      cases hq : hasW ws k
      · have HE : Hid _ := H0.out hq
        clear hq
        go_wp2
        go_roundw
        case rel => exact ⟨k + 1, by omega, by go_num, by rw [HE.out]; exact hL, hT⟩
        case measure => simp [RowKit.intOf]; omega
      · have HE : Hid _ := H1.out hq
        clear hq
        go_wp2_with (at_builtin; refine wpList_app rfl _ _ rfl rfl rfl hL hlen hT.size ?_; intro v' w3 hL3 hT3)
        go_wp2
        go_roundw
        case rel => exact ⟨k + 1, by omega, by go_num, by rw [HE.out]; exact hL3, hT.trans hT3⟩
        case measure => simp [RowKit.intOf]; omega
    · have e : k = 64 * ws.length := by omega
      subst e
      go_wp2
      go_ret
      exact ⟨_, rfl, hL, hT⟩

end Go.Proofs.YtbedhpooeabehaaGreatDoor

/-
  The numbers of one word, the least first: math/bits.TrailingZeros64, set.addNumbers.
-/
namespace Go.Proofs.YtbedhpooeabehaaGreatDoor
open Go Go.RowKit Go.Shelf

/-- math/bits' table lies in its variable. -/
def TabOk (W : World) : Prop := ∀ j, j < 64 → W.cell? ⟨0, j, none⟩ = some (.int .u8 ((Lib.deBruijn64tab.getD j 0 : Nat) : Int))
theorem TabOk.lt {W : World} (h : TabOk W) : 0 < W.heap.size := by
  have := h 0 (by omega)
  unfold World.cell? at this
  split at this
  · rename_i hs
    exact (Array.getElem?_eq_some_iff.1 hs).1
  · cases this
theorem TabOk.below {n : Nat} {W W' : World} (h : TabOk W) (hb : Below n W W') (hn : 0 < n) : TabOk W' := fun j hj => (hb.cell (p := ⟨0, j, none⟩) hn).trans (h j hj)
theorem TabOk.later {W W' : World} (h : TabOk W) (hb : Below W.heap.size W W') : TabOk W' := h.below hb h.lt

/-- The lowest bit, as the program finds it. -/
theorem low_key (x k : Nat) (hx : x < 18446744073709551616) (h0 : x ≠ 0) (hk : x &&& (18446744073709551616 - x) = 2 ^ k) :
    IntKind.u64.wrap (bits BinOp.and IntKind.u64 (x : Int) (IntKind.u64.wrap (-(x : Int))) * 285870213051353865) / 288230376151711744 = ((2 ^ k * 285870213051353865 % 18446744073709551616 / 288230376151711744 : Nat) : Int) := by
  have e : IntKind.u64.wrap (-(x : Int)) = ((18446744073709551616 - x : Nat) : Int) := by rw [IntKind.wrap_u64]; omega
  rw [e, u64_and_nat x _ hx (by omega), hk, IntKind.wrap_u64]
  generalize 2 ^ k = y
  omega

set_option maxRecDepth 100000 in
set_option maxHeartbeats 2000000 in
theorem tz_core (x k i : Nat) (w : World) (hx0 : ((x : Int) == 0) = false)
    (key : IntKind.u64.wrap (bits BinOp.and IntKind.u64 (x : Int) (IntKind.u64.wrap (-(x : Int))) * 285870213051353865) / 288230376151711744 = (i : Int)) (hi : i < 64) (hk : k < 64)
    (hc : w.cell? ⟨0, i, none⟩ = some (.int .u8 (k : Int))) : Calls Tryz.prog 60 #[U x] w fun e W' => e = .returned (I k) ∧ W' = w := by
  go_enter Tryz.func60, Tryz.ntmps60
  go_wp2_with (simp only [key])
  go_ret
  exact ⟨rfl, rfl⟩
theorem tz_calls (x : Nat) (hx : x < 18446744073709551616) (h0 : x ≠ 0) (w : World) (hT : TabOk w) :
    Calls Tryz.prog 60 #[U x] w fun e W' => e = .returned (I (Lib.ctz 64 x : Nat)) ∧ W' = w := by
  obtain ⟨hl, hk⟩ := Lib.lowest_bit 64 x h0 hx
  obtain ⟨hi, ht⟩ := Lib.deBruijn64_at _ hk
  have hc := hT _ hi
  rw [ht] at hc
  exact tz_core x _ _ w (by simpa using h0) (low_key x _ hx h0 hl) hi hk hc

/-- The bits of a word, rising. -/
def bl (x : Nat) : List Nat := (List.range 64).filter fun j => x.testBit j
theorem bl_zero : bl 0 = [] := by simp [bl]
theorem odd_bit (m i : Nat) : (2 * m + 1).testBit (i + 1) = (2 * m).testBit (i + 1) := by
  rw [Nat.testBit_succ, Nat.testBit_succ, show (2 * m + 1) / 2 = m by omega, show 2 * m / 2 = m by omega]
theorem bl_step {x : Nat} (hx : x < 18446744073709551616) (h0 : x ≠ 0) : bl x = Lib.ctz 64 x :: bl (x &&& (x - 1)) ∧ x &&& (x - 1) < x := by
  refine ⟨?_, Nat.lt_of_le_of_lt Nat.and_le_right (by omega)⟩
  obtain ⟨m, hm, hk⟩ := Lib.ctzFrom_spec 64 x (by omega) hx
  have e : Lib.ctz 64 x = Lib.ctzFrom 64 x := by simp [Lib.ctz, h0]
  rw [e]
  generalize Lib.ctzFrom 64 x = k at *
  have hp := Nat.two_pow_pos k
  have ex : ∀ j, x.testBit j = if j < k then false else (2 * m + 1).testBit (j - k) := fun j => by
    rw [hm, show 2 ^ k * (2 * m + 1) = 2 ^ k * (2 * m + 1) + 0 from rfl, Nat.testBit_two_pow_mul_add _ hp]
    simp
  have ey : ∀ j, (x - 1).testBit j = if j < k then true else (2 * m).testBit (j - k) := fun j => by
    have e1 : x - 1 = 2 ^ k * (2 * m) + (2 ^ k - 1) := by rw [hm, Nat.mul_add, Nat.mul_one]; omega
    rw [e1, Nat.testBit_two_pow_mul_add _ (by omega)]
    by_cases hj : j < k
    · simp [hj]
    · simp [hj]
  have ez : ∀ j, (x &&& (x - 1)).testBit j = (x.testBit j && decide (j ≠ k)) := fun j => by
    rw [Nat.testBit_and, ex, ey]
    by_cases hj : j < k
    · simp [hj]
    · by_cases hjk : j = k
      · subst hjk; simp
      · obtain ⟨i, hi⟩ : ∃ i, j - k = i + 1 := ⟨j - k - 1, by omega⟩
        simp only [if_neg hj, hi, odd_bit, Bool.and_self]
        simp [hjk]
  obtain ⟨r, hr⟩ : ∃ r, 64 = k + (r + 1) := ⟨64 - k - 1, by omega⟩
  have hrange : List.range 64 = List.range k ++ k :: (List.range r).map (fun j => k + (j + 1)) := by
    rw [hr, List.range_add, List.range_succ_eq_map]
    simp [List.map_map, Function.comp_def]
  have f1 : (List.range k).filter (fun j => x.testBit j) = [] := by
    rw [List.filter_eq_nil_iff]
    intro j hj
    rw [ex, if_pos (List.mem_range.1 hj)]
    simp
  have f2 : (List.range k).filter (fun j => (x &&& (x - 1)).testBit j) = [] := by
    rw [List.filter_eq_nil_iff]
    intro j hj
    rw [ez, ex, if_pos (List.mem_range.1 hj)]
    simp
  have f3 : x.testBit k = true := by rw [ex]; simp
  have f4 : (x &&& (x - 1)).testBit k = false := by rw [ez]; simp
  unfold bl
  rw [hrange, List.filter_append, List.filter_append, f1, f2, List.filter_cons, List.filter_cons, f3, f4]
  simp only [if_true, List.nil_append, Bool.false_eq_true, if_false]
  congr 1
  apply List.filter_congr
  intro j hj
  obtain ⟨i, _, rfl⟩ := List.mem_map.1 hj
  rw [ez]
  simp
theorem bl_len (x : Nat) : (bl x).length ≤ 64 := by
  have := List.length_filter_le (fun j => x.testBit j) (List.range 64)
  simpa [bl] using this
/-- .. as numbers from bs on. -/
def sh (bs : Nat) (x : Nat) : List Int := (bl x).map fun j : Nat => ((bs + j : Nat) : Int)
theorem sh_zero (bs : Nat) : sh bs 0 = [] := by simp [sh, bl_zero]
theorem sh_step {x : Nat} (bs : Nat) (hx : x < 18446744073709551616) (h0 : x ≠ 0) : sh bs x = ((bs + Lib.ctz 64 x : Nat) : Int) :: sh bs (x &&& (x - 1)) := by
  unfold sh
  rw [(bl_step hx h0).1]
  rfl
theorem sh_len (bs x : Nat) : (sh bs x).length ≤ 64 := by simpa [sh] using bl_len x
theorem list_sh (ws : List Nat) (k : Nat) : ofN (listTo ws (64 * (k + 1))) = ofN (listTo ws (64 * k)) ++ sh (64 * k) (ws.getD k 0) := by
  unfold listTo ofN sh bl
  rw [show 64 * (k + 1) = 64 * k + 64 by omega, List.range_add, List.filter_append, List.map_append, List.filter_map, List.map_map]
  congr 1
  have : (List.range 64).filter ((fun m => hasW ws m) ∘ fun x => 64 * k + x) = (List.range 64).filter fun j => (ws.getD k 0).testBit j := by
    apply List.filter_congr
    intro j hj
    exact hasW_at ws k j (List.mem_range.1 hj)
  rw [this]
  rfl

/-- One bit less, as the program reckons it. -/
theorem less_low (x : Nat) (hx : x < 18446744073709551616) (h0 : x ≠ 0) : bits .and .u64 (x : Int) ((x : Int) - 1) = ((x &&& (x - 1) : Nat) : Int) := by
  have e : (x : Int) - 1 = ((x - 1 : Nat) : Int) := by omega
  rw [e, u64_and_nat x _ hx (by omega)]

set_option maxRecDepth 100000 in
set_option maxHeartbeats 4000000 in
theorem add_calls {xs : List Int} {v : Value} {base : Nat} (bs x : Nat) (w : World) (hL : Lst w base v xs) (hT : TabOk w) (hb : base ≤ w.heap.size) (hb0 : 0 < base) (hl : xs.length ≤ 50000) (hbs : bs ≤ 100000) (hx : x < 18446744073709551616) :
    Calls Tryz.prog 40 #[v, I bs, U x] w fun e W' => ∃ u, e = .returned u ∧ Lst W' base u (xs ++ sh bs x) ∧ Below base w W' := by
  obtain ⟨tg, htg⟩ : ∃ tg, tg = xs ++ sh bs x := ⟨_, rfl⟩
  rw [← htg]
  have HG : Hid (tg = xs ++ sh bs x) := htg
  have htl : tg.length ≤ 50064 := by rw [htg, List.length_append]; have := sh_len bs x; omega
  clear htg
  go_enter Tryz.func40, Tryz.ntmps40
  go_wp2
  refine wp_scope_jumps 0 (fun a' w' => ∃ (v' : Value) (x' : Nat) (xs' : List Int) (u7 u8 u9 u10 u11 u12 u13 u14 u15 u16 u17 u18 u19 u20 : Value), a' = { tmps := #[v', I bs, U x', undef, undef, undef, .slice none 0 0, u7, u8, u9, u10, u11, u12, u13, u14, u15, u16, u17, u18, u19, u20], defers := [] } ∧ Lst w' base v' xs' ∧ Hid (xs' ++ sh bs x' = tg) ∧ x' < 18446744073709551616 ∧ Below base w w') (fun a' _ => (RowKit.intOf (a'.tmps.getD 2 undef)).toNat) rfl ?_ ?_
  · skip
    by_cases h0 : x = 0
    · subst h0
      rw [sh_zero, List.append_nil] at HG
      go_wp2
      go_step3
      go_wp2
      simp only [Exit.jump]
      go_ret
      exact ⟨_, rfl, by rw [HG.out]; exact hL, Below.refl _ _⟩
    · have hz : ¬ ((x : Int) = 0) := by omega
      have TZ := tz_calls x hx h0 _ hT
      have hkl := (Lib.lowest_bit 64 x h0 hx).2
      have HS : Hid (sh bs x = ((bs + Lib.ctz 64 x : Nat) : Int) :: sh bs (x &&& (x - 1))) := sh_step bs hx h0
      have hlt := (bl_step hx h0).2
      have HL := less_low x hx h0
      have hbz : base ≤ w.heap.size := hb
      generalize Lib.ctz 64 x = k at *
      generalize hy : x &&& (x - 1) = y at *
      clear hy
      go_wp2_with fail
      go_step3
      go_wp2_with fail
      refine TZ.mono ?_
      rintro e w1 ⟨rfl, hw⟩
      subst hw
      go_wp2_with (at_builtin; refine wpList_app rfl _ _ rfl rfl rfl hL (by omega) hbz ?_; intro v3 w3 hL3 hT3)
      go_wp2
      go_step3
      try rw [HL]
      refine ⟨rfl, v3, y, xs ++ [(bs : Int) + (k : Int)], _, _, _, _, _, _, _, _, _, _, _, _, _, _, rfl, hL3, ?_, by omega, hT3⟩
      show _ = _
      rw [HG.out, HS.out, List.append_assoc]
      simp
  · rintro a' w' ⟨v', x', xs', u7, u8, u9, u10, u11, u12, u13, u14, u15, u16, u17, u18, u19, u20, rfl, hL, HE, hx', hB⟩
    have hxl : xs'.length ≤ 50064 := by have := congrArg List.length HE.out; rw [List.length_append] at this; omega
    by_cases h0 : x' = 0
    · subst h0
      have E : xs' = tg := by have := HE.out; rwa [sh_zero, List.append_nil] at this
      subst E
      go_wp2
      simp only [Exit.jump]
      go_ret
      exact ⟨_, rfl, hL, hB⟩
    · have hz : ¬ ((x' : Int) = 0) := by omega
      have TZ := tz_calls x' hx' h0 _ (hT.below hB hb0)
      have hkl := (Lib.lowest_bit 64 x' h0 hx').2
      have HS : Hid (sh bs x' = ((bs + Lib.ctz 64 x' : Nat) : Int) :: sh bs (x' &&& (x' - 1))) := sh_step bs hx' h0
      have hlt := (bl_step hx' h0).2
      have HL := less_low x' hx' h0
      have hbz : base ≤ w'.heap.size := Nat.le_trans hb hB.size
      generalize Lib.ctz 64 x' = k at *
      generalize hy : x' &&& (x' - 1) = y at *
      clear hy
      go_wp2_with fail
      refine TZ.mono ?_
      rintro e w1 ⟨rfl, hw⟩
      subst hw
      go_wp2_with (at_builtin; refine wpList_app rfl _ _ rfl rfl rfl hL (by omega) hbz ?_; intro v3 w3 hL3 hT3)
      go_wp2
      go_step3
      try rw [HL]
      refine ⟨rfl, ⟨v3, y, xs' ++ [(bs : Int) + (k : Int)], _, _, _, _, _, _, _, _, _, _, _, _, _, _, rfl, hL3, ?_, by omega, hB.trans hT3⟩, ?_⟩
      · show _ = _
        rw [← HE.out, HS.out, List.append_assoc]
        simp
      · simp [RowKit.intOf]
        omega

end Go.Proofs.YtbedhpooeabehaaGreatDoor

/-
  The calls of one set: set.Check, set.Has, set.Many, set.List; and the document's answers.
-/
namespace Go.Proofs.YtbedhpooeabehaaGreatDoor
open Go Go.RowKit Go.Shelf

theorem check_one {v : Value} {ws : List Nat} (w : World) (h : Wds w v ws) (n : Int) : ∀ W, Blk W w.heap.size 25 #[v] → Below w.heap.size w W →
    Calls Tryz.prog 33 #[I n, .slice (some ⟨w.heap.size, 0, none⟩) 1 1] W fun e W' => e = .returned (I (errAll n [ws])) ∧ W' = W := by
  intro W hW hB
  refine check_calls (vs := [v]) (wss := [ws]) W (Sl.blk hW 1) rfl (by simp) ?_ n
  intro i hi
  match i, hi with
  | 0, _ => exact h.later hB

theorem chk_calls {v : Value} {ws : List Nat} (w : World) (h : Wds w v ws) (n : Int) :
    Calls Tryz.prog 21 #[I n, v] w fun e W' => e = .returned (I (errAll n [ws])) ∧ Below w.heap.size w W' := by
  obtain ⟨ao, cap, rfl, hv⟩ := h.view
  have C := check_one w h n
  generalize errAll n [ws] = er at *
  go_enter Tryz.func21, Tryz.ntmps21
  go_wp2_with fail
  refine (C _ (Blk.new w _ _) ((Below.refl _ w).alloc (Nat.le_refl _) _)).mono ?_
  rintro e w1 ⟨rfl, hw⟩
  have hT := (Below.refl _ w).alloc (Nat.le_refl _) (.cells #[.slice ao ws.length cap] 25)
  rw [← hw] at hT
  clear hw C
  go_wp2
  go_ret
  exact ⟨rfl, hT⟩

/-- Whether a number is in a set. -/
def hasR (n : Int) (ws : List Nat) (k : Int) : Bool := decide (errAll n [ws] = 0) && decide (0 ≤ k) && hasW ws k.toNat
theorem hasR_err {n : Int} {ws : List Nat} (h : errAll n [ws] ≠ 0) (k : Int) : hasR n ws k = false := by simp [hasR, h]
theorem hasR_neg {n : Int} {ws : List Nat} {k : Int} (h : k < 0) : hasR n ws k = false := by
  unfold hasR
  rw [decide_eq_false (by omega : ¬ 0 ≤ k)]
  simp
theorem hasR_in {n : Int} {ws : List Nat} {k : Nat} (h : errAll n [ws] = 0) : hasR n ws k = hasW ws k := by simp [hasR, h]
theorem hasR_far {n : Int} {ws : List Nat} {k : Int} (h : n ≤ k) : hasR n ws k = false := by
  unfold hasR
  by_cases he : errAll n [ws] = 0
  · obtain ⟨h1, h2, hm⟩ := err_one he
    rw [(mayS_iff.1 hm).2 k.toNat (by omega)]
    simp
  · simp [he]

theorem hasSet_calls {v : Value} {ws : List Nat} (w : World) (h : Wds w v ws) (n k : Int) :
    Calls Tryz.prog 43 #[I n, v, I k] w fun e W' => e = .returned (.tuple #[.bool (hasR n ws k), I (errAll n [ws])]) ∧ Below w.heap.size w W' := by
  obtain ⟨ao, cap, rfl, hv⟩ := h.view
  have C := check_one w h n
  obtain ⟨ans, hans⟩ : ∃ ans, ans = hasR n ws k := ⟨_, rfl⟩
  obtain ⟨er, her⟩ : ∃ er, er = errAll n [ws] := ⟨_, rfl⟩
  rw [← hans]
  rw [← her] at C ⊢
  by_cases h0 : er = 0
  · have he := her.symm.trans h0
    obtain ⟨h1, h2, hm⟩ := err_one he
    by_cases hk : 0 ≤ k ∧ k < n
    · obtain ⟨hk0, hkn⟩ := hk
      obtain ⟨m, rfl⟩ : ∃ m : Nat, k = m := ⟨k.toNat, by omega⟩
      have hl := (mayS_iff.1 hm).1
      have hml : m / 64 < ws.length := by omega
      obtain ⟨g, off, rfl, hg, hc⟩ := hv _ hml
      have hx := h.word (m / 64)
      have hb := bit_of _ (m % 64) hx
      have e : ans = (ws.getD (m / 64) 0).testBit (m % 64) := by rw [hans, hasR_in he]; rfl
      have HA : Hid (ans = (bits .and .u64 ((ws.getD (m / 64) 0 : Nat) / 2 ^ (m % 64)) 1 == 1)) := by rw [e]; exact hb.symm
      have hmi : (m : Int) / 64 < (ws.length : Int) := by omega
      clear hb e hv h hans her he hl hm
      generalize ws.getD (m / 64) 0 = x at *
      subst h0
      go_enter Tryz.func43, Tryz.ntmps43
      go_wp2_with fail
      refine (C _ (Blk.new w _ _) ((Below.refl _ w).alloc (Nat.le_refl _) _)).mono ?_
      rintro e w1 ⟨rfl, hw⟩
      have hT := (Below.refl _ w).alloc (Nat.le_refl _) (.cells #[.slice (some ⟨g, off, none⟩) ws.length cap] 25)
      rw [← hw] at hT
      have hc1 := (hT.cell (p := ⟨g, off + m / 64, none⟩) hg).trans hc
      clear hw C hc
      go_wp2
      go_ret2
      exact ⟨by rw [HA.out]; rfl, hT⟩
    · have E : ans = false := by
        rw [hans]
        by_cases hk0 : k < 0
        · exact hasR_neg hk0
        · exact hasR_far (by omega)
      subst E
      clear hans her he hm
      subst h0
      by_cases hk0 : k < 0
      · go_enter Tryz.func43, Tryz.ntmps43
        go_wp2_with fail
        refine (C _ (Blk.new w _ _) ((Below.refl _ w).alloc (Nat.le_refl _) _)).mono ?_
        rintro e w1 ⟨rfl, hw⟩
        have hT := (Below.refl _ w).alloc (Nat.le_refl _) (.cells #[.slice ao ws.length cap] 25)
        rw [← hw] at hT
        clear hw C
        go_wp2
        go_ret2
        exact ⟨rfl, hT⟩
      · have hkn : n ≤ k := by omega
        clear hk
        go_enter Tryz.func43, Tryz.ntmps43
        go_wp2_with fail
        refine (C _ (Blk.new w _ _) ((Below.refl _ w).alloc (Nat.le_refl _) _)).mono ?_
        rintro e w1 ⟨rfl, hw⟩
        have hT := (Below.refl _ w).alloc (Nat.le_refl _) (.cells #[.slice ao ws.length cap] 25)
        rw [← hw] at hT
        clear hw C
        go_wp2
        go_ret2
        exact ⟨rfl, hT⟩
  · have E : ans = false := by rw [hans]; exact hasR_err (fun e => h0 (her.trans e)) k
    subst E
    clear hans her
    go_enter Tryz.func43, Tryz.ntmps43
    go_wp2_with fail
    refine (C _ (Blk.new w _ _) ((Below.refl _ w).alloc (Nat.le_refl _) _)).mono ?_
    rintro e w1 ⟨rfl, hw⟩
    have hT := (Below.refl _ w).alloc (Nat.le_refl _) (.cells #[.slice ao ws.length cap] 25)
    rw [← hw] at hT
    clear hw C
    go_wp2
    go_ret2
    exact ⟨rfl, hT⟩

/-- How many numbers a set has. -/
def manyR (n : Int) (ws : List Nat) : Nat := if errAll n [ws] = 0 then manyS ws else 0
theorem manyn_calls {v : Value} {ws : List Nat} (w : World) (h : Wds w v ws) (n : Int) :
    Calls Tryz.prog 16 #[I n, v] w fun e W' => e = .returned (.tuple #[I (manyR n ws), I (errAll n [ws])]) ∧ Below w.heap.size w W' := by
  obtain ⟨ao, cap, rfl, hv⟩ := h.view
  have C := check_one w h n
  obtain ⟨ans, hans⟩ : ∃ ans, ans = manyR n ws := ⟨_, rfl⟩
  obtain ⟨er, her⟩ : ∃ er, er = errAll n [ws] := ⟨_, rfl⟩
  rw [← hans]
  rw [← her] at C ⊢
  by_cases h0 : er = 0
  · have he := her.symm.trans h0
    obtain ⟨h1, h2, hm⟩ := err_one he
    have hl := (mayS_iff.1 hm).1
    have M := fun W (hB : Below w.heap.size w W) => manyS_calls W (h.later hB) (by omega)
    rw [show manyS ws = ans by rw [hans, manyR, if_pos he]] at M
    clear hans her he hm hl
    subst h0
    go_enter Tryz.func16, Tryz.ntmps16
    go_wp2_with fail
    refine (C _ (Blk.new w _ _) ((Below.refl _ w).alloc (Nat.le_refl _) _)).mono ?_
    rintro e w1 ⟨rfl, hw⟩
    have hT := (Below.refl _ w).alloc (Nat.le_refl _) (.cells #[.slice ao ws.length cap] 25)
    rw [← hw] at hT
    clear hw C
    go_wp2_with fail
    refine (M _ hT).mono ?_
    rintro e w2 ⟨rfl, hw⟩
    subst hw
    go_wp2
    go_ret2
    exact ⟨rfl, hT⟩
  · have E : ans = 0 := by rw [hans, manyR, if_neg (fun e => h0 (her.trans e))]
    subst E
    clear hans her
    go_enter Tryz.func16, Tryz.ntmps16
    go_wp2_with fail
    refine (C _ (Blk.new w _ _) ((Below.refl _ w).alloc (Nat.le_refl _) _)).mono ?_
    rintro e w1 ⟨rfl, hw⟩
    have hT := (Below.refl _ w).alloc (Nat.le_refl _) (.cells #[.slice ao ws.length cap] 25)
    rw [← hw] at hT
    clear hw C
    go_wp2
    go_ret2
    exact ⟨rfl, hT⟩

/-- A set's numbers. -/
def listR (n : Int) (ws : List Nat) : List Int := if errAll n [ws] = 0 then ofN (numsW ws) else []
set_option maxRecDepth 100000 in
set_option maxHeartbeats 4000000 in
theorem list_calls {v : Value} {ws : List Nat} (w : World) (hTab : TabOk w) (h : Wds w v ws) (n : Int) :
    Calls Tryz.prog 22 #[I n, v] w fun e W' => ∃ u, e = .returned (.tuple #[u, I (errAll n [ws])]) ∧ Lst W' w.heap.size u (listR n ws) ∧ Below w.heap.size w W' := by
  obtain ⟨ao, cap, rfl, hv⟩ := h.view
  have C := check_one w h n
  have HH : Hid (Wds w (.slice ao ws.length cap) ws) := h
  obtain ⟨ans, hans⟩ : ∃ ans, ans = listR n ws := ⟨_, rfl⟩
  obtain ⟨er, her⟩ : ∃ er, er = errAll n [ws] := ⟨_, rfl⟩
  rw [← hans]
  rw [← her] at C ⊢
  by_cases h0 : er = 0
  · have he := her.symm.trans h0
    obtain ⟨h1, h2, hm⟩ := err_one he
    have hl := (mayS_iff.1 hm).1
    have hl2 : ws.length ≤ 192 := by omega
    have M := fun W (hB : Below w.heap.size w W) => manyS_calls W (h.later hB) (by omega)
    have hml : manyS ws ≤ 64 * ws.length := cnt_le ws ws.length
    generalize manyS ws = mm at *
    have HA : Hid (ans = ofN (listTo ws (64 * ws.length))) := by rw [hans, listR, if_pos he]; exact rfl
    have HV : Hid (∀ k, k < ws.length → ∃ g off, ao = some ⟨g, off, none⟩ ∧ g < w.heap.size ∧ w.cell? ⟨g, off + k, none⟩ = some (U (ws.getD k 0))) := hv
    have HW : Hid (∀ k, ws.getD k 0 < 18446744073709551616) := h.word
    have hsz := hTab.lt
    clear hans her he hm hl hv h
    subst h0
    go_enter Tryz.func22, Tryz.ntmps22
    go_wp2_with fail
    refine (C _ (Blk.new w _ _) ((Below.refl _ w).alloc (Nat.le_refl _) _)).mono ?_
    rintro e w1 ⟨rfl, hw⟩
    have hT := (Below.refl _ w).alloc (Nat.le_refl _) (.cells #[.slice ao ws.length cap] 25)
    rw [← hw] at hT
    clear hw C
    go_wp2_with fail
    refine (M _ hT).mono ?_
    rintro e w2 ⟨rfl, hw⟩
    subst hw
    go_wp2_with (at_make; refine wpList_mk (base := w.heap.size) rfl _ _ rfl mm rfl rfl (by omega) (by omega) hT.size ?_; intro v3 w3 hL3 hT3)
    have hT := hT.trans hT3
    clear hT3
    go_wp2
    go_loopw [7, 22] (fun s i wr => ∃ k : Nat, k ≤ ws.length ∧ i = .int .i64 k ∧ Lst wr w.heap.size s (ofN (listTo ws (64 * k))) ∧ Below w.heap.size w wr) (fun s i _ => ws.length - (RowKit.intOf i).toNat)
    case atStart => exact ⟨0, by omega, rfl, hL3, hT⟩
    case round =>
      clear hL3 hT
      obtain ⟨k, hk, rfl, hL, hT⟩ := hrel
      by_cases hlt : (k : Int) < (ws.length : Int)
      · obtain ⟨g, off, rfl, hg, hc⟩ := HV.out k (by omega)
        have hc1 := (hT.cell (p := ⟨g, off + k, none⟩) hg).trans hc
        have hx := HW.out k
        have HS : Hid (ofN (listTo ws (64 * (k + 1))) = ofN (listTo ws (64 * k)) ++ sh (64 * k) (ws.getD k 0)) := list_sh ws k
        have AD := add_calls (64 * k) (ws.getD k 0) wr hL (hTab.below hT hsz) hT.size hsz (by rw [ofN_len]; have := listTo_len ws (64 * k); omega) (by omega) hx
        generalize ofN (listTo ws (64 * k)) = xs at *
        rw [show ((64 * k : Nat) : Int) = (k : Int) * 64 by omega] at AD
        generalize sh (64 * k) (ws.getD k 0) = ys at *
        generalize ws.getD k 0 = x at *
        clear hc
        go_wp2_with fail
        refine AD.mono ?_
        rintro e w4 ⟨u, rfl, hL4, hT4⟩
        go_wp2
        go_roundw
        case rel => exact ⟨k + 1, by omega, by go_num, by rw [HS.out]; exact hL4, hT.trans hT4⟩
        case measure => simp [RowKit.intOf]; omega
      · have e : k = ws.length := by omega
        subst e
        rw [← HA.out] at hL
        go_wp2
        go_ret2
        exact ⟨_, rfl, hL, hT⟩
  · have E : ans = [] := by rw [hans, listR, if_neg (fun e => h0 (her.trans e))]
    subst E
    clear hans her
    go_enter Tryz.func22, Tryz.ntmps22
    go_wp2_with fail
    refine (C _ (Blk.new w _ _) ((Below.refl _ w).alloc (Nat.le_refl _) _)).mono ?_
    rintro e w1 ⟨rfl, hw⟩
    have hT := (Below.refl _ w).alloc (Nat.le_refl _) (.cells #[.slice ao ws.length cap] 25)
    rw [← hw] at hT
    clear hw C
    go_wp2
    go_ret2
    exact ⟨_, rfl, Lst.nil _ _, hT⟩

end Go.Proofs.YtbedhpooeabehaaGreatDoor
