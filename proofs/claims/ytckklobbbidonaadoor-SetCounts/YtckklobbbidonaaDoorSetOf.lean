/-
  The set of some numbers: set.Of, tidehallref03.From, tidehallref03.Of.
-/
import Derived.Test.YtckklobbbidonaaDoorSetOwn
import Derived.Test.YtckklobbbidonaaDoorRefSet
namespace Go.Proofs.YtckklobbbidonaaDoor
open Go Go.RowKit Go.Shelf

attribute [local go_sem] Oper.semAt_some ext_const

/-- A number is in a list. -/
def inL (l : List Int) (j : Nat) : Bool := l.contains (j : Int)
/-- The numbers of a list are all below n, and n may be. -/
def ofOk (n : Int) (l : List Int) : Bool := okN n && l.all fun x => decide (0 ≤ x ∧ x < n)
def ofErr (n : Int) (l : List Int) : Int := if ofOk n l then 0 else 2
structure OfIs (n : Int) (l : List Int) (ws : List Nat) : Prop where
  yes : ofOk n l = true → IsSet ((n.toNat + 63) / 64) ws (fun j => inL l j)
  no : ofOk n l = false → ws = []
theorem OfIs.ext {n : Int} {l : List Int} {a b : List Nat} (ha : OfIs n l a) (hb : OfIs n l b) : a = b := by
  cases h : ofOk n l
  · rw [ha.no h, hb.no h]
  · exact (ha.yes h).ext (hb.yes h)

theorem take_has {l : List Int} {i k : Nat} (hi : i < l.length) (hk : l.getD i 0 = (k : Int)) (j : Nat) : inL (l.take (i + 1)) j = (inL (l.take i) j || decide (j = k)) := by
  unfold inL
  rw [List.take_succ_eq_append_getElem hi]
  have : l[i] = (k : Int) := by simpa [hi] using hk
  rw [this, Bool.eq_iff_iff]
  have e : ((j : Int) = (k : Int)) ↔ j = k := Int.ofNat_inj
  simp [e]
theorem ofOk_no {n : Int} {l : List Int} {i : Nat} (hi : i < l.length) (h : ¬ (0 ≤ l.getD i 0 ∧ l.getD i 0 < n)) : ofOk n l = false := by
  cases e : ofOk n l
  · rfl
  · unfold ofOk at e
    rw [Bool.and_eq_true] at e
    have := List.all_eq_true.1 e.2 (l[i]) (List.getElem_mem hi)
    simp [hi] at h
    simp at this
    omega
theorem ofOk_yes {n : Nat} {l : List Int} (hn : 1 ≤ n ∧ n ≤ 12288) (h : ∀ i, i < l.length → 0 ≤ l.getD i 0 ∧ l.getD i 0 < n) : ofOk n l = true := by
  unfold ofOk
  rw [show okN n = true by simp [okN]; omega, Bool.true_and, List.all_eq_true]
  intro x hx
  obtain ⟨i, hi, rfl⟩ := List.mem_iff_getElem.1 hx
  have := h i hi
  simp [hi] at this
  simpa using this

set_option maxRecDepth 100000 in
set_option maxHeartbeats 4000000 in
theorem of_calls {v : Value} {l : List Int} (w : World) (hv : Its w v l) (hl : l.length ≤ 65536) (n : Int) :
    Calls Tryd.prog 9 #[I n, v] w fun e W' => ∃ u ws, e = .returned (.tuple #[u, I (ofErr n l)]) ∧ SetR W' w.heap.size u ws ∧ OfIs n l ws ∧ Below w.heap.size w W' := by
  have hmx : Tryd.prog.follows .mixedOrders = true := by kernel_rfl
  obtain ⟨ao, cap, rfl, hv'⟩ := hv.view
  have HV : Hid (∀ k, k < l.length → ∃ g off, ao = some ⟨g, off, none⟩ ∧ g < w.heap.size ∧ w.cell? ⟨g, off + k, none⟩ = some (I (l.getD k 0))) := hv'
  clear hv hv'
  have C : Calls Tryd.prog 26 #[I n, .slice none 0 0] w fun e W' => e = .returned (I (errAll n [])) ∧ W' = w :=
    check_calls (vs := []) (wss := []) w (Sl.nil w) rfl (by simp) (fun i hi => by simp at hi) n
  obtain ⟨er, her⟩ : ∃ er, er = ofErr n l := ⟨_, rfl⟩
  rw [← her]
  have HE : Hid (er = ofErr n l) := her
  clear her
  by_cases hn : 1 ≤ n ∧ n ≤ 12288
  · obtain ⟨m, rfl⟩ : ∃ m : Nat, n = m := ⟨n.toNat, by omega⟩
    rw [errAll_ok (by omega) (fun k hk => by simp at hk)] at C
    have hL : ∀ k, k < m → k / 64 < (m + 63) / 64 := fun k hk => by omega
    have hl2 : (m + 63) / 64 ≤ 192 := by omega
    have WC := fun w => words_calls m w (by omega)
    have HO : Hid (∀ ws, IsSet ((m + 63) / 64) ws (fun j => inL l j) → ofOk m l = true → OfIs m l ws) := fun ws h1 h2 => ⟨fun _ => by rw [Int.toNat_natCast]; exact h1, fun h => by rw [h2] at h; cases h⟩
    have HN : Hid (ofOk m l = false → OfIs m l []) := fun h => ⟨fun h2 => (by rw [h] at h2; cases h2), fun _ => rfl⟩
    obtain ⟨h1, h2⟩ := hn
    obtain ⟨L, hLe⟩ : ∃ L, L = (m + 63) / 64 := ⟨_, rfl⟩
    rw [← hLe] at hL hl2 WC HO
    clear hLe
    have HL : Hid (∀ k, k < m → k / 64 < L) := hL
    clear hL
    go_enter Tryd.func9, Tryd.ntmps9
    go_wp2_with fail
    refine C.mono ?_
    rintro e w1 ⟨rfl, hw⟩
    subst hw
    go_wp2_with fail
    refine (WC _).mono ?_
    rintro e w2 ⟨rfl, hw⟩
    subst hw
    clear WC C
    go_wp2_with (at_make; refine wpList_mkW rfl _ _ rfl L rfl rfl (by omega) ?_; intro w3 hK hT)
    have hJ : IsSet L (List.replicate L 0) (fun j => inL (l.take 0) j) := (IsSet.none L).congr (fun j => by simp [inL])
    obtain ⟨g, hg⟩ : ∃ g, g = w2.heap.size := ⟨_, rfl⟩
    rw [← hg] at hK
    rw [← hg]
    have hg' : w2.heap.size ≤ g := by omega
    clear hg
    go_wp2
    go_loopw [23] (fun i wr => ∃ (k : Nat) (cs : List Nat), k ≤ l.length ∧ i = .int .i64 k ∧ IsSet L cs (fun j => inL (l.take k) j) ∧ Hid (∀ i, i < k → 0 ≤ l.getD i 0 ∧ l.getD i 0 < (m : Int)) ∧ Blk wr g 25 (cs.map U).toArray ∧ Below w2.heap.size w2 wr) (fun i _ => l.length - (intOf i).toNat)
    case atStart => exact ⟨0, _, by omega, rfl, hJ, fun i hi => by omega, hK, hT⟩
    case round =>
      clear hJ hK hT
      obtain ⟨k, cs, hk, rfl, hJ, HR, hbk, hB⟩ := hrel
      by_cases hlt : (k : Int) < (l.length : Int)
      · have hkl : k < l.length := by omega
        obtain ⟨gl, ol, rfl, hgl, hcl⟩ := HV.out k hkl
        have hcl := (hB.cell (p := ⟨gl, ol + k, none⟩) hgl).trans hcl
        by_cases hin : 0 ≤ l.getD k 0 ∧ l.getD k 0 < (m : Int)
        · obtain ⟨y, hy⟩ : ∃ y : Nat, l.getD k 0 = (y : Int) := ⟨(l.getD k 0).toNat, by omega⟩
          have HR2 : Hid (∀ i, i < k + 1 → 0 ≤ l.getD i 0 ∧ l.getD i 0 < (m : Int)) := fun i hi => by
            rcases Nat.lt_succ_iff_lt_or_eq.1 hi with hi | rfl
            · exact HR.out i hi
            · exact hin
          rw [hy] at hcl hin
          obtain ⟨hin0, hin1⟩ := hin
          have hyl := HL.out y (by omega)
          have hyi : (y : Int) / 64 < (L : Int) := by omega
          have hlen := hJ.len
          have hword := getD_lt hJ.word (y / 64)
          have e0 : ∀ x : Ext wr, x.wd.cell? ⟨g, y / 64, none⟩ = some (U (cs.getD (y / 64) 0)) := fun x => blk_get (hbk.later x.le) (by rw [hlen]; exact hyl)
          have f0 : ∀ x : Ext wr, x.wd.frozen? ⟨g, y / 64, none⟩ = false := fun x => (hbk.later x.le).frozen _
          have HBK : Hid (∀ x : Ext wr, Blk (x.wd.setCell ⟨g, y / 64, none⟩ (U (cs.getD (y / 64) 0 ||| 2 ^ (y % 64)))) g 25 ((putW cs y).map U).toArray) := fun x => blk_put (hbk.later x.le) (y / 64) _
          have HPU : Hid (IsSet L (putW cs y) (fun j => inL (l.take (k + 1)) j)) := hJ.put hyl (take_has hkl hy)
          have hsb := shl_bit (y % 64) (Nat.mod_lt y (by omega))
          have hlor := or_bit _ (y % 64) hword (Nat.mod_lt y (by omega))
          clear hJ hbk hlen hy
          generalize cs.getD (y / 64) 0 ||| 2 ^ (y % 64) = z at *
          generalize cs.getD (y / 64) 0 = x0 at *
          go_wp2
          refine wp_region_tail 10 hmx (by kernel_rfl) ?_
          simp only [List.take_succ_cons, List.take_zero, List.drop_succ_cons, List.drop_zero]
          repeat (go_big_quiet_step (fail))
          refine wpQuiet_nil ?_
          intro x
          have c1 := e0 x
          have f1 := f0 x
          gi_wp2
          try rw [hsb]
          try rw [hlor]
          have hK := HBK.out x
          have hBX := (below_ext hB x).setCell (p := ⟨g, y / 64, none⟩) hg' (U z)
          generalize x.wd.setCell ⟨g, y / 64, none⟩ (U z) = W5 at *
          clear c1 f1 e0 f0
          go_wp2
          go_roundw
          case rel => exact ⟨k + 1, _, by omega, by go_num, HPU.out, HR2, hK, hBX⟩
          case measure => simp [intOf]; omega
        · have hno := ofOk_no hkl hin
          have E : er = 2 := by rw [HE.out, ofErr, hno]; rfl
          subst E
          have HNN := HN.out hno
          clear hJ hbk hno
          generalize l.getD k 0 = y at *
          by_cases hy0 : y < 0
          · go_wp2
            go_ret2
            first | exact ⟨_, rfl, _, .inr ⟨rfl, rfl⟩, HNN, hB⟩ | exact ⟨_, _, rfl, .inr ⟨rfl, rfl⟩, HNN, hB⟩
          · have hy1 : (m : Int) ≤ y := by omega
            clear hin
            go_wp2
            go_ret2
            first | exact ⟨_, rfl, _, .inr ⟨rfl, rfl⟩, HNN, hB⟩ | exact ⟨_, _, rfl, .inr ⟨rfl, rfl⟩, HNN, hB⟩
      · have e : k = l.length := by omega
        subst e
        have hok := ofOk_yes ⟨by omega, by omega⟩ HR.out
        have E : er = 0 := by rw [HE.out, ofErr, hok]; rfl
        subst E
        rw [List.take_length] at hJ
        have hO := HO.out cs hJ hok
        have hR : SetR wr w2.heap.size (.slice (some ⟨g, 0, none⟩) L L) cs := .inl ⟨hJ.word, g, by rw [hJ.len], hg', hbk⟩
        clear hbk hJ hok
        go_wp2
        go_ret2
        first | exact ⟨_, rfl, _, hR, hO, hB⟩ | exact ⟨_, _, rfl, hR, hO, hB⟩
  · rw [errAll_bad hn] at C
    have hno : ofOk n l = false := by unfold ofOk okN; rw [decide_eq_false hn]; rfl
    have E : er = 2 := by rw [HE.out, ofErr, hno]; rfl
    subst E
    have HNN : OfIs n l [] := ⟨fun h2 => (by rw [hno] at h2; cases h2), fun _ => rfl⟩
    clear hno hn
    go_enter Tryd.func9, Tryd.ntmps9
    go_wp2_with fail
    refine C.mono ?_
    rintro e w1 ⟨rfl, hw⟩
    subst hw
    go_wp2
    go_ret2
    first | exact ⟨_, rfl, _, .inr ⟨rfl, rfl⟩, HNN, Below.refl _ _⟩ | exact ⟨_, _, rfl, .inr ⟨rfl, rfl⟩, HNN, Below.refl _ _⟩

set_option maxRecDepth 100000 in
set_option maxHeartbeats 4000000 in
theorem from_calls {v : Value} {l : List Int} (w : World) (hv : Its w v l) (hl : l.length ≤ 65536) (m : Nat) (h1 : 1 ≤ m) (h2 : m ≤ 12288) (hall : ∀ i, i < l.length → 0 ≤ l.getD i 0 ∧ l.getD i 0 < (m : Int)) :
    Calls Tryd.prog 30 #[I m, v] w fun e W' => ∃ u ws, e = .returned u ∧ Set1 W' w.heap.size u ws ∧ IsSet ((m + 63) / 64) ws (fun j => inL l j) ∧ Below w.heap.size w W' := by
  have hmx : Tryd.prog.follows .mixedOrders = true := by kernel_rfl
  obtain ⟨ao, cap, rfl, hv'⟩ := hv.view
  have HV : Hid (∀ k, k < l.length → ∃ g off, ao = some ⟨g, off, none⟩ ∧ g < w.heap.size ∧ w.cell? ⟨g, off + k, none⟩ = some (I (l.getD k 0))) := hv'
  have HA : Hid (∀ i, i < l.length → 0 ≤ l.getD i 0 ∧ l.getD i 0 < (m : Int)) := hall
  clear hv hv' hall
  have hL : ∀ k, k < m → k / 64 < (m + 63) / 64 := fun k hk => by omega
  have hl2 : (m + 63) / 64 ≤ 192 := by omega
  have hwl : ((m : Int) + 63) / 64 = (((m + 63) / 64 : Nat) : Int) := by omega
  obtain ⟨L, hLe⟩ : ∃ L, L = (m + 63) / 64 := ⟨_, rfl⟩
  rw [← hLe] at hL hl2 hwl ⊢
  clear hLe
  have HL : Hid (∀ k, k < m → k / 64 < L) := hL
  clear hL
  go_enter Tryd.func30, Tryd.ntmps30
  go_wp2_with (at_make; refine wpList_mkW rfl _ _ rfl L (congrArg (Value.int IntKind.i64) hwl) (congrArg (Value.int IntKind.i64) hwl) (by omega) ?_; intro w3 hK hT)
  have hJ : IsSet L (List.replicate L 0) (fun j => inL (l.take 0) j) := (IsSet.none L).congr (fun j => by simp [inL])
  obtain ⟨g, hg⟩ : ∃ g, g = w.heap.size := ⟨_, rfl⟩
  rw [← hg] at hK
  rw [← hg]
  have hg' : w.heap.size ≤ g := by omega
  clear hg
  go_wp2
  go_loopw [6] (fun i wr => ∃ (k : Nat) (cs : List Nat), k ≤ l.length ∧ i = .int .i64 k ∧ IsSet L cs (fun j => inL (l.take k) j) ∧ Blk wr g 25 (cs.map U).toArray ∧ Below w.heap.size w wr) (fun i _ => l.length - (intOf i).toNat)
  case atStart => exact ⟨0, _, by omega, rfl, hJ, hK, hT⟩
  case round =>
    clear hJ hK hT
    obtain ⟨k, cs, hk, rfl, hJ, hbk, hB⟩ := hrel
    by_cases hlt : (k : Int) < (l.length : Int)
    · have hkl : k < l.length := by omega
      obtain ⟨gl, ol, rfl, hgl, hcl⟩ := HV.out k hkl
      have hin := HA.out k hkl
      obtain ⟨y, hy⟩ : ∃ y : Nat, l.getD k 0 = (y : Int) := ⟨(l.getD k 0).toNat, by omega⟩
      rw [hy] at hcl hin
      obtain ⟨hin0, hin1⟩ := hin
      have hyl := HL.out y (by omega)
      have hyi : (y : Int) / 64 < (L : Int) := by omega
      have hlen := hJ.len
      have hword := getD_lt hJ.word (y / 64)
      have TH := there_calls wr (v := .slice (some ⟨g, 0, none⟩) L L) (ws := cs) (by
        have := (show Set1 wr w.heap.size (.slice (some ⟨g, 0, none⟩) L L) cs from ⟨hJ.word, g, by rw [hlen], hg', hbk⟩).wds
        exact this) y (by omega)
      have hcr := (hB.cell (p := ⟨gl, ol + k, none⟩) hgl).trans hcl
      have hcw : ∀ x : Ext wr, x.wd.cell? ⟨gl, ol + k, none⟩ = some (I (y : Int)) := fun x => ((below_ext hB x).cell (p := ⟨gl, ol + k, none⟩) hgl).trans hcl
      have e0 : ∀ x : Ext wr, x.wd.cell? ⟨g, y / 64, none⟩ = some (U (cs.getD (y / 64) 0)) := fun x => blk_get (hbk.later x.le) (by rw [hlen]; exact hyl)
      have f0 : ∀ x : Ext wr, x.wd.frozen? ⟨g, y / 64, none⟩ = false := fun x => (hbk.later x.le).frozen _
      have HBK : Hid (∀ x : Ext wr, Blk (x.wd.setCell ⟨g, y / 64, none⟩ (U (cs.getD (y / 64) 0 ||| 2 ^ (y % 64)))) g 25 ((putW cs y).map U).toArray) := fun x => blk_put (hbk.later x.le) (y / 64) _
      have HPU : Hid (IsSet L (putW cs y) (fun j => inL (l.take (k + 1)) j)) := hJ.put hyl (take_has hkl hy)
      have HST : Hid (hasW cs y = true → IsSet L cs (fun j => inL (l.take (k + 1)) j)) := fun h => hJ.congr fun j => by
        rw [take_has hkl hy, ← hJ.has j]
        by_cases e : j = y
        · subst e; simp [h]
        · simp [e]
      have hsb := shl_bit (y % 64) (Nat.mod_lt y (by omega))
      have HLO : Hid (hasW cs y = false → IntKind.u64.wrap (((cs.getD (y / 64) 0 : Nat) : Int) + 2 ^ (y % 64)) = ((cs.getD (y / 64) 0 ||| 2 ^ (y % 64) : Nat) : Int)) := fun h => by
        have h3 : (cs.getD (y / 64) 0).testBit (y % 64) = false := h
        have h4 := or_lt _ (y % 64) hword (Nat.mod_lt y (by omega))
        rw [← add_or h3] at h4 ⊢
        rw [IntKind.wrap_u64, show ((2 : Int) ^ (y % 64)) = ((2 ^ (y % 64) : Nat) : Int) by norm_cast]
        generalize 2 ^ (y % 64) = zz at *
        omega
      have HBKK : Hid (Blk wr g 25 (cs.map U).toArray) := hbk
      clear hJ hbk hlen hy hcl
      generalize cs.getD (y / 64) 0 ||| 2 ^ (y % 64) = z at *
      generalize cs.getD (y / 64) 0 = x0 at *
      generalize hasW cs y = q at *
      go_wp2_with fail
      refine TH.mono ?_
      rintro e w4 ⟨rfl, hw⟩
      subst hw
      clear TH
      cases q
      · have hlo := HLO.out rfl
        go_wp2
        refine wp_region_tail 16 hmx (by kernel_rfl) ?_
        simp only [List.take_succ_cons, List.take_zero, List.drop_succ_cons, List.drop_zero]
        repeat (go_big_quiet_step (fail))
        refine wpQuiet_nil ?_
        intro x
        have c1 := e0 x
        have f1 := f0 x
        gi_wp2
        try rw [hsb]
        try rw [hlo]
        have hK := HBK.out x
        have hBX := (below_ext hB x).setCell (p := ⟨g, y / 64, none⟩) hg' (U z)
        generalize x.wd.setCell ⟨g, y / 64, none⟩ (U z) = W5 at *
        clear c1 f1 e0 f0 hcw
        go_wp2
        go_roundw
        case rel => exact ⟨k + 1, _, by omega, by go_num, HPU.out, hK, hBX⟩
        case measure => simp [intOf]; omega
      · have HE : Hid _ := HST.out rfl
        clear e0 f0 hcw
        go_wp2
        go_roundw
        case rel => exact ⟨k + 1, cs, by omega, by go_num, HE.out, HBKK.out, hB⟩
        case measure => simp [intOf]; omega
    · have e : k = l.length := by omega
      subst e
      rw [List.take_length] at hJ
      have hR : Set1 wr w.heap.size (.slice (some ⟨g, 0, none⟩) L L) cs := ⟨hJ.word, g, by rw [hJ.len], hg', hbk⟩
      clear hbk
      go_wp2
      go_ret
      first | exact ⟨_, rfl, _, hR, hJ, hB⟩ | exact ⟨_, _, rfl, hR, hJ, hB⟩

set_option maxRecDepth 100000 in
set_option maxHeartbeats 4000000 in
theorem rof_calls {v : Value} {l : List Int} (w : World) (hv : Its w v l) (hl : l.length ≤ 65536) (n : Int) :
    Calls Tryd.prog 12 #[I n, v] w fun e W' => ∃ u ws, e = .returned (.tuple #[u, I (ofErr n l)]) ∧ SetR W' w.heap.size u ws ∧ OfIs n l ws ∧ Below w.heap.size w W' := by
  have HI : Hid (Its w v l) := hv
  obtain ⟨ao, cap, rfl, hv'⟩ := hv.view
  have HV : Hid (∀ k, k < l.length → ∃ g off, ao = some ⟨g, off, none⟩ ∧ g < w.heap.size ∧ w.cell? ⟨g, off + k, none⟩ = some (I (l.getD k 0))) := hv'
  clear hv hv'
  have C := mayN_calls n w
  obtain ⟨er, her⟩ : ∃ er, er = ofErr n l := ⟨_, rfl⟩
  rw [← her]
  have HE : Hid (er = ofErr n l) := her
  clear her
  by_cases hn : 1 ≤ n ∧ n ≤ 12288
  · obtain ⟨m, rfl⟩ : ∃ m : Nat, n = m := ⟨n.toNat, by omega⟩
    rw [show okN (m : Int) = true by simp [okN]; omega] at C
    obtain ⟨h1, h2⟩ := hn
    have FR := fun hall => from_calls w HI.out hl m (by omega) (by omega) hall
    have HFR : Hid (∀ _hall : (∀ i, i < l.length → 0 ≤ l.getD i 0 ∧ l.getD i 0 < (m : Int)), Calls Tryd.prog 30 #[I (m : Int), .slice ao l.length cap] w fun e W' => ∃ u ws, e = .returned u ∧ Set1 W' w.heap.size u ws ∧ IsSet ((m + 63) / 64) ws (fun j => inL l j) ∧ Below w.heap.size w W') := FR
    clear FR
    have HO : Hid (∀ ws, IsSet ((m + 63) / 64) ws (fun j => inL l j) → ofOk m l = true → OfIs m l ws) := fun ws h1 h2 => ⟨fun _ => by rw [Int.toNat_natCast]; exact h1, fun h => by rw [h2] at h; cases h⟩
    have HN : Hid (ofOk m l = false → OfIs m l []) := fun h => ⟨fun h2 => (by rw [h] at h2; cases h2), fun _ => rfl⟩
    go_enter Tryd.func12, Tryd.ntmps12
    go_wp2_with fail
    refine C.mono ?_
    rintro e w1 ⟨rfl, hw⟩
    subst hw
    clear C
    go_wp2
    go_loopw [6] (fun i wr => ∃ k : Nat, k ≤ l.length ∧ i = .int .i64 k ∧ Hid (∀ i, i < k → 0 ≤ l.getD i 0 ∧ l.getD i 0 < (m : Int)) ∧ wr = w1) (fun i _ => l.length - (intOf i).toNat)
    case atStart => exact ⟨0, by omega, rfl, fun i hi => by omega, rfl⟩
    case round =>
      obtain ⟨k, hk, rfl, HR, hw⟩ := hrel
      subst hw
      by_cases hlt : (k : Int) < (l.length : Int)
      · have hkl : k < l.length := by omega
        obtain ⟨gl, ol, rfl, hgl, hcl⟩ := HV.out k hkl
        by_cases hin : 0 ≤ l.getD k 0 ∧ l.getD k 0 < (m : Int)
        · have HR2 : Hid (∀ i, i < k + 1 → 0 ≤ l.getD i 0 ∧ l.getD i 0 < (m : Int)) := fun i hi => by
            rcases Nat.lt_succ_iff_lt_or_eq.1 hi with hi | rfl
            · exact HR.out i hi
            · exact hin
          generalize l.getD k 0 = y at *
          obtain ⟨hin0, hin1⟩ := hin
          go_wp2
          go_roundw
          case rel => exact ⟨k + 1, by omega, by go_num, HR2, by trivial⟩
          case measure => simp [intOf]; omega
        · have hno := ofOk_no hkl hin
          have E : er = 2 := by rw [HE.out, ofErr, hno]; rfl
          subst E
          have HNN := HN.out hno
          clear hno
          generalize l.getD k 0 = y at *
          by_cases hy0 : y < 0
          · go_wp2
            go_ret2
            first | exact ⟨_, rfl, _, .inr ⟨rfl, rfl⟩, HNN, Below.refl _ _⟩ | exact ⟨_, _, rfl, .inr ⟨rfl, rfl⟩, HNN, Below.refl _ _⟩
          · have hy1 : (m : Int) ≤ y := by omega
            clear hin
            go_wp2
            go_ret2
            first | exact ⟨_, rfl, _, .inr ⟨rfl, rfl⟩, HNN, Below.refl _ _⟩ | exact ⟨_, _, rfl, .inr ⟨rfl, rfl⟩, HNN, Below.refl _ _⟩
      · have hall : ∀ i, i < l.length → 0 ≤ l.getD i 0 ∧ l.getD i 0 < (m : Int) := fun i hi => HR.out i (by omega)
        have hok := ofOk_yes ⟨by omega, by omega⟩ hall
        have E : er = 0 := by rw [HE.out, ofErr, hok]; rfl
        subst E
        have D := HFR.out hall
        have HOK : Hid (ofOk m l = true) := hok
        clear hok hall
        go_wp2_with fail
        refine D.mono ?_
        rintro e w2 ⟨u, ws, rfl, hS, hI, hB⟩
        have hO := HO.out ws hI HOK.out
        clear hI
        go_wp2
        go_ret2
        first | exact ⟨_, rfl, _, .inl hS, hO, hB⟩ | exact ⟨_, _, rfl, .inl hS, hO, hB⟩
  · rw [show okN n = false by simp only [okN]; exact decide_eq_false hn] at C
    have hno : ofOk n l = false := by unfold ofOk okN; rw [decide_eq_false hn]; rfl
    have E : er = 2 := by rw [HE.out, ofErr, hno]; rfl
    subst E
    have HNN : OfIs n l [] := ⟨fun h2 => (by rw [hno] at h2; cases h2), fun _ => rfl⟩
    clear hno hn
    go_enter Tryd.func12, Tryd.ntmps12
    go_wp2_with fail
    refine C.mono ?_
    rintro e w1 ⟨rfl, hw⟩
    subst hw
    go_wp2
    go_ret2
    first | exact ⟨_, rfl, _, .inr ⟨rfl, rfl⟩, HNN, Below.refl _ _⟩ | exact ⟨_, _, rfl, .inr ⟨rfl, rfl⟩, HNN, Below.refl _ _⟩

end Go.Proofs.YtckklobbbidonaaDoor
