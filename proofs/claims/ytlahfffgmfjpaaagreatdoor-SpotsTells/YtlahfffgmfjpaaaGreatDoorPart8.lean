/-
  The document's answer of sets of two (tidehallref03): Same, two, joined, And, Or, Less, All, Meets, Meet, Inside, In.
-/
import Derived.Test.YtlahfffgmfjpaaaGreatDoorPart7
import Derived.Test.YtlahfffgmfjpaaaGreatDoorPart3
import Derived.WalkMore
import Derived.ScopeJumps
namespace Go.Proofs.YtlahfffgmfjpaaaGreatDoor
open Go Go.RowKit Go.Shelf

attribute [local go_sem] Oper.semAt_some ext_const

theorem errAll_first {n : Int} {a b : List Nat} (h : errAll n [a] ≠ 0) : errAll n [a, b] = errAll n [a] := by
  unfold errAll at h ⊢
  cases h1 : okN n <;> cases h2 : maySet n.toNat a <;> cases h3 : maySet n.toNat b <;> simp_all
theorem errAll_second {n : Int} {a b : List Nat} (h : errAll n [a] = 0) : errAll n [a, b] = errAll n [b] := by
  unfold errAll at h ⊢
  cases h1 : okN n <;> cases h2 : maySet n.toNat a <;> cases h3 : maySet n.toNat b <;> simp_all

def pick3 (c1 c2 c3 x y : Bool) : Bool := x && y && c1 || x && !y && c2 || !x && y && c3

theorem upto_yes {p : Nat → Bool} {k : Nat} (h : p k = true) (j : Nat) : (decide (j < k + 1) && p j) = ((decide (j < k) && p j) || decide (j = k)) := by
  by_cases e : j = k
  · subst e; simp [h]
  · have : decide (j < k + 1) = decide (j < k) := by rw [decide_eq_decide]; omega
    rw [this]; simp [e]
theorem upto_no {p : Nat → Bool} {k : Nat} (h : p k = false) (j : Nat) : (decide (j < k + 1) && p j) = (decide (j < k) && p j) := by
  by_cases e : j = k
  · subst e; simp [h]
  · have : decide (j < k + 1) = decide (j < k) := by rw [decide_eq_decide]; omega
    rw [this]

/-- The bit that is put, as the program reckons it. -/
theorem shl_bit (j : Nat) (hj : j < 64) : IntKind.u64.wrap ((2 : Int) ^ j) = 2 ^ j := by
  rw [IntKind.wrap_u64]
  have : 2 ^ j < 2 ^ 64 := Nat.pow_lt_pow_right (by omega) hj
  have e : ((2 : Int) ^ j) = ((2 ^ j : Nat) : Int) := by norm_cast
  rw [e]
  generalize 2 ^ j = y at *
  omega
theorem or_bit (x j : Nat) (hx : x < 18446744073709551616) (hj : j < 64) : bits .or .u64 (x : Int) ((2 : Int) ^ j) = ((x ||| 2 ^ j : Nat) : Int) := by
  have e : ((2 : Int) ^ j) = ((2 ^ j : Nat) : Int) := by norm_cast
  rw [e]
  exact u64_or_nat x (2 ^ j) hx (show 2 ^ j < 2 ^ 64 from Nat.pow_lt_pow_right (by omega) hj)

end Go.Proofs.YtlahfffgmfjpaaaGreatDoor

/-
  The set of some numbers: set.Of, tidehallref03.From, tidehallref03.Of.
-/
namespace Go.Proofs.YtlahfffgmfjpaaaGreatDoor
open Go Go.RowKit Go.Shelf

attribute [local go_sem] Oper.semAt_some ext_const

/-- A number is in a list. -/
def inL (l : List Int) (j : Nat) : Bool := l.contains (j : Int)
/-- The numbers of a list are all below n, and n may be. -/
def ofOk (n : Int) (l : List Int) : Bool := okN n && l.all fun x => decide (0 ≤ x ∧ x < n)
def ofErr (n : Int) (l : List Int) : Int := if ofOk n l then 0 else 2
structure OfIs (n : Int) (l : List Int) (ws : List Nat) : Prop where
  yes : ofOk n l = true → IsSet ((n.toNat + 63) / 64) ws (fun j => inL l j)
  no : ofOk n l = false → ws = []
theorem OfIs.ext {n : Int} {l : List Int} {a b : List Nat} (ha : OfIs n l a) (hb : OfIs n l b) : a = b := by
  cases h : ofOk n l
  · rw [ha.no h, hb.no h]
  · exact (ha.yes h).ext (hb.yes h)

theorem take_has {l : List Int} {i k : Nat} (hi : i < l.length) (hk : l.getD i 0 = (k : Int)) (j : Nat) : inL (l.take (i + 1)) j = (inL (l.take i) j || decide (j = k)) := by
  unfold inL
  rw [List.take_succ_eq_append_getElem hi]
  have : l[i] = (k : Int) := by simpa [hi] using hk
  rw [this, Bool.eq_iff_iff]
  have e : ((j : Int) = (k : Int)) ↔ j = k := Int.ofNat_inj
  simp [e]
theorem ofOk_no {n : Int} {l : List Int} {i : Nat} (hi : i < l.length) (h : ¬ (0 ≤ l.getD i 0 ∧ l.getD i 0 < n)) : ofOk n l = false := by
  cases e : ofOk n l
  · rfl
  · unfold ofOk at e
    rw [Bool.and_eq_true] at e
    have := List.all_eq_true.1 e.2 (l[i]) (List.getElem_mem hi)
    simp [hi] at h
    simp at this
    omega
theorem ofOk_yes {n : Nat} {l : List Int} (hn : 1 ≤ n ∧ n ≤ 12288) (h : ∀ i, i < l.length → 0 ≤ l.getD i 0 ∧ l.getD i 0 < n) : ofOk n l = true := by
  unfold ofOk
  rw [show okN n = true by simp [okN]; omega, Bool.true_and, List.all_eq_true]
  intro x hx
  obtain ⟨i, hi, rfl⟩ := List.mem_iff_getElem.1 hx
  have := h i hi
  simp [hi] at this
  simpa using this

set_option maxRecDepth 100000 in
set_option maxHeartbeats 4000000 in
theorem of_calls {v : Value} {l : List Int} (w : World) (hv : Its w v l) (hl : l.length ≤ 65536) (n : Int) :
    Calls Tryz.prog 130 #[I n, v] w fun e W' => ∃ u ws, e = .returned (.tuple #[u, I (ofErr n l)]) ∧ SetR W' w.heap.size u ws ∧ OfIs n l ws ∧ Below w.heap.size w W' := by
  have hmx : Tryz.prog.follows .mixedOrders = true := by kernel_rfl
  obtain ⟨ao, cap, rfl, hv'⟩ := hv.view
  have HV : Hid (∀ k, k < l.length → ∃ g off, ao = some ⟨g, off, none⟩ ∧ g < w.heap.size ∧ w.cell? ⟨g, off + k, none⟩ = some (I (l.getD k 0))) := hv'
  clear hv hv'
  have C : Calls Tryz.prog 67 #[I n, .slice none 0 0] w fun e W' => e = .returned (I (errAll n [])) ∧ W' = w :=
    check_calls (vs := []) (wss := []) w (Sl.nil w) rfl (by simp) (fun i hi => by simp at hi) n
  obtain ⟨er, her⟩ : ∃ er, er = ofErr n l := ⟨_, rfl⟩
  rw [← her]
  have HE : Hid (er = ofErr n l) := her
  clear her
  by_cases hn : 1 ≤ n ∧ n ≤ 12288
  · obtain ⟨m, rfl⟩ : ∃ m : Nat, n = m := ⟨n.toNat, by omega⟩
    rw [errAll_ok (by omega) (fun k hk => by simp at hk)] at C
    have hL : ∀ k, k < m → k / 64 < (m + 63) / 64 := fun k hk => by omega
    have hl2 : (m + 63) / 64 ≤ 192 := by omega
    have WC := fun w => words_calls m w (by omega)
    have HO : Hid (∀ ws, IsSet ((m + 63) / 64) ws (fun j => inL l j) → ofOk m l = true → OfIs m l ws) := fun ws h1 h2 => ⟨fun _ => by rw [Int.toNat_natCast]; exact h1, fun h => by rw [h2] at h; cases h⟩
    have HN : Hid (ofOk m l = false → OfIs m l []) := fun h => ⟨fun h2 => (by rw [h] at h2; cases h2), fun _ => rfl⟩
    obtain ⟨h1, h2⟩ := hn
    obtain ⟨L, hLe⟩ : ∃ L, L = (m + 63) / 64 := ⟨_, rfl⟩
    rw [← hLe] at hL hl2 WC HO
    clear hLe
    have HL : Hid (∀ k, k < m → k / 64 < L) := hL
    clear hL
    go_enter Tryz.func130, Tryz.ntmps130
    go_wp2_with fail
    refine C.mono ?_
    rintro e w1 ⟨rfl, hw⟩
    subst hw
    go_wp2_with fail
    refine (WC _).mono ?_
    rintro e w2 ⟨rfl, hw⟩
    subst hw
    clear WC C
    go_wp2_with (at_make; refine wpList_mkW rfl _ _ rfl L rfl rfl (by omega) ?_; intro w3 hK hT)
    have hJ : IsSet L (List.replicate L 0) (fun j => inL (l.take 0) j) := (IsSet.none L).congr (fun j => by simp [inL])
    obtain ⟨g, hg⟩ : ∃ g, g = w2.heap.size := ⟨_, rfl⟩
    rw [← hg] at hK
    rw [← hg]
    have hg' : w2.heap.size ≤ g := by omega
    clear hg
    go_wp2
    go_loopw [23] (fun i wr => ∃ (k : Nat) (cs : List Nat), k ≤ l.length ∧ i = .int .i64 k ∧ IsSet L cs (fun j => inL (l.take k) j) ∧ Hid (∀ i, i < k → 0 ≤ l.getD i 0 ∧ l.getD i 0 < (m : Int)) ∧ Blk wr g 129 (cs.map U).toArray ∧ Below w2.heap.size w2 wr) (fun i _ => l.length - (RowKit.intOf i).toNat)
    case atStart => exact ⟨0, _, by omega, rfl, hJ, fun i hi => by omega, hK, hT⟩
    case round =>
      clear hJ hK hT
      obtain ⟨k, cs, hk, rfl, hJ, HR, hbk, hB⟩ := hrel
      by_cases hlt : (k : Int) < (l.length : Int)
      · have hkl : k < l.length := by omega
        obtain ⟨gl, ol, rfl, hgl, hcl⟩ := HV.out k hkl
        have hcl := (hB.cell (p := ⟨gl, ol + k, none⟩) hgl).trans hcl
        by_cases hin : 0 ≤ l.getD k 0 ∧ l.getD k 0 < (m : Int)
        · obtain ⟨y, hy⟩ : ∃ y : Nat, l.getD k 0 = (y : Int) := ⟨(l.getD k 0).toNat, by omega⟩
          have HR2 : Hid (∀ i, i < k + 1 → 0 ≤ l.getD i 0 ∧ l.getD i 0 < (m : Int)) := fun i hi => by
            rcases Nat.lt_succ_iff_lt_or_eq.1 hi with hi | rfl
            · exact HR.out i hi
            · exact hin
          rw [hy] at hcl hin
          obtain ⟨hin0, hin1⟩ := hin
          have hyl := HL.out y (by omega)
          have hyi : (y : Int) / 64 < (L : Int) := by omega
          have hlen := hJ.len
          have hword := getD_lt hJ.word (y / 64)
          have e0 : ∀ x : Ext wr, x.wd.cell? ⟨g, y / 64, none⟩ = some (U (cs.getD (y / 64) 0)) := fun x => blk_get (hbk.later x.le) (by rw [hlen]; exact hyl)
          have f0 : ∀ x : Ext wr, x.wd.frozen? ⟨g, y / 64, none⟩ = false := fun x => (hbk.later x.le).frozen _
          have HBK : Hid (∀ x : Ext wr, Blk (x.wd.setCell ⟨g, y / 64, none⟩ (U (cs.getD (y / 64) 0 ||| 2 ^ (y % 64)))) g 129 ((putW cs y).map U).toArray) := fun x => blk_put (hbk.later x.le) (y / 64) _
          have HPU : Hid (IsSet L (putW cs y) (fun j => inL (l.take (k + 1)) j)) := hJ.put hyl (take_has hkl hy)
          have hsb := shl_bit (y % 64) (Nat.mod_lt y (by omega))
          have hlor := or_bit _ (y % 64) hword (Nat.mod_lt y (by omega))
          clear hJ hbk hlen hy
          generalize cs.getD (y / 64) 0 ||| 2 ^ (y % 64) = z at *
          generalize cs.getD (y / 64) 0 = x0 at *
          go_wp2
          refine wp_region_tail 10 hmx (by kernel_rfl) ?_
          simp only [List.take_succ_cons, List.take_zero, List.drop_succ_cons, List.drop_zero]
          repeat (go_big_quiet_step (fail))
          refine wpQuiet_nil ?_
          intro x
          have c1 := e0 x
          have f1 := f0 x
          gi_wp2
          try rw [hsb]
          try rw [hlor]
          have hK := HBK.out x
          have hBX := (below_ext hB x).setCell (p := ⟨g, y / 64, none⟩) hg' (U z)
          generalize x.wd.setCell ⟨g, y / 64, none⟩ (U z) = W5 at *
          clear c1 f1 e0 f0
          go_wp2
          go_roundw
          case rel => exact ⟨k + 1, _, by omega, by go_num, HPU.out, HR2, hK, hBX⟩
          case measure => simp [RowKit.intOf]; omega
        · have hno := ofOk_no hkl hin
          have E : er = 2 := by rw [HE.out, ofErr, hno]; rfl
          subst E
          have HNN := HN.out hno
          clear hJ hbk hno
          generalize l.getD k 0 = y at *
          by_cases hy0 : y < 0
          · go_wp2
            go_ret2
            first | exact ⟨_, rfl, _, .inr ⟨rfl, rfl⟩, HNN, hB⟩ | exact ⟨_, _, rfl, .inr ⟨rfl, rfl⟩, HNN, hB⟩
          · have hy1 : (m : Int) ≤ y := by omega
            clear hin
            go_wp2
            go_ret2
            first | exact ⟨_, rfl, _, .inr ⟨rfl, rfl⟩, HNN, hB⟩ | exact ⟨_, _, rfl, .inr ⟨rfl, rfl⟩, HNN, hB⟩
      · have e : k = l.length := by omega
        subst e
        have hok := ofOk_yes ⟨by omega, by omega⟩ HR.out
        have E : er = 0 := by rw [HE.out, ofErr, hok]; rfl
        subst E
        rw [List.take_length] at hJ
        have hO := HO.out cs hJ hok
        have hR : SetR wr w2.heap.size (.slice (some ⟨g, 0, none⟩) L L) cs := .inl ⟨hJ.word, g, by rw [hJ.len], hg', hbk⟩
        clear hbk hJ hok
        go_wp2
        go_ret2
        first | exact ⟨_, rfl, _, hR, hO, hB⟩ | exact ⟨_, _, rfl, hR, hO, hB⟩
  · rw [errAll_bad hn] at C
    have hno : ofOk n l = false := by unfold ofOk okN; rw [decide_eq_false hn]; rfl
    have E : er = 2 := by rw [HE.out, ofErr, hno]; rfl
    subst E
    have HNN : OfIs n l [] := ⟨fun h2 => (by rw [hno] at h2; cases h2), fun _ => rfl⟩
    clear hno hn
    go_enter Tryz.func130, Tryz.ntmps130
    go_wp2_with fail
    refine C.mono ?_
    rintro e w1 ⟨rfl, hw⟩
    subst hw
    go_wp2
    go_ret2
    first | exact ⟨_, rfl, _, .inr ⟨rfl, rfl⟩, HNN, Below.refl _ _⟩ | exact ⟨_, _, rfl, .inr ⟨rfl, rfl⟩, HNN, Below.refl _ _⟩

set_option maxRecDepth 100000 in
set_option maxHeartbeats 4000000 in
theorem from_calls {v : Value} {l : List Int} (w : World) (hv : Its w v l) (hl : l.length ≤ 65536) (m : Nat) (h1 : 1 ≤ m) (h2 : m ≤ 12288) (hall : ∀ i, i < l.length → 0 ≤ l.getD i 0 ∧ l.getD i 0 < (m : Int)) :
    Calls Tryz.prog 101 #[I m, v] w fun e W' => ∃ u ws, e = .returned u ∧ Set1 W' w.heap.size u ws ∧ IsSet ((m + 63) / 64) ws (fun j => inL l j) ∧ Below w.heap.size w W' := by
  have hmx : Tryz.prog.follows .mixedOrders = true := by kernel_rfl
  obtain ⟨ao, cap, rfl, hv'⟩ := hv.view
  have HV : Hid (∀ k, k < l.length → ∃ g off, ao = some ⟨g, off, none⟩ ∧ g < w.heap.size ∧ w.cell? ⟨g, off + k, none⟩ = some (I (l.getD k 0))) := hv'
  have HA : Hid (∀ i, i < l.length → 0 ≤ l.getD i 0 ∧ l.getD i 0 < (m : Int)) := hall
  clear hv hv' hall
  have hL : ∀ k, k < m → k / 64 < (m + 63) / 64 := fun k hk => by omega
  have hl2 : (m + 63) / 64 ≤ 192 := by omega
  have hwl : ((m : Int) + 63) / 64 = (((m + 63) / 64 : Nat) : Int) := by omega
  obtain ⟨L, hLe⟩ : ∃ L, L = (m + 63) / 64 := ⟨_, rfl⟩
  rw [← hLe] at hL hl2 hwl ⊢
  clear hLe
  have HL : Hid (∀ k, k < m → k / 64 < L) := hL
  clear hL
  go_enter Tryz.func101, Tryz.ntmps101
  go_wp2_with (at_make; refine wpList_mkW rfl _ _ rfl L (congrArg (Value.int IntKind.i64) hwl) (congrArg (Value.int IntKind.i64) hwl) (by omega) ?_; intro w3 hK hT)
  have hJ : IsSet L (List.replicate L 0) (fun j => inL (l.take 0) j) := (IsSet.none L).congr (fun j => by simp [inL])
  obtain ⟨g, hg⟩ : ∃ g, g = w.heap.size := ⟨_, rfl⟩
  rw [← hg] at hK
  rw [← hg]
  have hg' : w.heap.size ≤ g := by omega
  clear hg
  go_wp2
  go_loopw [6] (fun i wr => ∃ (k : Nat) (cs : List Nat), k ≤ l.length ∧ i = .int .i64 k ∧ IsSet L cs (fun j => inL (l.take k) j) ∧ Blk wr g 129 (cs.map U).toArray ∧ Below w.heap.size w wr) (fun i _ => l.length - (RowKit.intOf i).toNat)
  case atStart => exact ⟨0, _, by omega, rfl, hJ, hK, hT⟩
  case round =>
    clear hJ hK hT
    obtain ⟨k, cs, hk, rfl, hJ, hbk, hB⟩ := hrel
    by_cases hlt : (k : Int) < (l.length : Int)
    · have hkl : k < l.length := by omega
      obtain ⟨gl, ol, rfl, hgl, hcl⟩ := HV.out k hkl
      have hin := HA.out k hkl
      obtain ⟨y, hy⟩ : ∃ y : Nat, l.getD k 0 = (y : Int) := ⟨(l.getD k 0).toNat, by omega⟩
      rw [hy] at hcl hin
      obtain ⟨hin0, hin1⟩ := hin
      have hyl := HL.out y (by omega)
      have hyi : (y : Int) / 64 < (L : Int) := by omega
      have hlen := hJ.len
      have hword := getD_lt hJ.word (y / 64)
      have TH := there_calls wr (v := .slice (some ⟨g, 0, none⟩) L L) (ws := cs) (by
        have := (show Set1 wr w.heap.size (.slice (some ⟨g, 0, none⟩) L L) cs from ⟨hJ.word, g, by rw [hlen], hg', hbk⟩).wds
        exact this) y (by omega)
      have hcr := (hB.cell (p := ⟨gl, ol + k, none⟩) hgl).trans hcl
      have hcw : ∀ x : Ext wr, x.wd.cell? ⟨gl, ol + k, none⟩ = some (I (y : Int)) := fun x => ((below_ext hB x).cell (p := ⟨gl, ol + k, none⟩) hgl).trans hcl
      have e0 : ∀ x : Ext wr, x.wd.cell? ⟨g, y / 64, none⟩ = some (U (cs.getD (y / 64) 0)) := fun x => blk_get (hbk.later x.le) (by rw [hlen]; exact hyl)
      have f0 : ∀ x : Ext wr, x.wd.frozen? ⟨g, y / 64, none⟩ = false := fun x => (hbk.later x.le).frozen _
      have HBK : Hid (∀ x : Ext wr, Blk (x.wd.setCell ⟨g, y / 64, none⟩ (U (cs.getD (y / 64) 0 ||| 2 ^ (y % 64)))) g 129 ((putW cs y).map U).toArray) := fun x => blk_put (hbk.later x.le) (y / 64) _
      have HPU : Hid (IsSet L (putW cs y) (fun j => inL (l.take (k + 1)) j)) := hJ.put hyl (take_has hkl hy)
      have HST : Hid (hasW cs y = true → IsSet L cs (fun j => inL (l.take (k + 1)) j)) := fun h => hJ.congr fun j => by
        rw [take_has hkl hy, ← hJ.has j]
        by_cases e : j = y
        · subst e; simp [h]
        · simp [e]
      have hsb := shl_bit (y % 64) (Nat.mod_lt y (by omega))
      have HLO : Hid (hasW cs y = false → IntKind.u64.wrap (((cs.getD (y / 64) 0 : Nat) : Int) + 2 ^ (y % 64)) = ((cs.getD (y / 64) 0 ||| 2 ^ (y % 64) : Nat) : Int)) := fun h => by
        have h3 : (cs.getD (y / 64) 0).testBit (y % 64) = false := h
        have h4 := or_lt _ (y % 64) hword (Nat.mod_lt y (by omega))
        rw [← add_or h3] at h4 ⊢
        rw [IntKind.wrap_u64, show ((2 : Int) ^ (y % 64)) = ((2 ^ (y % 64) : Nat) : Int) by norm_cast]
        generalize 2 ^ (y % 64) = zz at *
        omega
      have HBKK : Hid (Blk wr g 129 (cs.map U).toArray) := hbk
      clear hJ hbk hlen hy hcl
      generalize cs.getD (y / 64) 0 ||| 2 ^ (y % 64) = z at *
      generalize cs.getD (y / 64) 0 = x0 at *
      generalize hasW cs y = q at *
      go_wp2_with fail
      refine TH.mono ?_
      rintro e w4 ⟨rfl, hw⟩
      subst hw
      clear TH
      cases q
      · have hlo := HLO.out rfl
        go_wp2
        refine wp_region_tail 16 hmx (by kernel_rfl) ?_
        simp only [List.take_succ_cons, List.take_zero, List.drop_succ_cons, List.drop_zero]
        repeat (go_big_quiet_step (fail))
        refine wpQuiet_nil ?_
        intro x
        have c1 := e0 x
        have f1 := f0 x
        gi_wp2
        try rw [hsb]
        try rw [hlo]
        have hK := HBK.out x
        have hBX := (below_ext hB x).setCell (p := ⟨g, y / 64, none⟩) hg' (U z)
        generalize x.wd.setCell ⟨g, y / 64, none⟩ (U z) = W5 at *
        clear c1 f1 e0 f0 hcw
        go_wp2
        go_roundw
        case rel => exact ⟨k + 1, _, by omega, by go_num, HPU.out, hK, hBX⟩
        case measure => simp [RowKit.intOf]; omega
      · have HE : Hid _ := HST.out rfl
        clear e0 f0 hcw
        go_wp2
        go_roundw
        case rel => exact ⟨k + 1, cs, by omega, by go_num, HE.out, HBKK.out, hB⟩
        case measure => simp [RowKit.intOf]; omega
    · have e : k = l.length := by omega
      subst e
      rw [List.take_length] at hJ
      have hR : Set1 wr w.heap.size (.slice (some ⟨g, 0, none⟩) L L) cs := ⟨hJ.word, g, by rw [hJ.len], hg', hbk⟩
      clear hbk
      go_wp2
      go_ret
      first | exact ⟨_, rfl, _, hR, hJ, hB⟩ | exact ⟨_, _, rfl, hR, hJ, hB⟩

end Go.Proofs.YtlahfffgmfjpaaaGreatDoor

/-
  The numbers of a set, rising, as the document lists them: tidehallref03.All.
-/
namespace Go.Proofs.YtlahfffgmfjpaaaGreatDoor
open Go Go.RowKit Go.Shelf

theorem Lst.its {W : World} {base : Nat} {v : Value} {xs : List Int} (h : Lst W base v xs) : Its W v xs := by
  obtain ⟨ao, cap, rfl, hv⟩ := h.view
  refine ⟨ao, cap, by simp, fun k hk => ?_⟩
  rw [List.length_map] at hk
  obtain ⟨g, cur, e, hb, hc⟩ := hv k hk
  exact ⟨g, 0, e, hb.lt, by rw [Nat.zero_add, hb.cell, hc]; simp [hk]⟩

/-- Numbers, as a list in memory has them. -/
def ofN (l : List Nat) : List Int := l.map fun m : Nat => (m : Int)
/-- A set's numbers, rising. -/
def numsW (ws : List Nat) : List Nat := listTo ws (64 * ws.length)
theorem ofN_len (l : List Nat) : (ofN l).length = l.length := by simp [ofN]
theorem ofN_app (l : List Nat) (m : Nat) : ofN (l ++ [m]) = ofN l ++ [(m : Int)] := by simp [ofN]
theorem ofN_get (l : List Nat) (k : Nat) : (ofN l).getD k 0 = ((l.getD k 0 : Nat) : Int) := by
  simp only [ofN, List.getD_eq_getElem?_getD, List.getElem?_map]
  cases l[k]? <;> rfl

set_option maxRecDepth 100000 in
set_option maxHeartbeats 4000000 in
theorem all_calls {v : Value} {ws : List Nat} (w : World) (h : Wds w v ws) (hs : ws.length ≤ 300) :
    Calls Tryz.prog 104 #[v] w fun e W' => ∃ u, e = .returned u ∧ Lst W' w.heap.size u (ofN (numsW ws)) ∧ Below w.heap.size w W' := by
  have HW : Hid (Wds w v ws) := h
  obtain ⟨ao, cap, rfl, _⟩ := h.view
  clear h
  have HN : Hid (ofN (numsW ws) = ofN (listTo ws (64 * ws.length))) := show _ = _ from rfl
  rw [HN.out]
  go_enter Tryz.func104, Tryz.ntmps104
  go_wp2
  go_loopw [3, 4] (fun s i wr => ∃ k : Nat, k ≤ 64 * ws.length ∧ i = .int .i64 k ∧ Lst wr w.heap.size s (ofN (listTo ws k)) ∧ Below w.heap.size w wr) (fun s i _ => 64 * ws.length - (RowKit.intOf i).toNat)
  case atStart => exact ⟨0, by omega, rfl, Lst.nil _ _, Below.refl _ _⟩
  case round =>
    obtain ⟨k, hk, rfl, hL, hT⟩ := hrel
    by_cases hlt : (k : Int) < (64 : Int) * (ws.length : Int)
    · have TH := there_calls wr (HW.out.later hT) k (by omega)
      have hlen : (ofN (listTo ws k)).length ≤ 100000 := by rw [ofN_len]; have := listTo_len ws k; omega
      have H1 : Hid (hasW ws k = true → ofN (listTo ws (k + 1)) = ofN (listTo ws k) ++ [(k : Int)]) := fun h => by rw [listTo_yes h, ofN_app]
      have H0 : Hid (hasW ws k = false → ofN (listTo ws (k + 1)) = ofN (listTo ws k)) := fun h => by rw [listTo_no h]
      generalize hxs : ofN (listTo ws k) = xs at *
      clear hxs
      go_wp2_with fail
      refine TH.mono ?_
      rintro e w1 ⟨rfl, hw⟩
      subst hw
      cases hq : hasW ws k
      · have HE : Hid _ := H0.out hq
        clear hq
        go_wp2
        go_roundw
        case rel => exact ⟨k + 1, by omega, by go_num, by rw [HE.out]; exact hL, hT⟩
        case measure => simp [RowKit.intOf]; omega
      · have HE : Hid _ := H1.out hq
        clear hq
        go_wp2_with (at_builtin; refine wpList_app rfl _ _ rfl rfl rfl hL hlen hT.size ?_; intro v' w3 hL3 hT3)
        go_wp2
        go_roundw
        case rel => exact ⟨k + 1, by omega, by go_num, by rw [HE.out]; exact hL3, hT.trans hT3⟩
        case measure => simp [RowKit.intOf]; omega
    · have e : k = 64 * ws.length := by omega
      subst e
      go_wp2
      go_ret
      exact ⟨_, rfl, hL, hT⟩

end Go.Proofs.YtlahfffgmfjpaaaGreatDoor

/-
  The numbers of one word, the least first: math/bits.TrailingZeros64, set.addNumbers.
-/
namespace Go.Proofs.YtlahfffgmfjpaaaGreatDoor
open Go Go.RowKit Go.Shelf

/-- math/bits' table lies in its variable. -/
def TabOk (W : World) : Prop := ∀ j, j < 64 → W.cell? ⟨0, j, none⟩ = some (.int .u8 ((Lib.deBruijn64tab.getD j 0 : Nat) : Int))
theorem TabOk.lt {W : World} (h : TabOk W) : 0 < W.heap.size := by
  have := h 0 (by omega)
  unfold World.cell? at this
  split at this
  · rename_i hs
    exact (Array.getElem?_eq_some_iff.1 hs).1
  · cases this
theorem TabOk.below {n : Nat} {W W' : World} (h : TabOk W) (hb : Below n W W') (hn : 0 < n) : TabOk W' := fun j hj => (hb.cell (p := ⟨0, j, none⟩) hn).trans (h j hj)
theorem TabOk.later {W W' : World} (h : TabOk W) (hb : Below W.heap.size W W') : TabOk W' := h.below hb h.lt

/-- The bits of a word, rising. -/
def bl (x : Nat) : List Nat := (List.range 64).filter fun j => x.testBit j
/-- .. as numbers from bs on. -/
def sh (bs : Nat) (x : Nat) : List Int := (bl x).map fun j : Nat => ((bs + j : Nat) : Int)
end Go.Proofs.YtlahfffgmfjpaaaGreatDoor

/-
  The calls of one set: set.Check, set.Has, set.Many, set.List; and the document's answers.
-/
namespace Go.Proofs.YtlahfffgmfjpaaaGreatDoor
open Go Go.RowKit Go.Shelf

theorem check_one {v : Value} {ws : List Nat} (w : World) (h : Wds w v ws) (n : Int) : ∀ W, Blk W w.heap.size 28 #[v] → Below w.heap.size w W →
    Calls Tryz.prog 67 #[I n, .slice (some ⟨w.heap.size, 0, none⟩) 1 1] W fun e W' => e = .returned (I (errAll n [ws])) ∧ W' = W := by
  intro W hW hB
  refine check_calls (vs := [v]) (wss := [ws]) W (Sl.blk hW 1) rfl (by simp) ?_ n
  intro i hi
  match i, hi with
  | 0, _ => exact h.later hB

theorem chk_calls {v : Value} {ws : List Nat} (w : World) (h : Wds w v ws) (n : Int) :
    Calls Tryz.prog 41 #[I n, v] w fun e W' => e = .returned (I (errAll n [ws])) ∧ Below w.heap.size w W' := by
  obtain ⟨ao, cap, rfl, hv⟩ := h.view
  have C := check_one w h n
  generalize errAll n [ws] = er at *
  go_enter Tryz.func41, Tryz.ntmps41
  go_wp2_with fail
  refine (C _ (Blk.new w _ _) ((Below.refl _ w).alloc (Nat.le_refl _) _)).mono ?_
  rintro e w1 ⟨rfl, hw⟩
  have hT := (Below.refl _ w).alloc (Nat.le_refl _) (.cells #[.slice ao ws.length cap] 28)
  rw [← hw] at hT
  clear hw C
  go_wp2
  go_ret
  exact ⟨rfl, hT⟩

/-- Whether a number is in a set. -/
def hasR (n : Int) (ws : List Nat) (k : Int) : Bool := decide (errAll n [ws] = 0) && decide (0 ≤ k) && hasW ws k.toNat
/-- How many numbers a set has. -/
def manyR (n : Int) (ws : List Nat) : Nat := if errAll n [ws] = 0 then manyS ws else 0
/-- A set's numbers. -/
def listR (n : Int) (ws : List Nat) : List Int := if errAll n [ws] = 0 then ofN (numsW ws) else []
end Go.Proofs.YtlahfffgmfjpaaaGreatDoor

/-
  What sets of two come to, as plain arithmetic: whether they may be, what they have, how many numbers.
-/
namespace Go.Proofs.YtlahfffgmfjpaaaGreatDoor
open Go Go.RowKit

theorem errAll_both {n : Int} {a b : List Nat} (ha : errAll n [a] = 0) (hb : errAll n [b] = 0) : errAll n [a, b] = 0 := (errAll_second ha).trans hb
theorem errAll_split {n : Int} {a b : List Nat} (h : errAll n [a, b] = 0) : errAll n [a] = 0 ∧ errAll n [b] = 0 := by
  by_cases ha : errAll n [a] = 0
  · exact ⟨ha, (errAll_second ha).symm.trans h⟩
  · exact absurd ((errAll_first ha).symm.trans h) ha
theorem errAll_may {n : Int} {a : List Nat} (h1 : 1 ≤ n) (h2 : n ≤ 12288) (h : maySet n.toNat a = true) : errAll n [a] = 0 := by
  have : okN n = true := by simp [okN]; omega
  simp [errAll, this, h]

/-- The three sets of two that may be. -/
structure Three (n : Int) (a b z1 z2 z3 : List Nat) : Prop where
  i1 : IsSet ((n.toNat + 63) / 64) z1 (fun j => hasW a j && hasW b j)
  i2 : IsSet ((n.toNat + 63) / 64) z2 (fun j => hasW a j || hasW b j)
  i3 : IsSet ((n.toNat + 63) / 64) z3 (fun j => hasW a j && !hasW b j)
  e1 : errAll n [z1] = 0
  e2 : errAll n [z2] = 0
  e3 : errAll n [z3] = 0
theorem has_set {n : Int} {z : List Nat} {l : Nat} {p : Nat → Bool} (he : errAll n [z] = 0) (hz : IsSet l z p) (k : Int) : hasR n z k = (decide (0 ≤ k) && p k.toNat) := by
  unfold hasR
  rw [decide_eq_true he, Bool.true_and, hz.has]
theorem has_own {n : Int} {z : List Nat} (he : errAll n [z] = 0) (k : Int) : hasR n z k = (decide (0 ≤ k) && hasW z k.toNat) := by
  unfold hasR
  rw [decide_eq_true he, Bool.true_and]
theorem Three.has {n : Int} {a b z1 z2 z3 : List Nat} (h : Three n a b z1 z2 z3) (he : errAll n [a, b] = 0) (k : Int) :
    hasR n z1 k = (hasR n a k && hasR n b k) ∧ hasR n z2 k = (hasR n a k || hasR n b k) ∧ hasR n z3 k = (hasR n a k && !hasR n b k) := by
  obtain ⟨ha, hb⟩ := errAll_split he
  rw [has_set h.e1 h.i1, has_set h.e2 h.i2, has_set h.e3 h.i3, has_own ha, has_own hb]
  cases decide (0 ≤ k) <;> simp

theorem manyS_to {ws : List Nat} {l : Nat} (h : ws.length = l) : manyS ws = (listTo ws (64 * l)).length := by
  subst h
  exact (list_cnt ws ws.length).symm
/-- How many there are in both, in either. -/
theorem Three.count {n : Int} {a b z1 z2 z3 : List Nat} (h : Three n a b z1 z2 z3) (he : errAll n [a, b] = 0) : manyS z1 + manyS z2 = manyS a + manyS b := by
  obtain ⟨h1, h2, hma, hmb⟩ := err_two he
  rw [manyS_to h.i1.len, manyS_to h.i2.len, manyS_to (mayS_iff.1 hma).1, manyS_to (mayS_iff.1 hmb).1]
  exact count_both h.i1.has h.i2.has _
theorem Three.whole {n : Int} {a b z1 z2 z3 : List Nat} (h : Three n a b z1 z2 z3) (he : errAll n [a, b] = 0) (wa : ∀ x ∈ a, x < 18446744073709551616) : joinW orW n z3 z1 = a := by
  obtain ⟨h1, h2, hma, hmb⟩ := err_two he
  have e31 := errAll_both h.e3 h.e1
  unfold joinW
  rw [if_pos e31]
  have hz := zip_or h.i3.len h.i1.len h.i3.word h.i1.word
  refine hz.ext ⟨(mayS_iff.1 hma).1, wa, fun k => ?_⟩
  rw [h.i3.has, h.i1.has]
  cases hasW a k <;> cases hasW b k <;> rfl
theorem Three.apart {n : Int} {a b z1 z2 z3 : List Nat} (h : Three n a b z1 z2 z3) : meetSB n z3 z1 = false := by
  unfold meetSB
  rw [Bool.and_eq_false_iff]
  right
  rw [Bool.eq_false_iff]
  intro hc
  obtain ⟨j, _, hj⟩ := List.any_eq_true.1 hc
  rw [h.i3.has, h.i1.has] at hj
  cases ha : hasW a j <;> cases hb : hasW b j <;> simp [ha, hb] at hj

end Go.Proofs.YtlahfffgmfjpaaaGreatDoor

/-
  A set and its numbers are each other's way back, as plain arithmetic.
-/
namespace Go.Proofs.YtlahfffgmfjpaaaGreatDoor
open Go Go.RowKit

theorem inL_ofN (l : List Nat) (j : Nat) : inL (ofN l) j = l.contains j := by
  unfold inL ofN
  rw [Bool.eq_iff_iff]
  simp only [List.contains_iff_mem, List.mem_map]
  constructor
  · rintro ⟨m, hm, e⟩
    have : m = j := Int.ofNat_inj.1 e
    exact this ▸ hm
  · intro h
    exact ⟨j, h, rfl⟩
theorem rise {ws : List Nat} {j : Nat} (h : j + 1 < (numsW ws).length) : (numsW ws).getD j 0 < (numsW ws).getD (j + 1) 0 := by
  have hp := List.pairwise_iff_getElem.1 (listTo_rise ws (64 * ws.length)) j (j + 1) (by unfold numsW at h; omega) (by unfold numsW at h; omega) (by omega)
  have hj : j < (numsW ws).length := by omega
  simp only [List.getD_eq_getElem?_getD, List.getElem?_eq_getElem h, List.getElem?_eq_getElem hj, Option.getD_some]
  exact hp
end Go.Proofs.YtlahfffgmfjpaaaGreatDoor
