/-
  The statements of layer 10: some: chapter 9's calendars; a store of a machine's calendars, as one step.
-/
import Derived.Test.YtkbdkhohecdbhaaPart21
import Derived.Test.YtkbdkhohecdbhaaPart14
import Derived.Test.YtkbdkhohecdbhaaPart1
import Derived.Test.YtkbdkhohecdbhaaRows
import Derived.ProofKit
import Derived.OpenShut
import Derived.ChangeOld
import Derived.Below
import Derived.Laws.IdiomArrays
import Derived.Test.YtkbdkhohecdbhaaPart3
import Derived.ChangeSame
namespace Go.Proofs.Ytkbdkhohecdbhaa
open Go Go.RowKit Go.Shelf

attribute [local go_sem] Oper.semAt_some ext_const

theorem run_storeY {W : World} {B : Nat} {x0 x1 x2 x3 x4 : Value} (hB : Blk W B 26 #[x0, x1, x2, x3, x4]) (a b c : Int) (a1 a2 : Option Addr) (n1 n2 c1 c2 : Nat) :
    (Instr.storeAt 26 (.pointer (some ⟨B, 0, none⟩)) (Y5 a b c (.slice a1 n1 c1) (.slice a2 n2 c2))).run Try.prog W = .ok () (put5 W B (.int .i64 a) (.int .i64 b) (.int .i64 c) (.slice a1 n1 c1) (.slice a2 n2 c2)) := by
  obtain ⟨q0, q1, q2, q3, q4, hz⟩ := hB.five
  obtain ⟨f0, f1, f2, f3, f4⟩ := hB.row5
  have hB1 := hB.set 0 (.int .i64 a)
  have hB2 := hB1.set 1 (.int .i64 b)
  have hB3 := hB2.set 2 (.int .i64 c)
  have hB4 := hB3.set 3 (.slice a1 n1 c1)
  have r1 := hB1.cell 1
  have r2 := hB2.cell 2
  have r3 := hB3.cell 3
  have r4 := hB4.cell 4
  have g1 := hB1.frozen 1
  have g2 := hB2.frozen 2
  have g3 := hB3.frozen 3
  have g4 := hB4.frozen 4
  simp at r1 r2 r3 r4
  clear hB hB1 hB2 hB3 hB4
  go_simp

theorem wpList_storeY {ops : Array Oper} {rest : List Oper} {o : Oper} {act : Act} {Q : Exit → Act → World → Prop} {W : World} {B : Nat} {x0 x1 x2 x3 x4 : Value} {a b c : Int} {a1 a2 : Option Addr} {n1 n2 c1 c2 : Nat} (hgd : o.guard = none) (p x : Operand) (ho : o.op = Op.store 26 p x)
    (hp : act.eval p = .pointer (some ⟨B, 0, none⟩)) (hx : act.eval x = Y5 a b c (.slice a1 n1 c1) (.slice a2 n2 c2)) (hB : Blk W B 26 #[x0, x1, x2, x3, x4])
    (h : wpList Try.prog ops Q rest (act.put o.dst undef) (put5 W B (.int .i64 a) (.int .i64 b) (.int .i64 c) (.slice a1 n1 c1) (.slice a2 n2 c2))) : wpList Try.prog ops Q (o :: rest) act W := by
  refine wpList_plain hgd fun K hK => ?_
  have hrun := run_storeY hB a b c a1 a2 n1 n2 c1 c2
  unfold Oper.wp
  simp [execOp, ho, hp, hx, hrun, Result.andThen]
  exact hK _ _ h

set_option maxRecDepth 100000 in
set_option maxHeartbeats 8000000 in
theorem some10_calls (w : World) : Calls Try.prog 7 #[] w fun e W' => ∃ u v, e = .returned (.tuple #[Y5 2 1 1 u v, .bool true]) ∧ Yo W' w.heap.size u twoN ∧ Yo W' w.heap.size v twoL ∧ Below w.heap.size w W' := by
  have hmx : Try.prog.follows .mixedOrders = true := by kernel_rfl
  have H1 : Hid (∀ w, Calls Try.prog 24 #[A3 2 1 1] w fun e W' => ∃ u v, e = .returned (.tuple #[Y5 2 1 1 u v, I 0]) ∧ Yo W' w.heap.size u [[], []] ∧ Yo W' w.heap.size v [[], [], [], [], [], []] ∧ Below w.heap.size w W') := fun w => by
    have := yNew_calls (a := 2) (b := 1) (c := 1) w
    rw [two_new] at this
    simp only [dim_ok, rows_ok] at this
    rwa [show emptyC (2 * 1 * 1) = [[], []] from two_n0, show emptyC (3 * (2 * 1 * 1)) = [[], [], [], [], [], []] from two_l0] at this
  have H2 : Hid (∀ w n l vm vl, Yl w n [[], []] → Yl w l [[], [], [], [], [], []] → Wds w vm [1] → Wds w vl [1] → Calls Try.prog 25 #[Y5 2 1 1 n l, I 5, vm, vl, S2 0 3] w fun e W' => ∃ u v, e = .returned (.tuple #[Y5 2 1 1 u v, I 0]) ∧ Yo W' w.heap.size u twoN ∧ Yo W' w.heap.size v twoL ∧ Below w.heap.size w W') := fun w n l vm vl h1 h2 h3 h4 => by
    have := yPut_calls (a := 2) (b := 1) (c := 1) (f := 0) (t := 3) (o := 5) w h1 h2 h3 h4
    rw [two_err] at this
    simp only [dim_ok, rows_ok] at this
    rwa [two_nodes, two_links] at this
  obtain ⟨W0, hW0, hB0, hR⟩ := one_start w (K5 0 0 0 (.slice none 0 0) (.slice none 0 0)) 26
  have HW0 : Hid (w.alloc (.cells (K5 0 0 0 (.slice none 0 0) (.slice none 0 0)) 26) = W0) := hW0
  clear hW0
  go_enter Try.func7, Try.ntmps7
  go_wp2_with fail
  rw [HW0.out]
  refine (H1.out _).mono ?_
  rintro e w1 ⟨u, v, rfl, hU, hV, hT⟩
  obtain ⟨ao1, n1, c1, rfl⟩ := hU.slice
  obtain ⟨ao2, n2, c2, rfl⟩ := hV.slice
  obtain ⟨W1, hW1, hB1, hy, hm, hl⟩ := three_boxes w1 (K5 2 1 1 (.slice ao1 n1 c1) (.slice ao2 n2 c2)) #[.int .u64 1] #[.int .u64 1] 26 59 59
  have HW1 : Hid (((w1.alloc (.cells (K5 2 1 1 (.slice ao1 n1 c1) (.slice ao2 n2 c2)) 26)).alloc (.cells #[.int .u64 1] 59)).alloc (.cells #[.int .u64 1] 59) = W1) := hW1
  have HU : Hid (Yl W1 (.slice ao1 n1 c1) [[], []]) := (hU.later hB1).yl
  have HV : Hid (Yl W1 (.slice ao2 n2 c2) [[], [], [], [], [], []]) := (hV.later hB1).yl
  have HM : Hid (Wds W1 (.slice (some ⟨w1.heap.size + 1, 0, none⟩) 1 1) [1]) := wds_lit (x := 1) (by decide) hm
  have HL : Hid (Wds W1 (.slice (some ⟨w1.heap.size + 1 + 1, 0, none⟩) 1 1) [1]) := wds_lit (x := 1) (by decide) hl
  clear hU hV hW1 hm hl
  go_wp2_with fail
  rw [HW1.out]
  refine (H2.out _ _ _ _ _ HU.out HV.out HM.out HL.out).mono ?_
  rintro e w2 ⟨u, v, rfl, hU, hV, hT2⟩
  obtain ⟨ao3, c3, rfl, _⟩ := hU.yl.form
  obtain ⟨ao4, c4, rfl, _⟩ := hV.yl.form
  rw [two_n] at hU ⊢
  rw [two_l] at hV ⊢
  obtain ⟨W2, hW2, hB2, hy2⟩ := one_start w2 (K5 2 1 1 (.slice ao3 2 c3) (.slice ao4 6 c4)) 26
  have hT3 : Below w.heap.size w W2 := then_below hB0 (then_below hT (then_below hB1 (then_below hT2 hB2)))
  have hR2 : Blk W2 w.heap.size 26 (K5 0 0 0 (.slice none 0 0) (.slice none 0 0)) := hR.later (then_below hT (then_below hB1 (then_below hT2 hB2)))
  subst hW2
  obtain ⟨p0, p1, p2, p3, p4, hz⟩ := hy2.five
  have hne : w.heap.size < w2.heap.size := (hR.later (then_below hT (then_below hB1 hT2))).lt
  have HS := hR2.set5 (.int .i64 2) (.int .i64 1) (.int .i64 1) (.slice ao3 2 c3) (.slice ao4 6 c4)
  have hlow := below_set5 hT3 (Nat.le_refl _) (.int .i64 2) (.int .i64 1) (.int .i64 1) (.slice ao3 2 c3) (.slice ao4 6 c4)
  have hsz : w.heap.size < W1.heap.size := (hR.later (then_below hT hB1)).lt
  have HU2 : Hid (Yo (put5 (w2.alloc (.cells (K5 2 1 1 (.slice ao3 2 c3) (.slice ao4 6 c4)) 26)) w.heap.size (.int .i64 2) (.int .i64 1) (.int .i64 1) (.slice ao3 2 c3) (.slice ao4 6 c4)) w.heap.size (.slice ao3 2 c3) twoN) := ((hU.later hB2).put5 hsz _ _ _ _ _).weak (Nat.le_of_lt hsz)
  have HV2 : Hid (Yo (put5 (w2.alloc (.cells (K5 2 1 1 (.slice ao3 2 c3) (.slice ao4 6 c4)) 26)) w.heap.size (.int .i64 2) (.int .i64 1) (.int .i64 1) (.slice ao3 2 c3) (.slice ao4 6 c4)) w.heap.size (.slice ao4 6 c4) twoL) := ((hV.later hB2).put5 hsz _ _ _ _ _).weak (Nat.le_of_lt hsz)
  clear hU hV
  have HJ : Hid (Blk (put5 (w2.alloc (.cells (K5 2 1 1 (.slice ao3 2 c3) (.slice ao4 6 c4)) 26)) w.heap.size (.int .i64 2) (.int .i64 1) (.int .i64 1) (.slice ao3 2 c3) (.slice ao4 6 c4)) w.heap.size 26 (K5 2 1 1 (.slice ao3 2 c3) (.slice ao4 6 c4))) := HS
  have HLow : Hid (Below w.heap.size w (put5 (w2.alloc (.cells (K5 2 1 1 (.slice ao3 2 c3) (.slice ao4 6 c4)) 26)) w.heap.size (.int .i64 2) (.int .i64 1) (.int .i64 1) (.slice ao3 2 c3) (.slice ao4 6 c4))) := hlow
  clear HS hlow
  go_wp2_with (refine wpList_storeY rfl _ _ rfl rfl rfl hR2 ?_; generalize hP : (put5 (w2.alloc (.cells (K5 2 1 1 (.slice ao3 2 c3) (.slice ao4 6 c4)) 26)) w.heap.size (.int .i64 2) (.int .i64 1) (.int .i64 1) (.slice ao3 2 c3) (.slice ao4 6 c4)) = wp at *)
  obtain ⟨j0, j1, j2, j3, j4, _⟩ := HJ.out.five
  exact bodyPost_ret (v := .tuple #[Y5 2 1 1 (.slice ao3 2 c3) (.slice ao4 6 c4), .bool true]) (by simp [results, Try.f7, go_sem, j0, j1, j2, j3, j4]) rfl ⟨_, _, rfl, HU2.out, HV2.out, HLow.out⟩

end Go.Proofs.Ytkbdkhohecdbhaa

/-
  Plain arithmetic of the moments at which something comes free: put together, rising, each once; the least one from which something is free; the last. No program is walked here.
-/
namespace Go.Proofs.Ytkbdkhohecdbhaa
open Go Go.RowKit Go.Shelf

/-- The slots of a machine's calendars, one behind another. -/
def slotsY (ns ls : List (List Slt)) : List Slt := ns.flatten ++ ls.flatten
theorem slotsY_mem {ns ls : List (List Slt)} {s : Slt} : s ∈ slotsY ns ls ↔ (∃ c ∈ ns, s ∈ c) ∨ ∃ c ∈ ls, s ∈ c := by simp [slotsY, List.mem_flatten]
theorem mays_slot {cs : List (List Slt)} (h : maysC cs = true) {c : List Slt} (hc : c ∈ cs) {s : Slt} (hs : s ∈ c) : maySl s := by
  obtain ⟨k, hk, rfl⟩ := List.mem_iff_getElem.1 hc
  have := maysC_may h k
  rw [List.getD_eq_getElem?_getD, List.getElem?_eq_getElem hk] at this
  exact this.1 s hs
theorem slotsY_may {ns ls : List (List Slt)} (hn : maysC ns = true) (hl : maysC ls = true) {s : Slt} (hs : s ∈ slotsY ns ls) : maySl s := by
  rcases slotsY_mem.1 hs with ⟨c, hc, h⟩ | ⟨c, hc, h⟩
  · exact mays_slot hn hc h
  · exact mays_slot hl hc h

/-- Rising, each once. -/
def UpI (l : List Int) : Prop := l.Pairwise (· < ·)
theorem up_ext : ∀ {a b : List Int}, UpI a → UpI b → (∀ x, x ∈ a ↔ x ∈ b) → a = b
  | [], [], _, _, _ => rfl
  | [], y :: b, _, _, h => by have := (h y).2 (by simp); simp at this
  | x :: a, [], _, _, h => by have := (h x).1 (by simp); simp at this
  | x :: a, y :: b, ha, hb, h => by
    have ha1 := (List.pairwise_cons.1 ha).1
    have hb1 := (List.pairwise_cons.1 hb).1
    have hxy : x = y := by
      rcases List.mem_cons.1 ((h x).1 (by simp)) with e | e
      · exact e
      · rcases List.mem_cons.1 ((h y).2 (by simp)) with e2 | e2
        · exact e2.symm
        · have := hb1 x e; have := ha1 y e2; omega
    subst hxy
    congr 1
    refine up_ext (List.pairwise_cons.1 ha).2 (List.pairwise_cons.1 hb).2 fun z => ⟨fun hz => ?_, fun hz => ?_⟩
    · rcases List.mem_cons.1 ((h z).1 (List.mem_cons_of_mem _ hz)) with e | e
      · have := ha1 z hz; omega
      · exact e
    · rcases List.mem_cons.1 ((h z).2 (List.mem_cons_of_mem _ hz)) with e | e
      · have := hb1 z hz; omega
      · exact e

/-- A rising list with one more, if it is not there. -/
def insI (n : Int) : List Int → List Int
  | [] => [n]
  | x :: r => if n < x then n :: x :: r else if n = x then x :: r else x :: insI n r
theorem insI_mem {n x : Int} : ∀ {l : List Int}, x ∈ insI n l ↔ x = n ∨ x ∈ l
  | [] => by simp [insI]
  | y :: r => by
    unfold insI
    split
    · simp
    · split
      · rename_i h; subst h; simp
      · rw [List.mem_cons, insI_mem, List.mem_cons]
        constructor
        · rintro (h | h | h)
          · exact .inr (.inl h)
          · exact .inl h
          · exact .inr (.inr h)
        · rintro (h | h | h)
          · exact .inr (.inl h)
          · exact .inl h
          · exact .inr (.inr h)
theorem insI_up {n : Int} : ∀ {l : List Int}, UpI l → UpI (insI n l)
  | [], _ => by simp [insI, UpI]
  | y :: r, h => by
    have h1 := (List.pairwise_cons.1 h).1
    have h2 := (List.pairwise_cons.1 h).2
    unfold insI
    split
    · rename_i hlt
      refine List.pairwise_cons.2 ⟨fun z hz => ?_, h⟩
      rcases List.mem_cons.1 hz with rfl | hz
      · exact hlt
      · have := h1 z hz; omega
    · split
      · exact h
      · rename_i hlt hne
        refine List.pairwise_cons.2 ⟨fun z hz => ?_, insI_up h2⟩
        rcases insI_mem.1 hz with rfl | hz
        · omega
        · exact h1 z hz
theorem insI_in {n : Int} : ∀ {l : List Int}, UpI l → n ∈ l → insI n l = l
  | y :: r, h, hn => by
    have h1 := (List.pairwise_cons.1 h).1
    unfold insI
    rcases List.mem_cons.1 hn with rfl | hn
    · simp
    · have := h1 n hn
      rw [if_neg (by omega), if_neg (by omega), insI_in (List.pairwise_cons.1 h).2 hn]
theorem insI_end {n : Int} : ∀ {l : List Int}, (∀ y ∈ l, y < n) → insI n l = l ++ [n]
  | [], _ => rfl
  | y :: r, h => by
    have := h y (by simp)
    unfold insI
    rw [if_neg (by omega), if_neg (by omega), insI_end fun z hz => h z (List.mem_cons_of_mem _ hz)]
    rfl
theorem insI_new {n x : Int} (hx : n < x) : ∀ {l : List Int}, (∀ y ∈ l, y < n) → insI n (l ++ [x]) = l ++ [n] ++ [x]
  | [], _ => by simp [insI, hx]
  | y :: r, h => by
    have := h y (by simp)
    rw [List.cons_append]
    unfold insI
    rw [if_neg (by omega), if_neg (by omega), insI_new hx fun z hz => h z (List.mem_cons_of_mem _ hz)]
    simp
theorem insI_more {n x : Int} : ∀ {l : List Int}, (∃ y ∈ l, n ≤ y) → insI n (l ++ [x]) = insI n l ++ [x]
  | [], h => by obtain ⟨y, hy, _⟩ := h; cases hy
  | y :: r, h => by
    rw [List.cons_append]
    unfold insI
    split
    · rfl
    · split
      · rfl
      · rename_i h1 h2
        obtain ⟨z, hz, hzn⟩ := h
        rcases List.mem_cons.1 hz with rfl | hz
        · omega
        · rw [insI_more ⟨z, hz, hzn⟩]; rfl
theorem insI_len (n : Int) : ∀ l : List Int, (insI n l).length ≤ l.length + 1
  | [] => by simp [insI]
  | y :: r => by
    unfold insI
    split
    · simp
    · split
      · simp
      · have := insI_len n r; simp only [List.length_cons]; omega

/-- The Tos of those slots that p asks for, put to a rising list. -/
def gathT (p : Slt → Bool) (l : List Int) (sl : List Slt) : List Int := sl.foldl (fun l s => if p s then insI s.2.1 l else l) l
theorem gathT_snoc (p : Slt → Bool) (l : List Int) (sl : List Slt) (s : Slt) : gathT p l (sl ++ [s]) = if p s then insI s.2.1 (gathT p l sl) else gathT p l sl := by simp [gathT, List.foldl_append]
theorem gathT_mem {p : Slt → Bool} {x : Int} : ∀ {sl : List Slt} {l : List Int}, x ∈ gathT p l sl ↔ x ∈ l ∨ ∃ s ∈ sl, p s = true ∧ s.2.1 = x
  | [], l => by simp [gathT]
  | s :: r, l => by
    show x ∈ gathT p (if p s then insI s.2.1 l else l) r ↔ _
    rw [gathT_mem]
    cases hp : p s
    · simp [hp]
    · simp only [if_true, insI_mem, List.mem_cons, exists_eq_or_imp, hp, true_and]
      constructor
      · rintro ((h | h) | h)
        · exact .inr (.inl h.symm)
        · exact .inl h
        · exact .inr (.inr h)
      · rintro (h | h | h)
        · exact .inl (.inr h)
        · exact .inl (.inl h.symm)
        · exact .inr h
theorem gathT_up {p : Slt → Bool} : ∀ {sl : List Slt} {l : List Int}, UpI l → UpI (gathT p l sl)
  | [], _, h => h
  | s :: r, l, h => by
    show UpI (gathT p (if p s then insI s.2.1 l else l) r)
    refine gathT_up ?_
    split
    · exact insI_up h
    · exact h
theorem gathT_len (p : Slt → Bool) : ∀ (sl : List Slt) (l : List Int), (gathT p l sl).length ≤ l.length + sl.length
  | [], l => by simp [gathT]
  | s :: r, l => by
    have h := gathT_len p r (if p s then insI s.2.1 l else l)
    have h2 : (if p s then insI s.2.1 l else l).length ≤ l.length + 1 := by
      split
      · exact insI_len _ _
      · omega
    show (gathT p (if p s then insI s.2.1 l else l) r).length ≤ _
    rw [List.length_cons]
    omega
/-- From a moment on those at which something comes free. -/
def timeP (from' : Int) (s : Slt) : Bool := decide (from' < s.2.1) && decide (s.2.1 < 1099511627776)
def timesT (from' : Int) (sl : List Slt) : List Int := gathT (timeP from') [from'] sl
theorem timesT_mem {from' x : Int} {sl : List Slt} : x ∈ timesT from' sl ↔ x = from' ∨ (from' < x ∧ x < 1099511627776 ∧ ∃ s ∈ sl, s.2.1 = x) := by
  unfold timesT
  rw [gathT_mem]
  simp only [List.mem_singleton, timeP, Bool.and_eq_true, decide_eq_true_eq]
  constructor
  · rintro (h | ⟨s, hs, h, rfl⟩)
    · exact .inl h
    · exact .inr ⟨h.1, h.2, s, hs, rfl⟩
  · rintro (h | ⟨h1, h2, s, hs, rfl⟩)
    · exact .inl h
    · exact .inr ⟨s, hs, ⟨h1, h2⟩, rfl⟩
theorem timesT_up (from' : Int) (sl : List Slt) : UpI (timesT from' sl) := gathT_up (by simp [UpI])
/-- An owner's ends. -/
def endsT (o : Int) (sl : List Slt) : List Int := gathT (fun s => decide (s.2.2 = o)) [] sl
theorem endsT_mem {o x : Int} {sl : List Slt} : x ∈ endsT o sl ↔ ∃ s ∈ sl, s.2.2 = o ∧ s.2.1 = x := by
  unfold endsT
  rw [gathT_mem]
  simp
theorem endsT_up (o : Int) (sl : List Slt) : UpI (endsT o sl) := gathT_up List.Pairwise.nil
/-- The later of a moment and a slot's To. -/
def maxS (m : Int) (s : Slt) : Int := if m < s.2.1 then s.2.1 else m
theorem maxS_is (m : Int) (s : Slt) : m ≤ maxS m s ∧ s.2.1 ≤ maxS m s ∧ (maxS m s = m ∨ maxS m s = s.2.1) := by
  unfold maxS
  split
  · exact ⟨by omega, by omega, .inr rfl⟩
  · exact ⟨by omega, by omega, .inl rfl⟩
/-- The last moment at which something comes free. -/
def lastT (sl : List Slt) : Int := sl.foldl maxS 0
theorem lastT_snoc (sl : List Slt) (s : Slt) : lastT (sl ++ [s]) = maxS (lastT sl) s := by simp [lastT, List.foldl_append]
theorem lastT_all (sl : List Slt) : ∀ m : Int, m ≤ sl.foldl maxS m ∧ (∀ s ∈ sl, s.2.1 ≤ sl.foldl maxS m) ∧ (sl.foldl maxS m = m ∨ ∃ s ∈ sl, s.2.1 = sl.foldl maxS m) := by
  induction sl with
  | nil => exact fun m => ⟨Int.le_refl _, fun s hs => (by cases hs), .inl rfl⟩
  | cons s r ih =>
    intro m
    obtain ⟨h1, h2, h3⟩ := ih (maxS m s)
    obtain ⟨a, b, c⟩ := maxS_is m s
    rw [List.foldl_cons]
    refine ⟨Int.le_trans a h1, fun x hx => ?_, ?_⟩
    · rcases List.mem_cons.1 hx with rfl | hx
      · exact Int.le_trans b h1
      · exact h2 x hx
    · rcases h3 with h3 | ⟨x, hx, h3⟩
      · rcases c with c | c
        · exact .inl (by rw [h3, c])
        · exact .inr ⟨s, by simp, by rw [h3, c]⟩
      · exact .inr ⟨x, List.mem_cons_of_mem _ hx, h3⟩
theorem lastT_ge {sl : List Slt} {s : Slt} (h : s ∈ sl) : s.2.1 ≤ lastT sl := (lastT_all sl 0).2.1 s h
theorem lastT_pos (sl : List Slt) : 0 ≤ lastT sl := (lastT_all sl 0).1
theorem lastT_at {sl : List Slt} (h : 0 < lastT sl) : ∃ s ∈ sl, s.2.1 = lastT sl := by
  rcases (lastT_all sl 0).2.2 with e | e
  · unfold lastT at h; rw [e] at h; omega
  · exact e

theorem cal_mem {cs : List (List Slt)} {k : Nat} {s : Slt} (h : s ∈ cs.getD k []) : ∃ c ∈ cs, s ∈ c := by
  by_cases hk : k < cs.length
  · rw [List.getD_eq_getElem?_getD, List.getElem?_eq_getElem hk] at h
    exact ⟨_, List.getElem_mem hk, h⟩
  · rw [List.getD_eq_getElem?_getD, List.getElem?_eq_none (by omega)] at h
    cases h
theorem busy_no {cs : List (List Slt)} (hm : maysC cs = true) {f t : Int} (h : f < t) (k : Nat) : busyP cs f t k = false ↔ ∀ s ∈ cs.getD k [], t ≤ s.1 ∨ s.2.1 ≤ f := by
  unfold busyP
  rw [Bool.not_eq_false', clearC_iff (mayC_fine (maysC_may hm k)) h]
/-- The last of Times up to a moment. -/
theorem times_last {from' at' : Int} (sl : List Slt) (h : from' ≤ at') (hM : at' < 1099511627776) : ∃ n ∈ timesT from' sl, n ≤ at' ∧ ∀ s ∈ sl, s.2.1 ≤ at' → s.2.1 ≤ n := by
  obtain ⟨n, ⟨h1, h2⟩, h3, h4⟩ := cand_last from' at' h sl
  refine ⟨n, timesT_mem.2 ?_, h3, h4⟩
  rcases h2 with rfl | ⟨s, hs, rfl⟩
  · exact .inl rfl
  · by_cases e : s.2.1 = from'
    · exact .inl e
    · exact .inr ⟨by omega, by omega, s, hs, rfl⟩
/-- THE STAGE'S THEOREM: what is free from a moment on is so from one of Times' on that is not later. -/
theorem when_least {ns ls : List (List Slt)} (hn : maysC ns = true) (hl : maysC ls = true) {p q : Nat → Bool} {from' at' long : Int} (h : from' ≤ at') (hM : at' < 1099511627776) (h1 : 1 ≤ long)
    (hp : ∀ k, p k = true → busyP ns at' (at' + long) k = false) (hq : ∀ k, q k = true → busyP ls at' (at' + long) k = false) :
    ∃ n ∈ timesT from' (slotsY ns ls), n ≤ at' ∧ (∀ k, p k = true → busyP ns n (n + long) k = false) ∧ ∀ k, q k = true → busyP ls n (n + long) k = false := by
  obtain ⟨n, hn1, hn2, hn3⟩ := times_last (slotsY ns ls) h hM
  refine ⟨n, hn1, hn2, fun k hk => ?_, fun k hk => ?_⟩
  · have := (busy_no hn (by omega) k).1 (hp k hk)
    refine (busy_no hn (by omega) k).2 fun s hs => ?_
    have h2 := this s hs
    by_cases e : s.2.1 ≤ at'
    · exact .inr (hn3 s (slotsY_mem.2 (.inl (cal_mem hs))) e)
    · left; omega
  · have := (busy_no hl (by omega) k).1 (hq k hk)
    refine (busy_no hl (by omega) k).2 fun s hs => ?_
    have h2 := this s hs
    by_cases e : s.2.1 ≤ at'
    · exact .inr (hn3 s (slotsY_mem.2 (.inr (cal_mem hs))) e)
    · left; omega
/-- From the last moment on nothing is busy. -/
theorem last_free {ns ls : List (List Slt)} (hn : maysC ns = true) (hl : maysC ls = true) (hM : lastT (slotsY ns ls) < 1099511627776) (k : Nat) :
    busyP ns (lastT (slotsY ns ls)) 1099511627776 k = false ∧ busyP ls (lastT (slotsY ns ls)) 1099511627776 k = false := by
  refine ⟨(busy_no hn hM k).2 fun s hs => .inr (lastT_ge (slotsY_mem.2 (.inl (cal_mem hs)))), (busy_no hl hM k).2 fun s hs => .inr (lastT_ge (slotsY_mem.2 (.inr (cal_mem hs))))⟩
/-- Ahead of it something is. -/
theorem last_busy {ns ls : List (List Slt)} (hn : maysC ns = true) (hl : maysC ls = true) (h0 : 0 < lastT (slotsY ns ls)) :
    (∃ k, k < ns.length ∧ busyP ns (lastT (slotsY ns ls) - 1) (lastT (slotsY ns ls)) k = true) ∨ ∃ k, k < ls.length ∧ busyP ls (lastT (slotsY ns ls) - 1) (lastT (slotsY ns ls)) k = true := by
  have key : ∀ {cs : List (List Slt)}, maysC cs = true → ∀ {c : List Slt} {s : Slt}, c ∈ cs → s ∈ c → s.2.1 = lastT (slotsY ns ls) → ∃ k, k < cs.length ∧ busyP cs (lastT (slotsY ns ls) - 1) (lastT (slotsY ns ls)) k = true := by
    intro cs hm c s hc hs he
    obtain ⟨k, hk, rfl⟩ := List.mem_iff_getElem.1 hc
    refine ⟨k, hk, ?_⟩
    cases e : busyP cs (lastT (slotsY ns ls) - 1) (lastT (slotsY ns ls)) k
    · have := (busy_no hm (by omega) k).1 e s (by rw [List.getD_eq_getElem?_getD, List.getElem?_eq_getElem hk]; exact hs)
      have h2 := (mays_slot hm hc hs).1.2.1
      omega
    · rfl
  obtain ⟨s, hs, he⟩ := lastT_at h0
  rcases slotsY_mem.1 hs with ⟨c, hc, h⟩ | ⟨c, hc, h⟩
  · exact .inl (key hn hc h he)
  · exact .inr (key hl hc h he)
/-- An owner's ends lie within. -/
theorem endsT_in {ns ls : List (List Slt)} (hn : maysC ns = true) (hl : maysC ls = true) {o x : Int} (h : x ∈ endsT o (slotsY ns ls)) : 1 ≤ x ∧ x ≤ lastT (slotsY ns ls) := by
  obtain ⟨s, hs, _, rfl⟩ := endsT_mem.1 h
  have := (slotsY_may hn hl hs).1
  obtain ⟨h1, h2, _⟩ := this
  exact ⟨by omega, lastT_ge hs⟩
theorem ends_times {sl : List Slt} {o x from' : Int} (h : x ∈ endsT o sl) (h1 : from' < x) (h2 : x < 1099511627776) : x ∈ timesT from' sl := by
  obtain ⟨s, hs, _, rfl⟩ := endsT_mem.1 h
  exact timesT_mem.2 (.inr ⟨h1, h2, s, hs, rfl⟩)
theorem up_getD {l : List Int} (h : UpI l) {i j : Nat} (hij : i < j) (hj : j < l.length) : l.getD i 0 < l.getD j 0 := by
  have := List.pairwise_iff_getElem.1 h i j (by omega) hj hij
  simpa [List.getD_eq_getElem?_getD, show i < l.length by omega, hj] using this
theorem ofList_mem {l : List Int} {i : Nat} (h : i < l.length) : l.getD i 0 ∈ l := by
  simp [List.getD_eq_getElem?_getD, h]
theorem times_pos (from' : Int) (sl : List Slt) : 0 < (timesT from' sl).length := List.length_pos_of_mem (timesT_mem.2 (.inl rfl))
theorem times_head (from' : Int) (sl : List Slt) : (timesT from' sl).getD 0 0 = from' := by
  obtain ⟨i, hi, e⟩ := List.mem_iff_getElem.1 (timesT_mem (sl := sl).2 (.inl (rfl : from' = from')))
  have h0 := ofList_mem (times_pos from' sl)
  rcases timesT_mem.1 h0 with h | ⟨h, _⟩
  · exact h
  · by_cases e0 : i = 0
    · subst e0; simp [List.getD_eq_getElem?_getD, hi, e]
    · have := up_getD (timesT_up from' sl) (i := 0) (j := i) (by omega) hi
      rw [List.getD_eq_getElem?_getD (l := timesT from' sl) (i := i), List.getElem?_eq_getElem hi, Option.getD_some, e] at this
      omega
theorem times_end {from' : Int} {sl : List Slt} (h1 : from' < lastT sl) (h2 : lastT sl < 1099511627776) (h0 : 0 ≤ from') : (timesT from' sl).getD ((timesT from' sl).length - 1) 0 = lastT sl := by
  obtain ⟨s, hs, he⟩ := lastT_at (sl := sl) (by omega)
  have hin : lastT sl ∈ timesT from' sl := timesT_mem.2 (.inr ⟨h1, h2, s, hs, he⟩)
  obtain ⟨i, hi, e⟩ := List.mem_iff_getElem.1 hin
  have hl := ofList_mem (l := timesT from' sl) (i := (timesT from' sl).length - 1) (by omega)
  have hle : (timesT from' sl).getD ((timesT from' sl).length - 1) 0 ≤ lastT sl := by
    rcases timesT_mem.1 hl with h | ⟨_, _, s, hs, h⟩
    · omega
    · rw [← h]; exact lastT_ge hs
  by_cases e0 : i = (timesT from' sl).length - 1
  · rw [← e0, List.getD_eq_getElem?_getD, List.getElem?_eq_getElem hi, Option.getD_some, e]
  · have := up_getD (timesT_up from' sl) (i := i) (j := (timesT from' sl).length - 1) (by omega) (by omega)
    rw [List.getD_eq_getElem?_getD (l := timesT from' sl) (i := i), List.getElem?_eq_getElem hi, Option.getD_some, e] at this
    omega

end Go.Proofs.Ytkbdkhohecdbhaa

/-
  How the arguments of this seat's statements are opened: whole numbers, and rows of three of them.
-/
namespace Go.Proofs.Ytkbdkhohecdbhaa
open Go.ChangeShapes Go.WideShapes Go.ChangeAt Go.RowKit

theorem own : ownKnob Try.prog.godebug = none := by kernel_rfl
theorem laidOut : laidOutB Try.prog = true := by kernel_rfl

theorem list3 {α : Type} (l : List α) (h : (⟨l⟩ : Array α).size = 3) : ∃ a b c, l = [a, b, c] := by
  match l, h with
  | [a, b, c], _ => exact ⟨a, b, c, rfl⟩

/-- A row of three whole numbers, by value. -/
theorem open_arr3 {P : Program} {w : World} {H : Type} {enc : TypeId × Value → H} {r : Reach} {b0 base : Nat} {spare : Nat → Bool} {held : Bool} {t e : TypeId} {v : Value} {d : DataW H} {p : List MemPlace}
    (ht : P.underlying t = some (.array 3 e)) (he : P.underlying e = some (.int .i64)) (hce : P.cellsOf e = 1) (hct : P.cellsOf t = 3)
    (hv : Value.okWide P w r b0 t v) (h : DataW.Trod enc P w base spare held t v d p) :
    ∃ a b c : Int, v = A3 a b c ∧ (Lit.int .i64 a).wf = true ∧ (Lit.int .i64 b).wf = true ∧ (Lit.int .i64 c).wf = true := by
  obtain ⟨cs, rfl, hsz, _⟩ : ∃ cs, v = .agg cs ∧ cs.size = P.cellsOf t ∧ Row.okWide P w r b0 t cs := by
    simpa [Value.okWide, ht] using hv
  rw [hct] at hsz
  obtain ⟨l⟩ := cs
  obtain ⟨c0, c1, c2, rfl⟩ := list3 l hsz
  obtain ⟨fuel, hf⟩ := h
  obtain ⟨y0, y1, y2, m, hx, hy0, hy1, hy2⟩ := trod_array3 ht hce hf
  obtain ⟨x0, e0, rfl, w0⟩ := DataW.trod_int he hy0
  obtain ⟨x1, e1, rfl, w1⟩ := DataW.trod_int he hy1
  obtain ⟨x2, e2, rfl, w2⟩ := DataW.trod_int he hy2
  simp at e0 e1 e2
  subst e0 e1 e2
  exact ⟨x0, x1, x2, rfl, w0, w1, w2⟩

theorem open_num {P : Program} {w : World} {H : Type} {enc : TypeId × Value → H} {r : Reach} {b0 base : Nat} {spare : Nat → Bool} {held : Bool} {t : TypeId} {k : IntKind} {v : Value} {d : DataW H} {p : List MemPlace}
    (ht : P.underlying t = some (.int k)) (hv : Value.okWide P w r b0 t v) (h : DataW.Trod enc P w base spare held t v d p) :
    ∃ a : Int, v = .int k a ∧ (Lit.int k a).wf = true := by
  obtain ⟨x, rfl, rfl, rfl, wx⟩ := open_int ht hv h
  exact ⟨x, rfl, wx⟩

theorem trod_lt' {H : Type} {enc : TypeId × Value → H} {P : Program} {W : World} {t : TypeId} {v : Value} {d : DataW H} {ps : List MemPlace} {sp : Nat → Bool} (h : DataW.Trod enc P W 0 sp true t v d ps) : ∀ x ∈ ps, x.block < W.heap.size := by
  obtain ⟨m, hm⟩ := h; exact DataW.trod_lt m _ _ _ hm

end Go.Proofs.Ytkbdkhohecdbhaa

/-
  How a span among a statement's arguments is opened: two whole numbers.
-/
namespace Go.Proofs.Ytkbdkhohecdbhaa
open Go.ChangeShapes Go.WideShapes Go.ChangeAt Go.RowKit

theorem list2 {α : Type} (l : List α) (h : (⟨l⟩ : Array α).size = 2) : ∃ a b, l = [a, b] := by
  match l, h with
  | [a, b], _ => exact ⟨a, b, rfl⟩

set_option maxRecDepth 100000 in
theorem open_span {w : World} {H : Type} {enc : TypeId × Value → H} {r : Reach} {b0 base : Nat} {spare : Nat → Bool} {held : Bool} {v : Value} {d : DataW H} {p : List MemPlace}
    (hv : Value.okWide Try.prog w r b0 53 v) (h : DataW.Trod enc Try.prog w base spare held 53 v d p) : ∃ f t : Int, v = S2 f t := by
  obtain ⟨f0, f1, hu, t0, o0, t1, o1⟩ : ∃ f0 f1, Try.prog.underlying 53 = some (.struct #[f0, f1]) ∧ f0.type = 3 ∧ f0.offset = 0 ∧ f1.type = 3 ∧ f1.offset = 1 := ⟨_, _, rfl, rfl, rfl, rfl, rfl⟩
  obtain ⟨cs, rfl, hsz, _⟩ : ∃ cs, v = .agg cs ∧ cs.size = Try.prog.cellsOf 53 ∧ Row.okWide Try.prog w r b0 53 cs := by
    simpa [Value.okWide, hu] using hv
  have hct : Try.prog.cellsOf 53 = 2 := by kernel_rfl
  rw [hct] at hsz
  obtain ⟨l⟩ := cs
  obtain ⟨c0, c1, rfl⟩ := list2 l hsz
  obtain ⟨fuel, hf⟩ := h
  obtain ⟨x, y, n, _, _, h0, h1⟩ := trod_struct2 hu hf
  have hc1 : Try.prog.cellsOf 3 = 1 := by kernel_rfl
  rw [t0, o0, hc1] at h0
  rw [t1, o1, hc1] at h1
  have h0 : DataW.trod enc Try.prog w base spare held n 3 [c0] = some x := h0
  have h1 : DataW.trod enc Try.prog w base spare held n 3 [c1] = some y := h1
  obtain ⟨x0, e0, _, _⟩ := DataW.trod_int Try.underlying3 h0
  obtain ⟨x1, e1, _, _⟩ := DataW.trod_int Try.underlying3 h1
  simp at e0 e1
  subst e0 e1
  exact ⟨x0, x1, rfl⟩

end Go.Proofs.Ytkbdkhohecdbhaa
