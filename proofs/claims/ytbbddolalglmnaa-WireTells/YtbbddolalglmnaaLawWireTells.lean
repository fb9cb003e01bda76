/-
  tidehalllaw05.WireTells returns true, whatever it is handed; nothing that lay before is turned.
-/
import Derived.Test.YtbbddolalglmnaaRefRun
import Derived.Test.YtbbddolalglmnaaBothOf
namespace Go.Proofs.Ytbbddolalglmnaa
open Go Go.RowKit Go.Shelf

attribute [local go_sem] Oper.semAt_some ext_const

theorem Refused.bd {d0 d1 d2 axis m e : Int} (h : Refused d0 d1 d2 axis m e) : 0 ≤ e ∧ e ≤ 8 := by
  rcases h with ⟨_, rfl⟩ | ⟨_, _, rfl⟩ <;> omega
theorem cables_le {d0 d1 d2 m : Int} (h : mayD d0 d1 d2) (hm : 0 ≤ m ∧ m < d0 * d1 * d2) (k : Fin 3) {z : Int} (hz : 0 ≤ z ∧ z ≤ dimAt d0 d1 d2 k) : (cablesW d0 d1 d2 m k z.toNat).length ≤ 4096 := by
  have hk := dimAt_ok h k
  unfold okD at hk
  rw [cables_len h hm k (by omega)]
  split <;> omega
theorem most_bd {dim long : Int} (torus : Bool) (h : 1 ≤ long ∧ long ≤ dim) : 0 ≤ mostW dim long torus ∧ mostW dim long torus ≤ dim := by
  unfold mostW
  split <;> omega

/-- A call that answers a list in new memory, and an error. -/
def ListsW (f : FuncId) (args : Array Value) (L : List Int) (e : Int) : Prop :=
  ∀ w : World, Calls Try.prog f args w fun x W' => ∃ v, x = .returned (.tuple #[v, I e]) ∧ Lst W' 0 v L ∧ Below w.heap.size w W'

theorem lists_yes {f : FuncId} {args : Array Value} {L : List Int} (h : ∀ w : World, Calls Try.prog f args w fun x W' => ∃ v, x = .returned (.tuple #[v, I 0]) ∧ Lst W' w.heap.size v L ∧ Below w.heap.size w W') : ListsW f args L 0 :=
  fun w => (h w).mono fun _ _ ⟨v, h1, h2, h3⟩ => ⟨v, h1, h2.weak (Nat.zero_le _), h3⟩
theorem lists_no {f : FuncId} {args : Array Value} {e : Int} (h : ∀ w : World, Calls Try.prog f args w fun x W' => x = .returned (.tuple #[.slice none 0 0, I e]) ∧ Below w.heap.size w W') : ListsW f args [] e :=
  fun w => (h w).mono fun _ _ ⟨h1, h3⟩ => ⟨_, h1, Lst.nil _ _, h3⟩

theorem both_wmany (d0 d1 d2 : Int) : ∃ n e, 0 ≤ e ∧ e ≤ 8 ∧ Both 14 15 #[A3 d0 d1 d2] (.tuple #[I n, I e]) := by
  by_cases hm : mayD d0 d1 d2
  · exact ⟨_, 0, by omega, by omega, fun w => wmany_yes w hm, fun w => vmany_yes w hm⟩
  · exact ⟨0, 8, by omega, by omega, fun w => wmany_no w hm, fun w => vmany_no w hm⟩
theorem both_wlink (d0 d1 d2 axis m : Int) : ∃ n e, 0 ≤ e ∧ e ≤ 8 ∧ Both 8 16 #[A3 d0 d1 d2, I axis, I m] (.tuple #[I n, I e]) := by
  rcases refused_or d0 d1 d2 axis m with ⟨e, h⟩ | ⟨hm, hn, k, hk⟩
  · exact ⟨0, e, h.bd.1, h.bd.2, fun w => link_ref w h, fun w => vlink_ref w h⟩
  · by_cases h1 : 1 < dimAt d0 d1 d2 k
    · exact ⟨_, 0, by omega, by omega, fun w => link_yes w hm hn hk h1, fun w => vlink_yes w hm hn hk h1⟩
    · exact ⟨0, 6, by omega, by omega, fun w => link_none w hm hn hk h1, fun w => vlink_none w hm hn hk h1⟩
theorem both_wends (d0 d1 d2 link : Int) : ∃ x y z e, 0 ≤ e ∧ e ≤ 8 ∧ Both 10 17 #[A3 d0 d1 d2, I link] (.tuple #[I x, I y, I z, I e]) := by
  by_cases hm : mayD d0 d1 d2
  · by_cases hl : 0 ≤ link ∧ link < 3 * (d0 * d1 * d2)
    · obtain ⟨k, m, hn, rfl⟩ := cab_of hm hl
      by_cases h1 : 1 < dimAt d0 d1 d2 k
      · exact ⟨_, _, _, 0, by omega, by omega, fun w => ends_yes w hm hn k h1, fun w => vends_yes w hm hn k h1⟩
      · exact ⟨0, 0, 0, 6, by omega, by omega, fun w => ends_none w hm hn k h1, fun w => vends_none w hm hn k h1⟩
    · exact ⟨0, 0, 0, 2, by omega, by omega, fun w => ends_no w hm hl, fun w => vends_no w hm hl⟩
  · exact ⟨0, 0, 0, 8, by omega, by omega, fun w => ends_bad link w hm, fun w => vends_bad link w hm⟩
theorem both_wline (d0 d1 d2 axis m : Int) : ∃ L e, L.length ≤ 4096 ∧ 0 ≤ e ∧ e ≤ 8 ∧ ListsW 18 #[A3 d0 d1 d2, I axis, I m] L e ∧ ListsW 19 #[A3 d0 d1 d2, I axis, I m] L e := by
  rcases refused_or d0 d1 d2 axis m with ⟨e, h⟩ | ⟨hm, hn, k, hk⟩
  · exact ⟨[], e, by simp, h.bd.1, h.bd.2, lists_no fun w => wline_ref w h, lists_no fun w => vline_ref w h⟩
  · have hd := dimAt_ok hm k
    unfold okD at hd
    exact ⟨_, 0, cables_le hm hn k (z := dimAt d0 d1 d2 k) (by omega), by omega, by omega, lists_yes fun w => wline_yes w hm hn hk, lists_yes fun w => vline_yes w hm hn hk⟩
theorem both_wrun (d0 d1 d2 axis m long : Int) (torus : Bool) : ∃ L e, L.length ≤ 4096 ∧ 0 ≤ e ∧ e ≤ 8 ∧ ListsW 11 #[A3 d0 d1 d2, I axis, I m, I long, .bool torus] L e ∧ ListsW 20 #[A3 d0 d1 d2, I axis, I m, I long, .bool torus] L e := by
  rcases refused_or d0 d1 d2 axis m with ⟨e, h⟩ | ⟨hm, hn, k, hk⟩
  · exact ⟨[], e, by simp, h.bd.1, h.bd.2, lists_no fun w => wrun_ref long torus w h, lists_no fun w => vrun_ref long torus w h⟩
  · by_cases hl : 1 ≤ long ∧ long ≤ dimAt d0 d1 d2 k
    · exact ⟨_, 0, cables_le hm hn k (most_bd torus hl), by omega, by omega, lists_yes fun w => wrun_yes torus w hm hn hk hl, lists_yes fun w => vrun_yes torus w hm hn hk hl⟩
    · exact ⟨[], 2, by simp, by omega, by omega, lists_no fun w => wrun_no torus w hm hn hk hl, lists_no fun w => vrun_no torus w hm hn hk hl⟩

set_option maxRecDepth 100000 in
set_option maxHeartbeats 4000000 in
theorem wireTells_walk (d0 d1 d2 axis m link long : Int) (torus : Bool) (w : World) :
    Calls Try.prog 4 #[A3 d0 d1 d2, I axis, I m, I link, I long, .bool torus] w fun e W' => e = .returned (.bool true) ∧ Below w.heap.size w W' := by
  obtain ⟨n1, e1, l1, g1, HM⟩ := both_wmany d0 d1 d2
  obtain ⟨n2, e2, l2, g2, HL⟩ := both_wlink d0 d1 d2 axis m
  obtain ⟨x, y, z, e3, l3, g3, HE⟩ := both_wends d0 d1 d2 link
  obtain ⟨L, e4, hL, l4, g4, HN1, HN2⟩ := both_wline d0 d1 d2 axis m
  obtain ⟨R, e5, hR, l5, g5, HR1, HR2⟩ := both_wrun d0 d1 d2 axis m long torus
  have HLL : Hid (L.length ≤ 4096) := hL
  have HRR : Hid (R.length ≤ 4096) := hR
  clear hL hR
  have b0 := Blk.new w 26 #[I d0, I d1, I d2]
  have hB0 := (Below.refl w.heap.size w).alloc (Nat.le_refl _) (.cells #[I d0, I d1, I d2] 26)
  go_enter Try.func4, Try.ntmps4
  go_wp2_with fail
  generalize w.alloc (.cells #[I d0, I d1, I d2] 26) = W at *
  have hT := Below.refl W.heap.size W
  refine (HM.1 _).mono ?_
  rintro e w1 ⟨rfl, hB⟩
  have hT := then_below hT hB
  clear hB
  obtain ⟨c0, c1, c2, hz⟩ := b0.three hT
  go_wp2_with fail
  refine (HM.2 _).mono ?_
  rintro e w2 ⟨rfl, hB⟩
  have hT := then_below hT hB
  clear hB c0 c1 c2 hz
  obtain ⟨c0, c1, c2, hz⟩ := b0.three hT
  go_wp2_with fail
  refine (HL.1 _).mono ?_
  rintro e w3 ⟨rfl, hB⟩
  have hT := then_below hT hB
  clear hB c0 c1 c2 hz
  obtain ⟨c0, c1, c2, hz⟩ := b0.three hT
  go_wp2_with fail
  refine (HL.2 _).mono ?_
  rintro e w4 ⟨rfl, hB⟩
  have hT := then_below hT hB
  clear hB c0 c1 c2 hz
  obtain ⟨c0, c1, c2, hz⟩ := b0.three hT
  go_wp2_with fail
  refine (HE.1 _).mono ?_
  rintro e w5 ⟨rfl, hB⟩
  have hT := then_below hT hB
  clear hB c0 c1 c2 hz
  obtain ⟨c0, c1, c2, hz⟩ := b0.three hT
  go_wp2_with fail
  refine (HE.2 _).mono ?_
  rintro e w6 ⟨rfl, hB⟩
  have hT := then_below hT hB
  clear hB c0 c1 c2 hz
  obtain ⟨c0, c1, c2, hz⟩ := b0.three hT
  go_wp2_with fail
  refine (HN1 _).mono ?_
  rintro e w7 ⟨u, rfl, hu, hB⟩
  have hT := then_below hT hB
  clear hB c0 c1 c2 hz
  obtain ⟨c0, c1, c2, hz⟩ := b0.three hT
  go_wp2_with fail
  refine (HN2 _).mono ?_
  rintro e w8 ⟨v, rfl, hv, hB⟩
  have hu := hu.later hB
  have hT := then_below hT hB
  clear hB c0 c1 c2 hz
  obtain ⟨c0, c1, c2, hz⟩ := b0.three hT
  go_wp2_with fail
  refine (HR1 _).mono ?_
  rintro e w9 ⟨s, rfl, hs, hB⟩
  have hu := hu.later hB
  have hv := hv.later hB
  have hT := then_below hT hB
  clear hB c0 c1 c2 hz
  obtain ⟨c0, c1, c2, hz⟩ := b0.three hT
  go_wp2_with fail
  refine (HR2 _).mono ?_
  rintro e w10 ⟨t, rfl, ht, hB⟩
  have hu := hu.later hB
  have hv := hv.later hB
  have hs := hs.later hB
  have hT := then_below hT hB
  clear hB c0 c1 c2 hz
  have KI : Hid (∀ W' : World, Below w10.heap.size w10 W' → Calls Try.prog 13 #[u, v] W' fun e W'' => e = .returned (.bool true) ∧ Below W'.heap.size W' W'') := fun W' hb => by
    have := ints_calls W' (hu.later hb) (hv.later hb) HLL.out
    simpa using this
  have KR : Hid (∀ W' : World, Below w10.heap.size w10 W' → Calls Try.prog 13 #[s, t] W' fun e W'' => e = .returned (.bool true) ∧ Below W'.heap.size W' W'') := fun W' hb => by
    have := ints_calls W' (hs.later hb) (ht.later hb) HRR.out
    simpa using this
  clear hu hv hs ht
  go_wp2_with fail
  refine (KI.out _ (Below.refl _ _)).mono ?_
  rintro e w11 ⟨rfl, hB11⟩
  go_wp2_with fail
  refine (KR.out _ hB11).mono ?_
  rintro e w12 ⟨rfl, hB12⟩
  go_wp2
  go_ret
  exact ⟨rfl, then_below hB0 (then_below hT (then_below hB11 hB12))⟩

end Go.Proofs.Ytbbddolalglmnaa
