/-
  The walk of GuardTwo over this seat's translation. Lemmas for the law above; no statement is proved here.
-/
import Derived.Test.YtmmlcomfkikomaaDoorGdW
import Derived.Test.YtmmlcomfkikomaaDoorErrIs
namespace Go.Proofs.YtmmlcomfkikomaaDoor
open Go.RowKit
set_option linter.unusedVariables false
set_option maxRecDepth 100000

/-- The first one lacks, and the first one behind. -/
def lkTwo (n : Nat) : Nat → Bool := fun i => if i = n then true else if i = 0 then true else false
theorem two_flt (g : Nat → ByteArray) {n each : Nat} (hn : 0 < n) (he : 1 ≤ each) : hFlt g (lkTwo n) n each 0 = 8 := by
  unfold hFlt mFlt
  rw [if_pos]
  unfold mGone
  rw [List.filter_append, List.length_append]
  have h1 : 0 < ((gL n each 0).filter (lkTwo n)).length := by
    apply List.length_pos_of_mem (a := 0)
    rw [List.mem_filter]
    refine ⟨?_, by simp [lkTwo]⟩
    have := mem_gL (n := n) he hn
    simpa using this
  have h2 : ([n + 0].filter (lkTwo n)).length = 1 := by simp [lkTwo]
  omega

set_option maxHeartbeats 4000000 in
theorem two_walk {w : World} (v : Value) (len : Nat) (g : Nat → ByteArray) (hv : StrsAt w v len g) (each : Int) (hg : HasErr w) :
    Calls Tryd.prog 4 #[v, .int .i64 each] w fun e w' => e = .returned (.bool true) ∧ Below w.heap.size w w' := by
  rcases add_ways hv each with ⟨x, hx⟩ | ⟨b, o, cap, m, rfl, hc1, hc2, hB, rfl, hm1, hm2, hf⟩
  · have K := hide (hx w (Below.refl _ _))
    obtain ⟨a, c, rfl⟩ : ∃ a c, v = .slice a len c := by
      rcases hv with ⟨rfl, a, cap, rfl⟩ | ⟨h0, b, o, cap, rfl, _⟩
      · exact ⟨_, _, rfl⟩
      · exact ⟨_, _, rfl⟩
    clear hx hv hg
    go_enter Tryd.func4, Tryd.ntmps4
    go_wp2_with fail
    refine (K.out).mono ?_
    rintro e w1 ⟨rfl, hb⟩
    go_wp2
    go_ret
    exact ⟨rfl, hb⟩
  · have hn0 := hB.pos
    have hn16 := hB.most
    have hgp := gN_pos hm1 hn0
    have K := hide (add_ok b o len cap m g w hB hm1 hm2 hf)
    have HFL := hide (two_flt (addG g len m) hn0 hm1)
    have HBK : Hid (∀ W B gx cx, W.ownsRow B 9 1 (.slice (some ⟨gx, 0, none⟩) (len + gN len m) cx) (len + gN len m) (strV (addG g len m) (len + gN len m)) → Blks W gx 0 (len + gN len m) (addG g len m) ∧ len + gN len m ≤ cx ∧ cx ≤ maxLen) := fun W B gx cx h => add_blks hB hf h
    have HG := hide hg
    obtain ⟨T, hT⟩ : ∃ T, T = len + gN len m := ⟨_, rfl⟩
    rw [← hT] at K HBK hf
    have HT := hide hT
    have hTl : len < T := by omega
    have hT2 : ¬ (T : Int) < 2 := by omega
    clear hT hg hv hB hgp
    have hmk := run_make_row' (P := Tryd.prog) 23 4 (.bool false) 1 Tryd.underlying23 Tryd.infoBool rfl .i64 .i64 T (by omega) (by omega)
    go_enter Tryd.func4, Tryd.ntmps4
    go_wp2_with fail
    refine (K.out).mono ?_
    rintro e w1 ⟨u, rfl, hrow, hb⟩
    obtain ⟨gx, cx, rfl⟩ := ownsRow_pos hrow (by omega)
    have hr1 := own_bools_made w1 T (by unfold maxLen; omega)
    obtain ⟨W1, hW1⟩ : ∃ W1, W1 = w1.alloc (.cells (madeCells #[.bool false] T) 4) := ⟨_, rfl⟩
    have hbW1 : Below w1.heap.size w1 W1 := by rw [hW1]; exact (Below.refl _ w1).alloc (Nat.le_refl _) _
    rw [← hW1] at hr1
    have hr2 := (hr1.stored 0 (.bool true)).1
    have hr3 := (hr2.stored len (.bool true)).1
    have s1 := hr1.cellAt 0 (by omega)
    have s2 := hr1.frozenAt 0
    have s3 := hr2.cellAt len (by omega)
    have s4 := hr2.frozenAt len
    rw [boolV_at _ _ _ (by omega)] at s1
    rw [boolV_set _ _ _ _ (by omega), boolV_at _ _ _ (by omega)] at s3
    rw [boolV_set _ _ _ _ (by omega), boolV_set _ _ _ _ (by omega)] at hr3
    obtain ⟨W3, hW3⟩ : ∃ W3, W3 = (W1.setCell ⟨w1.heap.size, 0, none⟩ (.bool true)).setCell ⟨w1.heap.size, len, none⟩ (.bool true) := ⟨_, rfl⟩
    have hb3 : Below w1.heap.size w1 W3 := by rw [hW3]; exact (hbW1.setCell (Nat.le_refl _) _).setCell (Nat.le_refl _) _
    rw [← hW3] at hr3
    obtain ⟨hBk, hx1, hx2⟩ := HBK.out W3 _ gx cx (own_under' hrow hb3)
    have KH := hide (heal_ok gx 0 T cx w1.heap.size 0 T len m (addG g len m) (lkTwo len) W3 hBk hx1 hx2 (fun i hi => by
      have h9 := hr3.cellAt i (by omega)
      rw [boolV_at _ _ _ hi] at h9
      rw [Nat.zero_add]; exact h9) hm1 hm2 hTl HT.out.symm)
    have HB3 := hide (below_two hb hb3)
    rw [hW1] at s1 s2 s3 s4
    rw [World.setCell_alloc_new] at s3 s4
    have HW1 := hide hW1
    rw [hW1, World.setCell_alloc_new, World.setCell_alloc_new] at hW3
    have HW3 := hide hW3
    clear hrow hb hr1 hr2 hr3 hbW1 hW1 hW3 hb3 hBk hx1 hx2
    go_wp2_with fail
    rw [← HW3.out]
    refine (KH.out).mono ?_
    rintro e w4 (⟨v4, rfl, hall, _, _⟩ | ⟨q, hq, hbad, hgood, rfl, hb4⟩)
    · have := hall 0 (by have := HT.out; omega)
      rw [HFL.out] at this
      cases this
    · have hq0 : q = 0 := by
        rcases Nat.eq_zero_or_pos q with e | e
        · exact e
        · have := hgood 0 e
          rw [HFL.out] at this
          cases this
      rw [hq0, HFL.out]
      have KE := hide (error_right 8 (.iface 42 (.int .i64 8)) w4 (HG.out.below HG.out.lt (below_two HB3.out hb4)) (Or.inr rfl))
      have HB4 := hide (below_two HB3.out hb4)
      clear hgood hbad hb4 hq
      go_wp2_with fail
      refine (KE.out).mono ?_
      rintro e w5 ⟨rfl, hb5⟩
      have HB5 := hide (below_two HB4.out hb5)
      clear hb5
      go_wp2
      go_ret
      exact ⟨rfl, HB5.out⟩
end Go.Proofs.YtmmlcomfkikomaaDoor
