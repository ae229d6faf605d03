/-
  The walk of NeedNone over this seat's translation. Lemmas for the law above; no statement is proved here.
-/
import Derived.Test.YtakaeikobahaoaaDoorNdLacks
import Derived.Test.YtakaeikobahaoaaDoorErrIs
namespace Go.Proofs.YtakaeikobahaoaaDoor
open Go.RowKit Go.Maps
set_option linter.unusedVariables false
set_option maxRecDepth 100000

/-- Seeds one behind the other. -/
def from1 (a : Nat) : Nat → Nat := fun i => i + a
theorem from1_mask {k : Nat} : ∀ {n : Nat}, n ≤ k → preL (mD k (from1 1)) n = preL unit n := fun {n} h => preL_congr fun j hj => by
  show maskL (setL k (j + 1)) = unit j
  rw [setL_one (by omega), Nat.add_sub_cancel, maskL_unit]
theorem rk_units (k : Nat) : rkL (preL unit k) = k := by
  have h := units_span (L := []) (k := k) (fun v hv => by cases hv)
  rwa [List.nil_append] at h
theorem intsAt_own {w : World} {B : Nat} {v : Value} {n : Nat} {f : Nat → Int} (h : w.ownsRow B 3 1 v n ((List.range n).map fun k : Nat => .int .i64 (f k))) (hf : ∀ i, i < n → -1000000 ≤ f i ∧ f i ≤ 1000000) : IntsAt w v n f := by
  rcases Nat.eq_zero_or_pos n with rfl | h0
  · obtain ⟨a, cap, hv⟩ := own_slice h
    exact Or.inl ⟨rfl, a, cap, hv⟩
  · obtain ⟨g, cap, hv, h1, h2, h3⟩ := own_ints h h0
    exact Or.inr ⟨h0, g, 0, cap, hv, h1, h2, h3, fun i hi => WalkArith.wf_i64 (by have := hf i hi; omega)⟩
theorem tail_ints {w : World} {g n cap c : Nat} (hn : 1 ≤ n) (hc : n ≤ cap) (hc2 : cap ≤ maxLen) (hn2 : n ≤ 16) (h : ∀ k, k < n → w.cell? ⟨g, 0 + k, none⟩ = some (.int .i64 ((k + 1 : Nat) : Int))) (a : Option Addr) (ha : n = 1 ∨ (a = some ⟨g, 1, none⟩ ∧ c = cap - 1)) : IntsAt w (.slice a (n - 1) c) (n - 1) (fun i => ((from1 2 i : Nat) : Int)) := by
  by_cases e : n = 1
  · refine Or.inl ⟨by omega, a, c, ?_⟩
    rw [show n - 1 = 0 by omega]
  · obtain ⟨rfl, rfl⟩ := ha.resolve_left e
    refine Or.inr ⟨by omega, g, 1, _, rfl, by omega, by omega, fun i hi => ?_, fun i hi => WalkArith.wf_i64 (by show -9223372036854775808 ≤ ((i + 2 : Nat) : Int) ∧ ((i + 2 : Nat) : Int) ≤ 9223372036854775807; omega)⟩
    have h9 := h (i + 1) (by omega)
    rw [show 0 + (i + 1) = 1 + i by omega] at h9
    exact h9
theorem intsAt_nil (w : World) (f : Nat → Int) : IntsAt w (.slice none 0 0) 0 f := Or.inl ⟨rfl, none, 0, rfl⟩
set_option maxHeartbeats 4000000 in
theorem none_walk {w : World} (k : Int) (hg : HasErr w) :
    Calls Tryd.prog 4 #[.int .i64 k] w fun e w' => e = .returned (.bool true) ∧ Below w.heap.size w w' := by
  by_cases hk : 1 ≤ k ∧ k ≤ 16
  · obtain ⟨n, rfl⟩ : ∃ n : Nat, k = (n : Nat) := ⟨k.toNat, by omega⟩
    have hn1 : 1 ≤ n := by omega
    have hn2 : n ≤ 16 := by omega
    have L0 := hide (lacks_ok n (.slice none 0 0) 0 (fun _ => 1) w (intsAt_nil w _) (by omega) hn1 hn2 (fun j hj => absurd hj (Nat.not_lt_zero _)))
    have hl0 : (upL (preL (mD n (fun _ => 1)) 0) unit n).length = n := by
      have h9 := lack_len (L := preL (mD n (fun _ => 1)) 0) (k := n) (fun v hv => by cases hv)
      rw [preL_zero, rkL_none] at h9
      exact h9
    rw [hl0] at L0
    have HG := hide hg
    have HGL := hide hg.lt
    obtain ⟨i0, hi0, hz0, hz1, hz2⟩ := info_parts Tryd.infoInt
    have Hi := hide hi0
    have Hz0 := hide hz0
    have Hz1 := hide hz1
    have Hz2 := hide hz2
    clear hg hl0 hi0 hz0 hz1 hz2 hk
    go_enter Tryd.func4, Tryd.ntmps4
    go_wp2_with fail
    refine (L0.out).mono ?_
    rintro e w1 ⟨vo, rfl, ho, hb1⟩
    obtain ⟨a0, c0, rfl⟩ := own_slice ho
    have HB1 := hide hb1
    clear ho hb1 L0
    go_wp2_with fail
    go_loopw [5, 6] (fun vo i wr => ∃ j : Nat, j ≤ n ∧ i = .int .i64 ((j + 1 : Nat) : Int) ∧ wr.ownsRow w.heap.size 3 1 vo j ((List.range j).map fun r : Nat => .int .i64 ((r + 1 : Nat) : Int)) ∧ Below w.heap.size w wr) (fun _ i _ => n + 1 - (intOf i).toNat)
    case atStart => exact ⟨0, Nat.zero_le _, rfl, World.ownsRow_nil _ _ _ _, HB1.out⟩
    case round =>
      obtain ⟨j, hj, rfl, hO, hb⟩ := hrel
      have HO := hide hO
      have HB := hide hb
      have hsz := hb.size
      clear hO hb HB1
      by_cases hlt : j < n
      · go_wp2_with (at_builtin; refine wpList_append_own _ rfl _ _ 22 rfl w.heap.size 3 i0 (.int .i64 0) 1 8 Tryd.underlying22 Hi.out Hz0.out Hz1.out Hz2.out rfl (by decide) _ _ _ rfl (HO.out.alloc _) ⟨wr.heap.size, 0, none⟩ 1 1 [.int .i64 ((j + 1 : Nat) : Int)] rfl rfl (cell_one_new _ _ _) (fun x hx => by simp at hx; subst hx; rfl) (by unfold maxLen; omega) (by omega) (by simp; omega) ?_; intro v5 w5 hown5 hgrow5 hnil5)
        go_roundw
        case rel =>
          have hb5 : Below wr.heap.size wr (wr.alloc (.cells #[.int .i64 ((j + 1 : Nat) : Int)] 3)) := (Below.refl _ _).alloc (Nat.le_refl _) _
          refine ⟨j + 1, by omega, by go_num, ?_, (below_two HB.out hb5).grown hgrow5 (by simp; omega) (fun q hq => (HO.out.lt q hq).1)⟩
          rw [List.range_succ, List.map_append]; exact hown5
        case measure => simp [intOf]; omega
      · obtain rfl : j = n := by omega
        have hI := intsAt_own (f := fun r : Nat => ((r + 1 : Nat) : Int)) HO.out (fun i hi => by omega)
        obtain ⟨g, c5, rfl, hc1, hc2, hc3⟩ := own_ints (f := fun r : Nat => ((r + 1 : Nat) : Int)) HO.out (by omega)
        have HI := hide hI
        have HS1 : Hid (∀ i, i < j → 1 ≤ from1 1 i ∧ from1 1 i ≤ 10000) := fun i hi => by unfold from1; omega
        have hm := from1_mask (k := j) (Nat.le_refl j)
        have L1 : Hid (∀ W, Below wr.heap.size wr W → Calls Tryd.prog 12 #[.int .i64 (j : Nat), .slice (some ⟨g, 0, none⟩) j c5] W fun e w' => ∃ a c, e = .returned (.tuple #[.slice a 0 c, .nilIface]) ∧ Below W.heap.size W w') := fun W hW => by
          have h9 := lacks_ok j _ j (from1 1) W (HI.out.below hW) (by omega) hn1 hn2 HS1.out
          have e9 : (upL (preL (mD j (from1 1)) j) unit j).length = 0 := by
            have h8 := lack_len (L := preL (mD j (from1 1)) j) (k := j) (mD_lt hn1 HS1.out)
            rw [hm, rk_units] at h8
            rw [hm]; omega
          rw [e9] at h9
          refine h9.mono fun e w' ⟨vo, he, ho, hb⟩ => ?_
          obtain ⟨a, c, rfl⟩ := own_slice ho
          exact ⟨a, c, he, hb⟩
        have L2 : Hid (∀ W, Below wr.heap.size wr W → Calls Tryd.prog 7 #[.int .i64 (j : Nat), .slice (some ⟨g, 0, none⟩) j c5] W fun e w' => e = .returned (.tuple #[.int .i64 (j : Nat), .nilIface]) ∧ Below W.heap.size W w') := fun W hW => by
          have e9 : (upL [] (mD j (from1 1)) j).length = j := by
            have h8 := upL_len [] (mD j (from1 1)) j
            rw [rkL_none, List.nil_append, hm, rk_units] at h8
            omega
          refine (first_ok j _ j (from1 1) W (HI.out.below hW) (by omega) hn1 hn2 HS1.out (by omega)).mono fun e w' ⟨p, he, h1, h2, h3, hb⟩ => ⟨?_, hb⟩
          have h7 := rkL_le (preL (mD j (from1 1)) (p + 1))
          rw [h2, preL_len] at h7
          obtain rfl : j = p + 1 := by omega
          rw [he]; rfl
        have L3 : Hid (∀ W v, Below wr.heap.size wr W → IntsAt W v (j - 1) (fun i => ((from1 2 i : Nat) : Int)) → Calls Tryd.prog 7 #[.int .i64 (j : Nat), v] W fun e w' => e = .returned (.tuple #[.int .i64 0, .iface 48 (.int .i64 8)]) ∧ Below W.heap.size W w') := fun W v hW hv => by
          refine first_few j v (j - 1) (from1 2) W hv (by omega) hn1 hn2 (fun i hi => by unfold from1; omega) ?_
          have := upL_le [] (mD j (from1 2)) (j - 1)
          omega
        have HC := hide hc3
        have ER := hide (fun W (hW : HasErr W) => error_right 8 (.iface 48 (.int .i64 8)) W hW (Or.inr rfl))
        clear hI hm hc3 HO
        go_wp2_with fail
        refine (L1.out _ (Below.refl _ _)).mono ?_
        rintro e w2 ⟨a2, c2, rfl, hb2⟩
        have HB2 := hide hb2
        clear hb2
        go_wp2_with fail
        refine (L2.out _ HB2.out).mono ?_
        rintro e w3 ⟨rfl, hb3⟩
        have HB3 := hide (below_two HB2.out hb3)
        clear hb3
        have HT3 : Hid (∀ a c, j = 1 ∨ (a = some ⟨g, 1, none⟩ ∧ c = c5 - 1) → IntsAt w3 (.slice a (j - 1) c) (j - 1) (fun i => ((from1 2 i : Nat) : Int))) := fun a c h => tail_ints hn1 hc1 hc2 hn2 (fun k hk => cell_below HB3.out (HC.out k hk)) a h
        go_wp2_with fail
        all_goals
          refine (L3.out _ _ HB3.out (HT3.out _ _ (by first | exact Or.inr ⟨rfl, rfl⟩ | exact Or.inl (by omega)))).mono ?_
          rintro e w4 ⟨rfl, hb4⟩
          have HB4 := hide (below_two HB3.out hb4)
          clear hb4
          go_wp2_with fail
          refine (ER.out _ (HG.out.below HGL.out (below_two HB.out HB4.out))).mono ?_
          rintro e w5 ⟨rfl, hb5⟩
          have HB5 := hide (below_two HB4.out hb5)
          clear hb5
          go_wp2
          go_ret
          exact ⟨rfl, below_two HB.out HB5.out⟩
  · have hf : fS k 0 (fun _ => 0) ≠ 0 := by
      unfold fS
      rw [if_neg (by omega), if_neg hk]; decide
    have L0 := hide (lacks_bad (intsAt_nil w (fun _ => 0)) hf)
    generalize fS k 0 (fun _ => 0) = x at *
    clear hf
    by_cases h1 : k < 1
    · clear hk
      go_enter Tryd.func4, Tryd.ntmps4
      go_wp2_with fail
      refine (L0.out).mono ?_
      rintro e w1 ⟨rfl, rfl⟩
      go_wp2
      go_ret
      exact ⟨rfl, Below.refl _ _⟩
    · have h2 : 16 < k := by omega
      clear hk
      go_enter Tryd.func4, Tryd.ntmps4
      go_wp2_with fail
      refine (L0.out).mono ?_
      rintro e w1 ⟨rfl, rfl⟩
      go_wp2
      go_ret
      exact ⟨rfl, Below.refl _ _⟩
end Go.Proofs.YtakaeikobahaoaaDoor
