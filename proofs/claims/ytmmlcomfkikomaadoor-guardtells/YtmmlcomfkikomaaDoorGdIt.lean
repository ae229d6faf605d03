/-
  Our own contract of the function that guard.groups answers, to be ranged over, over this seat's translation. Lemmas for the laws above; no statement is proved here.
-/
import Derived.Test.YtmmlcomfkikomaaDoorRangeN
import Derived.Test.YtmmlcomfkikomaaDoorGdS
namespace Go.Proofs.YtmmlcomfkikomaaDoor
open Go.RowKit Go.Shelf
set_option linter.unusedVariables false
set_option maxRecDepth 100000
attribute [local go_sem] Oper.semAt_some

/-- The places of group q. -/
def gL (n each q : Nat) : List Nat := List.range' (q * each) (min each (n - q * each))
/-- What round q is handed. -/
def GdI (n each : Nat) (q : Nat) (x y : Value) (W : World) : Prop := x = .int .i64 ((n : Int) + (q : Int)) ∧ Lst W y (gL n each q)
theorem gL_len (n each q : Nat) : (gL n each q).length = min each (n - q * each) := by simp [gL]

theorem GdI_own (B n each : Nat) (x y : Value) : OwnFrom B (fun i W => GdI n each i x y W) := fun i A C row h hg hr =>
  ⟨h.1, by
    obtain ⟨g, cap, hv, h1, h2, h3⟩ := h.2
    exact ⟨g, cap, hv, h1, h2, fun k hk => cell_kept (h3 k hk) hg (fun r e => (hr r e).2)⟩⟩

theorem range_snoc (s r : Nat) : List.range' s (r + 1) = List.range' s r ++ [s + r] := by rw [List.range'_concat]; simp

set_option maxHeartbeats 2000000 in
theorem groups_iter (b n each : Nat) (w : World) (hn : n ≤ 16) (he : 1 ≤ each) (he2 : each ≤ 16) (hb : b + 1 < w.heap.size)
    (hc1 : w.cell? ⟨b, 0, none⟩ = some (.int .i64 n)) (hc2 : w.cell? ⟨b + 1, 0, none⟩ = some (.int .i64 each)) :
    Iter 28 #[.pointer (some ⟨b, 0, none⟩), .pointer (some ⟨b + 1, 0, none⟩)] (GdI n each) (gN n each) b w := by
  intro l J Jx W hW hJ hJx hY h0
  have HJ := hide hJ
  have HJx := hide hJx
  have HY := hide hY
  have HG : Hid (∀ q, q < gN n each ↔ q * each < n) := gN_lt he
  have HC1 : Hid (W.cell? ⟨b, 0, none⟩ = some (.int .i64 n)) := cell_below hW hc1
  have HC2 : Hid (W.cell? ⟨b + 1, 0, none⟩ = some (.int .i64 each)) := cell_below hW hc2
  have hWs := hW.size
  clear hJ hJx hY hc1 hc2 hW
  obtain ⟨i0, hi, hz0, hz1, hz2⟩ := info_parts Tryd.infoInt
  refine callsIn_of_wp Tryd.func28 rfl trivial ?_ rfl
  simp only [Tryd.ntmps28, List.size_toArray, List.length_cons, List.length_nil, Nat.reduceAdd, Nat.reduceSub, Array.replicate_succ, Array.replicate_zero, List.push_toArray, List.append_toArray, List.nil_append, List.cons_append]
  have hk1 := HC1.out
  have hk2 := HC2.out
  gi_wp2
  gi_loopw [4, 5, 9] (fun s4 s5 s9 wr => ∃ p : Nat, p ≤ n ∧ s9 = .int .i64 p ∧ Same2 b W wr ∧
      ((p = n ∧ J (gN n each) wr) ∨ (p < n ∧ ∃ q r : Nat, p = q * each + r ∧ r < each ∧ s4 = .int .i64 ((n : Int) + (q : Int)) ∧ (∃ wj, J q wj ∧ Below wj.heap.size wj wr ∧ b + 1 < wj.heap.size ∧ wr.ownsRow wj.heap.size 3 1 s5 r (toV (List.range' (q * each) r))))))
    (fun _ _ s9 _ => n - (intOf s9).toNat)
  case atStart =>
    refine ⟨0, Nat.zero_le _, rfl, Same2.refl _ _, ?_⟩
    rcases Nat.eq_zero_or_pos n with e | e
    · refine Or.inl ⟨e.symm, ?_⟩
      have : gN n each = 0 := by have := gN_le n each he; omega
      rw [this]; exact h0
    · exact Or.inr ⟨e, 0, 0, by simp, by omega, by simp, W, h0, Below.refl _ _, by omega, World.ownsRow_nil _ _ _ _⟩
  case round =>
    obtain ⟨p, hp, rfl, hbl, hcase⟩ := hrel
    rcases hcase with ⟨rfl, hJG⟩ | ⟨hlt, q, r, hpq, hr, rfl, wj, hJq, hbj, hnj, hrow⟩
    · gi_wp2
      go_end0
      exact ⟨⟨_, rfl⟩, Or.inl hJG⟩
    · have HQ : Hid (q < gN n each) := (HG.out q).2 (by omega)
      have HJq := hide hJq
      have hsz := hbj.size
      have HP := hide hpq
      have hpI : (p : Int) < (n : Int) := by omega
      have HGE : Hid (p + 1 = n → gN n each = q + 1) := fun e9 => by
        have h1 := (HG.out q).2 (by omega)
        have h2 : ¬ q + 1 < gN n each := fun h => by have := (HG.out (q + 1)).1 h; rw [Nat.succ_mul] at this; omega
        omega
      have HF : Hid (∀ v' w1, w1.ownsRow wj.heap.size 3 1 v' (r + 1) (toV (List.range' (q * each) r) ++ [.int .i64 (p : Nat)]) → (wr.alloc (.cells #[.int .i64 (p : Nat)] 3)).grownBy w1 u5.ownBlock →
          Same2 b W w1 ∧ Below wj.heap.size wj w1 ∧ w1.cell? ⟨b, 0, none⟩ = some (.int .i64 n) ∧ w1.cell? ⟨b + 1, 0, none⟩ = some (.int .i64 each)) := fun v' w1 _ hgrow => by
        have hb1 : Same2 b W w1 := (hbl.trans (Same2.grown (row := none) (by omega) (World.grownBy_alloc wr _ none) (fun r e => by cases e))).trans (Same2.grown (by simp; omega) hgrow (fun k hk => by have := (hrow.lt k hk).1; omega))
        have hb2 : Below wj.heap.size wj w1 := (hbj.alloc hsz _).grown hgrow (by simp; omega) (fun k hk => (hrow.lt k hk).1)
        exact ⟨hb1, hb2, (hb1.cell (Or.inl rfl)).trans HC1.out, (hb1.cell (Or.inr rfl)).trans HC2.out⟩
      have HE : Hid (toV (List.range' (q * each) r) ++ [.int .i64 (p : Nat)] = toV (List.range' (q * each) (r + 1))) := by
        unfold Hid
        rw [range_snoc, ← HP.out]; simp [toV]
      have hpl : p < 16 := by omega
      have hq16 : q ≤ p := by have h9 := Nat.le_mul_of_pos_right q he; have h8 := HP.out; omega
      have hrl : r < 16 := by omega
      clear hpq
      by_cases hA : r + 1 < each ∧ p + 1 < n
      · obtain ⟨hA1, hA2⟩ := hA
        have hA1' : ((r : Int) + 1) < (each : Int) := by omega
        have hA2' : (p : Int) < (n : Int) - 1 := by omega
        gi_wp2_with (gi_at_builtin; refine wpListIn_append_own _ rfl _ _ 47 rfl wj.heap.size 3 i0 (.int .i64 0) 1 8 Tryd.underlying47 hi hz0 hz1 hz2 rfl (by decide) _ _ _ rfl (hrow.alloc _) ⟨wr.heap.size, 0, none⟩ 1 1 [.int .i64 (p : Nat)] rfl rfl (cell_one_new _ _ _) (by simp [Value.oneCell']) (by unfold maxLen; omega) (by omega) (by simp; omega) ?_; intro v' w1 hown' hgrow _; obtain ⟨g', cap', rfl⟩ := ownsRow_succ hown'; have HW1 := hide (HF.out _ _ hown' hgrow); have hc1' := HW1.out.2.2.1; have hc2' := HW1.out.2.2.2)
        go_roundw
        case rel => exact ⟨p + 1, by omega, by go_num, HW1.out.1, Or.inr ⟨by omega, q, r + 1, by have := HP.out; omega, hA1, rfl, wj, HJq.out, HW1.out.2.1, hnj, by rw [← HE.out]; exact hown'⟩⟩
        case measure => simp [intOf]; omega
      · have HL : Hid (∀ v' w1, w1.ownsRow wj.heap.size 3 1 v' (r + 1) (toV (List.range' (q * each) r) ++ [.int .i64 (p : Nat)]) → Lst w1 v' (gL n each q)) := fun v' w1 h9 => by
          have e9 : gL n each q = List.range' (q * each) (r + 1) := by
            unfold gL
            have := HP.out
            congr 1
            omega
          rw [e9]
          rw [HE.out] at h9
          refine own_lst (B := wj.heap.size) ?_ (by simp)
          simpa [toV] using h9
        by_cases hA1 : r + 1 < each
        · have hA2 : p + 1 = n := by omega
          have hA1' : ((r : Int) + 1) < (each : Int) := by omega
          have hA2' : ¬ (p : Int) < (n : Int) - 1 := by omega
          have hre : p + 1 < n → r + 1 = each := by omega
          clear hA
          gi_wp2_with (gi_at_builtin; refine wpListIn_append_own _ rfl _ _ 47 rfl wj.heap.size 3 i0 (.int .i64 0) 1 8 Tryd.underlying47 hi hz0 hz1 hz2 rfl (by decide) _ _ _ rfl (hrow.alloc _) ⟨wr.heap.size, 0, none⟩ 1 1 [.int .i64 (p : Nat)] rfl rfl (cell_one_new _ _ _) (by simp [Value.oneCell']) (by unfold maxLen; omega) (by omega) (by simp; omega) ?_; intro v' w1 hown' hgrow _; obtain ⟨g', cap', rfl⟩ := ownsRow_succ hown'; have HW1 := hide (HF.out _ _ hown' hgrow); have hc1' := HW1.out.2.2.1; have hc2' := HW1.out.2.2.2; have hLst := HL.out _ _ hown'; obtain ⟨fn, tmps, assign, body, hy, hR⟩ := HY.out q (.int .i64 ((n : Int) + (q : Int))) _ w1 HQ.out (HJ.out q wj w1 HJq.out (grown_of_below HW1.out.2.1)) ⟨rfl, hLst⟩)
          refine hR.mono ?_
          rintro e W3 (⟨rfl, hJ3, hb3⟩ | ⟨rfl, hJx3⟩)
          · gi_wp2
            go_roundw
            case rel =>
              refine ⟨p + 1, by omega, by go_num, HW1.out.1.trans hb3, ?_⟩
              by_cases e9 : p + 1 = n
              · exact Or.inl ⟨e9, by rw [HGE.out e9]; exact hJ3⟩
              · refine Or.inr ⟨by omega, q + 1, 0, by have := HP.out; have := hre (by omega); rw [Nat.succ_mul]; omega, by omega, by go_num, W3, hJ3, Below.refl _ _, Nat.lt_of_lt_of_le hb (Nat.le_trans hWs (HW1.out.1.trans hb3).1), World.ownsRow_nil _ _ _ _⟩
            case measure => simp [intOf]; omega
          · gi_wp2
            refine bodyPost_ret (results_none rfl _ _ _) rfl ?_
            exact ⟨⟨_, rfl⟩, Or.inr ⟨q, HQ.out, hJx3⟩⟩
        · have hA1' : ¬ ((r : Int) + 1) < (each : Int) := by omega
          have hre : p + 1 < n → r + 1 = each := by omega
          clear hA
          gi_wp2_with (gi_at_builtin; refine wpListIn_append_own _ rfl _ _ 47 rfl wj.heap.size 3 i0 (.int .i64 0) 1 8 Tryd.underlying47 hi hz0 hz1 hz2 rfl (by decide) _ _ _ rfl (hrow.alloc _) ⟨wr.heap.size, 0, none⟩ 1 1 [.int .i64 (p : Nat)] rfl rfl (cell_one_new _ _ _) (by simp [Value.oneCell']) (by unfold maxLen; omega) (by omega) (by simp; omega) ?_; intro v' w1 hown' hgrow _; obtain ⟨g', cap', rfl⟩ := ownsRow_succ hown'; have HW1 := hide (HF.out _ _ hown' hgrow); have hc1' := HW1.out.2.2.1; have hc2' := HW1.out.2.2.2; have hLst := HL.out _ _ hown'; obtain ⟨fn, tmps, assign, body, hy, hR⟩ := HY.out q (.int .i64 ((n : Int) + (q : Int))) _ w1 HQ.out (HJ.out q wj w1 HJq.out (grown_of_below HW1.out.2.1)) ⟨rfl, hLst⟩)
          refine hR.mono ?_
          rintro e W3 (⟨rfl, hJ3, hb3⟩ | ⟨rfl, hJx3⟩)
          · gi_wp2
            go_roundw
            case rel =>
              refine ⟨p + 1, by omega, by go_num, HW1.out.1.trans hb3, ?_⟩
              by_cases e9 : p + 1 = n
              · exact Or.inl ⟨e9, by rw [HGE.out e9]; exact hJ3⟩
              · refine Or.inr ⟨by omega, q + 1, 0, by have := HP.out; have := hre (by omega); rw [Nat.succ_mul]; omega, by omega, by go_num, W3, hJ3, Below.refl _ _, Nat.lt_of_lt_of_le hb (Nat.le_trans hWs (HW1.out.1.trans hb3).1), World.ownsRow_nil _ _ _ _⟩
            case measure => simp [intOf]; omega
          · gi_wp2
            refine bodyPost_ret (results_none rfl _ _ _) rfl ?_
            exact ⟨⟨_, rfl⟩, Or.inr ⟨q, HQ.out, hJx3⟩⟩
end Go.Proofs.YtmmlcomfkikomaaDoor
