/-
  Our own contracts of degree.Of and Times over this seat's translation, their ways out. Lemmas for the laws above; no statement is proved here.
-/
import Derived.Test.YtkpfaebhnkkmhaaDoorOwn
import Derived.Test.YtkpfaebhnkkmhaaDoorIRow
import Derived.Test.YtkpfaebhnkkmhaaDoorDegN
namespace Go.Proofs.YtkpfaebhnkkmhaaDoor
open Go.RowKit
set_option linter.unusedVariables false
set_option maxRecDepth 100000

theorem dmay_ok (k : Int) (w : World) (h1 : 1 ≤ k) (h2 : k ≤ 16) : Calls Tryd.prog 9 #[.int .i64 k] w fun e w' => e = .returned (.bool true) ∧ w = w' := by
  go_enter Tryd.func9, Tryd.ntmps9
  go_wp2
  go_ret
  exact ⟨ret_bool (by simp <;> omega), rfl⟩
theorem dmay_not (k : Int) (w : World) (h : k < 1 ∨ 16 < k) : Calls Tryd.prog 9 #[.int .i64 k] w fun e w' => e = .returned (.bool false) ∧ w = w' := by
  rcases h with h | h
  · go_enter Tryd.func9, Tryd.ntmps9
    go_wp2
    go_ret
    exact ⟨ret_bool (by first | rfl | simp <;> omega), rfl⟩
  · go_enter Tryd.func9, Tryd.ntmps9
    go_wp2
    go_ret
    exact ⟨ret_bool (by first | rfl | simp <;> omega), rfl⟩
theorem least_ok (k n : Nat) (w : World) (hk : 1 ≤ k) (hk2 : k ≤ 16) (hn : n < 1000) : Calls Tryd.prog 10 #[.int .i64 k, .int .i64 n] w fun e w' => e = .returned (.int .i64 (deg k n)) ∧ w = w' := by
  go_enter Tryd.func10, Tryd.ntmps10
  go_wp2
  go_loop [5] (fun i => ∃ d : Nat, 1 ≤ d ∧ d ≤ k ∧ i = .int .i64 d ∧ deg k n = degF k n (k - d) d) (fun i => k - (intOf i).toNat)
  case atStart => exact ⟨1, Nat.le_refl _, hk, rfl, rfl⟩
  case round =>
    obtain ⟨d, hd1, hd2, rfl, he⟩ := hrel
    have HE := hide he
    clear he
    by_cases hlt : d < k
    · obtain ⟨⟨a0, a1⟩, ⟨b0, b1⟩, c0, c1⟩ := prods (d := d) hk2 hn hd1 (by omega)
      by_cases hu : Under k n d
      · have HS := hide (degF_stop hlt hu)
        unfold Under at hu
        go_wp2
        go_ret
        exact ⟨ret_int (by rw [HE.out, HS.out]), rfl⟩
      · have HS := hide (degF_on hlt hu)
        unfold Under at hu
        go_wp2
        go_round
        case rel => exact ⟨d + 1, by omega, by omega, by go_num, by rw [HE.out, HS.out]⟩
        case measure => simp [intOf]; omega
    · obtain rfl : d = k := by omega
      go_wp2
      go_ret
      exact ⟨ret_int (by rw [HE.out, degF_end]), rfl⟩

theorem of_ok (k n : Nat) (w : World) (hk : 1 ≤ k) (hk2 : k ≤ 16) (hn : n < 1000) : Calls Tryd.prog 5 #[.int .i64 k, .int .i64 n] w fun e w' => e = .returned (.tuple #[.int .i64 (deg k n), .nilIface]) ∧ w = w' := by
  have M := hide (dmay_ok k w (by omega) (by omega))
  have L := hide (least_ok k n w hk hk2 hn)
  have h0 : ¬ (n : Int) < 0 := by omega
  have h1 : ¬ 1000 ≤ (n : Int) := by omega
  go_enter Tryd.func5, Tryd.ntmps5
  go_wp2_with fail
  refine (M.out).mono ?_
  rintro e w1 ⟨rfl, rfl⟩
  go_wp2_with fail
  refine (L.out).mono ?_
  rintro e w1 ⟨rfl, rfl⟩
  go_wp2
  go_ret2
  exact ⟨rfl, rfl⟩
theorem of_range (k n : Int) (w : World) (h : (k < 1 ∨ 16 < k) ∨ n < 0 ∨ 1000 ≤ n) : Calls Tryd.prog 5 #[.int .i64 k, .int .i64 n] w fun e w' => e = .returned (.tuple #[.int .i64 0, .iface 34 (.int .i64 1)]) ∧ w = w' := by
  by_cases hk : k < 1 ∨ 16 < k
  · have M := hide (dmay_not k w hk)
    clear h hk
    go_enter Tryd.func5, Tryd.ntmps5
    go_wp2_with fail
    refine (M.out).mono ?_
    rintro e w1 ⟨rfl, rfl⟩
    go_wp2
    go_ret2
    exact ⟨rfl, rfl⟩
  · have M := hide (dmay_ok k w (by omega) (by omega))
    by_cases hn : n < 0
    · clear h hk
      go_enter Tryd.func5, Tryd.ntmps5
      go_wp2_with fail
      refine (M.out).mono ?_
      rintro e w1 ⟨rfl, rfl⟩
      go_wp2
      go_ret2
      exact ⟨rfl, rfl⟩
    · have hn2 : 1000 ≤ n := by omega
      clear h hk
      go_enter Tryd.func5, Tryd.ntmps5
      go_wp2_with fail
      refine (M.out).mono ?_
      rintro e w1 ⟨rfl, rfl⟩
      go_wp2
      go_ret2
      exact ⟨rfl, rfl⟩
theorem times_range (k : Int) (w : World) (h : k < 1 ∨ 16 < k) : Calls Tryd.prog 7 #[.int .i64 k] w fun e w' => e = .returned (.tuple #[.slice none 0 0, .iface 34 (.int .i64 1)]) ∧ w = w' := by
  have M := hide (dmay_not k w h)
  clear h
  go_enter Tryd.func7, Tryd.ntmps7
  go_wp2_with fail
  refine (M.out).mono ?_
  rintro e w1 ⟨rfl, rfl⟩
  go_wp2
  go_ret2
  exact ⟨rfl, rfl⟩
set_option maxHeartbeats 1000000 in
theorem times_ok (k : Nat) (w : World) (hk : 1 ≤ k) (hk2 : k ≤ 16) : Calls Tryd.prog 7 #[.int .i64 k] w fun e w' => e = .returned (.tuple #[.slice (some ⟨w.heap.size, 0, none⟩) k k, .nilIface]) ∧ IRow w' w.heap.size k (fun i => cnt k i 1000) ∧ Below w.heap.size w w' := by
  have M := hide (dmay_ok k w (by omega) (by omega))
  have hmk := run_make_row' (P := Tryd.prog) 28 3 (.int .i64 0) 8 Tryd.underlying28 Tryd.infoInt rfl .i64 .i64 k (by omega) (by omega)
  go_enter Tryd.func7, Tryd.ntmps7
  go_wp2_with fail
  refine (M.out).mono ?_
  rintro e w1 ⟨rfl, rfl⟩
  go_wp2
  go_loopw [12] (fun i wr => ∃ j : Nat, j ≤ 1000 ∧ i = .int .i64 j ∧ IRow wr w.heap.size k (fun i => cnt k i j) ∧ Below w.heap.size w wr) (fun i _ => 1000 - (intOf i).toNat)
  case atStart => exact ⟨0, Nat.zero_le _, rfl, irow_zero (World.rowIs_made _ _ _ _), (Below.refl _ _).alloc (Nat.le_refl _) _⟩
  case round =>
    obtain ⟨j, hj, rfl, hrow, hb⟩ := hrel
    by_cases hlt : j < 1000
    · obtain ⟨d, hd⟩ : ∃ d, deg k j = d + 1 := ⟨deg k j - 1, by have := deg_ge k j; omega⟩
      have hdk : d < k := by have := deg_le k j hk; omega
      have L := least_ok k j wr hk hk2 hlt
      rw [hd] at L
      have L' := hide L
      obtain ⟨hcell, hfr⟩ := hrow d hdk
      have hcl := cnt_le k d j
      have HSET := hide (hrow.set d ((cnt k d j : Int) + 1))
      have ED := hide hd
      have ek : ((d + 1 : Nat) : Int) - 1 = (d : Int) := by omega
      clear hrow L hd
      simp only at hcell
      generalize hc : cnt k d j = c at *
      have HC := hide hc
      clear hc
      go_wp2_with fail
      refine (L'.out).mono ?_
      rintro e w2 ⟨rfl, rfl⟩
      go_wp2
      go_roundw
      case rel =>
        refine ⟨j + 1, by omega, by go_num, HSET.out.congr (fun i hi => ?_), hb.setCell (Nat.le_refl _) _⟩
        show _ = ((cnt k i j + if deg k j = i + 1 then 1 else 0 : Nat) : Int)
        by_cases e1 : i = d
        · subst e1; rw [if_pos rfl, if_pos ED.out, HC.out]; omega
        · rw [if_neg e1, if_neg (by rw [ED.out]; omega)]; simp
      case measure => simp [intOf]; omega
    · obtain rfl : j = 1000 := by omega
      go_wp2
      go_ret2
      exact ⟨rfl, hrow, hb⟩
end Go.Proofs.YtkpfaebhnkkmhaaDoor
