/-
  Our own contracts of degree.Of over this seat's translation, its ways out. Lemmas for the laws above; no statement is proved here.
-/
import Derived.Test.YtkbnoebhckngaaaDoorDegN
namespace Go.Proofs.YtkbnoebhckngaaaDoor
open Go.RowKit
set_option linter.unusedVariables false
set_option maxRecDepth 100000

theorem dmay_ok (k : Int) (w : World) (h1 : 1 ≤ k) (h2 : k ≤ 16) : Calls Tryd.prog 43 #[.int .i64 k] w fun e w' => e = .returned (.bool true) ∧ w = w' := by
  go_enter Tryd.func43, Tryd.ntmps43
  go_wp2
  go_ret
  exact ⟨ret_bool (by simp <;> omega), rfl⟩
theorem dmay_not (k : Int) (w : World) (h : k < 1 ∨ 16 < k) : Calls Tryd.prog 43 #[.int .i64 k] w fun e w' => e = .returned (.bool false) ∧ w = w' := by
  rcases h with h | h
  · go_enter Tryd.func43, Tryd.ntmps43
    go_wp2
    go_ret
    exact ⟨ret_bool (by first | rfl | simp <;> omega), rfl⟩
  · go_enter Tryd.func43, Tryd.ntmps43
    go_wp2
    go_ret
    exact ⟨ret_bool (by first | rfl | simp <;> omega), rfl⟩
theorem least_ok (k n : Nat) (w : World) (hk : 1 ≤ k) (hk2 : k ≤ 16) (hn : n < 1000) : Calls Tryd.prog 44 #[.int .i64 k, .int .i64 n] w fun e w' => e = .returned (.int .i64 (deg k n)) ∧ w = w' := by
  go_enter Tryd.func44, Tryd.ntmps44
  go_wp2
  go_loop [5] (fun i => ∃ d : Nat, 1 ≤ d ∧ d ≤ k ∧ i = .int .i64 d ∧ deg k n = degF k n (k - d) d) (fun i => k - (intOf i).toNat)
  case atStart => exact ⟨1, Nat.le_refl _, hk, rfl, rfl⟩
  case round =>
    obtain ⟨d, hd1, hd2, rfl, he⟩ := hrel
    have HE := hide he
    clear he
    by_cases hlt : d < k
    · obtain ⟨⟨a0, a1⟩, ⟨b0, b1⟩, c0, c1⟩ := prods (d := d) hk2 hn hd1 (by omega)
      by_cases hu : Under k n d
      · have HS := hide (degF_stop hlt hu)
        unfold Under at hu
        go_wp2
        go_ret
        exact ⟨ret_int (by rw [HE.out, HS.out]), rfl⟩
      · have HS := hide (degF_on hlt hu)
        unfold Under at hu
        go_wp2
        go_round
        case rel => exact ⟨d + 1, by omega, by omega, by go_num, by rw [HE.out, HS.out]⟩
        case measure => simp [intOf]; omega
    · obtain rfl : d = k := by omega
      go_wp2
      go_ret
      exact ⟨ret_int (by rw [HE.out, degF_end]), rfl⟩

theorem of_ok (k n : Nat) (w : World) (hk : 1 ≤ k) (hk2 : k ≤ 16) (hn : n < 1000) : Calls Tryd.prog 33 #[.int .i64 k, .int .i64 n] w fun e w' => e = .returned (.tuple #[.int .i64 (deg k n), .nilIface]) ∧ w = w' := by
  have M := hide (dmay_ok k w (by omega) (by omega))
  have L := hide (least_ok k n w hk hk2 hn)
  have h0 : ¬ (n : Int) < 0 := by omega
  have h1 : ¬ 1000 ≤ (n : Int) := by omega
  go_enter Tryd.func33, Tryd.ntmps33
  go_wp2_with fail
  refine (M.out).mono ?_
  rintro e w1 ⟨rfl, rfl⟩
  go_wp2_with fail
  refine (L.out).mono ?_
  rintro e w1 ⟨rfl, rfl⟩
  go_wp2
  go_ret2
  exact ⟨rfl, rfl⟩
theorem of_range (k n : Int) (w : World) (h : (k < 1 ∨ 16 < k) ∨ n < 0 ∨ 1000 ≤ n) : Calls Tryd.prog 33 #[.int .i64 k, .int .i64 n] w fun e w' => e = .returned (.tuple #[.int .i64 0, .iface 38 (.int .i64 1)]) ∧ w = w' := by
  by_cases hk : k < 1 ∨ 16 < k
  · have M := hide (dmay_not k w hk)
    clear h hk
    go_enter Tryd.func33, Tryd.ntmps33
    go_wp2_with fail
    refine (M.out).mono ?_
    rintro e w1 ⟨rfl, rfl⟩
    go_wp2
    go_ret2
    exact ⟨rfl, rfl⟩
  · have M := hide (dmay_ok k w (by omega) (by omega))
    by_cases hn : n < 0
    · clear h hk
      go_enter Tryd.func33, Tryd.ntmps33
      go_wp2_with fail
      refine (M.out).mono ?_
      rintro e w1 ⟨rfl, rfl⟩
      go_wp2
      go_ret2
      exact ⟨rfl, rfl⟩
    · have hn2 : 1000 ≤ n := by omega
      clear h hk
      go_enter Tryd.func33, Tryd.ntmps33
      go_wp2_with fail
      refine (M.out).mono ?_
      rintro e w1 ⟨rfl, rfl⟩
      go_wp2
      go_ret2
      exact ⟨rfl, rfl⟩
end Go.Proofs.YtkbnoebhckngaaaDoor
