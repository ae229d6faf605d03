/-
  Our own contract of dropref1.Zero over this seat's translation. Lemmas for the laws above; no statement is proved here.
-/
import Derived.Test.YtmmlcomfkikomaaDoorZeroN
import Derived.Laws.Concat
import Derived.Lib.Strings
namespace Go.Proofs.YtmmlcomfkikomaaDoor
open Go.RowKit
set_option linter.unusedVariables false
set_option maxRecDepth 100000

theorem zero_any (n : Nat) (w : World) (hn : n ≤ 1000) :
    Calls Tryd.prog 13 #[.int .i64 n] w fun e w' => e = .returned (.string (zerosB n)) ∧ w = w' := by
  go_enter Tryd.func13, Tryd.ntmps13
  go_wp2
  go_loop [3, 4] (fun s i => ∃ j : Nat, j ≤ n ∧ i = .int .i64 j ∧ s = .string (zerosB j)) (fun _ i => n - (intOf i).toNat)
  case atStart => exact ⟨0, Nat.zero_le _, rfl, rfl⟩
  case round =>
    obtain ⟨j, hj, rfl, rfl⟩ := hrel
    have hz := zerosB_size j
    have HS := hide (zerosB_succ j)
    have HZ := hide hz
    have hz2 : (zerosB j).size ≤ 1000 := by omega
    clear hz
    by_cases hlt : j < n
    · go_wp2
      go_round
      case rel => exact ⟨j + 1, by omega, by go_num, by rw [HS.out]⟩
      case measure => simp [intOf]; omega
    · obtain rfl : j = n := by omega
      go_wp2
      go_ret
      exact ⟨rfl, rfl⟩
end Go.Proofs.YtmmlcomfkikomaaDoor
