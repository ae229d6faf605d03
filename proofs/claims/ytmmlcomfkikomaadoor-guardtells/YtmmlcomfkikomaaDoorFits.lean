/-
  Our own contract of blocks.fits over this seat's translation. Lemmas for the laws above; no statement is proved here.
-/
import Derived.Test.YtmmlcomfkikomaaDoorBase
namespace Go.Proofs.YtmmlcomfkikomaaDoor
open Go.RowKit
set_option linter.unusedVariables false
set_option maxRecDepth 100000

theorem fits_yes (z : Int) (w : World) (h1 : 1 ≤ z) (h8 : z ≤ 8) :
    Calls Tryd.prog 24 #[.int .i64 z] w fun e w' => e = .returned (.bool true) ∧ w = w' := by
  go_enter Tryd.func24, Tryd.ntmps24
  go_wp2
  go_ret
  exact ⟨rfl, rfl⟩
theorem fits_no (z : Int) (w : World) (h : z < 1 ∨ 8 < z) :
    Calls Tryd.prog 24 #[.int .i64 z] w fun e w' => e = .returned (.bool false) ∧ w = w' := by
  rcases h with h | h
  · have h' : ¬ 1 ≤ z := by omega
    go_enter Tryd.func24, Tryd.ntmps24
    go_wp2
    go_ret
    exact ⟨rfl, rfl⟩
  · have h' : ¬ z ≤ 8 := by omega
    have h1 : 1 ≤ z := by omega
    go_enter Tryd.func24, Tryd.ntmps24
    go_wp2
    go_ret
    exact ⟨rfl, rfl⟩
end Go.Proofs.YtmmlcomfkikomaaDoor
