/-
  Lemmas for the law above, joined into one text (MZero). No statement is proved here.
-/
import Derived.Test.YtjhflcgphejddaaGreatDoorZG28
import Derived.Test.YtjhflcgphejddaaGreatDoorZG16
import Derived.Test.YtjhflcgphejddaaGreatDoorZG3
namespace Go.Proofs.YtjhflcgphejddaaGreatDoor
open Go.RowKit
set_option linter.unusedVariables false
set_option maxRecDepth 100000

theorem mzero_range (z : Int) (w : World) (hz : z < 1 ∨ 8 < z) :
    Calls Tryz.prog 77 #[.int .i64 z] w fun e w' => e = .returned (.tuple #[.string ⟨#[]⟩, .iface 61 (.int .i64 1)]) ∧ w = w' := by
  rcases hz with h | h
  · go_enter Tryz.func77, Tryz.ntmps77
    go_wp2
    go_ret2
    exact ⟨rfl, rfl⟩
  · have h' : ¬ z < 1 := by omega
    go_enter Tryz.func77, Tryz.ntmps77
    go_wp2
    go_ret2
    exact ⟨rfl, rfl⟩
theorem mzero_ok (n : Nat) (w : World) (h1 : 1 ≤ n) (h8 : n ≤ 8) :
    Calls Tryz.prog 77 #[.int .i64 n] w fun e w' => e = .returned (.tuple #[.string (zerosB n), .nilIface]) ∧ Below w.heap.size w w' := by
  have hmk := run_make_row' (P := Tryz.prog) 74 5 (.int .u8 0) 1 Tryz.underlying74 Tryz.infoU8 rfl .i64 .i64 n (by omega) (by omega)
  have hr := row_zero (World.rowIs_made w (.int .u8 0) n 5)
  have hbk := back_row (cap := n) hr
  have hzz : bytesB n (fun _ => 0) = zerosB n := bytesB_eq _ _ _ (zerosB_size _) (fun i hi => by rw [zerosB_at])
  rw [hzz] at hbk
  have hb : Below w.heap.size w (w.alloc (.cells (madeCells #[.int .u8 0] n) 5)) := (Below.refl _ w).alloc (Nat.le_refl _) _
  have h1' : ¬ (n : Int) < 1 := by omega
  have h8' : ¬ 8 < (n : Int) := by omega
  clear hzz hr
  go_enter Tryz.func77, Tryz.ntmps77
  go_wp2
  go_ret2
  exact ⟨rfl, hb⟩
end Go.Proofs.YtjhflcgphejddaaGreatDoor
