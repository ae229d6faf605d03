/-
  Lemmas for the law above, joined into one text (SClone). No statement is proved here.
-/
import Derived.Shelf.LaysM
import Derived.Shelf.Strconv.Clone
import Derived.Test.YtldjbampimbaeaaGreatDoorZG1
namespace Go.Proofs.YtldjbampimbaeaaGreatDoor
open Go.Shelf Go.RowKit
set_option linter.unusedVariables false
set_option maxRecDepth 100000

def renClone : Go.Shelf.Ren := ⟨fun | 316 => 44 | n => n, fun | 9 => 9 | 3 => 3 | 4 => 4 | 37 => 74 | 0 => 0 | 127 => 108 | 5 => 5 | n => n, fun | n => n⟩
theorem laysClone0 : Go.Proofs.Lays.n316 Tryz.prog renClone := by constructor <;> (intros; kernel_rfl)
theorem laysClone : Go.Proofs.LaysM.n316 Tryz.prog renClone := by constructor <;> first | exact laysClone0 | (intros; kernel_rfl)
theorem stringslite_Clone (s : ByteArray) (w : World) (hlim : s.size ≤ 281474976710656) :
    Calls Tryz.prog 44 #[.string s] w fun e w' => e = .returned (.string s) ∧ Below w.heap.size w w' :=
  Any.stringslite_Clone laysClone s w hlim
theorem strings_Clone (s : ByteArray) (w : World) (hlim : s.size ≤ 281474976710656) :
    Calls Tryz.prog 27 #[.string s] w fun e w' => e = .returned (.string s) ∧ Below w.heap.size w w' := by
  go_enter Tryz.func27, Tryz.ntmps27
  go_wp2_with fail
  refine (stringslite_Clone _ _ hlim).mono ?_
  rintro e w1 ⟨rfl, hb⟩
  go_wp2
  go_ret
  exact ⟨rfl, hb⟩
end Go.Proofs.YtldjbampimbaeaaGreatDoor
