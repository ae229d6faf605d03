/-
  The library's contracts for internal/stringslite.Clone and strings.Clone, laid at this seat's translation (each body is held against the contract's own by the kernel). Lemmas for the laws above; no statement is proved here.
-/
import Derived.Shelf.LaysM
import Derived.Shelf.Strconv.Clone
import Derived.Test.YtjoklnalkehegaaBase
namespace Go.Proofs.Ytjoklnalkehegaa
open Go.Shelf Go.RowKit
set_option linter.unusedVariables false
set_option maxRecDepth 100000

def renClone : Go.Shelf.Ren := ⟨fun | 316 => 15 | n => n, fun | 9 => 9 | 3 => 3 | 4 => 4 | 37 => 44 | 0 => 0 | 127 => 45 | 5 => 5 | n => n, fun | n => n⟩
theorem laysClone0 : Go.Proofs.Lays.n316 Try.prog renClone := by constructor <;> (intros; kernel_rfl)
theorem laysClone : Go.Proofs.LaysM.n316 Try.prog renClone := by constructor <;> first | exact laysClone0 | (intros; kernel_rfl)
theorem stringslite_Clone (s : ByteArray) (w : World) (hlim : s.size ≤ 281474976710656) :
    Calls Try.prog 15 #[.string s] w fun e w' => e = .returned (.string s) ∧ Below w.heap.size w w' :=
  Any.stringslite_Clone laysClone s w hlim
theorem strings_Clone (s : ByteArray) (w : World) (hlim : s.size ≤ 281474976710656) :
    Calls Try.prog 13 #[.string s] w fun e w' => e = .returned (.string s) ∧ Below w.heap.size w w' := by
  go_enter Try.func13, Try.ntmps13
  go_wp2_with fail
  refine (stringslite_Clone _ _ hlim).mono ?_
  rintro e w1 ⟨rfl, hb⟩
  go_wp2
  go_ret
  exact ⟨rfl, hb⟩
end Go.Proofs.Ytjoklnalkehegaa
