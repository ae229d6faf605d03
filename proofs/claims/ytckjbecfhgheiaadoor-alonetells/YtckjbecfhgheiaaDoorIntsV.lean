/-
  How a slice of ints among a law's arguments is opened, as the numbers that it holds. Lemmas; no statement is proved here.
-/
import Derived.Test.YtckjbecfhgheiaaDoorPicA
namespace Go.Proofs.YtckjbecfhgheiaaDoor
open Go.ChangeShapes Go.WideShapes Go.ChangeAt Go.RowKit Go.Joins
set_option linter.unusedVariables false
set_option maxRecDepth 100000

theorem open_intsV {H : Type} {enc : TypeId × Value → H} {W : World} {base : Nat} {v : Value} {d : DataW H} {p : List MemPlace}
    (hv : Value.okWide Tryd.prog W .any base 22 v) (h : DataW.Trod enc Tryd.prog W 0 (fun _ => true) true 22 v d p) : ∃ n f, IntsIn W v n f := by
  obtain ⟨a0, len, cap, rfl⟩ := okWide_slice Tryd.underlying22 hv
  obtain ⟨fuel, hf⟩ := h
  exact open_intsIn hf
end Go.Proofs.YtckjbecfhgheiaaDoor
