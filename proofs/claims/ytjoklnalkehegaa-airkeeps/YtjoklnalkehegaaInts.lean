/-
  How a slice of ints among a law's arguments is opened over this seat's translation. Lemmas; no statement is proved here.
-/
import Derived.Test.YtjoklnalkehegaaBase
import Derived.ProofKit
import Derived.OpenShut
import Derived.ChangeSlices
namespace Go.Proofs.Ytjoklnalkehegaa
open Go.ChangeShapes Go.WideShapes Go.ChangeAt Go.RowKit
set_option linter.unusedVariables false
set_option maxRecDepth 100000

theorem cellsInt : Try.prog.cellsOf 3 = 1 := by kernel_rfl

/-- A slice of ints as it lies: len numbers f 0, f 1, .. -/
def IntsAt (W : World) (v : Value) (len : Nat) (f : Nat → Int) : Prop :=
  (len = 0 ∧ ∃ a cap, v = .slice a 0 cap) ∨ (0 < len ∧ ∃ b o cap, v = .slice (some ⟨b, o, none⟩) len cap ∧ len ≤ cap ∧ cap ≤ maxLen ∧ (∀ i, i < len → W.cell? ⟨b, o + i, none⟩ = some (.int .i64 (f i))) ∧ ∀ i, i < len → (Lit.int .i64 (f i)).wf = true)

theorem open_intsAt {H : Type} {enc : TypeId × Value → H} {W : World} {base : Nat} {v : Value} {d : DataW H} {p : List MemPlace}
    (hv : Value.okWide Try.prog W .any base 33 v) (h : DataW.Trod enc Try.prog W 0 (fun _ => true) true 33 v d p) : ∃ len f, IntsAt W v len f := by
  obtain ⟨a0, len, cap, rfl⟩ := okWide_slice Try.underlying33 hv
  obtain ⟨fuel, hf⟩ := h
  rcases open_ints Try.underlying33 Try.underlying3 cellsInt hf with ⟨hcs, hx⟩ | ⟨a, len', cap', ss, hcs, _, hl, hm, hz, hx, hcell, hws⟩
  · simp [Value.cells] at hcs
    obtain ⟨rfl, rfl, rfl⟩ := hcs
    exact ⟨0, fun _ => 0, Or.inl ⟨rfl, none, 0, rfl⟩⟩
  · simp [Value.cells] at hcs
    obtain ⟨rfl, rfl, rfl⟩ := hcs
    simp only [if_true] at hz
    by_cases h0 : len = 0
    · subst h0
      exact ⟨0, fun _ => 0, Or.inl ⟨rfl, some a, cap, rfl⟩⟩
    · obtain ⟨b, off, spot⟩ := a
      have hspot : spot = none := by simpa [Addr.add] using World.cell?_spot (hcell 0 (by omega))
      subst hspot
      refine ⟨len, fun i => ss.getD i 0, Or.inr ⟨by omega, b, off, cap, rfl, hl, hm, fun i hi => ?_, fun i hi => ?_⟩⟩
      · rw [← add_plain]; exact hcell i (by omega)
      · have hi' : i < ss.length := by omega
        have e : ss.getD i 0 = ss[i] := by simp [List.getD, List.getElem?_eq_getElem hi']
        show (Lit.int .i64 (ss.getD i 0)).wf = true
        rw [e]; exact hws _ (List.getElem_mem hi')
end Go.Proofs.Ytjoklnalkehegaa
