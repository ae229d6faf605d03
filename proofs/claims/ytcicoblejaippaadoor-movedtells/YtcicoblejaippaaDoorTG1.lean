/-
  Lemmas for the law above, joined into one text (PicA, CodA). No statement is proved here.
-/
import Derived.Test.YtcicoblejaippaaDoorTG0
import Derived.ProofKit
import Derived.OpenShut
import Derived.ChangeSlices
import Derived.Lib.SmallJoins
namespace Go.Proofs.YtcicoblejaippaaDoor
open Go.ChangeShapes Go.WideShapes Go.ChangeAt Go.RowKit Go.Joins
set_option linter.unusedVariables false
set_option maxRecDepth 100000

theorem cellsInt' : Tryd.prog.cellsOf 3 = 1 := by kernel_rfl

/-- A slice of ints by its own cells. -/
theorem open_intsIn {H : Type} {enc : TypeId × Value → H} {W : World} {v : Value} {fuel : Nat} {x : DataW H × List MemPlace}
    (hf : DataW.trod enc Tryd.prog W 0 (fun _ => true) true fuel 22 [v] = some x) : ∃ n f, IntsIn W v n f := by
  rcases open_ints Tryd.underlying22 Tryd.underlying3 cellsInt' hf with ⟨hcs, hx⟩ | ⟨a, len', cap', ss, hcs, _, hl, hm, hz, hx, hcell, hws⟩
  · simp at hcs
    subst hcs
    exact ⟨0, fun _ => 0, Or.inl ⟨rfl, none, 0, rfl⟩⟩
  · simp at hcs
    subst hcs
    simp only [if_true] at hz
    by_cases h0 : len' = 0
    · subst h0
      exact ⟨0, fun _ => 0, Or.inl ⟨rfl, some a, cap', rfl⟩⟩
    · obtain ⟨b, off, spot⟩ := a
      have hspot : spot = none := by simpa [Addr.add] using World.cell?_spot (hcell 0 (by omega))
      subst hspot
      refine ⟨len', fun i => ss.getD i 0, Or.inr ⟨by omega, b, off, cap', rfl, fun i hi => ?_⟩⟩
      rw [← add_plain]; exact hcell i (by omega)

theorem open_picAt {H : Type} {enc : TypeId × Value → H} {W : World} {base : Nat} {v : Value} {d : DataW H} {p : List MemPlace}
    (hv : Value.okWide Tryd.prog W .any base 24 v) (h : DataW.Trod enc Tryd.prog W 0 (fun _ => true) true 24 v d p) : ∃ a b s n f, v = .agg #[.int .i64 a, .int .i64 b, s] ∧ IntsIn W s n f := by
  obtain ⟨v0, v1, v2, y0, y1, y2, m, rfl, rfl, rfl, h0, h1, h2⟩ := open_agg3 Tryd.underlying24 (by kernel_rfl) (show Tryd.prog.cellsOf 24 = 3 by kernel_rfl) hv h
  obtain ⟨a, e0, _, _⟩ := DataW.trod_int Tryd.underlying3 h0
  obtain ⟨b, e1, _, _⟩ := DataW.trod_int Tryd.underlying3 h1
  obtain ⟨n, f, hi⟩ := open_intsIn h2
  simp at e0 e1
  subst e0 e1
  exact ⟨a, b, v2, n, f, rfl, hi⟩

end Go.Proofs.YtcicoblejaippaaDoor

namespace Go.Proofs.YtcicoblejaippaaDoor
open Go.ChangeShapes Go.WideShapes Go.ChangeAt Go.RowKit Go.Joins
set_option linter.unusedVariables false
set_option maxRecDepth 100000

theorem open_codAt {H : Type} {enc : TypeId × Value → H} {W : World} {base : Nat} {v : Value} {d : DataW H} {p : List MemPlace}
    (hv : Value.okWide Tryd.prog W .any base 28 v) (h : DataW.Trod enc Tryd.prog W 0 (fun _ => true) true 28 v d p) : ∃ al x y s n f, v = .agg #[.bool al, .int .i64 x, .int .i64 y, s] ∧ IntsIn W s n f := by
  obtain ⟨cs, rfl, hsz⟩ := okWide_struct Tryd.underlying28 hv
  obtain ⟨c0, c1, c2, c3, rfl⟩ := array4 (hsz.trans (show Tryd.prog.cellsOf 28 = 4 by kernel_rfl))
  obtain ⟨fuel, hf⟩ := h
  obtain ⟨y0, y1, y2, n, hx, _, h0, h1, h2⟩ := Deep.trod_struct3 Tryd.underlying28 hf
  have k0 : Tryd.prog.cellsOf 4 = 1 := by kernel_rfl
  have k1 : Tryd.prog.cellsOf 26 = 2 := by kernel_rfl
  have k2 : Tryd.prog.cellsOf 22 = 1 := by kernel_rfl
  have k3 : Tryd.prog.cellsOf 3 = 1 := by kernel_rfl
  simp [Value.cells, k0, k1, k2] at h0 h1 h2
  obtain ⟨z0, z1, n1, hx1, _, g0, g1⟩ := trod_struct2 Tryd.underlying26 h1
  simp [k3] at g0 g1
  obtain ⟨al, e0, _⟩ := DataW.trod_bool Tryd.underlying4 h0
  obtain ⟨x, e1, _, _⟩ := DataW.trod_int Tryd.underlying3 g0
  obtain ⟨y, e2, _, _⟩ := DataW.trod_int Tryd.underlying3 g1
  obtain ⟨m, f, hi⟩ := open_intsIn h2
  simp at e0 e1 e2
  subst e0 e1 e2
  exact ⟨al, x, y, c3, m, f, rfl, hi⟩
end Go.Proofs.YtcicoblejaippaaDoor
