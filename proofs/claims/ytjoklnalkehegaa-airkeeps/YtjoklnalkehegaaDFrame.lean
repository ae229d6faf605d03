/-
  A slice of Drops that is handed in, opened. Lemmas for the laws above; no statement is proved here.
-/
import Derived.Test.YtjoklnalkehegaaBase
import Derived.Deep.SlicePairs
import Derived.ProofKit
namespace Go.Proofs.Ytjoklnalkehegaa
open Go.ChangeShapes Go.WideShapes Go.ChangeAt Go.RowKit
set_option linter.unusedVariables false
set_option maxRecDepth 100000

/-- A slice of Drops as it lies: len of them, their seeds, their data. -/
def DropsAt (W : World) (v : Value) (len : Nat) (s : Nat → Int) (d : Nat → ByteArray) : Prop :=
  (len = 0 ∧ ∃ a cap, v = .slice a 0 cap) ∨ (0 < len ∧ ∃ b o cap, v = .slice (some ⟨b, o, none⟩) len cap ∧ len ≤ cap ∧ cap ≤ maxLen ∧ ∀ i, i < len → W.cell? ⟨b, o + i * 2, none⟩ = some (.int .i64 (s i)) ∧ W.cell? ⟨b, o + i * 2 + 1, none⟩ = some (.string (d i)) ∧ (d i).size ≤ maxLen ∧ (Lit.int .i64 (s i)).wf = true)

theorem open_dropsAt {H : Type} {enc : TypeId × Value → H} {W : World} {base : Nat} {v : Value} {dt : DataW H} {p : List MemPlace}
    (hv : Value.okWide Try.prog W .any base 22 v) (h : DataW.Trod enc Try.prog W 0 (fun _ => true) true 22 v dt p) : ∃ len s d, DropsAt W v len s d := by
  obtain ⟨a0, len, cap, rfl⟩ := okWide_slice Try.underlying22 hv
  obtain ⟨fuel, hf⟩ := h
  rcases Deep.open_slice_pairs Try.underlying22 Try.underlying30 (by kernel_rfl) rfl rfl (by kernel_rfl) (by kernel_rfl) hf with ⟨hcs, hx⟩ | ⟨a, len', cap', m, n, V0, V1, D0, D1, P0, P1, hcs, _, hl, hm, hmm, hx, hcell⟩
  · simp [Value.cells] at hcs
    obtain ⟨rfl, rfl, rfl⟩ := hcs
    exact ⟨0, fun _ => 0, fun _ => ByteArray.empty, Or.inl ⟨rfl, none, 0, rfl⟩⟩
  · simp [Value.cells] at hcs
    obtain ⟨rfl, rfl, rfl⟩ := hcs
    simp only [if_true] at hmm
    by_cases h0 : len = 0
    · subst h0
      exact ⟨0, fun _ => 0, fun _ => ByteArray.empty, Or.inl ⟨rfl, some a, cap, rfl⟩⟩
    · have each : ∀ i, i < len → ∃ x : Int × ByteArray, W.cell? (a.add (i * 2)) = some (.int .i64 x.1) ∧ W.cell? (a.add (i * 2 + 1)) = some (.string x.2) ∧ x.2.size ≤ maxLen ∧ (Lit.int .i64 x.1).wf = true := fun i hi => by
        obtain ⟨h1, h2, h3, h4⟩ := hcell i (by omega)
        obtain ⟨q, e1, _, w1⟩ := DataW.trod_int Try.underlying3 h3
        obtain ⟨s, e2, _, w2⟩ := DataW.trod_string Try.underlying9 h4
        simp at e1 e2
        rw [e1] at h1
        rw [e2] at h2
        exact ⟨(q, s), h1, h2, w2, w1⟩
      obtain ⟨f, hf⟩ := Deep.choose_lt (α := Int × ByteArray) each
      obtain ⟨b, off, spot⟩ := a
      have hspot : spot = none := by
        have h9 := World.cell?_spot (hf 0 (by omega)).1
        simpa [Addr.add] using h9
      subst hspot
      refine ⟨len, fun i => (f i).1, fun i => (f i).2, Or.inr ⟨by omega, b, off, cap, rfl, hl, hm, fun i hi => ?_⟩⟩
      obtain ⟨h1, h2, h3, h4⟩ := hf i hi
      rw [Addr.add_lit] at h1 h2
      exact ⟨h1, by rw [Nat.add_assoc]; exact h2, h3, h4⟩
end Go.Proofs.Ytjoklnalkehegaa
