/-
  How a slice of slices of ints among a law's arguments is opened over this seat's translation. Lemmas; no statement is proved here.
-/
import Derived.Test.YtjoklnalkehegaaInts
import Derived.Deep.Slices
namespace Go.Proofs.Ytjoklnalkehegaa
open Go.ChangeShapes Go.WideShapes Go.ChangeAt Go.RowKit
set_option linter.unusedVariables false
set_option maxRecDepth 100000

theorem cellsInts : Try.prog.cellsOf 33 = 1 := by kernel_rfl

/-- One row of it: L numbers. -/
structure RowI where
  a : Option Addr
  len : Nat
  cap : Nat
  f : Nat → Int
def RowI.val (r : RowI) : Value := .slice r.a r.len r.cap
/-- A slice of slices of ints as it lies: len rows. -/
def RowsAt (W : World) (v : Value) (len : Nat) (R : Nat → RowI) : Prop :=
  ∃ a cap, v = .slice a len cap ∧ len ≤ cap ∧ cap ≤ maxLen ∧ (0 < len → ∃ b o, a = some ⟨b, o, none⟩ ∧ ∀ i, i < len → W.cell? ⟨b, o + i, none⟩ = some (R i).val) ∧ ∀ i, i < len → IntsAt W (R i).val (R i).len (R i).f ∧ (R i).len ≤ maxLen

theorem open_rowsAt {H : Type} {enc : TypeId × Value → H} {W : World} {base : Nat} {v : Value} {d : DataW H} {p : List MemPlace}
    (hv : Value.okWide Try.prog W .any base 23 v) (h : DataW.Trod enc Try.prog W 0 (fun _ => true) true 23 v d p) : ∃ len R, RowsAt W v len R := by
  obtain ⟨a0, len, cap, rfl⟩ := okWide_slice Try.underlying23 hv
  obtain ⟨fuel, hf⟩ := h
  rcases Deep.open_slice1 Try.underlying23 cellsInts hf with ⟨hcs, hx⟩ | ⟨a, len', cap', m, n, V, D, Pl, hcs, _, hl, hm, hmm, hx, hcell⟩
  · simp [Value.cells] at hcs
    obtain ⟨rfl, rfl, rfl⟩ := hcs
    exact ⟨0, fun _ => ⟨none, 0, 0, fun _ => 0⟩, none, 0, rfl, Nat.le_refl _, Nat.zero_le _, fun h => absurd h (Nat.lt_irrefl _), fun i h => absurd h (Nat.not_lt_zero _)⟩
  · simp [Value.cells] at hcs
    obtain ⟨rfl, rfl, rfl⟩ := hcs
    simp only [if_true] at hmm
    have each : ∀ i, i < len → ∃ r : RowI, W.cell? (a.add i) = some r.val ∧ IntsAt W r.val r.len r.f ∧ r.len ≤ maxLen := fun i hi => by
      obtain ⟨h1, h2⟩ := hcell i (by omega)
      rcases open_ints Try.underlying33 Try.underlying3 cellsInt h2 with ⟨hc2, hx2⟩ | ⟨a2, l2, c2, ss, hc2, _, hl2, hm2, hz, hx2, hcell2, hws⟩
      · have e : V i = .slice none 0 0 := by simpa using hc2
        exact ⟨⟨none, 0, 0, fun _ => 0⟩, by rw [h1, e]; rfl, Or.inl ⟨rfl, none, 0, rfl⟩, Nat.zero_le _⟩
      · have e : V i = .slice (some a2) l2 c2 := by simpa using hc2
        simp only [if_true] at hz
        refine ⟨⟨some a2, l2, c2, fun q => ss.getD q 0⟩, by rw [h1, e]; rfl, ?_, Nat.le_trans hl2 hm2⟩
        by_cases h0 : l2 = 0
        · subst h0
          exact Or.inl ⟨rfl, some a2, c2, rfl⟩
        · obtain ⟨b, off, spot⟩ := a2
          have hspot : spot = none := by simpa [Addr.add] using World.cell?_spot (hcell2 0 (by omega))
          subst hspot
          refine Or.inr ⟨Nat.pos_of_ne_zero h0, b, off, c2, rfl, hl2, hm2, fun q (hq : q < l2) => ?_, fun q (hq : q < l2) => ?_⟩
          · rw [← add_plain]; exact hcell2 q (by omega)
          · have hq' : q < ss.length := by omega
            have e : ss.getD q 0 = ss[q] := by simp [List.getD, List.getElem?_eq_getElem hq']
            show (Lit.int .i64 (ss.getD q 0)).wf = true
            rw [e]; exact hws _ (List.getElem_mem hq')
    have : Inhabited RowI := ⟨⟨none, 0, 0, fun _ => 0⟩⟩
    obtain ⟨R, hR⟩ := Deep.choose_lt each
    refine ⟨len, R, some a, cap, rfl, hl, hm, fun h0 => ?_, fun i hi => (hR i hi).2⟩
    obtain ⟨b, off, spot⟩ := a
    have hspot : spot = none := by simpa [Addr.add] using World.cell?_spot (hR 0 h0).1
    subst hspot
    exact ⟨b, off, rfl, fun i hi => by rw [← add_plain]; exact (hR i hi).1⟩
end Go.Proofs.Ytjoklnalkehegaa
