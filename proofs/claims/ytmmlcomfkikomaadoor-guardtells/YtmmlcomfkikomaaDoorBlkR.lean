/-
  Blocks, and what both the program and the document find of them. Lemmas for the laws above; no statement is proved here.
-/
import Derived.Test.YtmmlcomfkikomaaDoorBlkW
import Derived.Test.YtmmlcomfkikomaaDoorRBlk
namespace Go.Proofs.YtmmlcomfkikomaaDoor
open Go.RowKit
set_option linter.unusedVariables false
set_option maxRecDepth 100000

/-- Blocks, and what both find of them: none, or a fault. -/
theorem blk_ways {w : World} {v : Value} {len : Nat} {g : Nat → ByteArray} (hv : StrsAt w v len g) :
    (∃ x : Int, 1 ≤ x ∧ (∀ w1, Below w.heap.size w w1 → Calls Tryd.prog 15 #[v] w1 fun e w' => e = .returned (.iface 42 (.int .i64 x)) ∧ Below w1.heap.size w1 w')
      ∧ ∀ w1, Below w.heap.size w w1 → Calls Tryd.prog 5 #[v] w1 fun e w' => e = .returned (.int .i64 x) ∧ Below w1.heap.size w1 w') ∨
    ∃ b o cap, v = .slice (some ⟨b, o, none⟩) len cap ∧ len ≤ cap ∧ cap ≤ maxLen ∧ Blks w b o len g := by
  rcases hv with ⟨rfl, a, cap, rfl⟩ | ⟨h0, b, o, cap, rfl, hlc, hcm, hcell, hsz⟩
  · exact Or.inl ⟨5, by decide, fun w1 hb => (check_none a cap _).mono fun e w' ⟨he, hw⟩ => ⟨he, hw ▸ Below.refl _ _⟩, fun w1 hb => (rblocks_none a cap _).mono fun e w' ⟨he, hw⟩ => ⟨he, hw ▸ Below.refl _ _⟩⟩
  by_cases h16 : len ≤ 16
  · by_cases hr : (g 0).size < 1 ∨ 8 < (g 0).size
    · exact Or.inl ⟨1, by decide, fun w1 hb => check_range b o len cap (g 0) _ h0 h16 (by simpa using cell_below hb (hcell 0 h0)) (hsz 0 h0) hr, fun w1 hb => (rblocks_range b o len cap (g 0) _ h0 h16 (by simpa using cell_below hb (hcell 0 h0)) (hsz 0 h0) hr).mono fun e w' ⟨he, hw⟩ => ⟨he, hw ▸ Below.refl _ _⟩⟩
    by_cases hq : ∃ q, q < len ∧ (g q).size ≠ (g 0).size
    · obtain ⟨q, hq, hne⟩ := hq
      exact Or.inl ⟨3, by decide, fun w1 hb => check_shape b o len cap g _ h0 h16 (fun i hi => cell_below hb (hcell i hi)) (by omega) (by omega) q hq hne, fun w1 hb => rblocks_shape b o len cap g _ h0 h16 (fun i hi => cell_below hb (hcell i hi)) hsz (by omega) (by omega) q hq hne⟩
    exact Or.inr ⟨b, o, cap, rfl, hlc, hcm, h0, h16, hcell, by omega, by omega, fun i hi => Classical.byContradiction fun hn => hq ⟨i, hi, hn⟩⟩
  · exact Or.inl ⟨4, by decide, fun w1 hb => (check_full _ len cap _ (by omega) (by omega)).mono fun e w' ⟨he, hw⟩ => ⟨he, hw ▸ Below.refl _ _⟩, fun w1 hb => (rblocks_full _ len cap _ (by omega) (by omega)).mono fun e w' ⟨he, hw⟩ => ⟨he, hw ▸ Below.refl _ _⟩⟩
end Go.Proofs.YtmmlcomfkikomaaDoor
