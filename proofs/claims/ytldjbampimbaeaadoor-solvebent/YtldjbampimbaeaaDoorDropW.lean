/-
  The ways of drop.Make over any slice of strings and any seed; a set of one. Lemmas for the laws above; no statement is proved here.
-/
import Derived.Test.YtldjbampimbaeaaDoorDropM
import Derived.Test.YtldjbampimbaeaaDoorFrame
namespace Go.Proofs.YtldjbampimbaeaaDoor
open Go.RowKit Go.Maps
set_option linter.unusedVariables false
set_option maxRecDepth 100000

/-- Blocks, as they lie. -/
structure Blks (w : World) (b o len : Nat) (g : Nat → ByteArray) : Prop where
  pos : 0 < len
  most : len ≤ 16
  cells : ∀ i, i < len → w.cell? ⟨b, o + i, none⟩ = some (.string (g i))
  one : 1 ≤ (g 0).size
  eight : (g 0).size ≤ 8
  same : ∀ i, i < len → (g i).size = (g 0).size
theorem Blks.below {w w' : World} {b o len : Nat} {g : Nat → ByteArray} (h : Blks w b o len g) (hb : Below w.heap.size w w') : Blks w' b o len g :=
  ⟨h.pos, h.most, fun i hi => cell_below hb (h.cells i hi), h.one, h.eight, h.same⟩

/-- Blocks, or a fault of them. -/
theorem check_ways {w : World} {v : Value} {len : Nat} {g : Nat → ByteArray} (hv : StrsAt w v len g) :
    (∃ x : Int, ∀ w1, Below w.heap.size w w1 → Calls Tryd.prog 28 #[v] w1 fun e w' => e = .returned (.iface 52 (.int .i64 x)) ∧ Below w1.heap.size w1 w') ∨
    ∃ b o cap, v = .slice (some ⟨b, o, none⟩) len cap ∧ len ≤ cap ∧ cap ≤ maxLen ∧ Blks w b o len g := by
  rcases hv with ⟨rfl, a, cap, rfl⟩ | ⟨h0, b, o, cap, rfl, hlc, hcm, hcell, hsz⟩
  · exact Or.inl ⟨5, fun w1 hb => (check_none a cap _).mono fun e w' ⟨he, hw⟩ => ⟨he, hw ▸ Below.refl _ _⟩⟩
  by_cases h16 : len ≤ 16
  · by_cases hr : (g 0).size < 1 ∨ 8 < (g 0).size
    · exact Or.inl ⟨1, fun w1 hb => check_range b o len cap (g 0) _ h0 h16 (by simpa using cell_below hb (hcell 0 h0)) (hsz 0 h0) hr⟩
    by_cases hq : ∃ q, q < len ∧ (g q).size ≠ (g 0).size
    · obtain ⟨q, hq, hne⟩ := hq
      exact Or.inl ⟨3, fun w1 hb => check_shape b o len cap g _ h0 h16 (fun i hi => cell_below hb (hcell i hi)) (by omega) (by omega) q hq hne⟩
    exact Or.inr ⟨b, o, cap, rfl, hlc, hcm, h0, h16, hcell, by omega, by omega, fun i hi => Classical.byContradiction fun hn => hq ⟨i, hi, hn⟩⟩
  · exact Or.inl ⟨4, fun w1 hb => (check_full _ len cap _ (by omega) (by omega)).mono fun e w' ⟨he, hw⟩ => ⟨he, hw ▸ Below.refl _ _⟩⟩

/-- A drop is made, or a fault is told. -/
theorem make_ways {w : World} {v : Value} {len : Nat} {g : Nat → ByteArray} (hv : StrsAt w v len g) (seed : Int) :
    (∃ x : Int, ∀ w1, Below w.heap.size w w1 → Calls Tryd.prog 12 #[v, .int .i64 seed] w1 fun e w' => e = .returned (.tuple #[dropV 0 ⟨#[]⟩, .iface 52 (.int .i64 x)]) ∧ Below w1.heap.size w1 w') ∨
    ∃ b o cap, ∃ n : Nat, v = .slice (some ⟨b, o, none⟩) len cap ∧ len ≤ cap ∧ cap ≤ maxLen ∧ Blks w b o len g ∧ seed = (n : Int) ∧ 1 ≤ n ∧ n ≤ 10000 ∧
      ∀ w1, Below w.heap.size w w1 → Calls Tryd.prog 12 #[v, .int .i64 seed] w1 fun e w' => e = .returned (.tuple #[dropV n (dropB g len n), .nilIface]) ∧ Below w1.heap.size w1 w' := by
  rcases check_ways hv with ⟨x, hx⟩ | ⟨b, o, cap, rfl, hlc, hcm, hB⟩
  · exact Or.inl ⟨x, fun w1 hb => make_check v seed w1 x (fun w2 hb2 => hx w2 (below_two hb hb2))⟩
  · by_cases hs : 1 ≤ seed ∧ seed ≤ 10000
    · obtain ⟨n, rfl⟩ := Int.eq_ofNat_of_zero_le (show 0 ≤ seed by omega)
      exact Or.inr ⟨b, o, cap, n, rfl, hlc, hcm, hB, rfl, by omega, by omega, fun w1 hb => make_ok b o len cap g n w1 hB.pos hB.most (hB.below hb).cells hB.one hB.eight hB.same (by omega) (by omega)⟩
    · exact Or.inl ⟨1, fun w1 hb => make_seed b o len cap g seed w1 hB.pos hB.most (hB.below hb).cells hB.one hB.eight hB.same (by omega)⟩

/-- The set of a seed that is of one block. -/
theorem set_one (k seed : Nat) (hk2 : k ≤ 16) (h1 : 1 ≤ seed) (h2 : seed ≤ k) (w : World) :
    Calls Tryd.prog 29 #[.int .i64 k, .int .i64 seed] w fun e w' => ∃ p cap, e = .returned (.tuple #[.slice (some ⟨p, 0, none⟩) 1 cap, .nilIface]) ∧ w'.cell? ⟨p, 0 + 0, none⟩ = some (.int .i64 ((seed - 1 : Nat) : Int)) ∧ 1 ≤ cap ∧ cap ≤ maxLen ∧ Below w.heap.size w w' := by
  refine (set_ok k seed w (by omega) hk2 h1 (by omega)).mono ?_
  rintro e w' ⟨v, rfl, ⟨p, cap, rfl, hc1, hc2, hc⟩, hb⟩
  rw [setL_one h2] at hc hc1 ⊢
  exact ⟨p, cap, rfl, by simpa using hc 0 (by simp), hc1, hc2, hb⟩
theorem dropB_one {g : Nat → ByteArray} {len seed : Nat} (h1 : 1 ≤ seed) (h2 : seed ≤ len) (hs : (g (seed - 1)).size = (g 0).size) : dropB g len seed = g (seed - 1) := by
  unfold dropB
  rw [setL_one h2]
  refine bytesB_eq _ _ _ hs fun i hi => ?_
  simp [xsum]
end Go.Proofs.YtldjbampimbaeaaDoor
