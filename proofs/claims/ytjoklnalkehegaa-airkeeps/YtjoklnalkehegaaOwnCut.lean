/-
  A row that a call owns, cut shorter or stored into; 'clear(s)' of elements of two cells. Lemmas for the laws above; no function is walked, and no statement is proved here.
-/
import Derived.Test.YtjoklnalkehegaaLstN
import Derived.Lib.SliceRun
namespace Go.Proofs.Ytjoklnalkehegaa
open Go.RowKit
set_option linter.unusedVariables false
set_option maxRecDepth 100000

theorem own_cut {w : World} {B e size g n cap : Nat} {xs : List Value} (h : w.ownsRow B e size (.slice (some ⟨g, 0, none⟩) n cap) n xs) {i : Nat} (hi : i ≤ n) : w.ownsRow B e size (.slice (some ⟨g, 0, none⟩) i cap) i (xs.take (i * size)) := by
  have hm : i * size ≤ n * size := Nat.mul_le_mul_right _ hi
  rcases h.2 with ⟨hv, _⟩ | ⟨g', cap', cur, hv, h1, h2, h3, h4, h5, h6⟩
  · cases hv
  · cases hv
    refine ⟨by rw [List.length_take, h.1]; omega, Or.inr ⟨g, cap, cur, rfl, h1, h2, by omega, h4, h5, ?_⟩⟩
    rw [← h6, List.take_take, Nat.min_eq_left hm]
theorem own_sets {B e size g n cap : Nat} : ∀ (vs : List Value) (o : Nat) (w : World) (xs : List Value), w.ownsRow B e size (.slice (some ⟨g, 0, none⟩) n cap) n xs → ∃ ys, (w.setCells g o vs).ownsRow B e size (.slice (some ⟨g, 0, none⟩) n cap) n ys ∧ ys.take o = xs.take o
  | [], o, w, xs, h => ⟨xs, h, rfl⟩
  | v :: r, o, w, xs, h => by
    obtain ⟨ys, h1, h2⟩ := own_sets r (o + 1) _ _ (h.stored o v).1
    refine ⟨ys, h1, ?_⟩
    have := congrArg (List.take o) h2
    rw [List.take_take, List.take_take, Nat.min_eq_left (Nat.le_succ o), List.take_set_of_le (Nat.le_refl _)] at this
    exact this
/-- 'clear(s)' of elements of two cells. -/
theorem run_clear_two {P : Program} (w : World) (t e ty : TypeId) (x y : Value) (ht : P.underlying t = some (.slice e)) (hv : ∀ w, (zeroValue e).run P w = .ok (.agg #[x, y]) w) (hz : (Value.agg #[x, y]).cells = #[x, y]) (h1 : x.oneCell' = true) (h2 : y.oneCell' = true) (b o n c : Nat) (hn : 0 < n)
    (hc : ∀ j, j < n * 2 → (w.cell? ⟨b, o + j, none⟩).isSome = true) (hf : ∀ j, j < n * 2 → w.frozen? ⟨b, o + j, none⟩ = false) :
    (Builtin.clear_ #[t] ty #[.slice (some ⟨b, o, none⟩) n c]).run P w = .ok (.tuple #[]) (w.setCells b o (Builtin.zeroCells #[x, y] n).toList) := by
  have hlen : (Builtin.zeroCells #[x, y] n).toList.length = n * 2 := by simp [Builtin.zeroCells]
  have hone : ∀ v ∈ (Builtin.zeroCells #[x, y] n).toList, v.oneCell' = true := fun v hv => by
    simp [Builtin.zeroCells] at hv
    obtain ⟨i, hi, rfl⟩ := hv
    rcases Nat.mod_two_eq_zero_or_one i with e | e <;> simp [e, h1, h2]
  have hst := run_storeCells_cells (P := P) b o (Builtin.zeroCells #[x, y] n).toList 0 w (by rw [hlen]; simpa using hc) (by rw [hlen]; simpa using hf) hone
  simp only [Nat.add_zero] at hst
  obtain ⟨m, rfl⟩ : ∃ m, n = m + 1 := ⟨n - 1, by omega⟩
  simp [Builtin.clear_, run_underlying ht, hv, hz, hst]
theorem kept_sets {M : Nat → Prop} {w0 : World} {g : Nat} : ∀ {w : World}, Kept M w0 w → ∀ (vs : List Value) (o : Nat), M g → Kept M w0 (w.setCells g o vs)
  | _, h, [], _, _ => h
  | _, h, v :: r, o, hm => kept_sets (h.setCell ⟨g, o, none⟩ v (Or.inl hm)) r (o + 1) hm
/-- A row with some cells written over from place o on. -/
def puts : List Value → Nat → List Value → List Value
  | xs, _, [] => xs
  | xs, o, v :: r => puts (xs.set o v) (o + 1) r
theorem own_puts {B e size g n cap : Nat} : ∀ (vs : List Value) (o : Nat) (w : World) (xs : List Value), w.ownsRow B e size (.slice (some ⟨g, 0, none⟩) n cap) n xs → (w.setCells g o vs).ownsRow B e size (.slice (some ⟨g, 0, none⟩) n cap) n (puts xs o vs)
  | [], o, w, xs, h => h
  | v :: r, o, w, xs, h => own_puts r (o + 1) _ _ (h.stored o v).1
theorem puts_eq : ∀ (vs : List Value) (o : Nat) (xs : List Value), o + vs.length ≤ xs.length → puts xs o vs = xs.take o ++ vs ++ xs.drop (o + vs.length)
  | [], o, xs, h => by simp [puts]
  | v :: r, o, xs, h => by
    have h' : o + (r.length + 1) ≤ xs.length := by simpa using h
    have ho : o < xs.length := by omega
    show puts (xs.set o v) (o + 1) r = _
    rw [puts_eq r (o + 1) (xs.set o v) (by rw [List.length_set]; omega)]
    have e1 : (xs.set o v).take (o + 1) = xs.take o ++ [v] := by
      rw [List.take_add_one, List.take_set_of_le (Nat.le_refl o)]
      simp [ho]
    have e2 : (xs.set o v).drop (o + 1 + r.length) = xs.drop (o + (v :: r).length) := by
      rw [List.drop_set_of_lt (by omega)]
      congr 1
      simp; omega
    rw [e1, e2, List.append_assoc, List.append_assoc, List.append_assoc]
    rfl
end Go.Proofs.Ytjoklnalkehegaa
