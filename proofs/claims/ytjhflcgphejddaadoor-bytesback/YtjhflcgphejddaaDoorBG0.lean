/-
  Lemmas for the law above, joined into one text (Base, IntsD, PicA). No statement is proved here.
-/
import Derived.Test.YtjhflcgphejddaaDoorRows
import Derived.WalkKit
import Derived.WalkSpells
import Derived.WalkLawsBesides
import Derived.ProofKit
import Derived.OpenShut
import Derived.ChangeSlices
import Derived.Lib.SmallJoins
namespace Go.Proofs.YtjhflcgphejddaaDoor
open Go.RowKit
set_option linter.unusedVariables false
set_option maxRecDepth 100000

theorem hide {p : Prop} (h : p) : Hid p := h
theorem ret_int {k : IntKind} {a b : Int} (h : a = b) : Ending.returned (.int k a) = .returned (.int k b) := by rw [h]
theorem ret_bool {a b : Bool} (h : a = b) : Ending.returned (.bool a) = .returned (.bool b) := by rw [h]
theorem ret_two {a a' b b' : Value} (h : a = a') (h' : b = b') : Ending.returned (.tuple #[a, b]) = .returned (.tuple #[a', b']) := by rw [h, h']
theorem cell_lt {w : World} {a : Addr} {v : Value} (h : w.cell? a = some v) : a.block < w.heap.size := by
  rcases Nat.lt_or_ge a.block w.heap.size with h' | h'
  · exact h'
  · simp [World.cell?, Array.getElem?_eq_none h'] at h
theorem cell_below {w w1 : World} {a : Addr} {v : Value} (hb : Below w.heap.size w w1) (h : w.cell? a = some v) : w1.cell? a = some v :=
  (hb.cell (p := a) (cell_lt h)).trans h
/-- Two calls, one behind the other. -/
theorem below_two {w w1 w2 : World} (h : Below w.heap.size w w1) (k : Below w1.heap.size w1 w2) : Below w.heap.size w w2 := h.trans (k.mono h.size)
theorem below_drewN {B : Nat} {a w : World} (h : Below B a w) (n : Nat) : Below B a (w.drewN n) := h.trans ⟨rfl, rfl, rfl, Nat.le_refl _, fun _ _ => rfl⟩
theorem Tryd.infoStr : (Tryd.prog.info? 9).map (fun i => (i.zero, i.size, i.bytes)) = some (some (.string ⟨#[]⟩), 1, 16) := by kernel_rfl
end Go.Proofs.YtjhflcgphejddaaDoor

namespace Go.Proofs.YtjhflcgphejddaaDoor
open Go.RowKit
set_option linter.unusedVariables false
set_option maxRecDepth 100000

/-- A slice that holds the numbers f 0, .., f (n-1). -/
def IntsIn (w : World) (v : Value) (n : Nat) (f : Nat → Int) : Prop :=
  (n = 0 ∧ ∃ a cap, v = .slice a 0 cap) ∨ (0 < n ∧ ∃ b o cap, v = .slice (some ⟨b, o, none⟩) n cap ∧ ∀ i, i < n → w.cell? ⟨b, o + i, none⟩ = some (.int .i64 (f i)))
theorem IntsIn.below {w w' : World} {v : Value} {n : Nat} {f : Nat → Int} (h : IntsIn w v n f) (hb : Below w.heap.size w w') : IntsIn w' v n f := by
  rcases h with h | ⟨h0, b, o, cap, rfl, hc⟩
  · exact Or.inl h
  · exact Or.inr ⟨h0, b, o, cap, rfl, fun i hi => cell_below hb (hc i hi)⟩
theorem IntsIn.congr {w : World} {v : Value} {n : Nat} {f g : Nat → Int} (h : IntsIn w v n f) (e : ∀ i, i < n → f i = g i) : IntsIn w v n g := by
  rcases h with h | ⟨h0, b, o, cap, rfl, hc⟩
  · exact Or.inl h
  · exact Or.inr ⟨h0, b, o, cap, rfl, fun i hi => by rw [← e i hi]; exact hc i hi⟩
end Go.Proofs.YtjhflcgphejddaaDoor

namespace Go.Proofs.YtjhflcgphejddaaDoor
open Go.ChangeShapes Go.WideShapes Go.ChangeAt Go.RowKit Go.Joins
set_option linter.unusedVariables false
set_option maxRecDepth 100000

theorem cellsInt' : Tryd.prog.cellsOf 3 = 1 := by kernel_rfl

/-- A slice of ints by its own cells. -/
theorem open_intsIn {H : Type} {enc : TypeId × Value → H} {W : World} {v : Value} {fuel : Nat} {x : DataW H × List MemPlace}
    (hf : DataW.trod enc Tryd.prog W 0 (fun _ => true) true fuel 36 [v] = some x) : ∃ n f, IntsIn W v n f := by
  rcases open_ints Tryd.underlying36 Tryd.underlying3 cellsInt' hf with ⟨hcs, hx⟩ | ⟨a, len', cap', ss, hcs, _, hl, hm, hz, hx, hcell, hws⟩
  · simp at hcs
    subst hcs
    exact ⟨0, fun _ => 0, Or.inl ⟨rfl, none, 0, rfl⟩⟩
  · simp at hcs
    subst hcs
    simp only [if_true] at hz
    by_cases h0 : len' = 0
    · subst h0
      exact ⟨0, fun _ => 0, Or.inl ⟨rfl, some a, cap', rfl⟩⟩
    · obtain ⟨b, off, spot⟩ := a
      have hspot : spot = none := by simpa [Addr.add] using World.cell?_spot (hcell 0 (by omega))
      subst hspot
      refine ⟨len', fun i => ss.getD i 0, Or.inr ⟨by omega, b, off, cap', rfl, fun i hi => ?_⟩⟩
      rw [← add_plain]; exact hcell i (by omega)

theorem open_picAt {H : Type} {enc : TypeId × Value → H} {W : World} {base : Nat} {v : Value} {d : DataW H} {p : List MemPlace}
    (hv : Value.okWide Tryd.prog W .any base 46 v) (h : DataW.Trod enc Tryd.prog W 0 (fun _ => true) true 46 v d p) : ∃ a b s n f, v = .agg #[.int .i64 a, .int .i64 b, s] ∧ IntsIn W s n f := by
  obtain ⟨v0, v1, v2, y0, y1, y2, m, rfl, rfl, rfl, h0, h1, h2⟩ := open_agg3 Tryd.underlying46 (by kernel_rfl) (show Tryd.prog.cellsOf 46 = 3 by kernel_rfl) hv h
  obtain ⟨a, e0, _, _⟩ := DataW.trod_int Tryd.underlying3 h0
  obtain ⟨b, e1, _, _⟩ := DataW.trod_int Tryd.underlying3 h1
  obtain ⟨n, f, hi⟩ := open_intsIn h2
  simp at e0 e1
  subst e0 e1
  exact ⟨a, b, v2, n, f, rfl, hi⟩

end Go.Proofs.YtjhflcgphejddaaDoor
