/-
  Lemmas for the law above, joined into one text (Base, IntsD). No statement is proved here.
-/
import Derived.Test.YtfgcngjggdjcjaaDoorRows
import Derived.WalkKit
import Derived.WalkSpells
import Derived.WalkLawsBesides
namespace Go.Proofs.YtfgcngjggdjcjaaDoor
open Go.RowKit
set_option linter.unusedVariables false
set_option maxRecDepth 100000

theorem hide {p : Prop} (h : p) : Hid p := h
theorem ret_int {k : IntKind} {a b : Int} (h : a = b) : Ending.returned (.int k a) = .returned (.int k b) := by rw [h]
theorem ret_bool {a b : Bool} (h : a = b) : Ending.returned (.bool a) = .returned (.bool b) := by rw [h]
theorem ret_two {a a' b b' : Value} (h : a = a') (h' : b = b') : Ending.returned (.tuple #[a, b]) = .returned (.tuple #[a', b']) := by rw [h, h']
theorem cell_lt {w : World} {a : Addr} {v : Value} (h : w.cell? a = some v) : a.block < w.heap.size := by
  rcases Nat.lt_or_ge a.block w.heap.size with h' | h'
  · exact h'
  · simp [World.cell?, Array.getElem?_eq_none h'] at h
theorem cell_below {w w1 : World} {a : Addr} {v : Value} (hb : Below w.heap.size w w1) (h : w.cell? a = some v) : w1.cell? a = some v :=
  (hb.cell (p := a) (cell_lt h)).trans h
/-- Two calls, one behind the other. -/
theorem below_two {w w1 w2 : World} (h : Below w.heap.size w w1) (k : Below w1.heap.size w1 w2) : Below w.heap.size w w2 := h.trans (k.mono h.size)
theorem below_drewN {B : Nat} {a w : World} (h : Below B a w) (n : Nat) : Below B a (w.drewN n) := h.trans ⟨rfl, rfl, rfl, Nat.le_refl _, fun _ _ => rfl⟩
theorem Tryd.infoStr : (Tryd.prog.info? 9).map (fun i => (i.zero, i.size, i.bytes)) = some (some (.string ⟨#[]⟩), 1, 16) := by kernel_rfl
end Go.Proofs.YtfgcngjggdjcjaaDoor

namespace Go.Proofs.YtfgcngjggdjcjaaDoor
open Go.RowKit
set_option linter.unusedVariables false
set_option maxRecDepth 100000

/-- A slice that holds the numbers f 0, .., f (n-1). -/
def IntsIn (w : World) (v : Value) (n : Nat) (f : Nat → Int) : Prop :=
  (n = 0 ∧ ∃ a cap, v = .slice a 0 cap) ∨ (0 < n ∧ ∃ b o cap, v = .slice (some ⟨b, o, none⟩) n cap ∧ ∀ i, i < n → w.cell? ⟨b, o + i, none⟩ = some (.int .i64 (f i)))
theorem IntsIn.below {w w' : World} {v : Value} {n : Nat} {f : Nat → Int} (h : IntsIn w v n f) (hb : Below w.heap.size w w') : IntsIn w' v n f := by
  rcases h with h | ⟨h0, b, o, cap, rfl, hc⟩
  · exact Or.inl h
  · exact Or.inr ⟨h0, b, o, cap, rfl, fun i hi => cell_below hb (hc i hi)⟩
theorem IntsIn.congr {w : World} {v : Value} {n : Nat} {f g : Nat → Int} (h : IntsIn w v n f) (e : ∀ i, i < n → f i = g i) : IntsIn w v n g := by
  rcases h with h | ⟨h0, b, o, cap, rfl, hc⟩
  · exact Or.inl h
  · exact Or.inr ⟨h0, b, o, cap, rfl, fun i hi => by rw [← e i hi]; exact hc i hi⟩
end Go.Proofs.YtfgcngjggdjcjaaDoor
