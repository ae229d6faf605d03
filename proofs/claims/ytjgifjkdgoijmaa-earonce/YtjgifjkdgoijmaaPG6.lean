/-
  Lemmas for the law above, joined into one text (DropI, Fits). No statement is proved here.
-/
import Derived.Test.YtjgifjkdgoijmaaPG0
namespace Go.Proofs.Ytjgifjkdgoijmaa
open Go.RowKit
set_option linter.unusedVariables false
set_option maxRecDepth 100000

/-- A Drop. -/
def dropV (seed : Int) (s : ByteArray) : Value := .agg #[.int .i64 seed, .string s]

/-- A block that holds a Drop, none of it frozen. -/
def DropIn (w : World) (b : Nat) (seed : Int) (s : ByteArray) : Prop :=
  (w.cell? ⟨b, 0, none⟩ = some (.int .i64 seed) ∧ w.frozen? ⟨b, 0, none⟩ = false) ∧ w.cell? ⟨b, 0 + 1, none⟩ = some (.string s) ∧ w.frozen? ⟨b, 0 + 1, none⟩ = false
theorem dropIn_new (w : World) (seed : Int) (s : ByteArray) : DropIn (w.alloc (.cells #[.int .i64 seed, .string s] 28)) w.heap.size seed s :=
  ⟨⟨by simp, by simp only [World.frozen?, (MapKept.heap_alloc w _).1]; simp⟩, by simp, by simp only [World.frozen?, (MapKept.heap_alloc w _).1]; simp⟩
theorem DropIn.lt {w : World} {b : Nat} {seed : Int} {s : ByteArray} (h : DropIn w b seed s) : b < w.heap.size := cell_lt h.1.1
theorem DropIn.below {w w' : World} {b : Nat} {seed : Int} {s : ByteArray} (h : DropIn w b seed s) (hb : Below w.heap.size w w') : DropIn w' b seed s :=
  ⟨⟨(hb.cell h.lt).trans h.1.1, (hb.frozen h.lt).trans h.1.2⟩, (hb.cell h.lt).trans h.2.1, (hb.frozen h.lt).trans h.2.2⟩
end Go.Proofs.Ytjgifjkdgoijmaa

namespace Go.Proofs.Ytjgifjkdgoijmaa
open Go.RowKit
set_option linter.unusedVariables false
set_option maxRecDepth 100000

theorem fits_yes (z : Int) (w : World) (h1 : 1 ≤ z) (h8 : z ≤ 8) :
    Calls Try.prog 9 #[.int .i64 z] w fun e w' => e = .returned (.bool true) ∧ w = w' := by
  go_enter Try.func9, Try.ntmps9
  go_wp2
  go_ret
  exact ⟨rfl, rfl⟩
theorem fits_no (z : Int) (w : World) (h : z < 1 ∨ 8 < z) :
    Calls Try.prog 9 #[.int .i64 z] w fun e w' => e = .returned (.bool false) ∧ w = w' := by
  rcases h with h | h
  · have h' : ¬ 1 ≤ z := by omega
    go_enter Try.func9, Try.ntmps9
    go_wp2
    go_ret
    exact ⟨rfl, rfl⟩
  · have h' : ¬ z ≤ 8 := by omega
    have h1 : 1 ≤ z := by omega
    go_enter Try.func9, Try.ntmps9
    go_wp2
    go_ret
    exact ⟨rfl, rfl⟩
end Go.Proofs.Ytjgifjkdgoijmaa
