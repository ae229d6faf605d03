/-
  Our own contract of guard.mended over this seat's translation. Lemmas for the laws above; no statement is proved here.
-/
import Derived.Test.YtmmlcomfkikomaaDoorGdAdd
import Derived.Test.YtmmlcomfkikomaaDoorGdDel
import Derived.Deep.AppendLies
namespace Go.Proofs.YtmmlcomfkikomaaDoor
open Go.RowKit
set_option linter.unusedVariables false
set_option maxRecDepth 100000

/-- Of a group, with its own behind, those that lack; the one place that is to be told; what belongs there; the fault. -/
def mGone (lk : Nat → Bool) (of : List Nat) (bh : Nat) : List Nat := (of ++ [bh]).filter lk
def mPl (lk : Nat → Bool) (of : List Nat) (bh : Nat) : Nat := (mGone lk of bh).getD 0 bh
def mRest (lk : Nat → Bool) (of : List Nat) (bh : Nat) : List Nat := (of ++ [bh]).filter fun r => !(r == mPl lk of bh)
def mDat (g : Nat → ByteArray) (lk : Nat → Bool) (of : List Nat) (bh : Nat) : ByteArray := sumL g (mRest lk of bh)
open Classical in
noncomputable def mFlt (g : Nat → ByteArray) (lk : Nat → Bool) (of : List Nat) (bh : Nat) : Nat :=
  if 1 < (mGone lk of bh).length then 8 else if (mGone lk of bh).length = 0 ∧ mDat g lk of bh ≠ g bh then 7 else 0
open Classical in
/-- What mended answers. -/
noncomputable def mRes (g : Nat → ByteArray) (lk : Nat → Bool) (of : List Nat) (bh : Nat) : Value :=
  if mFlt g lk of bh = 0 then .tuple #[.int .i64 (mPl lk of bh : Nat), .string (mDat g lk of bh), .nilIface]
  else .tuple #[.int .i64 0, .string ⟨#[]⟩, .iface 42 (.int .i64 (mFlt g lk of bh : Nat))]

theorem mended1_ok (r bl lb lo len lcap : Nat) (u : Bool) (W : World) (hr : r < len) (hl : len ≤ 16) (hc : W.cell? ⟨bl, 0, none⟩ = some (.slice (some ⟨lb, lo, none⟩) len lcap))
    (hu : W.cell? ⟨lb, lo + r, none⟩ = some (.bool u)) :
    Calls Tryd.prog 34 #[.int .i64 (r : Nat), .pointer (some ⟨bl, 0, none⟩)] W fun e w' => e = .returned (.bool (!u)) ∧ Below W.heap.size W w' := by
  go_enter Tryd.func34, Tryd.ntmps34
  go_wp2
  go_ret
  exact ⟨rfl, Below.refl _ _⟩
theorem mended2_ok (r p bp : Nat) (W : World) (hc : W.cell? ⟨bp, 0, none⟩ = some (.int .i64 (p : Nat))) :
    Calls Tryd.prog 35 #[.int .i64 (r : Nat), .pointer (some ⟨bp, 0, none⟩)] W fun e w' => e = .returned (.bool (r == p)) ∧ Below W.heap.size W w' := by
  have hq : ((r : Int) == (p : Int)) = (r == p) := by
    rw [Bool.eq_iff_iff]; simp; omega
  generalize (r == p) = q at *
  go_enter Tryd.func35, Tryd.ntmps35
  go_wp2
  go_ret
  exact ⟨rfl, Below.refl _ _⟩

theorem Kept.cellAt {M : Nat → Prop} {w w' : World} {a : Addr} {v : Value} (h : Kept M w w') (hc : w.cell? a = some v) (hm : ¬ M a.block) : w'.cell? a = some v := by
  obtain ⟨o, ho, _⟩ := cells_of_cell hc
  rw [World.cell?_of_block (w := w) (w' := w') (h.block _ (Array.getElem?_eq_some_iff.1 ho).1 hm)]
  exact hc
end Go.Proofs.YtmmlcomfkikomaaDoor
