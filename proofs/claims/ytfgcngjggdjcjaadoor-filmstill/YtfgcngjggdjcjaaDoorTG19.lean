/-
  Lemmas for the law above, joined into one text (MvA, PicV). No statement is proved here.
-/
import Derived.Test.YtfgcngjggdjcjaaDoorTG5
import Derived.Test.YtfgcngjggdjcjaaDoorTG10
import Derived.Laws.Cover1
import Derived.Deep.DeepCutAuto
import Derived.Test.YtfgcngjggdjcjaaDoorTG8
namespace Go.Proofs.YtfgcngjggdjcjaaDoor
open Go.RowKit
set_option linter.unusedVariables false
set_option maxRecDepth 100000

set_option maxHeartbeats 1000000 in
theorem mapart_ok {w : World} {s s' : Value} {n : Nat} {f f' : Nat → Int} (h : IntsIn w s n f) (h' : IntsIn w s' n f') (h0 : 0 < n) (hn : n ≤ 36)
    (hf : ∀ i, i < n → 0 ≤ f i ∧ f i ≤ 255) (hf' : ∀ i, i < n → 0 ≤ f' i ∧ f' i ≤ 255) :
    Calls Tryd.prog 63 #[s, s'] w fun e w' => e = .returned (.int .i64 (sumN f f' n : Nat)) ∧ Below w.heap.size w w' := by
  obtain ⟨ad, oo, cap, rfl, hc⟩ : ∃ ad oo cap, s = .slice (some ⟨ad, oo, none⟩) n cap ∧ ∀ i, i < n → w.cell? ⟨ad, oo + i, none⟩ = some (.int .i64 (f i)) := by
    rcases h with ⟨h, _⟩ | ⟨_, b, o, c, rfl, hc⟩
    · omega
    · exact ⟨_, _, _, rfl, hc⟩
  obtain ⟨ad', oo', cap', rfl, hc'⟩ : ∃ ad oo cap, s' = .slice (some ⟨ad, oo, none⟩) n cap ∧ ∀ i, i < n → w.cell? ⟨ad, oo + i, none⟩ = some (.int .i64 (f' i)) := by
    rcases h' with ⟨h, _⟩ | ⟨_, b, o, c, rfl, hc⟩
    · omega
    · exact ⟨_, _, _, rfl, hc⟩
  have HC := hide hc
  have HC' := hide hc'
  have HP := hide hf
  have HP' := hide hf'
  have HB := hide (fun j (hj : j ≤ n) => sumN_le (f := f) (g := f') (n := j) (fun i hi => hf i (by omega)) (fun i hi => hf' i (by omega)))
  clear h h' hc hc' hf hf'
  go_enter Tryd.func63, Tryd.ntmps63
  go_wp2
  go_loopw [5, 9] (fun m i wr => ∃ j : Nat, j ≤ n ∧ i = .int .i64 j ∧ m = .int .i64 (sumN f f' j : Nat) ∧ Below w.heap.size w wr) (fun _ i _ => n - (intOf i).toNat)
  case atStart => exact ⟨0, Nat.zero_le _, rfl, rfl, Below.refl _ _⟩
  case round =>
    obtain ⟨j, hj, rfl, rfl, hb⟩ := hrel
    by_cases hlt : j < n
    · have l1 := cell_below hb (HC.out j hlt)
      have l2 := cell_below hb (HC'.out j hlt)
      obtain ⟨x0, x1⟩ := HP.out j hlt
      obtain ⟨y0, y1⟩ := HP'.out j hlt
      have hm := HB.out j hj
      have HM : Hid (sumN f f' (j + 1) = sumN f f' j + (f j - f' j).natAbs) := rfl
      generalize f j = x at *
      generalize f' j = y at *
      generalize sumN f f' j = m at *
      have hm2 : m ≤ 9180 := by omega
      clear hm
      go_wp2_with fail
      go_quiet (fail)
      go_wp2
      all_goals
        go_roundw
        case rel =>
          refine ⟨j + 1, by omega, by go_num, ?_, below_drewN hb _⟩
          rw [HM.out]
          congr 1
          have e : ((m + (x - y).natAbs : Nat) : Int) = (m : Int) + max (x - y) (y - x) := by omega
          rw [e]
          first | omega | ((repeat' split) <;> omega)
        case measure => simp [intOf]; omega
    · obtain rfl : j = n := by omega
      go_wp2
      go_ret
      exact ⟨rfl, hb⟩
end Go.Proofs.YtfgcngjggdjcjaaDoor

namespace Go.Proofs.YtfgcngjggdjcjaaDoor
open Go.RowKit
set_option linter.unusedVariables false
set_option maxRecDepth 100000

/-- A block that holds a Move. -/
def MoveIn (w : World) (b : Nat) (x y : Int) : Prop := w.cell? ⟨b, 0, none⟩ = some (.int .i64 x) ∧ w.cell? ⟨b, 1, none⟩ = some (.int .i64 y)
theorem moveIn_new (w : World) (x y : Int) : MoveIn (w.alloc (.cells #[.int .i64 x, .int .i64 y] 43)) w.heap.size x y := ⟨by simp, by simp⟩
theorem MoveIn.below {w w' : World} {b : Nat} {x y : Int} (h : MoveIn w b x y) (hb : Below w.heap.size w w') : MoveIn w' b x y := ⟨cell_below hb h.1, cell_below hb h.2⟩
theorem MoveIn.mono {w w' : World} {B b : Nat} {x y : Int} (h : MoveIn w b x y) (hb : Below B w w') (hlt : b < B) : MoveIn w' b x y := ⟨(hb.cell hlt).trans h.1, (hb.cell hlt).trans h.2⟩
theorem MoveIn.setOther {w : World} {b b2 o : Nat} {x y : Int} (h : MoveIn w b x y) (hne : b ≠ b2) (u : Value) : MoveIn (w.setCell ⟨b2, o, none⟩ u) b x y := by
  refine ⟨?_, ?_⟩
  · rw [World.cell?_setCell_other _ _ _ _ (fun e => hne (by cases e; rfl))]; exact h.1
  · rw [World.cell?_setCell_other _ _ _ _ (fun e => hne (by cases e; rfl))]; exact h.2
end Go.Proofs.YtfgcngjggdjcjaaDoor
