/-
  Lemmas for the law above, joined into one text (CodB, MvA). No statement is proved here.
-/
import Derived.Test.YtcicoblejaippaaDoorTG3
import Derived.Test.YtcicoblejaippaaDoorTG10
import Derived.Test.YtcicoblejaippaaDoorTG4
import Derived.Laws.Cover1
import Derived.Deep.DeepCutAuto
namespace Go.Proofs.YtcicoblejaippaaDoor
open Go.RowKit
set_option linter.unusedVariables false
set_option maxRecDepth 100000

/-- A block that holds a Coded, none of it frozen. -/
structure CodIn (w : World) (b : Nat) (al : Bool) (x y : Int) (s : Value) : Prop where
  c0 : w.cell? ⟨b, 0, none⟩ = some (.bool al)
  c1 : w.cell? ⟨b, 1, none⟩ = some (.int .i64 x)
  c2 : w.cell? ⟨b, 2, none⟩ = some (.int .i64 y)
  c3 : w.cell? ⟨b, 3, none⟩ = some s
  g0 : w.frozen? ⟨b, 0, none⟩ = false
  g1 : w.frozen? ⟨b, 1, none⟩ = false
  g2 : w.frozen? ⟨b, 2, none⟩ = false
  g3 : w.frozen? ⟨b, 3, none⟩ = false
theorem codIn_new (w : World) (al : Bool) (x y : Int) (s : Value) : CodIn (w.alloc (.cells #[.bool al, .int .i64 x, .int .i64 y, s] 28)) w.heap.size al x y s :=
  ⟨by simp, by simp, by simp, by simp, by simp only [World.frozen?, (MapKept.heap_alloc w _).1]; simp, by simp only [World.frozen?, (MapKept.heap_alloc w _).1]; simp, by simp only [World.frozen?, (MapKept.heap_alloc w _).1]; simp, by simp only [World.frozen?, (MapKept.heap_alloc w _).1]; simp⟩
theorem CodIn.lt {w : World} {b : Nat} {al : Bool} {x y : Int} {s : Value} (h : CodIn w b al x y s) : b < w.heap.size := cell_lt h.c0
theorem CodIn.mono {w w' : World} {B b : Nat} {al : Bool} {x y : Int} {s : Value} (h : CodIn w b al x y s) (hb : Below B w w') (hlt : b < B) : CodIn w' b al x y s :=
  ⟨(hb.cell hlt).trans h.c0, (hb.cell hlt).trans h.c1, (hb.cell hlt).trans h.c2, (hb.cell hlt).trans h.c3, (hb.frozen hlt).trans h.g0, (hb.frozen hlt).trans h.g1, (hb.frozen hlt).trans h.g2, (hb.frozen hlt).trans h.g3⟩
theorem CodIn.below {w w' : World} {b : Nat} {al : Bool} {x y : Int} {s : Value} (h : CodIn w b al x y s) (hb : Below w.heap.size w w') : CodIn w' b al x y s := h.mono hb h.lt
theorem CodIn.setOther {w : World} {b b2 o : Nat} {al : Bool} {x y : Int} {s : Value} (h : CodIn w b al x y s) (hne : b ≠ b2) (u : Value) : CodIn (w.setCell ⟨b2, o, none⟩ u) b al x y s := by
  refine ⟨?_, ?_, ?_, ?_, by rw [World.frozen?_setCell]; exact h.g0, by rw [World.frozen?_setCell]; exact h.g1, by rw [World.frozen?_setCell]; exact h.g2, by rw [World.frozen?_setCell]; exact h.g3⟩
  · rw [World.cell?_setCell_other _ _ _ _ (fun e => hne (by cases e; rfl))]; exact h.c0
  · rw [World.cell?_setCell_other _ _ _ _ (fun e => hne (by cases e; rfl))]; exact h.c1
  · rw [World.cell?_setCell_other _ _ _ _ (fun e => hne (by cases e; rfl))]; exact h.c2
  · rw [World.cell?_setCell_other _ _ _ _ (fun e => hne (by cases e; rfl))]; exact h.c3
theorem CodIn.setRest {w : World} {b : Nat} {al : Bool} {x y : Int} {s : Value} (h : CodIn w b al x y s) (u : Value) : CodIn (w.setCell ⟨b, 3, none⟩ u) b al x y u := by
  refine ⟨?_, ?_, ?_, World.cell?_setCell_same _ _ _ h.c3, by rw [World.frozen?_setCell]; exact h.g0, by rw [World.frozen?_setCell]; exact h.g1, by rw [World.frozen?_setCell]; exact h.g2, by rw [World.frozen?_setCell]; exact h.g3⟩
  · rw [World.cell?_setCell_other _ _ _ _ (fun e => by cases e)]; exact h.c0
  · rw [World.cell?_setCell_other _ _ _ _ (fun e => by cases e)]; exact h.c1
  · rw [World.cell?_setCell_other _ _ _ _ (fun e => by cases e)]; exact h.c2
theorem CodIn.setAlone {w : World} {b : Nat} {al : Bool} {x y : Int} {s : Value} (h : CodIn w b al x y s) (al' : Bool) : CodIn (w.setCell ⟨b, 0, none⟩ (.bool al')) b al' x y s := by
  refine ⟨World.cell?_setCell_same _ _ _ h.c0, ?_, ?_, ?_, by rw [World.frozen?_setCell]; exact h.g0, by rw [World.frozen?_setCell]; exact h.g1, by rw [World.frozen?_setCell]; exact h.g2, by rw [World.frozen?_setCell]; exact h.g3⟩
  · rw [World.cell?_setCell_other _ _ _ _ (fun e => by cases e)]; exact h.c1
  · rw [World.cell?_setCell_other _ _ _ _ (fun e => by cases e)]; exact h.c2
  · rw [World.cell?_setCell_other _ _ _ _ (fun e => by cases e)]; exact h.c3
theorem CodIn.put {w : World} {b : Nat} {al : Bool} {x y : Int} {s : Value} (h : CodIn w b al x y s) (al' : Bool) (x' y' : Int) (s' : Value) :
    CodIn ((((w.setCell ⟨b, 0, none⟩ (.bool al')).setCell ⟨b, 1, none⟩ (.int .i64 x')).setCell ⟨b, 2, none⟩ (.int .i64 y')).setCell ⟨b, 3, none⟩ s') b al' x' y' s' := by
  have n01 : (⟨b, 0, none⟩ : Addr) ≠ ⟨b, 1, none⟩ := fun e => by cases e
  have n02 : (⟨b, 0, none⟩ : Addr) ≠ ⟨b, 2, none⟩ := fun e => by cases e
  have n03 : (⟨b, 0, none⟩ : Addr) ≠ ⟨b, 3, none⟩ := fun e => by cases e
  have n12 : (⟨b, 1, none⟩ : Addr) ≠ ⟨b, 2, none⟩ := fun e => by cases e
  have n13 : (⟨b, 1, none⟩ : Addr) ≠ ⟨b, 3, none⟩ := fun e => by cases e
  have n23 : (⟨b, 2, none⟩ : Addr) ≠ ⟨b, 3, none⟩ := fun e => by cases e
  have k0 := h.setAlone al'
  refine ⟨?_, ?_, ?_, ?_, by rw [World.frozen?_setCell, World.frozen?_setCell, World.frozen?_setCell, World.frozen?_setCell]; exact h.g0, by rw [World.frozen?_setCell, World.frozen?_setCell, World.frozen?_setCell, World.frozen?_setCell]; exact h.g1, by rw [World.frozen?_setCell, World.frozen?_setCell, World.frozen?_setCell, World.frozen?_setCell]; exact h.g2, by rw [World.frozen?_setCell, World.frozen?_setCell, World.frozen?_setCell, World.frozen?_setCell]; exact h.g3⟩
  · rw [World.cell?_setCell_other _ _ _ _ (by first | exact n03 | exact n03.symm), World.cell?_setCell_other _ _ _ _ (by first | exact n02 | exact n02.symm), World.cell?_setCell_other _ _ _ _ (by first | exact n01 | exact n01.symm)]; exact k0.c0
  · rw [World.cell?_setCell_other _ _ _ _ (by first | exact n13 | exact n13.symm), World.cell?_setCell_other _ _ _ _ (by first | exact n12 | exact n12.symm), World.cell?_setCell_same _ _ _ k0.c1]
  · rw [World.cell?_setCell_other _ _ _ _ (by first | exact n23 | exact n23.symm)]
    have e : ((w.setCell ⟨b, 0, none⟩ (.bool al')).setCell ⟨b, 1, none⟩ (.int .i64 x')).cell? ⟨b, 2, none⟩ = some (.int .i64 y) := by
      rw [World.cell?_setCell_other _ _ _ _ (by first | exact n12 | exact n12.symm)]; exact k0.c2
    exact World.cell?_setCell_same _ _ _ e
  · have e : (((w.setCell ⟨b, 0, none⟩ (.bool al')).setCell ⟨b, 1, none⟩ (.int .i64 x')).setCell ⟨b, 2, none⟩ (.int .i64 y')).cell? ⟨b, 3, none⟩ = some s := by
      rw [World.cell?_setCell_other _ _ _ _ (by first | exact n23 | exact n23.symm), World.cell?_setCell_other _ _ _ _ (by first | exact n13 | exact n13.symm)]; exact k0.c3
    exact World.cell?_setCell_same _ _ _ e
theorem ints_set {w : World} {b o : Nat} {v : Value} {n : Nat} {f : Nat → Int} (h : IntsIn w v n f) (hv : ∀ k, v.ownBlock = some k → k ≠ b) (u : Value) : IntsIn (w.setCell ⟨b, o, none⟩ u) v n f := by
  rcases h with h | ⟨h0, g, og, c, rfl, hc⟩
  · exact Or.inl h
  · refine Or.inr ⟨h0, g, og, c, rfl, fun i hi => ?_⟩
    rw [World.cell?_setCell_other _ _ _ _ (fun e => hv g rfl (by cases e; rfl))]
    exact hc i hi
end Go.Proofs.YtcicoblejaippaaDoor

namespace Go.Proofs.YtcicoblejaippaaDoor
open Go.RowKit
set_option linter.unusedVariables false
set_option maxRecDepth 100000

set_option maxHeartbeats 1000000 in
theorem mapart_ok {w : World} {s s' : Value} {n : Nat} {f f' : Nat → Int} (h : IntsIn w s n f) (h' : IntsIn w s' n f') (h0 : 0 < n) (hn : n ≤ 36)
    (hf : ∀ i, i < n → 0 ≤ f i ∧ f i ≤ 255) (hf' : ∀ i, i < n → 0 ≤ f' i ∧ f' i ≤ 255) :
    Calls Tryd.prog 20 #[s, s'] w fun e w' => e = .returned (.int .i64 (sumN f f' n : Nat)) ∧ Below w.heap.size w w' := by
  obtain ⟨ad, oo, cap, rfl, hc⟩ : ∃ ad oo cap, s = .slice (some ⟨ad, oo, none⟩) n cap ∧ ∀ i, i < n → w.cell? ⟨ad, oo + i, none⟩ = some (.int .i64 (f i)) := by
    rcases h with ⟨h, _⟩ | ⟨_, b, o, c, rfl, hc⟩
    · omega
    · exact ⟨_, _, _, rfl, hc⟩
  obtain ⟨ad', oo', cap', rfl, hc'⟩ : ∃ ad oo cap, s' = .slice (some ⟨ad, oo, none⟩) n cap ∧ ∀ i, i < n → w.cell? ⟨ad, oo + i, none⟩ = some (.int .i64 (f' i)) := by
    rcases h' with ⟨h, _⟩ | ⟨_, b, o, c, rfl, hc⟩
    · omega
    · exact ⟨_, _, _, rfl, hc⟩
  have HC := hide hc
  have HC' := hide hc'
  have HP := hide hf
  have HP' := hide hf'
  have HB := hide (fun j (hj : j ≤ n) => sumN_le (f := f) (g := f') (n := j) (fun i hi => hf i (by omega)) (fun i hi => hf' i (by omega)))
  clear h h' hc hc' hf hf'
  go_enter Tryd.func20, Tryd.ntmps20
  go_wp2
  go_loopw [5, 9] (fun m i wr => ∃ j : Nat, j ≤ n ∧ i = .int .i64 j ∧ m = .int .i64 (sumN f f' j : Nat) ∧ Below w.heap.size w wr) (fun _ i _ => n - (intOf i).toNat)
  case atStart => exact ⟨0, Nat.zero_le _, rfl, rfl, Below.refl _ _⟩
  case round =>
    obtain ⟨j, hj, rfl, rfl, hb⟩ := hrel
    by_cases hlt : j < n
    · have l1 := cell_below hb (HC.out j hlt)
      have l2 := cell_below hb (HC'.out j hlt)
      obtain ⟨x0, x1⟩ := HP.out j hlt
      obtain ⟨y0, y1⟩ := HP'.out j hlt
      have hm := HB.out j hj
      have HM : Hid (sumN f f' (j + 1) = sumN f f' j + (f j - f' j).natAbs) := rfl
      generalize f j = x at *
      generalize f' j = y at *
      generalize sumN f f' j = m at *
      have hm2 : m ≤ 9180 := by omega
      clear hm
      go_wp2_with fail
      go_quiet (fail)
      go_wp2
      all_goals
        go_roundw
        case rel =>
          refine ⟨j + 1, by omega, by go_num, ?_, below_drewN hb _⟩
          rw [HM.out]
          congr 1
          have e : ((m + (x - y).natAbs : Nat) : Int) = (m : Int) + max (x - y) (y - x) := by omega
          rw [e]
          first | omega | ((repeat' split) <;> omega)
        case measure => simp [intOf]; omega
    · obtain rfl : j = n := by omega
      go_wp2
      go_ret
      exact ⟨rfl, hb⟩
end Go.Proofs.YtcicoblejaippaaDoor
