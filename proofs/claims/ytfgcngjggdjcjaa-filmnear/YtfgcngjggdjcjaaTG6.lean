/-
  Lemmas for the law above, joined into one text (PicX, FlC, PicE). No statement is proved here.
-/
import Derived.Test.YtfgcngjggdjcjaaTG5
import Derived.Test.YtfgcngjggdjcjaaTG0
import Derived.Test.YtfgcngjggdjcjaaTG1
import Derived.Laws.Cover1
namespace Go.Proofs.Ytfgcngjggdjcjaa
open Go.RowKit
set_option linter.unusedVariables false
set_option maxRecDepth 100000

theorem PicIn.mono {w w' : World} {B b : Nat} {x y : Int} {s : Value} (h : PicIn w b x y s) (hb : Below B w w') (hlt : b < B) : PicIn w' b x y s :=
  ⟨⟨(hb.cell hlt).trans h.1.1, (hb.frozen hlt).trans h.1.2⟩, ⟨(hb.cell hlt).trans h.2.1.1, (hb.frozen hlt).trans h.2.1.2⟩, (hb.cell hlt).trans h.2.2.1, (hb.frozen hlt).trans h.2.2.2⟩
theorem PicIn.setOther {w : World} {b b2 o : Nat} {x y : Int} {s : Value} (h : PicIn w b x y s) (hne : b ≠ b2) (u : Value) : PicIn (w.setCell ⟨b2, o, none⟩ u) b x y s := by
  obtain ⟨⟨c0, g0⟩, ⟨c1, g1⟩, c2, g2⟩ := h
  refine ⟨⟨?_, by rw [World.frozen?_setCell]; exact g0⟩, ⟨?_, by rw [World.frozen?_setCell]; exact g1⟩, ?_, by rw [World.frozen?_setCell]; exact g2⟩
  · rw [World.cell?_setCell_other _ _ _ _ (fun e => hne (by cases e; rfl))]; exact c0
  · rw [World.cell?_setCell_other _ _ _ _ (fun e => hne (by cases e; rfl))]; exact c1
  · rw [World.cell?_setCell_other _ _ _ _ (fun e => hne (by cases e; rfl))]; exact c2
theorem PicIn.setPix {w : World} {b : Nat} {x y : Int} {s : Value} (h : PicIn w b x y s) (u : Value) : PicIn (w.setCell ⟨b, 2, none⟩ u) b x y u := by
  obtain ⟨⟨c0, g0⟩, ⟨c1, g1⟩, c2, g2⟩ := h
  refine ⟨⟨?_, by rw [World.frozen?_setCell]; exact g0⟩, ⟨?_, by rw [World.frozen?_setCell]; exact g1⟩, ?_, by rw [World.frozen?_setCell]; exact g2⟩
  · rw [World.cell?_setCell_other _ _ _ _ (fun e => by cases e)]; exact c0
  · rw [World.cell?_setCell_other _ _ _ _ (fun e => by cases e)]; exact c1
  · rw [World.cell?_setCell_same _ _ _ c2]

theorem PicIn.put {w : World} {k : Nat} {x y : Int} {s : Value} (h : PicIn w k x y s) (x' y' : Int) (s' : Value) :
    PicIn (((w.setCell ⟨k, 0, none⟩ (.int .i64 x')).setCell ⟨k, 1, none⟩ (.int .i64 y')).setCell ⟨k, 2, none⟩ s') k x' y' s' := by
  obtain ⟨⟨c0, g0⟩, ⟨c1, g1⟩, c2, g2⟩ := h
  have n01 : (⟨k, 0, none⟩ : Addr) ≠ ⟨k, 1, none⟩ := fun e => by cases e
  have n02 : (⟨k, 0, none⟩ : Addr) ≠ ⟨k, 2, none⟩ := fun e => by cases e
  have n12 : (⟨k, 1, none⟩ : Addr) ≠ ⟨k, 2, none⟩ := fun e => by cases e
  refine ⟨⟨?_, by rw [World.frozen?_setCell, World.frozen?_setCell, World.frozen?_setCell]; exact g0⟩, ⟨?_, by rw [World.frozen?_setCell, World.frozen?_setCell, World.frozen?_setCell]; exact g1⟩, ?_, by rw [World.frozen?_setCell, World.frozen?_setCell, World.frozen?_setCell]; exact g2⟩
  · rw [World.cell?_setCell_other _ _ _ _ (by first | exact n02 | exact n02.symm), World.cell?_setCell_other _ _ _ _ (by first | exact n01 | exact n01.symm), World.cell?_setCell_same _ _ _ c0]
  · rw [World.cell?_setCell_other _ _ _ _ (by first | exact n12 | exact n12.symm)]
    have e1 : (w.setCell ⟨k, 0, none⟩ (.int .i64 x')).cell? ⟨k, 1, none⟩ = some (.int .i64 y) := by
      rw [World.cell?_setCell_other _ _ _ _ (by first | exact n01 | exact n01.symm)]; exact c1
    exact World.cell?_setCell_same _ _ _ e1
  · have e2 : ((w.setCell ⟨k, 0, none⟩ (.int .i64 x')).setCell ⟨k, 1, none⟩ (.int .i64 y')).cell? ⟨k, 2, none⟩ = some s := by
      rw [World.cell?_setCell_other _ _ _ _ (by first | exact n12 | exact n12.symm), World.cell?_setCell_other _ _ _ _ (by first | exact n02 | exact n02.symm)]; exact c2
    exact World.cell?_setCell_same _ _ _ e2

theorem slice_shape {w : World} {v : Value} {n : Nat} {f : Nat → Int} (h : IntsIn w v n f) : ∃ ad cap, v = .slice ad n cap := by
  rcases h with ⟨rfl, a, c, rfl⟩ | ⟨_, b, o, c, rfl, _⟩
  · exact ⟨_, _, rfl⟩
  · exact ⟨_, _, rfl⟩

end Go.Proofs.Ytfgcngjggdjcjaa

namespace Go.Proofs.Ytfgcngjggdjcjaa
open Go.RowKit
set_option linter.unusedVariables false
set_option maxRecDepth 100000

theorem fcount_ok (n : Nat) (w : World) : Calls Try.prog 17 #[.int .i64 n] w fun e w' => e = .returned (errN (cntF n)) ∧ w = w' := by
  by_cases h0 : n = 0
  · subst h0
    go_enter Try.func17, Try.ntmps17
    go_wp2
    go_ret
    exact ⟨rfl, rfl⟩
  · have hne : ((n : Int) == 0) = false := by rw [beq_eq_false_iff_ne]; omega
    by_cases h6 : 6 < n
    · have HE : Hid (cntF n = 4) := by unfold Hid cntF; rw [if_neg h0, if_pos h6]
      go_enter Try.func17, Try.ntmps17
      go_wp2
      go_ret
      exact ⟨by rw [HE.out]; rfl, rfl⟩
    · have HE : Hid (cntF n = 0) := by unfold Hid cntF; rw [if_neg h0, if_neg h6]
      go_enter Try.func17, Try.ntmps17
      go_wp2
      go_ret
      exact ⟨by rw [HE.out]; rfl, rfl⟩
def inOk (n m : Int) : Bool := decide (1 ≤ n) && decide (n ≤ m)
theorem inOk_iff {n m : Int} : inOk n m = true ↔ 1 ≤ n ∧ n ≤ m := by simp [inOk]
theorem inOk_not {n m : Int} : inOk n m = false ↔ n < 1 ∨ m < n := by rw [← Bool.not_eq_true, inOk_iff]; omega
theorem fwithin_ok (n m : Int) (w : World) : Calls Try.prog 13 #[.int .i64 n, .int .i64 m] w fun e w' => e = .returned (.bool (inOk n m)) ∧ w = w' := by
  rcases Int.lt_or_le n 1 with h | h
  · go_enter Try.func13, Try.ntmps13
    go_wp2
    go_ret
    exact ⟨ret_bool (inOk_not.2 (Or.inl h)).symm, rfl⟩
  · rcases Int.lt_or_le m n with k | k
    · go_enter Try.func13, Try.ntmps13
      go_wp2
      go_ret
      exact ⟨ret_bool (by first | exact (inOk_not.2 (Or.inr k)).symm | (rw [Bool.eq_iff_iff, inOk_iff, decide_eq_true_iff]; omega)), rfl⟩
    · go_enter Try.func13, Try.ntmps13
      go_wp2
      go_ret
      exact ⟨ret_bool (by first | exact (inOk_iff.2 ⟨h, k⟩).symm | (rw [Bool.eq_iff_iff, inOk_iff, decide_eq_true_iff]; omega)), rfl⟩
theorem funseen_ok (a b : Int) (w : World) : Calls Try.prog 14 #[.int .i64 a, .int .i64 b] w fun e w' => e = .returned (.agg #[.int .i64 a, .int .i64 b, .slice none 0 0]) ∧ Below w.heap.size w w' := by
  have p1 := picIn_new w 0 0 (.slice none 0 0)
  have HB : Hid (Below w.heap.size w (w.alloc (.cells #[.int .i64 0, .int .i64 0, .slice none 0 0] 25))) := (Below.refl _ _).alloc (Nat.le_refl _) _
  obtain ⟨⟨c0, g0⟩, ⟨c1, g1⟩, c2, g2⟩ := p1
  go_enter Try.func14, Try.ntmps14
  go_wp2
  refine bodyPost_ret (v := .agg #[.int .i64 a, .int .i64 b, .slice none 0 0]) (by simp [results, Try.results14, go_sem]) rfl ⟨rfl, ?_⟩
  first
    | exact (((HB.out.setCell (Nat.le_refl _) _).setCell (Nat.le_refl _) _).setCell (Nat.le_refl _) _)
    | exact HB.out
    | exact (Below.refl _ _).alloc (Nat.le_refl _) _
end Go.Proofs.Ytfgcngjggdjcjaa

namespace Go.Proofs.Ytfgcngjggdjcjaa
open Go.RowKit
set_option linter.unusedVariables false
set_option maxRecDepth 100000

def sideOk (n : Int) : Bool := decide (1 ≤ n) && decide (n ≤ 6)
def pixelOk (n : Int) : Bool := decide (0 ≤ n) && decide (n ≤ 255)
def farOk (n : Int) : Bool := decide (-6 ≤ n) && decide (n ≤ 6)
theorem sideOk_iff {n : Int} : sideOk n = true ↔ 1 ≤ n ∧ n ≤ 6 := by simp [sideOk]
theorem sideOk_not {n : Int} : sideOk n = false ↔ n < 1 ∨ 6 < n := by rw [← Bool.not_eq_true, sideOk_iff]; omega
theorem pixelOk_iff {n : Int} : pixelOk n = true ↔ 0 ≤ n ∧ n ≤ 255 := by simp [pixelOk]
theorem pixelOk_not {n : Int} : pixelOk n = false ↔ n < 0 ∨ 255 < n := by rw [← Bool.not_eq_true, pixelOk_iff]; omega
theorem farOk_iff {n : Int} : farOk n = true ↔ -6 ≤ n ∧ n ≤ 6 := by simp [farOk]
theorem farOk_not {n : Int} : farOk n = false ↔ n < -6 ∨ 6 < n := by rw [← Bool.not_eq_true, farOk_iff]; omega
theorem sides_two {a b : Int} : sidesOk a b = (sideOk a && sideOk b) := by
  simp [sidesOk, sideOk, Bool.and_assoc]

theorem pside_ok (n : Int) (w : World) : Calls Try.prog 9 #[.int .i64 n] w fun e w' => e = .returned (.bool (sideOk n)) ∧ w = w' := by
  rcases Int.lt_or_le n 1 with h | h
  · go_enter Try.func9, Try.ntmps9
    go_wp2
    go_ret
    exact ⟨ret_bool (sideOk_not.2 (Or.inl h)).symm, rfl⟩
  · rcases Int.lt_or_le 6 n with k | k
    · go_enter Try.func9, Try.ntmps9
      go_wp2
      go_ret
      exact ⟨ret_bool (by first | exact (sideOk_not.2 (Or.inr k)).symm | (rw [Bool.eq_iff_iff, sideOk_iff, decide_eq_true_iff]; omega)), rfl⟩
    · go_enter Try.func9, Try.ntmps9
      go_wp2
      go_ret
      exact ⟨ret_bool (sideOk_iff.2 ⟨h, k⟩).symm, rfl⟩
theorem ppixel_ok (n : Int) (w : World) : Calls Try.prog 10 #[.int .i64 n] w fun e w' => e = .returned (.bool (pixelOk n)) ∧ w = w' := by
  rcases Int.lt_or_le n 0 with h | h
  · go_enter Try.func10, Try.ntmps10
    go_wp2
    go_ret
    exact ⟨ret_bool (pixelOk_not.2 (Or.inl h)).symm, rfl⟩
  · rcases Int.lt_or_le 255 n with k | k
    · go_enter Try.func10, Try.ntmps10
      go_wp2
      go_ret
      exact ⟨ret_bool (by first | exact (pixelOk_not.2 (Or.inr k)).symm | (rw [Bool.eq_iff_iff, pixelOk_iff, decide_eq_true_iff]; omega)), rfl⟩
    · go_enter Try.func10, Try.ntmps10
      go_wp2
      go_ret
      exact ⟨ret_bool (pixelOk_iff.2 ⟨h, k⟩).symm, rfl⟩
end Go.Proofs.Ytfgcngjggdjcjaa
