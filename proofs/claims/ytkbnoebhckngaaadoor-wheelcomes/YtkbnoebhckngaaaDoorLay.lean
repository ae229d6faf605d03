/-
  Our own contract of mix.lay over this seat's translation: a string over a row of bytes that is as long. Lemmas for the laws above; no statement is proved here.
-/
import Derived.Test.YtkbnoebhckngaaaDoorBase
import Derived.Lib.Strings
import Derived.Laws.MakeOwn
import Derived.Laws.IdiomStrings
import Derived.Laws.BitsAll
import Derived.RegionTactic
import Derived.BigRegion
namespace Go.Proofs.YtkbnoebhckngaaaDoor
open Go.RowKit
set_option linter.unusedVariables false
set_option maxRecDepth 100000

/-- Byte i of a string. -/
def atB (s : ByteArray) (i : Nat) : UInt8 := s.data.toList.getD i 0
/-- A block whose first n cells are the bytes f 0, f 1, .., none of them frozen. -/
def BRow (w : World) (b n : Nat) (f : Nat → UInt8) : Prop :=
  ∀ i, i < n → w.cell? ⟨b, i, none⟩ = some (.int .u8 ((f i).toNat : Int)) ∧ w.frozen? ⟨b, i, none⟩ = false
theorem BRow.congr {w : World} {b n : Nat} {f g : Nat → UInt8} (h : BRow w b n f) (e : ∀ i, i < n → f i = g i) : BRow w b n g := fun i hi => by rw [← e i hi]; exact h i hi
theorem BRow.set {w : World} {b n : Nat} {f : Nat → UInt8} (h : BRow w b n f) (j : Nat) (v : UInt8) : BRow (w.setCell ⟨b, j, none⟩ (.int .u8 (v.toNat : Int))) b n (fun i => if i = j then v else f i) := fun i hi => by
  refine ⟨?_, by rw [World.frozen?_setCell]; exact (h i hi).2⟩
  have hc := (h i hi).1
  by_cases e : i = j
  · subst e
    rw [World.cell?_setCell_same _ _ _ hc]; simp
  · rw [World.cell?_setCell_other _ _ _ _ (fun h => e (by cases h; rfl))]; simp only [if_neg e]; exact hc
theorem atB_eq (s : ByteArray) (i : Nat) (h : i < s.size) : atB s i = s[i] := by
  have h' : i < s.data.size := h
  simp only [atB, List.getD, Array.getElem?_toList, Array.getElem?_eq_getElem h']
  rfl
theorem xor_bits (a b : UInt8) : bits .xor .u8 (a.toNat : Int) (b.toNat : Int) = ((a ^^^ b).toNat : Int) := by
  have ha := a.toNat_lt
  have hb := b.toNat_lt
  rw [u8_xor_nat _ _ (by omega) (by omega), UInt8.toNat_xor]

set_option maxHeartbeats 1000000 in
theorem lay_any (b n cap : Nat) (s : ByteArray) (f : Nat → UInt8) (w : World) (hn : n ≤ 1000) (hs : s.size = n) (hr : BRow w b n f) :
    Calls Tryd.prog 45 #[.slice (some ⟨b, 0, none⟩) n cap, .string s] w fun e w' => e = .returned (.tuple #[]) ∧ BRow w' b n (fun i => f i ^^^ atB s i) ∧ Below b w w' := by
  go_enter Tryd.func45, Tryd.ntmps45
  go_wp2
  go_loopw [7] (fun i wr => ∃ j : Nat, j ≤ n ∧ i = .int .i64 j ∧ BRow wr b n (fun i => if i < j then f i ^^^ atB s i else f i) ∧ Below b w wr) (fun i _ => n - (intOf i).toNat)
  case atStart => exact ⟨0, Nat.zero_le _, rfl, hr.congr (fun i _ => by simp), Below.refl _ _⟩
  case round =>
    obtain ⟨j, hj, rfl, hrow, hb⟩ := hrel
    by_cases hlt : j < n
    · obtain ⟨hcell, hfr⟩ := hrow j hlt
      simp only [Nat.lt_irrefl, if_false] at hcell
      have hset := hrow.set j (f j ^^^ atB s j)
      go_wp2
      go_region
      all_goals go_wp2
      all_goals go_roundw
      case rel =>
        rw [← atB_eq s j (by omega), xor_bits]
        refine ⟨j + 1, by omega, by go_num, hset.congr (fun i hi => ?_), (hb.setCell (Nat.le_refl _) _).drew⟩
        by_cases e1 : i = j
        · subst e1; simp
        · by_cases e2 : i < j
          · simp [e1, e2, show i < j + 1 by omega]
          · simp [e1, e2, show ¬ i < j + 1 by omega]
      case measure => simp [intOf]; omega
    · go_wp2
      go_end0
      obtain rfl : j = n := by omega
      exact ⟨rfl, hrow.congr (fun i hi => by simp [hi]), hb⟩
end Go.Proofs.YtkbnoebhckngaaaDoor
