/-
  Our own contracts of guard.fits, guarded, groups and cloned over this seat's translation. Lemmas for the laws above; no statement is proved here.
-/
import Derived.Test.YtmmlcomfkikomaaDoorSClone
import Derived.Test.YtmmlcomfkikomaaDoorLstN
import Derived.Laws.MakeOwn
import Derived.RegionTactic
import Derived.BigRegion
namespace Go.Proofs.YtmmlcomfkikomaaDoor
open Go.RowKit
set_option linter.unusedVariables false
set_option maxRecDepth 100000

theorem gfits_yes (z : Int) (w : World) (h1 : 1 ≤ z) (h8 : z ≤ 16) :
    Calls Tryd.prog 16 #[.int .i64 z] w fun e w' => e = .returned (.bool true) ∧ w = w' := by
  go_enter Tryd.func16, Tryd.ntmps16
  go_wp2
  go_ret
  exact ⟨rfl, rfl⟩
theorem gfits_no (z : Int) (w : World) (h : z < 1 ∨ 16 < z) :
    Calls Tryd.prog 16 #[.int .i64 z] w fun e w' => e = .returned (.bool false) ∧ w = w' := by
  rcases h with h | h
  · have h' : ¬ 1 ≤ z := by omega
    go_enter Tryd.func16, Tryd.ntmps16
    go_wp2
    go_ret
    exact ⟨rfl, rfl⟩
  · have h' : ¬ z ≤ 16 := by omega
    have h1 : 1 ≤ z := by omega
    go_enter Tryd.func16, Tryd.ntmps16
    go_wp2
    go_ret
    exact ⟨rfl, rfl⟩

/-- How many groups of each so many blocks are. -/
def gN (n each : Nat) : Nat := (n + each - 1) / each
theorem gN_lt {n each : Nat} (h : 1 ≤ each) (q : Nat) : q < gN n each ↔ q * each < n := by
  unfold gN
  rw [← Nat.succ_le_iff, Nat.le_div_iff_mul_le h, Nat.succ_mul]
  omega
theorem gN_le (n each : Nat) (h : 1 ≤ each) : gN n each ≤ n := by
  rcases Nat.eq_zero_or_pos (gN n each) with e | e
  · omega
  · have := (gN_lt (n := n) h (gN n each - 1)).1 (by omega)
    have h2 := Nat.le_mul_of_pos_right (gN n each - 1) h
    omega
theorem guarded_ok (n each : Nat) (w : World) (hn : n ≤ 100) (h1 : 1 ≤ each) (h16 : each ≤ 16) :
    Calls Tryd.prog 17 #[.int .i64 n, .int .i64 each] w fun e w' => e = .returned (.int .i64 ((n + gN n each : Nat) : Int)) ∧ w = w' := by
  have hd : ((n : Int) + (each : Int) - 1).tdiv (each : Int) = (gN n each : Nat) := by
    unfold gN
    rw [show ((n : Int) + (each : Int) - 1) = ((n + each - 1 : Nat) : Int) by omega]
    rfl
  have hz : ((each : Int) == 0) = false := by rw [beq_eq_false_iff_ne]; omega
  have hle := gN_le n each h1
  have hdv : (((n : Int) + (each : Int) - 1) / (each : Int)) = (gN n each : Nat) := by
    unfold gN
    rw [show ((n : Int) + (each : Int) - 1) = ((n + each - 1 : Nat) : Int) by omega]
    rfl
  generalize gN n each = G at *
  go_enter Tryd.func17, Tryd.ntmps17
  go_wp2
  go_ret
  exact ⟨by go_num, rfl⟩

/-- The function that groups answers, and what it has caught. -/
def itV (b : Nat) : Value := .func (.func 28) #[] #[.pointer (some ⟨b, 0, none⟩), .pointer (some ⟨b + 1, 0, none⟩)]
theorem groups_ok (n each : Nat) (w : World) :
    Calls Tryd.prog 19 #[.int .i64 n, .int .i64 each] w fun e w' => e = .returned (itV w.heap.size) ∧ w' = (w.alloc (.cells #[.int .i64 n] 3)).alloc (.cells #[.int .i64 each] 3) := by
  go_enter Tryd.func19, Tryd.ntmps19
  go_wp2
  go_ret
  exact ⟨rfl, rfl⟩

/-- Strings as a slice holds them. -/
def strV (f : Nat → ByteArray) (n : Nat) : List Value := (List.range n).map fun i => .string (f i)
theorem strV_at (f : Nat → ByteArray) (n i : Nat) (h : i < n) : (strV f n)[i]? = some (.string (f i)) := by simp [strV, h]
theorem strV_len (f : Nat → ByteArray) (n : Nat) : (strV f n).length = n := by simp [strV]
theorem strV_congr {f g : Nat → ByteArray} {n : Nat} (h : ∀ i, i < n → f i = g i) : strV f n = strV g n := by
  unfold strV
  exact List.map_congr_left fun i hi => by rw [h i (List.mem_range.1 hi)]
theorem strV_set (f : Nat → ByteArray) (n j : Nat) (s : ByteArray) (h : j < n) : (strV f n).set j (.string s) = strV (fun i => if i = j then s else f i) n := by
  apply List.ext_getElem
  · simp [strV]
  · intro i h1 h2
    rw [List.getElem_set]
    simp only [strV, List.getElem_map, List.getElem_range]
    by_cases e : j = i
    · subst e; simp
    · rw [if_neg e, if_neg (fun h => e h.symm)]
theorem Tryd.infoStr : (Tryd.prog.info? 9).map (fun i => (i.zero, i.size, i.bytes)) = some (some (.string ⟨#[]⟩), 1, 16) := by kernel_rfl
/-- A row of strings that was made by make. -/
theorem own_strs_made (w : World) (n : Nat) (hn : n ≤ maxLen) : (w.alloc (.cells (madeCells #[.string ⟨#[]⟩] n) 9)).ownsRow w.heap.size 9 1 (.slice (some ⟨w.heap.size, 0, none⟩) n n) n (strV (fun _ => ⟨#[]⟩) n) := by
  refine ⟨by simp [strV], Or.inr ⟨w.heap.size, n, _, rfl, Nat.le_refl _, heap_alloc_new w _, Nat.le_refl _, hn, by simp [madeCells], ?_⟩⟩
  apply List.ext_getElem
  · simp [strV, madeCells]
  · intro i h1 h2
    simp [strV, madeCells, Nat.mod_one]

set_option maxHeartbeats 1000000 in
theorem cloned_ok (b o n cap : Nat) (f : Nat → ByteArray) (w : World) (h0 : 0 < n) (hn : n ≤ 16)
    (hcell : ∀ i, i < n → w.cell? ⟨b, o + i, none⟩ = some (.string (f i))) (hs : ∀ i, i < n → (f i).size ≤ 8) :
    Calls Tryd.prog 18 #[.slice (some ⟨b, o, none⟩) n cap] w fun e w' => ∃ v, e = .returned v ∧ w'.ownsRow w.heap.size 9 1 v n (strV f n) ∧ Below w.heap.size w w' := by
  have HC := hide hcell
  have HS := hide hs
  clear hcell hs
  have hmk := run_make_row' (P := Tryd.prog) 22 9 (.string ⟨#[]⟩) 16 Tryd.underlying22 Tryd.infoStr rfl .i64 .i64 n (by omega) (by omega)
  have HM := hide (own_strs_made w n (by unfold maxLen; omega))
  go_enter Tryd.func18, Tryd.ntmps18
  go_wp2
  go_loopw [10] (fun i wr => ∃ j : Nat, j ≤ n ∧ i = .int .i64 j ∧ wr.ownsRow w.heap.size 9 1 (.slice (some ⟨w.heap.size, 0, none⟩) n n) n (strV (fun i => if i < j then f i else ⟨#[]⟩) n) ∧ Below w.heap.size w wr) (fun i _ => n - (intOf i).toNat)
  case atStart => exact ⟨0, Nat.zero_le _, rfl, HM.out, (Below.refl _ _).alloc (Nat.le_refl _) _⟩
  case round =>
    obtain ⟨j, hj, rfl, hrow, hb⟩ := hrel
    by_cases hlt : j < n
    · have hc := cell_below hb (HC.out j hlt)
      have K := hide (strings_Clone (f j) wr (by have := HS.out j hlt; omega))
      have HR := hide hrow
      have HB := hide hb
      clear hrow hb
      go_wp2_with fail
      refine (K.out).mono ?_
      rintro e w1 ⟨rfl, hb1⟩
      have HR1 := hide (own_under' HR.out hb1)
      have hcj := HR1.out.cellAt j (by omega)
      rw [strV_at _ _ _ hlt] at hcj
      have hfj := HR1.out.frozenAt j
      have HB1 := hide (below_two HB.out hb1)
      clear hb1
      go_wp2
      go_roundw
      case rel =>
        have h9 := (HR1.out.stored j (.string (f j))).1
        rw [strV_set _ _ _ _ hlt] at h9
        refine ⟨j + 1, by omega, by go_num, ?_, HB1.out.setCell (Nat.le_refl _) _⟩
        rw [strV_congr (g := fun i => if i < j + 1 then f i else ⟨#[]⟩)] at h9
        · exact h9
        · intro i hi
          by_cases e1 : i = j
          · subst e1; simp
          · by_cases e2 : i < j
            · simp [e1, e2, show i < j + 1 by omega]
            · simp [e1, e2, show ¬ i < j + 1 by omega]
      case measure => simp [intOf]; omega
    · obtain rfl : j = n := by omega
      go_wp2
      go_ret
      exact ⟨_, rfl, by rw [strV_congr (g := f) (fun i hi => if_pos hi)] at hrow; exact hrow, hb⟩
end Go.Proofs.YtmmlcomfkikomaaDoor
