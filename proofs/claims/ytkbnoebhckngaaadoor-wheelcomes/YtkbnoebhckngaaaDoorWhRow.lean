/-
  Our own contracts of wheel.Row over this seat's translation, its ways out. Lemmas for the laws above; no statement is proved here.
-/
import Derived.Test.YtkbnoebhckngaaaDoorWhK
import Derived.Test.YtkbnoebhckngaaaDoorOwn
import Derived.Test.YtkbnoebhckngaaaDoorIRow
namespace Go.Proofs.YtkbnoebhckngaaaDoor
open Go.RowKit
set_option linter.unusedVariables false
set_option maxRecDepth 100000

/-- A row that may be: from a time on, so many. -/
def SpOk (t m : Int) : Prop := 0 ≤ t ∧ t ≤ 1000 ∧ 0 ≤ m ∧ m ≤ 60 ∧ t + m ≤ 1000
instance (t m : Int) : Decidable (SpOk t m) := by unfold SpOk; exact inferInstance
theorem IRow.drewN {w : World} {b n : Nat} {f : Nat → Int} (h : IRow w b n f) (m : Nat) : IRow (w.drewN m) b n f := fun i hi => h i hi
theorem spans_ok (t m : Int) (w : World) (h : SpOk t m) : Calls Tryd.prog 16 #[.int .i64 t, .int .i64 m] w fun r w' => r = .returned (.bool true) ∧ w = w' := by
  obtain ⟨h1, h2, h3, h4, h5⟩ := h
  go_enter Tryd.func16, Tryd.ntmps16
  go_wp2
  go_ret
  exact ⟨ret_bool (by simp <;> omega), rfl⟩
theorem spans_not (t m : Int) (w : World) (h : ¬ SpOk t m) : Calls Tryd.prog 16 #[.int .i64 t, .int .i64 m] w fun r w' => r = .returned (.bool false) ∧ w = w' := by
  have h' : t < 0 ∨ (0 ≤ t ∧ 1000 < t) ∨ (0 ≤ t ∧ t ≤ 1000 ∧ m < 0) ∨ (0 ≤ t ∧ t ≤ 1000 ∧ 0 ≤ m ∧ 60 < m) ∨ (0 ≤ t ∧ t ≤ 1000 ∧ 0 ≤ m ∧ m ≤ 60 ∧ 1000 < t + m) := by
    unfold SpOk at h
    omega
  clear h
  rcases h' with h | ⟨h1, h⟩ | ⟨h1, h2, h⟩ | ⟨h1, h2, h3, h⟩ | ⟨h1, h2, h3, h4, h⟩ <;>
  · go_enter Tryd.func16, Tryd.ntmps16
    go_wp2
    go_ret
    exact ⟨ret_bool (by first | rfl | simp <;> omega), rfl⟩
theorem wrow_range (k e t m : Int) (w : World) (h : ¬ WhOk k e ∨ ¬ SpOk t m) :
    Calls Tryd.prog 8 #[.int .i64 k, .int .i64 e, .int .i64 t, .int .i64 m] w fun r w' => r = .returned (.tuple #[.slice none 0 0, .iface 38 (.int .i64 1)]) ∧ w = w' := by
  by_cases hk : WhOk k e
  · have T := hide (turns_ok k e w hk)
    have S := hide (spans_not t m w (h.resolve_left (fun h => h hk)))
    clear h hk
    go_enter Tryd.func8, Tryd.ntmps8
    go_wp2_with fail
    refine (T.out).mono ?_
    rintro r w1 ⟨rfl, rfl⟩
    go_wp2_with fail
    refine (S.out).mono ?_
    rintro r w1 ⟨rfl, rfl⟩
    go_wp2
    go_ret2
    exact ⟨rfl, rfl⟩
  · have T := hide (turns_not k e w hk)
    clear h hk
    go_enter Tryd.func8, Tryd.ntmps8
    go_wp2_with fail
    refine (T.out).mono ?_
    rintro r w1 ⟨rfl, rfl⟩
    go_wp2
    go_ret2
    exact ⟨rfl, rfl⟩
set_option maxHeartbeats 1000000 in
theorem wrow_ok (k e t m : Nat) (w : World) (hk : 1 ≤ k) (hk2 : k ≤ 16) (he : e ≤ 16) (hm : m ≤ 60) (ht : t + m ≤ 1000) :
    Calls Tryd.prog 8 #[.int .i64 k, .int .i64 e, .int .i64 t, .int .i64 m] w fun r w' =>
      r = .returned (.tuple #[.slice (some ⟨w.heap.size, 0, none⟩) m m, .nilIface]) ∧ IRow w' w.heap.size m (fun i => whAt k e (t + i)) ∧ Below w.heap.size w w' := by
  have T := hide (turns_ok k e w ⟨by omega, by omega, by omega, by omega⟩)
  have S := hide (spans_ok t m w ⟨by omega, by omega, by omega, by omega, by omega⟩)
  have hmk := run_make_row' (P := Tryd.prog) 29 3 (.int .i64 0) 8 Tryd.underlying29 Tryd.infoInt rfl .i64 .i64 m (by omega) (by omega)
  go_enter Tryd.func8, Tryd.ntmps8
  go_wp2_with fail
  refine (T.out).mono ?_
  rintro r w1 ⟨rfl, rfl⟩
  go_wp2_with fail
  refine (S.out).mono ?_
  rintro r w1 ⟨rfl, rfl⟩
  go_wp2
  go_loopw [28] (fun i wr => ∃ j : Nat, j ≤ m ∧ i = .int .i64 j ∧ IRow wr w.heap.size m (fun i => if i < j then (whAt k e (t + i) : Int) else 0) ∧ Below w.heap.size w wr) (fun i _ => m - (intOf i).toNat)
  case atStart => exact ⟨0, Nat.zero_le _, rfl, (irow_zero (World.rowIs_made _ _ _ _)).congr (fun i _ => by simp), (Below.refl _ _).alloc (Nat.le_refl _) _⟩
  case round =>
    obtain ⟨j, hj, rfl, hrow, hb⟩ := hrel
    by_cases hlt : j < m
    · have C := hide (comes_ok k e (t + j) wr hk hk2 he (by omega))
      obtain ⟨hcell, hfr⟩ := hrow j hlt
      have HSET := hide (fun n => (hrow.drewN n).set j (whAt k e (t + j) : Int))
      have hc : ((t + j : Nat) : Int) = (t : Int) + (j : Int) := by omega
      rw [hc] at C
      have hb2 := hide hb
      clear hrow hb
      simp only [Nat.lt_irrefl, if_false] at hcell
      generalize hx : whAt k e (t + j) = x at *
      have HX := hide hx
      clear hx
      go_wp2_with fail
      refine (C.out).mono ?_
      rintro r w2 ⟨rfl, n, rfl⟩
      go_wp2
      go_roundw
      case rel =>
        refine ⟨j + 1, by omega, by go_num, (HSET.out n).congr (fun i hi => ?_), (below_drewN hb2.out n).setCell (Nat.le_refl _) _⟩
        by_cases e1 : i = j
        · subst e1; simp [HX.out]
        · have e2 : (i < j + 1) ↔ (i < j) := by omega
          simp [e1, e2]
      case measure => simp [intOf]; omega
    · obtain rfl : j = m := by omega
      go_wp2
      go_ret2
      exact ⟨rfl, hrow.congr (fun i hi => by rw [if_pos hi]), hb⟩
end Go.Proofs.YtkbnoebhckngaaaDoor
