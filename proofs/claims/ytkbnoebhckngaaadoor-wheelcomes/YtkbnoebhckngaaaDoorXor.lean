/-
  Our own contracts of mix.Xor over this seat's translation, its ways out. Lemmas for the laws above; no statement is proved here.
-/
import Derived.Test.YtkbnoebhckngaaaDoorXorN
namespace Go.Proofs.YtkbnoebhckngaaaDoor
open Go.RowKit
set_option linter.unusedVariables false
set_option maxRecDepth 100000

theorem xor_full (a b : ByteArray) (w : World) (ha : a.size ≤ maxLen) (hb : b.size ≤ maxLen) (h : 120 < a.size ∨ 120 < b.size) :
    Calls Tryd.prog 36 #[.string a, .string b] w fun e w' => e = .returned (.tuple #[.string ⟨#[]⟩, .iface 38 (.int .i64 4)]) ∧ w = w' := by
  unfold maxLen at ha hb
  by_cases h1 : 120 < a.size
  · go_enter Tryd.func36, Tryd.ntmps36
    go_wp2
    go_ret2
    exact ⟨rfl, rfl⟩
  · have h2 : 120 < b.size := by omega
    go_enter Tryd.func36, Tryd.ntmps36
    go_wp2
    go_ret2
    exact ⟨rfl, rfl⟩
theorem xor_shape (a b : ByteArray) (w : World) (ha : a.size ≤ 120) (hb : b.size ≤ 120) (h : a.size ≠ b.size) :
    Calls Tryd.prog 36 #[.string a, .string b] w fun e w' => e = .returned (.tuple #[.string ⟨#[]⟩, .iface 38 (.int .i64 3)]) ∧ w = w' := by
  have hne : ((a.size : Int) != (b.size : Int)) = true := by rw [bne_iff_ne]; omega
  clear h
  go_enter Tryd.func36, Tryd.ntmps36
  go_wp2
  go_ret2
  exact ⟨rfl, rfl⟩
set_option maxHeartbeats 1000000 in
theorem xor_ok (a b : ByteArray) (w : World) (ha : a.size ≤ 120) (h : b.size = a.size) :
    Calls Tryd.prog 36 #[.string a, .string b] w fun e w' => e = .returned (.tuple #[.string (xorB a b), .nilIface]) ∧ Below w.heap.size w w' := by
  have hne : ((a.size : Int) != (b.size : Int)) = false := by rw [h]; simp
  have hb : b.size ≤ 120 := by omega
  have hcv := run_bytes_of_string (P := Tryd.prog) w 9 102 5 a Tryd.underlying9 Tryd.underlying102 Tryd.underlying5
  have L := hide (lay_any w.heap.size a.size (grownCap w a.size 0 5) b (atB a) _ (by omega) h (row_new w a (grownCap w a.size 0 5) 5))
  clear h
  go_enter Tryd.func36, Tryd.ntmps36
  go_wp2_with fail
  refine (L.out).mono ?_
  rintro e w1 ⟨rfl, hr, hb1⟩
  have hbk := back_row (cap := grownCap w a.size 0 5) hr
  have hbb : Below w.heap.size w w1 := ((Below.refl _ w).drew.alloc (Nat.le_refl _) _).trans hb1
  clear hcv
  go_wp2
  go_ret2
  exact ⟨rfl, hbb⟩
end Go.Proofs.YtkbnoebhckngaaaDoor
