/-
  Proved: 'dropletmill/droplaw4.DegreeOne' returns true whatever number it is handed, and it reads behind the call as it did. No other conditions.
-/
import Derived.Test.YtkpfaebhnkkmhaaDeg
import Derived.Test.YtkpfaebhnkkmhaaTop
namespace Go.Proofs.Ytkpfaebhnkkmhaa
open Go.ChangeShapes Go.WideShapes Go.ChangeAt Go.RowKit
set_option linter.unusedVariables false
set_option maxRecDepth 100000

theorem done_range (n : Int) (w : World) (h : n < 0 ∨ 1000 ≤ n) :
    Calls Try.prog 4 #[.int .i64 n] w fun e w' => e = .returned (.bool true) ∧ Below w.heap.size w w' := by
  have A := hide (of_range 1 n w (Or.inr h))
  have B := hide (of_range 2 n w (Or.inr h))
  by_cases h1 : n < 0
  · clear h
    go_enter Try.func4, Try.ntmps4
    go_wp2_with fail
    refine (A.out).mono ?_
    rintro e w1 ⟨rfl, rfl⟩
    go_wp2_with fail
    refine (B.out).mono ?_
    rintro e w1 ⟨rfl, rfl⟩
    go_wp2
    go_ret
    exact ⟨ret_bool (by first | rfl | simp <;> omega), Below.refl _ _⟩
  · have h2 : 999 < n := by omega
    clear h
    go_enter Try.func4, Try.ntmps4
    go_wp2_with fail
    refine (A.out).mono ?_
    rintro e w1 ⟨rfl, rfl⟩
    go_wp2_with fail
    refine (B.out).mono ?_
    rintro e w1 ⟨rfl, rfl⟩
    go_wp2
    go_ret
    exact ⟨ret_bool (by first | rfl | simp <;> omega), Below.refl _ _⟩

theorem deg_of_one (n : Nat) : deg 1 n = 1 := rfl
theorem cnt_half : (cnt 2 0 1000 : Int) = 500 := by rw [cnt_of_two, if_neg (by decide)]; rfl
set_option maxHeartbeats 1000000 in
theorem done_ok (n : Nat) (w : World) (hn : n < 1000) :
    Calls Try.prog 4 #[.int .i64 n] w fun e w' => e = .returned (.bool true) ∧ Below w.heap.size w w' := by
  have A := of_ok 1 n w (by decide) (by decide) hn
  have B := of_ok 2 n w (by decide) (by decide) hn
  have T := hide (times_ok 2 w (by decide) (by decide))
  rw [deg_of_one] at A
  rw [deg_of_two] at B
  by_cases h : n < 500
  · rw [if_pos h] at B
    have HA := hide A
    have HB := hide B
    have h' : (n : Int) < 500 := by omega
    clear A B h hn
    go_enter Try.func4, Try.ntmps4
    go_wp2_with fail
    refine (HA.out).mono ?_
    rintro e w1 ⟨rfl, rfl⟩
    go_wp2_with fail
    refine (HB.out).mono ?_
    rintro e w1 ⟨rfl, rfl⟩
    go_wp2_with fail
    refine (T.out).mono ?_
    rintro e w1 ⟨rfl, hrow, hb⟩
    have c0 : w1.cell? ⟨w.heap.size, 0, none⟩ = some (.int .i64 (cnt 2 0 1000 : Int)) := (hrow 0 (by decide)).1
    rw [cnt_half] at c0
    clear hrow
    go_wp2
    go_ret
    exact ⟨ret_bool (by first | rfl | simp <;> omega), hb⟩
  · rw [if_neg h] at B
    have HA := hide A
    have HB := hide B
    have h' : ¬ (n : Int) < 500 := by omega
    clear A B h hn
    go_enter Try.func4, Try.ntmps4
    go_wp2_with fail
    refine (HA.out).mono ?_
    rintro e w1 ⟨rfl, rfl⟩
    go_wp2_with fail
    refine (HB.out).mono ?_
    rintro e w1 ⟨rfl, rfl⟩
    go_wp2_with fail
    refine (T.out).mono ?_
    rintro e w1 ⟨rfl, hrow, hb⟩
    have c0 : w1.cell? ⟨w.heap.size, 0, none⟩ = some (.int .i64 (cnt 2 0 1000 : Int)) := (hrow 0 (by decide)).1
    rw [cnt_half] at c0
    clear hrow
    go_wp2
    go_ret
    exact ⟨ret_bool (by first | rfl | simp <;> omega), hb⟩

theorem done_walk (n : Int) (w : World) :
    Calls Try.prog 4 #[.int .i64 n] w fun e w' => e = .returned (.bool true) ∧ Below w.heap.size w w' := by
  by_cases h : n < 0 ∨ 1000 ≤ n
  · exact done_range n w h
  · obtain ⟨m, rfl⟩ := Int.eq_ofNat_of_zero_le (show 0 ≤ n by omega)
    exact done_ok m w (by omega)

set_option maxRecDepth 100000 in
theorem degreeOne_contract (H : Type) (enc : TypeId × Value → H) (W : World) (base : Nat) (args : Array Value) (ds gs : List (DataW H)) (before : List MemPlace)
    (hval : ∀ (j : Nat) t v, Try.f4.params[j]? = some t → args[j]? = some v → Value.okWide Try.prog W .any base t v)
    (hW : DataW.Whole enc Try.prog Try.f4.params.toList Rows.degreeOneSpec.vars false W args.toList ds gs before) :
    Calls Try.prog 4 args W fun e W' => ∃ v, e = .returned v ∧ Rows.degreeOneSpec.post enc Try.prog Try.f4 false true false false W args v W' := by
  have hW' := hW
  have hlt0 := hW.lt
  obtain ⟨p, q, hA0, hV, rfl, hfz, hnd⟩ := hW
  have hA : DataW.TrodAll enc Try.prog W 0 (fun _ => true) true Try.f4.params.toList args.toList ds p := hA0
  rw [Try.params4] at hA hval
  have hAll := hA
  have hread : ∀ t ∈ [3], Try.prog.readableRec t = true ∧ t < Try.prog.types.size := by
    intro t ht
    simp only [List.mem_cons, List.not_mem_nil, or_false] at ht
    rcases ht with rfl <;> exact ⟨by kernel_rfl, of_decide_eq_true (by kernel_rfl)⟩
  obtain ⟨v0, vs0, d0, ds0, p0, q0, hargs, rfl, rfl, h0, r0⟩ := trodAll_cons hA
  obtain ⟨rfl, rfl, rfl⟩ := trodAll_nil r0
  obtain rfl : args = #[v0] := by cases args; simp_all
  obtain ⟨rfl, rfl⟩ := trodVars_none hV
  simp only [List.append_nil] at hW' hlt0
  have fin : ∀ W' : World, Below W.heap.size W W' → Rows.degreeOneSpec.post enc Try.prog Try.f4 false true false false W #[v0] (.bool true) W' := by
    intro W' hg
    refine ⟨_, _, _, [], (p0 ++ []), [], hW', ?_, ?_, ?_, hg.frame _, fun h => by cases h⟩
    · exact trodAll_mk1 (shut_bool Try.underlying4 true)
    · exact trodAll_below hg _ _ _ _ hread hAll (by simpa using hlt0)
    · rfl
  obtain ⟨a0, rfl, rfl, rfl, w0⟩ := open_int Try.underlying3 (hval 0 3 v0 rfl rfl) h0
  refine (done_walk a0 W).mono fun e W' ⟨he, hg⟩ => ?_
  subst he
  exact ⟨_, rfl, fin W' hg⟩

set_option maxRecDepth 100000 in
theorem degreeOne_lifted (os : Os) (started : os.Started) (H : Type) (enc : TypeId × Value → H) :
    ReturnsInHanded {} Try.checked os 4 .any (Rows.degreeOneSpec.pre6 enc Try.prog Try.f4 Rows.degreeOneRow.domain false) (Rows.degreeOneSpec.post enc Try.prog Try.f4 false true false false) := by
  refine returnsInHanded_of_change (C := Try.checked) own started (by kernel_rfl) Try.func4
    (ChangeSpec.witness6 (enc := enc) (C := Try.checked) false ⟨#[], #[.int .i64 0], []⟩ 8 (by kernel_rfl) (by kernel_rfl) (by kernel_rfl) (by kernel_rfl)) ?_
  intro W base args ds gs before hval hW _ _
  exact degreeOne_contract H enc W base args ds gs before hval hW

theorem degreeOne_holds : Rows.DegreeOneSaid :=
  OpenClaim.holds_of_wide 4 Try.f4 rfl rfl rfl rfl rfl rfl rfl ⟨rfl, rfl, rfl, rfl, rfl⟩ rfl rfl rfl rfl rfl (by kernel_rfl) Try.func4 (by kernel_rfl)
    (of_decide_eq_true (by kernel_rfl)) (by unfold Func.isWrapper; first | (rw [if_pos (by decide +kernel)]; kernel_rfl) | (rw [if_neg (by decide +kernel)]; exact ⟨rfl, rfl⟩))
    (fun os started H enc _ => degreeOne_lifted os started H enc)
#print axioms degreeOne_holds
end Go.Proofs.Ytkpfaebhnkkmhaa
