/-
  Proved: 'dropletmill/droplaw4.WheelRound' returns true whatever numbers it is handed, and it reads behind the call as it did. No other conditions.
-/
import Derived.Test.YtkbnoebhckngaaaWhK
import Derived.Test.YtkbnoebhckngaaaTop
namespace Go.Proofs.Ytkbnoebhckngaaa
open Go.ChangeShapes Go.WideShapes Go.ChangeAt Go.RowKit
set_option linter.unusedVariables false
set_option maxRecDepth 100000

theorem wround_range (k e t : Int) (w : World) (h : ¬ WhOk k e ∨ t < 0 ∨ 1000 < t) :
    Calls Try.prog 3 #[.int .i64 k, .int .i64 e, .int .i64 t] w fun r w' => r = .returned (.bool true) ∧ Below w.heap.size w w' := by
  have F := hide (at_range 0 1 0 w (Or.inl (by decide)))
  have A := hide (at_range k e t w h)
  clear h
  go_enter Try.func3, Try.ntmps3
  go_wp2_with fail
  refine (F.out).mono ?_
  rintro r w1 ⟨rfl, rfl⟩
  go_wp2_with fail
  refine (A.out).mono ?_
  rintro r w1 ⟨rfl, rfl⟩
  go_wp2
  go_ret
  exact ⟨rfl, Below.refl _ _⟩
set_option maxHeartbeats 1000000 in
theorem wround_ok (k e t : Nat) (w : World) (hk : 1 ≤ k) (hk2 : k ≤ 16) (he : e ≤ 16) (ht : t ≤ 1000) :
    Calls Try.prog 3 #[.int .i64 k, .int .i64 e, .int .i64 t] w fun r w' => r = .returned (.bool true) ∧ Below w.heap.size w w' := by
  have F := hide (at_range 0 1 0 w (Or.inl (by decide)))
  have A := hide (at_ok k e t w hk hk2 he ht)
  have hle := whAt_le (k := k) (e := e) (t := t)
  by_cases hs : t + k + e ≤ 1000
  · have B := hide (fun n => at_ok k e (t + k + e) (w.drewN n) hk hk2 he hs)
    have hr := whAt_round (k := k) (e := e) (t := t) hk
    have hc : ((t + k + e : Nat) : Int) = (t : Int) + (k : Int) + (e : Int) := by omega
    rw [hc] at B
    generalize whAt k e t = a at *
    generalize whAt k e (t + k + e) = b at *
    rcases hr with ⟨h1, rfl⟩ | ⟨h1, h2⟩
    · have h1' : (b : Int) ≤ (k : Int) := by omega
      go_enter Try.func3, Try.ntmps3
      go_wp2_with fail
      refine (F.out).mono ?_
      rintro r w1 ⟨rfl, rfl⟩
      go_wp2_with fail
      refine (A.out).mono ?_
      rintro r w1 ⟨rfl, n, rfl⟩
      go_wp2_with fail
      refine (B.out n).mono ?_
      rintro r w1 ⟨rfl, n2, rfl⟩
      go_wp2
      go_ret
      exact ⟨ret_bool (by first | rfl | simp <;> omega), below_drewN (Below.refl _ _) _⟩
    · have h1' : ¬ (a : Int) ≤ (k : Int) := by omega
      have h2' : (a : Int) + (e : Int) = (b : Int) := by omega
      clear h1 h2
      go_enter Try.func3, Try.ntmps3
      go_wp2_with fail
      refine (F.out).mono ?_
      rintro r w1 ⟨rfl, rfl⟩
      go_wp2_with fail
      refine (A.out).mono ?_
      rintro r w1 ⟨rfl, n, rfl⟩
      go_wp2_with fail
      refine (B.out n).mono ?_
      rintro r w1 ⟨rfl, n2, rfl⟩
      go_wp2
      go_ret
      exact ⟨ret_bool (by first | rfl | simp <;> omega), below_drewN (Below.refl _ _) _⟩
  · have B := hide (fun n => at_range k e ((t : Int) + (k : Int) + (e : Int)) (w.drewN n) (Or.inr (Or.inr (by omega))))
    have h0 : (0 : Int) < (t : Int) := by omega
    generalize whAt k e t = a at *
    go_enter Try.func3, Try.ntmps3
    go_wp2_with fail
    refine (F.out).mono ?_
    rintro r w1 ⟨rfl, rfl⟩
    go_wp2_with fail
    refine (A.out).mono ?_
    rintro r w1 ⟨rfl, n, rfl⟩
    go_wp2_with fail
    refine (B.out n).mono ?_
    rintro r w1 ⟨rfl, rfl⟩
    go_wp2
    go_ret
    exact ⟨ret_bool (by first | rfl | simp <;> omega), below_drewN (Below.refl _ _) _⟩

theorem wround_walk (k e t : Int) (w : World) :
    Calls Try.prog 3 #[.int .i64 k, .int .i64 e, .int .i64 t] w fun r w' => r = .returned (.bool true) ∧ Below w.heap.size w w' := by
  by_cases h : ¬ WhOk k e ∨ t < 0 ∨ 1000 < t
  · exact wround_range k e t w h
  · unfold WhOk at h
    obtain ⟨k', rfl⟩ := Int.eq_ofNat_of_zero_le (show 0 ≤ k by omega)
    obtain ⟨e', rfl⟩ := Int.eq_ofNat_of_zero_le (show 0 ≤ e by omega)
    obtain ⟨t', rfl⟩ := Int.eq_ofNat_of_zero_le (show 0 ≤ t by omega)
    exact wround_ok k' e' t' w (by omega) (by omega) (by omega) (by omega)

set_option maxRecDepth 100000 in
theorem wheelRound_contract (H : Type) (enc : TypeId × Value → H) (W : World) (base : Nat) (args : Array Value) (ds gs : List (DataW H)) (before : List MemPlace)
    (hval : ∀ (j : Nat) t v, Try.f3.params[j]? = some t → args[j]? = some v → Value.okWide Try.prog W .any base t v)
    (hW : DataW.Whole enc Try.prog Try.f3.params.toList Rows.wheelRoundSpec.vars false W args.toList ds gs before) :
    Calls Try.prog 3 args W fun e W' => ∃ v, e = .returned v ∧ Rows.wheelRoundSpec.post enc Try.prog Try.f3 false true false false W args v W' := by
  have hW' := hW
  have hlt0 := hW.lt
  obtain ⟨p, q, hA0, hV, rfl, hfz, hnd⟩ := hW
  have hA : DataW.TrodAll enc Try.prog W 0 (fun _ => true) true Try.f3.params.toList args.toList ds p := hA0
  rw [Try.params3] at hA hval
  have hAll := hA
  have hread : ∀ t ∈ [3, 3, 3], Try.prog.readableRec t = true ∧ t < Try.prog.types.size := by
    intro t ht
    simp only [List.mem_cons, List.not_mem_nil, or_false] at ht
    rcases ht with rfl | rfl | rfl <;> exact ⟨by kernel_rfl, of_decide_eq_true (by kernel_rfl)⟩
  obtain ⟨v0, vs0, d0, ds0, p0, q0, hargs, rfl, rfl, h0, r0⟩ := trodAll_cons hA
  obtain ⟨v1, vs1, d1, ds1, p1, q1, rfl, rfl, rfl, h1, r1⟩ := trodAll_cons r0
  obtain ⟨v2, vs2, d2, ds2, p2, q2, rfl, rfl, rfl, h2, r2⟩ := trodAll_cons r1
  obtain ⟨rfl, rfl, rfl⟩ := trodAll_nil r2
  obtain rfl : args = #[v0, v1, v2] := by cases args; simp_all
  obtain ⟨rfl, rfl⟩ := trodVars_none hV
  simp only [List.append_nil] at hW' hlt0
  have fin : ∀ W' : World, Below W.heap.size W W' → Rows.wheelRoundSpec.post enc Try.prog Try.f3 false true false false W #[v0, v1, v2] (.bool true) W' := by
    intro W' hg
    refine ⟨_, _, _, [], (p0 ++ (p1 ++ (p2 ++ []))), [], hW', ?_, ?_, ?_, hg.frame _, fun h => by cases h⟩
    · exact trodAll_mk1 (shut_bool Try.underlying4 true)
    · exact trodAll_below hg _ _ _ _ hread hAll (by simpa using hlt0)
    · rfl
  obtain ⟨a0, rfl, rfl, rfl, w0⟩ := open_int Try.underlying3 (hval 0 3 v0 rfl rfl) h0
  obtain ⟨a1, rfl, rfl, rfl, w1⟩ := open_int Try.underlying3 (hval 1 3 v1 rfl rfl) h1
  obtain ⟨a2, rfl, rfl, rfl, w2⟩ := open_int Try.underlying3 (hval 2 3 v2 rfl rfl) h2
  refine (wround_walk a0 a1 a2 W).mono fun e W' ⟨he, hg⟩ => ?_
  subst he
  exact ⟨_, rfl, fin W' hg⟩

set_option maxRecDepth 100000 in
theorem wheelRound_lifted (os : Os) (started : os.Started) (H : Type) (enc : TypeId × Value → H) :
    ReturnsInHanded {} Try.checked os 3 .any (Rows.wheelRoundSpec.pre6 enc Try.prog Try.f3 Rows.wheelRoundRow.domain false) (Rows.wheelRoundSpec.post enc Try.prog Try.f3 false true false false) := by
  refine returnsInHanded_of_change (C := Try.checked) own started (by kernel_rfl) Try.func3
    (ChangeSpec.witness6 (enc := enc) (C := Try.checked) false ⟨#[], #[.int .i64 0, .int .i64 0, .int .i64 0], []⟩ 8 (by kernel_rfl) (by kernel_rfl) (by kernel_rfl) (by kernel_rfl)) ?_
  intro W base args ds gs before hval hW _ _
  exact wheelRound_contract H enc W base args ds gs before hval hW

theorem wheelRound_holds : Rows.WheelRoundSaid :=
  OpenClaim.holds_of_wide 3 Try.f3 rfl rfl rfl rfl rfl rfl rfl ⟨rfl, rfl, rfl, rfl, rfl⟩ rfl rfl rfl rfl rfl (by kernel_rfl) Try.func3 (by kernel_rfl)
    (of_decide_eq_true (by kernel_rfl)) (by unfold Func.isWrapper; first | (rw [if_pos (by decide +kernel)]; kernel_rfl) | (rw [if_neg (by decide +kernel)]; exact ⟨rfl, rfl⟩))
    (fun os started H enc _ => wheelRound_lifted os started H enc)
#print axioms wheelRound_holds
end Go.Proofs.Ytkbnoebhckngaaa
