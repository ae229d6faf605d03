/-
  Proved: 'dropletmill/droplaw4.ChanceMany' returns true whatever two numbers it is handed, and both read behind the call as they did. No other conditions.
-/
import Derived.Test.YtafnnmgjfmlinaaChance
import Derived.Test.YtafnnmgjfmlinaaTop
namespace Go.Proofs.Ytafnnmgjfmlinaa
open Go.ChangeShapes Go.WideShapes Go.ChangeAt Go.RowKit
set_option linter.unusedVariables false
set_option maxRecDepth 100000

theorem cmany_range (n m : Int) (w : World) (h : ¬ Num n ∨ m < 0 ∨ 60 < m) :
    Calls Try.prog 4 #[.int .i64 n, .int .i64 m] w fun e w' => e = .returned (.bool true) ∧ Below w.heap.size w w' := by
  have R := hide (row_range n m w h)
  by_cases h1 : n < 1
  · clear h
    go_enter Try.func4, Try.ntmps4
    go_wp2_with fail
    refine (R.out).mono ?_
    rintro e w1 ⟨rfl, rfl⟩
    go_wp2
    go_ret
    exact ⟨rfl, Below.refl _ _⟩
  by_cases h2 : 2147483646 < n
  · clear h
    go_enter Try.func4, Try.ntmps4
    go_wp2_with fail
    refine (R.out).mono ?_
    rintro e w1 ⟨rfl, rfl⟩
    go_wp2
    go_ret
    exact ⟨ret_bool (by first | rfl | simp <;> omega), Below.refl _ _⟩
  by_cases h3 : m < 0
  · clear h
    go_enter Try.func4, Try.ntmps4
    go_wp2_with fail
    refine (R.out).mono ?_
    rintro e w1 ⟨rfl, rfl⟩
    go_wp2
    go_ret
    exact ⟨ret_bool (by first | rfl | simp <;> omega), Below.refl _ _⟩
  · have h4 : 60 < m := by
      rcases h with h | h | h
      · exact absurd ⟨by omega, by omega⟩ h
      · exact absurd h h3
      · exact h
    clear h
    go_enter Try.func4, Try.ntmps4
    go_wp2_with fail
    refine (R.out).mono ?_
    rintro e w1 ⟨rfl, rfl⟩
    go_wp2
    go_ret
    exact ⟨ret_bool (by first | rfl | simp <;> omega), Below.refl _ _⟩

set_option maxHeartbeats 1000000 in
theorem cmany_ok (n : Int) (m : Nat) (w : World) (h : Num n) (hm : m ≤ 60) :
    Calls Try.prog 4 #[.int .i64 n, .int .i64 m] w fun e w' => e = .returned (.bool true) ∧ Below w.heap.size w w' := by
  have R := hide (row_ok n m w h hm)
  have HN := hide h
  clear h
  go_enter Try.func4, Try.ntmps4
  go_wp2_with fail
  refine (R.out).mono ?_
  rintro e w1 ⟨rfl, hrow, hb⟩
  have HR := hide hrow
  clear hrow
  go_wp2
  go_loop [7] (fun i => ∃ j : Nat, j ≤ m ∧ i = .int .i64 j) (fun i => m - (intOf i).toNat)
  case atStart => exact ⟨0, Nat.zero_le _, rfl⟩
  case round =>
    obtain ⟨j, hj, rfl⟩ := hrel
    by_cases hlt : j < m
    · have X := HN.out.rowV j
      have hcj := (HR.out j hlt).1
      have N := hide (next_ok (rowV n j) w1 X)
      have B := hide (below_ok (rowV n j) 10 w1 X (by decide) (by decide))
      have hcj' : w1.cell? ⟨w.heap.size, j, none⟩ = some (.int .i64 (nxt (rowV n j))) := hcj
      obtain ⟨hx1, hx2⟩ := X.nxt
      clear hcj X
      rcases Nat.eq_zero_or_pos j with rfl | hpos
      · have N' : Hid (Calls Try.prog 5 #[.int .i64 n] w1 fun e w' => e = .returned (.tuple #[.int .i64 (nxt (rowV n 0)), .nilIface]) ∧ w1 = w') := N
        have B' : Hid (Calls Try.prog 7 #[.int .i64 n, .int .i64 10] w1 fun e w' => e = .returned (.tuple #[.int .i64 (nxt (rowV n 0) % 10), .int .i64 (nxt (rowV n 0)), .nilIface]) ∧ w1 = w') := B
        clear N B
        generalize nxt (rowV n 0) = y at *
        go_wp2_with fail
        refine (N'.out).mono ?_
        rintro e w2 ⟨rfl, rfl⟩
        go_wp2_with fail
        refine (B'.out).mono ?_
        rintro e w2 ⟨rfl, rfl⟩
        go_wp2
        go_round
        case rel => exact ⟨1, by omega, by go_num⟩
        case measure => simp [intOf]; omega
      · obtain ⟨k, rfl⟩ : ∃ k, j = k + 1 := ⟨j - 1, by omega⟩
        have hck : w1.cell? ⟨w.heap.size, k, none⟩ = some (.int .i64 (rowV n (k + 1))) := (HR.out k (by omega)).1
        generalize nxt (rowV n (k + 1)) = y at *
        generalize rowV n (k + 1) = x at *
        have ek : ((k + 1 : Nat) : Int) - 1 = (k : Int) := by omega
        go_wp2_with fail
        refine (N.out).mono ?_
        rintro e w2 ⟨rfl, rfl⟩
        go_wp2_with fail
        refine (B.out).mono ?_
        rintro e w2 ⟨rfl, rfl⟩
        go_wp2
        go_round
        case rel => exact ⟨k + 1 + 1, by omega, by go_num⟩
        case measure => simp [intOf]; omega
    · go_wp2
      go_ret
      exact ⟨rfl, hb⟩

theorem cmany_walk (n m : Int) (w : World) :
    Calls Try.prog 4 #[.int .i64 n, .int .i64 m] w fun e w' => e = .returned (.bool true) ∧ Below w.heap.size w w' := by
  by_cases h : ¬ Num n ∨ m < 0 ∨ 60 < m
  · exact cmany_range n m w h
  · obtain ⟨k, rfl⟩ := Int.eq_ofNat_of_zero_le (show 0 ≤ m by omega)
    exact cmany_ok n k w (Classical.byContradiction fun hn => h (Or.inl hn)) (by omega)

set_option maxRecDepth 100000 in
theorem chanceMany_contract (H : Type) (enc : TypeId × Value → H) (W : World) (base : Nat) (args : Array Value) (ds gs : List (DataW H)) (before : List MemPlace)
    (hval : ∀ (j : Nat) t v, Try.f4.params[j]? = some t → args[j]? = some v → Value.okWide Try.prog W .any base t v)
    (hW : DataW.Whole enc Try.prog Try.f4.params.toList Rows.chanceManySpec.vars false W args.toList ds gs before) :
    Calls Try.prog 4 args W fun e W' => ∃ v, e = .returned v ∧ Rows.chanceManySpec.post enc Try.prog Try.f4 false true false false W args v W' := by
  have hW' := hW
  have hlt0 := hW.lt
  obtain ⟨p, q, hA0, hV, rfl, hfz, hnd⟩ := hW
  have hA : DataW.TrodAll enc Try.prog W 0 (fun _ => true) true Try.f4.params.toList args.toList ds p := hA0
  rw [Try.params4] at hA hval
  have hAll := hA
  have hread : ∀ t ∈ [3, 3], Try.prog.readableRec t = true ∧ t < Try.prog.types.size := by
    intro t ht
    simp only [List.mem_cons, List.not_mem_nil, or_false] at ht
    rcases ht with rfl | rfl <;> exact ⟨by kernel_rfl, of_decide_eq_true (by kernel_rfl)⟩
  obtain ⟨v0, vs0, d0, ds0, p0, q0, hargs, rfl, rfl, h0, r0⟩ := trodAll_cons hA
  obtain ⟨v1, vs1, d1, ds1, p1, q1, rfl, rfl, rfl, h1, r1⟩ := trodAll_cons r0
  obtain ⟨rfl, rfl, rfl⟩ := trodAll_nil r1
  obtain rfl : args = #[v0, v1] := by cases args; simp_all
  obtain ⟨rfl, rfl⟩ := trodVars_none hV
  simp only [List.append_nil] at hW' hlt0
  have fin : ∀ W' : World, Below W.heap.size W W' → Rows.chanceManySpec.post enc Try.prog Try.f4 false true false false W #[v0, v1] (.bool true) W' := by
    intro W' hg
    refine ⟨_, _, _, [], (p0 ++ (p1 ++ [])), [], hW', ?_, ?_, ?_, hg.frame _, fun h => by cases h⟩
    · exact trodAll_mk1 (shut_bool Try.underlying4 true)
    · exact trodAll_below hg _ _ _ _ hread hAll (by simpa using hlt0)
    · rfl
  obtain ⟨a0, rfl, rfl, rfl, w0⟩ := open_int Try.underlying3 (hval 0 3 v0 rfl rfl) h0
  obtain ⟨a1, rfl, rfl, rfl, w1⟩ := open_int Try.underlying3 (hval 1 3 v1 rfl rfl) h1
  refine (cmany_walk a0 a1 W).mono fun e W' ⟨he, hg⟩ => ?_
  subst he
  exact ⟨_, rfl, fin W' hg⟩

set_option maxRecDepth 100000 in
theorem chanceMany_lifted (os : Os) (started : os.Started) (H : Type) (enc : TypeId × Value → H) :
    ReturnsInHanded {} Try.checked os 4 .any (Rows.chanceManySpec.pre6 enc Try.prog Try.f4 Rows.chanceManyRow.domain false) (Rows.chanceManySpec.post enc Try.prog Try.f4 false true false false) := by
  refine returnsInHanded_of_change (C := Try.checked) own started (by kernel_rfl) Try.func4
    (ChangeSpec.witness6 (enc := enc) (C := Try.checked) false ⟨#[], #[.int .i64 0, .int .i64 0], []⟩ 8 (by kernel_rfl) (by kernel_rfl) (by kernel_rfl) (by kernel_rfl)) ?_
  intro W base args ds gs before hval hW _ _
  exact chanceMany_contract H enc W base args ds gs before hval hW

theorem chanceMany_holds : Rows.ChanceManySaid :=
  OpenClaim.holds_of_wide 4 Try.f4 rfl rfl rfl rfl rfl rfl rfl ⟨rfl, rfl, rfl, rfl, rfl⟩ rfl rfl rfl rfl rfl (by kernel_rfl) Try.func4 (by kernel_rfl)
    (of_decide_eq_true (by kernel_rfl)) (by unfold Func.isWrapper; first | (rw [if_pos (by decide +kernel)]; kernel_rfl) | (rw [if_neg (by decide +kernel)]; exact ⟨rfl, rfl⟩))
    (fun os started H enc _ => chanceMany_lifted os started H enc)
#print axioms chanceMany_holds
end Go.Proofs.Ytafnnmgjfmlinaa
