/-
  Proved: 'dropletmill/droplaw1.ChanceBack' returns true whatever three numbers it is handed, and all read behind the call as they did. No other conditions.
-/
import Derived.Test.YtafnnmgjfmlinaaChance
import Derived.Test.YtafnnmgjfmlinaaTop
import Derived.Deep.QuietTactic
import Derived.BigQuiet
namespace Go.Proofs.Ytafnnmgjfmlinaa
open Go.ChangeShapes Go.WideShapes Go.ChangeAt Go.RowKit
set_option linter.unusedVariables false
set_option maxRecDepth 100000

theorem next_one (w : World) : Calls Try.prog 5 #[.int .i64 1] w fun e w' => e = .returned (.tuple #[.int .i64 16807, .nilIface]) ∧ w = w' := next_ok 1 w ⟨by decide, by decide⟩
theorem next_two (w : World) : Calls Try.prog 5 #[.int .i64 16807] w fun e w' => e = .returned (.tuple #[.int .i64 282475249, .nilIface]) ∧ w = w' := next_ok 16807 w ⟨by decide, by decide⟩

theorem cback_none (n m k : Int) (w : World) (h : ¬ Num n) :
    Calls Try.prog 3 #[.int .i64 n, .int .i64 m, .int .i64 k] w fun e w' => e = .returned (.bool true) ∧ Below w.heap.size w w' := by
  have A := hide (next_one w)
  have B := hide (next_two w)
  have hn : n < 1 ∨ 2147483646 < n := by unfold Num at h; omega
  have N := hide (next_range n w hn)
  clear h
  by_cases h1 : n < 1
  · clear hn
    go_enter Try.func3, Try.ntmps3
    go_wp2_with fail
    refine (A.out).mono ?_
    rintro e w1 ⟨rfl, rfl⟩
    go_wp2_with fail
    refine (B.out).mono ?_
    rintro e w1 ⟨rfl, rfl⟩
    go_wp2_with fail
    refine (N.out).mono ?_
    rintro e w1 ⟨rfl, rfl⟩
    go_wp2
    go_ret
    exact ⟨rfl, Below.refl _ _⟩
  · have h2 : 2147483646 < n := by omega
    clear hn
    go_enter Try.func3, Try.ntmps3
    go_wp2_with fail
    refine (A.out).mono ?_
    rintro e w1 ⟨rfl, rfl⟩
    go_wp2_with fail
    refine (B.out).mono ?_
    rintro e w1 ⟨rfl, rfl⟩
    go_wp2_with fail
    refine (N.out).mono ?_
    rintro e w1 ⟨rfl, rfl⟩
    go_wp2
    go_ret
    exact ⟨ret_bool (by first | rfl | simp <;> omega), Below.refl _ _⟩


set_option maxHeartbeats 1000000 in
theorem cback_first (n m k : Int) (w : World) (h : Num n) (hm : m < 0 ∨ 60 < m) 
    (K : ∃ v err, Calls Try.prog 6 #[.int .i64 n, .int .i64 k] w fun e w' => e = .returned (.tuple #[v, err]) ∧ Below w.heap.size w w') :
    Calls Try.prog 3 #[.int .i64 n, .int .i64 m, .int .i64 k] w fun e w' => e = .returned (.bool true) ∧ Below w.heap.size w w' := by
  have A := hide (next_one w)
  have B := hide (next_two w)
  have N := hide (next_ok n w h)
  have R := hide (row_range n m w (Or.inr hm))
  obtain ⟨v, err, K⟩ := K
  have HK := hide K
  have hback := nxt_back h
  obtain ⟨hx1, hx2⟩ := h.nxt
  have hne : (nxt n * 1407677000 % 2147483647 != n) = false := by rw [hback]; simp
  clear hm K h hback
  generalize nxt n = x at *
  go_enter Try.func3, Try.ntmps3
  go_wp2_with fail
  refine (A.out).mono ?_
  rintro e w1 ⟨rfl, rfl⟩
  go_wp2_with fail
  refine (B.out).mono ?_
  rintro e w1 ⟨rfl, rfl⟩
  go_wp2_with fail
  refine (N.out).mono ?_
  rintro e w1 ⟨rfl, rfl⟩
  go_wp2_with fail
  refine (R.out).mono ?_
  rintro e w1 ⟨rfl, rfl⟩
  go_wp2_with fail
  refine (HK.out).mono ?_
  rintro e w1 ⟨rfl, hb⟩
  go_wp2
  go_ret
  exact ⟨rfl, hb⟩

set_option maxHeartbeats 1000000 in
theorem cback_second (n : Int) (m : Nat) (k : Int) (w : World) (h : Num n) (hm : m ≤ 60) (hk : k < 0 ∨ 60 < k) :
    Calls Try.prog 3 #[.int .i64 n, .int .i64 m, .int .i64 k] w fun e w' => e = .returned (.bool true) ∧ Below w.heap.size w w' := by
  have A := hide (next_one w)
  have B := hide (next_two w)
  have N := hide (next_ok n w h)
  have R := hide (row_ok n m w h hm)
  have HK := hide (fun w1 => row_range n k w1 (Or.inr hk))
  have hback := nxt_back h
  obtain ⟨hx1, hx2⟩ := h.nxt
  have hne : (nxt n * 1407677000 % 2147483647 != n) = false := by rw [hback]; simp
  clear hk h hback
  generalize nxt n = x at *
  go_enter Try.func3, Try.ntmps3
  go_wp2_with fail
  refine (A.out).mono ?_
  rintro e w1 ⟨rfl, rfl⟩
  go_wp2_with fail
  refine (B.out).mono ?_
  rintro e w1 ⟨rfl, rfl⟩
  go_wp2_with fail
  refine (N.out).mono ?_
  rintro e w1 ⟨rfl, rfl⟩
  go_wp2_with fail
  refine (R.out).mono ?_
  rintro e w1 ⟨rfl, _, hb⟩
  go_wp2_with fail
  refine (HK.out _).mono ?_
  rintro e w2 ⟨rfl, rfl⟩
  go_wp2
  go_ret
  exact ⟨rfl, hb⟩

set_option maxHeartbeats 2000000 in
theorem cback_both (n : Int) (m k : Nat) (w : World) (h : Num n) (hm : m ≤ 60) (hk : k ≤ 60) :
    Calls Try.prog 3 #[.int .i64 n, .int .i64 m, .int .i64 k] w fun e w' => e = .returned (.bool true) ∧ Below w.heap.size w w' := by
  have A := hide (next_one w)
  have B := hide (next_two w)
  have N := hide (next_ok n w h)
  have R := hide (row_ok n m w h hm)
  have HK := hide (fun w1 => row_ok n k w1 h hk)
  have hback := nxt_back h
  obtain ⟨hx1, hx2⟩ := h.nxt
  have hne : (nxt n * 1407677000 % 2147483647 != n) = false := by rw [hback]; simp
  have hr0 : nxt n = rowV n 1 := rfl
  have HR0 := hide hr0
  clear h hback hr0
  generalize nxt n = x at *
  go_enter Try.func3, Try.ntmps3
  go_wp2_with fail
  refine (A.out).mono ?_
  rintro e w1 ⟨rfl, rfl⟩
  go_wp2_with fail
  refine (B.out).mono ?_
  rintro e w1 ⟨rfl, rfl⟩
  go_wp2_with fail
  refine (N.out).mono ?_
  rintro e w1 ⟨rfl, rfl⟩
  go_wp2_with fail
  refine (R.out).mono ?_
  rintro e w1 ⟨rfl, hrow, hb⟩
  have HA := hide hrow
  clear hrow
  go_wp2_with fail
  refine (HK.out _).mono ?_
  rintro e w2 ⟨rfl, hrow, hb2⟩
  have HB := hide hrow
  have HA2 := hide (fun i hi => cell_below hb2 (HA.out i hi).1)
  have b2 := below_two hb hb2
  clear hrow hb hb2
  go_wp2
  go_loopw [17] (fun i wr => ∃ j : Nat, j ≤ m ∧ j ≤ k ∧ i = .int .i64 j ∧ Below w2.heap.size w2 wr) (fun i _ => m - (intOf i).toNat)
  case atStart => exact ⟨0, Nat.zero_le _, Nat.zero_le _, rfl, Below.refl _ _⟩
  case round =>
    obtain ⟨j, hj, hj2, rfl, hb⟩ := hrel
    by_cases hlt : j < m ∧ j < k
    · obtain ⟨hl1, hl2⟩ := hlt
      have c1 : wr.cell? ⟨w.heap.size, j, none⟩ = some (.int .i64 (rowV n (j + 1))) := cell_below hb (HA2.out j hl1)
      have c2 : wr.cell? ⟨w1.heap.size, j, none⟩ = some (.int .i64 (rowV n (j + 1))) := cell_below hb (HB.out j hl2).1
      generalize rowV n (j + 1) = y at *
      go_wp2_with fail
      go_quiet (fail)
      go_wp2
      go_roundw
      case rel => exact ⟨j + 1, by omega, by omega, by go_num, below_drewN hb _⟩
      case measure => simp [intOf]; omega
    · have b3 := below_two b2 hb
      have hd : decide ((j : Int) < (m : Int) ∧ (j : Int) < (k : Int)) = false := by simp; omega
      rcases Nat.eq_zero_or_pos m with rfl | hm0
      · go_wp2
        go_ret
        exact ⟨ret_bool (by first | rfl | simp <;> omega), b3⟩
      · have c0 : wr.cell? ⟨w.heap.size, 0, none⟩ = some (.int .i64 x) := by
          have := cell_below hb (HA2.out 0 hm0)
          rw [HR0.out]; exact this
        by_cases hl1 : j < m
        · have hl2 : ¬ j < k := by omega
          go_wp2
          go_ret
          exact ⟨ret_bool (by first | rfl | simp <;> omega), b3⟩
        · go_wp2
          go_ret
          exact ⟨ret_bool (by first | rfl | simp <;> omega), b3⟩

theorem cback_walk (n m k : Int) (w : World) :
    Calls Try.prog 3 #[.int .i64 n, .int .i64 m, .int .i64 k] w fun e w' => e = .returned (.bool true) ∧ Below w.heap.size w w' := by
  by_cases h : Num n
  · by_cases hm : m < 0 ∨ 60 < m
    · refine cback_first n m k w h hm ?_
      by_cases hk : k < 0 ∨ 60 < k
      · exact ⟨_, _, (row_range n k w (Or.inr hk)).mono fun e w' ⟨he, hw⟩ => ⟨he, hw ▸ Below.refl _ _⟩⟩
      · obtain ⟨k, rfl⟩ := Int.eq_ofNat_of_zero_le (show 0 ≤ k by omega)
        exact ⟨_, _, (row_ok n k w h (by omega)).mono fun e w' ⟨he, _, hb⟩ => ⟨he, hb⟩⟩
    · obtain ⟨m, rfl⟩ := Int.eq_ofNat_of_zero_le (show 0 ≤ m by omega)
      by_cases hk : k < 0 ∨ 60 < k
      · exact cback_second n m k w h (by omega) hk
      · obtain ⟨k, rfl⟩ := Int.eq_ofNat_of_zero_le (show 0 ≤ k by omega)
        exact cback_both n m k w h (by omega) (by omega)
  · exact cback_none n m k w h

set_option maxRecDepth 100000 in
theorem chanceBack_contract (H : Type) (enc : TypeId × Value → H) (W : World) (base : Nat) (args : Array Value) (ds gs : List (DataW H)) (before : List MemPlace)
    (hval : ∀ (j : Nat) t v, Try.f3.params[j]? = some t → args[j]? = some v → Value.okWide Try.prog W .any base t v)
    (hW : DataW.Whole enc Try.prog Try.f3.params.toList Rows.chanceBackSpec.vars false W args.toList ds gs before) :
    Calls Try.prog 3 args W fun e W' => ∃ v, e = .returned v ∧ Rows.chanceBackSpec.post enc Try.prog Try.f3 false true false false W args v W' := by
  have hW' := hW
  have hlt0 := hW.lt
  obtain ⟨p, q, hA0, hV, rfl, hfz, hnd⟩ := hW
  have hA : DataW.TrodAll enc Try.prog W 0 (fun _ => true) true Try.f3.params.toList args.toList ds p := hA0
  rw [Try.params3] at hA hval
  have hAll := hA
  have hread : ∀ t ∈ [3, 3, 3], Try.prog.readableRec t = true ∧ t < Try.prog.types.size := by
    intro t ht
    simp only [List.mem_cons, List.not_mem_nil, or_false] at ht
    rcases ht with rfl | rfl | rfl <;> exact ⟨by kernel_rfl, of_decide_eq_true (by kernel_rfl)⟩
  obtain ⟨v0, vs0, d0, ds0, p0, q0, hargs, rfl, rfl, h0, r0⟩ := trodAll_cons hA
  obtain ⟨v1, vs1, d1, ds1, p1, q1, rfl, rfl, rfl, h1, r1⟩ := trodAll_cons r0
  obtain ⟨v2, vs2, d2, ds2, p2, q2, rfl, rfl, rfl, h2, r2⟩ := trodAll_cons r1
  obtain ⟨rfl, rfl, rfl⟩ := trodAll_nil r2
  obtain rfl : args = #[v0, v1, v2] := by cases args; simp_all
  obtain ⟨rfl, rfl⟩ := trodVars_none hV
  simp only [List.append_nil] at hW' hlt0
  have fin : ∀ W' : World, Below W.heap.size W W' → Rows.chanceBackSpec.post enc Try.prog Try.f3 false true false false W #[v0, v1, v2] (.bool true) W' := by
    intro W' hg
    refine ⟨_, _, _, [], (p0 ++ (p1 ++ (p2 ++ []))), [], hW', ?_, ?_, ?_, hg.frame _, fun h => by cases h⟩
    · exact trodAll_mk1 (shut_bool Try.underlying4 true)
    · exact trodAll_below hg _ _ _ _ hread hAll (by simpa using hlt0)
    · rfl
  obtain ⟨a0, rfl, rfl, rfl, w0⟩ := open_int Try.underlying3 (hval 0 3 v0 rfl rfl) h0
  obtain ⟨a1, rfl, rfl, rfl, w1⟩ := open_int Try.underlying3 (hval 1 3 v1 rfl rfl) h1
  obtain ⟨a2, rfl, rfl, rfl, w2⟩ := open_int Try.underlying3 (hval 2 3 v2 rfl rfl) h2
  refine (cback_walk a0 a1 a2 W).mono fun e W' ⟨he, hg⟩ => ?_
  subst he
  exact ⟨_, rfl, fin W' hg⟩

set_option maxRecDepth 100000 in
theorem chanceBack_lifted (os : Os) (started : os.Started) (H : Type) (enc : TypeId × Value → H) :
    ReturnsInHanded {} Try.checked os 3 .any (Rows.chanceBackSpec.pre6 enc Try.prog Try.f3 Rows.chanceBackRow.domain false) (Rows.chanceBackSpec.post enc Try.prog Try.f3 false true false false) := by
  refine returnsInHanded_of_change (C := Try.checked) own started (by kernel_rfl) Try.func3
    (ChangeSpec.witness6 (enc := enc) (C := Try.checked) false ⟨#[], #[.int .i64 0, .int .i64 0, .int .i64 0], []⟩ 8 (by kernel_rfl) (by kernel_rfl) (by kernel_rfl) (by kernel_rfl)) ?_
  intro W base args ds gs before hval hW _ _
  exact chanceBack_contract H enc W base args ds gs before hval hW

theorem chanceBack_holds : Rows.ChanceBackSaid :=
  OpenClaim.holds_of_wide 3 Try.f3 rfl rfl rfl rfl rfl rfl rfl ⟨rfl, rfl, rfl, rfl, rfl⟩ rfl rfl rfl rfl rfl (by kernel_rfl) Try.func3 (by kernel_rfl)
    (of_decide_eq_true (by kernel_rfl)) (by unfold Func.isWrapper; first | (rw [if_pos (by decide +kernel)]; kernel_rfl) | (rw [if_neg (by decide +kernel)]; exact ⟨rfl, rfl⟩))
    (fun os started H enc _ => chanceBack_lifted os started H enc)
#print axioms chanceBack_holds
end Go.Proofs.Ytafnnmgjfmlinaa
