/-
  Proved: 'dropletmill/droplaw1.DegreeRises' returns true whatever three numbers it is handed, and all read behind the call as they did. No other conditions.
-/
import Derived.Test.YtkpfaebhnkkmhaaDeg
import Derived.Test.YtkpfaebhnkkmhaaTop
import Derived.Deep.QuietTactic
import Derived.BigQuiet
namespace Go.Proofs.Ytkpfaebhnkkmhaa
open Go.ChangeShapes Go.WideShapes Go.ChangeAt Go.RowKit
set_option linter.unusedVariables false
set_option maxRecDepth 100000

theorem deg_fact : deg 4 500 = 2 := by decide
theorem fact (w : World) : Calls Try.prog 5 #[.int .i64 4, .int .i64 500] w fun e w' => e = .returned (.tuple #[.int .i64 2, .nilIface]) ∧ w = w' := by
  have h := of_ok 4 500 w (by decide) (by decide) (by decide)
  rw [deg_fact] at h
  exact h
theorem drises_range (k n m : Int) (w : World) (h : (k < 1 ∨ 16 < k) ∨ n < 0 ∨ 1000 ≤ n) :
    Calls Try.prog 3 #[.int .i64 k, .int .i64 n, .int .i64 m] w fun e w' => e = .returned (.bool true) ∧ Below w.heap.size w w' := by
  have F := hide (fact w)
  have A := hide (of_range k n w h)
  clear h
  go_enter Try.func3, Try.ntmps3
  go_wp2_with fail
  refine (F.out).mono ?_
  rintro e w1 ⟨rfl, rfl⟩
  go_wp2_with fail
  refine (A.out).mono ?_
  rintro e w1 ⟨rfl, rfl⟩
  go_wp2
  go_ret
  exact ⟨rfl, Below.refl _ _⟩

/-- What the second call says, as far as the law asks. -/
def Second (k : Nat) (n m : Int) (a : Int) (w : World) : Prop :=
  (Calls Try.prog 5 #[.int .i64 k, .int .i64 m] w fun e w' => e = .returned (.tuple #[.int .i64 0, .iface 31 (.int .i64 1)]) ∧ w = w')
  ∨ ∃ b : Int, (Calls Try.prog 5 #[.int .i64 k, .int .i64 m] w fun e w' => e = .returned (.tuple #[.int .i64 b, .nilIface]) ∧ w = w') ∧ ((n < m ∧ a ≤ b) ∨ (n = m ∧ a = b) ∨ (m < n ∧ b ≤ a))
theorem second (k n : Nat) (m : Int) (w : World) (hk : 1 ≤ k) (hk2 : k ≤ 16) (hn : n < 1000) : Second k n m (deg k n) w := by
  by_cases h : m < 0 ∨ 1000 ≤ m
  · exact Or.inl (of_range k m w (Or.inr h))
  · obtain ⟨m, rfl⟩ := Int.eq_ofNat_of_zero_le (show 0 ≤ m by omega)
    refine Or.inr ⟨deg k m, of_ok k m w hk hk2 (by omega), ?_⟩
    rcases Nat.lt_trichotomy n m with h1 | rfl | h1
    · exact Or.inl ⟨by omega, by have := deg_mono k (Nat.le_of_lt h1); omega⟩
    · exact Or.inr (Or.inl ⟨rfl, rfl⟩)
    · exact Or.inr (Or.inr ⟨by omega, by have := deg_mono k (Nat.le_of_lt h1); omega⟩)

set_option maxHeartbeats 2000000 in
theorem drises_ok (k n : Nat) (m : Int) (w : World) (hk : 1 ≤ k) (hk2 : k ≤ 16) (hn : n < 1000) :
    Calls Try.prog 3 #[.int .i64 k, .int .i64 n, .int .i64 m] w fun e w' => e = .returned (.bool true) ∧ Below w.heap.size w w' := by
  have F := hide (fact w)
  have A := hide (of_ok k n w hk hk2 hn)
  have T := hide (times_ok k w hk hk2)
  have a1 : (1 : Int) ≤ deg k n := by have := deg_ge k n; omega
  have a2 : (deg k n : Int) ≤ k := by have := deg_le k n hk; omega
  have S := hide (second k n m w hk hk2 hn)
  generalize (deg k n : Int) = a at *
  have a3 : ¬ a < 1 := by omega
  have a4 : ¬ (k : Int) < a := by omega
  go_enter Try.func3, Try.ntmps3
  go_wp2_with fail
  refine (F.out).mono ?_
  rintro e w1 ⟨rfl, rfl⟩
  go_wp2_with fail
  refine (A.out).mono ?_
  rintro e w1 ⟨rfl, rfl⟩
  rcases S.out with B0 | ⟨b, B0, ⟨h1, h2⟩ | ⟨h1, h2⟩ | ⟨h1, h2⟩⟩
  · have B := hide B0
    clear B0 S
    go_wp2_with fail
    refine (B.out).mono ?_
    rintro e w1 ⟨rfl, rfl⟩
    go_wp2_with fail
    refine (T.out).mono ?_
    rintro e w1 ⟨rfl, hrow, hb⟩
    have HR := hide hrow
    clear hrow
    go_wp2
    go_loop [14, 15] (fun s i => ∃ j : Nat, j ≤ k ∧ i = .int .i64 j ∧ s = .int .i64 (csum k 1000 j)) (fun _ i => k - (intOf i).toNat)
    case atStart => exact ⟨0, Nat.zero_le _, rfl, rfl⟩
    case round =>
      obtain ⟨j, hj, rfl, rfl⟩ := hrel
      by_cases hlt : j < k
      · have c0 : w1.cell? ⟨w.heap.size, j, none⟩ = some (.int .i64 (cnt k j 1000 : Int)) := (HR.out j hlt).1
        have s1 : csum k 1000 j ≤ 16000 := Nat.le_trans (csum_le k 1000 j) (by omega)
        have s2 : cnt k j 1000 ≤ 1000 := cnt_le k j 1000
        have HS : Hid (csum k 1000 (j + 1) = csum k 1000 j + cnt k j 1000) := rfl
        generalize csum k 1000 j = s at *
        generalize cnt k j 1000 = c at *
        have hc0 : ¬ (c : Int) < 0 := by omega
        go_wp2
        go_round
        case rel => exact ⟨j + 1, by omega, by go_num, by rw [HS.out]; go_num⟩
        case measure => simp [intOf]; omega
      · obtain rfl : j = k := by omega
        have hs : csum j 1000 j = 1000 := csum_all j hk 1000
        rw [hs]
        by_cases h2 : (j : Int) < 2
        · go_wp2_with fail
          go_quiet (fail)
          go_wp2
          go_ret
          exact ⟨ret_bool (by first | rfl | simp <;> omega), below_drewN hb _⟩
        · have c0 : w1.cell? ⟨w.heap.size, 0, none⟩ = some (.int .i64 (cnt j 0 1000 : Int)) := (HR.out 0 (by omega)).1
          have c1 : w1.cell? ⟨w.heap.size, 1, none⟩ = some (.int .i64 (cnt j 1 1000 : Int)) := (HR.out 1 (by omega)).1
          have l0 := cnt_le j 0 1000
          have l1 := cnt_le j 1 1000
          have l2 := two_half (k := j) (by omega)
          generalize cnt j 0 1000 = x at *
          generalize cnt j 1 1000 = y at *
          have h2d : decide ((j : Int) < 2) = false := decide_eq_false h2
          have hj0 : 0 < j := by omega
          have hj1 : 1 < j := by omega
          have hd : decide ((500 : Int) ≤ (x : Int) + (y : Int)) = true := decide_eq_true (by omega)
          go_wp2_with fail
          go_quiet (fail)
          go_wp2
          go_ret
          exact ⟨ret_bool (by first | rfl | simp <;> omega), below_drewN hb _⟩
  · have B := hide B0
    have g1 : n ≤ m := by omega
    have g2 : ¬ b < a := by omega
    have g3 : ¬ m ≤ n := by omega
    clear B0 S
    go_wp2_with fail
    refine (B.out).mono ?_
    rintro e w1 ⟨rfl, rfl⟩
    go_wp2_with fail
    refine (T.out).mono ?_
    rintro e w1 ⟨rfl, hrow, hb⟩
    have HR := hide hrow
    clear hrow
    go_wp2
    go_loop [14, 15] (fun s i => ∃ j : Nat, j ≤ k ∧ i = .int .i64 j ∧ s = .int .i64 (csum k 1000 j)) (fun _ i => k - (intOf i).toNat)
    case atStart => exact ⟨0, Nat.zero_le _, rfl, rfl⟩
    case round =>
      obtain ⟨j, hj, rfl, rfl⟩ := hrel
      by_cases hlt : j < k
      · have c0 : w1.cell? ⟨w.heap.size, j, none⟩ = some (.int .i64 (cnt k j 1000 : Int)) := (HR.out j hlt).1
        have s1 : csum k 1000 j ≤ 16000 := Nat.le_trans (csum_le k 1000 j) (by omega)
        have s2 : cnt k j 1000 ≤ 1000 := cnt_le k j 1000
        have HS : Hid (csum k 1000 (j + 1) = csum k 1000 j + cnt k j 1000) := rfl
        generalize csum k 1000 j = s at *
        generalize cnt k j 1000 = c at *
        have hc0 : ¬ (c : Int) < 0 := by omega
        go_wp2
        go_round
        case rel => exact ⟨j + 1, by omega, by go_num, by rw [HS.out]; go_num⟩
        case measure => simp [intOf]; omega
      · obtain rfl : j = k := by omega
        have hs : csum j 1000 j = 1000 := csum_all j hk 1000
        rw [hs]
        by_cases h2 : (j : Int) < 2
        · go_wp2_with fail
          go_quiet (fail)
          go_wp2
          go_ret
          exact ⟨ret_bool (by first | rfl | simp <;> omega), below_drewN hb _⟩
        · have c0 : w1.cell? ⟨w.heap.size, 0, none⟩ = some (.int .i64 (cnt j 0 1000 : Int)) := (HR.out 0 (by omega)).1
          have c1 : w1.cell? ⟨w.heap.size, 1, none⟩ = some (.int .i64 (cnt j 1 1000 : Int)) := (HR.out 1 (by omega)).1
          have l0 := cnt_le j 0 1000
          have l1 := cnt_le j 1 1000
          have l2 := two_half (k := j) (by omega)
          generalize cnt j 0 1000 = x at *
          generalize cnt j 1 1000 = y at *
          have h2d : decide ((j : Int) < 2) = false := decide_eq_false h2
          have hj0 : 0 < j := by omega
          have hj1 : 1 < j := by omega
          have hd : decide ((500 : Int) ≤ (x : Int) + (y : Int)) = true := decide_eq_true (by omega)
          go_wp2_with fail
          go_quiet (fail)
          go_wp2
          go_ret
          exact ⟨ret_bool (by first | rfl | simp <;> omega), below_drewN hb _⟩
  · have B := hide B0
    have g1 : n ≤ m := by omega
    have g2 : ¬ b < a := by omega
    have g3 : m ≤ n := by omega
    have g4 : ¬ a < b := by omega
    clear B0 S h1 h2
    go_wp2_with fail
    refine (B.out).mono ?_
    rintro e w1 ⟨rfl, rfl⟩
    go_wp2_with fail
    refine (T.out).mono ?_
    rintro e w1 ⟨rfl, hrow, hb⟩
    have HR := hide hrow
    clear hrow
    go_wp2
    go_loop [14, 15] (fun s i => ∃ j : Nat, j ≤ k ∧ i = .int .i64 j ∧ s = .int .i64 (csum k 1000 j)) (fun _ i => k - (intOf i).toNat)
    case atStart => exact ⟨0, Nat.zero_le _, rfl, rfl⟩
    case round =>
      obtain ⟨j, hj, rfl, rfl⟩ := hrel
      by_cases hlt : j < k
      · have c0 : w1.cell? ⟨w.heap.size, j, none⟩ = some (.int .i64 (cnt k j 1000 : Int)) := (HR.out j hlt).1
        have s1 : csum k 1000 j ≤ 16000 := Nat.le_trans (csum_le k 1000 j) (by omega)
        have s2 : cnt k j 1000 ≤ 1000 := cnt_le k j 1000
        have HS : Hid (csum k 1000 (j + 1) = csum k 1000 j + cnt k j 1000) := rfl
        generalize csum k 1000 j = s at *
        generalize cnt k j 1000 = c at *
        have hc0 : ¬ (c : Int) < 0 := by omega
        go_wp2
        go_round
        case rel => exact ⟨j + 1, by omega, by go_num, by rw [HS.out]; go_num⟩
        case measure => simp [intOf]; omega
      · obtain rfl : j = k := by omega
        have hs : csum j 1000 j = 1000 := csum_all j hk 1000
        rw [hs]
        by_cases h2 : (j : Int) < 2
        · go_wp2_with fail
          go_quiet (fail)
          go_wp2
          go_ret
          exact ⟨ret_bool (by first | rfl | simp <;> omega), below_drewN hb _⟩
        · have c0 : w1.cell? ⟨w.heap.size, 0, none⟩ = some (.int .i64 (cnt j 0 1000 : Int)) := (HR.out 0 (by omega)).1
          have c1 : w1.cell? ⟨w.heap.size, 1, none⟩ = some (.int .i64 (cnt j 1 1000 : Int)) := (HR.out 1 (by omega)).1
          have l0 := cnt_le j 0 1000
          have l1 := cnt_le j 1 1000
          have l2 := two_half (k := j) (by omega)
          generalize cnt j 0 1000 = x at *
          generalize cnt j 1 1000 = y at *
          have h2d : decide ((j : Int) < 2) = false := decide_eq_false h2
          have hj0 : 0 < j := by omega
          have hj1 : 1 < j := by omega
          have hd : decide ((500 : Int) ≤ (x : Int) + (y : Int)) = true := decide_eq_true (by omega)
          go_wp2_with fail
          go_quiet (fail)
          go_wp2
          go_ret
          exact ⟨ret_bool (by first | rfl | simp <;> omega), below_drewN hb _⟩
  · have B := hide B0
    have g1 : ¬ n ≤ m := by omega
    have g3 : m ≤ n := by omega
    have g4 : ¬ a < b := by omega
    clear B0 S
    go_wp2_with fail
    refine (B.out).mono ?_
    rintro e w1 ⟨rfl, rfl⟩
    go_wp2_with fail
    refine (T.out).mono ?_
    rintro e w1 ⟨rfl, hrow, hb⟩
    have HR := hide hrow
    clear hrow
    go_wp2
    go_loop [14, 15] (fun s i => ∃ j : Nat, j ≤ k ∧ i = .int .i64 j ∧ s = .int .i64 (csum k 1000 j)) (fun _ i => k - (intOf i).toNat)
    case atStart => exact ⟨0, Nat.zero_le _, rfl, rfl⟩
    case round =>
      obtain ⟨j, hj, rfl, rfl⟩ := hrel
      by_cases hlt : j < k
      · have c0 : w1.cell? ⟨w.heap.size, j, none⟩ = some (.int .i64 (cnt k j 1000 : Int)) := (HR.out j hlt).1
        have s1 : csum k 1000 j ≤ 16000 := Nat.le_trans (csum_le k 1000 j) (by omega)
        have s2 : cnt k j 1000 ≤ 1000 := cnt_le k j 1000
        have HS : Hid (csum k 1000 (j + 1) = csum k 1000 j + cnt k j 1000) := rfl
        generalize csum k 1000 j = s at *
        generalize cnt k j 1000 = c at *
        have hc0 : ¬ (c : Int) < 0 := by omega
        go_wp2
        go_round
        case rel => exact ⟨j + 1, by omega, by go_num, by rw [HS.out]; go_num⟩
        case measure => simp [intOf]; omega
      · obtain rfl : j = k := by omega
        have hs : csum j 1000 j = 1000 := csum_all j hk 1000
        rw [hs]
        by_cases h2 : (j : Int) < 2
        · go_wp2_with fail
          go_quiet (fail)
          go_wp2
          go_ret
          exact ⟨ret_bool (by first | rfl | simp <;> omega), below_drewN hb _⟩
        · have c0 : w1.cell? ⟨w.heap.size, 0, none⟩ = some (.int .i64 (cnt j 0 1000 : Int)) := (HR.out 0 (by omega)).1
          have c1 : w1.cell? ⟨w.heap.size, 1, none⟩ = some (.int .i64 (cnt j 1 1000 : Int)) := (HR.out 1 (by omega)).1
          have l0 := cnt_le j 0 1000
          have l1 := cnt_le j 1 1000
          have l2 := two_half (k := j) (by omega)
          generalize cnt j 0 1000 = x at *
          generalize cnt j 1 1000 = y at *
          have h2d : decide ((j : Int) < 2) = false := decide_eq_false h2
          have hj0 : 0 < j := by omega
          have hj1 : 1 < j := by omega
          have hd : decide ((500 : Int) ≤ (x : Int) + (y : Int)) = true := decide_eq_true (by omega)
          go_wp2_with fail
          go_quiet (fail)
          go_wp2
          go_ret
          exact ⟨ret_bool (by first | rfl | simp <;> omega), below_drewN hb _⟩

theorem drises_walk (k n m : Int) (w : World) :
    Calls Try.prog 3 #[.int .i64 k, .int .i64 n, .int .i64 m] w fun e w' => e = .returned (.bool true) ∧ Below w.heap.size w w' := by
  by_cases h : (k < 1 ∨ 16 < k) ∨ n < 0 ∨ 1000 ≤ n
  · exact drises_range k n m w h
  · obtain ⟨k, rfl⟩ := Int.eq_ofNat_of_zero_le (show 0 ≤ k by omega)
    obtain ⟨n, rfl⟩ := Int.eq_ofNat_of_zero_le (show 0 ≤ n by omega)
    exact drises_ok k n m w (by omega) (by omega) (by omega)

set_option maxRecDepth 100000 in
theorem degreeRises_contract (H : Type) (enc : TypeId × Value → H) (W : World) (base : Nat) (args : Array Value) (ds gs : List (DataW H)) (before : List MemPlace)
    (hval : ∀ (j : Nat) t v, Try.f3.params[j]? = some t → args[j]? = some v → Value.okWide Try.prog W .any base t v)
    (hW : DataW.Whole enc Try.prog Try.f3.params.toList Rows.degreeRisesSpec.vars false W args.toList ds gs before) :
    Calls Try.prog 3 args W fun e W' => ∃ v, e = .returned v ∧ Rows.degreeRisesSpec.post enc Try.prog Try.f3 false true false false W args v W' := by
  have hW' := hW
  have hlt0 := hW.lt
  obtain ⟨p, q, hA0, hV, rfl, hfz, hnd⟩ := hW
  have hA : DataW.TrodAll enc Try.prog W 0 (fun _ => true) true Try.f3.params.toList args.toList ds p := hA0
  rw [Try.params3] at hA hval
  have hAll := hA
  have hread : ∀ t ∈ [3, 3, 3], Try.prog.readableRec t = true ∧ t < Try.prog.types.size := by
    intro t ht
    simp only [List.mem_cons, List.not_mem_nil, or_false] at ht
    rcases ht with rfl | rfl | rfl <;> exact ⟨by kernel_rfl, of_decide_eq_true (by kernel_rfl)⟩
  obtain ⟨v0, vs0, d0, ds0, p0, q0, hargs, rfl, rfl, h0, r0⟩ := trodAll_cons hA
  obtain ⟨v1, vs1, d1, ds1, p1, q1, rfl, rfl, rfl, h1, r1⟩ := trodAll_cons r0
  obtain ⟨v2, vs2, d2, ds2, p2, q2, rfl, rfl, rfl, h2, r2⟩ := trodAll_cons r1
  obtain ⟨rfl, rfl, rfl⟩ := trodAll_nil r2
  obtain rfl : args = #[v0, v1, v2] := by cases args; simp_all
  obtain ⟨rfl, rfl⟩ := trodVars_none hV
  simp only [List.append_nil] at hW' hlt0
  have fin : ∀ W' : World, Below W.heap.size W W' → Rows.degreeRisesSpec.post enc Try.prog Try.f3 false true false false W #[v0, v1, v2] (.bool true) W' := by
    intro W' hg
    refine ⟨_, _, _, [], (p0 ++ (p1 ++ (p2 ++ []))), [], hW', ?_, ?_, ?_, hg.frame _, fun h => by cases h⟩
    · exact trodAll_mk1 (shut_bool Try.underlying4 true)
    · exact trodAll_below hg _ _ _ _ hread hAll (by simpa using hlt0)
    · rfl
  obtain ⟨a0, rfl, rfl, rfl, w0⟩ := open_int Try.underlying3 (hval 0 3 v0 rfl rfl) h0
  obtain ⟨a1, rfl, rfl, rfl, w1⟩ := open_int Try.underlying3 (hval 1 3 v1 rfl rfl) h1
  obtain ⟨a2, rfl, rfl, rfl, w2⟩ := open_int Try.underlying3 (hval 2 3 v2 rfl rfl) h2
  refine (drises_walk a0 a1 a2 W).mono fun e W' ⟨he, hg⟩ => ?_
  subst he
  exact ⟨_, rfl, fin W' hg⟩

set_option maxRecDepth 100000 in
theorem degreeRises_lifted (os : Os) (started : os.Started) (H : Type) (enc : TypeId × Value → H) :
    ReturnsInHanded {} Try.checked os 3 .any (Rows.degreeRisesSpec.pre6 enc Try.prog Try.f3 Rows.degreeRisesRow.domain false) (Rows.degreeRisesSpec.post enc Try.prog Try.f3 false true false false) := by
  refine returnsInHanded_of_change (C := Try.checked) own started (by kernel_rfl) Try.func3
    (ChangeSpec.witness6 (enc := enc) (C := Try.checked) false ⟨#[], #[.int .i64 0, .int .i64 0, .int .i64 0], []⟩ 8 (by kernel_rfl) (by kernel_rfl) (by kernel_rfl) (by kernel_rfl)) ?_
  intro W base args ds gs before hval hW _ _
  exact degreeRises_contract H enc W base args ds gs before hval hW

theorem degreeRises_holds : Rows.DegreeRisesSaid :=
  OpenClaim.holds_of_wide 3 Try.f3 rfl rfl rfl rfl rfl rfl rfl ⟨rfl, rfl, rfl, rfl, rfl⟩ rfl rfl rfl rfl rfl (by kernel_rfl) Try.func3 (by kernel_rfl)
    (of_decide_eq_true (by kernel_rfl)) (by unfold Func.isWrapper; first | (rw [if_pos (by decide +kernel)]; kernel_rfl) | (rw [if_neg (by decide +kernel)]; exact ⟨rfl, rfl⟩))
    (fun os started H enc _ => degreeRises_lifted os started H enc)
#print axioms degreeRises_holds
end Go.Proofs.Ytkpfaebhnkkmhaa
