/-
  Our own contract of dropref1.Degree over this seat's translation. Lemmas for the laws above; no statement is proved here.
-/
import Derived.Test.YtopibfbpecjgbaaDoorDegN
namespace Go.Proofs.YtopibfbpecjgbaaDoor
open Go.RowKit
set_option linter.unusedVariables false
set_option maxRecDepth 100000

theorem rdeg (k n : Nat) (w : World) (hk : 1 ≤ k) (hk2 : k ≤ 16) (hn : n < 1000) : Calls Tryd.prog 51 #[.int .i64 k, .int .i64 n] w fun e w' => e = .returned (.int .i64 (deg k n)) ∧ w = w' := by
  obtain ⟨⟨p0, p1⟩, _⟩ := prods (d := 1) hk2 hn (by decide) (by decide)
  by_cases h1 : (n : Int) * (k : Int) < 1000
  · have HD : Hid (deg k n = 1) := by
      unfold Hid
      rcases Nat.lt_or_ge 1 k with h | h
      · exact degF_stop h (under_one.2 h1)
      · obtain rfl : k = 1 := by omega
        rfl
    go_enter Tryd.func51, Tryd.ntmps51
    go_wp2
    go_ret
    exact ⟨ret_int (by rw [HD.out]; rfl), rfl⟩
  · have hk1 : 2 ≤ k := by
      rcases Nat.lt_or_ge 1 k with h | h
      · exact h
      · obtain rfl : k = 1 := by omega
        exact absurd (by omega) h1
    have HD : Hid (deg k n = degF k n (k - 2) 2) := degF_on (d := 1) (by omega) (fun h => h1 (under_one.1 h))
    go_enter Tryd.func51, Tryd.ntmps51
    go_wp2
    go_loop [5] (fun i => ∃ d : Nat, 2 ≤ d ∧ d ≤ k ∧ i = .int .i64 d ∧ deg k n = degF k n (k - d) d) (fun i => k - (intOf i).toNat)
    case atStart => exact ⟨2, Nat.le_refl _, hk1, rfl, HD.out⟩
    case round =>
      obtain ⟨d, hd1, hd2, rfl, he⟩ := hrel
      have HE := hide he
      clear he
      by_cases hlt : d < k
      · obtain ⟨⟨a0, a1⟩, ⟨b0, b1⟩, c0, c1⟩ := prods (d := d) hk2 hn (by omega) (by omega)
        by_cases hu : Under k n d
        · have HS := hide (degF_stop hlt hu)
          unfold Under at hu
          go_wp2
          go_ret
          exact ⟨ret_int (by rw [HE.out, HS.out]), rfl⟩
        · have HS := hide (degF_on hlt hu)
          unfold Under at hu
          go_wp2
          go_round
          case rel => exact ⟨d + 1, by omega, by omega, by go_num, by rw [HE.out, HS.out]⟩
          case measure => simp [intOf]; omega
      · obtain rfl : d = k := by omega
        go_wp2
        go_ret
        exact ⟨ret_int (by rw [HE.out, degF_end]), rfl⟩
end Go.Proofs.YtopibfbpecjgbaaDoor
