/-
  Our own contract of rice.length. Lemmas for the laws above; no statement is proved here.
-/
import Derived.Test.YtjklpcabnppnaaaDoorRcT
import Derived.Test.YtjklpcabnppnaaaDoorRcB
import Derived.Test.YtjklpcabnppnaaaDoorIntsD
namespace Go.Proofs.YtjklpcabnppnaaaDoor
open Go.RowKit
set_option linter.unusedVariables false
set_option maxRecDepth 100000

set_option maxHeartbeats 1000000 in
theorem length_ok {w : World} {v : Value} {n low : Nat} {f : Nat → Int} (h : IntsIn w v n f) (hn : n ≤ 17592186044416) (hl : low ≤ 7) (hf : ∀ i, i < n → -255 ≤ f i ∧ f i ≤ 255) :
    Calls Tryd.prog 14 #[v, .int .i64 low] w fun e w' => e = .returned (.int .i64 (lenN low f n : Nat)) ∧ w = w' := by
  rcases h with ⟨rfl, a, cap, rfl⟩ | ⟨h0, b, o, cap, rfl, hc⟩
  · clear hf
    go_enter Tryd.func14, Tryd.ntmps14
    go_wp2
    go_loop [5, 10] (fun u i => u = .int .i64 0 ∧ i = .int .i64 0) (fun _ _ => 0)
    case atStart => exact ⟨rfl, rfl⟩
    case round =>
      obtain ⟨rfl, rfl⟩ := hrel
      go_wp2
      go_ret
      exact ⟨rfl, rfl⟩
  · have HC := hide hc
    have HF := hide hf
    clear hc hf
    go_enter Tryd.func14, Tryd.ntmps14
    go_wp2
    go_loop [5, 10] (fun u i => ∃ j : Nat, j ≤ n ∧ i = .int .i64 j ∧ u = .int .i64 (lenN low f j : Nat)) (fun _ i => n - (intOf i).toNat)
    case atStart => exact ⟨0, Nat.zero_le _, rfl, rfl⟩
    case round =>
      obtain ⟨j, hj, rfl, rfl⟩ := hrel
      by_cases hlt : j < n
      · have hcj := HC.out j hlt
        have K := hide (told_ok (f j) w (HF.out j hlt))
        have hz := zz_le (HF.out j hlt)
        have hm := lenN_le (f := f) hl (n := j) (fun i hi => HF.out i (by omega))
        have HS := hide (lenN_succ low f j)
        have e1 := shr_nat (zz (f j)) low
        have e2 := shr_nat' (zz (f j)) low
        have hq := Nat.div_le_self (zz (f j)) (2 ^ low)
        generalize lenN low f j = m at *
        generalize f j = x at *
        generalize zz x = y at *
        generalize y / 2 ^ low = q at *
        go_wp2_with fail
        refine (K.out).mono ?_
        rintro e w1 ⟨rfl, rfl⟩
        go_wp2
        go_round
        case rel =>
          refine ⟨j + 1, by omega, by go_num, ?_⟩
          rw [HS.out]
          first | (simp; done) | (simp; omega) | (congr 1; omega)
        case measure => simp [intOf]; omega
      · obtain rfl : j = n := by omega
        go_wp2
        go_ret
        exact ⟨rfl, rfl⟩
end Go.Proofs.YtjklpcabnppnaaaDoor
