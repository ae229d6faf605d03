/-
  Our own contract of dropsame.Ints over this seat's translation, for two slices of the same numbers. Lemmas for the laws above; no statement is proved here.
-/
import Derived.Test.YtjklpcabnppnaaaDoorIntsD
import Derived.Deep.QuietTactic
import Derived.BigQuiet
namespace Go.Proofs.YtjklpcabnppnaaaDoor
open Go.RowKit
set_option linter.unusedVariables false
set_option maxRecDepth 100000

set_option maxHeartbeats 1000000 in
theorem ints_rows (b o b2 o2 n c c2 : Nat) (f : Nat → Int) (w : World) (hn : n ≤ 1000000)
    (h1 : ∀ i, i < n → w.cell? ⟨b, o + i, none⟩ = some (.int .i64 (f i))) (h2 : ∀ i, i < n → w.cell? ⟨b2, o2 + i, none⟩ = some (.int .i64 (f i))) :
    Calls Tryd.prog 8 #[.slice (some ⟨b, o, none⟩) n c, .slice (some ⟨b2, o2, none⟩) n c2] w fun e w' => e = .returned (.bool true) ∧ Below w.heap.size w w' := by
  have H1 := hide h1
  have H2 := hide h2
  clear h1 h2
  go_enter Tryd.func8, Tryd.ntmps8
  go_wp2
  go_loopw [5] (fun i wr => ∃ j : Nat, j ≤ n ∧ i = .int .i64 j ∧ Below w.heap.size w wr) (fun i _ => n - (intOf i).toNat)
  case atStart => exact ⟨0, Nat.zero_le _, rfl, Below.refl _ _⟩
  case round =>
    obtain ⟨j, hj, rfl, hb⟩ := hrel
    by_cases hlt : j < n
    · have c1 := cell_below hb (H1.out j hlt)
      have c2 := cell_below hb (H2.out j hlt)
      generalize f j = y at *
      go_wp2_with fail
      go_quiet (fail)
      go_wp2
      go_roundw
      case rel => exact ⟨j + 1, by omega, by go_num, below_drewN hb _⟩
      case measure => simp [intOf]; omega
    · go_wp2
      go_ret
      exact ⟨rfl, hb⟩
theorem ints_none (a a2 : Option Addr) (c c2 : Nat) (w : World) :
    Calls Tryd.prog 8 #[.slice a 0 c, .slice a2 0 c2] w fun e w' => e = .returned (.bool true) ∧ Below w.heap.size w w' := by
  go_enter Tryd.func8, Tryd.ntmps8
  go_wp2
  go_loop [5] (fun i => i = .int .i64 0) (fun _ => 0)
  case atStart => rfl
  case round =>
    obtain rfl := hrel
    go_wp2
    go_ret
    exact ⟨rfl, Below.refl _ _⟩
theorem ints_same {v v2 : Value} {n : Nat} {f : Nat → Int} {w : World} (hn : n ≤ 1000000) (h : IntsIn w v n f) (h2 : IntsIn w v2 n f) :
    Calls Tryd.prog 8 #[v, v2] w fun e w' => e = .returned (.bool true) ∧ Below w.heap.size w w' := by
  rcases h with ⟨rfl, a, c, rfl⟩ | ⟨h0, b, o, c, rfl, hc⟩
  · rcases h2 with ⟨_, a2, c2, rfl⟩ | ⟨h0, _⟩
    · exact ints_none a a2 c c2 w
    · omega
  · rcases h2 with ⟨rfl, _⟩ | ⟨_, b2, o2, c2, rfl, hc2⟩
    · omega
    · exact ints_rows b o b2 o2 n c c2 f w hn hc hc2
end Go.Proofs.YtjklpcabnppnaaaDoor
