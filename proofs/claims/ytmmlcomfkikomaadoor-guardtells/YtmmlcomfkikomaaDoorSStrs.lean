/-
  Our own contract of dropsame.Strings over two slices that hold the same strings, wherever they lie, over this seat's translation. Lemmas for the laws above; no statement is proved here.
-/
import Derived.Test.YtmmlcomfkikomaaDoorBase
import Derived.Deep.QuietTactic
import Derived.BigQuiet
namespace Go.Proofs.YtmmlcomfkikomaaDoor
open Go.RowKit
set_option linter.unusedVariables false
set_option maxRecDepth 100000

/-- A slice of strings as it lies. -/
def StrsIn (w : World) (v : Value) (len : Nat) (f : Nat → ByteArray) : Prop :=
  (len = 0 ∧ ∃ a cap, v = .slice a 0 cap) ∨ (0 < len ∧ ∃ b o cap, v = .slice (some ⟨b, o, none⟩) len cap ∧ ∀ i, i < len → w.cell? ⟨b, o + i, none⟩ = some (.string (f i)))
theorem StrsIn.below {w w' : World} {v : Value} {len : Nat} {f : Nat → ByteArray} (h : StrsIn w v len f) (hb : Below w.heap.size w w') : StrsIn w' v len f := by
  rcases h with h | ⟨h0, b, o, cap, hv, hc⟩
  · exact Or.inl h
  · exact Or.inr ⟨h0, b, o, cap, hv, fun i hi => cell_below hb (hc i hi)⟩
set_option maxHeartbeats 1000000 in
theorem sstrs_same (v v' : Value) (len : Nat) (f : Nat → ByteArray) (w : World) (hlen : len ≤ 1000) (h : StrsIn w v len f) (h' : StrsIn w v' len f) :
    Calls Tryd.prog 10 #[v, v'] w fun e w' => e = .returned (.bool true) ∧ Below w.heap.size w w' := by
  rcases h with ⟨rfl, a, cap, rfl⟩ | ⟨h0, b, o, cap, rfl, hcell⟩
  · rcases h' with ⟨_, a', cap', rfl⟩ | ⟨h0, _⟩
    · go_enter Tryd.func10, Tryd.ntmps10
      go_wp2
      refine wp_loop_rounds 1 ?_
      rw [rounds_succ]
      go_wp2
      go_ret
      exact ⟨rfl, Below.refl _ _⟩
    · omega
  · rcases h' with ⟨h0', _⟩ | ⟨_, b', o', cap', rfl, hcell'⟩
    · omega
    have HC := hide hcell
    have HC' := hide hcell'
    clear hcell hcell'
    have hne : ((len : Int) != (len : Int)) = false := by simp
    go_enter Tryd.func10, Tryd.ntmps10
    go_wp2
    go_loopw [5] (fun i wr => ∃ j : Nat, j ≤ len ∧ i = .int .i64 j ∧ Below w.heap.size w wr) (fun i _ => len - (intOf i).toNat)
    case atStart => exact ⟨0, Nat.zero_le _, rfl, Below.refl _ _⟩
    case round =>
      obtain ⟨j, hj, rfl, hb⟩ := hrel
      by_cases hlt : j < len
      · have hltI : (j : Int) < (len : Int) := by omega
        have hcj := cell_below hb (HC.out j hlt)
        have hcj' := cell_below hb (HC'.out j hlt)
        go_wp2_with fail
        go_quiet (fail)
        go_wp2
        go_roundw
        case rel => exact ⟨j + 1, by omega, by go_num, below_drewN hb _⟩
        case measure => simp [intOf]; omega
      · go_wp2
        go_ret
        exact ⟨rfl, hb⟩
end Go.Proofs.YtmmlcomfkikomaaDoor
