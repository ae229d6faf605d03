/-
  Lemmas for the law above, joined into one text (Base, Own, ChN, ChB). No statement is proved here.
-/
import Derived.Test.YtjgifjkdgoijmaaGreatRows
import Derived.WalkKit
import Derived.WalkSpells
import Derived.WalkLawsBesides
import Derived.Deep.AppendLies
import Derived.Deep.OwnRows
namespace Go.Proofs.YtjgifjkdgoijmaaGreat
open Go.RowKit
set_option linter.unusedVariables false
set_option maxRecDepth 100000

theorem hide {p : Prop} (h : p) : Hid p := h
theorem ret_int {k : IntKind} {a b : Int} (h : a = b) : Ending.returned (.int k a) = .returned (.int k b) := by rw [h]
theorem ret_bool {a b : Bool} (h : a = b) : Ending.returned (.bool a) = .returned (.bool b) := by rw [h]
theorem ret_two {a a' b b' : Value} (h : a = a') (h' : b = b') : Ending.returned (.tuple #[a, b]) = .returned (.tuple #[a', b']) := by rw [h, h']
theorem cell_lt {w : World} {a : Addr} {v : Value} (h : w.cell? a = some v) : a.block < w.heap.size := by
  rcases Nat.lt_or_ge a.block w.heap.size with h' | h'
  · exact h'
  · simp [World.cell?, Array.getElem?_eq_none h'] at h
theorem cell_below {w w1 : World} {a : Addr} {v : Value} (hb : Below w.heap.size w w1) (h : w.cell? a = some v) : w1.cell? a = some v :=
  (hb.cell (p := a) (cell_lt h)).trans h
/-- Two calls, one behind the other. -/
theorem below_two {w w1 w2 : World} (h : Below w.heap.size w w1) (k : Below w1.heap.size w1 w2) : Below w.heap.size w w2 := h.trans (k.mono h.size)
theorem below_drewN {B : Nat} {a w : World} (h : Below B a w) (n : Nat) : Below B a (w.drewN n) := h.trans ⟨rfl, rfl, rfl, Nat.le_refl _, fun _ _ => rfl⟩
theorem Tryz.infoStr : (Tryz.prog.info? 9).map (fun i => (i.zero, i.size, i.bytes)) = some (some (.string ⟨#[]⟩), 1, 16) := by kernel_rfl
end Go.Proofs.YtjgifjkdgoijmaaGreat

namespace Go.Proofs.YtjgifjkdgoijmaaGreat
open Go.RowKit
set_option linter.unusedVariables false
set_option maxRecDepth 100000

/-- Two slices whose rows are two. -/
def Apart (a b : Value) : Prop := a.ownBlock = none ∨ b.ownBlock = none ∨ a.ownBlock ≠ b.ownBlock
theorem Apart.symm {a b : Value} (h : Apart a b) : Apart b a := by
  rcases h with h | h | h
  · exact Or.inr (Or.inl h)
  · exact Or.inl h
  · exact Or.inr (Or.inr (fun e => h e.symm))
theorem Apart.kept {a b : Value} (h : Apart a b) : b.ownBlock = none ∨ b.ownBlock ≠ a.ownBlock := by
  rcases h with h | h | h
  · rw [h]; cases b.ownBlock with
    | none => exact Or.inl rfl
    | some k => exact Or.inr (by simp)
  · exact Or.inl h
  · exact Or.inr (fun e => h e.symm)
theorem apart_new {w : World} {B : Nat} {e : TypeId} {a b : Value} {m g n c H : Nat} {xs : List Value} (hb : w.ownsRow B e 1 b m xs) (h : Apart a b) (hH : w.heap.size ≤ H) (hat : a.ownBlock = some g ∨ g = H) : Apart (.slice (some ⟨g, 0, none⟩) n c) b := by
  rcases hat with hat | rfl
  · rcases h with h | h | h
    · rw [h] at hat; cases hat
    · exact Or.inr (Or.inl h)
    · exact Or.inr (Or.inr (fun e => h (by rw [hat, ← e]; rfl)))
  · refine Or.inr (Or.inr (fun e => ?_))
    have := (hb.lt g e.symm).2
    omega

theorem Tryz.infoInt : (Tryz.prog.info? 3).map (fun i => (i.zero, i.size, i.bytes)) = some (some (.int .i64 0), 1, 8) := by kernel_rfl
/-- Ints that the call owns, opened. -/
theorem own_ints {w : World} {B : Nat} {v : Value} {n : Nat} {f : Nat → Int} (h : w.ownsRow B 3 1 v n ((List.range n).map fun k : Nat => .int .i64 (f k))) (hn : 0 < n) :
    ∃ g cap, v = .slice (some ⟨g, 0, none⟩) n cap ∧ n ≤ cap ∧ cap ≤ maxLen ∧ ∀ k, k < n → w.cell? ⟨g, 0 + k, none⟩ = some (.int .i64 (f k)) := by
  have h' := h
  rcases h.2 with ⟨_, h0⟩ | ⟨g, cap, cur, hv, _, hg, h1, h2, hcs, hcur⟩
  · omega
  · refine ⟨g, cap, hv, h1, h2, fun k hk => ?_⟩
    rw [hv] at h'
    rw [Nat.zero_add, h'.cellAt k (by omega)]
    simp [hk]
end Go.Proofs.YtjgifjkdgoijmaaGreat

namespace Go.Proofs.YtjgifjkdgoijmaaGreat
set_option linter.unusedVariables false
set_option maxRecDepth 100000

/-- The number behind n. -/
def nxt (n : Int) : Int := 16807 * n % 2147483647
/-- A number that has one behind it. -/
def Num (n : Int) : Prop := 1 ≤ n ∧ n ≤ 2147483646
theorem Num.nxt {n : Int} (h : Num n) : Num (nxt n) := by
  obtain ⟨h1, h2⟩ := h
  unfold Num Proofs.YtjgifjkdgoijmaaGreat.nxt
  omega
theorem nxt_back {n : Int} (h : Num n) : nxt n * 1407677000 % 2147483647 = n := by
  obtain ⟨h1, h2⟩ := h
  unfold nxt
  omega
/-- The k-th number behind n. -/
def rowV (n : Int) : Nat → Int
  | 0 => n
  | k + 1 => nxt (rowV n k)
theorem Num.rowV {n : Int} (h : Num n) : ∀ k, Num (rowV n k)
  | 0 => h
  | k + 1 => (Num.rowV h k).nxt
end Go.Proofs.YtjgifjkdgoijmaaGreat

namespace Go.Proofs.YtjgifjkdgoijmaaGreat
open Go.RowKit
set_option linter.unusedVariables false
set_option maxRecDepth 100000

theorem may_ok (n : Int) (w : World) (h : Num n) : Calls Tryz.prog 81 #[.int .i64 n] w fun e w' => e = .returned (.bool true) ∧ w = w' := by
  obtain ⟨h1, h2⟩ := h
  go_enter Tryz.func81, Tryz.ntmps81
  go_wp2
  go_ret
  exact ⟨ret_bool (by simp <;> omega), rfl⟩
theorem may_not (n : Int) (w : World) (h : n < 1 ∨ 2147483646 < n) : Calls Tryz.prog 81 #[.int .i64 n] w fun e w' => e = .returned (.bool false) ∧ w = w' := by
  rcases h with h | h
  · go_enter Tryz.func81, Tryz.ntmps81
    go_wp2
    go_ret
    exact ⟨ret_bool (by first | rfl | simp <;> omega), rfl⟩
  · go_enter Tryz.func81, Tryz.ntmps81
    go_wp2
    go_ret
    exact ⟨ret_bool (by first | rfl | simp <;> omega), rfl⟩
theorem step_ok (n : Int) (w : World) (h : Num n) : Calls Tryz.prog 82 #[.int .i64 n] w fun e w' => e = .returned (.int .i64 (nxt n)) ∧ w = w' := by
  obtain ⟨h1, h2⟩ := h
  go_enter Tryz.func82, Tryz.ntmps82
  go_wp2
  go_ret
  exact ⟨ret_int (by unfold nxt; first | rfl | omega), rfl⟩

theorem below_ok (n b : Int) (w : World) (h : Num n) (h1 : 1 ≤ b) (h2 : b ≤ 1000) : Calls Tryz.prog 51 #[.int .i64 n, .int .i64 b] w fun e w' => e = .returned (.tuple #[.int .i64 (nxt n % b), .int .i64 (nxt n), .nilIface]) ∧ w = w' := by
  have M := hide (may_ok n w h)
  have S := hide (step_ok n w h)
  obtain ⟨h3, h4⟩ := h.nxt
  generalize nxt n = x at *
  go_enter Tryz.func51, Tryz.ntmps51
  go_wp2_with fail
  refine (M.out).mono ?_
  rintro e w1 ⟨rfl, rfl⟩
  go_wp2_with fail
  refine (S.out).mono ?_
  rintro e w1 ⟨rfl, rfl⟩
  go_wp2
  go_ret3
  exact ⟨rfl, rfl⟩
theorem below_range (n b : Int) (w : World) (h : ¬ Num n ∨ b < 1 ∨ 1000 < b) : Calls Tryz.prog 51 #[.int .i64 n, .int .i64 b] w fun e w' => e = .returned (.tuple #[.int .i64 0, .int .i64 0, .iface 54 (.int .i64 1)]) ∧ w = w' := by
  by_cases hn : Num n
  · have M := hide (may_ok n w hn)
    by_cases hb : b < 1
    · go_enter Tryz.func51, Tryz.ntmps51
      go_wp2_with fail
      refine (M.out).mono ?_
      rintro e w1 ⟨rfl, rfl⟩
      go_wp2
      go_ret3
      exact ⟨rfl, rfl⟩
    · have hb2 : 1000 < b := by
        rcases h with h | h | h
        · exact absurd hn h
        · omega
        · exact h
      clear h hn
      go_enter Tryz.func51, Tryz.ntmps51
      go_wp2_with fail
      refine (M.out).mono ?_
      rintro e w1 ⟨rfl, rfl⟩
      go_wp2
      go_ret3
      exact ⟨rfl, rfl⟩
  · have M := hide (may_not n w (by unfold Num at hn; omega))
    clear h hn
    go_enter Tryz.func51, Tryz.ntmps51
    go_wp2_with fail
    refine (M.out).mono ?_
    rintro e w1 ⟨rfl, rfl⟩
    go_wp2
    go_ret3
    exact ⟨rfl, rfl⟩
end Go.Proofs.YtjgifjkdgoijmaaGreat
