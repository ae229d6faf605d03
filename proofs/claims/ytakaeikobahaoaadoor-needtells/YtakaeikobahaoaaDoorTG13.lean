/-
  Lemmas for the law above, joined into one text (Told, ErrIs, SInts, InOwn). No statement is proved here.
-/
import Derived.Test.YtakaeikobahaoaaDoorTAs
import Derived.Test.YtakaeikobahaoaaDoorTG1
import Derived.Deep.QuietTactic
import Derived.BigQuiet
import Derived.Test.YtakaeikobahaoaaDoorTG3
namespace Go.Proofs.YtakaeikobahaoaaDoor
open Go.RowKit Go.Extern.Stop Go.Stop Go.Extern
set_option linter.unusedVariables false
set_option maxRecDepth 100000

/-- What the row's list of variables gives: the cell of errors.errorType. -/
def HasErr (w : World) : Prop := w.cell? ⟨0, 0, none⟩ = some (.iface 107 (.agg #[.pointer (some ⟨1, 25, none⟩)]))
theorem HasErr.lt {w : World} (h : HasErr w) : 0 < w.heap.size := by
  rcases Nat.lt_or_ge 0 w.heap.size with h' | h'
  · exact h'
  · simp [HasErr, World.cell?, Array.getElem?_eq_none h'] at h
theorem HasErr.below {w w' : World} (h : HasErr w) {B : Nat} (hB : 0 < B) (hb : Below B w w') : HasErr w' :=
  (hb.cell (p := ⟨0, 0, none⟩) hB).trans h

theorem told_nil (w : World) : Calls Tryd.prog 17 #[.nilIface] w fun e w' => e = .returned (.int .i64 0) ∧ w = w' := by
  go_enter Tryd.func17, Tryd.ntmps17
  go_wp2
  go_ret
  exact ⟨rfl, rfl⟩
set_option maxHeartbeats 1000000 in
theorem told_hit (n : Int) (w : World) (hg : HasErr w) : Calls Tryd.prog 17 #[.iface 48 (.int .i64 n)] w fun e w' => e = .returned (.int .i64 n) ∧ Below w.heap.size w w' := by
  have hA := as_hit n ⟨w.heap.size, 0, none⟩ (.int .i64 0) (w.alloc (.cells #[.int .i64 0] 48)) (by rw [World.cell?_alloc_lt _ _ ⟨0, 0, none⟩ hg.lt]; exact hg) (by simp) (by simp)
  have K := hide hA
  clear hA
  go_enter Tryd.func17, Tryd.ntmps17
  go_wp2_with fail
  refine (K.out).mono ?_
  rintro e w1 ⟨rfl, rfl⟩
  go_wp2
  go_ret
  refine ⟨rfl, ?_⟩
  repeat (first | exact Below.refl _ _ | refine Below.alloc ?_ (by simp <;> omega) _)
theorem error_nil (x : Int) (w : World) : Calls Tryd.prog 8 #[.nilIface, .int .i64 x] w fun e w' => e = .returned (.bool (0 == x)) ∧ w = w' := by
  go_enter Tryd.func8, Tryd.ntmps8
  go_wp2_with fail
  refine (told_nil _).mono ?_
  rintro e w1 ⟨rfl, rfl⟩
  go_wp2
  go_ret
  exact ⟨rfl, rfl⟩
theorem error_hit (n x : Int) (w : World) (hg : HasErr w) : Calls Tryd.prog 8 #[.iface 48 (.int .i64 n), .int .i64 x] w fun e w' => e = .returned (.bool (n == x)) ∧ Below w.heap.size w w' := by
  go_enter Tryd.func8, Tryd.ntmps8
  go_wp2_with fail
  refine (told_hit _ _ hg).mono ?_
  rintro e w1 ⟨rfl, hb⟩
  go_wp2
  go_ret
  exact ⟨rfl, hb⟩

/-! What the row's list gives a walk, and a world that meets it. -/
theorem errGlobal : Tryd.prog.globalNamed "errors.errorType" = some 0 := by kernel_rfl
theorem errRt : (Tryd.prog.cutTypes.find? (·.1 == "internal/reflectlite.rtype")).map (·.2) = some 107 := by kernel_rfl
theorem errOneRow : ((List.range 158).filter fun t => Tryd.prog.rowNamed t [101, 114, 114, 111, 114]) = [25] := by kernel_rfl
theorem errSize : Tryd.prog.types.size = 158 := by kernel_rfl
theorem hasErr_of_laid {W : World} (h : laidMetH Tryd.prog [("errors.errorType", Rows.laid_errors_errorType)] W) : HasErr W := by
  have h' : laidMet Tryd.prog [] W ∧ handlesMet Tryd.prog [("errors.errorType", Rows.laid_errors_errorType)] W := h
  obtain ⟨name, u, ty, e1, e2, e3, e4, e5⟩ := h'.2 _ (List.mem_singleton.2 rfl)
  have en : name = [101, 114, 114, 111, 114] := (Option.some.inj e1).symm
  subst en
  obtain rfl := Option.some.inj (errRt.symm.trans e2)
  have hm : ty ∈ (List.range 158).filter fun t => Tryd.prog.rowNamed t [101, 114, 114, 111, 114] := List.mem_filter.2 ⟨List.mem_range.2 (by rw [← errSize]; exact e3), e4⟩
  rw [errOneRow] at hm
  obtain rfl := List.mem_singleton.1 hm
  have hh : typeHandle Tryd.prog 25 = .pointer (some ⟨1, 25, none⟩) := by kernel_rfl
  rw [hh] at e5
  have := World.var?_cell errGlobal e5 0
  simpa [HasErr] using this
end Go.Proofs.YtakaeikobahaoaaDoor

namespace Go.Proofs.YtakaeikobahaoaaDoor
open Go.RowKit
set_option linter.unusedVariables false
set_option maxRecDepth 100000

/-- The error that stands for the number x: none for 0. -/
def ErrIs (x : Int) (err : Value) : Prop := (x = 0 ∧ err = .nilIface) ∨ err = .iface 48 (.int .i64 x)
theorem error_right (x : Int) (err : Value) (w : World) (hg : HasErr w) (h : ErrIs x err) :
    Calls Tryd.prog 8 #[err, .int .i64 x] w fun e w' => e = .returned (.bool true) ∧ Below w.heap.size w w' := by
  rcases h with ⟨rfl, rfl⟩ | rfl
  · exact (error_nil 0 w).mono fun e w' ⟨he, hw⟩ => ⟨he, hw ▸ Below.refl _ _⟩
  · exact (error_hit x x w hg).mono fun e w' ⟨he, hb⟩ => ⟨by rw [he]; simp, hb⟩
end Go.Proofs.YtakaeikobahaoaaDoor

namespace Go.Proofs.YtakaeikobahaoaaDoor
open Go.RowKit
set_option linter.unusedVariables false
set_option maxRecDepth 100000

/-- A slice that holds the numbers f 0, .., f (n-1). -/
def IntsIn (w : World) (v : Value) (n : Nat) (f : Nat → Int) : Prop :=
  (n = 0 ∧ ∃ a cap, v = .slice a 0 cap) ∨ (0 < n ∧ ∃ b o cap, v = .slice (some ⟨b, o, none⟩) n cap ∧ ∀ i, i < n → w.cell? ⟨b, o + i, none⟩ = some (.int .i64 (f i)))
theorem IntsIn.below {w w' : World} {v : Value} {n : Nat} {f : Nat → Int} (h : IntsIn w v n f) (hb : Below w.heap.size w w') : IntsIn w' v n f := by
  rcases h with h | ⟨h0, b, o, cap, rfl, hc⟩
  · exact Or.inl h
  · exact Or.inr ⟨h0, b, o, cap, rfl, fun i hi => cell_below hb (hc i hi)⟩
theorem IntsIn.congr {w : World} {v : Value} {n : Nat} {f g : Nat → Int} (h : IntsIn w v n f) (e : ∀ i, i < n → f i = g i) : IntsIn w v n g := by
  rcases h with h | ⟨h0, b, o, cap, rfl, hc⟩
  · exact Or.inl h
  · exact Or.inr ⟨h0, b, o, cap, rfl, fun i hi => by rw [← e i hi]; exact hc i hi⟩

set_option maxHeartbeats 1000000 in
theorem ints_rows (b o b2 o2 n c c2 : Nat) (f : Nat → Int) (w : World) (hn : n ≤ 1000000)
    (h1 : ∀ i, i < n → w.cell? ⟨b, o + i, none⟩ = some (.int .i64 (f i))) (h2 : ∀ i, i < n → w.cell? ⟨b2, o2 + i, none⟩ = some (.int .i64 (f i))) :
    Calls Tryd.prog 10 #[.slice (some ⟨b, o, none⟩) n c, .slice (some ⟨b2, o2, none⟩) n c2] w fun e w' => e = .returned (.bool true) ∧ Below w.heap.size w w' := by
  have H1 := hide h1
  have H2 := hide h2
  clear h1 h2
  go_enter Tryd.func10, Tryd.ntmps10
  go_wp2
  go_loopw [5] (fun i wr => ∃ j : Nat, j ≤ n ∧ i = .int .i64 j ∧ Below w.heap.size w wr) (fun i _ => n - (intOf i).toNat)
  case atStart => exact ⟨0, Nat.zero_le _, rfl, Below.refl _ _⟩
  case round =>
    obtain ⟨j, hj, rfl, hb⟩ := hrel
    by_cases hlt : j < n
    · have c1 := cell_below hb (H1.out j hlt)
      have c2 := cell_below hb (H2.out j hlt)
      generalize f j = y at *
      go_wp2_with fail
      go_quiet (fail)
      go_wp2
      go_roundw
      case rel => exact ⟨j + 1, by omega, by go_num, below_drewN hb _⟩
      case measure => simp [intOf]; omega
    · go_wp2
      go_ret
      exact ⟨rfl, hb⟩
theorem ints_none (a a2 : Option Addr) (c c2 : Nat) (w : World) :
    Calls Tryd.prog 10 #[.slice a 0 c, .slice a2 0 c2] w fun e w' => e = .returned (.bool true) ∧ Below w.heap.size w w' := by
  go_enter Tryd.func10, Tryd.ntmps10
  go_wp2
  go_loop [5] (fun i => i = .int .i64 0) (fun _ => 0)
  case atStart => rfl
  case round =>
    obtain rfl := hrel
    go_wp2
    go_ret
    exact ⟨rfl, Below.refl _ _⟩
theorem ints_same {v v2 : Value} {n : Nat} {f : Nat → Int} {w : World} (hn : n ≤ 1000000) (h : IntsIn w v n f) (h2 : IntsIn w v2 n f) :
    Calls Tryd.prog 10 #[v, v2] w fun e w' => e = .returned (.bool true) ∧ Below w.heap.size w w' := by
  rcases h with ⟨rfl, a, c, rfl⟩ | ⟨h0, b, o, c, rfl, hc⟩
  · rcases h2 with ⟨_, a2, c2, rfl⟩ | ⟨h0, _⟩
    · exact ints_none a a2 c c2 w
    · omega
  · rcases h2 with ⟨rfl, _⟩ | ⟨_, b2, o2, c2, rfl, hc2⟩
    · omega
    · exact ints_rows b o b2 o2 n c c2 f w hn hc hc2
end Go.Proofs.YtakaeikobahaoaaDoor

namespace Go.Proofs.YtakaeikobahaoaaDoor
open Go.RowKit
set_option linter.unusedVariables false
set_option maxRecDepth 100000

/-- Ints that the call owns, as a slice of numbers. -/
theorem own_in {w : World} {B : Nat} {v : Value} {n : Nat} {f : Nat → Int} (h : w.ownsRow B 3 1 v n ((List.range n).map fun k : Nat => .int .i64 (f k))) : IntsIn w v n f := by
  rcases Nat.eq_zero_or_pos n with rfl | h0
  · rcases h.2 with ⟨hv, _⟩ | ⟨g, cap, cur, hv, _⟩
    · exact Or.inl ⟨rfl, _, _, hv⟩
    · exact Or.inl ⟨rfl, _, _, hv⟩
  · obtain ⟨g, cap, hv, _, _, hc⟩ := own_ints h h0
    exact Or.inr ⟨h0, g, 0, cap, hv, hc⟩
end Go.Proofs.YtakaeikobahaoaaDoor
