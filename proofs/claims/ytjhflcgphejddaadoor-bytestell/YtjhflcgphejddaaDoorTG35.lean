/-
  Lemmas for the law above, joined into one text (ByN, SInts, PicQI). No statement is proved here.
-/
import Derived.Test.YtjhflcgphejddaaDoorTG29
import Derived.Test.YtjhflcgphejddaaDoorTG34
import Derived.Test.YtjhflcgphejddaaDoorTG0
import Derived.Deep.QuietTactic
import Derived.BigQuiet
import Derived.Test.YtjhflcgphejddaaDoorTG8
namespace Go.Proofs.YtjhflcgphejddaaDoor
open Go.RowKit
set_option linter.unusedVariables false
set_option maxRecDepth 100000

/-- What bytes are read as: too many, none, or this film. -/
def Fate (t : ByteArray) (x : Nat) (a b s : Int) (N : Nat) (C : Nat → Cd) : Prop :=
  (x = 4 ∧ 120 < t.size ∧ a = 0 ∧ b = 0 ∧ s = 0 ∧ N = 0) ∨ (x = 2 ∧ t.size ≤ 120 ∧ NoFilm t ∧ a = 0 ∧ b = 0 ∧ s = 0 ∧ N = 0) ∨ (x = 0 ∧ t.size ≤ 120 ∧ bytF a b s N C = 0 ∧ bytS a b s N C = t)
theorem cods_none (w : World) (C : Nat → Cd) : CodsIn w (.slice none 0 0) 0 C := ⟨none, 0, rfl, Nat.le_refl _, by unfold maxLen; omega, fun h => absurd h (Nat.lt_irrefl _)⟩
theorem rb_fate {t : ByteArray} {w w' : World} {e : Ending} (h : RBp t w e w') : ∃ (a b s : Int) (u : Value) (x N : Nat) (C : Nat → Cd), e = .returned (.tuple #[.int .i64 a, .int .i64 b, .int .i64 s, u, .int .i64 x]) ∧ Hid (CodsIn w' u N C) ∧ Hid (Fate t x a b s N C) ∧ Hid (Below w.heap.size w w') := by
  obtain ⟨h, hb⟩ := h
  rcases h with ⟨h1, rfl⟩ | ⟨h1, h2, rfl⟩ | ⟨h1, a, b, s, N, C, u, h2, h3, rfl, h4⟩
  · exact ⟨0, 0, 0, _, 4, 0, fun _ => ⟨false, 0, 0, 0, fun _ => 0⟩, rfl, cods_none _ _, Or.inl ⟨rfl, h1, rfl, rfl, rfl, rfl⟩, hb⟩
  · exact ⟨0, 0, 0, _, 2, 0, fun _ => ⟨false, 0, 0, 0, fun _ => 0⟩, rfl, cods_none _ _, Or.inr (Or.inl ⟨rfl, h1, h2, rfl, rfl, rfl, rfl⟩), hb⟩
  · exact ⟨a, b, s, u, 0, N, C, rfl, h4, Or.inr (Or.inr ⟨rfl, h1, h2, h3⟩), hb⟩
theorem ub_fate {t : ByteArray} {w w' : World} {e : Ending} (h : UBp t w e w') : ∃ (a b s : Int) (u : Value) (x N : Nat) (C : Nat → Cd), e = .returned (.tuple #[.int .i64 a, .int .i64 b, .int .i64 s, u, errN x]) ∧ Hid (CodsIn w' u N C) ∧ Hid (Fate t x a b s N C) ∧ Hid (Below w.heap.size w w') := by
  obtain ⟨h, hb⟩ := h
  rcases h with ⟨h1, rfl⟩ | ⟨h1, h2, rfl⟩ | ⟨h1, a, b, s, N, C, u, h2, h3, rfl, h4⟩
  · exact ⟨0, 0, 0, _, 4, 0, fun _ => ⟨false, 0, 0, 0, fun _ => 0⟩, rfl, cods_none _ _, Or.inl ⟨rfl, h1, rfl, rfl, rfl, rfl⟩, hb⟩
  · exact ⟨0, 0, 0, _, 2, 0, fun _ => ⟨false, 0, 0, 0, fun _ => 0⟩, rfl, cods_none _ _, Or.inr (Or.inl ⟨rfl, h1, h2, rfl, rfl, rfl, rfl⟩), hb⟩
  · exact ⟨a, b, s, u, 0, N, C, rfl, h4, Or.inr (Or.inr ⟨rfl, h1, h2, h3⟩), hb⟩
/-- The fate is one. -/
theorem fate_one {t : ByteArray} {x x' : Nat} {a b s a' b' s' : Int} {N N' : Nat} {C C' : Nat → Cd} (h : Fate t x a b s N C) (h' : Fate t x' a' b' s' N' C') : x = x' ∧ a = a' ∧ b = b' ∧ s = s' ∧ N = N' ∧ N ≤ 6 ∧ (∀ i, i < N → (C i).n ≤ 36) ∧ ∀ i, i < N → (C i).al = (C' i).al ∧ (C i).x = (C' i).x ∧ (C i).y = (C' i).y ∧ (C i).n = (C' i).n ∧ ∀ k, k < (C i).n → (C i).f k = (C' i).f k := by
  rcases h with ⟨rfl, q1, rfl, rfl, rfl, rfl⟩ | ⟨rfl, q1, q2, rfl, rfl, rfl, rfl⟩ | ⟨rfl, q1, q2, q3⟩
  · rcases h' with ⟨rfl, r1, rfl, rfl, rfl, rfl⟩ | ⟨rfl, r1, r2, rfl, rfl, rfl, rfl⟩ | ⟨rfl, r1, r2, r3⟩
    · exact ⟨rfl, rfl, rfl, rfl, rfl, by omega, fun i hi => absurd hi (Nat.not_lt_zero _), fun i hi => absurd hi (Nat.not_lt_zero _)⟩
    · omega
    · omega
  · rcases h' with ⟨rfl, r1, rfl, rfl, rfl, rfl⟩ | ⟨rfl, r1, r2, rfl, rfl, rfl, rfl⟩ | ⟨rfl, r1, r2, r3⟩
    · omega
    · exact ⟨rfl, rfl, rfl, rfl, rfl, by omega, fun i hi => absurd hi (Nat.not_lt_zero _), fun i hi => absurd hi (Nat.not_lt_zero _)⟩
    · exact absurd r3 (q2 _ _ _ _ _ r2)
  · rcases h' with ⟨rfl, r1, rfl, rfl, rfl, rfl⟩ | ⟨rfl, r1, r2, rfl, rfl, rfl, rfl⟩ | ⟨rfl, r1, r2, r3⟩
    · omega
    · exact absurd q3 (r2 _ _ _ _ _ q2)
    · obtain ⟨e1, e2, e3, e4, e5⟩ := bytS_one q2 r2 (q3.trans r3.symm)
      obtain ⟨A, B, o⟩ := see_ok (bytF_zero.1 q2).1
      exact ⟨rfl, e1, e2, e3, e4, o.six, fun i hi => by rw [(o.each i hi).n]; exact o.le, e5⟩
end Go.Proofs.YtjhflcgphejddaaDoor

namespace Go.Proofs.YtjhflcgphejddaaDoor
open Go.RowKit
set_option linter.unusedVariables false
set_option maxRecDepth 100000

set_option maxHeartbeats 1000000 in
theorem ints_rows (b o b2 o2 n c c2 : Nat) (f : Nat → Int) (w : World) (hn : n ≤ 1000000)
    (h1 : ∀ i, i < n → w.cell? ⟨b, o + i, none⟩ = some (.int .i64 (f i))) (h2 : ∀ i, i < n → w.cell? ⟨b2, o2 + i, none⟩ = some (.int .i64 (f i))) :
    Calls Tryd.prog 45 #[.slice (some ⟨b, o, none⟩) n c, .slice (some ⟨b2, o2, none⟩) n c2] w fun e w' => e = .returned (.bool true) ∧ Below w.heap.size w w' := by
  have H1 := hide h1
  have H2 := hide h2
  clear h1 h2
  go_enter Tryd.func45, Tryd.ntmps45
  go_wp2
  go_loopw [5] (fun i wr => ∃ j : Nat, j ≤ n ∧ i = .int .i64 j ∧ Below w.heap.size w wr) (fun i _ => n - (intOf i).toNat)
  case atStart => exact ⟨0, Nat.zero_le _, rfl, Below.refl _ _⟩
  case round =>
    obtain ⟨j, hj, rfl, hb⟩ := hrel
    by_cases hlt : j < n
    · have c1 := cell_below hb (H1.out j hlt)
      have c2 := cell_below hb (H2.out j hlt)
      generalize f j = y at *
      go_wp2_with fail
      go_quiet (fail)
      go_wp2
      go_roundw
      case rel => exact ⟨j + 1, by omega, by go_num, below_drewN hb _⟩
      case measure => simp [intOf]; omega
    · go_wp2
      go_ret
      exact ⟨rfl, hb⟩
theorem ints_none (a a2 : Option Addr) (c c2 : Nat) (w : World) :
    Calls Tryd.prog 45 #[.slice a 0 c, .slice a2 0 c2] w fun e w' => e = .returned (.bool true) ∧ Below w.heap.size w w' := by
  go_enter Tryd.func45, Tryd.ntmps45
  go_wp2
  go_loop [5] (fun i => i = .int .i64 0) (fun _ => 0)
  case atStart => rfl
  case round =>
    obtain rfl := hrel
    go_wp2
    go_ret
    exact ⟨rfl, Below.refl _ _⟩
theorem ints_same {v v2 : Value} {n : Nat} {f : Nat → Int} {w : World} (hn : n ≤ 1000000) (h : IntsIn w v n f) (h2 : IntsIn w v2 n f) :
    Calls Tryd.prog 45 #[v, v2] w fun e w' => e = .returned (.bool true) ∧ Below w.heap.size w w' := by
  rcases h with ⟨rfl, a, c, rfl⟩ | ⟨h0, b, o, c, rfl, hc⟩
  · rcases h2 with ⟨_, a2, c2, rfl⟩ | ⟨h0, _⟩
    · exact ints_none a a2 c c2 w
    · omega
  · rcases h2 with ⟨rfl, _⟩ | ⟨_, b2, o2, c2, rfl, hc2⟩
    · omega
    · exact ints_rows b o b2 o2 n c c2 f w hn hc hc2
end Go.Proofs.YtjhflcgphejddaaDoor

namespace Go.Proofs.YtjhflcgphejddaaDoor
open Go.RowKit
set_option linter.unusedVariables false
set_option maxRecDepth 100000

set_option maxHeartbeats 1000000 in
theorem ints_rows_any (b o b2 o2 n c c2 : Nat) (f g : Nat → Int) (w : World) (hn : n ≤ 1000000)
    (h1 : ∀ i, i < n → w.cell? ⟨b, o + i, none⟩ = some (.int .i64 (f i))) (h2 : ∀ i, i < n → w.cell? ⟨b2, o2 + i, none⟩ = some (.int .i64 (g i))) :
    Calls Tryd.prog 45 #[.slice (some ⟨b, o, none⟩) n c, .slice (some ⟨b2, o2, none⟩) n c2] w fun e w' => ∃ r : Bool, e = .returned (.bool r) ∧ (r = true ↔ ∀ i, i < n → f i = g i) ∧ Below w.heap.size w w' := by
  have H1 := hide h1
  have H2 := hide h2
  clear h1 h2
  go_enter Tryd.func45, Tryd.ntmps45
  go_wp2
  go_loopw [5] (fun i wr => ∃ j : Nat, j ≤ n ∧ i = .int .i64 j ∧ Below w.heap.size w wr ∧ ∀ q, q < j → f q = g q) (fun i _ => n - (intOf i).toNat)
  case atStart => exact ⟨0, Nat.zero_le _, rfl, Below.refl _ _, fun q hq => absurd hq (Nat.not_lt_zero _)⟩
  case round =>
    obtain ⟨j, hj, rfl, hb, hno⟩ := hrel
    have HN := hide hno
    clear hno
    by_cases hlt : j < n
    · have c1 := cell_below hb (H1.out j hlt)
      have c2 := cell_below hb (H2.out j hlt)
      by_cases hz : f j = g j
      · have HZ := hide hz
        rw [← hz] at c2
        clear hz
        generalize f j = y at c1 c2
        go_wp2_with fail
        go_quiet (fail)
        go_wp2
        go_roundw
        case rel =>
          refine ⟨j + 1, by omega, by go_num, below_drewN hb _, fun q hq => ?_⟩
          by_cases c : q = j
          · rw [c]; exact HZ.out
          · exact HN.out q (by omega)
        case measure => simp [intOf]; omega
      · have HZ := hide hz
        have e1 : (f j == g j) = false := by rw [beq_eq_false_iff_ne]; exact hz
        have e2 : (f j != g j) = true := by simp [bne, e1]
        clear hz
        generalize hfj : f j = y at *
        generalize hgj : g j = z at *
        have F1 := hide hfj
        have F2 := hide hgj
        clear hfj hgj
        go_wp2_with fail
        go_quiet (fail)
        go_wp2
        go_ret
        exact ⟨false, rfl, ⟨fun h => Bool.noConfusion h, fun h => absurd (by rw [← F1.out, ← F2.out]; exact h j hlt) HZ.out⟩, below_drewN hb _⟩
    · obtain rfl : j = n := by omega
      go_wp2
      go_ret
      exact ⟨true, rfl, ⟨fun _ => HN.out, fun _ => rfl⟩, hb⟩

theorem ints_any {v v2 : Value} {n n2 : Nat} {f g : Nat → Int} {w : World} (hn : n ≤ 1000000) (h : IntsIn w v n f) (h2 : IntsIn w v2 n2 g) :
    Calls Tryd.prog 45 #[v, v2] w fun e w' => ∃ r : Bool, e = .returned (.bool r) ∧ (r = true ↔ n = n2 ∧ ∀ i, i < n → f i = g i) ∧ Below w.heap.size w w' := by
  by_cases hne : n = n2
  · subst hne
    rcases h with ⟨rfl, a, c, rfl⟩ | ⟨h0, b, o, c, rfl, hc⟩
    · rcases h2 with ⟨_, a2, c2, rfl⟩ | ⟨h0, _⟩
      · refine (ints_none a a2 c c2 w).mono ?_
        rintro e w' ⟨rfl, hb⟩
        exact ⟨true, rfl, ⟨fun _ => ⟨rfl, fun i hi => absurd hi (Nat.not_lt_zero _)⟩, fun _ => rfl⟩, hb⟩
      · omega
    · rcases h2 with ⟨rfl, _⟩ | ⟨_, b2, o2, c2, rfl, hc2⟩
      · omega
      · refine (ints_rows_any b o b2 o2 n c c2 f g w hn hc hc2).mono ?_
        rintro e w' ⟨r, rfl, hr, hb⟩
        exact ⟨r, rfl, ⟨fun h => ⟨rfl, hr.1 h⟩, fun h => hr.2 h.2⟩, hb⟩
  · obtain ⟨a, c, rfl⟩ : ∃ a c, v = .slice a n c := by
      rcases h with ⟨rfl, a, c, rfl⟩ | ⟨_, b, o, c, rfl, _⟩
      · exact ⟨_, _, rfl⟩
      · exact ⟨_, _, rfl⟩
    obtain ⟨a2, c2, rfl⟩ : ∃ a c, v2 = .slice a n2 c := by
      rcases h2 with ⟨rfl, a, c, rfl⟩ | ⟨_, b, o, c, rfl, _⟩
      · exact ⟨_, _, rfl⟩
      · exact ⟨_, _, rfl⟩
    have HZ := hide hne
    have e1 : ((n : Int) == (n2 : Int)) = false := by rw [beq_eq_false_iff_ne]; omega
    have e2 : ((n : Int) != (n2 : Int)) = true := by simp [bne, e1]
    clear h h2 hne
    go_enter Tryd.func45, Tryd.ntmps45
    go_wp2
    go_ret
    exact ⟨false, rfl, ⟨fun h => Bool.noConfusion h, fun h => absurd h.1 HZ.out⟩, Below.refl _ _⟩
end Go.Proofs.YtjhflcgphejddaaDoor
