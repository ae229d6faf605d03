/-
  Our own contracts of dropsame.Ints and dropsame.Picture, whatever they are handed. Lemmas for the laws above; no statement is proved here.
-/
import Derived.Test.YtcicoblejaippaaDoorSInts
import Derived.Test.YtcicoblejaippaaDoorPicB
namespace Go.Proofs.YtcicoblejaippaaDoor
open Go.RowKit
set_option linter.unusedVariables false
set_option maxRecDepth 100000

set_option maxHeartbeats 1000000 in
theorem ints_rows_any (b o b2 o2 n c c2 : Nat) (f g : Nat → Int) (w : World) (hn : n ≤ 1000000)
    (h1 : ∀ i, i < n → w.cell? ⟨b, o + i, none⟩ = some (.int .i64 (f i))) (h2 : ∀ i, i < n → w.cell? ⟨b2, o2 + i, none⟩ = some (.int .i64 (g i))) :
    Calls Tryd.prog 24 #[.slice (some ⟨b, o, none⟩) n c, .slice (some ⟨b2, o2, none⟩) n c2] w fun e w' => ∃ r : Bool, e = .returned (.bool r) ∧ (r = true ↔ ∀ i, i < n → f i = g i) ∧ Below w.heap.size w w' := by
  have H1 := hide h1
  have H2 := hide h2
  clear h1 h2
  go_enter Tryd.func24, Tryd.ntmps24
  go_wp2
  go_loopw [5] (fun i wr => ∃ j : Nat, j ≤ n ∧ i = .int .i64 j ∧ Below w.heap.size w wr ∧ ∀ q, q < j → f q = g q) (fun i _ => n - (intOf i).toNat)
  case atStart => exact ⟨0, Nat.zero_le _, rfl, Below.refl _ _, fun q hq => absurd hq (Nat.not_lt_zero _)⟩
  case round =>
    obtain ⟨j, hj, rfl, hb, hno⟩ := hrel
    have HN := hide hno
    clear hno
    by_cases hlt : j < n
    · have c1 := cell_below hb (H1.out j hlt)
      have c2 := cell_below hb (H2.out j hlt)
      by_cases hz : f j = g j
      · have HZ := hide hz
        rw [← hz] at c2
        clear hz
        generalize f j = y at c1 c2
        go_wp2_with fail
        go_quiet (fail)
        go_wp2
        go_roundw
        case rel =>
          refine ⟨j + 1, by omega, by go_num, below_drewN hb _, fun q hq => ?_⟩
          by_cases c : q = j
          · rw [c]; exact HZ.out
          · exact HN.out q (by omega)
        case measure => simp [intOf]; omega
      · have HZ := hide hz
        have e1 : (f j == g j) = false := by rw [beq_eq_false_iff_ne]; exact hz
        have e2 : (f j != g j) = true := by simp [bne, e1]
        clear hz
        generalize hfj : f j = y at *
        generalize hgj : g j = z at *
        have F1 := hide hfj
        have F2 := hide hgj
        clear hfj hgj
        go_wp2_with fail
        go_quiet (fail)
        go_wp2
        go_ret
        exact ⟨false, rfl, ⟨fun h => Bool.noConfusion h, fun h => absurd (by rw [← F1.out, ← F2.out]; exact h j hlt) HZ.out⟩, below_drewN hb _⟩
    · obtain rfl : j = n := by omega
      go_wp2
      go_ret
      exact ⟨true, rfl, ⟨fun _ => HN.out, fun _ => rfl⟩, hb⟩

theorem ints_any {v v2 : Value} {n n2 : Nat} {f g : Nat → Int} {w : World} (hn : n ≤ 1000000) (h : IntsIn w v n f) (h2 : IntsIn w v2 n2 g) :
    Calls Tryd.prog 24 #[v, v2] w fun e w' => ∃ r : Bool, e = .returned (.bool r) ∧ (r = true ↔ n = n2 ∧ ∀ i, i < n → f i = g i) ∧ Below w.heap.size w w' := by
  by_cases hne : n = n2
  · subst hne
    rcases h with ⟨rfl, a, c, rfl⟩ | ⟨h0, b, o, c, rfl, hc⟩
    · rcases h2 with ⟨_, a2, c2, rfl⟩ | ⟨h0, _⟩
      · refine (ints_none a a2 c c2 w).mono ?_
        rintro e w' ⟨rfl, hb⟩
        exact ⟨true, rfl, ⟨fun _ => ⟨rfl, fun i hi => absurd hi (Nat.not_lt_zero _)⟩, fun _ => rfl⟩, hb⟩
      · omega
    · rcases h2 with ⟨rfl, _⟩ | ⟨_, b2, o2, c2, rfl, hc2⟩
      · omega
      · refine (ints_rows_any b o b2 o2 n c c2 f g w hn hc hc2).mono ?_
        rintro e w' ⟨r, rfl, hr, hb⟩
        exact ⟨r, rfl, ⟨fun h => ⟨rfl, hr.1 h⟩, fun h => hr.2 h.2⟩, hb⟩
  · obtain ⟨a, c, rfl⟩ : ∃ a c, v = .slice a n c := by
      rcases h with ⟨rfl, a, c, rfl⟩ | ⟨_, b, o, c, rfl, _⟩
      · exact ⟨_, _, rfl⟩
      · exact ⟨_, _, rfl⟩
    obtain ⟨a2, c2, rfl⟩ : ∃ a c, v2 = .slice a n2 c := by
      rcases h2 with ⟨rfl, a, c, rfl⟩ | ⟨_, b, o, c, rfl, _⟩
      · exact ⟨_, _, rfl⟩
      · exact ⟨_, _, rfl⟩
    have HZ := hide hne
    have e1 : ((n : Int) == (n2 : Int)) = false := by rw [beq_eq_false_iff_ne]; omega
    have e2 : ((n : Int) != (n2 : Int)) = true := by simp [bne, e1]
    clear h h2 hne
    go_enter Tryd.func24, Tryd.ntmps24
    go_wp2
    go_ret
    exact ⟨false, rfl, ⟨fun h => Bool.noConfusion h, fun h => absurd h.1 HZ.out⟩, Below.refl _ _⟩

set_option maxHeartbeats 1000000 in
theorem pics_any {v v2 : Value} {n n2 : Nat} {f g : Nat → Int} {w : World} (a b a2 b2 : Int) (hn : n ≤ 1000000) (h : IntsIn w v n f) (h2 : IntsIn w v2 n2 g) :
    Calls Tryd.prog 14 #[.agg #[.int .i64 a, .int .i64 b, v], .agg #[.int .i64 a2, .int .i64 b2, v2]] w fun e w' => ∃ r : Bool, e = .returned (.bool r) ∧ (r = true ↔ a = a2 ∧ b = b2 ∧ n = n2 ∧ ∀ i, i < n → f i = g i) ∧ Below w.heap.size w w' := by
  obtain ⟨W1, hW1⟩ : ∃ W1, W1 = w.alloc (.cells #[.int .i64 a, .int .i64 b, v] 24) := ⟨_, rfl⟩
  obtain ⟨W2, hW2⟩ : ∃ W2, W2 = W1.alloc (.cells #[.int .i64 a2, .int .i64 b2, v2] 24) := ⟨_, rfl⟩
  have b1 : Below w.heap.size w W1 := hW1 ▸ (Below.refl _ _).alloc (Nat.le_refl _) _
  have b2' : Below W1.heap.size W1 W2 := hW2 ▸ (Below.refl _ _).alloc (Nat.le_refl _) _
  have hb2 := below_two b1 b2'
  have p1 : PicIn W2 w.heap.size a b v := PicIn.below (hW1 ▸ picIn_new w a b v) b2'
  have p2 : PicIn W2 (w.heap.size + 1) a2 b2 v2 := by
    have := picIn_new W1 a2 b2 v2
    rw [← hW2] at this
    rwa [show W1.heap.size = w.heap.size + 1 by rw [hW1]; simp] at this
  have I := hide (ints_any hn (h.below hb2) (h2.below hb2))
  have B2 := hide hb2
  subst hW2
  subst hW1
  obtain ⟨⟨c0, _⟩, ⟨c1, _⟩, c2, _⟩ := p1
  obtain ⟨⟨c3, _⟩, ⟨c4, _⟩, c5, _⟩ := p2
  clear h h2 b1 b2' hb2
  by_cases ha : a = a2
  · by_cases hb : b = b2
    · have HA := hide ha
      have HB := hide hb
      have e1 : (a == a2) = true := by rw [beq_iff_eq]; exact ha
      have e2 : (b == b2) = true := by rw [beq_iff_eq]; exact hb
      clear ha hb
      go_enter Tryd.func14, Tryd.ntmps14
      go_wp2_with fail
      refine (I.out).mono ?_
      rintro e w1 ⟨r, rfl, hr, hb1⟩
      have HR := hide hr
      have B3 := hide (below_two B2.out hb1)
      clear hr hb1
      go_wp2
      go_ret
      exact ⟨r, rfl, ⟨fun h => ⟨HA.out, HB.out, HR.out.1 h⟩, fun h => HR.out.2 h.2.2⟩, B3.out⟩
    · have HB := hide hb
      have e1 : (a == a2) = true := by rw [beq_iff_eq]; exact ha
      have e2 : (b == b2) = false := by rw [beq_eq_false_iff_ne]; exact hb
      clear ha hb
      go_enter Tryd.func14, Tryd.ntmps14
      go_wp2
      go_ret
      exact ⟨false, rfl, ⟨fun h => Bool.noConfusion h, fun h => absurd h.2.1 HB.out⟩, B2.out⟩
  · have HA := hide ha
    have e1 : (a == a2) = false := by rw [beq_eq_false_iff_ne]; exact ha
    clear ha
    go_enter Tryd.func14, Tryd.ntmps14
    go_wp2
    go_ret
    exact ⟨false, rfl, ⟨fun h => Bool.noConfusion h, fun h => absurd h.1 HA.out⟩, B2.out⟩
theorem pics_alike {v v2 : Value} {n : Nat} {f g : Nat → Int} {w : World} (a b : Int) (hn : n ≤ 1000000) (h : IntsIn w v n f) (h2 : IntsIn w v2 n g) (e : ∀ i, i < n → f i = g i) :
    Calls Tryd.prog 14 #[.agg #[.int .i64 a, .int .i64 b, v], .agg #[.int .i64 a, .int .i64 b, v2]] w fun e w' => e = .returned (.bool true) ∧ Below w.heap.size w w' := by
  refine (pics_any a b a b hn h h2).mono ?_
  rintro x w' ⟨r, rfl, hr, hb⟩
  rw [hr.2 ⟨rfl, rfl, rfl, e⟩]
  exact ⟨rfl, hb⟩
end Go.Proofs.YtcicoblejaippaaDoor
