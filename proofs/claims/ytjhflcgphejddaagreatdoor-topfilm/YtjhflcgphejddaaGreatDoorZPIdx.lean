/-
  Lemmas for the law above, joined into one text (PIdx). No statement is proved here.
-/
import Derived.Test.YtjhflcgphejddaaGreatDoorZPWait
namespace Go.Proofs.YtjhflcgphejddaaGreatDoor
open Go.RowKit Go.Maps
set_option linter.unusedVariables false
set_option maxRecDepth 100000

set_option maxHeartbeats 2000000 in
theorem idxN_ok {w : World} (B c : Nat) {v : Value} {X : List Wtr} (q : Wtr → Bool) (h : w.ownsRow B 183 2 v X.length (wC X))
    (hK : ∀ W (x : Wtr), Below w.heap.size w W → x ∈ X → Calls Tryz.prog 148 #[.agg #[.slice (some ⟨x.g, 0, none⟩) x.n x.c, .string x.d.2], .pointer (some ⟨c, 0, none⟩)] W fun e w' => e = .returned (.bool (q x)) ∧ Below W.heap.size W w') :
    Calls Tryz.prog 150 #[v, .func (.func 148) #[] #[.pointer (some ⟨c, 0, none⟩)]] w fun e w' => ∃ i : Int, e = .returned (.int .i64 i) ∧ IsIdx (fun j => q (wAt X j)) X.length i ∧ Below w.heap.size w w' := by
  obtain ⟨a, cap, rfl, h1, h2, h3, h4⟩ := own_wtrs h
  have HC := hide h4
  have HA := hide h3
  have K := hide hK
  clear h3 h4 hK h
  unfold maxLen at h2
  go_enter Tryz.func150, Tryz.ntmps150
  go_wp2
  go_loopw [5, 8] (fun _ i wr => ∃ j : Nat, j ≤ X.length ∧ i = .int .i64 j ∧ Below w.heap.size w wr ∧ ∀ p, p < j → q (wAt X p) = false) (fun _ i _ => X.length - (intOf i).toNat)
  case atStart => exact ⟨0, Nat.zero_le _, rfl, Below.refl _ _, fun q hq => absurd hq (Nat.not_lt_zero _)⟩
  case round =>
    obtain ⟨j, hj, rfl, hb, hno⟩ := hrel
    have HN := hide hno
    clear hno
    by_cases hlt : j < X.length
    · obtain ⟨g, ha⟩ := HA.out (by omega)
      subst ha
      have hc := HC.out g rfl j hlt
      have hc1 := cell_below hb hc.1
      have hc2 := cell_below hb hc.2
      have hK := K.out wr _ hb (wAt_mem hlt)
      have HB := hide hb
      clear hb hc
      generalize hx : wAt X j = x at *
      have HX := hide hx
      clear hx
      cases hq : q x with
      | true =>
        rw [hq] at hK
        have HQ := hide hq
        clear hq
        obtain ⟨gx, nx, cx, sx, bx⟩ := x
        simp only at hc1 hc2 hK
        go_wp2_with (go_at_call 148; refine hK.mono ?_; rintro e w1 ⟨rfl, hb1⟩)
        go_ret
        exact ⟨_, rfl, Or.inr ⟨j, rfl, hlt, by show q (wAt X j) = true; rw [HX.out]; exact HQ.out, HN.out⟩, below_two HB.out hb1⟩
      | false =>
        rw [hq] at hK
        have HQ := hide hq
        clear hq
        obtain ⟨gx, nx, cx, sx, bx⟩ := x
        simp only at hc1 hc2 hK
        go_wp2_with (go_at_call 148; refine hK.mono ?_; rintro e w1 ⟨rfl, hb1⟩)
        go_roundw
        case rel =>
          refine ⟨j + 1, by omega, by go_num, below_two HB.out hb1, fun p hp => ?_⟩
          by_cases e : p = j
          · rw [e, HX.out]; exact HQ.out
          · exact HN.out p (by omega)
        case measure => simp [intOf]; omega
    · obtain rfl : j = X.length := by omega
      go_wp2
      go_ret
      exact ⟨_, rfl, Or.inl ⟨rfl, HN.out⟩, hb⟩

set_option maxHeartbeats 2000000 in
theorem idxO_ok {w : World} (B c : Nat) {v : Value} {X : List Wtr} (q : Wtr → Bool) (h : w.ownsRow B 183 2 v X.length (wC X))
    (hK : ∀ W (x : Wtr), Below w.heap.size w W → x ∈ X → Calls Tryz.prog 151 #[.agg #[.slice (some ⟨x.g, 0, none⟩) x.n x.c, .string x.d.2], .pointer (some ⟨c, 0, none⟩)] W fun e w' => e = .returned (.bool (q x)) ∧ Below W.heap.size W w') :
    Calls Tryz.prog 150 #[v, .func (.func 151) #[] #[.pointer (some ⟨c, 0, none⟩)]] w fun e w' => ∃ i : Int, e = .returned (.int .i64 i) ∧ IsIdx (fun j => q (wAt X j)) X.length i ∧ Below w.heap.size w w' := by
  obtain ⟨a, cap, rfl, h1, h2, h3, h4⟩ := own_wtrs h
  have HC := hide h4
  have HA := hide h3
  have K := hide hK
  clear h3 h4 hK h
  unfold maxLen at h2
  go_enter Tryz.func150, Tryz.ntmps150
  go_wp2
  go_loopw [5, 8] (fun _ i wr => ∃ j : Nat, j ≤ X.length ∧ i = .int .i64 j ∧ Below w.heap.size w wr ∧ ∀ p, p < j → q (wAt X p) = false) (fun _ i _ => X.length - (intOf i).toNat)
  case atStart => exact ⟨0, Nat.zero_le _, rfl, Below.refl _ _, fun q hq => absurd hq (Nat.not_lt_zero _)⟩
  case round =>
    obtain ⟨j, hj, rfl, hb, hno⟩ := hrel
    have HN := hide hno
    clear hno
    by_cases hlt : j < X.length
    · obtain ⟨g, ha⟩ := HA.out (by omega)
      subst ha
      have hc := HC.out g rfl j hlt
      have hc1 := cell_below hb hc.1
      have hc2 := cell_below hb hc.2
      have hK := K.out wr _ hb (wAt_mem hlt)
      have HB := hide hb
      clear hb hc
      generalize hx : wAt X j = x at *
      have HX := hide hx
      clear hx
      cases hq : q x with
      | true =>
        rw [hq] at hK
        have HQ := hide hq
        clear hq
        obtain ⟨gx, nx, cx, sx, bx⟩ := x
        simp only at hc1 hc2 hK
        go_wp2_with (go_at_call 151; refine hK.mono ?_; rintro e w1 ⟨rfl, hb1⟩)
        go_ret
        exact ⟨_, rfl, Or.inr ⟨j, rfl, hlt, by show q (wAt X j) = true; rw [HX.out]; exact HQ.out, HN.out⟩, below_two HB.out hb1⟩
      | false =>
        rw [hq] at hK
        have HQ := hide hq
        clear hq
        obtain ⟨gx, nx, cx, sx, bx⟩ := x
        simp only at hc1 hc2 hK
        go_wp2_with (go_at_call 151; refine hK.mono ?_; rintro e w1 ⟨rfl, hb1⟩)
        go_roundw
        case rel =>
          refine ⟨j + 1, by omega, by go_num, below_two HB.out hb1, fun p hp => ?_⟩
          by_cases e : p = j
          · rw [e, HX.out]; exact HQ.out
          · exact HN.out p (by omega)
        case measure => simp [intOf]; omega
    · obtain rfl : j = X.length := by omega
      go_wp2
      go_ret
      exact ⟨_, rfl, Or.inl ⟨rfl, HN.out⟩, hb⟩

end Go.Proofs.YtjhflcgphejddaaGreatDoor
