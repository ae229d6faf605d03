/-
  Lemmas for the law above, joined into one text (SInts, PicQI, MvQ, FlSf). No statement is proved here.
-/
import Derived.Test.YtjhflcgphejddaaDoorHG4
import Derived.Deep.QuietTactic
import Derived.BigQuiet
import Derived.Test.YtjhflcgphejddaaDoorHG5
import Derived.Test.YtjhflcgphejddaaDoorHG6
import Derived.Test.YtjhflcgphejddaaDoorHG9
import Derived.Deep.RegionHeld3
namespace Go.Proofs.YtjhflcgphejddaaDoor
open Go.RowKit
set_option linter.unusedVariables false
set_option maxRecDepth 100000

set_option maxHeartbeats 1000000 in
theorem ints_rows (b o b2 o2 n c c2 : Nat) (f : Nat → Int) (w : World) (hn : n ≤ 1000000)
    (h1 : ∀ i, i < n → w.cell? ⟨b, o + i, none⟩ = some (.int .i64 (f i))) (h2 : ∀ i, i < n → w.cell? ⟨b2, o2 + i, none⟩ = some (.int .i64 (f i))) :
    Calls Tryd.prog 45 #[.slice (some ⟨b, o, none⟩) n c, .slice (some ⟨b2, o2, none⟩) n c2] w fun e w' => e = .returned (.bool true) ∧ Below w.heap.size w w' := by
  have H1 := hide h1
  have H2 := hide h2
  clear h1 h2
  go_enter Tryd.func45, Tryd.ntmps45
  go_wp2
  go_loopw [5] (fun i wr => ∃ j : Nat, j ≤ n ∧ i = .int .i64 j ∧ Below w.heap.size w wr) (fun i _ => n - (intOf i).toNat)
  case atStart => exact ⟨0, Nat.zero_le _, rfl, Below.refl _ _⟩
  case round =>
    obtain ⟨j, hj, rfl, hb⟩ := hrel
    by_cases hlt : j < n
    · have c1 := cell_below hb (H1.out j hlt)
      have c2 := cell_below hb (H2.out j hlt)
      generalize f j = y at *
      go_wp2_with fail
      go_quiet (fail)
      go_wp2
      go_roundw
      case rel => exact ⟨j + 1, by omega, by go_num, below_drewN hb _⟩
      case measure => simp [intOf]; omega
    · go_wp2
      go_ret
      exact ⟨rfl, hb⟩
theorem ints_none (a a2 : Option Addr) (c c2 : Nat) (w : World) :
    Calls Tryd.prog 45 #[.slice a 0 c, .slice a2 0 c2] w fun e w' => e = .returned (.bool true) ∧ Below w.heap.size w w' := by
  go_enter Tryd.func45, Tryd.ntmps45
  go_wp2
  go_loop [5] (fun i => i = .int .i64 0) (fun _ => 0)
  case atStart => rfl
  case round =>
    obtain rfl := hrel
    go_wp2
    go_ret
    exact ⟨rfl, Below.refl _ _⟩
theorem ints_same {v v2 : Value} {n : Nat} {f : Nat → Int} {w : World} (hn : n ≤ 1000000) (h : IntsIn w v n f) (h2 : IntsIn w v2 n f) :
    Calls Tryd.prog 45 #[v, v2] w fun e w' => e = .returned (.bool true) ∧ Below w.heap.size w w' := by
  rcases h with ⟨rfl, a, c, rfl⟩ | ⟨h0, b, o, c, rfl, hc⟩
  · rcases h2 with ⟨_, a2, c2, rfl⟩ | ⟨h0, _⟩
    · exact ints_none a a2 c c2 w
    · omega
  · rcases h2 with ⟨rfl, _⟩ | ⟨_, b2, o2, c2, rfl, hc2⟩
    · omega
    · exact ints_rows b o b2 o2 n c c2 f w hn hc hc2
end Go.Proofs.YtjhflcgphejddaaDoor

namespace Go.Proofs.YtjhflcgphejddaaDoor
open Go.RowKit
set_option linter.unusedVariables false
set_option maxRecDepth 100000

set_option maxHeartbeats 1000000 in
theorem ints_rows_any (b o b2 o2 n c c2 : Nat) (f g : Nat → Int) (w : World) (hn : n ≤ 1000000)
    (h1 : ∀ i, i < n → w.cell? ⟨b, o + i, none⟩ = some (.int .i64 (f i))) (h2 : ∀ i, i < n → w.cell? ⟨b2, o2 + i, none⟩ = some (.int .i64 (g i))) :
    Calls Tryd.prog 45 #[.slice (some ⟨b, o, none⟩) n c, .slice (some ⟨b2, o2, none⟩) n c2] w fun e w' => ∃ r : Bool, e = .returned (.bool r) ∧ (r = true ↔ ∀ i, i < n → f i = g i) ∧ Below w.heap.size w w' := by
  have H1 := hide h1
  have H2 := hide h2
  clear h1 h2
  go_enter Tryd.func45, Tryd.ntmps45
  go_wp2
  go_loopw [5] (fun i wr => ∃ j : Nat, j ≤ n ∧ i = .int .i64 j ∧ Below w.heap.size w wr ∧ ∀ q, q < j → f q = g q) (fun i _ => n - (intOf i).toNat)
  case atStart => exact ⟨0, Nat.zero_le _, rfl, Below.refl _ _, fun q hq => absurd hq (Nat.not_lt_zero _)⟩
  case round =>
    obtain ⟨j, hj, rfl, hb, hno⟩ := hrel
    have HN := hide hno
    clear hno
    by_cases hlt : j < n
    · have c1 := cell_below hb (H1.out j hlt)
      have c2 := cell_below hb (H2.out j hlt)
      by_cases hz : f j = g j
      · have HZ := hide hz
        rw [← hz] at c2
        clear hz
        generalize f j = y at c1 c2
        go_wp2_with fail
        go_quiet (fail)
        go_wp2
        go_roundw
        case rel =>
          refine ⟨j + 1, by omega, by go_num, below_drewN hb _, fun q hq => ?_⟩
          by_cases c : q = j
          · rw [c]; exact HZ.out
          · exact HN.out q (by omega)
        case measure => simp [intOf]; omega
      · have HZ := hide hz
        have e1 : (f j == g j) = false := by rw [beq_eq_false_iff_ne]; exact hz
        have e2 : (f j != g j) = true := by simp [bne, e1]
        clear hz
        generalize hfj : f j = y at *
        generalize hgj : g j = z at *
        have F1 := hide hfj
        have F2 := hide hgj
        clear hfj hgj
        go_wp2_with fail
        go_quiet (fail)
        go_wp2
        go_ret
        exact ⟨false, rfl, ⟨fun h => Bool.noConfusion h, fun h => absurd (by rw [← F1.out, ← F2.out]; exact h j hlt) HZ.out⟩, below_drewN hb _⟩
    · obtain rfl : j = n := by omega
      go_wp2
      go_ret
      exact ⟨true, rfl, ⟨fun _ => HN.out, fun _ => rfl⟩, hb⟩

theorem ints_any {v v2 : Value} {n n2 : Nat} {f g : Nat → Int} {w : World} (hn : n ≤ 1000000) (h : IntsIn w v n f) (h2 : IntsIn w v2 n2 g) :
    Calls Tryd.prog 45 #[v, v2] w fun e w' => ∃ r : Bool, e = .returned (.bool r) ∧ (r = true ↔ n = n2 ∧ ∀ i, i < n → f i = g i) ∧ Below w.heap.size w w' := by
  by_cases hne : n = n2
  · subst hne
    rcases h with ⟨rfl, a, c, rfl⟩ | ⟨h0, b, o, c, rfl, hc⟩
    · rcases h2 with ⟨_, a2, c2, rfl⟩ | ⟨h0, _⟩
      · refine (ints_none a a2 c c2 w).mono ?_
        rintro e w' ⟨rfl, hb⟩
        exact ⟨true, rfl, ⟨fun _ => ⟨rfl, fun i hi => absurd hi (Nat.not_lt_zero _)⟩, fun _ => rfl⟩, hb⟩
      · omega
    · rcases h2 with ⟨rfl, _⟩ | ⟨_, b2, o2, c2, rfl, hc2⟩
      · omega
      · refine (ints_rows_any b o b2 o2 n c c2 f g w hn hc hc2).mono ?_
        rintro e w' ⟨r, rfl, hr, hb⟩
        exact ⟨r, rfl, ⟨fun h => ⟨rfl, hr.1 h⟩, fun h => hr.2 h.2⟩, hb⟩
  · obtain ⟨a, c, rfl⟩ : ∃ a c, v = .slice a n c := by
      rcases h with ⟨rfl, a, c, rfl⟩ | ⟨_, b, o, c, rfl, _⟩
      · exact ⟨_, _, rfl⟩
      · exact ⟨_, _, rfl⟩
    obtain ⟨a2, c2, rfl⟩ : ∃ a c, v2 = .slice a n2 c := by
      rcases h2 with ⟨rfl, a, c, rfl⟩ | ⟨_, b, o, c, rfl, _⟩
      · exact ⟨_, _, rfl⟩
      · exact ⟨_, _, rfl⟩
    have HZ := hide hne
    have e1 : ((n : Int) == (n2 : Int)) = false := by rw [beq_eq_false_iff_ne]; omega
    have e2 : ((n : Int) != (n2 : Int)) = true := by simp [bne, e1]
    clear h h2 hne
    go_enter Tryd.func45, Tryd.ntmps45
    go_wp2
    go_ret
    exact ⟨false, rfl, ⟨fun h => Bool.noConfusion h, fun h => absurd h.1 HZ.out⟩, Below.refl _ _⟩
end Go.Proofs.YtjhflcgphejddaaDoor

namespace Go.Proofs.YtjhflcgphejddaaDoor
open Go.RowKit
set_option linter.unusedVariables false
set_option maxRecDepth 100000

set_option maxHeartbeats 1000000 in
theorem codes_alike {v v2 : Value} {n : Nat} {f : Nat → Int} {w : World} (al : Bool) (x y : Int) (hn : n ≤ 1000000) (h : IntsIn w v n f) (h2 : IntsIn w v2 n f) :
    Calls Tryd.prog 25 #[.agg #[.bool al, .int .i64 x, .int .i64 y, v], .agg #[.bool al, .int .i64 x, .int .i64 y, v2]] w fun e w' => e = .returned (.bool true) ∧ Below w.heap.size w w' := by
  obtain ⟨W1, hW1⟩ : ∃ W1, W1 = w.alloc (.cells #[.bool al, .int .i64 x, .int .i64 y, v] 40) := ⟨_, rfl⟩
  obtain ⟨W2, hW2⟩ : ∃ W2, W2 = W1.alloc (.cells #[.bool al, .int .i64 x, .int .i64 y, v2] 40) := ⟨_, rfl⟩
  have b1 : Below w.heap.size w W1 := hW1 ▸ (Below.refl _ _).alloc (Nat.le_refl _) _
  have b12 : Below W1.heap.size W1 W2 := hW2 ▸ (Below.refl _ _).alloc (Nat.le_refl _) _
  have b2 := below_two b1 b12
  have z1 : W1.heap.size = w.heap.size + 1 := by rw [hW1]; simp
  have p1 : CodIn W2 w.heap.size al x y v := CodIn.below (hW1 ▸ codIn_new w al x y v) b12
  have p2 : CodIn W2 (w.heap.size + 1) al x y v2 := by
    have := codIn_new W1 al x y v2
    rw [← hW2, z1] at this
    exact this
  have K := hide (ints_same hn (h.below b2) (h2.below b2))
  have B2 := hide b2
  obtain ⟨c0, c1, c2, c3, _, _, _, _⟩ := p1
  obtain ⟨d0, d1, d2, d3, _, _, _, _⟩ := p2
  obtain ⟨ad, cap, rfl⟩ := slice_shape h
  obtain ⟨ad2, cap2, rfl⟩ := slice_shape h2
  have q0 : (al == al) = true := by simp
  have q1 : (x == x) = true := by simp
  have q2 : (y == y) = true := by simp
  subst hW2
  subst hW1
  clear h h2 b1 b12 b2 z1
  go_enter Tryd.func25, Tryd.ntmps25
  go_wp2_with fail
  refine (K.out).mono ?_
  rintro e w1 ⟨rfl, hb1⟩
  have B3 := hide (below_two B2.out hb1)
  clear hb1
  go_wp2
  go_ret
  exact ⟨ret_bool (by first | rfl | simp), B3.out⟩
end Go.Proofs.YtjhflcgphejddaaDoor

namespace Go.Proofs.YtjhflcgphejddaaDoor
open Go.RowKit
set_option linter.unusedVariables false
set_option maxRecDepth 100000

set_option maxHeartbeats 4000000 in
theorem films_same {v v2 : Value} {N : Nat} {C : Nat → Cd} {w : World} (hN : N ≤ 1000) (hn : ∀ i, i < N → (C i).n ≤ 1000000) (h : CodsIn w v N C) (h2 : CodsIn w v2 N C) :
    Calls Tryd.prog 11 #[v, v2] w fun e w' => e = .returned (.bool true) ∧ Below w.heap.size w w' := by
  have H1 := hide h
  have H2 := hide h2
  have HN := hide hn
  obtain ⟨ad, cap, rfl, _, _, h3⟩ := h
  obtain ⟨ad2, cap2, rfl, _, _, h4⟩ := h2
  have H3 := hide h3
  have H4 := hide h4
  clear h3 h4 hn
  go_enter Tryd.func11, Tryd.ntmps11
  go_wp2
  go_loopw [5] (fun i wr => ∃ j : Nat, j ≤ N ∧ i = .int .i64 j ∧ Below w.heap.size w wr) (fun i _ => N - (intOf i).toNat)
  case atStart => exact ⟨0, Nat.zero_le _, rfl, Below.refl _ _⟩
  case round =>
    obtain ⟨j, hj, rfl, hb⟩ := hrel
    have HB := hide hb
    clear hb
    by_cases hlt : j < N
    · obtain ⟨b, o, rfl, hc⟩ := H3.out (by omega)
      obtain ⟨b2, o2, rfl, hc2⟩ := H4.out (by omega)
      obtain ⟨s, hs⟩ := hc j hlt
      obtain ⟨s2, hs2⟩ := hc2 j hlt
      obtain ⟨c0, c1, c2, c3, hi⟩ := hs.below HB.out
      obtain ⟨d0, d1, d2, d3, hi2⟩ := hs2.below HB.out
      have K := hide (fun W (hW : Below wr.heap.size wr W) => codes_alike (C j).al (C j).x (C j).y (HN.out j hlt) (hi.below hW) (hi2.below hW))
      clear hc hc2 hs hs2 H3 H4 hi hi2
      generalize (C j).al = ca at *
      generalize (C j).x = cx at *
      generalize (C j).y = cy at *
      go_wp2_with fail
      go_region_held3 (fun w' => w'.cell? ⟨b, o + j * 4, none⟩ = some (.bool ca) ∧ w'.cell? ⟨b, o + j * 4 + 1, none⟩ = some (.int .i64 cx) ∧ w'.cell? ⟨b, o + j * 4 + 2, none⟩ = some (.int .i64 cy) ∧ w'.cell? ⟨b, o + j * 4 + 3, none⟩ = some s ∧ w'.cell? ⟨b2, o2 + j * 4, none⟩ = some (.bool ca) ∧ w'.cell? ⟨b2, o2 + j * 4 + 1, none⟩ = some (.int .i64 cx) ∧ w'.cell? ⟨b2, o2 + j * 4 + 2, none⟩ = some (.int .i64 cy) ∧ w'.cell? ⟨b2, o2 + j * 4 + 3, none⟩ = some s2) (first | go_keep | exact ⟨cell_below hb3 c0, cell_below hb3 c1, cell_below hb3 c2, cell_below hb3 c3, cell_below hb3 d0, cell_below hb3 d1, cell_below hb3 d2, cell_below hb3 d3⟩)
        (first | (go_at_call 25; refine (K.out wr.drew ⟨rfl, rfl, rfl, Nat.le_refl _, fun _ _ => rfl⟩).mono ?_; rintro e w3 ⟨rfl, hb3'⟩; have hb3 : Below wr.heap.size wr w3 := ⟨hb3'.os, hb3'.tape, hb3'.output, hb3'.size, hb3'.block⟩))
      have HB3 := hide (HB.out.trans (hb3.mono HB.out.size))
      clear hb3 hb3' c0 c1 c2 c3 d0 d1 d2 d3 K
      go_wp2
      go_roundw
      case rel => exact ⟨j + 1, by omega, by go_num, HB3.out⟩
      case measure => simp [intOf]; omega
    · obtain rfl : j = N := by omega
      go_wp2
      go_ret
      exact ⟨rfl, HB.out⟩
end Go.Proofs.YtjhflcgphejddaaDoor
