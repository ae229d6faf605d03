/-
  Lemmas for the law above, joined into one text (MvQ, FlSf, ErrN). No statement is proved here.
-/
import Derived.Test.YtjhflcgphejddaaDoorTG35
import Derived.Test.YtjhflcgphejddaaDoorTG9
import Derived.Test.YtjhflcgphejddaaDoorTG4
import Derived.Deep.RegionHeld3
import Derived.Test.YtjhflcgphejddaaDoorTG0
namespace Go.Proofs.YtjhflcgphejddaaDoor
open Go.RowKit
set_option linter.unusedVariables false
set_option maxRecDepth 100000

set_option maxHeartbeats 1000000 in
theorem codes_alike {v v2 : Value} {n : Nat} {f : Nat → Int} {w : World} (al : Bool) (x y : Int) (hn : n ≤ 1000000) (h : IntsIn w v n f) (h2 : IntsIn w v2 n f) :
    Calls Tryd.prog 25 #[.agg #[.bool al, .int .i64 x, .int .i64 y, v], .agg #[.bool al, .int .i64 x, .int .i64 y, v2]] w fun e w' => e = .returned (.bool true) ∧ Below w.heap.size w w' := by
  obtain ⟨W1, hW1⟩ : ∃ W1, W1 = w.alloc (.cells #[.bool al, .int .i64 x, .int .i64 y, v] 40) := ⟨_, rfl⟩
  obtain ⟨W2, hW2⟩ : ∃ W2, W2 = W1.alloc (.cells #[.bool al, .int .i64 x, .int .i64 y, v2] 40) := ⟨_, rfl⟩
  have b1 : Below w.heap.size w W1 := hW1 ▸ (Below.refl _ _).alloc (Nat.le_refl _) _
  have b12 : Below W1.heap.size W1 W2 := hW2 ▸ (Below.refl _ _).alloc (Nat.le_refl _) _
  have b2 := below_two b1 b12
  have z1 : W1.heap.size = w.heap.size + 1 := by rw [hW1]; simp
  have p1 : CodIn W2 w.heap.size al x y v := CodIn.below (hW1 ▸ codIn_new w al x y v) b12
  have p2 : CodIn W2 (w.heap.size + 1) al x y v2 := by
    have := codIn_new W1 al x y v2
    rw [← hW2, z1] at this
    exact this
  have K := hide (ints_same hn (h.below b2) (h2.below b2))
  have B2 := hide b2
  obtain ⟨c0, c1, c2, c3, _, _, _, _⟩ := p1
  obtain ⟨d0, d1, d2, d3, _, _, _, _⟩ := p2
  obtain ⟨ad, cap, rfl⟩ := slice_shape h
  obtain ⟨ad2, cap2, rfl⟩ := slice_shape h2
  have q0 : (al == al) = true := by simp
  have q1 : (x == x) = true := by simp
  have q2 : (y == y) = true := by simp
  subst hW2
  subst hW1
  clear h h2 b1 b12 b2 z1
  go_enter Tryd.func25, Tryd.ntmps25
  go_wp2_with fail
  refine (K.out).mono ?_
  rintro e w1 ⟨rfl, hb1⟩
  have B3 := hide (below_two B2.out hb1)
  clear hb1
  go_wp2
  go_ret
  exact ⟨ret_bool (by first | rfl | simp), B3.out⟩
end Go.Proofs.YtjhflcgphejddaaDoor

namespace Go.Proofs.YtjhflcgphejddaaDoor
open Go.RowKit
set_option linter.unusedVariables false
set_option maxRecDepth 100000

set_option maxHeartbeats 4000000 in
theorem films_same {v v2 : Value} {N : Nat} {C : Nat → Cd} {w : World} (hN : N ≤ 1000) (hn : ∀ i, i < N → (C i).n ≤ 1000000) (h : CodsIn w v N C) (h2 : CodsIn w v2 N C) :
    Calls Tryd.prog 11 #[v, v2] w fun e w' => e = .returned (.bool true) ∧ Below w.heap.size w w' := by
  have H1 := hide h
  have H2 := hide h2
  have HN := hide hn
  obtain ⟨ad, cap, rfl, _, _, h3⟩ := h
  obtain ⟨ad2, cap2, rfl, _, _, h4⟩ := h2
  have H3 := hide h3
  have H4 := hide h4
  clear h3 h4 hn
  go_enter Tryd.func11, Tryd.ntmps11
  go_wp2
  go_loopw [5] (fun i wr => ∃ j : Nat, j ≤ N ∧ i = .int .i64 j ∧ Below w.heap.size w wr) (fun i _ => N - (intOf i).toNat)
  case atStart => exact ⟨0, Nat.zero_le _, rfl, Below.refl _ _⟩
  case round =>
    obtain ⟨j, hj, rfl, hb⟩ := hrel
    have HB := hide hb
    clear hb
    by_cases hlt : j < N
    · obtain ⟨b, o, rfl, hc⟩ := H3.out (by omega)
      obtain ⟨b2, o2, rfl, hc2⟩ := H4.out (by omega)
      obtain ⟨s, hs⟩ := hc j hlt
      obtain ⟨s2, hs2⟩ := hc2 j hlt
      obtain ⟨c0, c1, c2, c3, hi⟩ := hs.below HB.out
      obtain ⟨d0, d1, d2, d3, hi2⟩ := hs2.below HB.out
      have K := hide (fun W (hW : Below wr.heap.size wr W) => codes_alike (C j).al (C j).x (C j).y (HN.out j hlt) (hi.below hW) (hi2.below hW))
      clear hc hc2 hs hs2 H3 H4 hi hi2
      generalize (C j).al = ca at *
      generalize (C j).x = cx at *
      generalize (C j).y = cy at *
      go_wp2_with fail
      go_region_held3 (fun w' => w'.cell? ⟨b, o + j * 4, none⟩ = some (.bool ca) ∧ w'.cell? ⟨b, o + j * 4 + 1, none⟩ = some (.int .i64 cx) ∧ w'.cell? ⟨b, o + j * 4 + 2, none⟩ = some (.int .i64 cy) ∧ w'.cell? ⟨b, o + j * 4 + 3, none⟩ = some s ∧ w'.cell? ⟨b2, o2 + j * 4, none⟩ = some (.bool ca) ∧ w'.cell? ⟨b2, o2 + j * 4 + 1, none⟩ = some (.int .i64 cx) ∧ w'.cell? ⟨b2, o2 + j * 4 + 2, none⟩ = some (.int .i64 cy) ∧ w'.cell? ⟨b2, o2 + j * 4 + 3, none⟩ = some s2) (first | go_keep | exact ⟨cell_below hb3 c0, cell_below hb3 c1, cell_below hb3 c2, cell_below hb3 c3, cell_below hb3 d0, cell_below hb3 d1, cell_below hb3 d2, cell_below hb3 d3⟩)
        (first | (go_at_call 25; refine (K.out wr.drew ⟨rfl, rfl, rfl, Nat.le_refl _, fun _ _ => rfl⟩).mono ?_; rintro e w3 ⟨rfl, hb3'⟩; have hb3 : Below wr.heap.size wr w3 := ⟨hb3'.os, hb3'.tape, hb3'.output, hb3'.size, hb3'.block⟩))
      have HB3 := hide (HB.out.trans (hb3.mono HB.out.size))
      clear hb3 hb3' c0 c1 c2 c3 d0 d1 d2 d3 K
      go_wp2
      go_roundw
      case rel => exact ⟨j + 1, by omega, by go_num, HB3.out⟩
      case measure => simp [intOf]; omega
    · obtain rfl : j = N := by omega
      go_wp2
      go_ret
      exact ⟨rfl, HB.out⟩
end Go.Proofs.YtjhflcgphejddaaDoor

namespace Go.Proofs.YtjhflcgphejddaaDoor
open Go.RowKit
set_option linter.unusedVariables false
set_option maxRecDepth 100000

/-- The error that stands for the number x: none for 0. -/
def ErrIs (x : Int) (err : Value) : Prop := (x = 0 ∧ err = .nilIface) ∨ err = .iface 60 (.int .i64 x)
end Go.Proofs.YtjhflcgphejddaaDoor
