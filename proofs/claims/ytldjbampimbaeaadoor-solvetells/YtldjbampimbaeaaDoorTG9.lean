/-
  Lemmas for the law above, joined into one text (RDrop, RSolveB). No statement is proved here.
-/
import Derived.Test.YtldjbampimbaeaaDoorTG6
import Derived.Test.YtldjbampimbaeaaDoorTG8
namespace Go.Proofs.YtldjbampimbaeaaDoor
open Go.RowKit Go.Maps
set_option linter.unusedVariables false
set_option maxRecDepth 100000

set_option maxHeartbeats 1000000 in
theorem rdrop_range (k size seed : Int) (s : ByteArray) (w : World) (h : ¬ OkD k size seed) :
    Calls Tryd.prog 21 #[.int .i64 k, .int .i64 size, dropV seed s] w fun e w' => e = .returned (.int .i64 1) ∧ Below w.heap.size w w' := by
  unfold dropV
  by_cases c0 : k < 1
  · clear h
    go_enter Tryd.func21, Tryd.ntmps21
    go_wp2
    go_ret
    exact ⟨rfl, (Below.refl _ _).alloc (Nat.le_refl _) _⟩
  · skip
    by_cases c1 : 16 < k
    · clear h
      go_enter Tryd.func21, Tryd.ntmps21
      go_wp2
      go_ret
      exact ⟨rfl, (Below.refl _ _).alloc (Nat.le_refl _) _⟩
    · skip
      by_cases c2 : size < 1
      · clear h
        go_enter Tryd.func21, Tryd.ntmps21
        go_wp2
        go_ret
        exact ⟨rfl, (Below.refl _ _).alloc (Nat.le_refl _) _⟩
      · skip
        by_cases c3 : 8 < size
        · clear h
          go_enter Tryd.func21, Tryd.ntmps21
          go_wp2
          go_ret
          exact ⟨rfl, (Below.refl _ _).alloc (Nat.le_refl _) _⟩
        · skip
          by_cases c4 : seed < 1
          · clear h
            go_enter Tryd.func21, Tryd.ntmps21
            go_wp2
            go_ret
            exact ⟨rfl, (Below.refl _ _).alloc (Nat.le_refl _) _⟩
          · skip
            by_cases c5 : 10000 < seed
            · clear h
              go_enter Tryd.func21, Tryd.ntmps21
              go_wp2
              go_ret
              exact ⟨rfl, (Below.refl _ _).alloc (Nat.le_refl _) _⟩
            · exact absurd (show OkD k size seed by unfold OkD; omega) h
set_option maxHeartbeats 1000000 in
theorem rdrop_size (k size seed : Int) (s : ByteArray) (w : World) (h : OkD k size seed) :
    Calls Tryd.prog 21 #[.int .i64 k, .int .i64 size, dropV seed s] w fun e w' => e = .returned (.int .i64 (if (s.size : Int) = size then 0 else 3)) ∧ Below w.heap.size w w' := by
  obtain ⟨⟨h1, h2⟩, ⟨h3, h4⟩, h5, h6⟩ := h
  unfold dropV
  have c0 : ¬ k < 1 := by omega
  have c1 : ¬ 16 < k := by omega
  have c2 : ¬ size < 1 := by omega
  have c3 : ¬ 8 < size := by omega
  have c4 : ¬ seed < 1 := by omega
  have c5 : ¬ 10000 < seed := by omega
  clear h1 h2 h3 h4 h5 h6
  by_cases c : (s.size : Int) = size
  · have hne : ((s.size : Int) == size) = true := by rw [beq_iff_eq]; exact c
    rw [if_pos c]
    clear c
    go_enter Tryd.func21, Tryd.ntmps21
    go_wp2
    go_ret
    exact ⟨rfl, (Below.refl _ _).alloc (Nat.le_refl _) _⟩
  · have hne : ((s.size : Int) == size) = false := by rw [beq_eq_false_iff_ne]; exact c
    rw [if_neg c]
    clear c
    go_enter Tryd.func21, Tryd.ntmps21
    go_wp2
    go_ret
    exact ⟨rfl, (Below.refl _ _).alloc (Nat.le_refl _) _⟩
theorem rdrop_any (k size seed : Int) (s : ByteArray) (w : World) :
    Calls Tryd.prog 21 #[.int .i64 k, .int .i64 size, dropV seed s] w fun e w' => e = .returned (.int .i64 (fD k size seed s.size)) ∧ Below w.heap.size w w' := by
  unfold fD
  by_cases h : OkD k size seed
  · rw [if_pos h]; exact rdrop_size k size seed s w h
  · rw [if_neg h]; exact rdrop_range k size seed s w h
end Go.Proofs.YtldjbampimbaeaaDoor

namespace Go.Proofs.YtldjbampimbaeaaDoor
open Go.RowKit
set_option linter.unusedVariables false
set_option maxRecDepth 100000

theorem rdrop_lit (k size seed : Int) (s : ByteArray) (w : World) :
    Calls Tryd.prog 21 #[.int .i64 k, .int .i64 size, .agg #[.int .i64 seed, .string s]] w fun e w' => e = .returned (.int .i64 (fD k size seed s.size)) ∧ Below w.heap.size w w' := rdrop_any k size seed s w
set_option maxHeartbeats 2000000 in
theorem rsolve_bad (k size : Int) (v : Value) (len : Nat) (s : Nat → Int) (d : Nat → ByteArray) (w : World) (hv : DropsAt w v len s d) (hf : fC k size len s d ≠ 0) :
    Calls Tryd.prog 9 #[.int .i64 k, .int .i64 size, v] w fun e w' => e = .returned (.tuple #[.slice none 0 0, .int .i64 (fC k size len s d)]) ∧ Below w.heap.size w w' := by
  obtain ⟨a, cap, rfl, h0⟩ := hv.open
  by_cases hl : 60 < len
  · have e : fC k size len s d = 4 := by unfold fC; rw [if_pos hl]
    rw [e]
    clear e h0 hv hf
    go_enter Tryd.func9, Tryd.ntmps9
    go_wp2
    go_ret2
    exact ⟨rfl, Below.refl _ _⟩
  have hl' : len ≤ 60 := by omega
  by_cases c0 : k < 1
  · have e : fC k size len s d = 1 := by unfold fC; rw [if_neg hl, if_neg (by omega)]
    rw [e]
    clear e h0 hv hf hl
    go_enter Tryd.func9, Tryd.ntmps9
    go_wp2
    go_ret2
    exact ⟨rfl, Below.refl _ _⟩
  by_cases c1 : 16 < k
  · have e : fC k size len s d = 1 := by unfold fC; rw [if_neg hl, if_neg (by omega)]
    rw [e]
    clear e h0 hv hf hl
    go_enter Tryd.func9, Tryd.ntmps9
    go_wp2
    go_ret2
    exact ⟨rfl, Below.refl _ _⟩
  by_cases c2 : size < 1
  · have e : fC k size len s d = 1 := by unfold fC; rw [if_neg hl, if_neg (by omega)]
    rw [e]
    clear e h0 hv hf hl
    go_enter Tryd.func9, Tryd.ntmps9
    go_wp2
    go_ret2
    exact ⟨rfl, Below.refl _ _⟩
  by_cases c3 : 8 < size
  · have e : fC k size len s d = 1 := by unfold fC; rw [if_neg hl, if_neg (by omega)]
    rw [e]
    clear e h0 hv hf hl
    go_enter Tryd.func9, Tryd.ntmps9
    go_wp2
    go_ret2
    exact ⟨rfl, Below.refl _ _⟩
  have e : fC k size len s d = firstF (fun i => fD k size (s i) (d i).size) len := by unfold fC; rw [if_neg hl, if_pos (by omega)]
  rw [e] at hf ⊢
  have H0 := hide h0
  have HNZ := hide hf
  clear e h0 hv hf hl
  go_enter Tryd.func9, Tryd.ntmps9
  go_wp2_with fail
  go_loopw [8] (fun i wr => ∃ j : Nat, j ≤ len ∧ i = .int .i64 j ∧ firstF (fun i => fD k size (s i) (d i).size) j = 0 ∧ Below w.heap.size w wr) (fun i _ => len - (intOf i).toNat)
  case atStart => exact ⟨0, Nat.zero_le _, rfl, rfl, Below.refl _ _⟩
  case round =>
    obtain ⟨j, hj, rfl, hf, hb⟩ := hrel
    have HF := hide hf
    have HB := hide hb
    clear hf hb
    by_cases hlt : j < len
    · obtain ⟨bb, o, ha, hc1, hc2, hc⟩ := H0.out (by omega)
      subst ha
      obtain ⟨q0, q1, _, _⟩ := hc j hlt
      have c0' := cell_below HB.out q0
      have c1' := cell_below HB.out q1
      have HStep : Hid (firstF (fun i => fD k size (s i) (d i).size) (j + 1) = fD k size (s j) (d j).size) := by
        unfold Hid; rw [firstF, if_neg (by simp [HF.out])]
      have HD := hide (fun W => rdrop_lit k size (s j) (d j) W)
      unfold maxLen at hc2
      clear hc q0 q1
      generalize hx : fD k size (s j) (d j).size = x at *
      clear hx
      generalize s j = sj at *
      generalize d j = dj at *
      go_wp2_with fail
      refine (HD.out _).mono ?_
      rintro e w2 ⟨rfl, hb2⟩
      have HB2 := hide (below_two HB.out hb2)
      clear hb2 c0' c1'
      by_cases hx0 : x = 0
      · subst hx0
        go_wp2
        go_roundw
        case rel => exact ⟨j + 1, by omega, by go_num, HStep.out, HB2.out⟩
        case measure => simp [intOf]; omega
      · have hne : (x == 0) = false := by rw [beq_eq_false_iff_ne]; exact hx0
        have hres : Hid (firstF (fun i => fD k size (s i) (d i).size) len = x) := by
          unfold Hid
          rw [firstF_stop (j := j + 1) (by rw [HStep.out]; exact hx0) len (by omega), HStep.out]
        clear hx0
        go_wp2
        go_ret2
        exact ⟨by rw [hres.out]; rfl, HB2.out⟩
    · obtain rfl : j = len := by omega
      exact absurd HF.out HNZ.out
end Go.Proofs.YtldjbampimbaeaaDoor
