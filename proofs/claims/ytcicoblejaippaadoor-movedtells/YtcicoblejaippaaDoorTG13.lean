/-
  Lemmas for the law above, joined into one text (PicM, PicI). No statement is proved here.
-/
import Derived.Test.YtcicoblejaippaaDoorTG4
import Derived.Test.YtcicoblejaippaaDoorTG2
import Derived.Deep.DeepCutAuto
namespace Go.Proofs.YtcicoblejaippaaDoor
open Go.RowKit
set_option linter.unusedVariables false
set_option maxRecDepth 100000

set_option maxHeartbeats 1000000 in
theorem pnear_ok {w : World} {s : Value} {n : Nat} {f : Nat → Int} {a b : Int} {A B : Nat} (x y : Int) (h : IntsIn w s n f) (o : PicOk a b n f A B) :
    Calls Tryd.prog 31 #[.agg #[.int .i64 a, .int .i64 b, s], .int .i64 x, .int .i64 y] w fun e w' => e = .returned (.int .i64 (f (near y B * A + near x A))) ∧ Below w.heap.size w w' := by
  have hl := o.le
  have h0 := o.pos
  obtain ⟨ad, oo, cap, rfl, hc⟩ : ∃ ad oo cap, s = .slice (some ⟨ad, oo, none⟩) n cap ∧ ∀ i, i < n → w.cell? ⟨ad, oo + i, none⟩ = some (.int .i64 (f i)) := by
    rcases h with ⟨h, _⟩ | ⟨_, b, o, c, rfl, hc⟩
    · omega
    · exact ⟨_, _, _, rfl, hc⟩
  have b1 : Below w.heap.size w (w.alloc (.cells #[.int .i64 a, .int .i64 b, .slice (some ⟨ad, oo, none⟩) n cap] 24)) := (Below.refl _ _).alloc (Nat.le_refl _) _
  have p1 := picIn_new w a b (.slice (some ⟨ad, oo, none⟩) n cap)
  obtain ⟨⟨c0, _⟩, ⟨c1, _⟩, c2, _⟩ := p1
  have HB := hide b1
  have ea := o.wide
  have eb := o.high
  subst ea
  subst eb
  have a1 := o.w1
  have a6 := o.w6
  have b1' := o.h1
  have b6 := o.h6
  have nx := near_lt x o.w1
  have ny := near_lt y o.h1
  have hq : near y B * A + near x A < n := by
    have h3 : (near y B + 1) * A ≤ B * A := Nat.mul_le_mul_right _ (by omega)
    rw [Nat.add_mul, Nat.one_mul] at h3
    rw [o.many, Nat.mul_comm A B]
    omega
  have hcell := cell_below b1 (hc _ hq)
  have IX := hide (near_int x o.w1)
  have IY := hide (near_int y o.h1)
  have hqi : ((near y B : Nat) : Int) * (A : Int) + ((near x A : Nat) : Int) = ((near y B * A + near x A : Nat) : Int) := by rw [Int.natCast_add, Int.natCast_mul]
  have hp0 : (0 : Int) ≤ ((near y B : Nat) : Int) * (A : Int) := Int.mul_nonneg (by omega) (by omega)
  have hp1 : ((near y B : Nat) : Int) * (A : Int) ≤ 36 := by omega
  clear h hc o b1
  generalize hQ : near y B * A + near x A = q at *
  generalize hX : near x A = xx at *
  generalize hY : near y B = yy at *
  clear hQ hX hY
  go_enter Tryd.func31, Tryd.ntmps31
  go_upto_region 1 with fail
  go_cut [1] (fun t wx => t = .int .i64 xx ∧ wx = w.alloc (.cells #[.int .i64 A, .int .i64 B, .slice (some ⟨ad, oo, none⟩) n cap] 24))
  case first =>
    go_wp2
    all_goals
      go_meet
      refine ⟨?_, rfl⟩
      rw [IX.out]
      congr 1
      first | omega | ((repeat' split) <;> omega)
  case rest =>
  obtain ⟨rfl, rfl⟩ := hcut
  go_upto_region 2 with fail
  go_cut [2] (fun t wx => t = .int .i64 yy ∧ wx = w.alloc (.cells #[.int .i64 A, .int .i64 B, .slice (some ⟨ad, oo, none⟩) n cap] 24))
  case first =>
    go_wp2
    all_goals
      go_meet
      refine ⟨?_, rfl⟩
      rw [IY.out]
      congr 1
      first | omega | ((repeat' split) <;> omega)
  case rest =>
  obtain ⟨rfl, rfl⟩ := hcut
  generalize hz : f q = z at *
  have HZ := hide hz
  clear hz
  go_wp2
  go_ret
  exact ⟨ret_int HZ.out.symm, HB.out⟩
end Go.Proofs.YtcicoblejaippaaDoor

namespace Go.Proofs.YtcicoblejaippaaDoor
open Go.RowKit
set_option linter.unusedVariables false
set_option maxRecDepth 100000

theorem pnot_ok (n : Int) (w : World) : Calls Tryd.prog 38 #[.int .i64 n] w fun e w' => e = .returned (.bool (!pixelOk n)) ∧ w = w' := by
  have K := hide (ppixel_ok n w)
  go_enter Tryd.func38, Tryd.ntmps38
  go_wp2_with fail
  refine (K.out).mono ?_
  rintro e w1 ⟨rfl, rfl⟩
  go_wp2
  go_ret
  exact ⟨rfl, rfl⟩

/-- Where a first one is found, or that none is. -/
def IsAt (q : Nat → Bool) (n : Nat) (i : Int) : Prop := (i = -1 ∧ ∀ j, j < n → q j = false) ∨ ∃ j : Nat, i = j ∧ j < n ∧ q j = true

set_option maxHeartbeats 1000000 in
theorem pidx_ok {w : World} {v : Value} {n : Nat} {f : Nat → Int} (h : IntsIn w v n f) (hn : n ≤ 1000) :
    Calls Tryd.prog 47 #[v, .func (.func 38) #[] #[]] w fun e w' => ∃ i : Int, e = .returned (.int .i64 i) ∧ IsAt (fun j => !pixelOk (f j)) n i ∧ w = w' := by
  rcases h with ⟨rfl, a, cap, rfl⟩ | ⟨h0, b, o, cap, rfl, hc⟩
  · go_enter Tryd.func47, Tryd.ntmps47
    go_wp2
    go_loop [8] (fun i => i = .int .i64 0) (fun _ => 0)
    case atStart => rfl
    case round =>
      obtain rfl := hrel
      go_wp2
      go_ret
      exact ⟨_, rfl, Or.inl ⟨rfl, fun j hj => absurd hj (Nat.not_lt_zero _)⟩, rfl⟩
  · have HC := hide hc
    clear hc
    go_enter Tryd.func47, Tryd.ntmps47
    go_wp2
    go_loop [5, 8] (fun _ i => ∃ j : Nat, j ≤ n ∧ i = .int .i64 j ∧ ∀ q, q < j → pixelOk (f q) = true) (fun _ i => n - (intOf i).toNat)
    case atStart => exact ⟨0, Nat.zero_le _, rfl, fun q hq => absurd hq (Nat.not_lt_zero _)⟩
    case round =>
      obtain ⟨j, hj, rfl, hno⟩ := hrel
      have HN := hide hno
      clear hno
      by_cases hlt : j < n
      · have hc := HC.out j hlt
        have K := hide (pnot_ok (f j) w)
        generalize hx : f j = x at *
        have HX := hide hx
        clear hx
        cases hq : pixelOk x with
        | false =>
          have HQ := hide hq
          rw [hq] at K
          clear hq
          go_wp2_with (go_at_call 38; refine (K.out).mono ?_; rintro e w1 ⟨rfl, rfl⟩)
          go_ret
          exact ⟨_, rfl, Or.inr ⟨j, rfl, hlt, by show (!pixelOk (f j)) = true; rw [HX.out, HQ.out]; rfl⟩, rfl⟩
        | true =>
          have HQ := hide hq
          rw [hq] at K
          clear hq
          go_wp2_with (go_at_call 38; refine (K.out).mono ?_; rintro e w1 ⟨rfl, rfl⟩)
          go_round
          case rel =>
            refine ⟨j + 1, by omega, by go_num, fun q hq => ?_⟩
            by_cases c : q = j
            · rw [c, HX.out]; exact HQ.out
            · exact HN.out q (by omega)
          case measure => simp [intOf]; omega
      · obtain rfl : j = n := by omega
        go_wp2
        go_ret
        exact ⟨_, rfl, Or.inl ⟨rfl, fun q hq => by show (!pixelOk (f q)) = false; rw [HN.out q hq]; rfl⟩, rfl⟩

theorem pcont_ok {w : World} {v : Value} {n : Nat} {f : Nat → Int} (h : IntsIn w v n f) (hn : n ≤ 1000) :
    Calls Tryd.prog 37 #[v, .func (.func 38) #[] #[]] w fun e w' => e = .returned (.bool (!pixOk n f)) ∧ w = w' := by
  have K := hide (pidx_ok h hn)
  clear h
  go_enter Tryd.func37, Tryd.ntmps37
  go_wp2_with fail
  refine (K.out).mono ?_
  rintro e w1 ⟨i, rfl, hi, rfl⟩
  rcases hi with ⟨rfl, ha⟩ | ⟨j, rfl, hj, hq⟩
  · have e : pixOk n f = true := pixOk_iff.2 fun i hi => pixelOk_iff.1 (by have := ha i hi; simpa using this)
    have HE := hide e
    clear e ha
    go_wp2
    go_ret
    exact ⟨ret_bool (by rw [HE.out]; rfl), rfl⟩
  · have e : pixOk n f = false := by
      rw [← Bool.not_eq_true, pixOk_iff]
      intro hall
      have h9 := pixelOk_iff.2 (hall j hj)
      simp [h9] at hq
    have HE := hide e
    clear e hq
    go_wp2
    go_ret
    exact ⟨ret_bool (by rw [HE.out]; rfl), rfl⟩
end Go.Proofs.YtcicoblejaippaaDoor
