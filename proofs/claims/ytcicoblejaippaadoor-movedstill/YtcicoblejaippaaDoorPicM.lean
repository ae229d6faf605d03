/-
  Our own contract of picture.nearest. Lemmas for the laws above; no statement is proved here.
-/
import Derived.Test.YtcicoblejaippaaDoorPicE
import Derived.Test.YtcicoblejaippaaDoorPicB
import Derived.Deep.DeepCutAuto
namespace Go.Proofs.YtcicoblejaippaaDoor
open Go.RowKit
set_option linter.unusedVariables false
set_option maxRecDepth 100000

set_option maxHeartbeats 1000000 in
theorem pnear_ok {w : World} {s : Value} {n : Nat} {f : Nat → Int} {a b : Int} {A B : Nat} (x y : Int) (h : IntsIn w s n f) (o : PicOk a b n f A B) :
    Calls Tryd.prog 31 #[.agg #[.int .i64 a, .int .i64 b, s], .int .i64 x, .int .i64 y] w fun e w' => e = .returned (.int .i64 (f (near y B * A + near x A))) ∧ Below w.heap.size w w' := by
  have hl := o.le
  have h0 := o.pos
  obtain ⟨ad, oo, cap, rfl, hc⟩ : ∃ ad oo cap, s = .slice (some ⟨ad, oo, none⟩) n cap ∧ ∀ i, i < n → w.cell? ⟨ad, oo + i, none⟩ = some (.int .i64 (f i)) := by
    rcases h with ⟨h, _⟩ | ⟨_, b, o, c, rfl, hc⟩
    · omega
    · exact ⟨_, _, _, rfl, hc⟩
  have b1 : Below w.heap.size w (w.alloc (.cells #[.int .i64 a, .int .i64 b, .slice (some ⟨ad, oo, none⟩) n cap] 24)) := (Below.refl _ _).alloc (Nat.le_refl _) _
  have p1 := picIn_new w a b (.slice (some ⟨ad, oo, none⟩) n cap)
  obtain ⟨⟨c0, _⟩, ⟨c1, _⟩, c2, _⟩ := p1
  have HB := hide b1
  have ea := o.wide
  have eb := o.high
  subst ea
  subst eb
  have a1 := o.w1
  have a6 := o.w6
  have b1' := o.h1
  have b6 := o.h6
  have nx := near_lt x o.w1
  have ny := near_lt y o.h1
  have hq : near y B * A + near x A < n := by
    have h3 : (near y B + 1) * A ≤ B * A := Nat.mul_le_mul_right _ (by omega)
    rw [Nat.add_mul, Nat.one_mul] at h3
    rw [o.many, Nat.mul_comm A B]
    omega
  have hcell := cell_below b1 (hc _ hq)
  have IX := hide (near_int x o.w1)
  have IY := hide (near_int y o.h1)
  have hqi : ((near y B : Nat) : Int) * (A : Int) + ((near x A : Nat) : Int) = ((near y B * A + near x A : Nat) : Int) := by rw [Int.natCast_add, Int.natCast_mul]
  have hp0 : (0 : Int) ≤ ((near y B : Nat) : Int) * (A : Int) := Int.mul_nonneg (by omega) (by omega)
  have hp1 : ((near y B : Nat) : Int) * (A : Int) ≤ 36 := by omega
  clear h hc o b1
  generalize hQ : near y B * A + near x A = q at *
  generalize hX : near x A = xx at *
  generalize hY : near y B = yy at *
  clear hQ hX hY
  go_enter Tryd.func31, Tryd.ntmps31
  go_upto_region 1 with fail
  go_cut [1] (fun t wx => t = .int .i64 xx ∧ wx = w.alloc (.cells #[.int .i64 A, .int .i64 B, .slice (some ⟨ad, oo, none⟩) n cap] 24))
  case first =>
    go_wp2
    all_goals
      go_meet
      refine ⟨?_, rfl⟩
      rw [IX.out]
      congr 1
      first | omega | ((repeat' split) <;> omega)
  case rest =>
  obtain ⟨rfl, rfl⟩ := hcut
  go_upto_region 2 with fail
  go_cut [2] (fun t wx => t = .int .i64 yy ∧ wx = w.alloc (.cells #[.int .i64 A, .int .i64 B, .slice (some ⟨ad, oo, none⟩) n cap] 24))
  case first =>
    go_wp2
    all_goals
      go_meet
      refine ⟨?_, rfl⟩
      rw [IY.out]
      congr 1
      first | omega | ((repeat' split) <;> omega)
  case rest =>
  obtain ⟨rfl, rfl⟩ := hcut
  generalize hz : f q = z at *
  have HZ := hide hz
  clear hz
  go_wp2
  go_ret
  exact ⟨ret_int HZ.out.symm, HB.out⟩
end Go.Proofs.YtcicoblejaippaaDoor
