/-
  What moved's functions say of any input, as one. Lemmas for the laws above; no statement is proved here.
-/
import Derived.Test.YtcicoblejaippaaDoorMvC
import Derived.Test.YtcicoblejaippaaDoorMvD
namespace Go.Proofs.YtcicoblejaippaaDoor
open Go.RowKit
set_option linter.unusedVariables false
set_option maxRecDepth 100000

/-- The best move, where there is one and where not. -/
def mtX (a b : Int) (n : Nat) (f : Nat → Int) (a' b' : Int) (n' : Nat) (f' : Nat → Int) : Int := if twoF a b n f a' b' n' f' = 0 then bsX a.toNat b.toNat f f' n else 0
def mtY (a b : Int) (n : Nat) (f : Nat → Int) (a' b' : Int) (n' : Nat) (f' : Nat → Int) : Int := if twoF a b n f a' b' n' f' = 0 then bsY a.toNat b.toNat f f' n else 0
theorem mbest_any {w : World} {s s' : Value} {n n' : Nat} {f f' : Nat → Int} (a b a' b' : Int) (h : IntsIn w s n f) (h' : IntsIn w s' n' f') :
    Calls Tryd.prog 7 #[.agg #[.int .i64 a, .int .i64 b, s], .agg #[.int .i64 a', .int .i64 b', s']] w fun e w' => e = .returned (.tuple #[.agg #[.int .i64 (mtX a b n f a' b' n' f'), .int .i64 (mtY a b n f a' b' n' f')], errN (twoF a b n f a' b' n' f')]) ∧ Below w.heap.size w w' := by
  by_cases hx : twoF a b n f a' b' n' f' = 0
  · obtain ⟨rfl, A, B, o, o'⟩ := two_ok hx
    refine (mbest_ok h h' o o').mono ?_
    rintro e w' ⟨rfl, hb⟩
    refine ⟨?_, hb⟩
    unfold mtX mtY
    rw [hx, if_pos rfl, if_pos rfl, o.wide, o.high]
    rfl
  · refine (mbest_bad a b a' b' h h' hx).mono ?_
    rintro e w' ⟨rfl, hb⟩
    refine ⟨?_, hb⟩
    unfold mtX mtY
    rw [if_neg hx, if_neg hx]
/-- What is coded, where it may be and where not. -/
def meX (a b : Int) (n : Nat) (f : Nat → Int) (a' b' : Int) (n' : Nat) (f' : Nat → Int) (s : Int) : Int := if menF a b n f a' b' n' f' s = 0 then bsX a.toNat b.toNat f f' n else 0
def meY (a b : Int) (n : Nat) (f : Nat → Int) (a' b' : Int) (n' : Nat) (f' : Nat → Int) (s : Int) : Int := if menF a b n f a' b' n' f' s = 0 then bsY a.toNat b.toNat f f' n else 0
def meM (a b : Int) (n : Nat) (f : Nat → Int) (a' b' : Int) (n' : Nat) (f' : Nat → Int) (s : Int) : Nat := if menF a b n f a' b' n' f' s = 0 then n else 0
def meG (a b : Int) (n : Nat) (f f' : Nat → Int) (s : Int) : Nat → Int := mrF a.toNat b.toNat f f' n s
theorem meM_le (a b : Int) (n : Nat) (f : Nat → Int) (a' b' : Int) (n' : Nat) (f' : Nat → Int) (s : Int) : meM a b n f a' b' n' f' s ≤ 36 := by
  unfold meM
  split
  · rename_i h
    obtain ⟨_, A, B, o, _⟩ := two_ok (menF_zero.1 h).1
    exact o.le
  · omega
theorem menc_any {w : World} {s s' : Value} {n n' : Nat} {f f' : Nat → Int} (a b a' b' st : Int) (h : IntsIn w s n f) (h' : IntsIn w s' n' f') :
    Calls Tryd.prog 10 #[.agg #[.int .i64 a, .int .i64 b, s], .agg #[.int .i64 a', .int .i64 b', s'], .int .i64 st] w fun e w' => ∃ u, e = .returned (.tuple #[.agg #[.bool false, .int .i64 (meX a b n f a' b' n' f' st), .int .i64 (meY a b n f a' b' n' f' st), u], errN (menF a b n f a' b' n' f' st)]) ∧ IntsIn w' u (meM a b n f a' b' n' f' st) (meG a b n f f' st) ∧ Below w.heap.size w w' := by
  by_cases hx : twoF a b n f a' b' n' f' = 0
  · obtain ⟨rfl, A, B, o, o'⟩ := two_ok hx
    refine (menc_walk st h h' o o').mono ?_
    rintro e w' ⟨⟨h1, h2⟩, hb⟩
    cases hs : stepOk st with
    | true =>
      obtain ⟨u, rfl, hu, _⟩ := h1 hs
      have hE : menF a b n f a' b' n f' st = 0 := menF_zero.2 ⟨hx, stepOk_iff.1 hs⟩
      refine ⟨u, ?_, ?_, hb⟩
      · unfold meX meY
        rw [hE, if_pos rfl, if_pos rfl, o.wide, o.high]
        rfl
      · unfold meM meG
        rw [if_pos hE, o.wide, o.high]
        exact hu
    | false =>
      have hE : menF a b n f a' b' n f' st = 1 := by unfold menF; rw [if_neg (by omega), hs, if_neg (by simp)]
      refine ⟨.slice none 0 0, ?_, ?_, hb⟩
      · unfold meX meY
        rw [hE, if_neg (by decide), if_neg (by decide)]
        exact h2 hs
      · unfold meM
        rw [hE, if_neg (by decide)]
        exact Or.inl ⟨rfl, _, _, rfl⟩
  · have hE : menF a b n f a' b' n' f' st = twoF a b n f a' b' n' f' := by unfold menF; rw [if_pos hx]
    refine (menc_bad a b a' b' st h h' hx).mono ?_
    rintro e w' ⟨rfl, hb⟩
    refine ⟨.slice none 0 0, ?_, ?_, hb⟩
    · unfold meX meY
      rw [hE, if_neg hx, if_neg hx]
    · unfold meM
      rw [hE, if_neg hx]
      exact Or.inl ⟨rfl, _, _, rfl⟩
/-- What is told, where it may be and where not. -/
def mdX (a b : Int) (n : Nat) (f : Nat → Int) (al : Bool) (x y : Int) (n' : Nat) (f' : Nat → Int) (s : Int) : Int := if mdeF a b n f al x y n' f' s = 0 then a else 0
def mdY (a b : Int) (n : Nat) (f : Nat → Int) (al : Bool) (x y : Int) (n' : Nat) (f' : Nat → Int) (s : Int) : Int := if mdeF a b n f al x y n' f' s = 0 then b else 0
def mdM (a b : Int) (n : Nat) (f : Nat → Int) (al : Bool) (x y : Int) (n' : Nat) (f' : Nat → Int) (s : Int) : Nat := if mdeF a b n f al x y n' f' s = 0 then n else 0
def mdG (a b : Int) (f : Nat → Int) (x y : Int) (f' : Nat → Int) (s : Int) : Nat → Int := toldF (shiftN a.toNat b.toNat x y f) f' s
theorem mdM_le (a b : Int) (n : Nat) (f : Nat → Int) (al : Bool) (x y : Int) (n' : Nat) (f' : Nat → Int) (s : Int) : mdM a b n f al x y n' f' s ≤ 36 := by
  unfold mdM
  split
  · rename_i h
    obtain ⟨A, B, o⟩ := picF_zero.1 (mdeF_zero.1 h).1
    exact o.le
  · omega
theorem mdec_any {w : World} {s s' : Value} {n n' : Nat} {f f' : Nat → Int} (a b : Int) (al : Bool) (x y st : Int) (h : IntsIn w s n f) (h' : IntsIn w s' n' f') :
    Calls Tryd.prog 13 #[.agg #[.int .i64 a, .int .i64 b, s], .agg #[.bool al, .int .i64 x, .int .i64 y, s'], .int .i64 st] w fun e w' => ∃ u, e = .returned (.tuple #[.agg #[.int .i64 (mdX a b n f al x y n' f' st), .int .i64 (mdY a b n f al x y n' f' st), u], errN (mdeF a b n f al x y n' f' st)]) ∧ IntsIn w' u (mdM a b n f al x y n' f' st) (mdG a b f x y f' st) ∧ Below w.heap.size w w' := by
  by_cases hx : mdeF a b n f al x y n' f' st = 0
  · obtain ⟨hp, ⟨s1, s2⟩, hc⟩ := mdeF_zero.1 hx
    obtain ⟨A, B, o⟩ := picF_zero.1 hp
    obtain ⟨rfl, hm, hn, hr⟩ := chkF_zero.1 hc
    obtain rfl : n' = n := by omega
    refine (mdec_ok x y st h h' o s1 s2 hm hr).mono ?_
    rintro e w' ⟨u, rfl, hu, hb⟩
    refine ⟨u, ?_, ?_, hb⟩
    · unfold mdX mdY
      rw [hx, if_pos rfl, if_pos rfl]
      rfl
    · unfold mdM mdG
      rw [if_pos hx, o.wide, o.high]
      exact hu
  · refine (mdec_bad a b al x y st h h' hx).mono ?_
    rintro e w' ⟨rfl, hb⟩
    refine ⟨.slice none 0 0, ?_, ?_, hb⟩
    · unfold mdX mdY
      rw [if_neg hx, if_neg hx]
    · unfold mdM
      rw [if_neg hx]
      exact Or.inl ⟨rfl, _, _, rfl⟩
end Go.Proofs.YtcicoblejaippaaDoor
