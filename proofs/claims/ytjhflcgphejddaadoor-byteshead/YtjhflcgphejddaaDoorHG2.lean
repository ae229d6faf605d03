/-
  Lemmas for the law above, joined into one text (MvF, MvDe, FlN, FlE). No statement is proved here.
-/
import Derived.Test.YtjhflcgphejddaaDoorHG1
namespace Go.Proofs.YtjhflcgphejddaaDoor
set_option linter.unusedVariables false
set_option maxRecDepth 100000

def mvOk (x y : Int) : Bool := (decide (-1 ≤ x) && decide (x ≤ 1)) && (decide (-1 ≤ y) && decide (y ≤ 1))
theorem mvOk_iff {x y : Int} : mvOk x y = true ↔ -1 ≤ x ∧ x ≤ 1 ∧ -1 ≤ y ∧ y ≤ 1 := by
  simp [mvOk, and_assoc]
/-- What is wrong with what was coded, of a picture of so many pixels. -/
def chkF (al : Bool) (x y : Int) (n : Nat) (f : Nat → Int) (m : Int) : Nat := if al = true then 3 else if mvOk x y = false then 1 else restsF n f m
/-- What is wrong with two pictures, and a step. -/
def menF (a b : Int) (n : Nat) (f : Nat → Int) (a' b' : Int) (n' : Nat) (f' : Nat → Int) (s : Int) : Nat :=
  if twoF a b n f a' b' n' f' ≠ 0 then twoF a b n f a' b' n' f' else if stepOk s = true then 0 else 1
/-- What is wrong with a picture, what was coded, and a step. -/
def mdeF (a b : Int) (n : Nat) (f : Nat → Int) (al : Bool) (x y : Int) (n' : Nat) (f' : Nat → Int) (s : Int) : Nat :=
  if picF a b n f ≠ 0 then picF a b n f else if stepOk s = false then 1 else chkF al x y n' f' n
theorem restsF_zero {n : Nat} {f : Nat → Int} {m : Int} : restsF n f m = 0 ↔ (n : Int) = m ∧ ∀ i, i < n → -255 ≤ f i ∧ f i ≤ 255 := by
  unfold restsF
  constructor
  · intro h
    split at h
    · cases h
    · rename_i h1
      split at h
      · cases h
      · rename_i h2
        rw [Bool.not_eq_false, restsOk_iff] at h2
        exact ⟨by omega, h2⟩
  · rintro ⟨h1, h2⟩
    rw [if_neg (by omega), restsOk_iff.2 h2, if_neg (by simp)]
theorem chkF_zero {al : Bool} {x y : Int} {n : Nat} {f : Nat → Int} {m : Int} : chkF al x y n f m = 0 ↔ al = false ∧ (-1 ≤ x ∧ x ≤ 1 ∧ -1 ≤ y ∧ y ≤ 1) ∧ (n : Int) = m ∧ ∀ i, i < n → -255 ≤ f i ∧ f i ≤ 255 := by
  unfold chkF
  constructor
  · intro h
    split at h
    · cases h
    · rename_i h1
      split at h
      · cases h
      · rename_i h2
        rw [Bool.not_eq_false, mvOk_iff] at h2
        exact ⟨by simpa using h1, h2, restsF_zero.1 h⟩
  · rintro ⟨rfl, h2, h3⟩
    rw [if_neg (by simp), mvOk_iff.2 h2, if_neg (by simp)]
    exact restsF_zero.2 h3
theorem menF_zero {a b : Int} {n : Nat} {f : Nat → Int} {a' b' : Int} {n' : Nat} {f' : Nat → Int} {s : Int} : menF a b n f a' b' n' f' s = 0 ↔ twoF a b n f a' b' n' f' = 0 ∧ 1 ≤ s ∧ s ≤ 64 := by
  unfold menF
  constructor
  · intro h
    split at h
    · rename_i c; exact absurd h c
    · rename_i c
      split at h
      · rename_i c2; exact ⟨by omega, stepOk_iff.1 c2⟩
      · cases h
  · rintro ⟨h1, h2⟩
    rw [if_neg (by omega), if_pos (stepOk_iff.2 h2)]
theorem mdeF_zero {a b : Int} {n : Nat} {f : Nat → Int} {al : Bool} {x y : Int} {n' : Nat} {f' : Nat → Int} {s : Int} : mdeF a b n f al x y n' f' s = 0 ↔ picF a b n f = 0 ∧ (1 ≤ s ∧ s ≤ 64) ∧ chkF al x y n' f' n = 0 := by
  unfold mdeF
  constructor
  · intro h
    split at h
    · rename_i c; exact absurd h c
    · rename_i c
      split at h
      · cases h
      · rename_i c2
        rw [Bool.not_eq_false, stepOk_iff] at c2
        exact ⟨by omega, c2, h⟩
  · rintro ⟨h1, h2, h3⟩
    rw [if_neg (by omega), stepOk_iff.2 h2, if_neg (by simp)]
    exact h3
/-- Two pictures that are right and alike. -/
theorem two_ok {a b : Int} {n : Nat} {f : Nat → Int} {a' b' : Int} {n' : Nat} {f' : Nat → Int} (h : twoF a b n f a' b' n' f' = 0) : n = n' ∧ ∃ A B, PicOk a b n f A B ∧ PicOk a' b' n f' A B := by
  obtain ⟨hp, hq, ea, eb⟩ := twoF_zero.1 h
  obtain ⟨A, B, o⟩ := picF_zero.1 hp
  obtain ⟨A', B', o'⟩ := picF_zero.1 hq
  have e1 : A = A' := by have := o.wide; have := o'.wide; omega
  have e2 : B = B' := by have := o.high; have := o'.high; omega
  subst e1
  subst e2
  have en : n = n' := by rw [o'.many, o.many]
  subst en
  exact ⟨rfl, A, B, o, o'⟩
theorem ok_two {a b : Int} {n : Nat} {f : Nat → Int} {a' b' : Int} {f' : Nat → Int} {A B : Nat} (o : PicOk a b n f A B) (o' : PicOk a' b' n f' A B) : twoF a b n f a' b' n f' = 0 :=
  twoF_zero.2 ⟨picF_zero.2 ⟨A, B, o⟩, picF_zero.2 ⟨A, B, o'⟩, by rw [o.wide, o'.wide], by rw [o.high, o'.high]⟩
end Go.Proofs.YtjhflcgphejddaaDoor

namespace Go.Proofs.YtjhflcgphejddaaDoor
set_option linter.unusedVariables false
set_option maxRecDepth 100000

/-- What is told, where it may be and where not. -/
def mdX (a b : Int) (n : Nat) (f : Nat → Int) (al : Bool) (x y : Int) (n' : Nat) (f' : Nat → Int) (s : Int) : Int := if mdeF a b n f al x y n' f' s = 0 then a else 0
def mdY (a b : Int) (n : Nat) (f : Nat → Int) (al : Bool) (x y : Int) (n' : Nat) (f' : Nat → Int) (s : Int) : Int := if mdeF a b n f al x y n' f' s = 0 then b else 0
def mdM (a b : Int) (n : Nat) (f : Nat → Int) (al : Bool) (x y : Int) (n' : Nat) (f' : Nat → Int) (s : Int) : Nat := if mdeF a b n f al x y n' f' s = 0 then n else 0
def mdG (a b : Int) (f : Nat → Int) (x y : Int) (f' : Nat → Int) (s : Int) : Nat → Int := toldF (shiftN a.toNat b.toNat x y f) f' s
theorem mdM_le (a b : Int) (n : Nat) (f : Nat → Int) (al : Bool) (x y : Int) (n' : Nat) (f' : Nat → Int) (s : Int) : mdM a b n f al x y n' f' s ≤ 36 := by
  unfold mdM
  split
  · rename_i h
    obtain ⟨A, B, o⟩ := picF_zero.1 (mdeF_zero.1 h).1
    exact o.le
  · omega
end Go.Proofs.YtjhflcgphejddaaDoor

namespace Go.Proofs.YtjhflcgphejddaaDoor
set_option linter.unusedVariables false
set_option maxRecDepth 100000

/-- A picture, and a coded one, as numbers. -/
structure Pc where
  a : Int
  b : Int
  n : Nat
  f : Nat → Int
structure Cd where
  al : Bool
  x : Int
  y : Int
  n : Nat
  f : Nat → Int
def Pc.none : Pc := ⟨0, 0, 0, fun _ => 0⟩
/-- What is wrong with one of a film whose first is q. -/
def oneF (p q : Pc) : Nat := if picF p.a p.b p.n p.f ≠ 0 then picF p.a p.b p.n p.f else if p.a = q.a ∧ p.b = q.b then 0 else 3
/-- The first fault of the first so many. -/
def firF (P : Nat → Pc) : Nat → Nat
  | 0 => 0
  | i + 1 => if firF P i ≠ 0 then firF P i else oneF (P i) (P 0)
theorem firF_step (P : Nat → Pc) (i : Nat) : firF P (i + 1) = if firF P i ≠ 0 then firF P i else oneF (P i) (P 0) := rfl
theorem firF_keep {P : Nat → Pc} {i : Nat} (h : firF P i ≠ 0) : ∀ {j}, i ≤ j → firF P j = firF P i := fun {j} hj => by
  induction j with
  | zero => have : i = 0 := by omega
            subst this; rfl
  | succ j ih =>
    by_cases c : i = j + 1
    · subst c; rfl
    · have e := ih (by omega)
      rw [firF_step, e, if_pos h]
theorem firF_zero {P : Nat → Pc} : ∀ {N}, firF P N = 0 ↔ ∀ i, i < N → oneF (P i) (P 0) = 0
  | 0 => ⟨fun _ i hi => absurd hi (Nat.not_lt_zero _), fun _ => rfl⟩
  | N + 1 => by
    rw [firF_step]
    constructor
    · intro h
      split at h
      · rename_i c; exact absurd h c
      · rename_i c
        have h0 := firF_zero.1 (show firF P N = 0 by omega)
        intro i hi
        by_cases e : i = N
        · subst e; exact h
        · exact h0 i (by omega)
    · intro h
      rw [if_neg (by rw [firF_zero.2 (fun i hi => h i (by omega))]; simp)]
      exact h N (by omega)
def rngF (ev st : Int) : Nat := if 1 ≤ ev ∧ ev ≤ 6 ∧ 1 ≤ st ∧ st ≤ 64 then 0 else 1
/-- What is wrong with a film. -/
def filF (N : Nat) (P : Nat → Pc) (ev st : Int) : Nat := if N = 0 then 5 else if 6 < N then 4 else if firF P N ≠ 0 then firF P N else rngF ev st
/-- A film that is right. -/
structure FilOk (N : Nat) (P : Nat → Pc) (ev st : Int) (A B : Nat) : Prop where
  one : 1 ≤ N
  six : N ≤ 6
  pic : ∀ i, i < N → PicOk (P i).a (P i).b (P i).n (P i).f A B
  e1 : 1 ≤ ev
  e6 : ev ≤ 6
  s1 : 1 ≤ st
  s2 : st ≤ 64
theorem PicOk.same {a b : Int} {n : Nat} {f : Nat → Int} {A B : Nat} {a' b' : Int} {n' : Nat} {f' : Nat → Int} {A' B' : Nat} (o : PicOk a b n f A B) (o' : PicOk a' b' n' f' A' B') (h : a = a' ∧ b = b') : A = A' ∧ B = B' := by
  have := o.wide; have := o.high; have := o'.wide; have := o'.high
  omega
theorem filF_zero {N : Nat} {P : Nat → Pc} {ev st : Int} : filF N P ev st = 0 ↔ ∃ A B, FilOk N P ev st A B := by
  unfold filF
  constructor
  · intro h
    split at h
    · cases h
    · rename_i h1
      split at h
      · cases h
      · rename_i h2
        split at h
        · rename_i h3; exact absurd h h3
        · rename_i h3
          have hf := firF_zero.1 (show firF P N = 0 by omega)
          unfold rngF at h
          split at h
          · rename_i h4
            have hp : ∀ i, i < N → picF (P i).a (P i).b (P i).n (P i).f = 0 ∧ (P i).a = (P 0).a ∧ (P i).b = (P 0).b := by
              intro i hi
              have h9 := hf i hi
              unfold oneF at h9
              split at h9
              · rename_i c; exact absurd h9 c
              · rename_i c
                split at h9
                · rename_i c2; exact ⟨by omega, c2⟩
                · cases h9
            obtain ⟨A, B, o0⟩ := picF_zero.1 (hp 0 (by omega)).1
            refine ⟨A, B, by omega, by omega, fun i hi => ?_, h4.1, h4.2.1, h4.2.2.1, h4.2.2.2⟩
            obtain ⟨A', B', o⟩ := picF_zero.1 (hp i hi).1
            obtain ⟨rfl, rfl⟩ := o.same o0 (hp i hi).2
            exact o
          · cases h
  · rintro ⟨A, B, o⟩
    have h1 := o.one
    have h2 := o.six
    rw [if_neg (by omega), if_neg (by omega)]
    have hf : firF P N = 0 := firF_zero.2 fun i hi => by
      have oi := o.pic i hi
      have o0 := o.pic 0 (by omega)
      unfold oneF
      rw [picF_zero.2 ⟨A, B, oi⟩, if_neg (by simp), if_pos ⟨oi.wide.trans o0.wide.symm, oi.high.trans o0.high.symm⟩]
    rw [hf, if_neg (by simp)]
    unfold rngF
    rw [if_pos ⟨o.e1, o.e6, o.s1, o.s2⟩]

/-- What is told for each picture of a film that is right. -/
def filT (A B n ev : Nat) (s : Int) (g : Nat → Nat → Int) : Nat → Nat → Int
  | 0 => tellF A s (byPix s (g 0))
  | i + 1 => if (i + 1) % ev = 0 then tellF A s (byPix s (g (i + 1))) else toldF (bgN A B (filT A B n ev s g i) (g (i + 1)) n) (mrF A B (filT A B n ev s g i) (g (i + 1)) n s) s
/-- What each is coded as. -/
def filC (A B n ev : Nat) (s : Int) (g : Nat → Nat → Int) : Nat → Cd
  | 0 => ⟨true, 0, 0, n, restF A s (byPix s (g 0))⟩
  | i + 1 => if (i + 1) % ev = 0 then ⟨true, 0, 0, n, restF A s (byPix s (g (i + 1)))⟩ else ⟨false, bsX A B (filT A B n ev s g i) (g (i + 1)) n, bsY A B (filT A B n ev s g i) (g (i + 1)) n, n, mrF A B (filT A B n ev s g i) (g (i + 1)) n s⟩
theorem filT_al {A B n ev : Nat} {s : Int} {g : Nat → Nat → Int} {i : Nat} (h : i % ev = 0) : filT A B n ev s g i = tellF A s (byPix s (g i)) := by
  cases i with
  | zero => rfl
  | succ i => show (if (i + 1) % ev = 0 then _ else _) = _; rw [if_pos h]
theorem filT_mv {A B n ev : Nat} {s : Int} {g : Nat → Nat → Int} {i : Nat} (h : ¬ (i + 1) % ev = 0) : filT A B n ev s g (i + 1) = toldF (bgN A B (filT A B n ev s g i) (g (i + 1)) n) (mrF A B (filT A B n ev s g i) (g (i + 1)) n s) s := by
  show (if (i + 1) % ev = 0 then _ else _) = _; rw [if_neg h]
theorem filC_al {A B n ev : Nat} {s : Int} {g : Nat → Nat → Int} {i : Nat} (h : i % ev = 0) : filC A B n ev s g i = ⟨true, 0, 0, n, restF A s (byPix s (g i))⟩ := by
  cases i with
  | zero => rfl
  | succ i => show (if (i + 1) % ev = 0 then _ else _) = _; rw [if_pos h]
theorem filC_mv {A B n ev : Nat} {s : Int} {g : Nat → Nat → Int} {i : Nat} (h : ¬ (i + 1) % ev = 0) : filC A B n ev s g (i + 1) = ⟨false, bsX A B (filT A B n ev s g i) (g (i + 1)) n, bsY A B (filT A B n ev s g i) (g (i + 1)) n, n, mrF A B (filT A B n ev s g i) (g (i + 1)) n s⟩ := by
  show (if (i + 1) % ev = 0 then _ else _) = _; rw [if_neg h]
theorem filC_alone {A B n ev : Nat} {s : Int} {g : Nat → Nat → Int} {i : Nat} : (filC A B n ev s g i).al = true ↔ i % ev = 0 := by
  cases i with
  | zero => exact ⟨fun _ => Nat.zero_mod _, fun _ => rfl⟩
  | succ i =>
    by_cases c : (i + 1) % ev = 0
    · rw [filC_al c]; exact ⟨fun _ => c, fun _ => rfl⟩
    · rw [filC_mv c]; exact ⟨(fun h => by cases h), fun h => absurd h c⟩
theorem filC_n {A B n ev : Nat} {s : Int} {g : Nat → Nat → Int} {i : Nat} : (filC A B n ev s g i).n = n := by
  cases i with
  | zero => rfl
  | succ i =>
    by_cases c : (i + 1) % ev = 0
    · rw [filC_al c]
    · rw [filC_mv c]
/-- What is told is a picture. -/
theorem filT_in {A B n ev : Nat} {s : Int} {g : Nat → Nat → Int} (hA : 1 ≤ A) (i k : Nat) : 0 ≤ filT A B n ev s g i k ∧ filT A B n ev s g i k ≤ 255 := by
  cases i with
  | zero => exact tellF_in hA _ _ _
  | succ i =>
    by_cases c : (i + 1) % ev = 0
    · rw [filT_al c]; exact tellF_in hA _ _ _
    · rw [filT_mv c]; exact toldF_in _ _ _ _
theorem filT_ok {a b : Int} {n : Nat} {f : Nat → Int} {A B : Nat} (o : PicOk a b n f A B) (ev : Nat) (s : Int) (g : Nat → Nat → Int) (i : Nat) : PicOk a b n (filT A B n ev s g i) A B :=
  ⟨o.wide, o.high, o.w1, o.w6, o.h1, o.h6, o.many, fun k _ => filT_in o.w1 i k⟩
theorem filT_near {A B n ev : Nat} {s : Int} {g : Nat → Nat → Int} (hA : 1 ≤ A) (s1 : 1 ≤ s) (i : Nat) {k : Nat} (hg : 0 ≤ g i k ∧ g i k ≤ 255) : ((g i k - filT A B n ev s g i k).natAbs : Int) ≤ s / 2 := by
  cases i with
  | zero => exact tellF_near hA s1 hg
  | succ i =>
    by_cases c : (i + 1) % ev = 0
    · rw [filT_al c]; exact tellF_near hA s1 hg
    · rw [filT_mv c]; exact toldF_near s1 hg

/-- One coded picture told, behind the one that was told ahead. -/
def stpC (a b s : Int) (c : Cd) (p : Pc) : Nat × Pc :=
  if c.al = true then (if c.x ≠ 0 ∨ c.y ≠ 0 then (3, Pc.none) else (decF a b s c.n c.f, ⟨deX a b s c.n c.f, deY a b s c.n c.f, deM a b s c.n c.f, deG a s c.f⟩))
  else (mdeF p.a p.b p.n p.f c.al c.x c.y c.n c.f s, ⟨mdX p.a p.b p.n p.f c.al c.x c.y c.n c.f s, mdY p.a p.b p.n p.f c.al c.x c.y c.n c.f s, mdM p.a p.b p.n p.f c.al c.x c.y c.n c.f s, mdG p.a p.b p.f c.x c.y c.f s⟩)
/-- The first fault of so many, and what is told last. -/
def seeS (a b s : Int) (C : Nat → Cd) : Nat → Nat × Pc
  | 0 => (0, Pc.none)
  | i + 1 => if (seeS a b s C i).1 ≠ 0 then seeS a b s C i else stpC a b s (C i) (seeS a b s C i).2
theorem seeS_step {a b s : Int} {C : Nat → Cd} {i : Nat} (h : (seeS a b s C i).1 = 0) : seeS a b s C (i + 1) = stpC a b s (C i) (seeS a b s C i).2 := by
  show (if (seeS a b s C i).1 ≠ 0 then seeS a b s C i else stpC a b s (C i) (seeS a b s C i).2) = _
  rw [if_neg (by omega)]
theorem seeS_stop {a b s : Int} {C : Nat → Cd} {i : Nat} (h : (seeS a b s C i).1 ≠ 0) : ∀ {j}, i ≤ j → seeS a b s C j = seeS a b s C i := fun {j} hj => by
  induction j with
  | zero => have : i = 0 := by omega
            subst this; rfl
  | succ j ih =>
    by_cases c : i = j + 1
    · subst c; rfl
    · have e := ih (by omega)
      show (if (seeS a b s C j).1 ≠ 0 then seeS a b s C j else _) = _
      rw [e, if_pos h]
theorem seeS_back {a b s : Int} {C : Nat → Cd} {i j : Nat} (h : (seeS a b s C j).1 = 0) (hi : i ≤ j) : (seeS a b s C i).1 = 0 := by
  by_cases c : (seeS a b s C i).1 = 0
  · exact c
  · rw [seeS_stop c hi] at h; exact absurd h c
def sidF (a b s : Int) : Nat := if 1 ≤ a ∧ a ≤ 6 ∧ 1 ≤ b ∧ b ≤ 6 ∧ 1 ≤ s ∧ s ≤ 64 then 0 else 1
/-- What is wrong with a coded film. -/
def seeF (a b s : Int) (N : Nat) (C : Nat → Cd) : Nat := if N = 0 then 5 else if 6 < N then 4 else if sidF a b s ≠ 0 then 1 else if (C 0).al = false then 3 else (seeS a b s C N).1
/-- The picture told at a place. -/
def seeP (a b s : Int) (C : Nat → Cd) (i : Nat) : Pc := (seeS a b s C (i + 1)).2

theorem stpC_al {a b s : Int} {n : Nat} {f g : Nat → Int} {A B : Nat} {p : Pc} (o : PicOk a b n f A B) (s1 : 1 ≤ s) (s2 : s ≤ 64) : stpC a b s ⟨true, 0, 0, n, restF A s (byPix s f)⟩ p = (0, ⟨a, b, n, tellF A s (byPix s f)⟩) := by
  have hd : decF a b s n (restF A s (byPix s f)) = 0 := decF_zero.2 ⟨A, B, enc_dec o s1 s2⟩
  have hg : deG a s (restF A s (byPix s f)) = tellF A s (byPix s f) := by
    funext i
    unfold deG
    rw [o.wide, Int.toNat_natCast]
    exact tellF_rest o.w1 s (byPix s f) i
  unfold stpC
  rw [if_pos rfl, if_neg (by simp)]
  unfold deX deY deM
  simp only [hd, hg, if_true]
theorem stpC_mv {a b s : Int} {n : Nat} {f g : Nat → Int} {A B : Nat} (o : PicOk a b n f A B) (o' : PicOk a b n g A B) (s1 : 1 ≤ s) (s2 : s ≤ 64) : stpC a b s ⟨false, bsX A B f g n, bsY A B f g n, n, mrF A B f g n s⟩ ⟨a, b, n, f⟩ = (0, ⟨a, b, n, toldF (bgN A B f g n) (mrF A B f g n s) s⟩) := by
  have hm : mdeF a b n f false (bsX A B f g n) (bsY A B f g n) n (mrF A B f g n s) s = 0 := mdeF_zero.2 ⟨picF_zero.2 ⟨A, B, o⟩, ⟨s1, s2⟩, chkF_zero.2 ⟨rfl, bs_in A B f g n, rfl, fun i hi => mrF_in s1 (bgN_in o g i hi) (o'.pix i hi)⟩⟩
  have hg : mdG a b f (bsX A B f g n) (bsY A B f g n) (mrF A B f g n s) s = toldF (bgN A B f g n) (mrF A B f g n s) s := by
    unfold mdG
    rw [o.wide, o.high, Int.toNat_natCast, Int.toNat_natCast]
    rfl
  unfold stpC
  rw [if_neg (by simp)]
  unfold mdX mdY mdM
  simp only [hm, hg, if_true]
/-- A film that was coded is told. -/
theorem see_fil {N : Nat} {P : Nat → Pc} {ev st : Int} {A B : Nat} (o : FilOk N P ev st A B) : ∀ i, i < N → seeS (P 0).a (P 0).b st (filC A B (P 0).n ev.toNat st fun i => (P i).f) (i + 1) = (0, ⟨(P 0).a, (P 0).b, (P 0).n, filT A B (P 0).n ev.toNat st (fun i => (P i).f) i⟩)
  | 0, hi => by
    have o0 := o.pic 0 hi
    rw [seeS_step rfl]
    exact stpC_al o0 o.s1 o.s2 (g := fun _ => 0)
  | i + 1, hi => by
    have ih := see_fil o i (by omega)
    have o0 := o.pic 0 (by have := o.one; omega)
    have oi := o.pic (i + 1) hi
    have ea : (P (i + 1)).a = (P 0).a := oi.wide.trans o0.wide.symm
    have eb : (P (i + 1)).b = (P 0).b := oi.high.trans o0.high.symm
    have en : (P (i + 1)).n = (P 0).n := oi.many.trans o0.many.symm
    rw [ea, eb, en] at oi
    rw [seeS_step (by rw [ih]), ih]
    by_cases c : (i + 1) % ev.toNat = 0
    · rw [filC_al c, filT_al c]
      exact stpC_al oi o.s1 o.s2 (g := fun _ => 0)
    · rw [filC_mv c, filT_mv c]
      exact stpC_mv (filT_ok o0 _ _ _ i) oi o.s1 o.s2
/-- Where nothing changes, by steps of one, nothing is left. -/
theorem fil_still {A B n ev : Nat} {g : Nat → Nat → Int} {a b : Int} (o : PicOk a b n (g 0) A B) (hg : ∀ i k, g i k = g 0 k) : ∀ i k, k < n → filT A B n ev 1 g i k = g 0 k := fun i k hk => by
  have hp := o.pix k hk
  have h := filT_near (A := A) (B := B) (n := n) (ev := ev) (s := 1) (g := g) o.w1 (by omega) i (k := k) (by rw [hg]; exact hp)
  rw [hg i k] at h
  omega
theorem fil_none {A B n ev : Nat} {g : Nat → Nat → Int} {a b : Int} (o : PicOk a b n (g 0) A B) (hg : ∀ i k, g i k = g 0 k) {i : Nat} (h : (filC A B n ev 1 g i).al = false) : ∀ k, k < n → (filC A B n ev 1 g i).f k = 0 := by
  cases i with
  | zero => cases h
  | succ i =>
    have c : ¬ (i + 1) % ev = 0 := fun c => by rw [filC_alone.2 c] at h; cases h
    intro k hk
    rw [filC_mv c]
    show mrF A B (filT A B n ev 1 g i) (g (i + 1)) n 1 k = 0
    refine mrF_same (by omega) ?_
    refine bg_same (x := 0) (y := 0) (by omega) (fun j hj => ?_) k hk
    rw [hg (i + 1) j, ← fil_still o hg i j hj]
    unfold shiftN
    rw [fromAt_zero o.w1 (by rw [← o.many]; exact hj)]
end Go.Proofs.YtjhflcgphejddaaDoor

namespace Go.Proofs.YtjhflcgphejddaaDoor
set_option linter.unusedVariables false
set_option maxRecDepth 100000

/-- The first of the first so many numbers that is not 0. -/
def fstF (F : Nat → Nat) : Nat → Nat
  | 0 => 0
  | i + 1 => if fstF F i ≠ 0 then fstF F i else F i
theorem fstF_step (F : Nat → Nat) (i : Nat) : fstF F (i + 1) = if fstF F i ≠ 0 then fstF F i else F i := rfl
theorem fstF_keep {F : Nat → Nat} {i : Nat} (h : fstF F i ≠ 0) : ∀ {j}, i ≤ j → fstF F j = fstF F i := fun {j} hj => by
  induction j with
  | zero => have : i = 0 := by omega
            subst this; rfl
  | succ j ih =>
    by_cases c : i = j + 1
    · subst c; rfl
    · have e := ih (by omega)
      rw [fstF_step, e, if_pos h]
theorem fstF_zero {F : Nat → Nat} : ∀ {N}, fstF F N = 0 ↔ ∀ i, i < N → F i = 0
  | 0 => ⟨fun _ i hi => absurd hi (Nat.not_lt_zero _), fun _ => rfl⟩
  | N + 1 => by
    rw [fstF_step]
    constructor
    · intro h
      split at h
      · rename_i c; exact absurd h c
      · rename_i c
        have h0 := fstF_zero.1 (show fstF F N = 0 by omega)
        intro i hi
        by_cases e : i = N
        · subst e; exact h
        · exact h0 i (by omega)
    · intro h
      rw [if_neg (by rw [fstF_zero.2 (fun i hi => h i (by omega))]; simp)]
      exact h N (by omega)
theorem fstF_at {F : Nat → Nat} {N j : Nat} (h : fstF F j = 0) (hj : j < N) (hf : F j ≠ 0) : fstF F N = F j := by
  have e : fstF F (j + 1) = F j := by rw [fstF_step, if_neg (by omega)]
  rw [fstF_keep (i := j + 1) (by omega) (by omega), e]
theorem fstF_go {F : Nat → Nat} {j : Nat} (h : fstF F j = 0) (hf : F j = 0) : fstF F (j + 1) = 0 := by rw [fstF_step, if_neg (by omega)]; exact hf
def allP (P : Nat → Pc) (i : Nat) : Nat := picF (P i).a (P i).b (P i).n (P i).f
def samP (P : Nat → Pc) (i : Nat) : Nat := if (P i).a = (P 0).a ∧ (P i).b = (P 0).b then 0 else 3
def cntF (N : Nat) : Nat := if N = 0 then 5 else if 6 < N then 4 else 0
/-- What is wrong with pictures; with a film. -/
def chqF (N : Nat) (P : Nat → Pc) : Nat := if cntF N ≠ 0 then cntF N else if fstF (allP P) N ≠ 0 then fstF (allP P) N else fstF (samP P) N
def enfF (N : Nat) (P : Nat → Pc) (ev st : Int) : Nat := if chqF N P ≠ 0 then chqF N P else rngF ev st
theorem cntF_zero {N : Nat} : cntF N = 0 ↔ 1 ≤ N ∧ N ≤ 6 := by
  unfold cntF
  split
  · constructor
    · intro h; cases h
    · omega
  · split
    · constructor
      · intro h; cases h
      · omega
    · constructor
      · intro _; omega
      · intro _; rfl
theorem chqF_zero {N : Nat} {P : Nat → Pc} : chqF N P = 0 ↔ (1 ≤ N ∧ N ≤ 6) ∧ ∀ i, i < N → allP P i = 0 ∧ samP P i = 0 := by
  unfold chqF
  constructor
  · intro h
    split at h
    · rename_i c; exact absurd h c
    · rename_i c
      split at h
      · rename_i c2; exact absurd h c2
      · rename_i c2
        have h1 := fstF_zero.1 (show fstF (allP P) N = 0 by omega)
        have h2 := fstF_zero.1 h
        exact ⟨cntF_zero.1 (by omega), fun i hi => ⟨h1 i hi, h2 i hi⟩⟩
  · rintro ⟨h1, h2⟩
    rw [cntF_zero.2 h1, if_neg (by simp), fstF_zero.2 (fun i hi => (h2 i hi).1), if_neg (by simp)]
    exact fstF_zero.2 fun i hi => (h2 i hi).2
theorem enfF_zero {N : Nat} {P : Nat → Pc} {ev st : Int} : enfF N P ev st = 0 ↔ ∃ A B, FilOk N P ev st A B := by
  unfold enfF
  constructor
  · intro h
    split at h
    · rename_i c; exact absurd h c
    · rename_i c
      obtain ⟨⟨h1, h6⟩, hf⟩ := chqF_zero.1 (show chqF N P = 0 by omega)
      unfold rngF at h
      split at h
      · rename_i h4
        obtain ⟨A, B, o0⟩ := picF_zero.1 (hf 0 (by omega)).1
        refine ⟨A, B, h1, h6, fun i hi => ?_, h4.1, h4.2.1, h4.2.2.1, h4.2.2.2⟩
        obtain ⟨A', B', o⟩ := picF_zero.1 (hf i hi).1
        have hs := (hf i hi).2
        unfold samP at hs
        split at hs
        · rename_i c2
          obtain ⟨rfl, rfl⟩ := o.same o0 c2
          exact o
        · cases hs
      · cases h
  · rintro ⟨A, B, o⟩
    have h0 : chqF N P = 0 := chqF_zero.2 ⟨⟨o.one, o.six⟩, fun i hi => ⟨picF_zero.2 ⟨A, B, o.pic i hi⟩, by
      unfold samP
      have o0 := o.pic 0 (by omega)
      have oi := o.pic i hi
      rw [if_pos ⟨oi.wide.trans o0.wide.symm, oi.high.trans o0.high.symm⟩]⟩⟩
    rw [h0, if_neg (by simp)]
    unfold rngF
    rw [if_pos ⟨o.e1, o.e6, o.s1, o.s2⟩]
theorem enfF_range {N : Nat} {P : Nat → Pc} {ev st : Int} (h : chqF N P = 0) : enfF N P ev st = rngF ev st := by unfold enfF; rw [if_neg (by omega)]
theorem enfF_first {N : Nat} {P : Nat → Pc} {ev st : Int} (h : chqF N P ≠ 0) : enfF N P ev st = chqF N P := by unfold enfF; rw [if_pos h]

/-- One coded picture told behind the one ahead, whose sides are known. -/
def stpK (s : Int) (c : Cd) (p : Pc) : Nat × Pc := stpC p.a p.b s c p
theorem stpC_sides {a b s : Int} {c : Cd} {p : Pc} (h : (stpC a b s c p).1 = 0) (ha : p.a = a) (hb : p.b = b) : (stpC a b s c p).2.a = a ∧ (stpC a b s c p).2.b = b := by
  unfold stpC at h ⊢
  split at h
  · rename_i c1
    rw [if_pos c1]
    split at h
    · cases h
    · rename_i c2
      rw [if_neg c2]
      exact ⟨if_pos h, if_pos h⟩
  · rename_i c1
    rw [if_neg c1]
    exact ⟨(if_pos h).trans ha, (if_pos h).trans hb⟩
theorem stpC_alone {a b s : Int} {c : Cd} (p q : Pc) (h : c.al = true) : stpC a b s c p = stpC a b s c q := by
  unfold stpC; rw [if_pos h, if_pos h]
theorem stpC_pos {a b s : Int} {c : Cd} {p : Pc} (h : (stpC a b s c p).1 = 0) : 0 < (stpC a b s c p).2.n := by
  unfold stpC at h ⊢
  split at h
  · rename_i c1
    rw [if_pos c1]
    split at h
    · cases h
    · rename_i c2
      rw [if_neg c2]
      obtain ⟨A, B, o⟩ := decF_zero.1 h
      have e : deM a b s c.n c.f = c.n := if_pos h
      show 0 < deM a b s c.n c.f
      rw [e]; exact o.pos
  · rename_i c1
    rw [if_neg c1]
    obtain ⟨A, B, o⟩ := picF_zero.1 (mdeF_zero.1 h).1
    have e : mdM p.a p.b p.n p.f c.al c.x c.y c.n c.f s = p.n := if_pos h
    show 0 < mdM p.a p.b p.n p.f c.al c.x c.y c.n c.f s
    rw [e]; exact o.pos
theorem seeS_sides {a b s : Int} {C : Nat → Cd} (h0 : (C 0).al = true) : ∀ {i}, (seeS a b s C (i + 1)).1 = 0 → (seeS a b s C (i + 1)).2.a = a ∧ (seeS a b s C (i + 1)).2.b = b
  | 0, h => by
    rw [seeS_step rfl] at h ⊢
    rw [stpC_alone (seeS a b s C 0).2 ⟨a, b, 0, fun _ => 0⟩ h0] at h ⊢
    exact stpC_sides h rfl rfl
  | i + 1, h => by
    have h1 := seeS_back h (show i + 1 ≤ i + 1 + 1 by omega)
    rw [seeS_step h1] at h ⊢
    obtain ⟨e1, e2⟩ := seeS_sides h0 h1
    exact stpC_sides h e1 e2
/-- What stands ahead of the picture at a place. -/
def ahdP (a b s : Int) (C : Nat → Cd) (i : Nat) : Pc := if i = 0 then ⟨a, b, 0, fun _ => 0⟩ else (seeS a b s C i).2
theorem ahdP_step {a b s : Int} {C : Nat → Cd} (h0 : (C 0).al = true) {i : Nat} (h : (seeS a b s C i).1 = 0) : stpK s (C i) (ahdP a b s C i) = seeS a b s C (i + 1) := by
  rw [seeS_step h]
  unfold stpK ahdP
  split
  · rename_i c
    subst c
    exact stpC_alone _ _ h0
  · rename_i c
    obtain ⟨p, rfl⟩ : ∃ p, i = p + 1 := ⟨i - 1, by omega⟩
    obtain ⟨e1, e2⟩ := seeS_sides h0 h
    rw [e1, e2]
theorem ahdP_next {a b s : Int} {C : Nat → Cd} {i : Nat} : ahdP a b s C (i + 1) = (seeS a b s C (i + 1)).2 := if_neg (Nat.succ_ne_zero i)
end Go.Proofs.YtjhflcgphejddaaDoor
