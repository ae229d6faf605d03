/-
  Lemmas for the law above, joined into one text (FlE, ErrK, PicB). No statement is proved here.
-/
import Derived.Test.YtfgcngjggdjcjaaTG4
import Derived.Test.YtfgcngjggdjcjaaTG0
namespace Go.Proofs.Ytfgcngjggdjcjaa
set_option linter.unusedVariables false
set_option maxRecDepth 100000

/-- The first of the first so many numbers that is not 0. -/
def fstF (F : Nat → Nat) : Nat → Nat
  | 0 => 0
  | i + 1 => if fstF F i ≠ 0 then fstF F i else F i
theorem fstF_step (F : Nat → Nat) (i : Nat) : fstF F (i + 1) = if fstF F i ≠ 0 then fstF F i else F i := rfl
theorem fstF_keep {F : Nat → Nat} {i : Nat} (h : fstF F i ≠ 0) : ∀ {j}, i ≤ j → fstF F j = fstF F i := fun {j} hj => by
  induction j with
  | zero => have : i = 0 := by omega
            subst this; rfl
  | succ j ih =>
    by_cases c : i = j + 1
    · subst c; rfl
    · have e := ih (by omega)
      rw [fstF_step, e, if_pos h]
theorem fstF_zero {F : Nat → Nat} : ∀ {N}, fstF F N = 0 ↔ ∀ i, i < N → F i = 0
  | 0 => ⟨fun _ i hi => absurd hi (Nat.not_lt_zero _), fun _ => rfl⟩
  | N + 1 => by
    rw [fstF_step]
    constructor
    · intro h
      split at h
      · rename_i c; exact absurd h c
      · rename_i c
        have h0 := fstF_zero.1 (show fstF F N = 0 by omega)
        intro i hi
        by_cases e : i = N
        · subst e; exact h
        · exact h0 i (by omega)
    · intro h
      rw [if_neg (by rw [fstF_zero.2 (fun i hi => h i (by omega))]; simp)]
      exact h N (by omega)
theorem fstF_at {F : Nat → Nat} {N j : Nat} (h : fstF F j = 0) (hj : j < N) (hf : F j ≠ 0) : fstF F N = F j := by
  have e : fstF F (j + 1) = F j := by rw [fstF_step, if_neg (by omega)]
  rw [fstF_keep (i := j + 1) (by omega) (by omega), e]
theorem fstF_go {F : Nat → Nat} {j : Nat} (h : fstF F j = 0) (hf : F j = 0) : fstF F (j + 1) = 0 := by rw [fstF_step, if_neg (by omega)]; exact hf
def allP (P : Nat → Pc) (i : Nat) : Nat := picF (P i).a (P i).b (P i).n (P i).f
def samP (P : Nat → Pc) (i : Nat) : Nat := if (P i).a = (P 0).a ∧ (P i).b = (P 0).b then 0 else 3
def cntF (N : Nat) : Nat := if N = 0 then 5 else if 6 < N then 4 else 0
/-- What is wrong with pictures; with a film. -/
def chqF (N : Nat) (P : Nat → Pc) : Nat := if cntF N ≠ 0 then cntF N else if fstF (allP P) N ≠ 0 then fstF (allP P) N else fstF (samP P) N
def enfF (N : Nat) (P : Nat → Pc) (ev st : Int) : Nat := if chqF N P ≠ 0 then chqF N P else rngF ev st
theorem cntF_zero {N : Nat} : cntF N = 0 ↔ 1 ≤ N ∧ N ≤ 6 := by
  unfold cntF
  split
  · constructor
    · intro h; cases h
    · omega
  · split
    · constructor
      · intro h; cases h
      · omega
    · constructor
      · intro _; omega
      · intro _; rfl
theorem chqF_zero {N : Nat} {P : Nat → Pc} : chqF N P = 0 ↔ (1 ≤ N ∧ N ≤ 6) ∧ ∀ i, i < N → allP P i = 0 ∧ samP P i = 0 := by
  unfold chqF
  constructor
  · intro h
    split at h
    · rename_i c; exact absurd h c
    · rename_i c
      split at h
      · rename_i c2; exact absurd h c2
      · rename_i c2
        have h1 := fstF_zero.1 (show fstF (allP P) N = 0 by omega)
        have h2 := fstF_zero.1 h
        exact ⟨cntF_zero.1 (by omega), fun i hi => ⟨h1 i hi, h2 i hi⟩⟩
  · rintro ⟨h1, h2⟩
    rw [cntF_zero.2 h1, if_neg (by simp), fstF_zero.2 (fun i hi => (h2 i hi).1), if_neg (by simp)]
    exact fstF_zero.2 fun i hi => (h2 i hi).2
theorem enfF_zero {N : Nat} {P : Nat → Pc} {ev st : Int} : enfF N P ev st = 0 ↔ ∃ A B, FilOk N P ev st A B := by
  unfold enfF
  constructor
  · intro h
    split at h
    · rename_i c; exact absurd h c
    · rename_i c
      obtain ⟨⟨h1, h6⟩, hf⟩ := chqF_zero.1 (show chqF N P = 0 by omega)
      unfold rngF at h
      split at h
      · rename_i h4
        obtain ⟨A, B, o0⟩ := picF_zero.1 (hf 0 (by omega)).1
        refine ⟨A, B, h1, h6, fun i hi => ?_, h4.1, h4.2.1, h4.2.2.1, h4.2.2.2⟩
        obtain ⟨A', B', o⟩ := picF_zero.1 (hf i hi).1
        have hs := (hf i hi).2
        unfold samP at hs
        split at hs
        · rename_i c2
          obtain ⟨rfl, rfl⟩ := o.same o0 c2
          exact o
        · cases hs
      · cases h
  · rintro ⟨A, B, o⟩
    have h0 : chqF N P = 0 := chqF_zero.2 ⟨⟨o.one, o.six⟩, fun i hi => ⟨picF_zero.2 ⟨A, B, o.pic i hi⟩, by
      unfold samP
      have o0 := o.pic 0 (by omega)
      have oi := o.pic i hi
      rw [if_pos ⟨oi.wide.trans o0.wide.symm, oi.high.trans o0.high.symm⟩]⟩⟩
    rw [h0, if_neg (by simp)]
    unfold rngF
    rw [if_pos ⟨o.e1, o.e6, o.s1, o.s2⟩]
theorem enfF_range {N : Nat} {P : Nat → Pc} {ev st : Int} (h : chqF N P = 0) : enfF N P ev st = rngF ev st := by unfold enfF; rw [if_neg (by omega)]
theorem enfF_first {N : Nat} {P : Nat → Pc} {ev st : Int} (h : chqF N P ≠ 0) : enfF N P ev st = chqF N P := by unfold enfF; rw [if_pos h]

/-- One coded picture told behind the one ahead, whose sides are known. -/
def stpK (s : Int) (c : Cd) (p : Pc) : Nat × Pc := stpC p.a p.b s c p
theorem stpC_sides {a b s : Int} {c : Cd} {p : Pc} (h : (stpC a b s c p).1 = 0) (ha : p.a = a) (hb : p.b = b) : (stpC a b s c p).2.a = a ∧ (stpC a b s c p).2.b = b := by
  unfold stpC at h ⊢
  split at h
  · rename_i c1
    rw [if_pos c1]
    split at h
    · cases h
    · rename_i c2
      rw [if_neg c2]
      exact ⟨if_pos h, if_pos h⟩
  · rename_i c1
    rw [if_neg c1]
    exact ⟨(if_pos h).trans ha, (if_pos h).trans hb⟩
theorem stpC_alone {a b s : Int} {c : Cd} (p q : Pc) (h : c.al = true) : stpC a b s c p = stpC a b s c q := by
  unfold stpC; rw [if_pos h, if_pos h]
theorem stpC_pos {a b s : Int} {c : Cd} {p : Pc} (h : (stpC a b s c p).1 = 0) : 0 < (stpC a b s c p).2.n := by
  unfold stpC at h ⊢
  split at h
  · rename_i c1
    rw [if_pos c1]
    split at h
    · cases h
    · rename_i c2
      rw [if_neg c2]
      obtain ⟨A, B, o⟩ := decF_zero.1 h
      have e : deM a b s c.n c.f = c.n := if_pos h
      show 0 < deM a b s c.n c.f
      rw [e]; exact o.pos
  · rename_i c1
    rw [if_neg c1]
    obtain ⟨A, B, o⟩ := picF_zero.1 (mdeF_zero.1 h).1
    have e : mdM p.a p.b p.n p.f c.al c.x c.y c.n c.f s = p.n := if_pos h
    show 0 < mdM p.a p.b p.n p.f c.al c.x c.y c.n c.f s
    rw [e]; exact o.pos
theorem seeS_sides {a b s : Int} {C : Nat → Cd} (h0 : (C 0).al = true) : ∀ {i}, (seeS a b s C (i + 1)).1 = 0 → (seeS a b s C (i + 1)).2.a = a ∧ (seeS a b s C (i + 1)).2.b = b
  | 0, h => by
    rw [seeS_step rfl] at h ⊢
    rw [stpC_alone (seeS a b s C 0).2 ⟨a, b, 0, fun _ => 0⟩ h0] at h ⊢
    exact stpC_sides h rfl rfl
  | i + 1, h => by
    have h1 := seeS_back h (show i + 1 ≤ i + 1 + 1 by omega)
    rw [seeS_step h1] at h ⊢
    obtain ⟨e1, e2⟩ := seeS_sides h0 h1
    exact stpC_sides h e1 e2
/-- What stands ahead of the picture at a place. -/
def ahdP (a b s : Int) (C : Nat → Cd) (i : Nat) : Pc := if i = 0 then ⟨a, b, 0, fun _ => 0⟩ else (seeS a b s C i).2
theorem ahdP_step {a b s : Int} {C : Nat → Cd} (h0 : (C 0).al = true) {i : Nat} (h : (seeS a b s C i).1 = 0) : stpK s (C i) (ahdP a b s C i) = seeS a b s C (i + 1) := by
  rw [seeS_step h]
  unfold stpK ahdP
  split
  · rename_i c
    subst c
    exact stpC_alone _ _ h0
  · rename_i c
    obtain ⟨p, rfl⟩ : ∃ p, i = p + 1 := ⟨i - 1, by omega⟩
    obtain ⟨e1, e2⟩ := seeS_sides h0 h
    rw [e1, e2]
theorem ahdP_next {a b s : Int} {C : Nat → Cd} {i : Nat} : ahdP a b s C (i + 1) = (seeS a b s C (i + 1)).2 := if_neg (Nat.succ_ne_zero i)
end Go.Proofs.Ytfgcngjggdjcjaa

namespace Go.Proofs.Ytfgcngjggdjcjaa
open Go.RowKit
set_option linter.unusedVariables false
set_option maxRecDepth 100000

/-- The error that stands for a number: nil for 0. -/
def errN (f : Nat) : Value := if f = 0 then .nilIface else .iface 44 (.int .i64 f)
theorem errN_pos {k : Nat} (h : k ≠ 0) : errN k = .iface 44 (.int .i64 k) := by unfold errN; rw [if_neg h]
theorem errN_zero : errN 0 = .nilIface := rfl
theorem errN_one : errN 1 = .iface 44 (.int .i64 1) := rfl
theorem errN_three : errN 3 = .iface 44 (.int .i64 3) := rfl
end Go.Proofs.Ytfgcngjggdjcjaa

namespace Go.Proofs.Ytfgcngjggdjcjaa
open Go.RowKit
set_option linter.unusedVariables false
set_option maxRecDepth 100000

/-- A block that holds a Picture, none of it frozen. -/
def PicIn (w : World) (b : Nat) (x y : Int) (s : Value) : Prop :=
  (w.cell? ⟨b, 0, none⟩ = some (.int .i64 x) ∧ w.frozen? ⟨b, 0, none⟩ = false) ∧ (w.cell? ⟨b, 1, none⟩ = some (.int .i64 y) ∧ w.frozen? ⟨b, 1, none⟩ = false) ∧ w.cell? ⟨b, 2, none⟩ = some s ∧ w.frozen? ⟨b, 2, none⟩ = false
theorem picIn_new (w : World) (x y : Int) (s : Value) : PicIn (w.alloc (.cells #[.int .i64 x, .int .i64 y, s] 25)) w.heap.size x y s :=
  ⟨⟨by simp, by simp only [World.frozen?, (MapKept.heap_alloc w _).1]; simp⟩, ⟨by simp, by simp only [World.frozen?, (MapKept.heap_alloc w _).1]; simp⟩, by simp, by simp only [World.frozen?, (MapKept.heap_alloc w _).1]; simp⟩
theorem PicIn.lt {w : World} {b : Nat} {x y : Int} {s : Value} (h : PicIn w b x y s) : b < w.heap.size := cell_lt h.1.1
theorem PicIn.below {w w' : World} {b : Nat} {x y : Int} {s : Value} (h : PicIn w b x y s) (hb : Below w.heap.size w w') : PicIn w' b x y s :=
  ⟨⟨(hb.cell h.lt).trans h.1.1, (hb.frozen h.lt).trans h.1.2⟩, ⟨(hb.cell h.lt).trans h.2.1.1, (hb.frozen h.lt).trans h.2.1.2⟩, (hb.cell h.lt).trans h.2.2.1, (hb.frozen h.lt).trans h.2.2.2⟩
end Go.Proofs.Ytfgcngjggdjcjaa
