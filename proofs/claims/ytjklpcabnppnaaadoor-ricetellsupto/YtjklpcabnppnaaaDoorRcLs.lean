/-
  Put and Get at whatever they are given: an error's number and a list. Lemmas for the laws above; no statement is proved here.
-/
import Derived.Test.YtjklpcabnppnaaaDoorRcAny
namespace Go.Proofs.YtjklpcabnppnaaaDoor
open Go.RowKit Go.Maps
set_option linter.unusedVariables false
set_option maxRecDepth 100000

/-- A slice that holds a list of numbers. -/
def ListIn (w : World) (v : Value) (l : List Int) : Prop := IntsIn w v l.length (fun k => l.getD k 0)
theorem ListIn.below {w w' : World} {v : Value} {l : List Int} (h : ListIn w v l) (hb : Below w.heap.size w w') : ListIn w' v l := IntsIn.below h hb
theorem listIn_nil (w : World) : ListIn w (.slice none 0 0) [] := Or.inl ⟨rfl, _, _, rfl⟩
theorem rowV_list {w : World} {B n : Nat} {v : Value} {l : List Int} (h : w.ownsRow B 3 1 v n (encI l)) (hn : n = l.length) : ListIn w v l := by
  have h2 := rowV_in h hn
  subst hn
  exact h2
/-- What is put. -/
def putL (a : Int) (f : Nat → Int) (n : Nat) : List Int := if putE a f n = 0 then rowB a.toNat (lst f n) else []
theorem putL_bad {a : Int} {f : Nat → Int} {n : Nat} (h : putE a f n ≠ 0) : putL a f n = [] := if_neg h
theorem putL_ok {a : Int} {f : Nat → Int} {n : Nat} (h : putE a f n = 0) : putL a f n = rowB a.toNat (lst f n) := if_pos h
theorem putL_len (a : Int) (f : Nat → Int) (n : Nat) : (putL a f n).length ≤ 2000 := by
  by_cases h : putE a f n = 0
  · obtain ⟨low, rfl, h1, h2, h3⟩ := putE_zero h
    rw [putL_ok h, Int.toNat_natCast, rowB_len]
    exact h3
  · rw [putL_bad h]; exact Nat.zero_le _
theorem rput_list {w : World} {v : Value} {n : Nat} {f : Nat → Int} (a : Int) (h : IntsIn w v n f) (hn : n ≤ 17592186044416) :
    Calls Tryd.prog 6 #[v, .int .i64 a] w fun e w' => ∃ u, e = .returned (.tuple #[u, errN (putE a f n)]) ∧ ListIn w' u (putL a f n) ∧ Below w.heap.size w w' := by
  refine (rput_any a h hn).mono ?_
  rintro e w' ⟨(⟨hx, rfl⟩ | ⟨hx, low, ad, cp, hok, rfl, ho⟩), hb⟩
  · exact ⟨_, rfl, by rw [putL_bad hx]; exact listIn_nil _, hb⟩
  · refine ⟨_, by rw [hx]; rfl, ?_, hb⟩
    rw [putL_ok hx, hok.low_is, Int.toNat_natCast]
    exact rowV_list ho (rowB_len low f n).symm
/-- What is got. -/
def getL (a k : Int) (g : Nat → Int) (m : Nat) : List Int := if getE a k g m = 0 then (getN g m a.toNat k.toNat).getD [] else []
theorem getL_bad {a k : Int} {g : Nat → Int} {m : Nat} (h : getE a k g m ≠ 0) : getL a k g m = [] := if_neg h
theorem getE_ok {a k : Int} {g : Nat → Int} {m : Nat} (h : getE a k g m = 0) : ∃ low many xs, GetOk a k g m low many ∧ getN g m low many = some xs ∧ xs.length = many ∧ getL a k g m = xs := by
  have h' := h
  unfold getE at h
  split at h
  · rename_i h1; exact absurd h h1
  · rename_i h1
    have hF : getF a k m = 0 := by omega
    obtain ⟨low, many, rfl, rfl, q1, q2, q3⟩ := getF_zero hF
    split at h
    · cases h
    · rename_i h2
      rw [Bool.not_eq_false] at h2
      split at h
      · cases h
      · rename_i h3
        rw [Int.toNat_natCast, Int.toNat_natCast] at h3
        cases h4 : getN g m low many with
        | none => rw [h4] at h3; exact absurd rfl h3
        | some xs =>
          refine ⟨low, many, xs, ⟨rfl, rfl, q1, q2, q3, bitsOk_iff.1 h2⟩, h4, (stpN_len (getN_some h4)).1, ?_⟩
          unfold getL
          rw [if_pos h', Int.toNat_natCast, Int.toNat_natCast, h4]
          rfl
theorem getL_len (a k : Int) (g : Nat → Int) (m : Nat) : (getL a k g m).length ≤ 2000 := by
  by_cases h : getE a k g m = 0
  · obtain ⟨low, many, xs, hok, _, hl, he⟩ := getE_ok h
    rw [he, hl]; exact hok.many_le
  · rw [getL_bad h]; exact Nat.zero_le _
theorem rget_list {w : World} {v : Value} {m : Nat} {g : Nat → Int} (a k : Int) (h : SlI w v m g) :
    Calls Tryd.prog 10 #[v, .int .i64 a, .int .i64 k] w fun e w' => ∃ u, e = .returned (.tuple #[u, errN (getE a k g m)]) ∧ ListIn w' u (getL a k g m) ∧ Below w.heap.size w w' := by
  refine (rget_any a k h).mono ?_
  rintro e w' ⟨(⟨hx, rfl⟩ | ⟨hx, low, many, xs, ad, cp, hok, hgn, hlen, rfl, ho⟩), hb⟩
  · exact ⟨_, rfl, by rw [getL_bad hx]; exact listIn_nil _, hb⟩
  · refine ⟨_, by rw [hx]; rfl, ?_, hb⟩
    have e : getL a k g m = xs := by
      unfold getL
      rw [if_pos hx, hok.low_is, hok.many_is, Int.toNat_natCast, Int.toNat_natCast, hgn]
      rfl
    rw [e]
    exact rowV_list ho hlen.symm

/-- The document's way to the best low: what it has found behind so many. -/
def dbest (D : Nat → Nat) : Nat → Nat × Nat
  | 0 => (0, 2001)
  | i + 1 => if D i < (dbest D i).2 then (i, D i) else dbest D i
theorem dbest_step (D : Nat → Nat) (i : Nat) : dbest D (i + 1) = if D i < (dbest D i).2 then (i, D i) else dbest D i := rfl
theorem dbest_le (D : Nat → Nat) : ∀ i, (dbest D i).2 ≤ 2001 ∧ (dbest D i).1 ≤ i
  | 0 => ⟨Nat.le_refl _, Nat.le_refl _⟩
  | i + 1 => by
    have := dbest_le D i
    rw [dbest_step]
    split
    · exact ⟨by simp only; omega, by simp only; omega⟩
    · exact ⟨this.1, by omega⟩
theorem dbest_is (D : Nat → Nat) : ∀ i, 0 < i → (D (bestI D i) < 2001 ∧ dbest D i = (bestI D i, D (bestI D i))) ∨ (2001 ≤ D (bestI D i) ∧ dbest D i = (0, 2001))
  | 1, _ => by
    have e : bestI D 1 = 0 := bestI_one D
    rw [e, dbest_step]
    show (D 0 < 2001 ∧ (if D 0 < 2001 then (0, D 0) else (0, 2001)) = (0, D 0)) ∨ (2001 ≤ D 0 ∧ (if D 0 < 2001 then (0, D 0) else (0, 2001)) = (0, 2001))
    by_cases c : D 0 < 2001
    · rw [if_pos c]; exact Or.inl ⟨c, rfl⟩
    · rw [if_neg c]; exact Or.inr ⟨by omega, rfl⟩
  | i + 2, _ => by
    have ih := dbest_is D (i + 1) (by omega)
    rw [dbest_step, bestI_step (i := i + 1)]
    rcases ih with ⟨h1, h2⟩ | ⟨h1, h2⟩
    · rw [h2]
      by_cases c : D (i + 1) < D (bestI D (i + 1))
      · rw [if_pos c, if_pos c]; exact Or.inl ⟨by omega, rfl⟩
      · rw [if_neg c, if_neg c]; exact Or.inl ⟨h1, rfl⟩
    · rw [h2]
      by_cases c : D (i + 1) < 2001
      · rw [if_pos c, if_pos (by omega)]; exact Or.inl ⟨c, rfl⟩
      · rw [if_neg c]
        split
        · exact Or.inr ⟨by omega, rfl⟩
        · exact Or.inr ⟨h1, rfl⟩
/-- It comes to the best low, and to what is wrong. -/
theorem dbest_end {f : Nat → Int} {n : Nat} (h : numsOk f n = true) : bestE f n = (if 2000 < (dbest (fun low => lenN low f n) 8).2 then 4 else 0) ∧ bestA f n = (if 2000 < (dbest (fun low => lenN low f n) 8).2 then 0 else (dbest (fun low => lenN low f n) 8).1) := by
  have hE : bestE f n = if 2000 < lenN (bestL f n) f n then 4 else 0 := by unfold bestE; rw [if_neg (by simp [h])]
  have hL : bestL f n = bestI (fun low => lenN low f n) 8 := rfl
  unfold bestA
  rw [hE]
  rcases dbest_is (fun low => lenN low f n) 8 (by omega) with ⟨h1, h2⟩ | ⟨h1, h2⟩
  · rw [h2, ← hL]
    rw [← hL] at h1
    have c : ¬ 2000 < lenN (bestL f n) f n := by have : lenN (bestL f n) f n < 2001 := h1; omega
    simp only [if_neg c]
    first | exact ⟨rfl, rfl⟩ | simp
  · rw [h2]
    rw [← hL] at h1
    have c : 2000 < lenN (bestL f n) f n := by have : 2001 ≤ lenN (bestL f n) f n := h1; omega
    simp only [if_pos c]
    first | exact ⟨rfl, rfl⟩ | simp
end Go.Proofs.YtjklpcabnppnaaaDoor
