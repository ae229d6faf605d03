/-
  What alone's and dropref2's functions say of any input, as one. Lemmas for the laws above; no statement is proved here.
-/
import Derived.Test.YtckjbecfhgheiaaDoorAlC
import Derived.Test.YtckjbecfhgheiaaDoorRAlA
import Derived.Test.YtckjbecfhgheiaaDoorRAlT
namespace Go.Proofs.YtckjbecfhgheiaaDoor
open Go.RowKit
set_option linter.unusedVariables false
set_option maxRecDepth 100000

/-- What a picture is coded as, where it may be and where not. -/
def enM (a b : Int) (n : Nat) (f : Nat → Int) (s : Int) : Nat := if encF a b n f s = 0 then n else 0
def enG (a s : Int) (f : Nat → Int) : Nat → Int := restF a.toNat s (byPix s f)
theorem enM_le (a b : Int) (n : Nat) (f : Nat → Int) (s : Int) : enM a b n f s ≤ 36 := by
  unfold enM
  split
  · rename_i h
    obtain ⟨⟨A, B, o⟩, _⟩ := encF_zero.1 h
    exact o.le
  · omega
theorem aenc_any {w : World} {v : Value} {n : Nat} {f : Nat → Int} (a b s : Int) (h : IntsIn w v n f) :
    Calls Tryd.prog 6 #[.agg #[.int .i64 a, .int .i64 b, v], .int .i64 s] w fun e w' => ∃ u, e = .returned (.tuple #[u, errN (encF a b n f s)]) ∧ IntsIn w' u (enM a b n f s) (enG a s f) ∧ Below w.heap.size w w' := by
  by_cases hx : encF a b n f s = 0
  · obtain ⟨⟨A, B, o⟩, s1, s2⟩ := encF_zero.1 hx
    refine (aenc_ok h o s1 s2).mono ?_
    rintro e w' ⟨u, rfl, hu, hb, _⟩
    refine ⟨u, by rw [hx]; rfl, ?_, hb⟩
    unfold enM enG; rw [if_pos hx, o.wide]; exact hu
  · refine (aenc_bad a b s h hx).mono ?_
    rintro e w' ⟨rfl, hb⟩
    refine ⟨.slice none 0 0, rfl, ?_, hb⟩
    unfold enM; rw [if_neg hx]; exact Or.inl ⟨rfl, _, _, rfl⟩
/-- What rests tell, where they may and where not. -/
def deX (a b s : Int) (n : Nat) (f : Nat → Int) : Int := if decF a b s n f = 0 then a else 0
def deY (a b s : Int) (n : Nat) (f : Nat → Int) : Int := if decF a b s n f = 0 then b else 0
def deM (a b s : Int) (n : Nat) (f : Nat → Int) : Nat := if decF a b s n f = 0 then n else 0
def deG (a s : Int) (f : Nat → Int) : Nat → Int := tellF a.toNat s fun i _ => f i
theorem deM_le (a b s : Int) (n : Nat) (f : Nat → Int) : deM a b s n f ≤ 36 := by
  unfold deM
  split
  · rename_i h
    obtain ⟨A, B, o⟩ := decF_zero.1 h
    exact o.le
  · omega
theorem adec_any {w : World} {v : Value} {n : Nat} {f : Nat → Int} (a b s : Int) (h : IntsIn w v n f) :
    Calls Tryd.prog 10 #[.int .i64 a, .int .i64 b, .int .i64 s, v] w fun e w' => ∃ u, e = .returned (.tuple #[.agg #[.int .i64 (deX a b s n f), .int .i64 (deY a b s n f), u], errN (decF a b s n f)]) ∧ IntsIn w' u (deM a b s n f) (deG a s f) ∧ Below w.heap.size w w' := by
  by_cases hx : decF a b s n f = 0
  · obtain ⟨A, B, o⟩ := decF_zero.1 hx
    refine (adec_ok h o).mono ?_
    rintro e w' ⟨u, rfl, hu, hb, _⟩
    refine ⟨u, ?_, ?_, hb⟩
    · unfold deX deY; rw [hx, if_pos rfl, if_pos rfl]; rfl
    · unfold deM deG; rw [if_pos hx, o.wide]; exact hu
  · refine (adec_bad a b s h hx).mono ?_
    rintro e w' ⟨rfl, hb⟩
    refine ⟨.slice none 0 0, ?_, ?_, hb⟩
    · unfold deX deY; rw [if_neg hx, if_neg hx]
    · unfold deM; rw [if_neg hx]; exact Or.inl ⟨rfl, _, _, rfl⟩
theorem rtold_any {w : World} {v : Value} {n : Nat} {f : Nat → Int} (a b s : Int) (h : IntsIn w v n f) :
    Calls Tryd.prog 9 #[.int .i64 a, .int .i64 b, .int .i64 s, v] w fun e w' => ∃ u, e = .returned (.tuple #[.agg #[.int .i64 (deX a b s n f), .int .i64 (deY a b s n f), u], .int .i64 (decF a b s n f : Nat)]) ∧ IntsIn w' u (deM a b s n f) (deG a s f) ∧ Below w.heap.size w w' := by
  by_cases hx : decF a b s n f = 0
  · obtain ⟨A, B, o⟩ := decF_zero.1 hx
    refine (rtold_ok h o).mono ?_
    rintro e w' ⟨u, rfl, hu, hb⟩
    refine ⟨u, ?_, ?_, hb⟩
    · unfold deX deY; rw [hx, if_pos rfl, if_pos rfl]; rfl
    · unfold deM deG; rw [if_pos hx, o.wide]; exact hu
  · refine (rtold_bad a b s h hx).mono ?_
    rintro e w' ⟨rfl, hb⟩
    refine ⟨.slice none 0 0, ?_, ?_, hb⟩
    · unfold deX deY; rw [if_neg hx, if_neg hx]
    · unfold deM; rw [if_neg hx]; exact Or.inl ⟨rfl, _, _, rfl⟩
end Go.Proofs.YtckjbecfhgheiaaDoor
