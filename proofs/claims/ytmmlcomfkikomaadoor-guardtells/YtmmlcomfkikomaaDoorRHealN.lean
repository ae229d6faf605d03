/-
  The numbers of the document's Heal. Lemmas for the laws above; no function is walked, and no statement is proved here.
-/
import Derived.Test.YtmmlcomfkikomaaDoorRGrp
namespace Go.Proofs.YtmmlcomfkikomaaDoor
open Go.RowKit
set_option linter.unusedVariables false
set_option maxRecDepth 100000

/-- The last one of a list, or -1. -/
def lastI (l : List Nat) : Int := match l.getLast? with
  | none => -1
  | some x => (x : Nat)
theorem lastI_nil : lastI [] = -1 := rfl
theorem lastI_snoc (l : List Nat) (x : Nat) : lastI (l ++ [x]) = (x : Nat) := by simp [lastI]
theorem lastI_one (x : Nat) : lastI [x] = (x : Nat) := rfl

theorem take_yes {L : List Nat} {p : Nat → Bool} {k r : Nat} (hr : L[k]? = some r) (hp : p r = true) : (L.take (k + 1)).filter p = (L.take k).filter p ++ [r] := by
  rw [List.take_add_one, hr, List.filter_append]; simp [hp]
theorem take_no {L : List Nat} {p : Nat → Bool} {k r : Nat} (hr : L[k]? = some r) (hp : p r = false) : (L.take (k + 1)).filter p = (L.take k).filter p := by
  rw [List.take_add_one, hr, List.filter_append]; simp [hp]

theorem xorB_zero {a b : ByteArray} (h : b.size = a.size) : xorB a b = zerosB a.size ↔ a = b := by
  constructor
  · intro e
    refine bytes_ext h.symm fun i hi => ?_
    have h1 := xorB_at a b i hi
    rw [e, zerosB_at] at h1
    have h2 := congrArg (fun x => atB a i ^^^ x) h1
    simp only [← UInt8.xor_assoc, UInt8.xor_self, UInt8.zero_xor, UInt8.xor_zero] at h2
    exact h2
  · rintro rfl
    refine bytes_ext (by rw [xorB_size, zerosB_size]) fun i hi => ?_
    rw [xorB_size] at hi
    rw [xorB_at _ _ _ hi, zerosB_at, UInt8.xor_self]

section grp
variable {g : Nat → ByteArray} {lk : Nat → Bool} {of : List Nat} {bh : Nat}
theorem rest_none (hnd : (of ++ [bh]).Nodup) (h : mGone lk of bh = []) : mPl lk of bh = bh ∧ mRest lk of bh = of ∧ (of ++ [bh]).filter (fun r => !lk r) = of ++ [bh] := by
  have hp : mPl lk of bh = bh := by unfold mPl; rw [h]; rfl
  refine ⟨hp, ?_, ?_⟩
  · unfold mRest
    rw [hp, List.filter_append]
    have h1 : of.filter (fun r => !(r == bh)) = of := List.filter_eq_self.2 fun a ha => by
      have : a ≠ bh := fun e => by
        rw [List.nodup_append] at hnd
        exact hnd.2.2 a ha bh (by simp) e
      simp [this]
    rw [h1]; simp
  · refine List.filter_eq_self.2 fun a ha => ?_
    cases e : lk a with
    | false => rfl
    | true =>
      have h9 : a ∈ mGone lk of bh := List.mem_filter.2 ⟨ha, e⟩
      rw [h] at h9; cases h9
theorem flt_none (hs : (g bh).size = (g 0).size) (hnd : (of ++ [bh]).Nodup) (h : mGone lk of bh = []) : mFlt g lk of bh = if sumL g ((of ++ [bh]).filter fun r => !lk r) = zerosB (g 0).size then 0 else 7 := by
  obtain ⟨h1, h2, h3⟩ := rest_none hnd h
  have e : sumL g (of ++ [bh]) = zerosB (g 0).size ↔ sumL g of = g bh := by
    rw [← sumL_snoc]
    have h9 := xorB_zero (a := sumL g of) (b := g bh) (by rw [sumL_size]; exact hs)
    rw [sumL_size] at h9
    exact h9
  rw [h3]
  unfold mFlt mDat
  rw [h, h2, if_neg (by simp)]
  by_cases c : sumL g of = g bh
  · rw [if_neg (fun h => h.2 c), if_pos (e.2 c)]
  · rw [if_pos ⟨rfl, c⟩, if_neg (fun h => c (e.1 h))]
theorem rest_one {x : Nat} (h : mGone lk of bh = [x]) : mPl lk of bh = x ∧ (of ++ [bh]).filter (fun r => !lk r) = mRest lk of bh ∧ x ∈ of ++ [bh] ∧ mFlt g lk of bh = 0 := by
  have hp : mPl lk of bh = x := by unfold mPl; rw [h]; rfl
  have hx : x ∈ of ++ [bh] ∧ lk x = true := List.mem_filter.1 (show x ∈ mGone lk of bh by rw [h]; simp)
  refine ⟨hp, ?_, hx.1, by unfold mFlt; rw [h]; simp⟩
  unfold mRest
  rw [hp]
  refine List.filter_congr fun r hr => ?_
  cases e : lk r with
  | true =>
    have h9 : r ∈ mGone lk of bh := List.mem_filter.2 ⟨hr, e⟩
    rw [h] at h9; simp at h9; simp [h9]
  | false =>
    have : r ≠ x := fun e2 => by rw [e2, hx.2] at e; cases e
    simp [this]
theorem flt_many (h : 1 < (mGone lk of bh).length) : mFlt g lk of bh = 8 := by unfold mFlt; rw [if_pos h]
end grp

/-- What the document's Heal answers where the number of blocks is right. -/
def HealR (g : Nat → ByteArray) (lk : Nat → Bool) (n each : Nat) (w : World) (e : Ending) (w' : World) : Prop :=
  (∃ v, e = .returned (.tuple #[v, .int .i64 0]) ∧ (∀ q, q < gN n each → hFlt g lk n each q = 0) ∧ w'.ownsRow w.heap.size 9 1 v n (strV (healF g lk n each (gN n each)) n) ∧ Below w.heap.size w w') ∨
  ∃ q, q < gN n each ∧ hFlt g lk n each q ≠ 0 ∧ (∀ p, p < q → hFlt g lk n each p = 0) ∧ e = .returned (.tuple #[.slice none 0 0, .int .i64 (hFlt g lk n each q : Nat)]) ∧ Below w.heap.size w w'
end Go.Proofs.YtmmlcomfkikomaaDoor
