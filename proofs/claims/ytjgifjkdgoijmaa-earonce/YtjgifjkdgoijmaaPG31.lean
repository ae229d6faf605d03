/-
  Lemmas for the law above, joined into one text (ZeroA, SvN). No statement is proved here.
-/
import Derived.Test.YtjgifjkdgoijmaaPG30
import Derived.Test.YtjgifjkdgoijmaaPG9
import Derived.Test.YtjgifjkdgoijmaaPG3
import Derived.Lib.BitFns
namespace Go.Proofs.Ytjgifjkdgoijmaa
open Go.RowKit
set_option linter.unusedVariables false
set_option maxRecDepth 100000

theorem zerosB_at (n i : Nat) : atB (zerosB n) i = 0 := by
  rw [atB, zerosB, List.toList_toArray, List.getD, List.getElem?_replicate]; split <;> rfl
end Go.Proofs.Ytjgifjkdgoijmaa

namespace Go.Proofs.Ytjgifjkdgoijmaa
open Go.RowKit
set_option linter.unusedVariables false
set_option maxRecDepth 100000

theorem atB_out (s : ByteArray) (i : Nat) (h : s.size ≤ i) : atB s i = 0 := by
  unfold atB
  rw [Lib.size_eq] at h
  simp [List.getD, List.getElem?_eq_none h]
/-- A row of a set of places and of bytes. -/
def rv (m : Nat) (d : ByteArray) : RV := (m, atB d)
theorem rv_xor {m n : Nat} {d e : ByteArray} (h : e.size = d.size) : rv (m ^^^ n) (xorB d e) = XV.add (rv m d) (rv n e) := by
  refine Prod.ext rfl (funext fun i => ?_)
  show atB (xorB d e) i = atB d i ^^^ atB e i
  rcases Nat.lt_or_ge i d.size with hi | hi
  · exact xorB_at _ _ _ hi
  · rw [atB_out _ _ (by rw [xorB_size]; exact hi), atB_out _ _ hi, atB_out _ _ (by rw [h]; exact hi)]; rfl
theorem bytes_fun {d e : ByteArray} (h : d.size = e.size) (h2 : atB d = atB e) : d = e := bytes_ext h (fun i _ => congrFun h2 i)
theorem zero_iff {d : ByteArray} {n : Nat} (h : d.size = n) : d = zerosB n ↔ atB d = fun _ => 0 := by
  constructor
  · intro e; rw [e]; exact funext fun i => zerosB_at n i
  · intro e; exact bytes_fun (by rw [h, zerosB_size]) (by rw [e]; exact (funext fun i => zerosB_at n i).symm)

/-- A list of places as a number. -/
def maskL (s : List Nat) : Nat := s.foldl (fun m p => m ||| 2 ^ p) 0
theorem mask_from (j : Nat) : ∀ (s : List Nat) (m : Nat), (s.foldl (fun m p => m ||| 2 ^ p) m).testBit j = (m.testBit j || decide (j ∈ s))
  | [], m => by simp
  | p :: s, m => by
    show (s.foldl (fun m p => m ||| 2 ^ p) (m ||| 2 ^ p)).testBit j = _
    rw [mask_from j s, Nat.testBit_or, Nat.testBit_two_pow]
    by_cases c : j = p
    · subst c; simp
    · have c' : ¬ p = j := fun e => c e.symm
      simp [c, c']
theorem maskL_bit (s : List Nat) (j : Nat) : (maskL s).testBit j = decide (j ∈ s) := by unfold maskL; rw [mask_from]; simp
theorem maskL_snoc (s : List Nat) (p : Nat) : maskL (s ++ [p]) = maskL s ||| 2 ^ p := by simp [maskL, List.foldl_append]
theorem lt_of_bits {m k : Nat} (h : ∀ j, k ≤ j → m.testBit j = false) : m < 2 ^ k := by
  refine Nat.lt_of_not_le fun hle => ?_
  obtain ⟨i, hi, hb⟩ := Nat.exists_ge_and_testBit_of_ge_two_pow hle
  rw [h i hi] at hb; cases hb
theorem maskL_lt {s : List Nat} {k : Nat} (h : ∀ p ∈ s, p < k) : maskL s < 2 ^ k := lt_of_bits fun j hj => by
  rw [maskL_bit]; exact decide_eq_false fun hm => by have := h j hm; omega
theorem bit_at {m p : Nat} (h1 : 2 ^ p ≤ m) (h2 : m < 2 ^ (p + 1)) : m.testBit p = true := by
  rw [Nat.testBit_eq_decide_div_mod_eq]
  have e : m / 2 ^ p = 1 := by
    rw [Nat.pow_succ] at h2
    exact Nat.div_eq_of_lt_le (by omega) (by omega)
  rw [e]; rfl
theorem lt_no_top {m p : Nat} (h : m < 2 ^ (p + 1)) (hb : m.testBit p = false) : m < 2 ^ p := lt_of_bits fun j hj => by
  by_cases e : j = p
  · rw [e]; exact hb
  · exact bit_big h (by omega)
/-- The last place of a set. -/
theorem top_of {m : Nat} (h0 : m ≠ 0) (h : m < 2 ^ 64) : ∃ p, Lib.bitLen m = p + 1 ∧ m.testBit p = true ∧ m < 2 ^ (p + 1) := by
  suffices ∃ p, Lib.bitLen m = p + 1 ∧ 2 ^ p ≤ m ∧ m < 2 ^ (p + 1) by
    obtain ⟨p, h1, h2, h3⟩ := this
    exact ⟨p, h1, bit_at h2 h3, h3⟩
  induction m using Nat.strongRecOn with
  | ind m ih =>
    by_cases h1 : m = 1
    · subst h1; exact ⟨0, by decide +kernel, by decide, by decide⟩
    · obtain ⟨p, e, l, u⟩ := ih (m / 2) (by omega) (by omega) (by omega)
      refine ⟨p + 1, by rw [Lib.bitLen_half m h0 h, e]; omega, ?_, ?_⟩
      · rw [Nat.pow_succ]; omega
      · rw [Nat.pow_succ]; omega
theorem top_lt {m p k : Nat} (h : m < 2 ^ k) (hb : m.testBit p = true) : p < k := by
  rcases Nat.lt_or_ge p k with h1 | h1
  · exact h1
  · rw [bit_big h h1] at hb; cases hb
/-- Over one of the same last place it is less. -/
theorem xor_less {m n p : Nat} (h1 : m.testBit p = true) (h2 : m < 2 ^ (p + 1)) (h3 : n.testBit p = true) (h4 : n < 2 ^ (p + 1)) : m ^^^ n < m := by
  have hx : m ^^^ n < 2 ^ p := lt_no_top (Nat.xor_lt_two_pow h2 h4) (by rw [Nat.testBit_xor, h1, h3]; rfl)
  have hm : 2 ^ p ≤ m := Nat.ge_two_pow_of_testBit h1
  omega
/-- The rows of the first drops, i of them. -/
noncomputable def rowsD (k : Nat) (s : Nat → Nat) (d : Nat → ByteArray) (i : Nat) : List RV := (List.range i).map fun j => rv (maskL (setL k (s j))) (d j)
theorem rowsD_succ (k : Nat) (s : Nat → Nat) (d : Nat → ByteArray) (i : Nat) : rowsD k s d (i + 1) = rowsD k s d i ++ [rv (maskL (setL k (s i))) (d i)] := by unfold rowsD; rw [List.range_succ, List.map_append]; rfl
theorem setL_mask {k seed : Nat} (hk : 1 ≤ k) (h1 : 1 ≤ seed) : maskL (setL k seed) < 2 ^ k := maskL_lt fun p hp => setL_lt hk h1 hp
end Go.Proofs.Ytjgifjkdgoijmaa
