/-
  The numbers of the law that tells rice's three functions: which error's number stands where. No function is walked, and no statement is proved here.
-/
import Derived.Test.YtjklpcabnppnaaaDoorRcLs
namespace Go.Proofs.YtjklpcabnppnaaaDoor
set_option linter.unusedVariables false
set_option maxRecDepth 100000

/-- Whether one of the first is no number. -/
def nF (f : Nat → Int) (n : Nat) : Nat := if numsOk f n = true then 0 else 1
theorem nF_zero (f : Nat → Int) : nF f 0 = 0 := rfl
theorem nF_bad {f : Nat → Int} {n : Nat} (h : numOk (f n) = false) : nF f (n + 1) = 1 := by
  unfold nF
  have e : numsOk f (n + 1) = (numsOk f n && numOk (f n)) := rfl
  rw [e, h, Bool.and_false, if_neg (by simp)]
theorem nF_ok {f : Nat → Int} {n : Nat} (h : numOk (f n) = true) : nF f (n + 1) = nF f n := by
  unfold nF
  have e : numsOk f (n + 1) = (numsOk f n && numOk (f n)) := rfl
  rw [e, h, Bool.and_true]
theorem nF_le (f : Nat → Int) (n : Nat) : nF f n ≤ 1 := by unfold nF; split <;> omega
theorem nF_iff {f : Nat → Int} {n : Nat} : nF f n = 0 ↔ numsOk f n = true := by unfold nF; split <;> simp_all
/-- With the low. -/
def pF (a : Int) (f : Nat → Int) (n : Nat) : Nat := if lowOk a = true then nF f n else 1
theorem pF_iff {a : Int} {f : Nat → Int} {n : Nat} : pF a f n = 0 ↔ lowOk a = true ∧ numsOk f n = true := by
  unfold pF
  split
  · rename_i h; rw [nF_iff]; simp [h]
  · rename_i h; simp [h]
theorem pF_le (a : Int) (f : Nat → Int) (n : Nat) : pF a f n ≤ 1 := by unfold pF; have := nF_le f n; split <;> omega
theorem putE_bad {a : Int} {f : Nat → Int} {n : Nat} (h : pF a f n ≠ 0) : putE a f n = 1 ∧ pF a f n = 1 := by
  have h1 := pF_le a f n
  refine ⟨?_, by omega⟩
  unfold putE
  rw [if_pos]
  rw [← Bool.not_eq_true, Bool.and_eq_true]
  exact fun c => h (pF_iff.2 c)
theorem putE_full {a : Int} {low n : Nat} {f : Nat → Int} (ha : a = (low : Int)) (h : pF a f n = 0) (hl : 2000 < lenN low f n) : putE a f n = 4 := by
  subst ha
  have := pF_iff.1 h
  unfold putE
  rw [if_neg (by rw [this.1, this.2]; simp), Int.toNat_natCast, if_pos hl]
theorem putE_fine {a : Int} {low n : Nat} {f : Nat → Int} (ha : a = (low : Int)) (h : pF a f n = 0) (hl : lenN low f n ≤ 2000) : putE a f n = 0 ∧ putL a f n = rowB low (lst f n) := by
  subst ha
  have := pF_iff.1 h
  have e : putE (low : Int) f n = 0 := putE_of (by have := lowOk_iff.1 this.1; omega) (numsOk_iff.1 this.2) hl
  exact ⟨e, by rw [putL_ok e, Int.toNat_natCast]⟩
/-- Ahead of the reading. -/
def gB (a k : Int) (g : Nat → Int) (m : Nat) : Nat := if getF a k m ≠ 0 then getF a k m else if bitsOk g m = true then 0 else 1
theorem getF_le (a k : Int) (m : Nat) : getF a k m ≤ 4 := by unfold getF; split; omega; split; omega; split <;> omega
theorem gB_le (a k : Int) (g : Nat → Int) (m : Nat) : gB a k g m ≤ 4 := by
  unfold gB; have := getF_le a k m
  split
  · exact this
  · split <;> omega
theorem gB_bad {a k : Int} {g : Nat → Int} {m : Nat} (h : gB a k g m ≠ 0) : getE a k g m = gB a k g m ∧ getL a k g m = [] := by
  have e : getE a k g m = gB a k g m := by
    unfold gB at h ⊢
    unfold getE
    by_cases c : getF a k m ≠ 0
    · rw [if_pos c, if_pos c]
    · rw [if_neg c] at h ⊢
      rw [if_neg c]
      cases hb : bitsOk g m with
      | true => rw [hb, if_pos rfl] at h; exact absurd rfl h
      | false => rw [if_pos rfl, if_neg (by simp)]
  exact ⟨e, getL_bad (by rw [e]; exact h)⟩
theorem gB_ok {a k : Int} {g : Nat → Int} {m : Nat} (h : gB a k g m = 0) : ∃ low many, GetOk a k g m low many := by
  unfold gB at h
  split at h
  · rename_i h1; exact absurd h h1
  · rename_i h1
    have hF : getF a k m = 0 := by omega
    obtain ⟨low, many, rfl, rfl, q1, q2, q3⟩ := getF_zero hF
    split at h
    · rename_i h2
      exact ⟨low, many, ⟨rfl, rfl, q1, q2, q3, bitsOk_iff.1 h2⟩⟩
    · cases h
theorem gB_first {a k : Int} {g : Nat → Int} {m : Nat} (h : getF a k m ≠ 0) : gB a k g m = getF a k m := if_pos h
theorem gB_bit {a k : Int} {g : Nat → Int} {m : Nat} (h : getF a k m = 0) (hb : bitsOk g m = false) : gB a k g m = 1 := by unfold gB; rw [if_neg (by omega), if_neg (by simp [hb])]
theorem gB_fine {a k : Int} {g : Nat → Int} {m : Nat} (h : getF a k m = 0) (hb : bitsOk g m = true) : gB a k g m = 0 := by unfold gB; rw [if_neg (by omega), if_pos hb]
theorem bitsOk_miss {g : Nat → Int} {m i : Nat} (hi : i < m) (h : bitOk (g i) = false) : bitsOk g m = false := by
  rw [← Bool.not_eq_true, bitsOk_iff]
  intro hall
  have := bitOk_not.1 h
  have := hall i hi
  omega
theorem bitsOk_succ {g : Nat → Int} {i : Nat} (h : bitsOk g i = true) (h2 : bitOk (g i) = true) : bitsOk g (i + 1) = true := by
  show (bitsOk g i && bitOk (g i)) = true
  rw [h, h2]; rfl
theorem getE_of {a k : Int} {g : Nat → Int} {m low many : Nat} (h : GetOk a k g m low many) : getE a k g m = if (getN g m low many).isNone = true then 2 else 0 := by
  have hF : getF a k m = 0 := by
    unfold getF
    rw [if_neg (by rw [Bool.not_eq_false, lowOk_iff, h.low_is]; have := h.low_le; omega), if_neg (by rw [h.many_is]; have := h.many_le; omega), if_neg (by have := h.len; omega)]
  unfold getE
  rw [if_neg (by omega), if_neg (by rw [bitsOk_iff.2 h.bits]; simp), h.low_is, h.many_is, Int.toNat_natCast, Int.toNat_natCast]
theorem get_none {a k : Int} {g : Nat → Int} {m low many : Nat} (h : GetOk a k g m low many) (hn : getN g m low many = none) : getE a k g m = 2 ∧ getL a k g m = [] := by
  have e : getE a k g m = 2 := by rw [getE_of h, hn]; rfl
  exact ⟨e, getL_bad (by omega)⟩
theorem get_some {a k : Int} {g : Nat → Int} {m low many : Nat} {xs : List Int} (h : GetOk a k g m low many) (hn : getN g m low many = some xs) : getE a k g m = 0 ∧ getL a k g m = xs := by
  have e : getE a k g m = 0 := by rw [getE_of h, hn]; rfl
  refine ⟨e, ?_⟩
  unfold getL
  rw [if_pos e, h.low_is, h.many_is, Int.toNat_natCast, Int.toNat_natCast, hn]
  rfl
theorem getN_miss {g : Nat → Int} {m low many : Nat} {xs : List Int} {a : Nat} (h : stpN g m low many = some (xs, a)) (ha : a ≠ m) : getN g m low many = none := by
  unfold getN
  rw [h]
  show (if a = m then some xs else none) = none
  rw [if_neg ha]
theorem getN_past {g : Nat → Int} {m low many : Nat} (h : stpN g m low many = none) : getN g m low many = none := by
  unfold getN
  rw [h]; rfl
theorem bestE_bad {f : Nat → Int} {n : Nat} (h : nF f n ≠ 0) : bestE f n = 1 ∧ bestA f n = 0 ∧ nF f n = 1 := by
  have h1 := nF_le f n
  have hb : numsOk f n = false := by rw [← Bool.not_eq_true]; exact fun c => h (nF_iff.2 c)
  have e : bestE f n = 1 := by unfold bestE; rw [if_pos hb]
  exact ⟨e, by unfold bestA; rw [e, if_neg (by omega)], by omega⟩
end Go.Proofs.YtjklpcabnppnaaaDoor
