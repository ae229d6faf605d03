/-
  Put and Get at whatever they are given, as one contract each. Lemmas for the laws above; no statement is proved here.
-/
import Derived.Test.YtjklpcabnppnaaaDoorRcPut
import Derived.Test.YtjklpcabnppnaaaDoorRcBest
import Derived.Test.YtjklpcabnppnaaaDoorRcGet
namespace Go.Proofs.YtjklpcabnppnaaaDoor
open Go.RowKit Go.Maps
set_option linter.unusedVariables false
set_option maxRecDepth 100000

/-- What is right to be put. -/
structure PutOk (a : Int) (f : Nat → Int) (n low : Nat) : Prop where
  low_is : a = (low : Int)
  low_le : low ≤ 7
  nums : ∀ i, i < n → -255 ≤ f i ∧ f i ≤ 255
  len : lenN low f n ≤ 2000
theorem rput_any {w : World} {v : Value} {n : Nat} {f : Nat → Int} (a : Int) (h : IntsIn w v n f) (hn : n ≤ 17592186044416) :
    Calls Tryd.prog 6 #[v, .int .i64 a] w fun e w' => ((putE a f n ≠ 0 ∧ e = .returned (.tuple #[.slice none 0 0, errN (putE a f n)])) ∨ (putE a f n = 0 ∧ ∃ low ad cp, PutOk a f n low ∧ e = .returned (.tuple #[.slice ad (lenN low f n) cp, .nilIface]) ∧ w'.ownsRow w.heap.size 3 1 (.slice ad (lenN low f n) cp) (lenN low f n) (encI (rowB low (lst f n))))) ∧ Below w.heap.size w w' := by
  by_cases hx : putE a f n = 0
  · obtain ⟨low, rfl, h1, h2, h3⟩ := putE_zero hx
    refine (rput_ok h h1 h2 h3).mono ?_
    rintro e w' ⟨ad, cp, he, ho, hb⟩
    exact ⟨Or.inr ⟨hx, low, ad, cp, ⟨rfl, h1, h2, h3⟩, he, ho⟩, hb⟩
  · refine (rput_bad a h hn hx).mono ?_
    rintro e w' ⟨he, rfl⟩
    exact ⟨Or.inl ⟨hx, he⟩, Below.refl _ _⟩

/-- What is wrong with what is got. -/
def getE (a k : Int) (g : Nat → Int) (m : Nat) : Nat := if getF a k m ≠ 0 then getF a k m else if bitsOk g m = false then 1 else if (getN g m a.toNat k.toNat).isNone = true then 2 else 0
/-- What is right to be got. -/
structure GetOk (a k : Int) (g : Nat → Int) (m low many : Nat) : Prop where
  low_is : a = (low : Int)
  many_is : k = (many : Int)
  low_le : low ≤ 7
  many_le : many ≤ 2000
  len : m ≤ 2000
  bits : ∀ i, i < m → g i = 0 ∨ g i = 1
theorem getF_zero {a k : Int} {m : Nat} (h : getF a k m = 0) : ∃ low many : Nat, a = (low : Int) ∧ k = (many : Int) ∧ low ≤ 7 ∧ many ≤ 2000 ∧ m ≤ 2000 := by
  unfold getF at h
  split at h
  · cases h
  · rename_i h1
    rw [Bool.not_eq_false, lowOk_iff] at h1
    split at h
    · cases h
    · split at h
      · cases h
      · exact ⟨a.toNat, k.toNat, by omega, by omega, by omega, by omega, by omega⟩
theorem rget_any {w : World} {v : Value} {m : Nat} {g : Nat → Int} (a k : Int) (h : SlI w v m g) :
    Calls Tryd.prog 10 #[v, .int .i64 a, .int .i64 k] w fun e w' => ((getE a k g m ≠ 0 ∧ e = .returned (.tuple #[.slice none 0 0, errN (getE a k g m)])) ∨ (getE a k g m = 0 ∧ ∃ low many xs ad cp, GetOk a k g m low many ∧ getN g m low many = some xs ∧ xs.length = many ∧ e = .returned (.tuple #[.slice ad many cp, .nilIface]) ∧ w'.ownsRow w.heap.size 3 1 (.slice ad many cp) many (encI xs))) ∧ Below w.heap.size w w' := by
  by_cases hx : getF a k m = 0
  · obtain ⟨low, many, rfl, rfl, h1, h2, h3⟩ := getF_zero hx
    cases hb : bitsOk g m with
    | false =>
      have HE : getE (low : Int) (many : Int) g m = 1 := by unfold getE; rw [if_neg (by simpa using hx), if_pos hb]
      rw [HE]
      refine (rget_bits h h3 h1 h2 hb).mono ?_
      rintro e w' ⟨he, rfl⟩
      exact ⟨Or.inl ⟨by omega, he⟩, Below.refl _ _⟩
    | true =>
      have hbits := bitsOk_iff.1 hb
      have HE : getE (low : Int) (many : Int) g m = if (getN g m low many).isNone = true then 2 else 0 := by unfold getE; rw [if_neg (by simpa using hx), if_neg (by simp [hb]), Int.toNat_natCast, Int.toNat_natCast]
      refine (rget_ok h h3 h1 h2 hbits).mono ?_
      rintro e w' ⟨(⟨hn, he⟩ | ⟨xs, ad, cp, hn, hlen, he, ho⟩), hbel⟩
      · rw [hn, if_pos (by simp)] at HE
        rw [HE]
        exact ⟨Or.inl ⟨by omega, he⟩, hbel⟩
      · rw [hn, if_neg (by simp)] at HE
        rw [HE]
        exact ⟨Or.inr ⟨rfl, low, many, xs, ad, cp, ⟨rfl, rfl, h1, h2, h3, hbits⟩, hn, hlen, he, ho⟩, hbel⟩
  · have HE : getE a k g m = getF a k m := by unfold getE; rw [if_pos hx]
    rw [HE]
    refine (rget_bad a k h hx).mono ?_
    rintro e w' ⟨he, rfl⟩
    exact ⟨Or.inl ⟨hx, he⟩, Below.refl _ _⟩
end Go.Proofs.YtjklpcabnppnaaaDoor
