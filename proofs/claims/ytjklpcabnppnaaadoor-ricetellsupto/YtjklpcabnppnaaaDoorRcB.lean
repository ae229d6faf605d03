/-
  The last bit of an int, and one bit set behind others. Lemmas; no function is walked, and no statement is proved here.
-/
import Derived.Test.YtjklpcabnppnaaaDoorBase
import Derived.Laws.BitsAllLaws
namespace Go.Proofs.YtjklpcabnppnaaaDoor
open Go.RowKit
set_option linter.unusedVariables false
set_option maxRecDepth 100000

theorem wrap_i64_small (n : Int) (h0 : 0 ≤ n) (h1 : n < 9223372036854775808) : IntKind.i64.wrap n = n := by
  simp [IntKind.wrap, IntKind.bits, IntKind.signed]
  split <;> omega
theorem i64_and_one (a : Nat) (ha : a < 9223372036854775808) : bits .and .i64 (a : Int) 1 = ((a % 2 : Nat) : Int) := by
  show IntKind.i64.wrap ((BitVec.ofInt 64 (a : Int) &&& BitVec.ofInt 64 1).toNat : Int) = _
  have h1 : (BitVec.ofInt 64 1).toNat = 1 := by decide
  rw [BitVec.toNat_and, ofInt_u64 a (by omega), h1, Nat.and_one_is_mod]
  exact wrap_i64_small _ (by omega) (by omega)
theorem or_even (a b : Nat) (hb : b ≤ 1) : (2 * a ||| b) = 2 * a + b := by
  have h := Nat.two_pow_add_eq_or_of_lt (i := 1) (b := b) (by omega) a
  have e : 2 ^ 1 * a = 2 * a := by omega
  rw [e] at h
  exact h.symm
theorem i64_or_bit (a b : Nat) (hb : b ≤ 1) (ha : 2 * a + 1 < 9223372036854775808) : bits .or .i64 ((2 * a : Nat) : Int) (b : Int) = ((2 * a + b : Nat) : Int) := by
  show IntKind.i64.wrap ((BitVec.ofInt 64 ((2 * a : Nat) : Int) ||| BitVec.ofInt 64 (b : Int)).toNat : Int) = _
  rw [BitVec.toNat_or, ofInt_u64 _ (by omega), ofInt_u64 _ (by omega), or_even a b hb]
  exact wrap_i64_small _ (by omega) (by omega)
theorem shr_nat (x k : Nat) : ((x : Int) / 2 ^ ((k : Int)).toNat) = ((x / 2 ^ k : Nat) : Int) := by
  rw [Int.toNat_natCast, Int.natCast_ediv, Int.natCast_pow]; rfl
theorem shr_nat' (x k : Nat) : ((x : Int) / 2 ^ k) = ((x / 2 ^ k : Nat) : Int) := by
  rw [Int.natCast_ediv, Int.natCast_pow]; rfl
end Go.Proofs.YtjklpcabnppnaaaDoor
