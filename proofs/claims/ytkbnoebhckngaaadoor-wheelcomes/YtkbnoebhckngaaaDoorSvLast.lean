/-
  The library's contract for math/bits.Len, laid at this seat's translation (each body is held against the contract's own by the kernel); our own contracts of solve.last and solve.marks. Lemmas for the laws above; no statement is proved here.
-/
import Derived.Shelf.Small.Bits
import Derived.Laws.BitsAll
import Derived.Test.YtkbnoebhckngaaaDoorSvN
import Derived.Test.YtkbnoebhckngaaaDoorDropS
namespace Go.Proofs.YtkbnoebhckngaaaDoor
open Go.Shelf Go.RowKit
set_option linter.unusedVariables false
set_option maxRecDepth 100000

def renLen : Go.Shelf.Ren := ⟨fun | 125 => 37 | 128 => 46 | 129 => 47 | n => n,
  fun | 0 => 0 | 3 => 3 | 4 => 4 | 5 => 5 | 9 => 9 | 46 => 54 | 51 => 105 | 53 => 107 | n => n, fun | n => n⟩
theorem laysLen : Go.Proofs.Lays.n125 Tryd.prog renLen := by constructor <;> (intros; kernel_rfl)
theorem len_ok (m : Nat) (w : World) (h : m < 65536) :
    Calls Tryd.prog 37 #[.int .u64 (m : Nat)] w fun e w' => e = .returned (.int .i64 (Lib.bitLen m : Nat)) ∧ w = w' := by
  have h9 := Any.bits_Len laysLen (m : Int) w (by omega) (by omega)
  rw [Int.toNat_natCast] at h9
  exact h9.mono fun e w' ⟨he, hw⟩ => ⟨he, hw.symm⟩
theorem last_none (w : World) :
    Calls Tryd.prog 26 #[.int .u64 0] w fun e w' => e = .returned (.int .i64 (-1)) ∧ w = w' := by
  have L := hide (len_ok 0 w (by omega))
  rw [show Lib.bitLen 0 = 0 from by decide +kernel] at L
  go_enter Tryd.func26, Tryd.ntmps26
  go_wp2_with fail
  refine (L.out).mono ?_
  rintro e w1 ⟨rfl, rfl⟩
  go_wp2
  go_ret
  exact ⟨rfl, rfl⟩
theorem last_ok (m p : Nat) (w : World) (h : m < 65536) (hp : Lib.bitLen m = p + 1) (h2 : p < 64) :
    Calls Tryd.prog 26 #[.int .u64 (m : Nat)] w fun e w' => e = .returned (.int .i64 (p : Nat)) ∧ w = w' := by
  have L := hide (len_ok m w h)
  rw [hp] at L
  clear hp
  go_enter Tryd.func26, Tryd.ntmps26
  go_wp2_with fail
  refine (L.out).mono ?_
  rintro e w1 ⟨rfl, rfl⟩
  go_wp2
  go_ret
  exact ⟨ret_int (by omega), rfl⟩

theorem take_snoc {l : List Nat} {j : Nat} (h : j < l.length) : l.take (j + 1) = l.take j ++ [l.getD j 0] := by rw [List.take_add_one]; simp [List.getD, h]
theorem mask16 {l : List Nat} {k : Nat} (hk : k ≤ 16) (hl : ∀ p ∈ l, p < k) (j : Nat) : maskL (l.take j) < 65536 :=
  Nat.lt_of_lt_of_le (maskL_lt (k := k) fun p hp => hl p (List.mem_of_mem_take hp)) (Nat.pow_le_pow_right (n := 2) (by decide) hk)
set_option maxHeartbeats 1000000 in
theorem marks_ok (l : List Nat) (k : Nat) (v : Value) (w : World) (hv : Lst w v l) (hk : k ≤ 16) (hl : ∀ p ∈ l, p < k) (hn : l.length ≤ 16) :
    Calls Tryd.prog 25 #[v] w fun e w' => e = .returned (.int .u64 (maskL l : Nat)) ∧ w = w' := by
  obtain ⟨g, cap, rfl, hc1, hc2, hc⟩ := hv
  have HC := hide hc
  have HL := hide hl
  unfold maxLen at hc2
  clear hc hl
  go_enter Tryd.func25, Tryd.ntmps25
  go_wp2
  go_loop [3, 5, 8] (fun m _ i => ∃ j : Nat, j ≤ l.length ∧ i = .int .i64 j ∧ m = .int .u64 (maskL (l.take j) : Nat)) (fun _ _ i => l.length - (intOf i).toNat)
  case atStart => exact ⟨0, Nat.zero_le _, rfl, rfl⟩
  case round =>
    obtain ⟨j, hj, rfl, rfl⟩ := hrel
    have hm := mask16 hk HL.out j
    by_cases hlt : j < l.length
    · have hcj := HC.out j hlt
      rw [Nat.zero_add] at hcj
      have HS : Hid (maskL (l.take (j + 1)) = maskL (l.take j) ||| 2 ^ l.getD j 0) := by rw [Hid, take_snoc hlt, maskL_snoc]
      have hp : l.getD j 0 < 16 := by
        have h9 : l.getD j 0 ∈ l := by simp [List.getD, hlt]
        have := HL.out _ h9; omega
      generalize l.getD j 0 = p at *
      generalize maskL (l.take j) = m at *
      have hpow : 2 ^ p ≤ 32768 := Nat.pow_le_pow_right (n := 2) (by decide) (show p ≤ 15 by omega)
      obtain ⟨q, hq⟩ : ∃ q : Nat, q = 2 ^ p := ⟨_, rfl⟩
      have hsh : IntKind.u64.wrap (2 ^ p) = (q : Int) := by
        rw [IntKind.wrap_u64, hq, Int.natCast_pow]
        have h9 : ((2 : Int) ^ p) ≤ 32768 := by exact_mod_cast hpow
        have h8 : (0 : Int) ≤ 2 ^ p := by exact_mod_cast Nat.zero_le (2 ^ p)
        exact Int.emod_eq_of_lt h8 (by omega)
      have hor : bits .or .u64 (m : Int) (q : Int) = ((m ||| q : Nat) : Int) := u64_or_nat _ _ (by omega) (by omega)
      rw [← hq] at HS
      have HQ := hide hq
      clear hq hpow
      go_wp2
      go_round
      case rel =>
        refine ⟨j + 1, by omega, by go_num, ?_⟩
        rw [HS.out]
      case measure => simp [intOf]; omega
    · obtain rfl : j = l.length := by omega
      rw [List.take_length] at *
      go_wp2
      go_ret
      exact ⟨rfl, rfl⟩
end Go.Proofs.YtkbnoebhckngaaaDoor
