/-
  Our own contracts of dropref1.Sum and mix.Zero over this seat's translation. Lemmas for the laws above; no statement is proved here.
-/
import Derived.Test.YtijbljcpfjlllaaDoorRXor
import Derived.Test.YtijbljcpfjlllaaDoorSum
import Derived.Test.YtijbljcpfjlllaaDoorZero
namespace Go.Proofs.YtijbljcpfjlllaaDoor
open Go.RowKit
set_option linter.unusedVariables false
set_option maxRecDepth 100000

theorem zerosB_at (n i : Nat) : atB (zerosB n) i = 0 := by
  rw [atB, zerosB, List.toList_toArray, List.getD, List.getElem?_replicate]; split <;> rfl
theorem sumB_zero (g : Nat → ByteArray) (f : Nat → Int) : sumB g f 0 = zerosB (g 0).size :=
  bytesB_eq _ _ _ (zerosB_size _) (fun i hi => by rw [zerosB_at]; rfl)
theorem sumB_succ (g : Nat → ByteArray) (f : Nat → Int) (n p : Nat) (hp : (f n).toNat = p) : xorB (sumB g f n) (g p) = sumB g f (n + 1) := by
  refine bytesB_eq _ _ _ (by rw [sumB_size, sumB_size]) (fun i hi => ?_)
  rw [sumB_size] at hi
  rw [sumB_at _ _ _ _ hi, sumB_at _ _ _ _ hi, xsum, hp]

set_option maxHeartbeats 2000000 in
theorem rsum_ok (b o len cap b2 o2 n cap2 : Nat) (g : Nat → ByteArray) (f : Nat → Int) (w : World) (hl0 : 0 < len) (hlen : len ≤ 16)
    (hcell : ∀ i, i < len → w.cell? ⟨b, o + i, none⟩ = some (.string (g i))) (h1 : 1 ≤ (g 0).size) (h8 : (g 0).size ≤ 8) (hs : ∀ i, i < len → (g i).size = (g 0).size)
    (hnc : n ≤ cap2) (hc : cap2 ≤ maxLen) (hcell2 : ∀ i, i < n → w.cell? ⟨b2, o2 + i, none⟩ = some (.int .i64 (f i))) (hg : ∀ i, i < n → goodAt f len i) :
    Calls Tryd.prog 9 #[.slice (some ⟨b, o, none⟩) len cap, .slice (some ⟨b2, o2, none⟩) n cap2] w fun e w' => e = .returned (.string (sumB g f n)) ∧ Below w.heap.size w w' := by
  have hc0 := hcell 0 hl0
  rw [Nat.add_zero] at hc0
  have Z := hide (zero_any (g 0).size w (by omega))
  have HC := hide hcell
  have HC2 := hide hcell2
  have HG := hide hg
  have HS := hide hs
  unfold maxLen at hc
  clear hcell hcell2 hg hs
  go_enter Tryd.func9, Tryd.ntmps9
  go_wp2_with fail
  refine (Z.out).mono ?_
  rintro e w1 ⟨rfl, rfl⟩
  go_wp2
  go_loopw [5, 6] (fun s i wr => ∃ j : Nat, j ≤ n ∧ i = .int .i64 j ∧ s = .string (sumB g f j) ∧ Below w.heap.size w wr) (fun _ i _ => n - (intOf i).toNat)
  case atStart => exact ⟨0, Nat.zero_le _, rfl, by rw [sumB_zero], Below.refl _ _⟩
  case round =>
    obtain ⟨j, hj, rfl, rfl, hb⟩ := hrel
    by_cases hlt : j < n
    · have hcj := cell_below hb (HC2.out j hlt)
      obtain ⟨⟨hf0, hf1⟩, _⟩ := HG.out j hlt
      obtain ⟨p, hp⟩ := Int.eq_ofNat_of_zero_le hf0
      have hp' : (f j).toNat = p := by rw [hp]; rfl
      have hpl : p < len := by omega
      have hcp := cell_below hb (HC.out p hpl)
      have X := hide (rxor_ok (sumB g f j) (g p) wr (by rw [sumB_size]; omega) (by rw [sumB_size, HS.out p hpl]))
      rw [sumB_succ g f j p hp'] at X
      rw [hp] at hcj
      clear hf0 hf1 hp hp'
      go_wp2_with fail
      refine (X.out).mono ?_
      rintro e w3 ⟨rfl, hb3⟩
      go_wp2
      go_roundw
      case rel => exact ⟨j + 1, by omega, by go_num, rfl, below_two hb hb3⟩
      case measure => simp [intOf]; omega
    · obtain rfl : j = n := by omega
      go_wp2
      go_ret
      exact ⟨rfl, hb⟩
end Go.Proofs.YtijbljcpfjlllaaDoor
