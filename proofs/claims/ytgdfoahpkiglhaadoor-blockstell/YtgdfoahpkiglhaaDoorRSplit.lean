/-
  Our own contracts of dropref1.Split over this seat's translation, its four ways out. Lemmas for the laws above; no statement is proved here.
-/
import Derived.Test.YtgdfoahpkiglhaaDoorRef1
import Derived.Laws.AppendOwn
import Derived.ProofKit
import Derived.Laws.Concat
namespace Go.Proofs.YtgdfoahpkiglhaaDoor
open Go.ChangeShapes Go.WideShapes Go.ChangeAt Go.RowKit
set_option linter.unusedVariables false
set_option maxRecDepth 100000

theorem rsplit_full (s : ByteArray) (z : Int) (w : World) (h : 120 < s.size) (hm : s.size ≤ maxLen) :
    Calls Tryd.prog 6 #[.string s, .int .i64 z] w fun e w' => e = .returned (.tuple #[.slice none 0 0, .int .i64 4]) ∧ w = w' := by
  unfold maxLen at hm
  go_enter Tryd.func6, Tryd.ntmps6
  go_wp2
  go_ret2
  exact ⟨rfl, rfl⟩
theorem rsplit_range (s : ByteArray) (z : Int) (w : World) (h : s.size ≤ 120) (hz : z < 1 ∨ 8 < z) :
    Calls Tryd.prog 6 #[.string s, .int .i64 z] w fun e w' => e = .returned (.tuple #[.slice none 0 0, .int .i64 1]) ∧ w = w' := by
  rcases hz with hz | hz
  · go_enter Tryd.func6, Tryd.ntmps6
    go_wp2
    go_ret2
    exact ⟨rfl, rfl⟩
  · have hz' : ¬ z < 1 := by omega
    go_enter Tryd.func6, Tryd.ntmps6
    go_wp2
    go_ret2
    exact ⟨rfl, rfl⟩
theorem rsplit_many (s : ByteArray) (n : Nat) (w : World) (h : s.size ≤ 120) (h1 : 1 ≤ n) (h8 : n ≤ 8) (hk : 16 < cntN s.size n) :
    Calls Tryd.prog 6 #[.string s, .int .i64 n] w fun e w' => e = .returned (.tuple #[.slice none 0 0, .int .i64 4]) ∧ w = w' := by
  have K := hide (rmany s.size n w (by omega) h1 h8)
  have hz1 : ¬ (n : Int) < 1 := by omega
  have hz8 : ¬ 8 < (n : Int) := by omega
  have hle : cntN s.size n ≤ 1000 := by
    unfold cntN
    have := Nat.div_le_self (s.size + n - 1) n
    omega
  generalize cntN s.size n = k at *
  go_enter Tryd.func6, Tryd.ntmps6
  go_wp2_with fail
  refine (K.out).mono ?_
  rintro e w1 ⟨rfl, rfl⟩
  go_wp2
  go_ret2
  exact ⟨rfl, rfl⟩

/-- Block i of the string's bytes, as a string; and its beginning. -/
def begB (l : List UInt8) (n i m : Nat) : ByteArray := ⟨((blkL l n i).take m).toArray⟩
theorem begB_full (l : List UInt8) (n i : Nat) : begB l n i n = ⟨(blkL l n i).toArray⟩ := by
  rw [begB, List.take_of_length_le (by rw [blkL_length]; exact Nat.le_refl _)]
theorem begB_size (l : List UInt8) (n i m : Nat) (h : m ≤ n) : (begB l n i m).size = m := by
  rw [Lib.size_eq, begB, List.toList_toArray, List.length_take, blkL_length]; omega
theorem blkL_get (l : List UInt8) (n i m : Nat) (h : m < n) : (blkL l n i)[m]? = some (l.getD (i * n + m) 0) := by
  rw [blkL, padL]
  by_cases h2 : i * n + m < l.length
  · rw [List.getElem?_append_left (by rw [List.length_take, List.length_drop]; omega), List.getElem?_take_of_lt h, List.getElem?_drop]
    simp [List.getD, List.getElem?_eq_getElem h2]
  · rw [List.getElem?_append_right (by rw [List.length_take, List.length_drop]; omega), List.getElem?_replicate]
    rw [if_pos (by rw [List.length_take, List.length_drop]; omega)]
    simp [List.getD, List.getElem?_eq_none (show l.length ≤ i * n + m by omega)]
theorem begB_succ (l : List UInt8) (n i m : Nat) (h : m < n) (b : ByteArray) (hb : b.data.toList = [l.getD (i * n + m) 0]) : begB l n i m ++ b = begB l n i (m + 1) := by
  apply ByteArray.ext
  rw [ByteArray.data_append, ← Array.toList_inj, Array.toList_append, hb, begB, begB, List.toList_toArray, List.toList_toArray, List.take_add_one, blkL_get l n i m h]
  rfl
theorem ext_one (s : ByteArray) (p : Nat) (h : p < s.size) : (s.extract p (p + 1)).data.toList = [s.data.toList.getD p 0] := by
  have h' : p < s.data.toList.length := by rw [← Lib.size_eq]; exact h
  rw [Lib.extract_data, show p + 1 - p = 1 by omega, List.drop_eq_getElem_cons h']
  simp [List.getD, List.getElem?_eq_getElem h']

set_option maxHeartbeats 2000000 in
theorem rsplit_ok (s : ByteArray) (n : Nat) (w : World) (h : s.size ≤ 120) (h1 : 1 ≤ n) (h8 : n ≤ 8) (hk : cntN s.size n ≤ 16) :
    Calls Tryd.prog 6 #[.string s, .int .i64 n] w fun e w' => ∃ g cap, e = .returned (.tuple #[.slice (some ⟨g, 0, none⟩) (cntN s.size n) cap, .int .i64 0])
      ∧ (∀ i, i < cntN s.size n → w'.cell? ⟨g, i, none⟩ = some (.string ⟨(blkL s.data.toList n i).toArray⟩)) ∧ Below w.heap.size w w' := by
  have K := hide (rmany s.size n w (by omega) h1 h8)
  have hz1 : ¬ (n : Int) < 1 := by omega
  have hz8 : ¬ 8 < (n : Int) := by omega
  have hk0 : 0 < cntN s.size n := by unfold cntN; omega
  have hl := Lib.size_eq s
  have HL := hide hl
  clear hl
  generalize cntN s.size n = k at *
  obtain ⟨i0, hi, hz0, hzs, hzb⟩ := info_parts Tryd.infoStr
  go_enter Tryd.func6, Tryd.ntmps6
  go_wp2_with fail
  refine (K.out).mono ?_
  rintro e w1 ⟨rfl, rfl⟩
  clear K
  have Hi := hide hi
  have Hz0 := hide hz0
  have Hzs := hide hzs
  have Hzb := hide hzb
  clear hi hz0 hzs hzb
  go_wp2
  go_loopw [7, 8] (fun v i wr => ∃ (j : Nat) (ao : Option Addr) (cv : Nat), j ≤ k ∧ i = .int .i64 j ∧ v = .slice ao j cv ∧ wr.ownsRow w.heap.size 9 1 v j ((List.range j).map fun i => .string ⟨(blkL s.data.toList n i).toArray⟩) ∧ Below w.heap.size w wr) (fun _ i _ => k - (intOf i).toNat)
  case atStart => exact ⟨0, none, 0, Nat.zero_le _, rfl, rfl, World.ownsRow_nil _ _ _ _, Below.refl _ _⟩
  case round =>
    obtain ⟨j, ao, cv, hj, rfl, rfl, hown, hb⟩ := hrel
    by_cases hlt : j < k
    · have hjn := Nat.mul_le_mul (show j + 1 ≤ 16 by omega) h8
      have hjn1 : (j + 1) * n = j * n + n := by rw [Nat.add_mul, Nat.one_mul]
      have HJ := hide hjn1
      have hA0 : 0 ≤ (j : Int) * (n : Int) := by rw [← Int.natCast_mul]; omega
      have hA1 : (j : Int) * (n : Int) ≤ 128 := by rw [← Int.natCast_mul]; omega
      have hcst : ((j : Int) + 1) * (n : Int) = (((j + 1) * n : Nat) : Int) := by simp
      have hB0 : 0 ≤ ((j : Int) + 1) * (n : Int) := by rw [hcst]; omega
      have hB1 : ((j : Int) + 1) * (n : Int) ≤ 128 := by rw [hcst]; omega
      have HCst := hide hcst
      have HOwn := hide hown
      clear hjn1 hcst hown
      go_wp2
      go_loop [9, 10] (fun b p => ∃ q : Nat, j * n ≤ q ∧ q ≤ (j + 1) * n ∧ p = .int .i64 q ∧ b = .string (begB s.data.toList n j (q - j * n))) (fun _ p => (j + 1) * n - (intOf p).toNat)
      case atStart => exact ⟨j * n, Nat.le_refl _, by rw [HJ.out]; omega, by simp, by rw [Nat.sub_self]; rfl⟩
      case round =>
        obtain ⟨q, hq1, hq2, rfl, rfl⟩ := hrel
        have hsz := begB_size s.data.toList n j (q - j * n) (by have := HJ.out; omega)
        have hsz2 : (begB s.data.toList n j (q - j * n)).size ≤ 128 := by have := HJ.out; omega
        clear hsz
        by_cases hql : q < (j + 1) * n
        · have hqI : (q : Int) < ((j : Int) + 1) * (n : Int) := by rw [HCst.out]; omega
          have hqn : q - j * n < n := by have := HJ.out; omega
          have hq128 : q ≤ 128 := by have := HJ.out; omega
          have hqe : j * n + (q - j * n) = q := by omega
          by_cases hqs : q < s.size
          · have hst := begB_succ s.data.toList n j (q - j * n) hqn (s.extract q (q + 1)) (by rw [hqe]; exact ext_one s q hqs)
            have HST := hide hst
            have hqsI : (q : Int) < (s.size : Int) := by omega
            have hes : (s.extract q (q + 1)).size ≤ 120 := by rw [ByteArray.size_extract]; omega
            clear hst hqe
            go_wp2
            go_round
            case rel => exact ⟨q + 1, by omega, by omega, by go_num, by rw [HST.out, show q + 1 - j * n = q - j * n + 1 by omega]⟩
            case measure => simp [intOf]; omega
          · have hst := begB_succ s.data.toList n j (q - j * n) hqn ⟨#[0]⟩ (by
              rw [hqe, List.getD, List.getElem?_eq_none (by rw [← HL.out]; omega)]; rfl)
            have HST := hide hst
            have hqsI : ¬ (q : Int) < (s.size : Int) := by omega
            clear hst hqe
            go_wp2
            go_round
            case rel => exact ⟨q + 1, by omega, by omega, by go_num, by rw [HST.out, show q + 1 - j * n = q - j * n + 1 by omega]⟩
            case measure => simp [intOf]; omega
        · have hqI : ¬ (q : Int) < ((j : Int) + 1) * (n : Int) := by rw [HCst.out]; omega
          have hqe : q - j * n = n := by have := HJ.out; omega
          rw [hqe, begB_full]
          clear hqe
          have hbs := hb.size
          go_wp2_with (at_builtin; refine wpList_append_own _ rfl _ _ 22 rfl w.heap.size 9 i0 (.string ⟨#[]⟩) 1 16 Tryd.underlying22 Hi.out Hz0.out Hzs.out Hzb.out rfl (by decide) _ _ _ rfl (HOwn.out.alloc _) ⟨wr.heap.size, 0, none⟩ 1 1 [.string ⟨(blkL s.data.toList n j).toArray⟩] rfl rfl (cell_one_new _ _ _) (fun x hx => by simp at hx; subst hx; rfl) (by unfold maxLen; omega) (by omega) (by simp; omega) ?_; intro v' w3 hown' hgrow3 hnil3)
          go_roundw
          case rel =>
            obtain ⟨g3, cap3, hv3⟩ : ∃ g3 cap3, v' = .slice (some ⟨g3, 0, none⟩) (j + 1) cap3 := by
              rcases hown'.2 with ⟨_, h⟩ | ⟨g3, cap3, _, h, _⟩
              · omega
              · exact ⟨g3, cap3, h⟩
            have R : j + 1 ≤ k ∧ Value.int .i64 ((j : Int) + 1) = .int .i64 ((j + 1 : Nat) : Int) ∧ v' = .slice (some ⟨g3, 0, none⟩) (j + 1) cap3 ∧ w3.ownsRow w.heap.size 9 1 v' (j + 1) ((List.range (j + 1)).map fun i => .string ⟨(blkL s.data.toList n i).toArray⟩) ∧ Below w.heap.size w w3 :=
              ⟨by omega, by first | rfl | simp, hv3, by rw [List.range_succ, List.map_append]; exact hown', (hb.alloc hbs _).grown hgrow3 (by simp; omega) (fun q hq => (HOwn.out.lt q hq).1)⟩
            first
              | exact ⟨j + 1, some ⟨g3, 0, none⟩, cap3, R⟩
              | ((repeat apply Exists.intro); exact ⟨⟨j + 1, some ⟨g3, 0, none⟩, cap3, R⟩, rfl⟩)
          case measure => simp [intOf]; omega
    · obtain rfl : j = k := by omega
      go_wp2
      go_ret2
      rcases hown.2 with ⟨_, h0⟩ | ⟨g, cap, cur, hv, _, hg, _, _, hcs, hcur⟩
      · omega
      · refine ⟨g, cap, ret_two hv rfl, fun i hi => ?_, hb⟩
        have hx := hown.cells (g := g) (by rw [hv]; rfl) i (.string ⟨(blkL s.data.toList n i).toArray⟩) (by simp [hi])
        rw [add_plain, Nat.zero_add] at hx
        exact hx
end Go.Proofs.YtgdfoahpkiglhaaDoor
