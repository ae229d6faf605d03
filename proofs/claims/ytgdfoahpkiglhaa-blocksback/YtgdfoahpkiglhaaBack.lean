/-
  Proved: 'dropletmill/droplaw1.BlocksBack' returns true whatever bytes and whatever size it is handed, and both read behind the call as they did. No conditions.
-/
import Derived.Test.YtgdfoahpkiglhaaJoin
import Derived.Test.YtgdfoahpkiglhaaFrame
namespace Go.Proofs.Ytgdfoahpkiglhaa
open Go.ChangeShapes Go.WideShapes Go.ChangeAt Go.RowKit
open Go.ChangeMaps (open_string shut_string)
set_option linter.unusedVariables false

theorem padL_append (l : List UInt8) (a b : Nat) : padL l a ++ padL (l.drop a) b = padL l (a + b) := by
  unfold padL
  rw [List.length_drop]
  rcases Nat.le_total l.length a with h | h
  · rw [List.take_of_length_le h, List.drop_of_length_le h, List.take_of_length_le (show l.length ≤ a + b by omega)]
    simp only [List.take_nil, List.nil_append, List.append_assoc, List.replicate_append_replicate]
    congr 2; omega
  · rw [show a - l.length = 0 by omega, List.replicate_zero, List.append_nil, List.take_add, List.append_assoc]
    congr 3; omega
/-- Block i as the string that lies in memory. -/
def blkB (l : List UInt8) (n i : Nat) : ByteArray := ⟨(blkL l n i).toArray⟩
theorem blkB_size (l : List UInt8) (n i : Nat) : (blkB l n i).size = n := by
  rw [Lib.size_eq, blkB, List.toList_toArray, blkL_length]
theorem allL_blk (l : List UInt8) (n : Nat) : ∀ k, allL (blkB l n) k = padL l (k * n)
  | 0 => by simp [allL, padL]
  | k + 1 => by
    rw [allL_succ, allL_blk l n k, blkB, List.toList_toArray, blkL, padL_append, Nat.add_mul, Nat.one_mul]
theorem cnt_ge (m n : Nat) (h1 : 1 ≤ n) : m ≤ cntN m n * n := by
  unfold cntN
  have h := Nat.div_add_mod (m + n - 1) n
  have h2 := Nat.mod_lt (m + n - 1) h1
  have h3 : (m + n - 1) / n ≤ max 1 ((m + n - 1) / n) := Nat.le_max_right _ _
  have h4 := Nat.mul_le_mul_right n h3
  rw [Nat.mul_comm] at h
  omega
theorem cnt_lt (m n : Nat) (h1 : 1 ≤ n) (h0 : m ≠ 0) : cntN m n * n < m + n := by
  unfold cntN
  have h2 := Nat.div_mul_le_self (m + n - 1) n
  have h3 : 1 ≤ (m + n - 1) / n := (Nat.one_le_div_iff h1).2 (by omega)
  rw [Nat.max_eq_right h3]; omega
theorem back_bytes (s : ByteArray) (n : Nat) (h1 : 1 ≤ n) : (ByteArray.mk ((allL (blkB s.data.toList n) (cntN s.size n)).take s.size).toArray) = s := by
  rw [allL_blk]
  have h := cnt_ge s.size n h1
  rw [Lib.size_eq] at h ⊢
  generalize hl : s.data.toList = l at *
  unfold padL
  rw [List.take_of_length_le h, List.take_append_of_le_length (Nat.le_refl _), List.take_length, ← hl]

theorem fact_row {w : World} {b : Nat} (h : w.rowIs b 9 (cntN (ByteArray.mk #[97, 98, 99]).size 2) (fun i => .string ⟨(blkL (ByteArray.mk #[97, 98, 99]).data.toList 2 i).toArray⟩)) :
    w.cell? ⟨b, 0, none⟩ = some (.string ⟨#[97, 98]⟩) ∧ w.cell? ⟨b, 1, none⟩ = some (.string ⟨#[99, 0]⟩) :=
  ⟨h.cell (i := 0) (by decide), h.cell (i := 1) (by decide)⟩

set_option maxHeartbeats 2000000 in
theorem back_full (s : ByteArray) (z : Int) (w : World) (hm : s.size ≤ maxLen) (x : Int)
    (hS : ∀ w1 : World, Calls Try.prog 7 #[.string s, .int .i64 z] w1 fun e w' => e = .returned (.tuple #[.slice none 0 0, .iface 23 (.int .i64 x)]) ∧ w1 = w') :
    Calls Try.prog 4 #[.string s, .int .i64 z] w fun e w' => e = .returned (.bool true) ∧ Below w.heap.size w w' := by
  have K := hide hS
  clear hS
  have F := hide (split_ok ⟨#[97, 98, 99]⟩ 2 w (by decide) (by decide) (by decide) (by decide))
  go_enter Try.func4, Try.ntmps4
  go_wp2_with fail
  refine (F.out).mono ?_
  rintro e w1 ⟨rfl, hr, hb⟩
  obtain ⟨hc0, hc1⟩ := fact_row hr
  have hcn : cntN (ByteArray.mk #[97, 98, 99]).size 2 = 2 := by decide
  rw [hcn]
  clear hr F hcn
  go_wp2_with fail
  refine (K.out _).mono ?_
  rintro e w2 ⟨rfl, rfl⟩
  go_wp2
  go_ret
  exact ⟨rfl, hb⟩

set_option maxHeartbeats 2000000 in
theorem back_ok (s : ByteArray) (n : Nat) (w : World) (h : s.size ≤ 120) (h1 : 1 ≤ n) (h8 : n ≤ 8) (hk : cntN s.size n ≤ 16) :
    Calls Try.prog 4 #[.string s, .int .i64 n] w fun e w' => e = .returned (.bool true) ∧ Below w.heap.size w w' := by
  have F := hide (split_ok ⟨#[97, 98, 99]⟩ 2 w (by decide) (by decide) (by decide) (by decide))
  have K := hide (fun w1 : World => split_ok s n w1 h h1 h8 hk)
  have hk0 : 0 < cntN s.size n := by unfold cntN; omega
  have J := hide (fun (b : Nat) (w1 : World) (hc : ∀ i, i < cntN s.size n → w1.cell? ⟨b, 0 + i, none⟩ = some (.string (blkB s.data.toList n i))) =>
    join_ok b 0 (cntN s.size n) (cntN s.size n) (blkB s.data.toList n) s.size w1 hk0 hk (Nat.le_refl _) hc (by rw [blkB_size]; exact h1) (by rw [blkB_size]; exact h8) (fun i _ => by rw [blkB_size, blkB_size]) (by rw [blkB_size]; exact cnt_ge _ _ h1) (by rw [blkB_size]))
  have C := hide (fun (b : Nat) (w1 : World) (hc : ∀ i, i < cntN s.size n → w1.cell? ⟨b, 0 + i, none⟩ = some (.string (blkB s.data.toList n i))) =>
    check_ok b 0 (cntN s.size n) (cntN s.size n) (blkB s.data.toList n) w1 hk0 hk hc (by rw [blkB_size]; exact h1) (by rw [blkB_size]; exact h8) (fun i _ => by rw [blkB_size, blkB_size]))
  have BB := hide (back_bytes s n h1)
  have hge := cnt_ge s.size n h1
  have hlt := cnt_lt s.size n h1
  generalize hcn : cntN s.size n = k at *
  clear hcn
  have hmul := Nat.mul_le_mul hk h8
  have HGE := hide hge
  have HLT := hide hlt
  clear hge hlt
  go_enter Try.func4, Try.ntmps4
  go_wp2_with fail
  refine (F.out).mono ?_
  rintro e w1 ⟨rfl, hr, hb⟩
  obtain ⟨hc0, hc1⟩ := fact_row hr
  have hcn : cntN (ByteArray.mk #[97, 98, 99]).size 2 = 2 := by decide
  rw [hcn]
  clear hr F hcn
  go_wp2_with fail
  refine (K.out _).mono ?_
  rintro e w2 ⟨rfl, hr, hb2⟩
  have hbb := hb.trans (hb2.mono hb.size)
  clear hc0 hc1 hb2 K hb
  have hcell : ∀ i, i < k → w2.cell? ⟨w1.heap.size, 0 + i, none⟩ = some (.string (blkB s.data.toList n i)) := fun i hi => by rw [Nat.zero_add]; exact hr.cell hi
  have HR := hide hr
  have HCell := hide hcell
  clear hr hcell
  go_wp2_with fail
  refine (J.out _ _ HCell.out).mono ?_
  rw [BB.out]
  rintro e w3 ⟨rfl, hb3⟩
  go_wp2_with fail
  refine (C.out _ _ (cells_below hb3 HCell.out)).mono ?_
  rintro e w4 ⟨rfl, hb4⟩
  have hb34 : Below w2.heap.size w2 w4 := hb3.trans (hb4.mono hb3.size)
  have HC4 := hide (cells_below hb34 HCell.out)
  have hb5 : Below w.heap.size w w4 := hbb.trans (hb34.mono hbb.size)
  clear hb3 hb4 hb34 HR HCell J C BB hbb
  go_wp2
  go_loop [11, 12] (fun t i => ∃ j : Nat, j ≤ k ∧ i = .int .i64 j ∧ t = .int .i64 ((j : Int) * (n : Int))) (fun _ i => k - (intOf i).toNat)
  case atStart => exact ⟨0, Nat.zero_le _, rfl, by simp⟩
  case round =>
    obtain ⟨j, hj, rfl, rfl⟩ := hrel
    obtain ⟨hm1, hm2⟩ := mul_cast j n (by omega) h8
    by_cases hlt : j < k
    · have hc := HC4.out j hlt
      rw [Nat.zero_add] at hc
      have hz := blkB_size s.data.toList n j
      have hsum : ((j + 1 : Nat) : Int) * (n : Int) = (j : Int) * (n : Int) + (n : Int) := by rw [Int.natCast_add, Int.add_mul]; simp
      have HS := hide hsum
      clear hsum
      generalize blkB s.data.toList n j = sj at *
      have hne : ((sj.size : Int) != (n : Int)) = false := by rw [hz]; simp
      have HZ := hide hz
      have hz8 : sj.size ≤ 8 := by omega
      clear hz
      go_wp2
      go_round
      case rel => exact ⟨j + 1, by omega, by go_num, by rw [HS.out, HZ.out]⟩
      case measure => simp [intOf]; omega
    · obtain rfl : j = k := by omega
      have hge := HGE.out
      have hle : (s.size : Int) ≤ (j : Int) * (n : Int) := by rw [← Int.natCast_mul]; omega
      by_cases h0 : s.size = 0
      · have hs0 : ((s.size : Int) == 0) = true := by rw [h0]; rfl
        by_cases hl2 : (j : Int) * (n : Int) - (s.size : Int) < (n : Int)
        all_goals
          go_wp2
          go_ret
          exact ⟨rfl, hb5⟩
      · have hl := HLT.out h0
        have hl2 : (j : Int) * (n : Int) - (s.size : Int) < (n : Int) := by rw [← Int.natCast_mul]; omega
        go_wp2
        go_ret
        exact ⟨rfl, hb5⟩

theorem back_walk (a0 : ByteArray) (w0 : a0.size ≤ maxLen) (a1 : Int) (w : World) :
    Calls Try.prog 4 #[.string a0, .int .i64 a1] w fun e w' => e = .returned (.bool true) ∧ Below w.heap.size w w' := by
  by_cases h : a0.size ≤ 120
  · by_cases hz : a1 < 1 ∨ 8 < a1
    · exact back_full a0 a1 w w0 1 (fun w1 => split_range a0 a1 w1 h hz)
    · obtain ⟨n, rfl⟩ := Int.eq_ofNat_of_zero_le (show 0 ≤ a1 by omega)
      by_cases hk : cntN a0.size n ≤ 16
      · exact back_ok a0 n w h (by omega) (by omega) hk
      · exact back_full a0 n w w0 4 (fun w1 => split_many a0 n w1 h (by omega) (by omega) (by omega))
  · exact back_full a0 a1 w w0 4 (fun w1 => split_full a0 a1 w1 (by omega) w0)

theorem blocksBack_contract (H : Type) (enc : TypeId × Value → H) (W : World) (base : Nat) (args : Array Value) (ds gs : List (DataW H)) (before : List MemPlace)
    (hval : ∀ (j : Nat) t v, Try.f4.params[j]? = some t → args[j]? = some v → Value.okWide Try.prog W .any base t v)
    (hW : DataW.Whole enc Try.prog Try.f4.params.toList Rows.blocksBackSpec.vars false W args.toList ds gs before) :
    Calls Try.prog 4 args W fun e W' => ∃ v, e = .returned v ∧ Rows.blocksBackSpec.post enc Try.prog Try.f4 false true false false W args v W' := by
  have hW' := hW
  have hlt0 := hW.lt
  obtain ⟨p, q, hA0, hV, rfl, hfz, hnd⟩ := hW
  have hA : DataW.TrodAll enc Try.prog W 0 (fun _ => true) true Try.f4.params.toList args.toList ds p := hA0
  rw [Try.params4] at hA hval
  have hAll := hA
  have hread : ∀ t ∈ [9, 3], Try.prog.readableRec t = true ∧ t < Try.prog.types.size := by
    intro t ht
    simp only [List.mem_cons, List.not_mem_nil, or_false] at ht
    rcases ht with rfl | rfl <;> exact ⟨by kernel_rfl, of_decide_eq_true (by kernel_rfl)⟩
  obtain ⟨v0, vs0, d0, ds0, p0, q0, hargs, rfl, rfl, h0, r0⟩ := trodAll_cons hA
  obtain ⟨v1, vs1, d1, ds1, p1, q1, rfl, rfl, rfl, h1, r1⟩ := trodAll_cons r0
  obtain ⟨rfl, rfl, rfl⟩ := trodAll_nil r1
  obtain rfl : args = #[v0, v1] := by cases args; simp_all
  obtain ⟨rfl, rfl⟩ := trodVars_none hV
  simp only [List.append_nil] at hW' hlt0
  have fin : ∀ W' : World, Below W.heap.size W W' → Rows.blocksBackSpec.post enc Try.prog Try.f4 false true false false W #[v0, v1] (.bool true) W' := by
    intro W' hg
    refine ⟨_, _, _, [], (p0 ++ (p1 ++ [])), [], hW', ?_, ?_, ?_, hg.frame _, fun h => by cases h⟩
    · exact trodAll_mk1 (shut_bool Try.underlying4 true)
    · exact trodAll_below hg _ _ _ _ hread hAll (by simpa using hlt0)
    · rfl
  obtain ⟨a0, rfl, rfl, rfl, w0⟩ := open_string Try.underlying9 (hval 0 9 v0 rfl rfl) h0
  obtain ⟨a1, rfl, rfl, rfl, w1⟩ := open_int Try.underlying3 (hval 1 3 v1 rfl rfl) h1
  refine (back_walk a0 w0 a1 W).mono fun e W' ⟨he, hg⟩ => ?_
  subst he
  exact ⟨_, rfl, fin W' hg⟩

set_option maxRecDepth 100000 in
theorem blocksBack_lifted (os : Os) (started : os.Started) (H : Type) (enc : TypeId × Value → H) :
    ReturnsInHanded {} Try.checked os 4 .any (Rows.blocksBackSpec.pre6 enc Try.prog Try.f4 Rows.blocksBackRow.domain false) (Rows.blocksBackSpec.post enc Try.prog Try.f4 false true false false) := by
  refine returnsInHanded_of_change (C := Try.checked) own started (by kernel_rfl) Try.func4
    (ChangeSpec.witness6 (enc := enc) (C := Try.checked) false ⟨#[], #[.string ByteArray.empty, .int .i64 0], []⟩ 8 (by kernel_rfl) (by kernel_rfl) (by kernel_rfl) (by kernel_rfl)) ?_
  intro W base args ds gs before hval hW _ _
  exact blocksBack_contract H enc W base args ds gs before hval hW

theorem blocksBack_holds : Rows.BlocksBackSaid :=
  OpenClaim.holds_of_wide 4 Try.f4 rfl rfl rfl rfl rfl rfl rfl ⟨rfl, rfl, rfl, rfl, rfl⟩ rfl rfl rfl rfl rfl (by kernel_rfl) Try.func4 (by kernel_rfl)
    (of_decide_eq_true (by kernel_rfl)) (by unfold Func.isWrapper; first | (rw [if_pos (by decide +kernel)]; kernel_rfl) | (rw [if_neg (by decide +kernel)]; exact ⟨rfl, rfl⟩))
    (fun os started H enc _ => blocksBack_lifted os started H enc)
#print axioms blocksBack_holds

end Go.Proofs.Ytgdfoahpkiglhaa
