/-
  Proved: 'dropletmill/droplaw4.BlocksMany' returns true whatever two numbers it is handed, and both read behind the call as they did; its row lists errors.errorType with what the program's text lays in it, and the card ties that to the text. No other conditions.
  The card speaks of the pruned copy of the project that holds the packages which this seat's roots load.
-/
import Derived.Test.YtgdfoahpkiglhaaDoorTold
import Derived.Test.YtgdfoahpkiglhaaDoorSplit
import Derived.Test.YtgdfoahpkiglhaaDoorZero
import Derived.Test.YtgdfoahpkiglhaaDoorCards
import Derived.Test.YtgdfoahpkiglhaaDoorTie
import Derived.Test.YtgdfoahpkiglhaaDoorFrame
import Derived.Deep.DeepHandedRow
namespace Go.Proofs.YtgdfoahpkiglhaaDoor
open Go.ChangeShapes Go.WideShapes Go.ChangeAt Go.RowKit
open Go.ChangeMaps (open_string shut_string)
set_option linter.unusedVariables false
set_option maxRecDepth 100000

set_option maxHeartbeats 1000000 in
theorem many_out (n z : Int) (w : World) (hg : HasErr w) (h : n < 0 ∨ 120 < n) :
    Calls Tryd.prog 4 #[.int .i64 n, .int .i64 z] w fun e w' => e = .returned (.bool true) ∧ Below w.heap.size w w' := by
  have Z := hide (zero_any 121 w (by decide))
  have S := hide (split_full (zerosB 121) z w (by rw [zerosB_size]; decide) (by rw [zerosB_size]; decide))
  have E := hide (error_hit 4 4 w hg)
  have HG := hide hg
  clear hg
  rcases h with h | h
  · go_enter Tryd.func4, Tryd.ntmps4
    go_wp2_with fail
    refine (Z.out).mono ?_
    rintro e w1 ⟨rfl, rfl⟩
    go_wp2_with fail
    refine (S.out).mono ?_
    rintro e w1 ⟨rfl, rfl⟩
    go_wp2_with fail
    refine (E.out).mono ?_
    rintro e w1 ⟨rfl, hb⟩
    go_wp2
    go_ret
    exact ⟨rfl, hb⟩
  · have h' : ¬ n < 0 := by omega
    go_enter Tryd.func4, Tryd.ntmps4
    go_wp2_with fail
    refine (Z.out).mono ?_
    rintro e w1 ⟨rfl, rfl⟩
    go_wp2_with fail
    refine (S.out).mono ?_
    rintro e w1 ⟨rfl, rfl⟩
    go_wp2_with fail
    refine (E.out).mono ?_
    rintro e w1 ⟨rfl, hb⟩
    go_wp2
    go_ret
    exact ⟨rfl, hb⟩

set_option maxHeartbeats 1000000 in
theorem many_range (n : Nat) (z : Int) (w : World) (hg : HasErr w) (h : n ≤ 120) (hz : z < 1 ∨ 8 < z) :
    Calls Tryd.prog 4 #[.int .i64 n, .int .i64 z] w fun e w' => e = .returned (.bool true) ∧ Below w.heap.size w w' := by
  have Z := hide (zero_any n w (by omega))
  have S := hide (split_range (zerosB n) z w (by rw [zerosB_size]; exact h) hz)
  have E := hide (error_hit 1 1 w hg)
  have hn0 : ¬ (n : Int) < 0 := by omega
  have hn1 : ¬ 120 < (n : Int) := by omega
  clear hg
  rcases hz with hz | hz
  · go_enter Tryd.func4, Tryd.ntmps4
    go_wp2_with fail
    refine (Z.out).mono ?_
    rintro e w1 ⟨rfl, rfl⟩
    go_wp2_with fail
    refine (S.out).mono ?_
    rintro e w1 ⟨rfl, rfl⟩
    go_wp2_with fail
    refine (E.out).mono ?_
    rintro e w1 ⟨rfl, hb⟩
    go_wp2
    go_ret
    exact ⟨rfl, hb⟩
  · have hz' : ¬ z < 1 := by omega
    go_enter Tryd.func4, Tryd.ntmps4
    go_wp2_with fail
    refine (Z.out).mono ?_
    rintro e w1 ⟨rfl, rfl⟩
    go_wp2_with fail
    refine (S.out).mono ?_
    rintro e w1 ⟨rfl, rfl⟩
    go_wp2_with fail
    refine (E.out).mono ?_
    rintro e w1 ⟨rfl, hb⟩
    go_wp2
    go_ret
    exact ⟨rfl, hb⟩

theorem want_cast (n z : Nat) (h1 : 1 ≤ z) : ((n : Int) + (z : Int) - 1) / (z : Int) = (((n + z - 1) / z : Nat) : Int) := by
  have e : (((n + z - 1 : Nat)) : Int) = (n : Int) + (z : Int) - 1 := by omega
  rw [← e, ← Int.natCast_ediv]

set_option maxHeartbeats 1000000 in
theorem many_in (n z : Nat) (w : World) (hg : HasErr w) (h : n ≤ 120) (h1 : 1 ≤ z) (h8 : z ≤ 8) :
    Calls Tryd.prog 4 #[.int .i64 n, .int .i64 z] w fun e w' => e = .returned (.bool true) ∧ Below w.heap.size w w' := by
  have Z := hide (zero_any n w (by omega))
  have hn0 : ¬ (n : Int) < 0 := by omega
  have hn1 : ¬ 120 < (n : Int) := by omega
  have hw := want_cast n z h1
  have hcn : cntN n z = max 1 ((n + z - 1) / z) := rfl
  generalize hqq : (n + z - 1) / z = q at *
  have hz1 : ¬ (z : Int) < 1 := by omega
  have hz8 : ¬ 8 < (z : Int) := by omega
  by_cases hk : cntN n z ≤ 16
  · have S := hide (split_ok (zerosB n) z w (by rw [zerosB_size]; exact h) h1 h8 (by rw [zerosB_size]; exact hk))
    rw [zerosB_size] at S
    generalize cntN n z = c at *
    by_cases h0 : q = 0
    · have b0 : (((n : Int) + (z : Int) - 1) / (z : Int) == 0) = true := by rw [hw, h0]; rfl
      have b1 : ((c : Int) == 1) = true := by rw [beq_iff_eq]; omega
      clear hw hcn hqq
      go_enter Tryd.func4, Tryd.ntmps4
      go_wp2_with fail
      refine (Z.out).mono ?_
      rintro e w1 ⟨rfl, rfl⟩
      go_wp2_with fail
      refine (S.out).mono ?_
      rintro e w1 ⟨rfl, _, hb⟩
      go_wp2
      go_ret
      exact ⟨rfl, hb⟩
    · have b0 : (((n : Int) + (z : Int) - 1) / (z : Int) == 0) = false := by rw [hw, beq_eq_false_iff_ne]; omega
      have b16 : ¬ 16 < ((n : Int) + (z : Int) - 1) / (z : Int) := by rw [hw]; omega
      have b1 : ((c : Int) == ((n : Int) + (z : Int) - 1) / (z : Int)) = true := by rw [hw, beq_iff_eq]; omega
      clear hw hcn hqq
      go_enter Tryd.func4, Tryd.ntmps4
      go_wp2_with fail
      refine (Z.out).mono ?_
      rintro e w1 ⟨rfl, rfl⟩
      go_wp2_with fail
      refine (S.out).mono ?_
      rintro e w1 ⟨rfl, _, hb⟩
      go_wp2
      go_ret
      exact ⟨rfl, hb⟩
  · have S := hide (split_many (zerosB n) z w (by rw [zerosB_size]; exact h) h1 h8 (by rw [zerosB_size]; omega))
    have E := hide (error_hit 4 4 w hg)
    have h0 : q ≠ 0 := by omega
    have b0 : (((n : Int) + (z : Int) - 1) / (z : Int) == 0) = false := by rw [hw, beq_eq_false_iff_ne]; omega
    have b16 : 16 < ((n : Int) + (z : Int) - 1) / (z : Int) := by rw [hw]; omega
    clear hw hcn hqq hk hg
    go_enter Tryd.func4, Tryd.ntmps4
    go_wp2_with fail
    refine (Z.out).mono ?_
    rintro e w1 ⟨rfl, rfl⟩
    go_wp2_with fail
    refine (S.out).mono ?_
    rintro e w1 ⟨rfl, rfl⟩
    go_wp2_with fail
    refine (E.out).mono ?_
    rintro e w1 ⟨rfl, hb⟩
    go_wp2
    go_ret
    exact ⟨rfl, hb⟩

theorem many_walk (n z : Int) (w : World) (hg : HasErr w) :
    Calls Tryd.prog 4 #[.int .i64 n, .int .i64 z] w fun e w' => e = .returned (.bool true) ∧ Below w.heap.size w w' := by
  by_cases h : n < 0 ∨ 120 < n
  · exact many_out n z w hg h
  · obtain ⟨m, rfl⟩ := Int.eq_ofNat_of_zero_le (show 0 ≤ n by omega)
    by_cases hz : z < 1 ∨ 8 < z
    · exact many_range m z w hg (by omega) hz
    · obtain ⟨k, rfl⟩ := Int.eq_ofNat_of_zero_le (show 0 ≤ z by omega)
      exact many_in m k w hg (by omega) (by omega) (by omega)

theorem blocksMany_contract (H : Type) (enc : TypeId × Value → H) (W : World) (base : Nat) (args : Array Value) (ds gs : List (DataW H)) (before : List MemPlace)
    (hval : ∀ (j : Nat) t v, Tryd.f4.params[j]? = some t → args[j]? = some v → Value.okWide Tryd.prog W .any base t v)
    (hW : DataW.Whole enc Tryd.prog Tryd.f4.params.toList Rows.blocksManySpec.vars false W args.toList ds gs before) (hL : laidMetH Tryd.prog Rows.blocksManyRow.laid W) :
    Calls Tryd.prog 4 args W fun e W' => ∃ v, e = .returned v ∧ Rows.blocksManySpec.post enc Tryd.prog Tryd.f4 false true false false W args v W' := by
  have hW' := hW
  have hlt0 := hW.lt
  obtain ⟨p, q, hA0, hV, rfl, hfz, hnd⟩ := hW
  have hA : DataW.TrodAll enc Tryd.prog W 0 (fun _ => true) true Tryd.f4.params.toList args.toList ds p := hA0
  rw [Tryd.params4] at hA hval
  have hAll := hA
  have hread : ∀ t ∈ [3, 3], Tryd.prog.readableRec t = true ∧ t < Tryd.prog.types.size := by
    intro t ht
    simp only [List.mem_cons, List.not_mem_nil, or_false] at ht
    rcases ht with rfl | rfl <;> exact ⟨by kernel_rfl, of_decide_eq_true (by kernel_rfl)⟩
  obtain ⟨v0, vs0, d0, ds0, p0, q0, hargs, rfl, rfl, h0, r0⟩ := trodAll_cons hA
  obtain ⟨v1, vs1, d1, ds1, p1, q1, rfl, rfl, rfl, h1, r1⟩ := trodAll_cons r0
  obtain ⟨rfl, rfl, rfl⟩ := trodAll_nil r1
  obtain rfl : args = #[v0, v1] := by cases args; simp_all
  obtain ⟨rfl, rfl⟩ := trodVars_none hV
  simp only [List.append_nil] at hW' hlt0
  have fin : ∀ W' : World, Below W.heap.size W W' → Rows.blocksManySpec.post enc Tryd.prog Tryd.f4 false true false false W #[v0, v1] (.bool true) W' := by
    intro W' hg
    refine ⟨_, _, _, [], (p0 ++ (p1 ++ [])), [], hW', ?_, ?_, ?_, hg.frame _, fun h => by cases h⟩
    · exact trodAll_mk1 (shut_bool Tryd.underlying4 true)
    · exact trodAll_below hg _ _ _ _ hread hAll (by simpa using hlt0)
    · rfl
  obtain ⟨a0, rfl, rfl, rfl, w0⟩ := open_int Tryd.underlying3 (hval 0 3 v0 rfl rfl) h0
  obtain ⟨a1, rfl, rfl, rfl, w1⟩ := open_int Tryd.underlying3 (hval 1 3 v1 rfl rfl) h1
  refine (many_walk a0 a1 W (hasErr_of_laid hL)).mono fun e W' ⟨he, hg⟩ => ?_
  subst he
  exact ⟨_, rfl, fin W' hg⟩

theorem blocksMany_met (os : Os) : laidMetH Tryd.prog Rows.blocksManyRow.laid (({ World.holding Tryd.prog os ⟨#[], #[], []⟩ with heap := (World.holding Tryd.prog os ⟨#[], #[], []⟩).heap.modify 0 fun | .cells _ t frozen => .cells #[.iface 84 (.agg #[.pointer (some ⟨2, 26, none⟩)])] t frozen | o => o } : World).forCall (fun _ _ => 0) ⟨#[], #[.int .i64 0, .int .i64 0], []⟩).memory :=
  laidMetH_of_parts (laidMet_nil _ _) (by kernel_rfl)
theorem blocksMany_reads (os : Os) {H : Type} (enc : TypeId × Value → H) : ∃ places, DataW.whole enc Tryd.prog (({ World.holding Tryd.prog os ⟨#[], #[], []⟩ with heap := (World.holding Tryd.prog os ⟨#[], #[], []⟩).heap.modify 0 fun | .cells _ t frozen => .cells #[.iface 84 (.agg #[.pointer (some ⟨2, 26, none⟩)])] t frozen | o => o } : World).forCall (fun _ _ => 0) ⟨#[], #[.int .i64 0, .int .i64 0], []⟩).memory Tryd.f4.params.toList Rows.blocksManySpec.vars false (#[.int .i64 0, .int .i64 0] : Array Value).toList 8 = some ([.lit (.int .i64 0), .lit (.int .i64 0)], [], places) :=
  ⟨[], by kernel_rfl⟩
theorem blocksMany_lifted (os : Os) (started : os.Started) (H : Type) (enc : TypeId × Value → H) (F : Stop.Interp) :
    ReturnsInHanded {} Tryd.checked os 4 .any ((OpenSpec.ofChange Rows.blocksManySpec).preRow enc Tryd.prog Tryd.f4 Rows.blocksManyRow.domain false Rows.blocksManyRow.laid) (((OpenSpec.ofChange Rows.blocksManySpec).at F).post enc Tryd.prog Tryd.f4 false true false false) := by
  obtain ⟨places, hx⟩ := blocksMany_reads os enc
  refine returnsInHanded_of_row (C := Tryd.checked) (s := OpenSpec.ofChange Rows.blocksManySpec) own started (by kernel_rfl) Tryd.func4
    (witness_row_at (enc := enc) (C := Tryd.checked) false ({ World.holding Tryd.prog os ⟨#[], #[], []⟩ with heap := (World.holding Tryd.prog os ⟨#[], #[], []⟩).heap.modify 0 fun | .cells _ t frozen => .cells #[.iface 84 (.agg #[.pointer (some ⟨2, 26, none⟩)])] t frozen | o => o } : World) #[.int .i64 0, .int .i64 0] rfl (by kernel_rfl) (by kernel_rfl) (by kernel_rfl)
      (OpenSpec.preRow_of_cond 8 hx (by kernel_rfl) (fun k hk => by cases hk) (by kernel_rfl) (blocksMany_met os))) ?_
  intro W base args ds gs before hval hW _ _ _ hL _ _
  exact blocksMany_contract H enc W base args ds gs before hval hW hL

theorem blocksMany_said : Rows.BlocksManySaid :=
  OpenClaim.holds_of_cond 4 Tryd.f4 rfl rfl rfl rfl rfl rfl rfl ⟨rfl, rfl, rfl, rfl, rfl⟩ rfl rfl rfl rfl rfl (by kernel_rfl) Tryd.func4 (by kernel_rfl)
    (of_decide_eq_true (by kernel_rfl)) (by unfold Func.isWrapper; first | (rw [if_pos (by decide +kernel)]; kernel_rfl) | (rw [if_neg (by decide +kernel)]; exact ⟨rfl, rfl⟩))
    (fun os started H enc _ F => by rw [OpenClaim.pre_eq_preRow]; exact blocksMany_lifted os started H enc F)

theorem blocksMany_plain (f : FuncId) (fn : Func) (hf : Tryd.pinned.checked.prog.funcNamed "dropletmill/droplaw4.BlocksMany" = some f) (hfn : Tryd.pinned.checked.prog.funcs[f]? = some fn) :
    true = Tryd.pinned.checked.prog.looks [] ∧ ∀ (j : Nat) t, fn.params[j]? = some t → Tryd.pinned.checked.prog.wantsStandIn t = false := by
  obtain rfl : f = 4 := Option.some.inj ((show Tryd.prog.funcNamed "dropletmill/droplaw4.BlocksMany" = some 4 by kernel_rfl).symm.trans hf) |>.symm
  obtain rfl : fn = Tryd.f4 := (Option.some.inj (Tryd.func4.symm.trans hfn)).symm
  refine ⟨by kernel_rfl, fun j t ht => ?_⟩
  rw [Tryd.params4] at ht
  have hm := Array.mem_of_getElem? ht
  simp only [List.mem_toArray, List.mem_cons, List.mem_nil_iff, or_false] at hm
  rcases hm with rfl | rfl
  · exact (show Tryd.prog.wantsStandIn 3 = false by kernel_rfl)
  · exact (show Tryd.prog.wantsStandIn 3 = false by kernel_rfl)

theorem blocksMany_card : Rows.BlocksManyCardSaid :=
  Claim7.holds_tied_plain_at .later [] _ _ _ _ blocksMany_said (fun _ h => by cases h) (by kernel_rfl) (fun _ h => by cases h) blocksMany_row_tie rfl ⟨rfl, rfl⟩ (by kernel_rfl) rfl blocksMany_plain (by kernel_rfl)
#print axioms blocksMany_card

end Go.Proofs.YtgdfoahpkiglhaaDoor
