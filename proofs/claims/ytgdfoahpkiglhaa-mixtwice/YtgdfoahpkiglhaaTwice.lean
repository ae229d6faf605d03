/-
  Proved: 'dropletmill/droplaw1.MixTwice' returns true whatever three strings it is handed, and they read behind the call as they did. No conditions.
-/
import Derived.Test.YtgdfoahpkiglhaaXor
import Derived.Test.YtgdfoahpkiglhaaZero
import Derived.Test.YtgdfoahpkiglhaaFrame
namespace Go.Proofs.Ytgdfoahpkiglhaa
open Go.ChangeShapes Go.WideShapes Go.ChangeAt Go.RowKit
open Go.ChangeMaps (open_string shut_string)
set_option linter.unusedVariables false

theorem xor_back (a b : ByteArray) : xorB (xorB a b) b = a := by
  refine bytesB_eq _ _ _ (xorB_size _ _).symm (fun i hi => ?_)
  rw [xorB_size] at hi
  rw [xorB_at _ _ _ hi, UInt8.xor_assoc, UInt8.xor_self, UInt8.xor_zero]
theorem xor_turn (a b : ByteArray) (h : b.size = a.size) : xorB b a = xorB a b := by
  unfold xorB; rw [h]
  exact bytesB_congr (fun i _ => UInt8.xor_comm _ _)
theorem zerosB_at (n i : Nat) : atB (zerosB n) i = 0 := by
  rw [atB, zerosB, List.toList_toArray, List.getD, List.getElem?_replicate]; split <;> rfl
theorem xor_same (a : ByteArray) : xorB a a = zerosB a.size :=
  bytesB_eq _ _ _ (zerosB_size _) (fun i hi => by rw [UInt8.xor_self, zerosB_at])
theorem xor_three (a b c : ByteArray) (h : b.size = a.size) : xorB a (xorB b c) = xorB (xorB a b) c := by
  refine bytesB_eq _ _ _ ?_ (fun i hi => ?_)
  · rw [xorB_size, xorB_size]
  · rw [xorB_at b c i (by rw [h]; exact hi), xorB_at (xorB a b) c i (by rw [xorB_size]; exact hi), xorB_at a b i hi, UInt8.xor_assoc]
theorem xor_fact : xorB ⟨#[97]⟩ ⟨#[98]⟩ = ⟨#[3]⟩ := by decide

set_option maxHeartbeats 2000000 in
theorem twice_err (a b c : ByteArray) (w : World) (x : Int)
    (hX : ∀ w1 : World, Calls Try.prog 10 #[.string a, .string b] w1 fun e w' => e = .returned (.tuple #[.string ⟨#[]⟩, .iface 23 (.int .i64 x)]) ∧ w1 = w') :
    Calls Try.prog 5 #[.string a, .string b, .string c] w fun e w' => e = .returned (.bool true) ∧ Below w.heap.size w w' := by
  have K := hide hX
  clear hX
  have F := hide (xor_ok ⟨#[97]⟩ ⟨#[98]⟩ w (by decide) (by decide))
  rw [xor_fact] at F
  go_enter Try.func5, Try.ntmps5
  go_wp2_with fail
  refine (F.out).mono ?_
  rintro e w1 ⟨rfl, hb⟩
  go_wp2_with fail
  refine (K.out _).mono ?_
  rintro e w2 ⟨rfl, rfl⟩
  go_wp2
  go_ret
  exact ⟨rfl, hb⟩

set_option maxHeartbeats 2000000 in
theorem twice_ok (a b c : ByteArray) (w : World) (h : a.size ≤ 120) (hab : b.size = a.size) (hc : c.size ≤ maxLen) :
    Calls Try.prog 5 #[.string a, .string b, .string c] w fun e w' => e = .returned (.bool true) ∧ Below w.heap.size w w' := by
  have F := hide (xor_ok ⟨#[97]⟩ ⟨#[98]⟩ w (by decide) (by decide))
  rw [xor_fact] at F
  have K1 := hide (fun w1 : World => xor_ok a b w1 h hab)
  have K2 := hide (fun w1 : World => xor_ok (xorB a b) b w1 (by rw [xorB_size]; exact h) (by rw [xorB_size]; exact hab))
  rw [xor_back] at K2
  have K3 := hide (fun w1 : World => xor_ok b a w1 (by omega) hab.symm)
  rw [xor_turn a b hab] at K3
  have K4 := hide (fun w1 : World => xor_ok a a w1 h rfl)
  rw [xor_same] at K4
  have Z := hide (fun w1 : World => zero_any a.size w1 (by omega))
  by_cases hx : c.size = b.size
  · have K5 := hide (fun w1 : World => xor_ok b c w1 (by omega) hx)
    have K6 := hide (fun w1 : World => xor_ok a (xorB b c) w1 h (by rw [xorB_size]; exact hab))
    rw [xor_three a b c hab] at K6
    have K7 := hide (fun w1 : World => xor_ok (xorB a b) c w1 (by rw [xorB_size]; exact h) (by rw [xorB_size]; omega))
    clear hx
    generalize xorB (xorB a b) c = q at *
    generalize xorB b c = p at *
    generalize xorB a b = x at *
    generalize zerosB a.size = z at *
    go_enter Try.func5, Try.ntmps5
    go_wp2_with fail
    refine (F.out).mono ?_
    rintro e w1 ⟨rfl, hb1⟩
    go_wp2_with fail
    refine (K1.out _).mono ?_
    rintro e w2 ⟨rfl, hb2⟩
    have hb2 := below_two hb1 hb2
    clear hb1
    go_wp2_with fail
    refine (K2.out _).mono ?_
    rintro e w3 ⟨rfl, hb3⟩
    have hb3 := below_two hb2 hb3
    clear hb2
    go_wp2_with fail
    refine (K3.out _).mono ?_
    rintro e w4 ⟨rfl, hb4⟩
    have hb4 := below_two hb3 hb4
    clear hb3
    go_wp2_with fail
    refine (K4.out _).mono ?_
    rintro e w5 ⟨rfl, hb5⟩
    have hb5 := below_two hb4 hb5
    clear hb4
    go_wp2_with fail
    refine (Z.out _).mono ?_
    rintro e w6 ⟨rfl, rfl⟩
    go_wp2_with fail
    refine (K5.out _).mono ?_
    rintro e w6 ⟨rfl, hb6⟩
    have hb6 := below_two hb5 hb6
    clear hb5
    go_wp2_with fail
    refine (K6.out _).mono ?_
    rintro e w7 ⟨rfl, hb7⟩
    have hb7 := below_two hb6 hb7
    clear hb6
    go_wp2_with fail
    refine (K7.out _).mono ?_
    rintro e w8 ⟨rfl, hb8⟩
    have hb8 := below_two hb7 hb8
    clear hb7
    go_wp2
    go_ret
    exact ⟨rfl, hb8⟩
  · have K5 : Hid (∀ w1 : World, ∃ x : Int, Calls Try.prog 10 #[.string b, .string c] w1 fun e w' => e = .returned (.tuple #[.string ⟨#[]⟩, .iface 23 (.int .i64 x)]) ∧ w1 = w') := fun w1 => by
      by_cases h2 : 120 < c.size
      · exact ⟨4, xor_full b c w1 (by unfold maxLen; omega) hc (Or.inr h2)⟩
      · exact ⟨3, xor_shape b c w1 (by omega) (by omega) (by omega)⟩
    clear hx hc
    generalize xorB a b = x at *
    generalize zerosB a.size = z at *
    go_enter Try.func5, Try.ntmps5
    go_wp2_with fail
    refine (F.out).mono ?_
    rintro e w1 ⟨rfl, hb1⟩
    go_wp2_with fail
    refine (K1.out _).mono ?_
    rintro e w2 ⟨rfl, hb2⟩
    have hb2 := below_two hb1 hb2
    clear hb1
    go_wp2_with fail
    refine (K2.out _).mono ?_
    rintro e w3 ⟨rfl, hb3⟩
    have hb3 := below_two hb2 hb3
    clear hb2
    go_wp2_with fail
    refine (K3.out _).mono ?_
    rintro e w4 ⟨rfl, hb4⟩
    have hb4 := below_two hb3 hb4
    clear hb3
    go_wp2_with fail
    refine (K4.out _).mono ?_
    rintro e w5 ⟨rfl, hb5⟩
    have hb5 := below_two hb4 hb5
    clear hb4
    go_wp2_with fail
    refine (Z.out _).mono ?_
    rintro e w6 ⟨rfl, rfl⟩
    obtain ⟨x5, K5'⟩ := K5.out w5
    have K6 := hide K5'
    clear K5'
    go_wp2_with fail
    refine (K6.out).mono ?_
    rintro e w6 ⟨rfl, rfl⟩
    go_wp2
    go_ret
    exact ⟨rfl, hb5⟩

theorem twice_walk (a : ByteArray) (ha : a.size ≤ maxLen) (b : ByteArray) (hb : b.size ≤ maxLen) (c : ByteArray) (hc : c.size ≤ maxLen) (w : World) :
    Calls Try.prog 5 #[.string a, .string b, .string c] w fun e w' => e = .returned (.bool true) ∧ Below w.heap.size w w' := by
  by_cases h : 120 < a.size ∨ 120 < b.size
  · exact twice_err a b c w 4 (fun w1 => xor_full a b w1 ha hb h)
  · by_cases h2 : b.size = a.size
    · exact twice_ok a b c w (by omega) h2 hc
    · exact twice_err a b c w 3 (fun w1 => xor_shape a b w1 (by omega) (by omega) (by omega))

theorem mixTwice_contract (H : Type) (enc : TypeId × Value → H) (W : World) (base : Nat) (args : Array Value) (ds gs : List (DataW H)) (before : List MemPlace)
    (hval : ∀ (j : Nat) t v, Try.f5.params[j]? = some t → args[j]? = some v → Value.okWide Try.prog W .any base t v)
    (hW : DataW.Whole enc Try.prog Try.f5.params.toList Rows.mixTwiceSpec.vars false W args.toList ds gs before) :
    Calls Try.prog 5 args W fun e W' => ∃ v, e = .returned v ∧ Rows.mixTwiceSpec.post enc Try.prog Try.f5 false true false false W args v W' := by
  have hW' := hW
  have hlt0 := hW.lt
  obtain ⟨p, q, hA0, hV, rfl, hfz, hnd⟩ := hW
  have hA : DataW.TrodAll enc Try.prog W 0 (fun _ => true) true Try.f5.params.toList args.toList ds p := hA0
  rw [Try.params5] at hA hval
  have hAll := hA
  have hread : ∀ t ∈ [9, 9, 9], Try.prog.readableRec t = true ∧ t < Try.prog.types.size := by
    intro t ht
    simp only [List.mem_cons, List.not_mem_nil, or_false] at ht
    rcases ht with rfl | rfl | rfl <;> exact ⟨by kernel_rfl, of_decide_eq_true (by kernel_rfl)⟩
  obtain ⟨v0, vs0, d0, ds0, p0, q0, hargs, rfl, rfl, h0, r0⟩ := trodAll_cons hA
  obtain ⟨v1, vs1, d1, ds1, p1, q1, rfl, rfl, rfl, h1, r1⟩ := trodAll_cons r0
  obtain ⟨v2, vs2, d2, ds2, p2, q2, rfl, rfl, rfl, h2, r2⟩ := trodAll_cons r1
  obtain ⟨rfl, rfl, rfl⟩ := trodAll_nil r2
  obtain rfl : args = #[v0, v1, v2] := by cases args; simp_all
  obtain ⟨rfl, rfl⟩ := trodVars_none hV
  simp only [List.append_nil] at hW' hlt0
  have fin : ∀ W' : World, Below W.heap.size W W' → Rows.mixTwiceSpec.post enc Try.prog Try.f5 false true false false W #[v0, v1, v2] (.bool true) W' := by
    intro W' hg
    refine ⟨_, _, _, [], (p0 ++ (p1 ++ (p2 ++ []))), [], hW', ?_, ?_, ?_, hg.frame _, fun h => by cases h⟩
    · exact trodAll_mk1 (shut_bool Try.underlying4 true)
    · exact trodAll_below hg _ _ _ _ hread hAll (by simpa using hlt0)
    · rfl
  obtain ⟨a0, rfl, rfl, rfl, w0⟩ := open_string Try.underlying9 (hval 0 9 v0 rfl rfl) h0
  obtain ⟨a1, rfl, rfl, rfl, w1⟩ := open_string Try.underlying9 (hval 1 9 v1 rfl rfl) h1
  obtain ⟨a2, rfl, rfl, rfl, w2⟩ := open_string Try.underlying9 (hval 2 9 v2 rfl rfl) h2
  refine (twice_walk a0 w0 a1 w1 a2 w2 W).mono fun e W' ⟨he, hg⟩ => ?_
  subst he
  exact ⟨_, rfl, fin W' hg⟩

set_option maxRecDepth 100000 in
theorem mixTwice_lifted (os : Os) (started : os.Started) (H : Type) (enc : TypeId × Value → H) :
    ReturnsInHanded {} Try.checked os 5 .any (Rows.mixTwiceSpec.pre6 enc Try.prog Try.f5 Rows.mixTwiceRow.domain false) (Rows.mixTwiceSpec.post enc Try.prog Try.f5 false true false false) := by
  refine returnsInHanded_of_change (C := Try.checked) own started (by kernel_rfl) Try.func5
    (ChangeSpec.witness6 (enc := enc) (C := Try.checked) false ⟨#[], #[.string ByteArray.empty, .string ByteArray.empty, .string ByteArray.empty], []⟩ 8 (by kernel_rfl) (by kernel_rfl) (by kernel_rfl) (by kernel_rfl)) ?_
  intro W base args ds gs before hval hW _ _
  exact mixTwice_contract H enc W base args ds gs before hval hW

theorem mixTwice_holds : Rows.MixTwiceSaid :=
  OpenClaim.holds_of_wide 5 Try.f5 rfl rfl rfl rfl rfl rfl rfl ⟨rfl, rfl, rfl, rfl, rfl⟩ rfl rfl rfl rfl rfl (by kernel_rfl) Try.func5 (by kernel_rfl)
    (of_decide_eq_true (by kernel_rfl)) (by unfold Func.isWrapper; first | (rw [if_pos (by decide +kernel)]; kernel_rfl) | (rw [if_neg (by decide +kernel)]; exact ⟨rfl, rfl⟩))
    (fun os started H enc _ => mixTwice_lifted os started H enc)
#print axioms mixTwice_holds
end Go.Proofs.Ytgdfoahpkiglhaa
