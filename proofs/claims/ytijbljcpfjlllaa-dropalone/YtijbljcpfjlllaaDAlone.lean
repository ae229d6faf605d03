/-
  Proved: 'dropletmill/droplaw4.DropAlone' returns true whatever slice of strings and number it is handed, and both read behind the call as they did. No other conditions.
-/
import Derived.Test.YtijbljcpfjlllaaDropW
import Derived.Test.YtijbljcpfjlllaaTop
import Derived.Deep.QuietTactic
import Derived.BigQuiet
namespace Go.Proofs.Ytijbljcpfjlllaa
open Go.ChangeShapes Go.WideShapes Go.ChangeAt Go.RowKit Go.Maps
set_option linter.unusedVariables false
set_option maxRecDepth 100000

set_option maxHeartbeats 1000000 in
theorem alone_err (v : Value) (seed : Int) (w : World) (x : Int)
    (hM : Calls Try.prog 6 #[v, .int .i64 seed] w fun e w' => e = .returned (.tuple #[dropV 0 ⟨#[]⟩, .iface 38 (.int .i64 x)]) ∧ Below w.heap.size w w') :
    Calls Try.prog 4 #[v, .int .i64 seed] w fun e w' => e = .returned (.bool true) ∧ Below w.heap.size w w' := by
  have M := hide hM
  have S := hide (set_one 16 16 (by decide) (by decide) (by decide))
  clear hM
  go_enter Try.func4, Try.ntmps4
  go_wp2_with fail
  refine (M.out).mono ?_
  rintro e w1 ⟨rfl, hb1⟩
  have HB1 := hide hb1
  clear hb1
  unfold dropV
  go_wp2_with fail
  refine (S.out _).mono ?_
  rintro e w2 ⟨p, cap, rfl, hc, hp1, hp2, hb2⟩
  have HB2 := hide (below_two ((HB1.out).alloc HB1.out.size (.cells #[.int .i64 0, .string ⟨#[]⟩] 29)) hb2)
  clear hb2
  unfold maxLen at hp2
  simp only [Nat.add_zero] at hc
  go_wp2
  go_ret
  exact ⟨rfl, HB2.out⟩

set_option maxHeartbeats 1000000 in
theorem alone_ok (b o len cap seed : Nat) (g : Nat → ByteArray) (w : World) (hlc : len ≤ cap) (hcm : cap ≤ maxLen) (hB : Blks w b o len g) (h1 : 1 ≤ seed) (h2 : seed ≤ 10000)
    (hM : Calls Try.prog 6 #[.slice (some ⟨b, o, none⟩) len cap, .int .i64 seed] w fun e w' => e = .returned (.tuple #[dropV seed (dropB g len seed), .nilIface]) ∧ Below w.heap.size w w') :
    Calls Try.prog 4 #[.slice (some ⟨b, o, none⟩) len cap, .int .i64 seed] w fun e w' => e = .returned (.bool true) ∧ Below w.heap.size w w' := by
  have M := hide hM
  have S := hide (set_one 16 16 (by decide) (by decide) (by decide))
  have HBk := hide hB
  have h16 := hB.most
  have HD : Hid (seed ≤ len → dropB g len seed = g (seed - 1)) := fun h => dropB_one h1 h (hB.same _ (by omega))
  unfold maxLen at hcm
  clear hM hB
  generalize dropB g len seed = z at *
  go_enter Try.func4, Try.ntmps4
  go_wp2_with fail
  refine (M.out).mono ?_
  rintro e w1 ⟨rfl, hb1⟩
  have HB1 := hide hb1
  clear hb1
  unfold dropV
  go_wp2_with fail
  refine (S.out _).mono ?_
  rintro e w2 ⟨p, cap2, rfl, hc, hp1, hp2, hb2⟩
  have HB2 := hide (below_two ((HB1.out).alloc HB1.out.size (.cells #[.int .i64 seed, .string z] 29)) hb2)
  obtain ⟨⟨c0, _⟩, c1, _⟩ := (dropIn_new w1 seed z).below hb2
  clear hb2
  unfold maxLen at hp2
  simp only [Nat.add_zero] at hc
  by_cases hgt : len < seed
  · have hgt' : (len : Int) < (seed : Int) := by omega
    go_wp2
    go_ret
    exact ⟨rfl, HB2.out⟩
  · have hgt' : ¬ (len : Int) < (seed : Int) := by omega
    obtain rfl := HD.out (by omega)
    have hci := cell_below HB2.out (HBk.out.cells (seed - 1) (by omega))
    clear HD
    obtain ⟨n, rfl⟩ : ∃ n, seed = n + 1 := ⟨seed - 1, by omega⟩
    simp only [Nat.add_sub_cancel] at hci c1 ⊢
    generalize g n = z at *
    have hge : decide ((1 : Int) ≤ (n : Int) + 1) = true := by simp; omega
    go_wp2_with fail
    go_quiet (fail)
    go_wp2
    go_ret
    exact ⟨rfl, below_drewN HB2.out _⟩

theorem alone_walk {w : World} (v : Value) (len : Nat) (g : Nat → ByteArray) (hv : StrsAt w v len g) (seed : Int) :
    Calls Try.prog 4 #[v, .int .i64 seed] w fun e w' => e = .returned (.bool true) ∧ Below w.heap.size w w' := by
  rcases make_ways hv seed with ⟨x, hx⟩ | ⟨b, o, cap, n, rfl, hlc, hcm, hB, rfl, h1, h2, hM⟩
  · exact alone_err v seed w x (hx w (Below.refl _ _))
  · exact alone_ok b o len cap n g w hlc hcm hB h1 h2 (hM w (Below.refl _ _))

set_option maxRecDepth 100000 in
theorem dropAlone_contract (H : Type) (enc : TypeId × Value → H) (W : World) (base : Nat) (args : Array Value) (ds gs : List (DataW H)) (before : List MemPlace)
    (hval : ∀ (j : Nat) t v, Try.f4.params[j]? = some t → args[j]? = some v → Value.okWide Try.prog W .any base t v)
    (hW : DataW.Whole enc Try.prog Try.f4.params.toList Rows.dropAloneSpec.vars false W args.toList ds gs before) :
    Calls Try.prog 4 args W fun e W' => ∃ v, e = .returned v ∧ Rows.dropAloneSpec.post enc Try.prog Try.f4 false true false false W args v W' := by
  have hW' := hW
  have hlt0 := hW.lt
  obtain ⟨p, q, hA0, hV, rfl, hfz, hnd⟩ := hW
  have hA : DataW.TrodAll enc Try.prog W 0 (fun _ => true) true Try.f4.params.toList args.toList ds p := hA0
  rw [Try.params4] at hA hval
  have hAll := hA
  have hread : ∀ t ∈ [22, 3], Try.prog.readableRec t = true ∧ t < Try.prog.types.size := by
    intro t ht
    simp only [List.mem_cons, List.not_mem_nil, or_false] at ht
    rcases ht with rfl | rfl <;> exact ⟨by kernel_rfl, of_decide_eq_true (by kernel_rfl)⟩
  obtain ⟨v0, vs0, d0, ds0, p0, q0, hargs, rfl, rfl, h0, r0⟩ := trodAll_cons hA
  obtain ⟨v1, vs1, d1, ds1, p1, q1, rfl, rfl, rfl, h1, r1⟩ := trodAll_cons r0
  obtain ⟨rfl, rfl, rfl⟩ := trodAll_nil r1
  obtain rfl : args = #[v0, v1] := by cases args; simp_all
  obtain ⟨rfl, rfl⟩ := trodVars_none hV
  simp only [List.append_nil] at hW' hlt0
  have fin : ∀ W' : World, Below W.heap.size W W' → Rows.dropAloneSpec.post enc Try.prog Try.f4 false true false false W #[v0, v1] (.bool true) W' := by
    intro W' hg
    refine ⟨_, _, _, [], (p0 ++ (p1 ++ [])), [], hW', ?_, ?_, ?_, hg.frame _, fun h => by cases h⟩
    · exact trodAll_mk1 (shut_bool Try.underlying4 true)
    · exact trodAll_below hg _ _ _ _ hread hAll (by simpa using hlt0)
    · rfl
  obtain ⟨l0, f0, hs0⟩ := open_strsAt (hval 0 22 v0 rfl rfl) h0
  obtain ⟨a1, rfl, rfl, rfl, w1⟩ := open_int Try.underlying3 (hval 1 3 v1 rfl rfl) h1
  refine (alone_walk v0 l0 f0 hs0 a1 (w := W)).mono fun e W' ⟨he, hg⟩ => ?_
  subst he
  exact ⟨_, rfl, fin W' hg⟩

set_option maxRecDepth 100000 in
theorem dropAlone_lifted (os : Os) (started : os.Started) (H : Type) (enc : TypeId × Value → H) :
    ReturnsInHanded {} Try.checked os 4 .any (Rows.dropAloneSpec.pre6 enc Try.prog Try.f4 Rows.dropAloneRow.domain false) (Rows.dropAloneSpec.post enc Try.prog Try.f4 false true false false) := by
  refine returnsInHanded_of_change (C := Try.checked) own started (by kernel_rfl) Try.func4
    (ChangeSpec.witness6 (enc := enc) (C := Try.checked) false ⟨#[], #[.slice none 0 0, .int .i64 0], []⟩ 8 (by kernel_rfl) (by kernel_rfl) (by kernel_rfl) (by kernel_rfl)) ?_
  intro W base args ds gs before hval hW _ _
  exact dropAlone_contract H enc W base args ds gs before hval hW

theorem dropAlone_holds : Rows.DropAloneSaid :=
  OpenClaim.holds_of_wide 4 Try.f4 rfl rfl rfl rfl rfl rfl rfl ⟨rfl, rfl, rfl, rfl, rfl⟩ rfl rfl rfl rfl rfl (by kernel_rfl) Try.func4 (by kernel_rfl)
    (of_decide_eq_true (by kernel_rfl)) (by unfold Func.isWrapper; first | (rw [if_pos (by decide +kernel)]; kernel_rfl) | (rw [if_neg (by decide +kernel)]; exact ⟨rfl, rfl⟩))
    (fun os started H enc _ => dropAlone_lifted os started H enc)
#print axioms dropAlone_holds
end Go.Proofs.Ytijbljcpfjlllaa
