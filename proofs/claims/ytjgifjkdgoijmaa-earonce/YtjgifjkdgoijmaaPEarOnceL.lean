/-
  Proved: 'dropletmill/droplaw4.EarOnce' returns true whatever bytes and whatever numbers it is handed, and they read behind the call as they did. No other conditions.
-/
import Derived.Test.YtjgifjkdgoijmaaPG41
import Derived.Test.YtjgifjkdgoijmaaPG39
namespace Go.Proofs.Ytjgifjkdgoijmaa
open Go.ChangeShapes Go.WideShapes Go.ChangeAt Go.RowKit Go.Maps
open Go.ChangeMaps (open_string shut_string)
set_option linter.unusedVariables false
set_option maxRecDepth 100000

theorem once_fault (t : ByteArray) (z s m x : Int) (w : World) (hm : t.size ≤ maxLen)
    (hS : ∀ w : World, Calls Try.prog 4 #[.string t, .int .i64 z] w fun e w' => e = .returned (.tuple #[.slice none 0 0, .iface 40 (.int .i64 x)]) ∧ w = w') :
    Calls Try.prog 3 #[.string t, .int .i64 z, .int .i64 s, .int .i64 m] w fun e w' => e = .returned (.bool true) ∧ Below w.heap.size w w' := by
  have S := hide hS
  clear hS
  go_enter Try.func3, Try.ntmps3
  go_wp2_with fail
  refine (S.out _).mono ?_
  rintro e w1 ⟨rfl, rfl⟩
  go_wp2
  go_ret
  exact ⟨rfl, Below.refl _ _⟩
/-- What was heard behind j times. -/
def onceF (s : Nat) (d : ByteArray) (j : Nat) : List Drp := if j = 0 then [] else [(s, d)]
theorem onceF_next (s : Nat) (d : ByteArray) (j : Nat) : eAdd (onceF s d j) s d = [(s, d)] := by
  unfold onceF
  by_cases h : j = 0
  · rw [if_pos h, eAdd_out _ (by simp [sds])]; rfl
  · rw [if_neg h, eAdd_in _ (by simp [sds])]
set_option maxHeartbeats 4000000 in
theorem once_ok (t : ByteArray) (z : Nat) (s m : Int) (w : World) (h1 : 1 ≤ z) (h8 : z ≤ 8) (h120 : t.size ≤ 120) (hc : cntN t.size z ≤ 16)
    (hS : ∀ w : World, Calls Try.prog 4 #[.string t, .int .i64 z] w fun e w' => e = .returned (.tuple #[.slice (some ⟨w.heap.size, 0, none⟩) (cntN t.size z) (cntN t.size z), .nilIface]) ∧ Blks w' w.heap.size 0 (cntN t.size z) (blkB t.data.toList z) ∧ Below w.heap.size w w') :
    Calls Try.prog 3 #[.string t, .int .i64 z, .int .i64 s, .int .i64 m] w fun e w' => e = .returned (.bool true) ∧ Below w.heap.size w w' := by
  have S := hide (hS w)
  clear hS
  obtain ⟨k, hk⟩ : ∃ k, cntN t.size z = k := ⟨_, rfl⟩
  have HK := hide hk
  rw [hk] at S hc
  have hk1 : 1 ≤ k := by rw [← hk]; unfold cntN; omega
  clear hk
  go_enter Try.func3, Try.ntmps3
  go_wp2_with fail
  refine (S.out).mono ?_
  rintro e w1 ⟨rfl, hB, hb1⟩
  have HB1 := hide hb1
  have HBk := hide hB
  have hz0 := blkB_size t.data.toList z 0
  generalize blkB t.data.toList z = g at *
  clear hb1 hB S
  by_cases hm1 : m < 1
  · go_wp2
    go_ret
    exact ⟨rfl, HB1.out⟩
  by_cases hm2 : 50 < m
  · go_wp2
    go_ret
    exact ⟨rfl, HB1.out⟩
  by_cases hs : s < 1 ∨ 10000 < s
  · have MK := hide (make_seed w.heap.size 0 k k g s w1 HBk.out.pos HBk.out.most HBk.out.cells HBk.out.one HBk.out.eight HBk.out.same hs)
    unfold dropV at MK
    go_wp2_with fail
    refine (MK.out).mono ?_
    rintro e w2 ⟨rfl, hb2⟩
    have HB2 := hide (below_two HB1.out hb2)
    clear hb2 MK
    by_cases hs1 : s < 1
    · clear hs
      go_wp2
      go_ret
      exact ⟨rfl, HB2.out.alloc HB2.out.size _⟩
    · have hs2 : 10000 < s := by omega
      clear hs
      go_wp2
      go_ret
      exact ⟨by first | rfl | simp, HB2.out.alloc HB2.out.size _⟩
  obtain ⟨s, rfl⟩ : ∃ q : Nat, s = (q : Nat) := ⟨s.toNat, by omega⟩
  obtain ⟨m, rfl⟩ : ∃ q : Nat, m = (q : Nat) := ⟨m.toNat, by omega⟩
  have hs1 : 1 ≤ s := by omega
  have hs2 : s ≤ 10000 := by omega
  have MK := hide (make_ok w.heap.size 0 k k g s w1 HBk.out.pos HBk.out.most HBk.out.cells HBk.out.one HBk.out.eight HBk.out.same hs1 hs2)
  have hdz : (dropB g k s).size = z := by rw [dropB_size, hz0]
  generalize dropB g k s = d at *
  unfold dropV at MK
  clear hs hz0
  have NW := hide (fun W => enew_ok k z t.size W ⟨⟨hk1, hc⟩, h1, h8⟩ h120 HK.out)
  go_wp2_with fail
  refine (MK.out).mono ?_
  rintro e w2 ⟨rfl, hb2⟩
  have HB2 := hide (below_two HB1.out hb2)
  have HDI := hide (dropIn_new w2 (s : Nat) d)
  have HB3 : Hid (Below w.heap.size w (w2.alloc (.cells #[.int .i64 (s : Nat), .string d] 28))) := HB2.out.alloc HB2.out.size _
  clear hb2 MK
  go_wp2_with fail
  generalize w2.alloc (.cells #[.int .i64 (s : Nat), .string d] 28) = w3 at *
  refine (NW.out _).mono ?_
  rintro e w4 ⟨v, M, rfl, hE, hM, hb4⟩
  have hv : ∃ a, v = .pointer a := by
    obtain ⟨b, _, _, _, rfl, _⟩ := hE
    exact ⟨_, rfl⟩
  obtain ⟨av, rfl⟩ := hv
  have HB4 := hide (below_two HB3.out hb4)
  have HD4 := hide (HDI.out.of_block (hb4.block _ HDI.out.lt))
  have HM4 : Hid (∀ i, M i → w.heap.size ≤ i ∧ ¬ i = w2.heap.size) := fun i hi => ⟨Nat.le_trans HB3.out.size (hM i hi), fun e => by have := hM i hi; have := HDI.out.lt; omega⟩
  have HE4 := hide hE
  have HDZ := hide hdz
  clear hE hM hb4 NW hdz HDI
  go_wp2_with fail
  go_loopw [14] (fun i wr => ∃ j : Nat, j ≤ m ∧ i = .int .i64 j ∧ ∃ M, ESt peelI0 wr (.pointer av) k z t.size (j : Int) (onceF s d j) M ∧ (∀ i, M i → w.heap.size ≤ i ∧ ¬ i = w2.heap.size) ∧ Below w.heap.size w wr ∧ DropIn wr w2.heap.size (s : Nat) d) (fun i _ => m - (intOf i).toNat)
  case atStart => exact ⟨0, Nat.zero_le _, rfl, M, HE4.out, HM4.out, HB4.out, HD4.out⟩
  case round =>
    obtain ⟨j, hj, rfl, M, hE, hM, hb, hD⟩ := hrel
    by_cases hlt : j < m
    · have hw : wrap64 ((j : Int) + 1) = ((j + 1 : Nat) : Int) := by unfold wrap64; omega
      have HR := hide (hear_from peel_ptr hE hb (fun i hi => (hM i hi).1) s d (eF_made hE.ok ⟨hs1, hs2⟩ HDZ.out (by unfold onceF; split <;> simp)) ⟨by omega, by omega⟩)
      rw [onceF_next, hw] at HR
      unfold dropV heardV at HR
      have HMd : Hid (¬ M w2.heap.size) := fun h => (hM _ h).2 rfl
      have HDj := hide hD
      have hdl := hD.lt
      obtain ⟨⟨cs, _⟩, cd, _⟩ := hD
      simp only [Nat.zero_add] at cd
      have HM9 := hide hM
      clear hE hM hb hw HE4 HM4 HB4 HD4
      go_wp2_with fail
      refine (HR.out).mono ?_
      rintro e w5 ⟨q, M', hT, rfl, hE5, hM5, hb5, hk5, hM5'⟩
      have HE5 := hide hE5
      have HB5 := hide hb5
      have HM5 : Hid (∀ i, M' i → w.heap.size ≤ i ∧ ¬ i = w2.heap.size) := fun i hi => ⟨hM5 i hi, fun e => by
        rcases hM5' i hi with h9 | h9
        · exact (HM9.out i h9).2 e
        · omega⟩
      have HD5 := hide (HDj.out.kept hk5 HMd.out)
      clear hT hE5 hM5 hb5 hk5 hM5' HR cs cd
      simp only [List.length_singleton]
      go_wp2
      go_roundw
      case rel =>
        refine ⟨j + 1, by omega, by go_num, M', ?_, HM5.out, HB5.out.alloc HB5.out.size _, HD5.out.of_block (((Below.refl _ w5).alloc (Nat.le_refl _) _).block _ HD5.out.lt)⟩
        rw [show onceF s d (j + 1) = [(s, d)] by simp [onceF]]
        exact HE5.out.below ((Below.refl _ w5).alloc (Nat.le_refl _) _)
      case measure => simp [intOf]; omega
    · obtain rfl : j = m := by omega
      have hF : onceF s d j = [(s, d)] := by unfold onceF; rw [if_neg (by omega)]
      rw [hF] at hE
      have hr1 : rkL (mS k (sds [(s, d)])) = 1 := rk_one (mask_some ⟨hk1, hc⟩ ⟨hs1, hs2⟩)
      have DN := hide (done_ok hE)
      rw [hr1] at DN
      have HB := hide hb
      clear hE hM hb hF hr1 hD
      by_cases e : k = 1
      · subst e
        go_wp2_with fail
        refine (DN.out).mono ?_
        rintro e w6 ⟨rfl, hb6⟩
        have HB6 := hide (below_two HB.out hb6)
        clear hb6
        go_wp2
        go_ret
        exact ⟨by first | rfl | simp, HB6.out⟩
      · have hk2 : ((k : Int) == 1) = false := by rw [beq_eq_false_iff_ne]; omega
        rw [decide_eq_false (fun h => e h.symm)] at DN
        go_wp2_with fail
        refine (DN.out).mono ?_
        rintro e w6 ⟨rfl, hb6⟩
        have HB6 := hide (below_two HB.out hb6)
        clear hb6
        go_wp2
        go_ret
        exact ⟨by first | rfl | simp [hk2], HB6.out⟩
theorem once_walk (t : ByteArray) (hm : t.size ≤ maxLen) (z s m : Int) (w : World) :
    Calls Try.prog 3 #[.string t, .int .i64 z, .int .i64 s, .int .i64 m] w fun e w' => e = .returned (.bool true) ∧ Below w.heap.size w w' := by
  rcases split_ways t z hm with ⟨x, hx⟩ | ⟨n, rfl, h1, h8, h120, hc, hS⟩
  · exact once_fault t z s m x w hm hx
  · exact once_ok t n s m w h1 h8 h120 hc hS

set_option maxRecDepth 100000 in
theorem earOnce_contract (H : Type) (enc : TypeId × Value → H) (W : World) (base : Nat) (args : Array Value) (ds gs : List (DataW H)) (before : List MemPlace)
    (hval : ∀ (j : Nat) t v, Try.f3.params[j]? = some t → args[j]? = some v → Value.okWide Try.prog W .any base t v)
    (hW : DataW.Whole enc Try.prog Try.f3.params.toList Rows.earOnceSpec.vars false W args.toList ds gs before) :
    Calls Try.prog 3 args W fun e W' => ∃ v, e = .returned v ∧ Rows.earOnceSpec.post enc Try.prog Try.f3 false true false false W args v W' := by
  have hW' := hW
  have hlt0 := hW.lt
  obtain ⟨p, q, hA0, hV, rfl, hfz, hnd⟩ := hW
  have hA : DataW.TrodAll enc Try.prog W 0 (fun _ => true) true Try.f3.params.toList args.toList ds p := hA0
  rw [Try.params3] at hA hval
  have hAll := hA
  have hread : ∀ t ∈ [9, 3, 3, 3], Try.prog.readableRec t = true ∧ t < Try.prog.types.size := by
    intro t ht
    simp only [List.mem_cons, List.not_mem_nil, or_false] at ht
    rcases ht with rfl | rfl | rfl | rfl <;> exact ⟨by kernel_rfl, of_decide_eq_true (by kernel_rfl)⟩
  obtain ⟨v0, vs0, d0, ds0, p0, q0, hargs, rfl, rfl, h0, r0⟩ := trodAll_cons hA
  obtain ⟨v1, vs1, d1, ds1, p1, q1, rfl, rfl, rfl, h1, r1⟩ := trodAll_cons r0
  obtain ⟨v2, vs2, d2, ds2, p2, q2, rfl, rfl, rfl, h2, r2⟩ := trodAll_cons r1
  obtain ⟨v3, vs3, d3, ds3, p3, q3, rfl, rfl, rfl, h3, r3⟩ := trodAll_cons r2
  obtain ⟨rfl, rfl, rfl⟩ := trodAll_nil r3
  obtain rfl : args = #[v0, v1, v2, v3] := by cases args; simp_all
  obtain ⟨rfl, rfl⟩ := trodVars_none hV
  simp only [List.append_nil] at hW' hlt0
  have fin : ∀ W' : World, Below W.heap.size W W' → Rows.earOnceSpec.post enc Try.prog Try.f3 false true false false W #[v0, v1, v2, v3] (.bool true) W' := by
    intro W' hg
    refine ⟨_, _, _, [], (p0 ++ (p1 ++ (p2 ++ (p3 ++ [])))), [], hW', ?_, ?_, ?_, hg.frame _, fun h => by cases h⟩
    · exact trodAll_mk1 (shut_bool Try.underlying4 true)
    · exact trodAll_below hg _ _ _ _ hread hAll (by simpa using hlt0)
    · rfl
  obtain ⟨a0, rfl, rfl, rfl, w0⟩ := open_string Try.underlying9 (hval 0 9 v0 rfl rfl) h0
  obtain ⟨a1, rfl, rfl, rfl, w1⟩ := open_int Try.underlying3 (hval 1 3 v1 rfl rfl) h1
  obtain ⟨a2, rfl, rfl, rfl, w2⟩ := open_int Try.underlying3 (hval 2 3 v2 rfl rfl) h2
  obtain ⟨a3, rfl, rfl, rfl, w3⟩ := open_int Try.underlying3 (hval 3 3 v3 rfl rfl) h3
  refine (once_walk a0 w0 a1 a2 a3 W).mono fun e W' ⟨he, hg⟩ => ?_
  subst he
  exact ⟨_, rfl, fin W' hg⟩

set_option maxRecDepth 100000 in
theorem earOnce_lifted (os : Os) (started : os.Started) (H : Type) (enc : TypeId × Value → H) :
    ReturnsInHanded {} Try.checked os 3 .any (Rows.earOnceSpec.pre6 enc Try.prog Try.f3 Rows.earOnceRow.domain false) (Rows.earOnceSpec.post enc Try.prog Try.f3 false true false false) := by
  refine returnsInHanded_of_change (C := Try.checked) own started (by kernel_rfl) Try.func3
    (ChangeSpec.witness6 (enc := enc) (C := Try.checked) false ⟨#[], #[.string ByteArray.empty, .int .i64 0, .int .i64 0, .int .i64 0], []⟩ 8 (by kernel_rfl) (by kernel_rfl) (by kernel_rfl) (by kernel_rfl)) ?_
  intro W base args ds gs before hval hW _ _
  exact earOnce_contract H enc W base args ds gs before hval hW

theorem earOnce_holds : Rows.EarOnceSaid :=
  OpenClaim.holds_of_wide 3 Try.f3 rfl rfl rfl rfl rfl rfl rfl ⟨rfl, rfl, rfl, rfl, rfl⟩ rfl rfl rfl rfl rfl (by kernel_rfl) Try.func3 (by kernel_rfl)
    (of_decide_eq_true (by kernel_rfl)) (by unfold Func.isWrapper; first | (rw [if_pos (by decide +kernel)]; kernel_rfl) | (rw [if_neg (by decide +kernel)]; exact ⟨rfl, rfl⟩))
    (fun os started H enc _ => earOnce_lifted os started H enc)
#print axioms earOnce_holds

end Go.Proofs.Ytjgifjkdgoijmaa
