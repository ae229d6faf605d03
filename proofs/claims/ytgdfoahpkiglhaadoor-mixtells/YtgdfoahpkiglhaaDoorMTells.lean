/-
  Proved: 'dropletmill/droplaw1.MixTells' returns true whatever two strings, slice of strings, slice of ints and number it is handed, and all read behind the call as they did; its row lists errors.errorType with what the program's text lays in it, and the card ties that to the text. No other conditions.
  The card speaks of the pruned copy of the project that holds the packages which this seat's roots load.
-/
import Derived.Test.YtgdfoahpkiglhaaDoorMTellsB
import Derived.Test.YtgdfoahpkiglhaaDoorInts
import Derived.Test.YtgdfoahpkiglhaaDoorFrame
import Derived.Test.YtgdfoahpkiglhaaDoorCards
import Derived.Test.YtgdfoahpkiglhaaDoorTie
import Derived.Deep.DeepHandedRow
namespace Go.Proofs.YtgdfoahpkiglhaaDoor
open Go.ChangeShapes Go.WideShapes Go.ChangeAt Go.RowKit
open Go.ChangeMaps (open_string shut_string)
set_option linter.unusedVariables false
set_option maxRecDepth 100000

theorem mtells_walk {w : World} (a : ByteArray) (ha : a.size ≤ maxLen) (b : ByteArray) (hb : b.size ≤ maxLen) (l : Value) (len : Nat) (g : Nat → ByteArray) (hl : StrsAt w l len g)
    (of : Value) (n : Nat) (f : Nat → Int) (hof : IntsAt w of n f) (z : Int) (hg : HasErr w) :
    Calls Tryd.prog 5 #[.string a, .string b, l, of, .int .i64 z] w fun e w' => e = .returned (.bool true) ∧ Below w.heap.size w w' := by
  have fault : ∀ y : Int, y ≠ 0 → BlocksSay l y w → (∀ w1 : World, Below w.heap.size w w1 → Calls Tryd.prog 11 #[l] w1 fun e w' => e = .returned (.iface 47 (.int .i64 y)) ∧ Below w1.heap.size w1 w') →
      Calls Tryd.prog 5 #[.string a, .string b, l, of, .int .i64 z] w fun e w' => e = .returned (.bool true) ∧ Below w.heap.size w w' := fun y hy hB hC => by
    have hS : ∀ of, SumFault l of y w := fun of w1 h1 => sum_check l of w1 y (hC w1 h1)
    rcases hof with ⟨rfl, ao, cap, rfl⟩ | ⟨h0, b2, o2, cap2, rfl, _⟩
    · exact tells_fault0 a b ha hb l ao cap y z w hg hy hB (hS _)
    · exact tells_fault1 a b ha hb l _ n cap2 y z w hg h0 hy hB (hS _)
  rcases hl with ⟨rfl, ao, cap, rfl⟩ | ⟨hl0, b1, o1, cap1, rfl, hlc, hcm, hcell, hsz⟩
  · exact fault 5 (by decide) (fun w1 h1 => (rblocks_none ao cap w1).mono fun e w' ⟨he, hw⟩ => ⟨he, hw ▸ Below.refl _ _⟩) (fun w1 h1 => (check_none ao cap w1).mono fun e w' ⟨he, hw⟩ => ⟨he, hw ▸ Below.refl _ _⟩)
  by_cases h16 : len ≤ 16
  · by_cases hr : (g 0).size < 1 ∨ 8 < (g 0).size
    · have hc0 : ∀ w1 : World, Below w.heap.size w w1 → w1.cell? ⟨b1, o1, none⟩ = some (.string (g 0)) := fun w1 h1 => by simpa using cell_below h1 (hcell 0 hl0)
      exact fault 1 (by decide) (fun w1 h1 => (rblocks_range b1 o1 len cap1 (g 0) w1 hl0 h16 (hc0 w1 h1) (hsz 0 hl0) hr).mono fun e w' ⟨he, hw⟩ => ⟨he, hw ▸ Below.refl _ _⟩)
        (fun w1 h1 => check_range b1 o1 len cap1 (g 0) w1 hl0 h16 (hc0 w1 h1) (hsz 0 hl0) hr)
    by_cases hq : ∃ q, q < len ∧ (g q).size ≠ (g 0).size
    · obtain ⟨q, hq, hne⟩ := hq
      exact fault 3 (by decide) (fun w1 h1 => rblocks_shape b1 o1 len cap1 g w1 hl0 h16 (fun i hi => cell_below h1 (hcell i hi)) hsz (by omega) (by omega) q hq hne)
        (fun w1 h1 => check_shape b1 o1 len cap1 g w1 hl0 h16 (fun i hi => cell_below h1 (hcell i hi)) (by omega) (by omega) q hq hne)
    have hs : ∀ i, i < len → (g i).size = (g 0).size := fun i hi => Classical.byContradiction fun hn => hq ⟨i, hi, hn⟩
    have hB : BlocksSay (.slice (some ⟨b1, o1, none⟩) len cap1) 0 w := fun w1 h1 => rblocks_ok b1 o1 len cap1 g w1 hl0 h16 (fun i hi => cell_below h1 (hcell i hi)) (by omega) (by omega) hs
    have hC : ∀ w1 : World, Below w.heap.size w w1 → Calls Tryd.prog 11 #[.slice (some ⟨b1, o1, none⟩) len cap1] w1 fun e w' => e = .returned .nilIface ∧ Below w1.heap.size w1 w' :=
      fun w1 h1 => check_ok b1 o1 len cap1 g w1 hl0 h16 (fun i hi => cell_below h1 (hcell i hi)) (by omega) (by omega) hs
    rcases hof with ⟨rfl, ao, cap, rfl⟩ | ⟨h0, b2, o2, cap2, rfl, hnc, hcm2, hcell2, _⟩
    · exact tells_none a b ha hb _ ao cap z w hg hB (fun w1 h1 => sum_named b1 o1 len cap1 _ w1 5 h16 (hC w1 h1) (fun w2 h2 => named_none ao cap len w2))
    · rcases good_or f len n with hgood | ⟨q, hq, hgood, hbad⟩
      · exact tells_good a b ha hb b1 o1 len cap1 b2 o2 n cap2 g f z w hg h16 h0 hnc hcm2 hB hcell2 hgood
          (fun w1 h1 => rsum_ok b1 o1 len cap1 b2 o2 n cap2 g f w1 hl0 h16 (fun i hi => cell_below h1 (hcell i hi)) (by omega) (by omega) hs hnc hcm2 (fun i hi => cell_below h1 (hcell2 i hi)) hgood)
          (fun w1 h1 => sum_ok b1 o1 len cap1 b2 o2 n cap2 g f w1 hl0 h16 (fun i hi => cell_below h1 (hcell i hi)) (by omega) (by omega) hs h0 hnc hcm2 (fun i hi => cell_below h1 (hcell2 i hi)) hgood)
      · have hS : SumFault (.slice (some ⟨b1, o1, none⟩) len cap1) (.slice (some ⟨b2, o2, none⟩) n cap2) (faultAt f len q) w := fun w1 h1 =>
          sum_named b1 o1 len cap1 _ w1 _ h16 (hC w1 h1) (fun w2 h2 => named_bad b2 o2 n cap2 len f w2 hnc hcm2 (fun i hi => cell_below h2 (cell_below h1 (hcell2 i hi))) q hq hgood hbad)
        by_cases hq1 : q + 1 < n
        · exact tells_bad1 a b ha hb b1 o1 len cap1 b2 o2 n cap2 g f q z w hg h16 h0 hnc hcm2 hB hcell2 hq hgood hbad hq1 hS
        · exact tells_bad0 a b ha hb b1 o1 len cap1 b2 o2 n cap2 g f q z w hg h16 h0 hnc hcm2 hB hcell2 hq hgood hbad hq1 hS
  · exact fault 4 (by decide) (fun w1 h1 => (rblocks_full _ len cap1 w1 (by omega) (by omega)).mono fun e w' ⟨he, hw⟩ => ⟨he, hw ▸ Below.refl _ _⟩) (fun w1 h1 => (check_full _ len cap1 w1 (by omega) (by omega)).mono fun e w' ⟨he, hw⟩ => ⟨he, hw ▸ Below.refl _ _⟩)

set_option maxRecDepth 100000 in
theorem mixTells_contract (H : Type) (enc : TypeId × Value → H) (W : World) (base : Nat) (args : Array Value) (ds gs : List (DataW H)) (before : List MemPlace)
    (hval : ∀ (j : Nat) t v, Tryd.f5.params[j]? = some t → args[j]? = some v → Value.okWide Tryd.prog W .any base t v)
    (hW : DataW.Whole enc Tryd.prog Tryd.f5.params.toList Rows.mixTellsSpec.vars false W args.toList ds gs before) (hL : laidMetH Tryd.prog Rows.mixTellsRow.laid W) :
    Calls Tryd.prog 5 args W fun e W' => ∃ v, e = .returned v ∧ Rows.mixTellsSpec.post enc Tryd.prog Tryd.f5 false true false false W args v W' := by
  have hW' := hW
  have hlt0 := hW.lt
  obtain ⟨p, q, hA0, hV, rfl, hfz, hnd⟩ := hW
  have hA : DataW.TrodAll enc Tryd.prog W 0 (fun _ => true) true Tryd.f5.params.toList args.toList ds p := hA0
  rw [Tryd.params5] at hA hval
  have hAll := hA
  have hread : ∀ t ∈ [9, 9, 22, 39, 3], Tryd.prog.readableRec t = true ∧ t < Tryd.prog.types.size := by
    intro t ht
    simp only [List.mem_cons, List.not_mem_nil, or_false] at ht
    rcases ht with rfl | rfl | rfl | rfl | rfl <;> exact ⟨by kernel_rfl, of_decide_eq_true (by kernel_rfl)⟩
  obtain ⟨v0, vs0, d0, ds0, p0, q0, hargs, rfl, rfl, h0, r0⟩ := trodAll_cons hA
  obtain ⟨v1, vs1, d1, ds1, p1, q1, rfl, rfl, rfl, h1, r1⟩ := trodAll_cons r0
  obtain ⟨v2, vs2, d2, ds2, p2, q2, rfl, rfl, rfl, h2, r2⟩ := trodAll_cons r1
  obtain ⟨v3, vs3, d3, ds3, p3, q3, rfl, rfl, rfl, h3, r3⟩ := trodAll_cons r2
  obtain ⟨v4, vs4, d4, ds4, p4, q4, rfl, rfl, rfl, h4, r4⟩ := trodAll_cons r3
  obtain ⟨rfl, rfl, rfl⟩ := trodAll_nil r4
  obtain rfl : args = #[v0, v1, v2, v3, v4] := by cases args; simp_all
  obtain ⟨rfl, rfl⟩ := trodVars_none hV
  simp only [List.append_nil] at hW' hlt0
  have fin : ∀ W' : World, Below W.heap.size W W' → Rows.mixTellsSpec.post enc Tryd.prog Tryd.f5 false true false false W #[v0, v1, v2, v3, v4] (.bool true) W' := by
    intro W' hg
    refine ⟨_, _, _, [], (p0 ++ (p1 ++ (p2 ++ (p3 ++ (p4 ++ []))))), [], hW', ?_, ?_, ?_, hg.frame _, fun h => by cases h⟩
    · exact trodAll_mk1 (shut_bool Tryd.underlying4 true)
    · exact trodAll_below hg _ _ _ _ hread hAll (by simpa using hlt0)
    · rfl
  obtain ⟨a0, rfl, rfl, rfl, w0⟩ := open_string Tryd.underlying9 (hval 0 9 v0 rfl rfl) h0
  obtain ⟨a1, rfl, rfl, rfl, w1⟩ := open_string Tryd.underlying9 (hval 1 9 v1 rfl rfl) h1
  obtain ⟨l2, f2, hs2⟩ := open_strsAt (hval 2 22 v2 rfl rfl) h2
  obtain ⟨l3, f3, hs3⟩ := open_intsAt (hval 3 39 v3 rfl rfl) h3
  obtain ⟨a4, rfl, rfl, rfl, w4⟩ := open_int Tryd.underlying3 (hval 4 3 v4 rfl rfl) h4
  refine (mtells_walk a0 w0 a1 w1 v2 l2 f2 hs2 v3 l3 f3 hs3 a4 (w := W) (hasErr_of_laid hL)).mono fun e W' ⟨he, hg⟩ => ?_
  subst he
  exact ⟨_, rfl, fin W' hg⟩

theorem mixTells_met (os : Os) : laidMetH Tryd.prog Rows.mixTellsRow.laid (({ World.holding Tryd.prog os ⟨#[], #[], []⟩ with heap := (World.holding Tryd.prog os ⟨#[], #[], []⟩).heap.modify 0 fun | .cells _ t frozen => .cells #[.iface 84 (.agg #[.pointer (some ⟨2, 26, none⟩)])] t frozen | o => o } : World).forCall (fun _ _ => 0) ⟨#[], #[.string ByteArray.empty, .string ByteArray.empty, .slice none 0 0, .slice none 0 0, .int .i64 0], []⟩).memory :=
  laidMetH_of_parts (laidMet_nil _ _) (by kernel_rfl)
theorem mixTells_reads (os : Os) {H : Type} (enc : TypeId × Value → H) : ∃ places, DataW.whole enc Tryd.prog (({ World.holding Tryd.prog os ⟨#[], #[], []⟩ with heap := (World.holding Tryd.prog os ⟨#[], #[], []⟩).heap.modify 0 fun | .cells _ t frozen => .cells #[.iface 84 (.agg #[.pointer (some ⟨2, 26, none⟩)])] t frozen | o => o } : World).forCall (fun _ _ => 0) ⟨#[], #[.string ByteArray.empty, .string ByteArray.empty, .slice none 0 0, .slice none 0 0, .int .i64 0], []⟩).memory Tryd.f5.params.toList Rows.mixTellsSpec.vars false (#[.string ByteArray.empty, .string ByteArray.empty, .slice none 0 0, .slice none 0 0, .int .i64 0] : Array Value).toList 8 = some ([.lit (.string []), .lit (.string []), .nil, .nil, .lit (.int .i64 0)], [], places) :=
  ⟨[], by kernel_rfl⟩
set_option maxRecDepth 100000 in
theorem mixTells_lifted (os : Os) (started : os.Started) (H : Type) (enc : TypeId × Value → H) (F : Stop.Interp) :
    ReturnsInHanded {} Tryd.checked os 5 .any ((OpenSpec.ofChange Rows.mixTellsSpec).preRow enc Tryd.prog Tryd.f5 Rows.mixTellsRow.domain false Rows.mixTellsRow.laid) (((OpenSpec.ofChange Rows.mixTellsSpec).at F).post enc Tryd.prog Tryd.f5 false true false false) := by
  obtain ⟨places, hx⟩ := mixTells_reads os enc
  refine returnsInHanded_of_row (C := Tryd.checked) (s := OpenSpec.ofChange Rows.mixTellsSpec) own started (by kernel_rfl) Tryd.func5
    (witness_row_at (enc := enc) (C := Tryd.checked) false ({ World.holding Tryd.prog os ⟨#[], #[], []⟩ with heap := (World.holding Tryd.prog os ⟨#[], #[], []⟩).heap.modify 0 fun | .cells _ t frozen => .cells #[.iface 84 (.agg #[.pointer (some ⟨2, 26, none⟩)])] t frozen | o => o } : World) #[.string ByteArray.empty, .string ByteArray.empty, .slice none 0 0, .slice none 0 0, .int .i64 0] rfl (by kernel_rfl) (by kernel_rfl) (by kernel_rfl)
      (OpenSpec.preRow_of_cond 8 hx (by kernel_rfl) (fun k hk => by cases hk) (by kernel_rfl) (mixTells_met os))) ?_
  intro W base args ds gs before hval hW _ _ _ hL _ _
  exact mixTells_contract H enc W base args ds gs before hval hW hL

theorem mixTells_said : Rows.MixTellsSaid :=
  OpenClaim.holds_of_cond 5 Tryd.f5 rfl rfl rfl rfl rfl rfl rfl ⟨rfl, rfl, rfl, rfl, rfl⟩ rfl rfl rfl rfl rfl (by kernel_rfl) Tryd.func5 (by kernel_rfl)
    (of_decide_eq_true (by kernel_rfl)) (by unfold Func.isWrapper; first | (rw [if_pos (by decide +kernel)]; kernel_rfl) | (rw [if_neg (by decide +kernel)]; exact ⟨rfl, rfl⟩))
    (fun os started H enc _ F => by rw [OpenClaim.pre_eq_preRow]; exact mixTells_lifted os started H enc F)

theorem mixTells_plain (f : FuncId) (fn : Func) (hf : Tryd.pinned.checked.prog.funcNamed "dropletmill/droplaw1.MixTells" = some f) (hfn : Tryd.pinned.checked.prog.funcs[f]? = some fn) :
    true = Tryd.pinned.checked.prog.looks [] ∧ ∀ (j : Nat) t, fn.params[j]? = some t → Tryd.pinned.checked.prog.wantsStandIn t = false := by
  obtain rfl : f = 5 := Option.some.inj ((show Tryd.prog.funcNamed "dropletmill/droplaw1.MixTells" = some 5 by kernel_rfl).symm.trans hf) |>.symm
  obtain rfl : fn = Tryd.f5 := (Option.some.inj (Tryd.func5.symm.trans hfn)).symm
  refine ⟨by kernel_rfl, fun j t ht => ?_⟩
  rw [Tryd.params5] at ht
  have hm := Array.mem_of_getElem? ht
  simp only [List.mem_toArray, List.mem_cons, List.mem_nil_iff, or_false] at hm
  rcases hm with rfl | rfl | rfl | rfl | rfl
  · exact (show Tryd.prog.wantsStandIn 9 = false by kernel_rfl)
  · exact (show Tryd.prog.wantsStandIn 9 = false by kernel_rfl)
  · exact (show Tryd.prog.wantsStandIn 22 = false by kernel_rfl)
  · exact (show Tryd.prog.wantsStandIn 39 = false by kernel_rfl)
  · exact (show Tryd.prog.wantsStandIn 3 = false by kernel_rfl)

theorem mixTells_card : Rows.MixTellsCardSaid :=
  Claim7.holds_tied_plain_at .later [] _ _ _ _ mixTells_said (fun _ h => by cases h) (by kernel_rfl) (fun _ h => by cases h) mixTells_row_tie rfl ⟨rfl, rfl⟩ (by kernel_rfl) rfl mixTells_plain (by kernel_rfl)
#print axioms mixTells_card
end Go.Proofs.YtgdfoahpkiglhaaDoor
