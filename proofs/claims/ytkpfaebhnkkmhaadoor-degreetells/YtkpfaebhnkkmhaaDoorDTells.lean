/-
  Proved: 'dropletmill/droplaw1.DegreeTells' returns true whatever two numbers it is handed, and both read behind the call as they did; its row lists errors.errorType with what the program's text lays in it, and the card ties that to the text. No other conditions.
  The card speaks of the pruned copy of the project that holds the packages which this seat's roots load.
-/
import Derived.Test.YtkpfaebhnkkmhaaDoorErrIs
import Derived.Test.YtkpfaebhnkkmhaaDoorDeg
import Derived.Test.YtkpfaebhnkkmhaaDoorRDeg
import Derived.Test.YtkpfaebhnkkmhaaDoorInOwn
import Derived.Test.YtkpfaebhnkkmhaaDoorTop
import Derived.Test.YtkpfaebhnkkmhaaDoorCards
import Derived.Test.YtkpfaebhnkkmhaaDoorTie
import Derived.Deep.DeepHandedRow
import Derived.Deep.DeepCutAuto
namespace Go.Proofs.YtkpfaebhnkkmhaaDoor
open Go.ChangeShapes Go.WideShapes Go.ChangeAt Go.RowKit
open Go.ChangeMaps (open_string shut_string)
set_option linter.unusedVariables false
set_option maxRecDepth 100000

/-- What Of says, where the count of blocks is right: the fault's number, the degree. -/
def OfOk (n : Int) : Prop := 0 ≤ n ∧ n ≤ 999
instance (n : Int) : Decidable (OfOk n) := inferInstanceAs (Decidable (_ ∧ _))
def eOf (n : Int) : Int := if OfOk n then 0 else 1
def wOf (k : Nat) (n : Int) : Int := if OfOk n then (deg k n.toNat : Int) else 0
theorem of_any (k : Nat) (n : Int) (w : World) (hk : 1 ≤ k) (hk2 : k ≤ 16) : Calls Tryd.prog 5 #[.int .i64 k, .int .i64 n] w fun e w' => ∃ err, ErrIs (eOf n) err ∧ e = .returned (.tuple #[.int .i64 (wOf k n), err]) ∧ w = w' := by
  by_cases h : OfOk n
  · obtain ⟨h1, h2⟩ := id h
    obtain ⟨m, rfl⟩ := Int.eq_ofNat_of_zero_le h1
    exact (of_ok k m w hk hk2 (by omega)).mono fun e w' ⟨he, hw⟩ => ⟨_, Or.inl ⟨if_pos h, rfl⟩, by rw [he, wOf, if_pos h]; rfl, hw⟩
  · exact (of_range k n w (Or.inr (by unfold OfOk at h; omega))).mono fun e w' ⟨he, hw⟩ => ⟨_, Or.inr rfl, by rw [he, wOf, eOf, if_neg h, if_neg h], hw⟩
theorem times_in (k : Nat) (w : World) (hk : 1 ≤ k) (hk2 : k ≤ 16) : Calls Tryd.prog 7 #[.int .i64 k] w fun e w' => ∃ v, e = .returned (.tuple #[v, .nilIface]) ∧ IntsIn w' v k (fun i => (cnt k i 1000 : Int)) ∧ Below w.heap.size w w' :=
  (times_ok k w hk hk2).mono fun e w' ⟨he, hr, hb⟩ => ⟨_, he, Or.inr ⟨hk, _, 0, _, rfl, fun i hi => by rw [Nat.zero_add]; exact (hr i hi).1⟩, hb⟩

set_option maxHeartbeats 4000000 in
theorem dtells_not (k n : Int) (w : World) (hg : HasErr w) (h : k < 1 ∨ 16 < k) :
    Calls Tryd.prog 3 #[.int .i64 k, .int .i64 n] w fun e w' => e = .returned (.bool true) ∧ Below w.heap.size w w' := by
  have HG := hide hg
  have HGL := hide hg.lt
  have KO := hide (of_range k n · (Or.inl h))
  have KT := hide (times_range k · h)
  have HH := hide h
  clear hg h
  go_enter Tryd.func3, Tryd.ntmps3
  go_upto_region 3 with fail
  go_cut [22] (fun t wx => t = .bool true ∧ w = wx)
  case first =>
    by_cases h1 : k < 1
    · go_wp2
      go_meet
      exact ⟨rfl, rfl⟩
    · have h2 : 16 < k := by rcases HH.out with h | h <;> omega
      go_wp2
      go_meet
      exact ⟨by first | rfl | simp <;> omega, rfl⟩
  case rest =>
  obtain ⟨rfl, rfl⟩ := hcut
  go_upto_region 6 with fail
  go_cut [29] (fun t wx => ∃ r : Bool, t = .bool r ∧ w = wx)
  case first =>
    by_cases h1 : n < 0
    · go_wp2
      go_meet
      exact ⟨_, rfl, rfl⟩
    · by_cases h2 : 999 < n
      · go_wp2
        go_meet
        exact ⟨_, rfl, rfl⟩
      · go_wp2
        go_meet
        exact ⟨_, rfl, rfl⟩
  case rest =>
  obtain ⟨r, rfl, rfl⟩ := hcut
  go_upto_if 29 with fail
  go_cut [7] (fun f wx => f = .int .i64 1 ∧ w = wx)
  case first =>
    cases r with
    | true =>
      go_wp2
      go_meet
      exact ⟨rfl, rfl⟩
    | false =>
      go_wp2
      go_meet
      exact ⟨rfl, rfl⟩
  case rest =>
  obtain ⟨rfl, rfl⟩ := hcut
  go_wp2_with fail
  refine (KO.out _).mono ?_
  rintro e w1 ⟨rfl, rfl⟩
  have E1 := hide (error_right 1 _ w HG.out (Or.inr rfl))
  go_wp2_with fail
  refine (E1.out).mono ?_
  rintro e w1 ⟨rfl, b1⟩
  clear E1
  go_wp2
  go_loop [11, 12] (fun v i => v = .slice none 0 0 ∧ i = .int .i64 1) (fun _ _ => 0)
  case atStart => exact ⟨rfl, rfl⟩
  case round =>
    obtain ⟨rfl, rfl⟩ := hrel
    by_cases hk1 : 1 ≤ k
    · go_wp2_with fail
      refine (KT.out _).mono ?_
      rintro e w2 ⟨rfl, rfl⟩
      have E2 := hide (error_right 1 _ w1 (HG.out.below HGL.out b1) (Or.inr rfl))
      go_wp2_with fail
      refine (E2.out).mono ?_
      rintro e w2 ⟨rfl, b2⟩
      have S := hide (ints_none none none 0 0 w2)
      have b3 := below_two b1 b2
      go_wp2_with fail
      refine (S.out).mono ?_
      rintro e w3 ⟨rfl, b4⟩
      have b5 := below_two b3 b4
      go_wp2
      go_ret
      exact ⟨rfl, b5⟩
    · have hk0 : decide (1 ≤ k) = false := decide_eq_false hk1
      go_wp2_with fail
      refine (KT.out _).mono ?_
      rintro e w2 ⟨rfl, rfl⟩
      have E2 := hide (error_right 1 _ w1 (HG.out.below HGL.out b1) (Or.inr rfl))
      go_wp2_with fail
      refine (E2.out).mono ?_
      rintro e w2 ⟨rfl, b2⟩
      have S := hide (ints_none none none 0 0 w2)
      have b3 := below_two b1 b2
      go_wp2_with fail
      refine (S.out).mono ?_
      rintro e w3 ⟨rfl, b4⟩
      have b5 := below_two b3 b4
      go_wp2
      go_ret
      exact ⟨rfl, b5⟩

set_option maxHeartbeats 4000000 in
theorem dtells_ok (k : Nat) (n : Int) (w : World) (hg : HasErr w) (hk : 1 ≤ k) (hk2 : k ≤ 16) :
    Calls Tryd.prog 3 #[.int .i64 k, .int .i64 n] w fun e w' => e = .returned (.bool true) ∧ Below w.heap.size w w' := by
  have HG := hide hg
  have HGL := hide hg.lt
  have KO := hide (of_any k n · hk hk2)
  have KT := hide (times_in k · hk hk2)
  have KD := hide (rdeg k · · hk hk2 ·)
  obtain ⟨i0, hif, hz0, hzs, hzb⟩ := info_parts Tryd.infoInt
  have Hi := hide hif
  have Hz0 := hide hz0
  have Hzs := hide hzs
  have Hzb := hide hzb
  clear hg hif hz0 hzs hzb
  have hk0 : ¬ (k : Int) < 1 := by omega
  have hk3 : ¬ 16 < (k : Int) := by omega
  go_enter Tryd.func3, Tryd.ntmps3
  go_upto_region 6 with fail
  go_cut [29] (fun t wx => ∃ r : Bool, t = .bool r ∧ (r = true ↔ ¬ OfOk n) ∧ w = wx)
  case first =>
    by_cases h1 : n < 0
    · go_wp2
      go_meet
      exact ⟨true, rfl, ⟨fun _ => by unfold OfOk; omega, fun _ => rfl⟩, rfl⟩
    · by_cases h2 : 999 < n
      · go_wp2
        go_meet
        exact ⟨true, by first | rfl | simp <;> omega, ⟨fun _ => by unfold OfOk; omega, fun _ => rfl⟩, rfl⟩
      · go_wp2
        go_meet
        exact ⟨false, by first | rfl | simp <;> omega, ⟨fun h => Bool.noConfusion h, fun h => by unfold OfOk at h; omega⟩, rfl⟩
  case rest =>
  obtain ⟨r, rfl, hr, rfl⟩ := hcut
  have HR := hide hr
  clear hr
  go_upto_if 29 with fail
  go_cut [7] (fun f wx => f = .int .i64 (eOf n) ∧ w = wx)
  case first =>
    by_cases h : OfOk n
    · obtain rfl : r = false := by
        cases r with
        | false => rfl
        | true => exact absurd h (HR.out.1 rfl)
      have E := hide (show eOf n = 0 from if_pos h)
      clear h
      go_wp2
      go_meet
      exact ⟨by rw [E.out], rfl⟩
    · obtain rfl : r = true := HR.out.2 h
      have E := hide (show eOf n = 1 from if_neg h)
      clear h
      go_wp2
      go_meet
      exact ⟨by rw [E.out], rfl⟩
  case rest =>
  obtain ⟨rfl, rfl⟩ := hcut
  have HE : Hid ((OfOk n ∧ eOf n = 0 ∧ wOf k n = (deg k n.toNat : Int)) ∨ (¬ OfOk n ∧ eOf n = 1 ∧ wOf k n = 0)) := by
    by_cases h : OfOk n
    · exact Or.inl ⟨h, if_pos h, if_pos h⟩
    · exact Or.inr ⟨h, if_neg h, if_neg h⟩
  generalize eOf n = f0 at *
  go_upto_region 8 with fail
  go_cut [31] (fun t wx => ∃ q : Bool, t = .bool q ∧ (q = true ↔ f0 = 0) ∧ w = wx)
  case first =>
    go_wp2
    go_meet
    exact ⟨_, rfl, by simp, rfl⟩
  case rest =>
  obtain ⟨q, rfl, hq, rfl⟩ := hcut
  have HQ := hide hq
  clear hq
  go_upto_if 31 with fail
  go_cut [6] (fun t wx => t = .int .i64 (wOf k n) ∧ w = wx)
  case first =>
    rcases HE.out with ⟨h, h3, h4⟩ | ⟨h, h3, h4⟩
    · obtain rfl : q = true := HQ.out.2 h3
      obtain ⟨m, rfl⟩ := Int.eq_ofNat_of_zero_le h.1
      have K := hide (KD.out m w (by have := h.2; omega))
      have W := hide (show wOf k m = (deg k m : Int) from h4)
      clear h h3 h4
      go_wp2_with fail
      refine (K.out).mono ?_
      rintro e w1 ⟨rfl, rfl⟩
      go_wp2
      go_meet
      exact ⟨by rw [W.out], rfl⟩
    · obtain rfl : q = false := by
        cases q with
        | false => rfl
        | true => exact absurd (HQ.out.1 rfl) (by omega)
      have W := hide h4
      clear h h3 h4
      go_wp2
      go_meet
      exact ⟨by rw [W.out], rfl⟩
  case rest =>
  obtain ⟨rfl, rfl⟩ := hcut
  clear HE HQ HR
  generalize wOf k n = w0 at *
  go_wp2_with fail
  refine (KO.out _).mono ?_
  rintro e w1 ⟨err1, herr1, rfl, rfl⟩
  have E1 := hide (error_right f0 err1 w HG.out herr1)
  clear herr1 KO
  go_wp2_with fail
  refine (E1.out).mono ?_
  rintro e w1 ⟨rfl, b1⟩
  clear E1
  go_wp2
  go_loopw [11, 12] (fun v i wr => ∃ (j : Nat) (aA : Option Addr) (cA : Nat), j ≤ k ∧ i = .int .i64 ((j : Int) + 1) ∧ v = .slice aA j cA ∧ wr.ownsRow w1.heap.size 3 1 v j ((List.range j).map fun i : Nat => .int .i64 (cnt k i 1000 : Int)) ∧ Below w1.heap.size w1 wr) (fun _ i _ => k + 1 - (intOf i).toNat)
  case atStart => exact ⟨0, none, 0, Nat.zero_le _, rfl, rfl, World.ownsRow_nil _ _ _ _, Below.refl _ _⟩
  case round =>
    obtain ⟨j, aA, cA, hj, rfl, rfl, hA, hb⟩ := hrel
    have hbs := hb.size
    have HA := hide hA
    clear hA
    by_cases hlt : j < k
    · have hle : (j : Int) + 1 ≤ (k : Int) := by omega
      go_wp2
      go_loop [13, 14] (fun m i => ∃ c : Nat, c ≤ 1000 ∧ i = .int .i64 c ∧ m = .int .i64 (cnt k j c)) (fun _ i => 1000 - (intOf i).toNat)
      case atStart => exact ⟨0, Nat.zero_le _, rfl, rfl⟩
      case round =>
        obtain ⟨c, hc, rfl, rfl⟩ := hrel
        by_cases hlc : c < 1000
        · have K := hide (KD.out c wr hlc)
          have hcl := cnt_le k j c
          by_cases he : deg k c = j + 1
          · have HS : Hid (cnt k j (c + 1) = cnt k j c + 1) := by
              show cnt k j c + (if deg k c = j + 1 then 1 else 0) = _
              rw [if_pos he]
            have he2 : (deg k c : Int) = (j : Int) + 1 := by omega
            rw [he2] at K
            clear he he2
            generalize cnt k j c = x at *
            go_wp2_with fail
            refine (K.out).mono ?_
            rintro e w2 ⟨rfl, rfl⟩
            go_wp2
            go_round
            case rel => exact ⟨c + 1, by omega, by go_num, by rw [HS.out]; go_num⟩
            case measure => simp [intOf]; omega
          · have HS : Hid (cnt k j (c + 1) = cnt k j c) := by
              show cnt k j c + (if deg k c = j + 1 then 1 else 0) = _
              rw [if_neg he]; rfl
            have he2 : ((deg k c : Int) == (j : Int) + 1) = false := by
              rw [beq_eq_false_iff_ne]; omega
            clear he
            generalize (deg k c : Int) = y at *
            go_wp2_with fail
            refine (K.out).mono ?_
            rintro e w2 ⟨rfl, rfl⟩
            go_wp2
            go_round
            case rel => exact ⟨c + 1, by omega, by go_num, by rw [HS.out]⟩
            case measure => simp [intOf]; omega
        · obtain rfl : c = 1000 := by omega
          go_wp2_with (at_builtin; refine wpList_append_lies _ rfl _ _ 28 rfl w1.heap.size 3 i0 (.int .i64 0) 1 8 Tryd.underlying28 Hi.out Hz0.out Hzs.out Hzb.out rfl (by decide) _ _ _ rfl (HA.out.alloc _) ⟨wr.heap.size, 0, none⟩ 1 1 [.int .i64 (cnt k j 1000 : Int)] rfl rfl (cell_one_new _ _ _) (fun x hx => by simp at hx; subst hx; rfl) (by decide) (by unfold maxLen; omega) (by omega) (by simp; omega) _ rfl ?_; intro g3 cap3 w3 hown3 hgrow3 hat3 hlt3)
          go_roundw
          case rel =>
            have R : j + 1 ≤ k ∧ Value.int .i64 ((j : Int) + 1 + 1) = .int .i64 (((j + 1 : Nat) : Int) + 1) ∧ Value.slice (some ⟨g3, 0, none⟩) (j + 1) cap3 = .slice (some ⟨g3, 0, none⟩) (j + 1) cap3
                ∧ w3.ownsRow w1.heap.size 3 1 (.slice (some ⟨g3, 0, none⟩) (j + 1) cap3) (j + 1) ((List.range (j + 1)).map fun i : Nat => .int .i64 (cnt k i 1000 : Int)) ∧ Below w1.heap.size w1 w3 :=
              ⟨by omega, by simp, rfl, by rw [List.range_succ, List.map_append]; exact hown3, (hb.alloc hbs _).grown hgrow3 (by simp; omega) (fun q hq => (HA.out.lt q hq).1)⟩
            first
              | exact ⟨j + 1, some ⟨g3, 0, none⟩, cap3, R⟩
              | ((repeat apply Exists.intro); exact ⟨⟨j + 1, some ⟨g3, 0, none⟩, cap3, R⟩, rfl⟩)
          case measure => simp [intOf]; omega
    · obtain rfl : j = k := by omega
      have hle : ¬ (j : Int) + 1 ≤ (j : Int) := by omega
      have HI := hide (own_in (f := fun i => (cnt j i 1000 : Int)) HA.out)
      have b2 := below_two b1 hb
      clear HA b1 hb
      go_wp2_with fail
      refine (KT.out _).mono ?_
      rintro e w2 ⟨v2, rfl, hI2, hb2⟩
      have b3 := below_two b2 hb2
      have E2 := hide (error_right 0 .nilIface w2 (HG.out.below HGL.out b3) (Or.inl ⟨rfl, rfl⟩))
      have HI' := hide (HI.out.below hb2)
      have HI2 := hide hI2
      clear KT hI2 hb2 b2
      go_wp2_with fail
      refine (E2.out).mono ?_
      rintro e w3 ⟨rfl, hb3⟩
      have S := hide (ints_same (by omega) (HI2.out.below hb3) (HI'.out.below hb3))
      have b4 := below_two b3 hb3
      clear hb3 E2 b3
      go_wp2_with fail
      refine (S.out).mono ?_
      rintro e w4 ⟨rfl, hb4⟩
      have b5 := below_two b4 hb4
      clear hb4 b4 S
      go_wp2
      go_ret
      exact ⟨rfl, b5⟩

theorem dtells_walk (k n : Int) (w : World) (hg : HasErr w) :
    Calls Tryd.prog 3 #[.int .i64 k, .int .i64 n] w fun e w' => e = .returned (.bool true) ∧ Below w.heap.size w w' := by
  by_cases h : k < 1 ∨ 16 < k
  · exact dtells_not k n w hg h
  · obtain ⟨k, rfl⟩ := Int.eq_ofNat_of_zero_le (show 0 ≤ k by omega)
    exact dtells_ok k n w hg (by omega) (by omega)

set_option maxRecDepth 100000 in
theorem degreeTells_contract (H : Type) (enc : TypeId × Value → H) (W : World) (base : Nat) (args : Array Value) (ds gs : List (DataW H)) (before : List MemPlace)
    (hval : ∀ (j : Nat) t v, Tryd.f3.params[j]? = some t → args[j]? = some v → Value.okWide Tryd.prog W .any base t v)
    (hW : DataW.Whole enc Tryd.prog Tryd.f3.params.toList Rows.degreeTellsSpec.vars false W args.toList ds gs before) (hL : laidMetH Tryd.prog Rows.degreeTellsRow.laid W) :
    Calls Tryd.prog 3 args W fun e W' => ∃ v, e = .returned v ∧ Rows.degreeTellsSpec.post enc Tryd.prog Tryd.f3 false true false false W args v W' := by
  have hW' := hW
  have hlt0 := hW.lt
  obtain ⟨p, q, hA0, hV, rfl, hfz, hnd⟩ := hW
  have hA : DataW.TrodAll enc Tryd.prog W 0 (fun _ => true) true Tryd.f3.params.toList args.toList ds p := hA0
  rw [Tryd.params3] at hA hval
  have hAll := hA
  have hread : ∀ t ∈ [3, 3], Tryd.prog.readableRec t = true ∧ t < Tryd.prog.types.size := by
    intro t ht
    simp only [List.mem_cons, List.not_mem_nil, or_false] at ht
    rcases ht with rfl | rfl <;> exact ⟨by kernel_rfl, of_decide_eq_true (by kernel_rfl)⟩
  obtain ⟨v0, vs0, d0, ds0, p0, q0, hargs, rfl, rfl, h0, r0⟩ := trodAll_cons hA
  obtain ⟨v1, vs1, d1, ds1, p1, q1, rfl, rfl, rfl, h1, r1⟩ := trodAll_cons r0
  obtain ⟨rfl, rfl, rfl⟩ := trodAll_nil r1
  obtain rfl : args = #[v0, v1] := by cases args; simp_all
  obtain ⟨rfl, rfl⟩ := trodVars_none hV
  simp only [List.append_nil] at hW' hlt0
  have fin : ∀ W' : World, Below W.heap.size W W' → Rows.degreeTellsSpec.post enc Tryd.prog Tryd.f3 false true false false W #[v0, v1] (.bool true) W' := by
    intro W' hg
    refine ⟨_, _, _, [], (p0 ++ (p1 ++ [])), [], hW', ?_, ?_, ?_, hg.frame _, fun h => by cases h⟩
    · exact trodAll_mk1 (shut_bool Tryd.underlying4 true)
    · exact trodAll_below hg _ _ _ _ hread hAll (by simpa using hlt0)
    · rfl
  obtain ⟨a0, rfl, rfl, rfl, w0⟩ := open_int Tryd.underlying3 (hval 0 3 v0 rfl rfl) h0
  obtain ⟨a1, rfl, rfl, rfl, w1⟩ := open_int Tryd.underlying3 (hval 1 3 v1 rfl rfl) h1
  refine (dtells_walk a0 a1 W (hasErr_of_laid hL)).mono fun e W' ⟨he, hg⟩ => ?_
  subst he
  exact ⟨_, rfl, fin W' hg⟩

theorem degreeTells_met (os : Os) : laidMetH Tryd.prog Rows.degreeTellsRow.laid (({ World.holding Tryd.prog os ⟨#[], #[], []⟩ with heap := (World.holding Tryd.prog os ⟨#[], #[], []⟩).heap.modify 0 fun | .cells _ t frozen => .cells #[.iface 52 (.agg #[.pointer (some ⟨1, 24, none⟩)])] t frozen | o => o } : World).forCall (fun _ _ => 0) ⟨#[], #[.int .i64 0, .int .i64 0], []⟩).memory :=
  laidMetH_of_parts (laidMet_nil _ _) (by kernel_rfl)
theorem degreeTells_reads (os : Os) {H : Type} (enc : TypeId × Value → H) : ∃ places, DataW.whole enc Tryd.prog (({ World.holding Tryd.prog os ⟨#[], #[], []⟩ with heap := (World.holding Tryd.prog os ⟨#[], #[], []⟩).heap.modify 0 fun | .cells _ t frozen => .cells #[.iface 52 (.agg #[.pointer (some ⟨1, 24, none⟩)])] t frozen | o => o } : World).forCall (fun _ _ => 0) ⟨#[], #[.int .i64 0, .int .i64 0], []⟩).memory Tryd.f3.params.toList Rows.degreeTellsSpec.vars false (#[.int .i64 0, .int .i64 0] : Array Value).toList 8 = some ([.lit (.int .i64 0), .lit (.int .i64 0)], [], places) :=
  ⟨[], by kernel_rfl⟩
set_option maxRecDepth 100000 in
theorem degreeTells_lifted (os : Os) (started : os.Started) (H : Type) (enc : TypeId × Value → H) (F : Stop.Interp) :
    ReturnsInHanded {} Tryd.checked os 3 .any ((OpenSpec.ofChange Rows.degreeTellsSpec).preRow enc Tryd.prog Tryd.f3 Rows.degreeTellsRow.domain false Rows.degreeTellsRow.laid) (((OpenSpec.ofChange Rows.degreeTellsSpec).at F).post enc Tryd.prog Tryd.f3 false true false false) := by
  obtain ⟨places, hx⟩ := degreeTells_reads os enc
  refine returnsInHanded_of_row (C := Tryd.checked) (s := OpenSpec.ofChange Rows.degreeTellsSpec) own started (by kernel_rfl) Tryd.func3
    (witness_row_at (enc := enc) (C := Tryd.checked) false ({ World.holding Tryd.prog os ⟨#[], #[], []⟩ with heap := (World.holding Tryd.prog os ⟨#[], #[], []⟩).heap.modify 0 fun | .cells _ t frozen => .cells #[.iface 52 (.agg #[.pointer (some ⟨1, 24, none⟩)])] t frozen | o => o } : World) #[.int .i64 0, .int .i64 0] rfl (by kernel_rfl) (by kernel_rfl) (by kernel_rfl)
      (OpenSpec.preRow_of_cond 8 hx (by kernel_rfl) (fun k hk => by cases hk) (by kernel_rfl) (degreeTells_met os))) ?_
  intro W base args ds gs before hval hW _ _ _ hL _ _
  exact degreeTells_contract H enc W base args ds gs before hval hW hL

theorem degreeTells_said : Rows.DegreeTellsSaid :=
  OpenClaim.holds_of_cond 3 Tryd.f3 rfl rfl rfl rfl rfl rfl rfl ⟨rfl, rfl, rfl, rfl, rfl⟩ rfl rfl rfl rfl rfl (by kernel_rfl) Tryd.func3 (by kernel_rfl)
    (of_decide_eq_true (by kernel_rfl)) (by unfold Func.isWrapper; first | (rw [if_pos (by decide +kernel)]; kernel_rfl) | (rw [if_neg (by decide +kernel)]; exact ⟨rfl, rfl⟩))
    (fun os started H enc _ F => by rw [OpenClaim.pre_eq_preRow]; exact degreeTells_lifted os started H enc F)

theorem degreeTells_plain (f : FuncId) (fn : Func) (hf : Tryd.pinned.checked.prog.funcNamed "dropletmill/droplaw1.DegreeTells" = some f) (hfn : Tryd.pinned.checked.prog.funcs[f]? = some fn) :
    true = Tryd.pinned.checked.prog.looks [] ∧ ∀ (j : Nat) t, fn.params[j]? = some t → Tryd.pinned.checked.prog.wantsStandIn t = false := by
  obtain rfl : f = 3 := Option.some.inj ((show Tryd.prog.funcNamed "dropletmill/droplaw1.DegreeTells" = some 3 by kernel_rfl).symm.trans hf) |>.symm
  obtain rfl : fn = Tryd.f3 := (Option.some.inj (Tryd.func3.symm.trans hfn)).symm
  refine ⟨by kernel_rfl, fun j t ht => ?_⟩
  rw [Tryd.params3] at ht
  have hm := Array.mem_of_getElem? ht
  simp only [List.mem_toArray, List.mem_cons, List.mem_nil_iff, or_false] at hm
  rcases hm with rfl | rfl
  · exact (show Tryd.prog.wantsStandIn 3 = false by kernel_rfl)
  · exact (show Tryd.prog.wantsStandIn 3 = false by kernel_rfl)

theorem degreeTells_card : Rows.DegreeTellsCardSaid :=
  Claim7.holds_tied_plain_at .later [] _ _ _ _ degreeTells_said (fun _ h => by cases h) (by kernel_rfl) (fun _ h => by cases h) degreeTells_row_tie rfl ⟨rfl, rfl⟩ (by kernel_rfl) rfl degreeTells_plain (by kernel_rfl)
#print axioms degreeTells_card
end Go.Proofs.YtkpfaebhnkkmhaaDoor
