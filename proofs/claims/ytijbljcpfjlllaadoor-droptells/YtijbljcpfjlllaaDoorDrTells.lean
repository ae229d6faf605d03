/-
  Proved: 'dropletmill/droplaw1.DropTells' returns true whatever two numbers, slice of strings, number and Drop it is handed, and all read behind the call as they did; its row lists errors.errorType with what the program's text lays
  The card speaks of the pruned copy of the project that holds the packages which this seat's roots load.
-/
import Derived.Test.YtijbljcpfjlllaaDoorDropA
import Derived.Test.YtijbljcpfjlllaaDoorTop
import Derived.Test.YtijbljcpfjlllaaDoorCards
import Derived.Test.YtijbljcpfjlllaaDoorTie
import Derived.Deep.DeepHandedRow
import Derived.Deep.DeepCutAuto
import Derived.Lib.SmallJoins
namespace Go.Proofs.YtijbljcpfjlllaaDoor
open Go.ChangeShapes Go.WideShapes Go.ChangeAt Go.RowKit Go.Joins
open Go.ChangeMaps (open_string shut_string)
set_option linter.unusedVariables false
set_option maxRecDepth 100000

theorem DropIn.set {w : World} {b : Nat} {n : Int} {d : ByteArray} (h : DropIn w b n d) (seed : Int) (s : ByteArray) : DropIn ((w.setCell ⟨b, 0, none⟩ (.int .i64 seed)).setCell ⟨b, 1, none⟩ (.string s)) b seed s := by
  obtain ⟨⟨c0, f0⟩, c1, f1⟩ := h
  have c1' : (w.setCell ⟨b, 0, none⟩ (.int .i64 seed)).cell? ⟨b, 1, none⟩ = some (.string d) := by
    rw [World.cell?_setCell_other _ _ _ _ (fun h => by injection h with _ h2 _; cases h2)]; exact c1
  refine ⟨⟨?_, ?_⟩, ?_, ?_⟩
  · rw [World.cell?_setCell_other _ _ _ _ (fun h => by injection h with _ h2 _; cases h2), World.cell?_setCell_same _ _ _ c0]
  · rw [World.frozen?_setCell, World.frozen?_setCell]; exact f0
  · exact World.cell?_setCell_same _ _ _ c1'
  · rw [World.frozen?_setCell, World.frozen?_setCell]; exact f1

theorem DropIn.set_far {w : World} {b b' : Nat} {n : Int} {d : ByteArray} (h : DropIn w b n d) (hne : b ≠ b') (seed : Int) (s : ByteArray) : DropIn ((w.setCell ⟨b', 0, none⟩ (.int .i64 seed)).setCell ⟨b', 1, none⟩ (.string s)) b n d := by
  obtain ⟨⟨c0, f0⟩, c1, f1⟩ := h
  have o : ∀ (i j : Nat), (⟨b', i, none⟩ : Addr) ≠ ⟨b, j, none⟩ := fun i j h => hne (by injection h with h1 _ _; exact h1.symm)
  refine ⟨⟨?_, ?_⟩, ?_, ?_⟩
  · rw [World.cell?_setCell_other _ _ _ _ (o 1 0), World.cell?_setCell_other _ _ _ _ (o 0 0)]; exact c0
  · rw [World.frozen?_setCell, World.frozen?_setCell]; exact f0
  · rw [World.cell?_setCell_other _ _ _ _ (o 1 _), World.cell?_setCell_other _ _ _ _ (o 0 _)]; exact c1
  · rw [World.frozen?_setCell, World.frozen?_setCell]; exact f1

set_option maxHeartbeats 4000000 in
theorem drtells_walk {w : World} (k seed : Int) (v : Value) (len : Nat) (g : Nat → ByteArray) (hv : StrsAt w v len g) (size ds : Int) (dd : ByteArray) (hg : HasErr w) :
    Calls Tryd.prog 3 #[.int .i64 k, .int .i64 seed, v, .int .i64 size, dropV ds dd] w fun e w' => e = .returned (.bool true) ∧ Below w.heap.size w w' := by
  have HG := hide hg
  have HGL := hide hg.lt
  have KS := hide (set_any k seed)
  have HV := hide (blk_ways hv)
  have hb0 : Below w.heap.size w (w.alloc (.cells #[.int .i64 ds, .string dd] 24)) := (Below.refl _ _).alloc (Nat.le_refl _) _
  have HB0 := hide hb0
  have HD0 := hide (dropIn_new w ds dd)
  clear hg hv hb0
  unfold dropV
  go_enter Tryd.func3, Tryd.ntmps3
  go_upto_region 3 with fail
  generalize w.alloc (.cells #[.int .i64 ds, .string dd] 24) = w0 at *
  go_cut [33] (fun t wx => ∃ r : Bool, t = .bool r ∧ (r = true ↔ ¬ OkS k seed) ∧ w0 = wx)
  case first =>
    by_cases h1 : k < 1
    · go_wp2
      go_meet
      exact ⟨true, rfl, ⟨fun _ => by unfold OkS; omega, fun _ => rfl⟩, rfl⟩
    · by_cases h2 : 16 < k
      · go_wp2
        go_meet
        exact ⟨true, by first | rfl | simp <;> omega, ⟨fun _ => by unfold OkS; omega, fun _ => rfl⟩, rfl⟩
      · by_cases h3 : seed < 1
        · go_wp2
          go_meet
          exact ⟨true, by first | rfl | simp <;> omega, ⟨fun _ => by unfold OkS; omega, fun _ => rfl⟩, rfl⟩
        · by_cases h4 : 10000 < seed
          · go_wp2
            go_meet
            exact ⟨true, by first | rfl | simp <;> omega, ⟨fun _ => by unfold OkS; omega, fun _ => rfl⟩, rfl⟩
          · go_wp2
            go_meet
            exact ⟨false, by first | rfl | simp <;> omega, ⟨fun h => Bool.noConfusion h, fun h => by unfold OkS at h; omega⟩, rfl⟩
  case rest =>
  obtain ⟨r, rfl, hr, rfl⟩ := hcut
  have HR := hide hr
  clear hr
  go_upto_if 33 with fail
  go_cut [11, 12] (fun e want wx => e = .int .i64 (eS k seed) ∧ IntsIn wx want (lS k seed).length (fun i => (((lS k seed).getD i 0 : Nat) : Int)) ∧ Below w0.heap.size w0 wx)
  case first =>
    by_cases h : OkS k seed
    · obtain rfl : r = false := by
        cases r with
        | false => rfl
        | true => exact absurd h (HR.out.1 rfl)
      obtain ⟨⟨h1, h2⟩, h3, h4⟩ := id h
      have HE := hide (show eS k seed = 0 from if_pos h)
      have HLS := hide (show lS k seed = setL k.toNat seed.toNat from if_pos h)
      obtain ⟨a, rfl⟩ := Int.eq_ofNat_of_zero_le (show 0 ≤ k by omega)
      obtain ⟨b, rfl⟩ := Int.eq_ofNat_of_zero_le (show 0 ≤ seed by omega)
      have K := hide (rset_ok a b w0 (by omega) (by omega) (by omega) (by omega))
      clear h
      go_wp2_with fail
      refine (K.out).mono ?_
      rintro e w1 ⟨vs, rfl, hl, hb1⟩
      have HI := hide hl.ints
      have HB1 := hide hb1
      clear hl hb1
      go_wp2
      go_meet
      refine ⟨by rw [HE.out], ?_, HB1.out⟩
      rw [HLS.out]
      exact HI.out
    · obtain rfl : r = true := HR.out.2 h
      have HE := hide (show eS k seed = 1 from if_neg h)
      have HLS := hide (show lS k seed = [] from if_neg h)
      clear h
      go_wp2
      go_meet
      refine ⟨by rw [HE.out], ?_, Below.refl _ _⟩
      rw [HLS.out]
      exact Or.inl ⟨rfl, _, _, rfl⟩
  case rest =>
  obtain ⟨rfl, hI1, hb1⟩ := hcut
  have HI1 := hide hI1
  have HB1 := hide (below_two HB0.out hb1)
  have HD1 := hide (HD0.out.below hb1)
  have hl16 := lS_len k seed
  clear hI1 hb1 HR HB0 HD0
  generalize eS k seed = e1 at *
  generalize lS k seed = l1 at *
  go_wp2_with fail
  refine (KS.out _).mono ?_
  rintro e w2 ⟨v2, err1, rfl, herr1, hI2, hb2⟩
  have HB2 := hide (below_two HB1.out hb2)
  have HD2 := hide (HD1.out.below hb2)
  have E1 := hide (error_right e1 err1 w2 (HG.out.below HGL.out HB2.out) herr1)
  have HI1' := hide (HI1.out.below hb2)
  have HI2 := hide hI2
  clear herr1 KS hI2 hb2 HI1 HB1 HD1
  go_wp2_with fail
  refine (E1.out).mono ?_
  rintro e w3 ⟨rfl, hb3⟩
  have S := hide (ints_same (by omega) (HI2.out.below hb3) (HI1'.out.below hb3))
  have HB3 := hide (below_two HB2.out hb3)
  have HD3 := hide (HD2.out.below hb3)
  clear hb3 E1 HB2 HD2 HI1' HI2
  go_wp2_with fail
  refine (S.out).mono ?_
  rintro e w4 ⟨rfl, hb4⟩
  have HB4 := hide (below_two HB3.out hb4)
  have HD4 := hide (HD3.out.below hb4)
  clear hb4 S HB3 HD3
  rcases HV.out with ⟨x, hx1, hC, hRB⟩ | ⟨b, o, cap, hvv, hlc, hcm, hBk⟩
  · have RB := hide (hRB w4 HB4.out)
    have HC := hide hC
    have hx0 : (x == 0) = false := by rw [beq_eq_false_iff_ne]; omega
    clear hC hRB HV hx1
    go_wp2_with fail
    refine (RB.out).mono ?_
    rintro e wb ⟨rfl, hbb⟩
    have HBb := hide (below_two HB4.out hbb)
    have HDb := hide (HD4.out.below hbb)
    clear hbb RB
    have hbm : Below wb.heap.size wb (wb.alloc (.cells #[.int .i64 0, .string ⟨#[]⟩] 24)) := (Below.refl _ _).alloc (Nat.le_refl _) _
    have HM : Hid (DropIn (wb.alloc (.cells #[.int .i64 0, .string ⟨#[]⟩] 24)) wb.heap.size 0 ⟨#[]⟩) := dropIn_new wb 0 ⟨#[]⟩
    have HD := hide (HDb.out.below hbm)
    have HBm := hide (below_two HBb.out hbm)
    have M : Hid (Calls Tryd.prog 10 #[_, .int .i64 seed] (wb.alloc (.cells #[.int .i64 0, .string ⟨#[]⟩] 24)) fun e w' => ∃ err, e = .returned (.tuple #[dropV 0 ⟨#[]⟩, err]) ∧ ErrIs x err ∧ Below (wb.alloc (.cells #[.int .i64 0, .string ⟨#[]⟩] 24)).heap.size (wb.alloc (.cells #[.int .i64 0, .string ⟨#[]⟩] 24)) w') :=
      (make_check v seed _ x (fun w2 hb2 => HC.out w2 (below_two HBm.out hb2))).mono fun e w' ⟨he, hb⟩ => ⟨_, he, Or.inr rfl, hb⟩
    clear hbm HDb HBb
    go_wp2_with fail
    refine (M.out).mono ?_
    rintro e w5 ⟨err2, rfl, herr2, hb5⟩
    have hb6 : Below (wb.alloc (.cells #[.int .i64 0, .string ⟨#[]⟩] 24)).heap.size (wb.alloc (.cells #[.int .i64 0, .string ⟨#[]⟩] 24)) (w5.alloc (.cells #[.int .i64 0, .string ⟨#[]⟩] 24)) := hb5.alloc hb5.size _
    have HM6 := hide (HM.out.below hb6)
    have HD6 := hide (HD.out.below hb6)
    have HY6 := hide (dropIn_new w5 0 ⟨#[]⟩)
    have HB6 := hide (below_two HBm.out hb6)
    have E2 := hide (error_right x err2 _ (HG.out.below HGL.out HB6.out) herr2)
    clear hb5 hb6 herr2 M
    unfold dropV
    go_wp2_with fail
    refine (E2.out).mono ?_
    rintro e w7 ⟨rfl, hb7⟩
    obtain ⟨⟨m0, _⟩, m1, _⟩ := HM6.out.below hb7
    obtain ⟨⟨y0, _⟩, y1, _⟩ := HY6.out.below hb7
    have HD7 := hide (HD6.out.below hb7)
    obtain ⟨⟨z0, _⟩, z1, _⟩ := HD7.out
    have HB7 := hide (below_two HB6.out hb7)
    simp only [Nat.zero_add] at m1 y1 z1
    have RD := hide (rdrop_any k size ds dd w7)
    clear hb7 E2 HM6 HY6
    go_wp2_with fail
    refine (RD.out).mono ?_
    rintro e w8 ⟨rfl, hb8⟩
    clear m0 m1 y0 y1 z0 z1
    obtain ⟨⟨z0, _⟩, z1, _⟩ := HD7.out.below hb8
    have HB8 := hide (below_two HB7.out hb8)
    simp only [Nat.zero_add] at z1
    have DC := hide (dcheck_any k size ds dd w8)
    clear hb8 RD
    go_wp2_with fail
    refine (DC.out).mono ?_
    rintro e w9 ⟨err3, rfl, herr3, hb9⟩
    have HB9 := hide (below_two HB8.out hb9)
    have E3 := hide (error_right _ err3 w9 (HG.out.below HGL.out HB9.out) herr3)
    clear hb9 herr3 DC z0 z1
    generalize fD k size ds dd.size = f3 at *
    go_wp2_with fail
    refine (E3.out).mono ?_
    rintro e w10 ⟨rfl, hb10⟩
    have HB10 := hide (below_two HB9.out hb10)
    clear hb10 E3
    go_wp2
    go_ret
    exact ⟨rfl, HB10.out⟩
  · subst hvv
    have RB := hide (rblocks_ok b o len cap g w4 hBk.pos hBk.most (hBk.below HB4.out).cells hBk.one hBk.eight hBk.same)
    have HBk := hide hBk
    have h16 := hBk.most
    have h0 := hBk.pos
    unfold maxLen at hcm
    clear HV hBk
    go_wp2_with fail
    refine (RB.out).mono ?_
    rintro e wb ⟨rfl, hbb⟩
    have HBb := hide (below_two HB4.out hbb)
    have HDb := hide (HD4.out.below hbb)
    clear hbb RB
    by_cases hs1 : seed < 1
    · have hbm : Below wb.heap.size wb (wb.alloc (.cells #[.int .i64 0, .string ⟨#[]⟩] 24)) := (Below.refl _ _).alloc (Nat.le_refl _) _
      have HM : Hid (DropIn (wb.alloc (.cells #[.int .i64 0, .string ⟨#[]⟩] 24)) wb.heap.size 0 ⟨#[]⟩) := dropIn_new wb 0 ⟨#[]⟩
      have HD := hide (HDb.out.below hbm)
      have HBm := hide (below_two HBb.out hbm)
      have M : Hid (Calls Tryd.prog 10 #[_, .int .i64 seed] (wb.alloc (.cells #[.int .i64 0, .string ⟨#[]⟩] 24)) fun e w' => ∃ err, e = .returned (.tuple #[dropV 0 ⟨#[]⟩, err]) ∧ ErrIs 1 err ∧ Below (wb.alloc (.cells #[.int .i64 0, .string ⟨#[]⟩] 24)).heap.size (wb.alloc (.cells #[.int .i64 0, .string ⟨#[]⟩] 24)) w') :=
        (make_seed b o len cap g seed _ HBk.out.pos HBk.out.most (HBk.out.below HBm.out).cells HBk.out.one HBk.out.eight HBk.out.same (by omega)).mono fun e w' ⟨he, hb⟩ => ⟨_, he, Or.inr rfl, hb⟩
      clear hbm HDb HBb
      go_wp2_with fail
      refine (M.out).mono ?_
      rintro e w5 ⟨err2, rfl, herr2, hb5⟩
      have hb6 : Below (wb.alloc (.cells #[.int .i64 0, .string ⟨#[]⟩] 24)).heap.size (wb.alloc (.cells #[.int .i64 0, .string ⟨#[]⟩] 24)) (w5.alloc (.cells #[.int .i64 0, .string ⟨#[]⟩] 24)) := hb5.alloc hb5.size _
      have HM6 := hide (HM.out.below hb6)
      have HD6 := hide (HD.out.below hb6)
      have HY6 := hide (dropIn_new w5 0 ⟨#[]⟩)
      have HB6 := hide (below_two HBm.out hb6)
      have E2 := hide (error_right 1 err2 _ (HG.out.below HGL.out HB6.out) herr2)
      clear hb5 hb6 herr2 M
      unfold dropV
      go_wp2_with fail
      refine (E2.out).mono ?_
      rintro e w7 ⟨rfl, hb7⟩
      obtain ⟨⟨m0, _⟩, m1, _⟩ := HM6.out.below hb7
      obtain ⟨⟨y0, _⟩, y1, _⟩ := HY6.out.below hb7
      have HD7 := hide (HD6.out.below hb7)
      obtain ⟨⟨z0, _⟩, z1, _⟩ := HD7.out
      have HB7 := hide (below_two HB6.out hb7)
      simp only [Nat.zero_add] at m1 y1 z1
      have RD := hide (rdrop_any k size ds dd w7)
      clear hb7 E2 HM6 HY6
      go_wp2_with fail
      refine (RD.out).mono ?_
      rintro e w8 ⟨rfl, hb8⟩
      clear m0 m1 y0 y1 z0 z1
      obtain ⟨⟨z0, _⟩, z1, _⟩ := HD7.out.below hb8
      have HB8 := hide (below_two HB7.out hb8)
      simp only [Nat.zero_add] at z1
      have DC := hide (dcheck_any k size ds dd w8)
      clear hb8 RD
      go_wp2_with fail
      refine (DC.out).mono ?_
      rintro e w9 ⟨err3, rfl, herr3, hb9⟩
      have HB9 := hide (below_two HB8.out hb9)
      have E3 := hide (error_right _ err3 w9 (HG.out.below HGL.out HB9.out) herr3)
      clear hb9 herr3 DC z0 z1
      generalize fD k size ds dd.size = f3 at *
      go_wp2_with fail
      refine (E3.out).mono ?_
      rintro e w10 ⟨rfl, hb10⟩
      have HB10 := hide (below_two HB9.out hb10)
      clear hb10 E3
      go_wp2
      go_ret
      exact ⟨rfl, HB10.out⟩
    · by_cases hs2 : 10000 < seed
      · have hbm : Below wb.heap.size wb (wb.alloc (.cells #[.int .i64 0, .string ⟨#[]⟩] 24)) := (Below.refl _ _).alloc (Nat.le_refl _) _
        have HM : Hid (DropIn (wb.alloc (.cells #[.int .i64 0, .string ⟨#[]⟩] 24)) wb.heap.size 0 ⟨#[]⟩) := dropIn_new wb 0 ⟨#[]⟩
        have HD := hide (HDb.out.below hbm)
        have HBm := hide (below_two HBb.out hbm)
        have M : Hid (Calls Tryd.prog 10 #[_, .int .i64 seed] (wb.alloc (.cells #[.int .i64 0, .string ⟨#[]⟩] 24)) fun e w' => ∃ err, e = .returned (.tuple #[dropV 0 ⟨#[]⟩, err]) ∧ ErrIs 1 err ∧ Below (wb.alloc (.cells #[.int .i64 0, .string ⟨#[]⟩] 24)).heap.size (wb.alloc (.cells #[.int .i64 0, .string ⟨#[]⟩] 24)) w') :=
          (make_seed b o len cap g seed _ HBk.out.pos HBk.out.most (HBk.out.below HBm.out).cells HBk.out.one HBk.out.eight HBk.out.same (by omega)).mono fun e w' ⟨he, hb⟩ => ⟨_, he, Or.inr rfl, hb⟩
        clear hbm HDb HBb
        go_wp2_with fail
        refine (M.out).mono ?_
        rintro e w5 ⟨err2, rfl, herr2, hb5⟩
        have hb6 : Below (wb.alloc (.cells #[.int .i64 0, .string ⟨#[]⟩] 24)).heap.size (wb.alloc (.cells #[.int .i64 0, .string ⟨#[]⟩] 24)) (w5.alloc (.cells #[.int .i64 0, .string ⟨#[]⟩] 24)) := hb5.alloc hb5.size _
        have HM6 := hide (HM.out.below hb6)
        have HD6 := hide (HD.out.below hb6)
        have HY6 := hide (dropIn_new w5 0 ⟨#[]⟩)
        have HB6 := hide (below_two HBm.out hb6)
        have E2 := hide (error_right 1 err2 _ (HG.out.below HGL.out HB6.out) herr2)
        clear hb5 hb6 herr2 M
        unfold dropV
        go_wp2_with fail
        refine (E2.out).mono ?_
        rintro e w7 ⟨rfl, hb7⟩
        obtain ⟨⟨m0, _⟩, m1, _⟩ := HM6.out.below hb7
        obtain ⟨⟨y0, _⟩, y1, _⟩ := HY6.out.below hb7
        have HD7 := hide (HD6.out.below hb7)
        obtain ⟨⟨z0, _⟩, z1, _⟩ := HD7.out
        have HB7 := hide (below_two HB6.out hb7)
        simp only [Nat.zero_add] at m1 y1 z1
        have RD := hide (rdrop_any k size ds dd w7)
        clear hb7 E2 HM6 HY6
        go_wp2_with fail
        refine (RD.out).mono ?_
        rintro e w8 ⟨rfl, hb8⟩
        clear m0 m1 y0 y1 z0 z1
        obtain ⟨⟨z0, _⟩, z1, _⟩ := HD7.out.below hb8
        have HB8 := hide (below_two HB7.out hb8)
        simp only [Nat.zero_add] at z1
        have DC := hide (dcheck_any k size ds dd w8)
        clear hb8 RD
        go_wp2_with fail
        refine (DC.out).mono ?_
        rintro e w9 ⟨err3, rfl, herr3, hb9⟩
        have HB9 := hide (below_two HB8.out hb9)
        have E3 := hide (error_right _ err3 w9 (HG.out.below HGL.out HB9.out) herr3)
        clear hb9 herr3 DC z0 z1
        generalize fD k size ds dd.size = f3 at *
        go_wp2_with fail
        refine (E3.out).mono ?_
        rintro e w10 ⟨rfl, hb10⟩
        have HB10 := hide (below_two HB9.out hb10)
        clear hb10 E3
        go_wp2
        go_ret
        exact ⟨rfl, HB10.out⟩
      · obtain ⟨n, rfl⟩ := Int.eq_ofNat_of_zero_le (show 0 ≤ seed by omega)
        have hn1 : 1 ≤ n := by omega
        have hn2 : n ≤ 10000 := by omega
        have hbm : Below wb.heap.size wb (wb.alloc (.cells #[.int .i64 0, .string ⟨#[]⟩] 24)) := (Below.refl _ _).alloc (Nat.le_refl _) _
        have HM0 := hide (dropIn_new wb 0 ⟨#[]⟩)
        have HDm := hide (HDb.out.below hbm)
        have HBn := hide (below_two HBb.out hbm)
        have RS := hide (rset_ok len n (wb.alloc (.cells #[.int .i64 0, .string ⟨#[]⟩] 24)) h0 h16 hn1 hn2)
        have hwb : w.heap.size < wb.heap.size := HDb.out.lt
        clear hbm HDb
        go_wp2_with fail
        refine (RS.out).mono ?_
        rintro e wc ⟨vs, rfl, hl, hbc⟩
        obtain ⟨p, cap2, rfl, hq1, hq2, hq⟩ := hl
        have HBc := hide (below_two HBn.out hbc)
        have HMc := hide (HM0.out.below hbc)
        have HDc := hide (HDm.out.below hbc)
        have SU : Hid (Calls Tryd.prog 9 #[.slice (some ⟨b, o, none⟩) len cap, .slice (some ⟨p, 0, none⟩) (setL len n).length cap2] wc fun e w' => e = .returned (.string (dropB g len n)) ∧ Below wc.heap.size wc w') :=
          rsum_ok b o len cap p 0 _ cap2 g _ wc h0 h16 (HBk.out.below HBc.out).cells HBk.out.one HBk.out.eight HBk.out.same hq1 hq2 hq (setL_good h0 hn1)
        have MK := hide (fun w1 (hb : Below w.heap.size w w1) => make_ok b o len cap g n w1 h0 h16 (HBk.out.below hb).cells HBk.out.one HBk.out.eight HBk.out.same hn1 hn2)
        unfold maxLen at hq2
        clear hbc hq HBn HM0 HDm RS
        generalize dropB g len n = z at *
        go_wp2_with fail
        refine (SU.out).mono ?_
        rintro e we ⟨rfl, hbe⟩
        have HDe := hide (HDc.out.below hbe)
        have HMe := hide (HMc.out.below hbe)
        obtain ⟨⟨c0, f0⟩, c1, f1⟩ := HMe.out
        have HBe := hide (below_two HBc.out hbe)
        have HBm : Hid (Below w.heap.size w ((we.setCell ⟨wb.heap.size, 0, none⟩ (.int .i64 n)).setCell ⟨wb.heap.size, 1, none⟩ (.string z))) := (HBe.out.setCell (Nat.le_of_lt hwb) _).setCell (Nat.le_of_lt hwb) _
        have HM : Hid (DropIn ((we.setCell ⟨wb.heap.size, 0, none⟩ (.int .i64 n)).setCell ⟨wb.heap.size, 1, none⟩ (.string z)) wb.heap.size n z) := HMe.out.set n z
        have HD : Hid (DropIn ((we.setCell ⟨wb.heap.size, 0, none⟩ (.int .i64 n)).setCell ⟨wb.heap.size, 1, none⟩ (.string z)) w.heap.size ds dd) := HDe.out.set_far (Nat.ne_of_lt hwb) n z
        have M : Hid (Calls Tryd.prog 10 #[.slice (some ⟨b, o, none⟩) len cap, .int .i64 n] ((we.setCell ⟨wb.heap.size, 0, none⟩ (.int .i64 n)).setCell ⟨wb.heap.size, 1, none⟩ (.string z)) fun e w' => ∃ err, e = .returned (.tuple #[dropV n z, err]) ∧ ErrIs 0 err ∧ Below ((we.setCell ⟨wb.heap.size, 0, none⟩ (.int .i64 n)).setCell ⟨wb.heap.size, 1, none⟩ (.string z)).heap.size ((we.setCell ⟨wb.heap.size, 0, none⟩ (.int .i64 n)).setCell ⟨wb.heap.size, 1, none⟩ (.string z)) w') :=
          (MK.out _ HBm.out).mono fun e w' ⟨he, hb⟩ => ⟨_, he, Or.inl ⟨rfl, rfl⟩, hb⟩
        clear hbe HDe HMe HBe HMc HDc HBc SU MK
        go_wp2_with fail
        generalize ((we.setCell ⟨wb.heap.size, 0, none⟩ (.int .i64 n)).setCell ⟨wb.heap.size, 1, none⟩ (.string z)) = wm at *
        refine (M.out).mono ?_
        rintro e w5 ⟨err2, rfl, herr2, hb5⟩
        have hb6 : Below wm.heap.size wm (w5.alloc (.cells #[.int .i64 n, .string z] 24)) := hb5.alloc hb5.size _
        have HM6 := hide (HM.out.below hb6)
        have HD6 := hide (HD.out.below hb6)
        have HY6 := hide (dropIn_new w5 n z)
        have HB6 := hide (below_two HBm.out hb6)
        have E2 := hide (error_right 0 err2 _ (HG.out.below HGL.out HB6.out) herr2)
        clear hb5 hb6 herr2 M
        unfold dropV
        go_wp2_with fail
        refine (E2.out).mono ?_
        rintro e w7 ⟨rfl, hb7⟩
        obtain ⟨⟨m0, _⟩, m1, _⟩ := HM6.out.below hb7
        obtain ⟨⟨y0, _⟩, y1, _⟩ := HY6.out.below hb7
        have HD7 := hide (HD6.out.below hb7)
        obtain ⟨⟨z0, _⟩, z1, _⟩ := HD7.out
        have HB7 := hide (below_two HB6.out hb7)
        simp only [Nat.zero_add] at m1 y1 z1
        have RD := hide (rdrop_any k size ds dd w7)
        clear hb7 E2 HM6 HY6
        go_wp2_with fail
        refine (RD.out).mono ?_
        rintro e w8 ⟨rfl, hb8⟩
        clear m0 m1 y0 y1 z0 z1
        obtain ⟨⟨z0, _⟩, z1, _⟩ := HD7.out.below hb8
        have HB8 := hide (below_two HB7.out hb8)
        simp only [Nat.zero_add] at z1
        have DC := hide (dcheck_any k size ds dd w8)
        clear hb8 RD
        go_wp2_with fail
        refine (DC.out).mono ?_
        rintro e w9 ⟨err3, rfl, herr3, hb9⟩
        have HB9 := hide (below_two HB8.out hb9)
        have E3 := hide (error_right _ err3 w9 (HG.out.below HGL.out HB9.out) herr3)
        clear hb9 herr3 DC z0 z1
        generalize fD k size ds dd.size = f3 at *
        go_wp2_with fail
        refine (E3.out).mono ?_
        rintro e w10 ⟨rfl, hb10⟩
        have HB10 := hide (below_two HB9.out hb10)
        clear hb10 E3
        go_wp2
        go_ret
        exact ⟨rfl, HB10.out⟩

set_option maxRecDepth 100000 in
theorem dropTells_contract (H : Type) (enc : TypeId × Value → H) (W : World) (base : Nat) (args : Array Value) (ds gs : List (DataW H)) (before : List MemPlace)
    (hval : ∀ (j : Nat) t v, Tryd.f3.params[j]? = some t → args[j]? = some v → Value.okWide Tryd.prog W .any base t v)
    (hW : DataW.Whole enc Tryd.prog Tryd.f3.params.toList Rows.dropTellsSpec.vars false W args.toList ds gs before) (hL : laidMetH Tryd.prog Rows.dropTellsRow.laid W) :
    Calls Tryd.prog 3 args W fun e W' => ∃ v, e = .returned v ∧ Rows.dropTellsSpec.post enc Tryd.prog Tryd.f3 false true false false W args v W' := by
  have hW' := hW
  have hlt0 := hW.lt
  obtain ⟨p, q, hA0, hV, rfl, hfz, hnd⟩ := hW
  have hA : DataW.TrodAll enc Tryd.prog W 0 (fun _ => true) true Tryd.f3.params.toList args.toList ds p := hA0
  rw [Tryd.params3] at hA hval
  have hAll := hA
  have hread : ∀ t ∈ [3, 3, 22, 3, 24], Tryd.prog.readableRec t = true ∧ t < Tryd.prog.types.size := by
    intro t ht
    simp only [List.mem_cons, List.not_mem_nil, or_false] at ht
    rcases ht with rfl | rfl | rfl | rfl | rfl <;> exact ⟨by kernel_rfl, of_decide_eq_true (by kernel_rfl)⟩
  obtain ⟨v0, vs0, d0, ds0, p0, q0, hargs, rfl, rfl, h0, r0⟩ := trodAll_cons hA
  obtain ⟨v1, vs1, d1, ds1, p1, q1, rfl, rfl, rfl, h1, r1⟩ := trodAll_cons r0
  obtain ⟨v2, vs2, d2, ds2, p2, q2, rfl, rfl, rfl, h2, r2⟩ := trodAll_cons r1
  obtain ⟨v3, vs3, d3, ds3, p3, q3, rfl, rfl, rfl, h3, r3⟩ := trodAll_cons r2
  obtain ⟨v4, vs4, d4, ds4, p4, q4, rfl, rfl, rfl, h4, r4⟩ := trodAll_cons r3
  obtain ⟨rfl, rfl, rfl⟩ := trodAll_nil r4
  obtain rfl : args = #[v0, v1, v2, v3, v4] := by cases args; simp_all
  obtain ⟨rfl, rfl⟩ := trodVars_none hV
  simp only [List.append_nil] at hW' hlt0
  have fin : ∀ W' : World, Below W.heap.size W W' → Rows.dropTellsSpec.post enc Tryd.prog Tryd.f3 false true false false W #[v0, v1, v2, v3, v4] (.bool true) W' := by
    intro W' hg
    refine ⟨_, _, _, [], (p0 ++ (p1 ++ (p2 ++ (p3 ++ (p4 ++ []))))), [], hW', ?_, ?_, ?_, hg.frame _, fun h => by cases h⟩
    · exact trodAll_mk1 (shut_bool Tryd.underlying4 true)
    · exact trodAll_below hg _ _ _ _ hread hAll (by simpa using hlt0)
    · rfl
  obtain ⟨a0, rfl, rfl, rfl, w0⟩ := open_int Tryd.underlying3 (hval 0 3 v0 rfl rfl) h0
  obtain ⟨a1, rfl, rfl, rfl, w1⟩ := open_int Tryd.underlying3 (hval 1 3 v1 rfl rfl) h1
  obtain ⟨l2, f2, hs2⟩ := open_strsAt (hval 2 22 v2 rfl rfl) h2
  obtain ⟨a3, rfl, rfl, rfl, w3⟩ := open_int Tryd.underlying3 (hval 3 3 v3 rfl rfl) h3
  obtain ⟨x4, y4, X4, Y4, m4, rfl, rfl, rfl, hX4, hY4⟩ := open_agg2 Tryd.underlying24 (by kernel_rfl) (show Tryd.prog.cellsOf 24 = 2 by kernel_rfl) (hval 4 24 v4 rfl rfl) h4
  obtain ⟨a4, eX4, rfl, wX4⟩ := DataW.trod_int Tryd.underlying3 hX4
  obtain ⟨s4, eY4, rfl, wY4⟩ := DataW.trod_string Tryd.underlying9 hY4
  simp at eX4 eY4
  subst eX4 eY4
  refine (drtells_walk a0 a1 v2 l2 f2 hs2 a3 a4 s4 (w := W) (hasErr_of_laid hL)).mono fun e W' ⟨he, hg⟩ => ?_
  subst he
  exact ⟨_, rfl, fin W' hg⟩

theorem dropTells_met (os : Os) : laidMetH Tryd.prog Rows.dropTellsRow.laid (({ World.holding Tryd.prog os ⟨#[], #[], []⟩ with heap := (World.holding Tryd.prog os ⟨#[], #[], []⟩).heap.modify 0 fun | .cells _ t frozen => .cells #[.iface 85 (.agg #[.pointer (some ⟨1, 28, none⟩)])] t frozen | o => o } : World).forCall (fun _ _ => 0) ⟨#[], #[.int .i64 0, .int .i64 0, .slice none 0 0, .int .i64 0, .agg #[.int .i64 0, .string ByteArray.empty]], []⟩).memory :=
  laidMetH_of_parts (laidMet_nil _ _) (by kernel_rfl)
theorem dropTells_reads (os : Os) {H : Type} (enc : TypeId × Value → H) : ∃ places, DataW.whole enc Tryd.prog (({ World.holding Tryd.prog os ⟨#[], #[], []⟩ with heap := (World.holding Tryd.prog os ⟨#[], #[], []⟩).heap.modify 0 fun | .cells _ t frozen => .cells #[.iface 85 (.agg #[.pointer (some ⟨1, 28, none⟩)])] t frozen | o => o } : World).forCall (fun _ _ => 0) ⟨#[], #[.int .i64 0, .int .i64 0, .slice none 0 0, .int .i64 0, .agg #[.int .i64 0, .string ByteArray.empty]], []⟩).memory Tryd.f3.params.toList Rows.dropTellsSpec.vars false (#[.int .i64 0, .int .i64 0, .slice none 0 0, .int .i64 0, .agg #[.int .i64 0, .string ByteArray.empty]] : Array Value).toList 8 = some ([.lit (.int .i64 0), .lit (.int .i64 0), .nil, .lit (.int .i64 0), .agg [.lit (.int .i64 0), .lit (.string [])]], [], places) :=
  ⟨[], by kernel_rfl⟩
set_option maxRecDepth 100000 in
theorem dropTells_lifted (os : Os) (started : os.Started) (H : Type) (enc : TypeId × Value → H) (F : Stop.Interp) :
    ReturnsInHanded {} Tryd.checked os 3 .any ((OpenSpec.ofChange Rows.dropTellsSpec).preRow enc Tryd.prog Tryd.f3 Rows.dropTellsRow.domain false Rows.dropTellsRow.laid) (((OpenSpec.ofChange Rows.dropTellsSpec).at F).post enc Tryd.prog Tryd.f3 false true false false) := by
  obtain ⟨places, hx⟩ := dropTells_reads os enc
  refine returnsInHanded_of_row (C := Tryd.checked) (s := OpenSpec.ofChange Rows.dropTellsSpec) own started (by kernel_rfl) Tryd.func3
    (witness_row_at (enc := enc) (C := Tryd.checked) false ({ World.holding Tryd.prog os ⟨#[], #[], []⟩ with heap := (World.holding Tryd.prog os ⟨#[], #[], []⟩).heap.modify 0 fun | .cells _ t frozen => .cells #[.iface 85 (.agg #[.pointer (some ⟨1, 28, none⟩)])] t frozen | o => o } : World) #[.int .i64 0, .int .i64 0, .slice none 0 0, .int .i64 0, .agg #[.int .i64 0, .string ByteArray.empty]] rfl (by kernel_rfl) (by kernel_rfl) (by kernel_rfl)
      (OpenSpec.preRow_of_cond 8 hx (by kernel_rfl) (fun k hk => by cases hk) (by kernel_rfl) (dropTells_met os))) ?_
  intro W base args ds gs before hval hW _ _ _ hL _ _
  exact dropTells_contract H enc W base args ds gs before hval hW hL

theorem dropTells_said : Rows.DropTellsSaid :=
  OpenClaim.holds_of_cond 3 Tryd.f3 rfl rfl rfl rfl rfl rfl rfl ⟨rfl, rfl, rfl, rfl, rfl⟩ rfl rfl rfl rfl rfl (by kernel_rfl) Tryd.func3 (by kernel_rfl)
    (of_decide_eq_true (by kernel_rfl)) (by unfold Func.isWrapper; first | (rw [if_pos (by decide +kernel)]; kernel_rfl) | (rw [if_neg (by decide +kernel)]; exact ⟨rfl, rfl⟩))
    (fun os started H enc _ F => by rw [OpenClaim.pre_eq_preRow]; exact dropTells_lifted os started H enc F)

theorem dropTells_plain (f : FuncId) (fn : Func) (hf : Tryd.pinned.checked.prog.funcNamed "dropletmill/droplaw1.DropTells" = some f) (hfn : Tryd.pinned.checked.prog.funcs[f]? = some fn) :
    true = Tryd.pinned.checked.prog.looks [] ∧ ∀ (j : Nat) t, fn.params[j]? = some t → Tryd.pinned.checked.prog.wantsStandIn t = false := by
  obtain rfl : f = 3 := Option.some.inj ((show Tryd.prog.funcNamed "dropletmill/droplaw1.DropTells" = some 3 by kernel_rfl).symm.trans hf) |>.symm
  obtain rfl : fn = Tryd.f3 := (Option.some.inj (Tryd.func3.symm.trans hfn)).symm
  refine ⟨by kernel_rfl, fun j t ht => ?_⟩
  rw [Tryd.params3] at ht
  have hm := Array.mem_of_getElem? ht
  simp only [List.mem_toArray, List.mem_cons, List.mem_nil_iff, or_false] at hm
  rcases hm with rfl | rfl | rfl | rfl | rfl
  · exact (show Tryd.prog.wantsStandIn 3 = false by kernel_rfl)
  · exact (show Tryd.prog.wantsStandIn 3 = false by kernel_rfl)
  · exact (show Tryd.prog.wantsStandIn 22 = false by kernel_rfl)
  · exact (show Tryd.prog.wantsStandIn 3 = false by kernel_rfl)
  · exact (show Tryd.prog.wantsStandIn 24 = false by kernel_rfl)

theorem dropTells_card : Rows.DropTellsCardSaid :=
  Claim7.holds_tied_plain_at .later [] _ _ _ _ dropTells_said (fun _ h => by cases h) (by kernel_rfl) (fun _ h => by cases h) dropTells_row_tie rfl ⟨rfl, rfl⟩ (by kernel_rfl) rfl dropTells_plain (by kernel_rfl)
#print axioms dropTells_card
end Go.Proofs.YtijbljcpfjlllaaDoor
