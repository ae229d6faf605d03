/-
  Lemmas for the law above, joined into one text (NdTell). No statement is proved here.
-/
import Derived.Test.YtakaeikobahaoaaDoorTRLk
import Derived.Test.YtakaeikobahaoaaDoorTG13
namespace Go.Proofs.YtakaeikobahaoaaDoor
open Go.RowKit Go.Maps
set_option linter.unusedVariables false
set_option maxRecDepth 100000

theorem own_inL {w : World} {B : Nat} {v : Value} {U : List Nat} (h : w.ownsRow B 3 1 v U.length (iV U)) : IntsIn w v U.length (fun i => ((U.getD i 0 : Nat) : Int)) := by
  rcases Nat.eq_zero_or_pos U.length with e | h0
  · obtain ⟨a, cap, hv⟩ := own_slice h
    exact Or.inl ⟨e, a, cap, by rw [← e]; exact hv⟩
  · obtain ⟨g, cap, hv, _, _, h3⟩ := own_lst h h0
    exact Or.inr ⟨h0, g, 0, cap, hv, h3⟩
set_option maxHeartbeats 8000000 in
theorem tells_bad {w : World} (k : Int) (v : Value) (len : Nat) (f : Nat → Int) (hv : IntsAt w v len f) (hf : fS k len f ≠ 0) (hg : HasErr w) :
    Calls Tryd.prog 3 #[.int .i64 k, v] w fun e w' => e = .returned (.bool true) ∧ Below w.heap.size w w' := by
  have HG := hide hg
  have HGL := hide hg.lt
  have SD := hide (rseeds_ok k v len f w hv)
  have FI : Hid (∀ W, Below w.heap.size w W → Calls Tryd.prog 7 #[.int .i64 k, v] W fun e w' => ∃ err, e = .returned (.tuple #[.int .i64 0, err]) ∧ ErrIs (fS k len f) err ∧ Below W.heap.size W w') := fun W hW => (first_bad (hv.below hW) hf).mono fun e w' ⟨he, hw⟩ => ⟨_, he, Or.inr rfl, hw ▸ Below.refl _ _⟩
  have NW : Hid (∀ W, Below w.heap.size w W → Calls Tryd.prog 9 #[.int .i64 k, v] W fun e w' => ∃ vn err, e = .returned (.tuple #[vn, err]) ∧ ErrIs (fS k len f) err ∧ IntsIn w' vn 0 (fun _ => 0) ∧ Below W.heap.size W w') := fun W hW => (new_bad (hv.below hW) hf).mono fun e w' ⟨he, hw⟩ => ⟨_, _, he, Or.inr rfl, Or.inl ⟨rfl, none, 0, rfl⟩, hw ▸ Below.refl _ _⟩
  have LK : Hid (∀ W, Below w.heap.size w W → Calls Tryd.prog 12 #[.int .i64 k, v] W fun e w' => ∃ vn err, e = .returned (.tuple #[vn, err]) ∧ ErrIs (fS k len f) err ∧ IntsIn w' vn 0 (fun _ => 0) ∧ Below W.heap.size W w') := fun W hW => (lacks_bad (hv.below hW) hf).mono fun e w' ⟨he, hw⟩ => ⟨_, _, he, Or.inr rfl, Or.inl ⟨rfl, none, 0, rfl⟩, hw ▸ Below.refl _ _⟩
  obtain ⟨a, cap, rfl, _⟩ := hv.open
  generalize fS k len f = y at *
  have ER : Hid (∀ W err, Below w.heap.size w W → ErrIs y err → Calls Tryd.prog 8 #[err, .int .i64 y] W fun e w' => e = .returned (.bool true) ∧ Below W.heap.size W w') := fun W err hW he => error_right y err W (HG.out.below HGL.out hW) he
  have ERf := ER
  have hy : (y == 0) = false := by rw [beq_eq_false_iff_ne]; exact hf
  have hy2 : (y != 0) = true := by rw [bne_iff_ne]; exact hf
  have hnn : 0 ≤ 1000000 := by decide
  have hll : 0 ≤ 1000000 := by decide
  clear hv hf hg
  go_enter Tryd.func3, Tryd.ntmps3
  go_wp2_with fail
  refine (SD.out).mono ?_
  rintro e w1 ⟨rfl, rfl⟩
  clear SD
  go_wp2_with fail
  go_loopw [6, 7, 9, 10] (fun t6 t7 t9 t10 wr => t6 = .int .i64 (-1) ∧ t7 = .slice none 0 0 ∧ t9 = .int .i64 0 ∧ t10 = .int .i64 0 ∧ w = wr) (fun _ _ _ _ _ => 0)
  case atStart => exact ⟨rfl, rfl, rfl, rfl, rfl⟩
  case round =>
    obtain ⟨rfl, rfl, rfl, rfl, hw⟩ := hrel
    subst hw
    have HBw := hide (Below.refl w.heap.size w)
    have C5 := hide (Below.refl w.heap.size w)
    have HNew : Hid (IntsIn w (.slice none 0 0) 0 (fun _ => 0)) := Or.inl ⟨rfl, none, 0, rfl⟩
    by_cases hl : 0 < len
    · have hl' : (0 : Int) < (len : Int) := by omega
      go_wp2_with fail
      refine (FI.out _ (below_two HBw.out C5.out)).mono ?_
      rintro e w6 ⟨err6, rfl, he6, hb6⟩
      have C6 := hide (below_two C5.out hb6)
      have E6 := hide (ERf.out w6 err6 (below_two HBw.out C6.out) he6)
      clear hb6 he6
      go_wp2_with fail
      refine (E6.out).mono ?_
      rintro e w8 ⟨rfl, hb8⟩
      have C8 := hide (below_two C6.out hb8)
      clear hb8 E6
      go_wp2_with fail
      refine (NW.out _ (below_two HBw.out C8.out)).mono ?_
      rintro e w9 ⟨vn, err9, rfl, he9, hn9, hb9⟩
      have C9 := hide (below_two C8.out hb9)
      have E9 := hide (ER.out w9 err9 (below_two HBw.out C9.out) he9)
      have HN9 := hide hn9
      clear hb9 he9 hn9
      go_wp2_with fail
      refine (E9.out).mono ?_
      rintro e w10 ⟨rfl, hb10⟩
      have C10 := hide (below_two C9.out hb10)
      have I10 := hide (ints_same hnn (HN9.out.below hb10) (HNew.out.below C10.out))
      clear hb10 E9
      go_wp2_with fail
      refine (I10.out).mono ?_
      rintro e w11 ⟨rfl, hb11⟩
      have C11 := hide (below_two C10.out hb11)
      clear hb11 I10
      go_wp2_with fail
      refine (LK.out _ (below_two HBw.out C11.out)).mono ?_
      rintro e w13 ⟨vl, err13, rfl, he13, hl13, hb13⟩
      have C13 := hide (below_two C11.out hb13)
      have HR13 : Hid (IntsIn w13 (.slice none 0 0) 0 (fun _ => 0)) := Or.inl ⟨rfl, none, 0, rfl⟩
      have E13 := hide (ER.out w13 err13 (below_two HBw.out C13.out) he13)
      have HL13 := hide hl13
      clear hb13 he13 hl13
      go_wp2_with fail
      refine (E13.out).mono ?_
      rintro e w14 ⟨rfl, hb14⟩
      have C14 := hide (below_two C13.out hb14)
      have I14 := hide (ints_same hll (HL13.out.below hb14) (HR13.out.below hb14))
      clear hb14 E13
      go_wp2_with fail
      refine (I14.out).mono ?_
      rintro e w15 ⟨rfl, hb15⟩
      have C15 := hide (below_two C14.out hb15)
      clear hb15 I14
      go_wp2
      go_ret
      exact ⟨rfl, below_two HBw.out C15.out⟩
    · have hl' : ¬ (0 : Int) < (len : Int) := by omega
      go_wp2_with fail
      refine (FI.out _ (below_two HBw.out C5.out)).mono ?_
      rintro e w6 ⟨err6, rfl, he6, hb6⟩
      have C6 := hide (below_two C5.out hb6)
      have E6 := hide (ERf.out w6 err6 (below_two HBw.out C6.out) he6)
      clear hb6 he6
      go_wp2_with fail
      refine (E6.out).mono ?_
      rintro e w8 ⟨rfl, hb8⟩
      have C8 := hide (below_two C6.out hb8)
      clear hb8 E6
      go_wp2_with fail
      refine (NW.out _ (below_two HBw.out C8.out)).mono ?_
      rintro e w9 ⟨vn, err9, rfl, he9, hn9, hb9⟩
      have C9 := hide (below_two C8.out hb9)
      have E9 := hide (ER.out w9 err9 (below_two HBw.out C9.out) he9)
      have HN9 := hide hn9
      clear hb9 he9 hn9
      go_wp2_with fail
      refine (E9.out).mono ?_
      rintro e w10 ⟨rfl, hb10⟩
      have C10 := hide (below_two C9.out hb10)
      have I10 := hide (ints_same hnn (HN9.out.below hb10) (HNew.out.below C10.out))
      clear hb10 E9
      go_wp2_with fail
      refine (I10.out).mono ?_
      rintro e w11 ⟨rfl, hb11⟩
      have C11 := hide (below_two C10.out hb11)
      clear hb11 I10
      go_wp2_with fail
      refine (LK.out _ (below_two HBw.out C11.out)).mono ?_
      rintro e w13 ⟨vl, err13, rfl, he13, hl13, hb13⟩
      have C13 := hide (below_two C11.out hb13)
      have HR13 : Hid (IntsIn w13 (.slice none 0 0) 0 (fun _ => 0)) := Or.inl ⟨rfl, none, 0, rfl⟩
      have E13 := hide (ER.out w13 err13 (below_two HBw.out C13.out) he13)
      have HL13 := hide hl13
      clear hb13 he13 hl13
      go_wp2_with fail
      refine (E13.out).mono ?_
      rintro e w14 ⟨rfl, hb14⟩
      have C14 := hide (below_two C13.out hb14)
      have I14 := hide (ints_same hll (HL13.out.below hb14) (HR13.out.below hb14))
      clear hb14 E13
      go_wp2_with fail
      refine (I14.out).mono ?_
      rintro e w15 ⟨rfl, hb15⟩
      have C15 := hide (below_two C14.out hb15)
      clear hb15 I14
      go_wp2
      go_ret
      exact ⟨rfl, below_two HBw.out C15.out⟩

/-- The first that are enough, so far. -/
def FsAt (M : Nat → Nat) (n j : Nat) (x : Int) : Prop := (x = -1 ∧ rkL (preL M j) < n) ∨ ∃ p : Nat, p < j ∧ x = (p : Int) + 1 ∧ rkL (preL M (p + 1)) = n ∧ rkL (preL M p) < n
set_option maxHeartbeats 8000000 in
theorem tells_ok {w : World} (n : Nat) (v : Value) (len : Nat) (s : Nat → Nat) (hv : IntsAt w v len (fun i => (s i : Int))) (hl : len ≤ 60) (hn1 : 1 ≤ n) (hn2 : n ≤ 16) (hss : ∀ j, j < len → 1 ≤ s j ∧ s j ≤ 10000) (h0 : fS n len (fun i => (s i : Int)) = 0) (hg : HasErr w) :
    Calls Tryd.prog 3 #[.int .i64 n, v] w fun e w' => e = .returned (.bool true) ∧ Below w.heap.size w w' := by
  have HG := hide hg
  have HGL := hide hg.lt
  have SD := hide (rseeds_ok n v len _ w hv)
  rw [h0] at SD
  obtain ⟨a, cap, rfl, hcell⟩ := hv.open
  have HV := hide hv
  have RK : Hid (∀ W m, Below w.heap.size w W → m ≤ len → Calls Tryd.prog 6 #[.int .i64 n, .slice a m cap] W fun e w' => e = .returned (.int .i64 (rkL (preL (mD n s) m) : Nat)) ∧ Below W.heap.size W w') := fun W m hW hm => by
    refine (rrank_ok clearOk n _ m s W ((hv.first hm).below hW) (by omega) hn1 hn2 (fun j hj => hss j (by omega))).mono fun e w' ⟨r, he, hd, hb⟩ => ⟨?_, hb⟩
    have e9 := rkL_eq hd
    rw [mD_masks] at e9
    rw [he, e9]
  have FS1 : Hid (∀ W, Below w.heap.size w W → Calls Tryd.prog 7 #[.int .i64 n, .slice a len cap] W fun e w' => ∃ (x : Int) (err : Value), e = .returned (.tuple #[.int .i64 x, err]) ∧ ((rkL (preL (mD n s) len) < n ∧ x = 0 ∧ ErrIs 8 err) ∨ (rkL (preL (mD n s) len) = n ∧ ErrIs 0 err ∧ FsAt (mD n s) n len x ∧ 0 < x)) ∧ Below W.heap.size W w') := fun W hW => by
    have h9 := upL_len [] (mD n s) len
    rw [rkL_none, List.nil_append, Nat.add_zero] at h9
    have h8 := rk_le (mD_lt hn1 hss)
    by_cases c : n ≤ (upL [] (mD n s) len).length
    · exact (first_ok n _ len s W (hv.below hW) hl hn1 hn2 hss c).mono fun e w' ⟨p, he, h1, h2, h3, hb⟩ => ⟨_, _, he, Or.inr ⟨by omega, Or.inl ⟨rfl, rfl⟩, Or.inr ⟨p, h1, rfl, h2, h3⟩, by omega⟩, hb⟩
    · exact (first_few n _ len s W (hv.below hW) hl hn1 hn2 hss (by omega)).mono fun e w' ⟨he, hb⟩ => ⟨_, _, he, Or.inl ⟨by omega, rfl, Or.inr rfl⟩, hb⟩
  have NW : Hid (∀ W, Below w.heap.size w W → Calls Tryd.prog 9 #[.int .i64 n, .slice a len cap] W fun e w' => ∃ vn err, e = .returned (.tuple #[vn, err]) ∧ ErrIs 0 err ∧ IntsIn w' vn (upL [] (mD n s) len).length (fun i => (((upL [] (mD n s) len).getD i 0 : Nat) : Int)) ∧ Below W.heap.size W w') := fun W hW => (new_ok n _ len s W (hv.below hW) hl hn1 hn2 hss).mono fun e w' ⟨vo, he, ho, hb⟩ => ⟨_, _, he, Or.inl ⟨rfl, rfl⟩, own_inL ho, hb⟩
  have LK : Hid (∀ W, Below w.heap.size w W → Calls Tryd.prog 12 #[.int .i64 n, .slice a len cap] W fun e w' => ∃ vn err, e = .returned (.tuple #[vn, err]) ∧ ErrIs 0 err ∧ IntsIn w' vn (upL (preL (mD n s) len) unit n).length (fun i => (((upL (preL (mD n s) len) unit n).getD i 0 : Nat) : Int)) ∧ Below W.heap.size W w') := fun W hW => (lacks_ok n _ len s W (hv.below hW) hl hn1 hn2 hss).mono fun e w' ⟨vo, he, ho, hb⟩ => ⟨_, _, he, Or.inl ⟨rfl, rfl⟩, own_inL ho, hb⟩
  have RL : Hid (∀ W, Below w.heap.size w W → Calls Tryd.prog 11 #[.int .i64 n, .slice a len cap] W fun e w' => ∃ vn, e = .returned vn ∧ IntsIn w' vn (upL (preL (mD n s) len) unit n).length (fun i => (((upL (preL (mD n s) len) unit n).getD i 0 : Nat) : Int)) ∧ Below W.heap.size W w') := fun W hW => (rlacks_ok n _ len s W (hv.below hW) hl hn1 hn2 hss).mono fun e w' ⟨vo, he, ho, hb⟩ => ⟨_, he, own_inL ho, hb⟩
  have ER : Hid (∀ W err, Below w.heap.size w W → ErrIs 0 err → Calls Tryd.prog 8 #[err, .int .i64 0] W fun e w' => e = .returned (.bool true) ∧ Below W.heap.size W w') := fun W err hW he => error_right 0 err W (HG.out.below HGL.out hW) he
  have ER8 : Hid (∀ W err, Below w.heap.size w W → ErrIs 8 err → Calls Tryd.prog 8 #[err, .int .i64 8] W fun e w' => e = .returned (.bool true) ∧ Below W.heap.size W w') := fun W err hW he => error_right 8 err W (HG.out.below HGL.out hW) he
  have hnn : (upL [] (mD n s) len).length ≤ 1000000 := by have := upL_le [] (mD n s) len; omega
  have hll : (upL (preL (mD n s) len) unit n).length ≤ 1000000 := by have := upL_le (preL (mD n s) len) unit n; omega
  have HRL : Hid (∀ m, m ≤ len → rkL (preL (mD n s) m) ≤ n) := fun m hm => rk_le (mD_lt hn1 (fun j hj => hss j (by omega)))
  have HMo : Hid (∀ i j, i ≤ j → rkL (preL (mD n s) i) ≤ rkL (preL (mD n s) j)) := fun i j h => rk_mono _ h
  obtain ⟨i0, hi0, hz0, hz1, hz2⟩ := info_parts Tryd.infoInt
  have Hi := hide hi0
  have Hz0 := hide hz0
  have Hz1 := hide hz1
  have Hz2 := hide hz2
  have HSt : Hid (rkL (preL (mD n s) 0) = 0) := rkL_none
  have HCl := hide hcell
  clear hv hg h0 hi0 hz0 hz1 hz2 hss hcell
  go_enter Tryd.func3, Tryd.ntmps3
  go_wp2_with fail
  refine (SD.out).mono ?_
  rintro e w1 ⟨rfl, rfl⟩
  clear SD
  go_wp2_with fail
  go_loopw [6, 7, 9, 10] (fun t6 t7 t9 t10 wr => ∃ (j : Nat) (x : Int), j ≤ len ∧ t10 = .int .i64 j ∧ t9 = .int .i64 (rkL (preL (mD n s) j) : Nat) ∧ t6 = .int .i64 x ∧ FsAt (mD n s) n j x ∧ wr.ownsRow w.heap.size 3 1 t7 (upL [] (mD n s) j).length (iV (upL [] (mD n s) j)) ∧ Below w.heap.size w wr) (fun _ _ _ i _ => len - (intOf i).toNat)
  case atStart => exact ⟨0, -1, Nat.zero_le _, rfl, by rw [HSt.out]; rfl, rfl, Or.inl ⟨rfl, by rw [HSt.out]; omega⟩, World.ownsRow_nil _ _ _ _, Below.refl _ _⟩
  case round =>
    obtain ⟨j, x, hj, rfl, rfl, rfl, hF, hO, hb⟩ := hrel
    have HF := hide hF
    have HO := hide hO
    have HBw := hide hb
    have hbs := hb.size
    have hul := upL_le [] (mD n s) j
    clear hF hO hb
    by_cases hlt : j < len
    · obtain ⟨bb, oo, ha, hc1, hc2, _⟩ := HCl.out (by omega)
      subst ha
      have RK1 := hide (RK.out wr (j + 1) HBw.out (by omega))
      have hle1 := HRL.out (j + 1) (by omega)
      have hmo := HMo.out j (j + 1) (by omega)
      have hj1 : (j : Int) < (len : Int) := by omega
      have hcapz : ¬ cap = 0 := by omega
      have e1 : ((j : Int) + 1).toNat = j + 1 := by omega
      unfold maxLen at hc2
      have hstep : (Sp XN (preL (mD n s) j) (mD n s j) ∧ rkL (preL (mD n s) (j + 1)) = rkL (preL (mD n s) j) ∧ upL [] (mD n s) (j + 1) = upL [] (mD n s) j) ∨ (rkL (preL (mD n s) (j + 1)) = rkL (preL (mD n s) j) + 1 ∧ upL [] (mD n s) (j + 1) = upL [] (mD n s) j ++ [j]) := by
        by_cases hin : Sp XN (preL (mD n s) j) (mD n s j)
        · exact Or.inl ⟨hin, by rw [preL_succ, rkL_in hin], upL_in hin⟩
        · exact Or.inr ⟨by rw [preL_succ, rkL_out hin], upL_out hin⟩
      have HFB : Hid (∀ p : Nat, p < j → rkL (preL (mD n s) (p + 1)) = n → rkL (preL (mD n s) j) = n) := fun p hp h => by
        have h1 := HMo.out (p + 1) j (by omega)
        have h2 := HRL.out j (by omega)
        omega
      have HFs := hide (fun x => @id (FsAt (mD n s) n (j + 1) x))
      generalize hr0 : rkL (preL (mD n s) j) = r0 at *
      generalize hr1 : rkL (preL (mD n s) (j + 1)) = r1 at *
      have HR0 := hide hr0
      have HR1 := hide hr1
      clear hr0 hr1
      rcases hstep with ⟨_, hr, hu⟩ | ⟨hr, hu⟩
      · subst hr
        have HUp := hide hu
        clear hu
        rcases HF.out with ⟨hx, hx2⟩ | ⟨p, hp, hx, hp1, hp2⟩
        · subst hx
          have hx2 : r1 < n := by rw [← HR0.out]; exact hx2
          have HGo : Hid (FsAt (mD n s) n (j + 1) (-1)) := Or.inl ⟨rfl, by rw [HR1.out]; exact hx2⟩
          go_wp2_with fail
          refine (RK1.out).mono ?_
          rintro e w2 ⟨rfl, hb2⟩
          have HO2 := hide (ownU HO.out hb2)
          have HB2 := hide (below_two HBw.out hb2)
          clear hb2 RK1
          go_wp2
          go_roundw
          case rel => exact ⟨j + 1, -1, by omega, by go_num, (by first | (rw [HR1.out]; done) | (rw [HR1.out]; congr 1; done) | (rw [HR1.out]; congr 1; omega)), rfl, HGo.out, by rw [HUp.out]; exact HO2.out, HB2.out⟩
          case measure => simp [intOf]; omega
        · have hrn : r1 = n := HFB.out p hp hp1
          have HGo : Hid (FsAt (mD n s) n (j + 1) x) := Or.inr ⟨p, by omega, hx, hp1, hp2⟩
          have hx0 : ¬ x < 0 := by omega
          clear hx hp1 hp2
          go_wp2_with fail
          refine (RK1.out).mono ?_
          rintro e w2 ⟨rfl, hb2⟩
          have HO2 := hide (ownU HO.out hb2)
          have HB2 := hide (below_two HBw.out hb2)
          clear hb2 RK1
          go_wp2
          go_roundw
          case rel => exact ⟨j + 1, x, by omega, by go_num, (by first | (rw [HR1.out]; done) | (rw [HR1.out]; congr 1; done) | (rw [HR1.out]; congr 1; omega)), rfl, HGo.out, by rw [HUp.out]; exact HO2.out, HB2.out⟩
          case measure => simp [intOf]; omega
      · subst hr
        have HUp := hide hu
        clear hu
        rcases HF.out with ⟨hx, hx2⟩ | ⟨p, hp, hx, hp1, hp2⟩
        · subst hx
          have hx2 : r0 < n := by rw [← HR0.out]; exact hx2
          obtain ⟨x', b', hb', HGo⟩ : ∃ (x' : Int) (b' : Bool), (b' = true ↔ r0 + 1 = n) ∧ FsAt (mD n s) n (j + 1) (if b' then (j : Int) + 1 else -1) := by
            by_cases c : r0 + 1 = n
            · exact ⟨0, true, by simp [c], Or.inr ⟨j, by omega, rfl, by rw [HR1.out]; exact c, by rw [HR0.out]; omega⟩⟩
            · exact ⟨0, false, by simp [c], Or.inl ⟨rfl, by rw [HR1.out]; omega⟩⟩
          have HGo := hide HGo
          cases b' with
          | true =>
            have hrn : r0 + 1 = n := hb'.1 rfl
            clear hb'
            go_wp2_with fail
            refine (RK1.out).mono ?_
            rintro e w2 ⟨rfl, hb2⟩
            have HO2 := hide (ownU HO.out hb2)
            have HB2 := hide (below_two HBw.out hb2)
            have hbs2 := HB2.out.size
            clear hb2 RK1
            go_wp2_with (at_builtin; refine wpList_append_own _ rfl _ _ 22 rfl w.heap.size 3 i0 (.int .i64 0) 1 8 Tryd.underlying22 Hi.out Hz0.out Hz1.out Hz2.out rfl (by decide) _ _ _ rfl (HO2.out.alloc _) ⟨w2.heap.size, 0, none⟩ 1 1 [.int .i64 (j : Nat)] rfl rfl (cell_one_new _ _ _) (fun x hx => by simp at hx; subst hx; rfl) (by unfold maxLen; omega) (by omega) (by simp; omega) ?_; intro v5 w5 hown5 hgrow5 hnil5)
            go_roundw
            case rel =>
              refine ⟨j + 1, (j : Int) + 1, by omega, by go_num, (by first | (rw [HR1.out]; done) | (rw [HR1.out]; congr 1; done) | (rw [HR1.out]; congr 1; omega)), rfl, HGo.out, by rw [HUp.out, List.length_append, iV_snoc]; exact hown5, (HB2.out.alloc hbs2 _).grown hgrow5 (by simp; omega) (fun q hq => (HO2.out.lt q hq).1)⟩
            case measure => simp [intOf]; omega
          | false =>
            have hrn : ¬ r0 + 1 = n := fun h => by have := hb'.2 h; cases this
            have hrn2 : (((r0 + 1 : Nat) : Int) == (n : Int)) = false := by rw [beq_eq_false_iff_ne]; omega
            clear hb'
            go_wp2_with fail
            refine (RK1.out).mono ?_
            rintro e w2 ⟨rfl, hb2⟩
            have HO2 := hide (ownU HO.out hb2)
            have HB2 := hide (below_two HBw.out hb2)
            have hbs2 := HB2.out.size
            clear hb2 RK1
            go_wp2_with (at_builtin; refine wpList_append_own _ rfl _ _ 22 rfl w.heap.size 3 i0 (.int .i64 0) 1 8 Tryd.underlying22 Hi.out Hz0.out Hz1.out Hz2.out rfl (by decide) _ _ _ rfl (HO2.out.alloc _) ⟨w2.heap.size, 0, none⟩ 1 1 [.int .i64 (j : Nat)] rfl rfl (cell_one_new _ _ _) (fun x hx => by simp at hx; subst hx; rfl) (by unfold maxLen; omega) (by omega) (by simp; omega) ?_; intro v5 w5 hown5 hgrow5 hnil5)
            go_roundw
            case rel =>
              refine ⟨j + 1, -1, by omega, by go_num, (by first | (rw [HR1.out]; done) | (rw [HR1.out]; congr 1; done) | (rw [HR1.out]; congr 1; omega)), rfl, HGo.out, by rw [HUp.out, List.length_append, iV_snoc]; exact hown5, (HB2.out.alloc hbs2 _).grown hgrow5 (by simp; omega) (fun q hq => (HO2.out.lt q hq).1)⟩
            case measure => simp [intOf]; omega
        · exfalso
          have := HFB.out p hp hp1
          omega
    · obtain rfl : j = len := by omega
      have hj1 : ¬ (j : Int) < (j : Int) := by omega
      have C5 := hide (Below.refl wr.heap.size wr)
      have HNew := hide (own_inL HO.out)
      clear HO RK
      rcases HF.out with ⟨hx, hx2⟩ | ⟨p, hp, hx, hp1, hp2⟩
      · subst hx
        have FI : Hid (∀ W, Below w.heap.size w W → Calls Tryd.prog 7 #[.int .i64 n, .slice a j cap] W fun e w' => ∃ err, e = .returned (.tuple #[.int .i64 0, err]) ∧ ErrIs 8 err ∧ Below W.heap.size W w') := fun W hW => (FS1.out W hW).mono fun e w' ⟨x, err, he, h9, hb⟩ => by
          rcases h9 with ⟨_, rfl, h8⟩ | ⟨h7, _⟩
          · exact ⟨err, he, h8, hb⟩
          · omega
        have ERf := ER8
        clear hx2 FS1
        generalize rkL (preL (mD n s) j) = r9 at *
        generalize (upL [] (mD n s) j).length = nn at *
        generalize (upL (preL (mD n s) j) unit n).length = ll at *
        go_wp2_with fail
        refine (FI.out _ (below_two HBw.out C5.out)).mono ?_
        rintro e w6 ⟨err6, rfl, he6, hb6⟩
        have C6 := hide (below_two C5.out hb6)
        have E6 := hide (ERf.out w6 err6 (below_two HBw.out C6.out) he6)
        clear hb6 he6
        go_wp2_with fail
        refine (E6.out).mono ?_
        rintro e w8 ⟨rfl, hb8⟩
        have C8 := hide (below_two C6.out hb8)
        clear hb8 E6
        go_wp2_with fail
        refine (NW.out _ (below_two HBw.out C8.out)).mono ?_
        rintro e w9 ⟨vn, err9, rfl, he9, hn9, hb9⟩
        have C9 := hide (below_two C8.out hb9)
        have E9 := hide (ER.out w9 err9 (below_two HBw.out C9.out) he9)
        have HN9 := hide hn9
        clear hb9 he9 hn9
        go_wp2_with fail
        refine (E9.out).mono ?_
        rintro e w10 ⟨rfl, hb10⟩
        have C10 := hide (below_two C9.out hb10)
        have I10 := hide (ints_same hnn (HN9.out.below hb10) (HNew.out.below C10.out))
        clear hb10 E9
        go_wp2_with fail
        refine (I10.out).mono ?_
        rintro e w11 ⟨rfl, hb11⟩
        have C11 := hide (below_two C10.out hb11)
        clear hb11 I10
        go_wp2_with fail
        refine (RL.out _ (below_two HBw.out C11.out)).mono ?_
        rintro e w12 ⟨vr, rfl, hr12, hb12⟩
        have C12 := hide (below_two C11.out hb12)
        have HR12 := hide hr12
        clear hb12 hr12
        go_wp2_with fail
        refine (LK.out _ (below_two HBw.out C12.out)).mono ?_
        rintro e w13 ⟨vl, err13, rfl, he13, hl13, hb13⟩
        have C13 := hide (below_two C12.out hb13)
        have HR13 := hide (HR12.out.below hb13)
        have E13 := hide (ER.out w13 err13 (below_two HBw.out C13.out) he13)
        have HL13 := hide hl13
        clear hb13 he13 hl13
        go_wp2_with fail
        refine (E13.out).mono ?_
        rintro e w14 ⟨rfl, hb14⟩
        have C14 := hide (below_two C13.out hb14)
        have I14 := hide (ints_same hll (HL13.out.below hb14) (HR13.out.below hb14))
        clear hb14 E13
        go_wp2_with fail
        refine (I14.out).mono ?_
        rintro e w15 ⟨rfl, hb15⟩
        have C15 := hide (below_two C14.out hb15)
        clear hb15 I14
        go_wp2
        go_ret
        exact ⟨rfl, below_two HBw.out C15.out⟩
      · have FI : Hid (∀ W, Below w.heap.size w W → Calls Tryd.prog 7 #[.int .i64 n, .slice a j cap] W fun e w' => ∃ err, e = .returned (.tuple #[.int .i64 x, err]) ∧ ErrIs 0 err ∧ Below W.heap.size W w') := fun W hW => (FS1.out W hW).mono fun e w' ⟨x2, err, he, h9, hb⟩ => by
          have hrn : rkL (preL (mD n s) j) = n := by
            have h1 := HMo.out (p + 1) j (by omega)
            have h2 := HRL.out j (Nat.le_refl _)
            omega
          rcases h9 with ⟨h7, _⟩ | ⟨_, h8, hF2, hx0⟩
          · omega
          · rcases hF2 with ⟨h6, _⟩ | ⟨p2, hq, hx2, hq1, hq2⟩
            · omega
            · have hpp : p2 = p := by
                rcases Nat.lt_trichotomy p2 p with h | h | h
                · have := HMo.out (p2 + 1) p (by omega); omega
                · exact h
                · have := HMo.out (p + 1) p2 (by omega); omega
              subst hpp
              exact ⟨err, by rw [he, hx2, hx], h8, hb⟩
        have ERf := ER
        have hx0 : ¬ x < 0 := by omega
        clear hx hp1 hp2 FS1
        generalize rkL (preL (mD n s) j) = r9 at *
        generalize (upL [] (mD n s) j).length = nn at *
        generalize (upL (preL (mD n s) j) unit n).length = ll at *
        go_wp2_with fail
        refine (FI.out _ (below_two HBw.out C5.out)).mono ?_
        rintro e w6 ⟨err6, rfl, he6, hb6⟩
        have C6 := hide (below_two C5.out hb6)
        have E6 := hide (ERf.out w6 err6 (below_two HBw.out C6.out) he6)
        clear hb6 he6
        go_wp2_with fail
        refine (E6.out).mono ?_
        rintro e w8 ⟨rfl, hb8⟩
        have C8 := hide (below_two C6.out hb8)
        clear hb8 E6
        go_wp2_with fail
        refine (NW.out _ (below_two HBw.out C8.out)).mono ?_
        rintro e w9 ⟨vn, err9, rfl, he9, hn9, hb9⟩
        have C9 := hide (below_two C8.out hb9)
        have E9 := hide (ER.out w9 err9 (below_two HBw.out C9.out) he9)
        have HN9 := hide hn9
        clear hb9 he9 hn9
        go_wp2_with fail
        refine (E9.out).mono ?_
        rintro e w10 ⟨rfl, hb10⟩
        have C10 := hide (below_two C9.out hb10)
        have I10 := hide (ints_same hnn (HN9.out.below hb10) (HNew.out.below C10.out))
        clear hb10 E9
        go_wp2_with fail
        refine (I10.out).mono ?_
        rintro e w11 ⟨rfl, hb11⟩
        have C11 := hide (below_two C10.out hb11)
        clear hb11 I10
        go_wp2_with fail
        refine (RL.out _ (below_two HBw.out C11.out)).mono ?_
        rintro e w12 ⟨vr, rfl, hr12, hb12⟩
        have C12 := hide (below_two C11.out hb12)
        have HR12 := hide hr12
        clear hb12 hr12
        go_wp2_with fail
        refine (LK.out _ (below_two HBw.out C12.out)).mono ?_
        rintro e w13 ⟨vl, err13, rfl, he13, hl13, hb13⟩
        have C13 := hide (below_two C12.out hb13)
        have HR13 := hide (HR12.out.below hb13)
        have E13 := hide (ER.out w13 err13 (below_two HBw.out C13.out) he13)
        have HL13 := hide hl13
        clear hb13 he13 hl13
        go_wp2_with fail
        refine (E13.out).mono ?_
        rintro e w14 ⟨rfl, hb14⟩
        have C14 := hide (below_two C13.out hb14)
        have I14 := hide (ints_same hll (HL13.out.below hb14) (HR13.out.below hb14))
        clear hb14 E13
        go_wp2_with fail
        refine (I14.out).mono ?_
        rintro e w15 ⟨rfl, hb15⟩
        have C15 := hide (below_two C14.out hb15)
        clear hb15 I14
        go_wp2
        go_ret
        exact ⟨rfl, below_two HBw.out C15.out⟩

theorem tells_walk {w : World} (k : Int) (v : Value) (len : Nat) (f : Nat → Int) (hv : IntsAt w v len f) (hg : HasErr w) :
    Calls Tryd.prog 3 #[.int .i64 k, v] w fun e w' => e = .returned (.bool true) ∧ Below w.heap.size w w' := by
  by_cases hf : fS k len f = 0
  · obtain ⟨hl, hk, hs⟩ := fS_ok hf
    obtain ⟨n, rfl⟩ : ∃ n : Nat, k = (n : Nat) := ⟨k.toNat, by omega⟩
    have es : ∀ i, i < len → f i = (((f i).toNat : Nat) : Int) := fun i hi => by have := hs i hi; omega
    have hf' : fS n len (fun i => (((f i).toNat : Nat) : Int)) = 0 := by
      unfold fS
      rw [if_neg (by omega), if_pos hk, if_neg (fun ⟨j, hj, hb⟩ => by have := hs j hj; have hb' : badS (((f j).toNat : Nat) : Int) = true := hb; unfold badS at hb'; rw [decide_eq_true (by omega)] at hb'; cases hb')]
    exact tells_ok n v len (fun i => (f i).toNat) (hv.congr es) hl (by omega) (by omega) (fun j hj => by have := hs j hj; omega) hf' hg
  · exact tells_bad k v len f hv hf hg
end Go.Proofs.YtakaeikobahaoaaDoor
