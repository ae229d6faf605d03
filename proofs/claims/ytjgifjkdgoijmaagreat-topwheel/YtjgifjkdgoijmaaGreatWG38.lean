/-
  Lemmas for the law above, joined into one text (TopWhN, TopWh). No statement is proved here.
-/
import Derived.Test.YtjgifjkdgoijmaaGreatWG34
import Derived.Test.YtjgifjkdgoijmaaGreatWG36
import Derived.Test.YtjgifjkdgoijmaaGreatWG37
import Derived.Test.YtjgifjkdgoijmaaGreatWG22
namespace Go.Proofs.YtjgifjkdgoijmaaGreat
open Go.RowKit Go.Maps
set_option linter.unusedVariables false
set_option maxRecDepth 100000

/-- An Ear and an Air, whose blocks came behind w0. -/
structure WA (w0 wr : World) (k z n : Nat) (a : Option Addr) (dr : Int) (F : List Drp) (M : Nat → Prop) (b : Nat) (v : Value) (X : List Drp) (g : Nat → ByteArray) : Prop where
  ear : ESt peelI0 wr (.pointer a) k z n dr F M
  air : AQ wr w0.heap.size b v X
  made : Made g k F
  madeX : Made g k X
  rng : -9223372036854775808 ≤ dr ∧ dr ≤ 9223372036854775807
  inM : ∀ i, M i → w0.heap.size ≤ i
  ap : ∀ i, M i → ¬ AF b v i
  below : Below w0.heap.size w0 wr
variable {w0 wr w' : World} {k z n : Nat} {a : Option Addr} {dr : Int} {F : List Drp} {M : Nat → Prop} {b : Nat} {v : Value} {X X' : List Drp} {g : Nat → ByteArray}
theorem WA.grow (h : WA w0 wr k z n a dr F M b v X g) (hb : Below wr.heap.size wr w') : WA w0 w' k z n a dr F M b v X g :=
  ⟨h.ear.below hb, h.air.below hb, h.made, h.madeX, h.rng, h.inM, h.ap, below_two h.below hb⟩
theorem WA.step (h : WA w0 wr k z n a dr F M b v X g) (hm : Moved wr w0.heap.size b v X' w') (hX : Made g k X') : ∃ v', WA w0 w' k z n a dr F M b v' X' g := by
  obtain ⟨v', h1, h2, h3⟩ := hm
  refine ⟨v', h.ear.kept h2 h.ap, h1, h.made, hX, h.rng, h.inM, fun i hi ha => ?_, kept_below h.below h2 fun i hi => (h.air.lt i hi).1⟩
  rcases ha with e | e
  · exact h.ap i hi (Or.inl e)
  · rcases h3 i e with h9 | h9
    · exact h.ap i hi (Or.inr h9)
    · have := h.ear.lt i hi; omega
theorem WA.hear (h : WA w0 wr k z n a dr F M b v X g) (hz : (g 0).size = z) (hl : F.length < 60) (s : Nat) (hs : 1 ≤ s ∧ s ≤ 10000) (d : ByteArray) (hd : d = dropB g k s) :
    Calls Tryz.prog 14 #[.pointer a, .agg #[.int .i64 s, .string d]] wr fun e w' => ∃ (kn m : Nat) (d2 : Int) (M2 : Nat → Prop), e = .returned (.tuple #[.agg #[.int .i64 d2, .int .i64 m, .int .i64 kn], .nilIface]) ∧ WA w0 w' k z n a d2 (eAdd F s d) M2 b v X g := by
  subst hd
  exact (hear_from peel_ptr h.ear h.below h.inM s (dropB g k s) (eF_made h.ear.ok hs (by rw [dropB_size, hz]) hl) h.rng).mono fun e w' ⟨q, M2, hT, he, hE, hM', hb', hk, hf⟩ =>
    ⟨_, _, _, M2, he, hE, h.air.kept hk (fun i ha hi => h.ap i hi ha), h.made.add, h.madeX, wrap_rng _, hM', fun i hi ha => (hf i hi).elim (fun e => h.ap i e ha) fun e => by have := (h.air.lt i ha).2; omega, hb'⟩
/-- Each block comes, or was heard. -/
def Cov (k : Nat) (X F : List Drp) : Prop := ∀ i, i < k → i + 1 ∈ sds X ∨ i + 1 ∈ sds F
theorem mem_erase {X : List Drp} {i : Nat} {x : Drp} (hi : i < X.length) (h : x ∈ X) : x = dAt X i ∨ x ∈ X.eraseIdx i := by
  induction X generalizing i with
  | nil => cases h
  | cons y X ih =>
    cases i with
    | zero =>
      rcases List.mem_cons.1 h with rfl | h
      · exact Or.inl (by simp [dAt])
      · exact Or.inr (by simpa using h)
    | succ i =>
      have e : dAt (y :: X) (i + 1) = dAt X i := by simp [dAt]
      rw [e, List.eraseIdx_cons_succ]
      rcases List.mem_cons.1 h with rfl | h
      · exact Or.inr (by simp)
      · rcases ih (by simpa using hi) h with h9 | h9
        · exact Or.inl h9
        · exact Or.inr (List.mem_cons_of_mem _ h9)
theorem Cov.give {i : Nat} {d : ByteArray} (h : Cov k X F) (hi : i < X.length) : Cov k (X.eraseIdx i) (eAdd F (dAt X i).1 d) := fun p hp => by
  rcases h p hp with h | h
  · obtain ⟨x, hx, e⟩ := List.mem_map.1 h
    rcases mem_erase hi hx with rfl | h9
    · exact Or.inr (eAdd_sds.2 (Or.inr e.symm))
    · exact Or.inl (List.mem_map.2 ⟨x, h9, e⟩)
  · exact Or.inr (eAdd_sds.2 (Or.inl h))
theorem Made.erase {i : Nat} (h : Made g k X) : Made g k (X.eraseIdx i) := fun d hd => h d ((List.eraseIdx_sublist X i).subset hd)
theorem Made.snoc {s : Nat} (h : Made g k X) : Made g k (X ++ [(s, dropB g k s)]) := fun d hd => by
  rcases List.mem_append.1 hd with hd | hd
  · exact h d hd
  · rw [List.mem_singleton.1 hd]
theorem Cov.more {d : Drp} (h : Cov k X F) : Cov k (X ++ [d]) F := fun p hp => (h p hp).imp (fun h => by unfold sds; rw [List.map_append]; exact List.mem_append_left _ h) id
theorem Cov.full {nn : Nat} (h : Cov k [] F) (hO : FOk k z nn F) : rkL (mS k (sds F)) = k := by
  have h1 := full_rank hO
  have h2 := rkL_sub (A := preL unit k) (B := mS k (sds F)) fun v hv => by
    obtain ⟨i, hi, rfl⟩ := mem_preL.1 hv
    rcases h i hi with h9 | h9
    · cases h9
    · refine List.mem_map.2 ⟨_, h9, ?_⟩
      show maskL (setL k (i + 1)) = unit i
      rw [setL_one (by omega), Nat.add_sub_cancel, maskL_unit]
  have h3 := units_span (L := []) (k := k) (fun v hv => by cases hv)
  rw [List.nil_append] at h3
  omega
end Go.Proofs.YtjgifjkdgoijmaaGreat

namespace Go.Proofs.YtjgifjkdgoijmaaGreat
open Go.RowKit Go.Maps
set_option linter.unusedVariables false
set_option maxRecDepth 100000

set_option maxHeartbeats 8000000 in
theorem wheel_walk {w : World} (t : ByteArray) (wt : t.size ≤ maxLen) (zi ei fi : Int) (v : Value) (len : Nat) (f : Nat → Int) (hv : IntsAt w v len f) :
    Calls Tryz.prog 3 #[.string t, .int .i64 zi, .int .i64 ei, .int .i64 fi, v] w fun e w' => e = .returned (.bool true) ∧ Below w.heap.size w w' := by
  have O := hide (one_true w)
  have HST := hide (split_ways t zi wt)
  have HV := hide hv
  obtain ⟨av, capv, rfl, hv0⟩ := hv.open
  have HV0 := hide hv0
  clear hv hv0
  go_enter Tryz.func3, Tryz.ntmps3
  go_wp2_with fail
  refine (O.out).mono ?_
  rintro e w1 ⟨rfl, hb1⟩
  have HB1 := hide hb1
  clear hb1 O
  rcases HST.out with ⟨x, hx⟩ | ⟨z, hz, h1, h8, h120, hc, hS⟩
  · have S := hide (hx w1)
    clear hx HST
    go_wp2_with fail
    refine (S.out).mono ?_
    rintro e w2 ⟨rfl, rfl⟩
    go_wp2
    go_ret
    exact ⟨rfl, HB1.out⟩
  subst hz
  have S := hide (hS w1)
  obtain ⟨k, hk⟩ : ∃ k, cntN t.size z = k := ⟨_, rfl⟩
  obtain ⟨g, hgg⟩ : ∃ g, blkB t.data.toList z = g := ⟨_, rfl⟩
  have HK := hide hk
  have HGG := hide hgg
  have hz0 : Hid ((g 0).size = z) := by rw [← hgg]; exact blkB_size _ _ _
  rw [hk, hgg] at S
  rw [hk] at hc
  have hk1 : 1 ≤ k := by rw [← hk]; unfold cntN; omega
  clear hk hgg hS HST
  go_wp2_with fail
  refine (S.out).mono ?_
  rintro e w2 ⟨rfl, hB, hb2⟩
  have HB2 := hide (below_two HB1.out hb2)
  have HBk := hide hB
  clear hB hb2 S
  by_cases he1 : ei < 0
  · go_wp2
    go_ret
    exact ⟨rfl, HB2.out⟩
  by_cases he2 : 16 < ei
  · go_wp2
    go_ret
    exact ⟨rfl, HB2.out⟩
  obtain ⟨e, rfl⟩ : ∃ e : Nat, ei = (e : Int) := ⟨ei.toNat, by omega⟩
  obtain ⟨m, hm⟩ : ∃ m : Nat, k + e = m := ⟨_, rfl⟩
  have hm2 : (k : Int) + (e : Int) = (m : Int) := by omega
  have hm60 : m ≤ 32 := by omega
  have hm0 : 1 ≤ m := by omega
  by_cases hsp : ¬ SpOk fi (m : Int)
  · have R := hide (wrow_range (k : Nat) (e : Nat) fi (m : Nat) w2 (Or.inr hsp))
    clear hsp
    go_wp2_with fail
    refine (R.out).mono ?_
    rintro e1 w3 ⟨rfl, rfl⟩
    go_wp2
    go_ret
    exact ⟨rfl, HB2.out⟩
  have hsp' := Classical.not_not.1 hsp
  obtain ⟨fr, rfl⟩ : ∃ fr : Nat, fi = (fr : Int) := ⟨fi.toNat, by unfold SpOk at hsp'; omega⟩
  have hfr : fr + m ≤ 1000 := by unfold SpOk at hsp'; omega
  have R := hide (wrow_ok k e fr m w2 hk1 hc (by omega) (by omega) hfr)
  clear hsp hsp'
  obtain ⟨bk, hbk⟩ : ∃ bk, w1.heap.size = bk := ⟨_, rfl⟩
  rw [hbk] at HBk
  go_wp2_with fail
  refine (R.out).mono ?_
  rintro e1 w3 ⟨rfl, hrow, hb3⟩
  have HB3 := hide (below_two HB2.out hb3)
  have HRw := hide hrow
  have HBk3 := hide (HBk.out.below hb3)
  obtain ⟨rb, hrb⟩ : ∃ rb, w2.heap.size = rb := ⟨_, rfl⟩
  rw [hrb] at HRw
  clear hb3 hrow R HBk
  have AN := hide (anew_ok w3.heap.size w3 (Nat.le_refl _))
  have NW := hide (fun W => enew_ok k z t.size W ⟨⟨hk1, hc⟩, h1, h8⟩ h120 HK.out)
  go_wp2_with fail
  refine (AN.out).mono ?_
  rintro e1 w4 ⟨rfl, hA4, hb4⟩
  have HA4 := hide hA4
  have HB4 := hide hb4
  have hbl := (hA4.lt w3.heap.size (Or.inl rfl)).2
  clear hA4 hb4 AN
  go_wp2_with fail
  refine (NW.out _).mono ?_
  rintro e1 w5 ⟨v5, M, rfl, hE, hM, hb5⟩
  obtain ⟨a1, rfl⟩ := hE.ptr
  obtain ⟨b, hb⟩ : ∃ b, w3.heap.size = b := ⟨_, rfl⟩
  have HW : Hid (WA w3 w5 k z t.size a1 0 [] M b (.slice none 0 0) [] g) := ⟨hE, by rw [← hb]; exact HA4.out.below hb5, made_none _ _, made_none _ _, by decide, fun i hi => Nat.le_trans HB4.out.size (hM i hi), fun i hi ha => by
    have := hM i hi
    rcases ha with rfl | ha
    · omega
    · exact (nomatch ha), below_two HB4.out hb5⟩
  clear hE hM hb5 NW HA4 HB4 hbl
  go_wp2_with fail
  clear hb hrb hbk
  go_loopw [18] (fun i wr => ∃ j : Nat, j ≤ m ∧ i = .int .i64 j ∧ ∃ (v : Value) (X : List Drp), WA w3 wr k z t.size a1 0 [] M b v X g ∧ X.length = j ∧ ∀ i, i < j → whAt k e (fr + i) ∈ sds X) (fun i _ => m - (intOf i).toNat)
  case atStart => exact ⟨0, Nat.zero_le _, rfl, _, _, HW.out, rfl, fun i hi => absurd hi (Nat.not_lt_zero _)⟩
  case round =>
    obtain ⟨j, hj, rfl, v, X, hW, hX, hcov⟩ := hrel
    have HWr := hide hW
    have HCov := hide hcov
    clear hW hcov HW
    by_cases hlt : j < m
    · have hcj := cell_below HWr.out.below (HRw.out j hlt).1
      have hpos := whAt_pos (k := k) (e := e) (t := fr + j)
      have hle := whAt_le (k := k) (e := e) (t := fr + j)
      obtain ⟨n1, hn1⟩ : ∃ n, whAt k e (fr + j) = n := ⟨_, rfl⟩
      have hcj' : wr.cell? ⟨rb, j, none⟩ = some (.int .i64 (n1 : Nat)) := by rw [← hn1]; exact hcj
      rw [hn1] at hpos hle
      have hB := HBk3.out.below HWr.out.below
      obtain ⟨d1, hd1⟩ : ∃ d, dropB g k n1 = d := ⟨_, rfl⟩
      have hdz : d1.size = z := by rw [← hd1, dropB_size]; exact hz0.out
      have HD1 := hide hd1
      have MK := hide (make_ok bk 0 k k g n1 wr hB.pos hB.most hB.cells hB.one hB.eight hB.same hpos (by omega))
      unfold dropV at MK
      rw [hd1] at MK
      have HN1 := hide hn1
      clear hcj hB hd1 hn1
      go_wp2_with fail
      refine (MK.out).mono ?_
      rintro e1 w7 ⟨rfl, hb7⟩
      have HW8 := hide ((HWr.out.grow hb7).grow ((Below.refl _ w7).alloc (Nat.le_refl _) (.cells #[.int .i64 (n1 : Nat), .string d1] 37)))
      have SN := hide (asend_ok n1 d1 HW8.out.air (by unfold aF; rw [if_neg (by omega), if_neg (by omega), if_neg (by omega)]))
      unfold dropV at SN
      clear hb7 MK hcj' HWr
      go_wp2_with fail
      generalize w7.alloc (.cells #[.int .i64 (n1 : Nat), .string d1] 37) = w8 at *
      refine (SN.out).mono ?_
      rintro e1 w9 ⟨rfl, hm9⟩
      obtain ⟨v', hW9⟩ := HW8.out.step hm9 (by rw [← HD1.out]; exact HW8.out.madeX.snoc)
      have HW9 := hide hW9
      have HCov2 : Hid (∀ i, i < j + 1 → whAt k e (fr + i) ∈ sds (X ++ [(n1, d1)])) := fun i hi => by
        rw [sds_add]
        by_cases e1 : i = j
        · rw [e1, HN1.out]; simp
        · exact List.mem_append_left _ (HCov.out i (by omega))
      clear hm9 hW9 SN HW8
      go_wp2
      go_roundw
      case rel => exact ⟨j + 1, by omega, by go_num, v', X ++ [(n1, d1)], HW9.out, by simp; omega, HCov2.out⟩
      case measure => simp [intOf]; omega
    · obtain rfl : j = m := by omega
      have HC0 : Hid (Cov k X []) := fun i hi => by
        obtain ⟨q, hq, hx⟩ := wh_all (k := k) (e := e) (t := fr) (i := i + 1) (by omega) (by omega)
        rw [← hx]
        exact Or.inl (HCov.out q (by omega))
      have hX32 : X.length ≤ 32 := by omega
      clear HCov hX hj hlt HRw
      go_wp2_with fail
      go_loopw [21] (fun i wr => ∃ j : Nat, j ≤ len ∧ j ≤ 20 ∧ i = .int .i64 j ∧ ∃ (dr : Int) (F : List Drp) (M : Nat → Prop) (v : Value) (X : List Drp), WA w3 wr k z t.size a1 dr F M b v X g ∧ F.length ≤ j ∧ X.length ≤ 32 ∧ Cov k X F) (fun i _ => len - (intOf i).toNat)
      case atStart => exact ⟨0, Nat.zero_le _, by omega, rfl, 0, [], M, v, X, HWr.out, by simp, hX32, HC0.out⟩
      case round =>
        obtain ⟨j2, hj2, hj20, rfl, dr, F, M, v, X, hW, hF, hX, hcov⟩ := hrel
        have HW2 := hide hW
        have HCv := hide hcov
        clear hW hcov HWr HC0
        by_cases hin : j2 < len ∧ j2 < 20
        · obtain ⟨hlt2, hlt20⟩ := hin
          obtain ⟨bs, os, rfl, hcs1, hcs2, hcs3⟩ := HV0.out (by omega)
          have hcw := cell_below HB3.out (hcs3 j2 hlt2)
          have HCW := hide hcw
          have hcj := cell_below HW2.out.below hcw
          unfold maxLen at hcs2
          clear hcs3 hcw
          by_cases ho : f j2 < 0 ∨ (X.length : Int) ≤ f j2
          · have TW := hide (atwice_out HW2.out.air ho)
            have GV := hide (agive_out HW2.out.air ho)
            unfold dropV at GV
            clear ho
            generalize f j2 = fj at *
            go_wp2_with fail
            refine (TW.out).mono ?_
            rintro e1 w7 ⟨rfl, rfl⟩
            go_wp2_with fail
            refine (GV.out).mono ?_
            rintro e1 w8 ⟨rfl, hb8⟩
            have HW8 := hide ((HW2.out.grow hb8).grow ((Below.refl _ w8).alloc (Nat.le_refl _) (.cells #[.int .i64 0, .string ⟨#[]⟩] 37)))
            clear hb8 TW GV HW2 hcj
            go_wp2
            go_roundw
            case rel => exact ⟨j2 + 1, by omega, by omega, by go_num, dr, F, M, v, X, HW8.out, by omega, hX, HCv.out⟩
            case measure => simp [intOf]; omega
          · obtain ⟨q, hq⟩ : ∃ q : Nat, f j2 = (q : Int) := ⟨(f j2).toNat, by omega⟩
            have hqX : q < X.length := by omega
            rw [hq] at hcj HCW
            clear ho hq
            have hgq := HW2.out.air.good _ (dAt_mem hqX)
            have hmq := HW2.out.madeX _ (dAt_mem hqX)
            have TW := hide (atwice_in HW2.out.air hqX)
            have haf : aF X.length ((dAt X q).1 : Nat) (dAt X q).2.size = 0 := by rw [aF_of_good hgq, if_neg (by omega)]
            have hput : aPut X ((dAt X q).1 : Nat) (dAt X q).2 = X ++ [dAt X q] := by unfold aPut; rw [if_pos haf]; rfl
            rw [haf, hput] at TW
            have hae : aErr 0 = .nilIface := rfl
            rw [hae] at TW
            clear haf hput hae
            go_wp2_with fail
            refine (TW.out).mono ?_
            rintro e1 w7 ⟨rfl, hm7⟩
            obtain ⟨v7, hW7⟩ := HW2.out.step hm7 (fun d hd => by
              rcases List.mem_append.1 hd with hd | hd
              · exact HW2.out.madeX d hd
              · rw [List.mem_singleton.1 hd]; exact hmq)
            have HW7 := hide hW7
            obtain ⟨X1, hX1⟩ : ∃ X1, X ++ [dAt X q] = X1 := ⟨_, rfl⟩
            have HC1 : Hid (Cov k X1 F) := by rw [← hX1]; exact HCv.out.more
            have hl1 : X1.length = X.length + 1 := by rw [← hX1]; simp
            rw [hX1] at HW7
            have hq1 : q < X1.length := by omega
            have GV := hide (agive_in HW7.out.air hq1)
            have hg1 := HW7.out.air.good _ (dAt_mem hq1)
            have hm1 := HW7.out.madeX _ (dAt_mem hq1)
            have hcj7 := cell_below HW7.out.below HCW.out
            have HME : Hid (Made g k (X1.eraseIdx q)) := HW7.out.madeX.erase
            have HCE : Hid (Cov k (X1.eraseIdx q) (eAdd F (dAt X1 q).1 (dAt X1 q).2)) := HC1.out.give hq1
            have hle : (X1.eraseIdx q).length = X1.length - 1 := List.length_eraseIdx_of_lt hq1
            unfold dropV at GV
            clear hm7 hW7 hX1 TW HW2 hcj
            generalize X1.eraseIdx q = X2 at *
            generalize dAt X1 q = x at *
            obtain ⟨n1, d1⟩ := x
            simp only at GV hg1 hm1 HCE
            have HM1 := hide hm1
            go_wp2_with fail
            refine (GV.out).mono ?_
            rintro e1 w8 ⟨rfl, hm8⟩
            obtain ⟨v8, hW8⟩ := HW7.out.step hm8 HME.out
            have HW8 := hide (hW8.grow ((Below.refl _ w8).alloc (Nat.le_refl _) (.cells #[.int .i64 (n1 : Nat), .string d1] 37)))
            have HR := hide (HW8.out.hear hz0.out (by omega) n1 ⟨hg1.1, hg1.2.1⟩ d1 HM1.out)
            have hla : (eAdd F n1 d1).length ≤ F.length + 1 := eAdd_len
            clear hm8 hW8 GV HW7 hcj7 hm1
            go_wp2_with fail
            generalize w8.alloc (.cells #[.int .i64 (n1 : Nat), .string d1] 37) = w9 at *
            refine (HR.out).mono ?_
            rintro e1 w10 ⟨kn, mm, d2, M2, rfl, hW10⟩
            have HW10 := hide hW10
            clear hW10 HR HW8
            generalize eAdd F n1 d1 = F2 at *
            go_wp2
            go_roundw
            case rel => exact ⟨j2 + 1, by omega, by omega, by go_num, d2, F2, M2, v8, X2, HW10.out, by omega, by omega, HCE.out⟩
            case measure => simp [intOf]; omega
        · go_upto_region 21 with fail
          go_cut [105] (fun t wx => t = .bool false ∧ wr = wx)
          case first =>
            by_cases hlt2 : j2 < len
            · have hA : ¬ j2 < 20 := fun h => hin ⟨hlt2, h⟩
              clear hin
              go_wp2
              go_meet
              exact ⟨by first | rfl | (simp; omega), rfl⟩
            · obtain rfl : j2 = len := by omega
              clear hin
              go_wp2
              go_meet
              exact ⟨by first | rfl | simp, rfl⟩
          case rest =>
          obtain ⟨ht1, hw1⟩ := hcut
          subst ht1 hw1
          clear hin
          go_wp2_with fail
          go_loopw [24] (fun i wr => ∃ j : Nat, i = .int .i64 j ∧ ∃ (dr : Int) (F : List Drp) (M : Nat → Prop) (v : Value) (X : List Drp), WA w3 wr k z t.size a1 dr F M b v X g ∧ F.length + X.length ≤ 52 ∧ X.length + j ≤ 32 ∧ Cov k X F) (fun i _ => 33 - (intOf i).toNat)
          case atStart => exact ⟨0, rfl, dr, F, M, v, X, HW2.out, by omega, by omega, HCv.out⟩
          case round =>
            obtain ⟨j3, rfl, dr, F, M, v, X, hW, hF3, hX3, hcov⟩ := hrel
            have HW3 := hide hW
            have HC3 := hide hcov
            clear hW hcov HW2 HCv
            have AL := hide (aall_ok HW3.out.air)
            go_wp2_with fail
            refine (AL.out).mono ?_
            rintro e1 w7 ⟨vA, rfl, hoA, hb7⟩
            obtain ⟨aA, cA, rfl⟩ := own_slice hoA
            have HW7 := hide (HW3.out.grow hb7)
            clear hoA hb7 AL HW3
            by_cases h0 : X.length = 0
            · obtain rfl : X = [] := List.eq_nil_of_length_eq_zero h0
              have hrk := HC3.out.full HW7.out.ear.ok
              have DT := hide (data_text (t := t) HW7.out.ear (by rw [HGG.out]; exact HW7.out.made))
              have DN : Hid (∀ W, Below w7.heap.size w7 W → Calls Tryz.prog 17 #[.pointer a1] W fun e w' => e = .returned (.bool true) ∧ Below W.heap.size W w') := fun W hb => by
                have h9 := done_ok (HW7.out.ear.below hb)
                rw [hrk, decide_eq_true rfl] at h9
                exact h9
              have LK : Hid (∀ W, Below w7.heap.size w7 W → Calls Tryz.prog 18 #[.pointer a1] W fun e w' => ∃ a c, e = .returned (.slice a 0 c) ∧ Below W.heap.size W w') := fun W hb => by
                have hl := lack_len (L := mS k (sds F)) (k := k) (mS_lt hk1 fun x hx => (HW7.out.ear.ok.seeds x hx).1)
                rw [hrk] at hl
                refine (elacks_ok (HW7.out.ear.below hb)).mono fun e w' ⟨vo, he, ho, hb2⟩ => ?_
                obtain ⟨a, c, rfl⟩ := own_slice ho
                rw [show (upL (mS k (sds F)) unit k).length = 0 by omega] at he
                exact ⟨a, c, he, hb2⟩
              have HBw := hide (below_two HB3.out HW7.out.below)
              simp only [List.length_nil]
              go_wp2_with fail
              refine (DT.out).mono ?_
              rintro e1 w19 ⟨x, s, rfl, hx, hb19⟩
              obtain ⟨rfl, rfl⟩ : x = 0 ∧ s = t := by
                rcases hx with ⟨_, h1, h2⟩ | ⟨h1, _⟩
                · exact ⟨h1, h2⟩
                · omega
              have ht : Tell 0 = .nilIface := rfl
              rw [ht]
              have hq : (s.toList == s.toList) = true := by simp
              have DN19 := hide (DN.out w19 hb19)
              have HB19 := hide (below_two HBw.out hb19)
              have LK19 := hide (fun W (hb : Below w19.heap.size w19 W) => LK.out W (below_two hb19 hb))
              clear hx hb19 DT DN LK HW7 hrk
              go_wp2_with fail
              refine (DN19.out).mono ?_
              rintro e1 w20 ⟨rfl, hb20⟩
              have LK20 := hide (LK19.out w20 hb20)
              have HB20 := hide (below_two HB19.out hb20)
              clear hb20 LK19 DN19
              go_wp2_with fail
              refine (LK20.out).mono ?_
              rintro e1 w21 ⟨aa, cc, rfl, hb21⟩
              have HB21 := hide (below_two HB20.out hb21)
              clear hb21 LK20
              go_wp2
              go_ret
              exact ⟨by first | rfl | simp, HB21.out⟩
            · have AL7 := hide (aall_ok HW7.out.air)
              obtain ⟨q, hq⟩ : ∃ q : Nat, X.length - 1 = q := ⟨_, rfl⟩
              have e2 : (X.length : Int) - 1 = (q : Int) := by omega
              have hp : (0 : Int) < (X.length : Int) := by omega
              have hqX : q < X.length := by omega
              go_wp2_with fail
              refine (AL7.out).mono ?_
              rintro e1 w8 ⟨vA, rfl, hoA, hb8⟩
              obtain ⟨aB, cB, rfl⟩ := own_slice hoA
              have HW8 := hide (HW7.out.grow hb8)
              have GV := hide (agive_in HW8.out.air hqX)
              have hg1 := HW8.out.air.good _ (dAt_mem hqX)
              have hm1 := HW8.out.madeX _ (dAt_mem hqX)
              have HME : Hid (Made g k (X.eraseIdx q)) := HW8.out.madeX.erase
              have HCE : Hid (Cov k (X.eraseIdx q) (eAdd F (dAt X q).1 (dAt X q).2)) := HC3.out.give hqX
              have hle : (X.eraseIdx q).length = X.length - 1 := List.length_eraseIdx_of_lt hqX
              unfold dropV at GV
              clear hoA hb8 AL7 HW7 hq
              generalize X.eraseIdx q = X2 at *
              generalize dAt X q = x at *
              obtain ⟨n1, d1⟩ := x
              simp only at GV hg1 hm1 HCE
              have HM1 := hide hm1
              clear hm1
              go_wp2_with fail
              refine (GV.out).mono ?_
              rintro e1 w9 ⟨rfl, hm9⟩
              obtain ⟨v9, hW9⟩ := HW8.out.step hm9 HME.out
              have HW9 := hide (hW9.grow ((Below.refl _ w9).alloc (Nat.le_refl _) (.cells #[.int .i64 (n1 : Nat), .string d1] 37)))
              have HR := hide (HW9.out.hear hz0.out (by omega) n1 ⟨hg1.1, hg1.2.1⟩ d1 HM1.out)
              have hla : (eAdd F n1 d1).length ≤ F.length + 1 := eAdd_len
              clear hm9 hW9 GV HW8
              go_wp2_with fail
              generalize w9.alloc (.cells #[.int .i64 (n1 : Nat), .string d1] 37) = w10 at *
              refine (HR.out).mono ?_
              rintro e1 w11 ⟨kn, mm, d2, M2, rfl, hW11⟩
              have HW11 := hide (hW11.grow ((Below.refl _ w11).alloc (Nat.le_refl _) (.cells #[.int .i64 d2, .int .i64 mm, .int .i64 kn] 44)))
              clear hW11 HR HW9
              generalize eAdd F n1 d1 = F2 at *
              go_wp2
              go_roundw
              case rel => exact ⟨j3 + 1, by go_num, d2, F2, M2, v9, X2, HW11.out, by omega, by omega, HCE.out⟩
              case measure => simp [intOf]; omega
end Go.Proofs.YtjgifjkdgoijmaaGreat
