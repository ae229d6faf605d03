/-
  Lemmas for the law above, joined into one text (Told, ErrIs, PicErr, TfW). No statement is proved here.
-/
import Derived.Test.YtjhflcgphejddaaGreatDoorZAs
import Derived.Test.YtjhflcgphejddaaGreatDoorZG17
import Derived.Test.YtjhflcgphejddaaGreatDoorZG5
import Derived.Test.YtjhflcgphejddaaGreatDoorZG41
import Derived.Test.YtjhflcgphejddaaGreatDoorZG8
import Derived.Test.YtjhflcgphejddaaGreatDoorZG33
import Derived.Deep.RegionHeld3
import Derived.Deep.DeepCutAuto
namespace Go.Proofs.YtjhflcgphejddaaGreatDoor
open Go.RowKit Go.Extern.Stop Go.Stop Go.Extern
set_option linter.unusedVariables false
set_option maxRecDepth 100000

/-- What the row's list of variables gives: the cell of errors.errorType. -/
def HasErr (w : World) : Prop := w.cell? ⟨0, 0, none⟩ = some (.iface 203 (.agg #[.pointer (some ⟨2, 27, none⟩)]))
theorem HasErr.lt {w : World} (h : HasErr w) : 0 < w.heap.size := by
  rcases Nat.lt_or_ge 0 w.heap.size with h' | h'
  · exact h'
  · simp [HasErr, World.cell?, Array.getElem?_eq_none h'] at h
theorem HasErr.below {w w' : World} (h : HasErr w) {B : Nat} (hB : 0 < B) (hb : Below B w w') : HasErr w' :=
  (hb.cell (p := ⟨0, 0, none⟩) hB).trans h

theorem told_nil (w : World) : Calls Tryz.prog 27 #[.nilIface] w fun e w' => e = .returned (.int .i64 0) ∧ w = w' := by
  go_enter Tryz.func27, Tryz.ntmps27
  go_wp2
  go_ret
  exact ⟨rfl, rfl⟩
set_option maxHeartbeats 1000000 in
theorem told_hit (n : Int) (w : World) (hg : HasErr w) : Calls Tryz.prog 27 #[.iface 61 (.int .i64 n)] w fun e w' => e = .returned (.int .i64 n) ∧ Below w.heap.size w w' := by
  have hA := as_hit n ⟨w.heap.size, 0, none⟩ (.int .i64 0) (w.alloc (.cells #[.int .i64 0] 61)) (by rw [World.cell?_alloc_lt _ _ ⟨0, 0, none⟩ hg.lt]; exact hg) (by simp) (by simp)
  have K := hide hA
  clear hA
  go_enter Tryz.func27, Tryz.ntmps27
  go_wp2_with fail
  refine (K.out).mono ?_
  rintro e w1 ⟨rfl, rfl⟩
  go_wp2
  go_ret
  refine ⟨rfl, ?_⟩
  repeat (first | exact Below.refl _ _ | refine Below.alloc ?_ (by simp <;> omega) _)
theorem error_nil (x : Int) (w : World) : Calls Tryz.prog 7 #[.nilIface, .int .i64 x] w fun e w' => e = .returned (.bool (0 == x)) ∧ w = w' := by
  go_enter Tryz.func7, Tryz.ntmps7
  go_wp2_with fail
  refine (told_nil _).mono ?_
  rintro e w1 ⟨rfl, rfl⟩
  go_wp2
  go_ret
  exact ⟨rfl, rfl⟩
theorem error_hit (n x : Int) (w : World) (hg : HasErr w) : Calls Tryz.prog 7 #[.iface 61 (.int .i64 n), .int .i64 x] w fun e w' => e = .returned (.bool (n == x)) ∧ Below w.heap.size w w' := by
  go_enter Tryz.func7, Tryz.ntmps7
  go_wp2_with fail
  refine (told_hit _ _ hg).mono ?_
  rintro e w1 ⟨rfl, hb⟩
  go_wp2
  go_ret
  exact ⟨rfl, hb⟩

/-! What the row's list gives a walk, and a world that meets it. -/
theorem errGlobal : Tryz.prog.globalNamed "errors.errorType" = some 0 := by kernel_rfl
theorem errRt : (Tryz.prog.cutTypes.find? (·.1 == "internal/reflectlite.rtype")).map (·.2) = some 203 := by kernel_rfl
theorem errOneRow : ((List.range 285).filter fun t => Tryz.prog.rowNamed t [101, 114, 114, 111, 114]) = [27] := by kernel_rfl
theorem errSize : Tryz.prog.types.size = 285 := by kernel_rfl
theorem hasErr_of_laid {W : World} (h : laidMetH Tryz.prog [("errors.errorType", Rows.laid_errors_errorType)] W) : HasErr W := by
  have h' : laidMet Tryz.prog [] W ∧ handlesMet Tryz.prog [("errors.errorType", Rows.laid_errors_errorType)] W := h
  obtain ⟨name, u, ty, e1, e2, e3, e4, e5⟩ := h'.2 _ (List.mem_singleton.2 rfl)
  have en : name = [101, 114, 114, 111, 114] := (Option.some.inj e1).symm
  subst en
  obtain rfl := Option.some.inj (errRt.symm.trans e2)
  have hm : ty ∈ (List.range 285).filter fun t => Tryz.prog.rowNamed t [101, 114, 114, 111, 114] := List.mem_filter.2 ⟨List.mem_range.2 (by rw [← errSize]; exact e3), e4⟩
  rw [errOneRow] at hm
  obtain rfl := List.mem_singleton.1 hm
  have hh : typeHandle Tryz.prog 27 = .pointer (some ⟨2, 27, none⟩) := by kernel_rfl
  rw [hh] at e5
  have := World.var?_cell errGlobal e5 0
  simpa [HasErr] using this
end Go.Proofs.YtjhflcgphejddaaGreatDoor

namespace Go.Proofs.YtjhflcgphejddaaGreatDoor
open Go.RowKit
set_option linter.unusedVariables false
set_option maxRecDepth 100000

theorem error_right (x : Int) (err : Value) (w : World) (hg : HasErr w) (h : ErrIs x err) :
    Calls Tryz.prog 7 #[err, .int .i64 x] w fun e w' => e = .returned (.bool true) ∧ Below w.heap.size w w' := by
  rcases h with ⟨rfl, rfl⟩ | rfl
  · exact (error_nil 0 w).mono fun e w' ⟨he, hw⟩ => ⟨he, hw ▸ Below.refl _ _⟩
  · exact (error_hit x x w hg).mono fun e w' ⟨he, hb⟩ => ⟨by rw [he]; simp, hb⟩
end Go.Proofs.YtjhflcgphejddaaGreatDoor

namespace Go.Proofs.YtjhflcgphejddaaGreatDoor
open Go.RowKit
set_option linter.unusedVariables false
set_option maxRecDepth 100000

theorem errIs_N (k : Nat) : ErrIs (k : Int) (errN k) := by
  by_cases h : k = 0
  · subst h; exact Or.inl ⟨rfl, rfl⟩
  · exact Or.inr (errN_pos h)

end Go.Proofs.YtjhflcgphejddaaGreatDoor

namespace Go.Proofs.YtjhflcgphejddaaGreatDoor
open Go.ChangeShapes Go.WideShapes Go.ChangeAt Go.RowKit Go.Maps
set_option linter.unusedVariables false
set_option maxRecDepth 100000

set_option maxHeartbeats 8000000 in
theorem topfilm_walk {w : World} {v : Value} (N : Nat) (P : Nat → Pc) (hs : PicsIn w v N P) (ev st : Int) (vl : Value) (len : Nat) (f : Nat → Int) (hv : IntsAt w vl len f) (hg : HasErr w) :
    Calls Tryz.prog 3 #[v, .int .i64 ev, .int .i64 st, vl] w fun e w' => e = .returned (.bool true) ∧ Below w.heap.size w w' := by
  have ON := hide (one_true w)
  have EK := hide (fun (W : World) (hb : Below w.heap.size w W) (k : Nat) => error_right (k : Int) (errN k) W (hg.below hg.lt hb) (errIs_N k))
  have HP := hide hs
  have HIn := hide (fun s : Int => rin_at hv s)
  obtain ⟨adl, capl, rfl, hcl, hcm, h3⟩ := hs
  obtain ⟨avl, capvl, rfl, _⟩ := hv.open
  unfold maxLen at hcm
  have KB := hide (fun (W : World) (hb : Below w.heap.size w W) (hx : enfF N P ev st ≠ 0) => fenc_bad ev st (HP.out.below hb) hx)
  have KG := hide (fun (W : World) (hb : Below w.heap.size w W) A B (ok : FilOk N P ev st A B) => fenc_ok (HP.out.below hb) ok)
  have H3 := hide h3
  clear h3 hg hv
  go_enter Tryz.func3, Tryz.ntmps3
  go_wp2_with fail
  refine (ON.out).mono ?_
  rintro e w1 ⟨rfl, hb1⟩
  have B1 := hide hb1
  clear hb1 ON
  by_cases hx : enfF N P ev st = 0
  · obtain ⟨A, B, ok⟩ := enfF_zero.1 hx
    have K := hide (KG.out w1 B1.out A B ok)
    have h1N := ok.one
    have h6N := ok.six
    have s1 := ok.s1
    have s2 := ok.s2
    have KD := hide (fun (W : World) v (h : CodsIn W v N (filC A B (P 0).n ev.toNat st fun i => (P i).f)) => fdec_fil ok h1N (Nat.le_refl _) h)
    have HD := hide (film_near ok)
    have KU := hide (fun (W : World) i (hi : i < N) s s' (h : IntsIn W s (P 0).n (filT A B (P 0).n ev.toNat st (fun i => (P i).f) i)) (h' : IntsIn W s' (P 0).n (P i).f) => punlike_ok h h' (filT_ok (ok.pic 0 (by omega)) ev.toNat st (fun i => (P i).f) i) (ok.like hi).1)
    have HLk := hide (fun j (hj : j < N) => (ok.like hj).2)
    have KP := hide (fun (W : World) (u : Value) (h : CodsIn W u N (filC A B (P 0).n ev.toNat st fun i => (P i).f)) => pack_any (P 0).a (P 0).b st h)
    have HF4 := hide (byt_fil ok)
    have HSz := hide (fun (h : bytF (P 0).a (P 0).b st N (filC A B (P 0).n ev.toNat st fun i => (P i).f) = 0) => film_size h)
    have HFt : Hid (bytF (P 0).a (P 0).b st N (filC A B (P 0).n ev.toNat st fun i => (P i).f) = 0 → Fate (bytS (P 0).a (P 0).b st N (filC A B (P 0).n ev.toNat st fun i => (P i).f)) 0 (P 0).a (P 0).b st N (filC A B (P 0).n ev.toNat st fun i => (P i).f)) := fun h => Or.inr (Or.inr ⟨rfl, (film_size h).2, h, rfl⟩)
    have HPn : Hid ((P 0).n ≤ 36) := (ok.pic 0 (by omega)).le
    obtain ⟨bb, o, rfl, hc⟩ := H3.out (by omega)
    have HC := hide hc
    obtain ⟨s0, hs0⟩ := hc 0 (by omega)
    rw [show o + 0 * 3 = o by omega] at hs0
    have HS0 : Hid (w.cell? ⟨bb, o, none⟩ = some (.int .i64 (P 0).a) ∧ w.cell? ⟨bb, o + 1, none⟩ = some (.int .i64 (P 0).b)) := ⟨hs0.1, hs0.2.1⟩
    generalize bytF (P 0).a (P 0).b st N (filC A B (P 0).n ev.toNat st fun i => (P i).f) = BF at *
    generalize bytS (P 0).a (P 0).b st N (filC A B (P 0).n ev.toNat st fun i => (P i).f) = S at *
    generalize filT A B (P 0).n ev.toNat st (fun i => (P i).f) = T at *
    generalize filC A B (P 0).n ev.toNat st (fun i => (P i).f) = C at *
    generalize hpn : (P 0).n = pn at *
    generalize hpa : (P 0).a = pa at *
    generalize hpb : (P 0).b = pb at *
    clear hpn hpa hpb KB KG hx ok hc hs0 H3 HP
    go_wp2_with fail
    refine (K.out).mono ?_
    rintro e w4 ⟨u, rfl, hu, hb4⟩
    have B4 := hide (below_two B1.out hb4)
    have HU := hide hu
    obtain ⟨ad4, cp4, rfl, _, _, _⟩ := hu
    clear K hb4 B1
    have c0 := cell_below B4.out HS0.out.1
    have c1 := cell_below B4.out HS0.out.2
    have hN0 : ((N : Int) == 0) = false := by rw [beq_eq_false_iff_ne]; omega
    have h0N : (0 : Int) < (N : Int) := by omega
    have h0Nn : 0 < N := by omega
    have KP4 := hide (KP.out w4.drew _ (HU.out.below (Below.refl _ w4).drew))
    go_wp2_with fail
    go_region_held3 (fun w' => w'.cell? ⟨bb, o, none⟩ = some (.int .i64 pa) ∧ w'.cell? ⟨bb, o + 1, none⟩ = some (.int .i64 pb)) (first | go_keep | exact ⟨cell_below hb5 c0, cell_below hb5 c1⟩)
      (first | (go_at_call 6; refine (KP4.out).mono ?_; rintro e w5 ⟨rfl, hb5'⟩; have hb5 : Below w4.heap.size w4 w5 := ⟨hb5'.os, hb5'.tape, hb5'.output, hb5'.size, hb5'.block⟩))
    have B5 := hide (below_two B4.out hb5)
    have HU5 := hide (HU.out.below hb5)
    clear hb5 hb5' KP4 KP HU c0 c1
    by_cases hF : BF = 0
    · subst hF
      have e0 : errN 0 = .nilIface := rfl
      rw [e0]
      have hz := HSz.out rfl
      have HFa := hide (HFt.out rfl)
      obtain ⟨k, hk⟩ : ∃ k, cntN S.size 8 = k := ⟨_, rfl⟩
      obtain ⟨g, hgg⟩ : ∃ g, blkB S.data.toList 8 = g := ⟨_, rfl⟩
      have HGG := hide hgg
      have hz0 : Hid ((g 0).size = 8) := by rw [← hgg]; exact blkB_size _ _ _
      have hk1 : 1 ≤ k := by rw [← hk]; unfold cntN; omega
      have hk16 : k ≤ 16 := by rw [← hk]; unfold cntN; omega
      have SP := hide (split_eight hz.2 hk hgg w5)
      have NW := hide (fun W => enew_ok k 8 S.size W ⟨⟨hk1, hk16⟩, by omega, by omega⟩ hz.2 hk)
      clear HF4 HSz HFt hk hgg HU5
      go_wp2_with fail
      refine (SP.out).mono ?_
      rintro e w6 ⟨rfl, hB, hb6⟩
      have B6 := hide (below_two B5.out hb6)
      have HBk := hide hB
      clear hB hb6 SP
      go_wp2_with fail
      refine (NW.out _).mono ?_
      rintro e w7 ⟨v2, M, rfl, hE, hM, hb7⟩
      obtain ⟨a2, rfl⟩ := hE.ptr
      have HL0 : Hid (Lis w w7 a2 k 8 S.size 0 [] M [] (.slice none 0 0) w5.heap.size g) := ⟨hE, made_none _ _, by decide, fun i hi => Nat.le_trans B6.out.size (hM i hi), (fun i e => by cases e), World.ownsRow_nil _ _ _ _, HBk.out.below hb7, fun hi => by have := hM _ hi; have := HBk.out.lt; omega, (fun e => by cases e), below_two B6.out hb7⟩
      clear hE hM hb7 NW HBk
      obtain ⟨bk, hbk⟩ : ∃ bk, w5.heap.size = bk := ⟨_, rfl⟩
      rw [hbk] at HL0
      go_upto_region 16 with fail
      clear hbk
      go_wp2
      go_loopw [16] (fun i wr => ∃ s : Nat, 1 ≤ s ∧ s ≤ 31 ∧ i = .int .i64 s ∧ ∃ (F : List Drp) (dr : Int) (M : Nat → Prop), Lis w wr a2 k 8 S.size dr F M [] (.slice none 0 0) bk g ∧ F.length + 1 ≤ s) (fun i _ => 31 - (intOf i).toNat)
      case atStart => exact ⟨1, by omega, by omega, rfl, [], 0, M, HL0.out, by simp⟩
      case round =>
        obtain ⟨s, hs1, hs31, rfl, F, dr, M, hL, hFs⟩ := hrel
        have HL := hide hL
        clear hL HL0
        by_cases hlt : s ≤ 30
        · obtain ⟨r, hIn⟩ := HIn.out s
          have IN := hide (hIn wr HL.out.below)
          clear hIn
          go_wp2_with fail
          refine (IN.out).mono ?_
          rintro e w8 ⟨rfl, rfl⟩
          clear IN
          cases r with
          | true =>
            go_wp2
            go_roundw
            case rel => exact ⟨s + 1, by omega, by omega, by go_num, F, dr, M, HL.out, by omega⟩
            case measure => simp [intOf]; omega
          | false =>
            have hF60 : F.length < 60 := by omega
            have MK := hide (make_ok bk 0 k k g s wr HL.out.blk.pos HL.out.blk.most HL.out.blk.cells HL.out.blk.one HL.out.blk.eight HL.out.blk.same hs1 (by omega))
            unfold dropV at MK
            obtain ⟨dd, hdd⟩ : ∃ dd, dropB g k s = dd := ⟨_, rfl⟩
            rw [hdd] at MK
            go_wp2_with fail
            refine (MK.out).mono ?_
            rintro e w8 ⟨rfl, hb8⟩
            have HL8 := hide ((HL.out.grow hb8).grow ((Below.refl _ w8).alloc (Nat.le_refl _) (.cells #[.int .i64 (s : Nat), .string dd] 43)))
            have HR := hide (HL8.out.hear hz0.out hF60 s ⟨hs1, by omega⟩)
            rw [hdd] at HR
            clear hb8 MK
            go_wp2_with fail
            refine (HR.out).mono ?_
            rintro e w9 ⟨kn, dr', M', rfl, hkn, hL9⟩
            have HL9 := hide hL9
            have hl9 : (eAdd F s dd).length ≤ F.length + 1 := eAdd_len
            clear hL9 HR HL8 hdd
            generalize eAdd F s dd = F3 at *
            go_wp2
            go_roundw
            case rel => exact ⟨s + 1, by omega, by omega, by go_num, F3, dr', M', HL9.out.grow ((Below.refl _ w9).alloc (Nat.le_refl _) _), by omega⟩
            case measure => simp [intOf]; omega
        · obtain rfl : s = 31 := by omega
          have LK := hide (elacks_ok HL.out.ear)
          have hsd : ∀ x ∈ sds F, 1 ≤ x ∧ x ≤ 10000 := HL.out.ear.ok.seeds
          have hll := lack_len (L := mS k (sds F)) (k := k) (mS_lt hk1 (fun x hx => (hsd x hx).1))
          have hM14 : Hid ((∀ i, M i → i < wr.heap.size) ∧ bk < wr.heap.size ∧ w.heap.size ≤ wr.heap.size) := ⟨HL.out.ear.lt, HL.out.blk.lt, HL.out.below.size⟩
          obtain ⟨U, hU⟩ : ∃ U, upL (mS k (sds F)) unit k = U := ⟨_, rfl⟩
          rw [hU] at LK hll
          have HU : Hid (∀ u ∈ U, u < k) := fun u hu => by rw [← hU] at hu; exact upL_lt hu
          have HFill : Hid (rkL (mS k (sds F) ++ U.map unit) = k) := by rw [← hU]; exact lack_fills (mS_lt hk1 (fun x hx => (hsd x hx).1))
          have hUk : U.length ≤ k := by omega
          clear hU hsd hll
          go_wp2_with fail
          refine (LK.out).mono ?_
          rintro e w15 ⟨vo, rfl, ho, hb15⟩
          obtain ⟨aU, cU, rfl⟩ := own_slice ho
          have HLU : Hid (Lis w w15 a2 k 8 S.size dr F M U (.slice aU U.length cU) bk g) := by
            have h1 := HL.out.grow hb15
            exact ⟨h1.ear, h1.made, h1.rng, h1.inM, fun i e hi => by
              have := (ho.lt i e).1
              have := hM14.out.1 i hi
              omega, own_base ho hM14.out.2.2, h1.blk, h1.blkM, fun e => by
              have := (ho.lt bk e).1
              have := hM14.out.2.1
              omega, h1.below⟩
          clear ho hb15 LK HL hM14
          go_wp2
          go_loopw [23] (fun i wr => ∃ j : Nat, j ≤ U.length ∧ i = .int .i64 j ∧ ∃ (F2 : List Drp) (dr : Int) (M : Nat → Prop), Lis w wr a2 k 8 S.size dr F2 M U (.slice aU U.length cU) bk g ∧ F2.length ≤ F.length + j ∧ (∀ x ∈ sds F, x ∈ sds F2) ∧ ∀ i, i < j → U.getD i 0 + 1 ∈ sds F2) (fun i _ => U.length - (intOf i).toNat)
          case atStart => exact ⟨0, Nat.zero_le _, rfl, F, dr, M, HLU.out, by omega, fun x hx => hx, fun i hi => absurd hi (Nat.not_lt_zero _)⟩
          case round =>
            obtain ⟨j2, hj2, rfl, F2, dr2, M2, hL, hlen, hA2, hU2⟩ := hrel
            have HL2 := hide hL
            have HA2 := hide hA2
            have HU2 := hide hU2
            clear hL hA2 hU2 HLU
            by_cases hlt2 : j2 < U.length
            · obtain ⟨gU, cU2, hvU, hu1, hu2, hu3⟩ := own_lst HL2.out.row (by omega)
              injection hvU with eA _ eC
              subst eA eC
              have hcj := hu3 j2 hlt2
              rw [Nat.zero_add] at hcj
              have huk : U.getD j2 0 < k := HU.out _ (getD_mem hlt2)
              obtain ⟨u, hu⟩ : ∃ u, U.getD j2 0 = u := ⟨_, rfl⟩
              rw [hu] at hcj huk
              obtain ⟨u1, hu1'⟩ : ∃ u1 : Nat, u + 1 = u1 := ⟨_, rfl⟩
              have HUj : Hid (U.getD j2 0 + 1 = u1) := by rw [hu]; exact hu1'
              have MK := hide (make_ok bk 0 k k g u1 wr HL2.out.blk.pos HL2.out.blk.most HL2.out.blk.cells HL2.out.blk.one HL2.out.blk.eight HL2.out.blk.same (by omega) (by omega))
              have e1 : (u : Int) + 1 = (u1 : Int) := by omega
              have hu16 : 1 ≤ u1 ∧ u1 ≤ 16 := by omega
              unfold dropV at MK
              obtain ⟨dd, hdd⟩ : ∃ dd, dropB g k u1 = dd := ⟨_, rfl⟩
              rw [hdd] at MK
              unfold maxLen at hu2
              clear hu hu3 hu1'
              go_wp2_with fail
              refine (MK.out).mono ?_
              rintro e w17 ⟨rfl, hb17⟩
              have HL17 := hide ((HL2.out.grow hb17).grow ((Below.refl _ w17).alloc (Nat.le_refl _) (.cells #[.int .i64 (u1 : Int), .string dd] 43)))
              have HR := hide (HL17.out.hear hz0.out (by omega) u1 (by omega))
              rw [hdd] at HR
              clear hb17 MK hcj
              go_wp2_with fail
              refine (HR.out).mono ?_
              rintro e w18 ⟨kn, dr', M', rfl, hkn, hL18⟩
              have HL18 := hide hL18
              clear hL18 HR HL17 HL2
              have hl18 : (eAdd F2 u1 dd).length ≤ F2.length + 1 := eAdd_len
              have HA18 : Hid (∀ x ∈ sds F, x ∈ sds (eAdd F2 u1 dd)) := fun x hx => eAdd_sds.2 (Or.inl (HA2.out x hx))
              have HU18 : Hid (∀ i, i < j2 + 1 → U.getD i 0 + 1 ∈ sds (eAdd F2 u1 dd)) := fun i hi => by
                by_cases e : i = j2
                · rw [e, HUj.out]; exact eAdd_sds.2 (Or.inr rfl)
                · exact eAdd_sds.2 (Or.inl (HU2.out i (by omega)))
              clear hdd
              generalize eAdd F2 u1 dd = F3 at *
              go_wp2
              go_roundw
              case rel => exact ⟨j2 + 1, by omega, by go_num, F3, dr', M', HL18.out.grow ((Below.refl _ w18).alloc (Nat.le_refl _) _), by omega, HA18.out, HU18.out⟩
              case measure => simp [intOf]; omega
            · obtain rfl : j2 = U.length := by omega
              have hrk : rkL (mS k (sds F2)) = k := by
                have h1 := full_rank HL2.out.ear.ok
                have h2 := rkL_sub (A := mS k (sds F) ++ U.map unit) (B := mS k (sds F2)) (fun v hv => by
                  rcases List.mem_append.1 hv with hv | hv
                  · obtain ⟨x, hx, rfl⟩ := List.mem_map.1 hv
                    exact List.mem_map.2 ⟨x, HA2.out x hx, rfl⟩
                  · obtain ⟨u, hu, rfl⟩ := List.mem_map.1 hv
                    obtain ⟨i, hi, rfl⟩ := List.getElem_of_mem hu
                    have h9 := HU2.out i hi
                    rw [show U.getD i 0 = U[i] by simp [List.getD, hi]] at h9
                    refine List.mem_map.2 ⟨_, h9, ?_⟩
                    show maskL (setL k (U[i] + 1)) = unit U[i]
                    rw [setL_one (by have := HU.out _ hu; omega), Nat.add_sub_cancel, maskL_unit])
                rw [HFill.out] at h2
                omega
              have DT := hide (data_text HL2.out.ear (by rw [HGG.out]; exact HL2.out.made))
              have B18 := hide HL2.out.below
              go_wp2_with fail
              refine (DT.out).mono ?_
              rintro e w19 ⟨x, s, rfl, hx, hb19⟩
              obtain ⟨rfl, rfl⟩ : x = 0 ∧ s = S := by
                rcases hx with ⟨_, h1, h2⟩ | ⟨h1, _⟩
                · exact ⟨h1, h2⟩
                · omega
              have ht : Tell 0 = .nilIface := rfl
              rw [ht]
              have hq1 : (s.toList == s.toList) = true := beq_self_eq_true _
              have hq2 : (s.toList != s.toList) = false := bne_self_eq_false _
              have B19 := hide (below_two B18.out hb19)
              clear hx hb19 DT HL2 hrk HA2 HU2 HU HFill B18 HGG hz0 B4 B5 B6 HIn
              go_wp2_with fail
              refine (unpack_any s).mono ?_
              intro e w20 hub
              obtain ⟨a8, b8, s8, u8, x8, N8, C8, rfl, HC8, HF8, hb8⟩ := ub_fate hub
              have B20 := hide (below_two B19.out hb8.out)
              obtain ⟨hx8, rfl, rfl, rfl, rfl, _, _, hsame⟩ := fate_one HF8.out HFa.out
              subst hx8
              have HCs := hide (cods_same HC8.out hsame)
              obtain ⟨ad8, cp8, hu8⟩ : ∃ ad cp, u8 = .slice ad N8 cp := by obtain ⟨ad, cp, e, _⟩ := HC8.out; exact ⟨_, _, e⟩
              subst hu8
              rw [e0]
              have KD20 := hide (KD.out w20 _ HCs.out)
              clear hub hb8 HC8 HF8 hsame HCs HFa KD B19
              have hs8a : (s8 == s8) = true := beq_self_eq_true _
              have hs8b : (s8 != s8) = false := bne_self_eq_false _
              have hn8a : ((N8 : Int) == (N8 : Int)) = true := beq_self_eq_true _
              have hn8b : ((N8 : Int) != (N8 : Int)) = false := bne_self_eq_false _
              go_wp2_with fail
              refine (KD20.out).mono ?_
              rintro e w21 ⟨u5, rfl, hu5, hb21⟩
              have B21 := hide (below_two B20.out hb21)
              obtain ⟨ad5, cp5, rfl, hcp5, hcm5, h5⟩ := hu5
              unfold maxLen at hcm5
              obtain ⟨gp, op, rfl, hpc⟩ := h5 (by omega)
              have HPC := hide hpc
              have g1 : s8.tdiv 2 = s8 / 2 := Int.tdiv_eq_ediv_of_nonneg (by omega)
              have b1 : 0 ≤ s8 / 2 ∧ s8 / 2 ≤ 32 := by omega
              clear h5 hpc hb21 KD20 B20
              go_wp2
              go_loopw [34] (fun i wr => ∃ j : Nat, j ≤ N8 ∧ i = .int .i64 j ∧ Hid (Below w21.heap.size w21 wr)) (fun i _ => N8 - (intOf i).toNat)
              case atStart => exact ⟨0, Nat.zero_le _, rfl, Below.refl _ _⟩
              case round =>
                obtain ⟨j, hj, rfl, HB⟩ := hrel
                have BW := hide (below_two B21.out HB.out)
                by_cases hlt : j < N8
                · obtain ⟨sp, hp0⟩ := HPC.out j hlt
                  obtain ⟨c0, c1, c2, hi⟩ := hp0.below HB.out
                  have hi : IntsIn wr sp pn (T j) := hi
                  obtain ⟨sl, hl0⟩ := HC.out j hlt
                  obtain ⟨d0, d1, d2, hj2⟩ := hl0.below BW.out
                  obtain ⟨lea, leb, len'⟩ := HLk.out j hlt
                  rw [lea] at d0
                  rw [leb] at d1
                  rw [len'] at hj2
                  have hD : Below wr.heap.size wr wr.drew := (Below.refl _ wr).drew
                  have K := hide (KU.out wr.drew j hlt sp sl (hi.below hD) (hj2.below hD))
                  have hd := HD.out j hlt
                  obtain ⟨adp, cpp, rfl⟩ := slice_shape hi
                  obtain ⟨adq, cpq, rfl⟩ := slice_shape hj2
                  generalize mostN (T j) (P j).f pn = d at *
                  have hdt : (d : Int) ≤ s8 / 2 := by omega
                  clear hp0 hl0 lea leb len' hi hj2 hD hd
                  go_wp2_with fail
                  go_region_held3 (fun w' => w'.cell? ⟨gp, op + j * 3, none⟩ = some (.int .i64 a8) ∧ w'.cell? ⟨gp, op + j * 3 + 1, none⟩ = some (.int .i64 b8) ∧ w'.cell? ⟨gp, op + j * 3 + 2, none⟩ = some (.slice adp pn cpp) ∧ w'.cell? ⟨bb, o + j * 3, none⟩ = some (.int .i64 a8) ∧ w'.cell? ⟨bb, o + j * 3 + 1, none⟩ = some (.int .i64 b8) ∧ w'.cell? ⟨bb, o + j * 3 + 2, none⟩ = some (.slice adq pn cpq)) (first | go_keep | exact ⟨cell_below hb6 c0, cell_below hb6 c1, cell_below hb6 c2, cell_below hb6 d0, cell_below hb6 d1, cell_below hb6 d2⟩)
                    (first | (go_at_call 17; refine (K.out).mono ?_; rintro e w6 ⟨rfl, hb6'⟩; have hb6 : Below wr.heap.size wr w6 := ⟨hb6'.os, hb6'.tape, hb6'.output, hb6'.size, hb6'.block⟩))
                  have HB6 : Hid (Below w21.heap.size w21 w6) := HB.out.trans (hb6.mono HB.out.size)
                  clear hb6 hb6' K c0 c1 c2 d0 d1 d2
                  generalize s8 / 2 = t at *
                  have n1 : decide (t < (d : Int)) = false := decide_eq_false (by omega)
                  have n2 : ¬ (t < (d : Int)) := by omega
                  have n3 : IntKind.i64.wrap t = t := by rw [IntKind.wrap_i64]; omega
                  go_wp2
                  go_roundw
                  case rel => exact ⟨j + 1, by omega, by go_num, HB6.out⟩
                  case measure => simp [intOf]; omega
                · obtain rfl : j = N8 := by omega
                  go_wp2
                  go_ret
                  exact ⟨rfl, BW.out⟩
    · obtain rfl := HF4.out hF
      have K5 := hide (EK.out w5 B5.out 4)
      rw [errN_pos hF] at K5 ⊢
      go_wp2_with fail
      refine (K5.out).mono ?_
      rintro e w6 ⟨rfl, hb6⟩
      have B6 := hide (below_two B5.out hb6)
      go_wp2
      go_ret
      exact ⟨rfl, B6.out⟩
  · have K := hide (KB.out w1 B1.out hx)
    rw [errN_pos hx] at K
    generalize enfF N P ev st = E at *
    go_wp2_with fail
    refine (K.out).mono ?_
    rintro e w2 ⟨rfl, hb2⟩
    have B2 := hide (below_two B1.out hb2)
    go_wp2
    go_ret
    exact ⟨rfl, B2.out⟩
end Go.Proofs.YtjhflcgphejddaaGreatDoor
