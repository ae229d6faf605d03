/-
  The walk of the law that tells rice's three functions at whatever they are given. No statement is proved here.
-/
import Derived.Test.YtjklpcabnppnaaaDoorRcTlN
import Derived.Test.YtjklpcabnppnaaaDoorRRc
import Derived.Test.YtjklpcabnppnaaaDoorRRd
import Derived.Test.YtjklpcabnppnaaaDoorErrIs
import Derived.Test.YtjklpcabnppnaaaDoorPicErr
import Derived.Test.YtjklpcabnppnaaaDoorSInts
import Derived.Deep.DeepCutAuto
namespace Go.Proofs.YtjklpcabnppnaaaDoor
open Go.RowKit Go.Maps
set_option linter.unusedVariables false
set_option maxRecDepth 100000

theorem rd_new (w : World) (s : Value) : RdAt (w.alloc (.cells #[s, .int .i64 0, .bool false] 32)) w.heap.size s 0 false :=
  ⟨by simp, by simp, by simp, by simp only [World.frozen?, (MapKept.heap_alloc w _).1]; simp, by simp only [World.frozen?, (MapKept.heap_alloc w _).1]; simp⟩
theorem own_keptb {w w' : World} {b e size n : Nat} {v : Value} {xs : List Value} (h : w.ownsRow (b + 1) e size v n xs) (hk : Kept (fun i => i = b) w w') : w'.ownsRow (b + 1) e size v n xs := by
  refine ⟨h.1, ?_⟩
  rcases h.2 with hn | ⟨g, cap, cur, hv, h1, hgg, rest⟩
  · exact .inl hn
  · exact .inr ⟨g, cap, cur, hv, h1, (hk.block g (Array.getElem?_eq_some_iff.1 hgg).1 (by show ¬ g = b; omega)).trans hgg, rest⟩

set_option maxHeartbeats 8000000 in
theorem rtells_walk {w : World} (v : Value) (n : Nat) (f : Nat → Int) (hs : SlI w v n f) (hn : n ≤ 1048576) (a : Int) (v2 : Value) (m : Nat) (g : Nat → Int) (hs2 : SlI w v2 m g) (hm : m ≤ 1048576) (k : Int) (hg : HasErr w) :
    Calls Tryd.prog 3 #[v, .int .i64 a, v2, .int .i64 k] w fun e w' => e = .returned (.bool true) ∧ Below w.heap.size w w' := by
  have HS := hide hs.ints
  have HS2 := hide hs2
  have HG := hide hg
  have HGL := hide hg.lt
  obtain ⟨av, cv, rfl, _, _, _⟩ := id hs
  obtain ⟨av2, cv2, rfl, _, _, _⟩ := id hs2
  clear hs hs2 hg
  go_enter Tryd.func3, Tryd.ntmps3
  go_wp2
  go_loop [9, 10] (fun t i => ∃ j : Nat, j ≤ n ∧ i = .int .i64 j ∧ t = .int .i64 (nF f j : Nat)) (fun _ i => n - (intOf i).toNat)
  case atStart => exact ⟨0, Nat.zero_le _, rfl, rfl⟩
  case round =>
    obtain ⟨j, hj, rfl, rfl⟩ := hrel
    by_cases hlt : j < n
    · obtain ⟨bb, oo, cc, hv, hcj⟩ : ∃ bb oo c, Value.slice av n cv = .slice (some ⟨bb, oo, none⟩) n c ∧ w.cell? ⟨bb, oo + j, none⟩ = some (.int .i64 (f j)) := by
        rcases HS.out with ⟨rfl, _⟩ | ⟨h0, b, o, cap, e, hc⟩
        · omega
        · exact ⟨b, o, cap, e, hc j hlt⟩
      obtain ⟨rfl, rfl⟩ : av = some ⟨bb, oo, none⟩ ∧ cv = cc := by cases hv; exact ⟨rfl, rfl⟩
      clear hv
      have HB := hide (fun h => nF_bad (f := f) (n := j) h)
      have HO := hide (fun h => nF_ok (f := f) (n := j) h)
      generalize nF f j = t at *
      generalize f j = x at *
      by_cases c1 : x < -255
      · have e := hide (HB.out (numOk_not.2 (Or.inl c1)))
        go_wp2
        go_round
        case rel => exact ⟨j + 1, by omega, by go_num, by rw [e.out]; rfl⟩
        case measure => simp [intOf]; omega
      · by_cases c2 : 255 < x
        · have e := hide (HB.out (numOk_not.2 (Or.inr c2)))
          go_wp2
          go_round
          case rel => exact ⟨j + 1, by omega, by go_num, by rw [e.out]; rfl⟩
          case measure => simp [intOf]; omega
        · have e := hide (HO.out (numOk_iff.2 (by omega)))
          go_wp2
          go_round
          case rel => exact ⟨j + 1, by omega, by go_num, by rw [e.out]⟩
          case measure => simp [intOf]; omega
    · obtain rfl : j = n := by omega
      have HnL := nF_le f j
      go_upto_region 8 with fail
      go_cut [51] (fun t wx => ∃ q : Bool, t = .bool q ∧ (q = true ↔ lowOk a = false) ∧ w = wx)
      case first =>
        as_aux_lemma =>
          by_cases c1 : a < 0
          · have e := lowOk_not.2 (Or.inl c1)
            go_wp2
            go_meet
            exact ⟨true, rfl, by simp [e], rfl⟩
          · by_cases c2 : 7 < a
            · have e := lowOk_not.2 (Or.inr c2)
              go_wp2
              go_meet
              exact ⟨true, by first | rfl | (simp; done) | (simp; omega), by simp [e], rfl⟩
            · have e := lowOk_iff.2 (show 0 ≤ a ∧ a ≤ 7 by omega)
              go_wp2
              go_meet
              exact ⟨false, by first | rfl | (simp; done) | (simp; omega), by simp [e], rfl⟩
      case rest =>
        as_aux_lemma =>
          obtain ⟨q, rfl, hq, rfl⟩ := hcut
          have HQ := hide hq
          clear hq
          go_upto_if 51 with fail
          go_cut [11] (fun t wx => t = .int .i64 (pF a f j : Nat) ∧ w = wx)
          case first =>
            as_aux_lemma =>
              have HP : Hid (pF a f j = if q = true then 1 else nF f j) := by
                unfold Hid pF
                cases hl : lowOk a with
                | true =>
                  have : ¬ q = true := fun h => by have := HQ.out.1 h; rw [hl] at this; cases this
                  rw [if_pos rfl, if_neg this]
                | false => rw [if_neg (by simp), if_pos (HQ.out.2 hl)]
              cases q with
              | true =>
                go_wp2
                go_meet
                exact ⟨by rw [HP.out]; rfl, rfl⟩
              | false =>
                go_wp2
                go_meet
                exact ⟨by rw [HP.out]; rfl, rfl⟩
          case rest =>
            as_aux_lemma =>
              obtain ⟨rfl, rfl⟩ := hcut
              clear HQ
              have HPi := hide (pF_iff (a := a) (f := f) (n := j))
              have HPb := hide (fun h => putE_bad (a := a) (f := f) (n := j) h)
              have HPf := hide (fun low ha h hl => putE_full (a := a) (low := low) (f := f) (n := j) ha h hl)
              have HPo := hide (fun low ha h hl => putE_fine (a := a) (low := low) (f := f) (n := j) ha h hl)
              have hPl := pF_le a f j
              have HFb := hide (fun h => bestE_bad (f := f) (n := j) h)
              have HFi := hide (nF_iff (f := f) (n := j))
              generalize pF a f j = P at *
              generalize nF f j = F at *
              go_upto_region 11 with fail
              go_cut [53] (fun t wx => ∃ q : Bool, t = .bool q ∧ (q = true ↔ P = 0) ∧ w = wx)
              case first =>
                as_aux_lemma =>
                  by_cases c : P = 0
                  · subst c
                    go_wp2
                    go_meet
                    exact ⟨true, rfl, by simp, rfl⟩
                  · have e : ((P : Int) == 0) = false := by rw [beq_eq_false_iff_ne]; omega
                    go_wp2
                    go_meet
                    exact ⟨false, rfl, by simp [c], rfl⟩
              case rest =>
                as_aux_lemma =>
                  obtain ⟨q, rfl, hq, rfl⟩ := hcut
                  have HQ := hide hq
                  clear hq
                  go_upto_if 53 with fail
                  go_cut [11, 12] (fun t u wx => t = .int .i64 (putE a f j : Nat) ∧ Hid (ListIn wx u (putL a f j)) ∧ Hid (Below w.heap.size w wx))
                  case first =>
                    as_aux_lemma =>
                      cases q with
                      | false =>
                        have hP : P ≠ 0 := fun h => by have := HQ.out.2 h; cases this
                        have HE := hide (HPb.out hP)
                        have HL := hide (putL_bad (a := a) (f := f) (n := j) (by rw [HE.out.1]; omega))
                        go_wp2
                        go_meet
                        exact ⟨by rw [HE.out.1, HE.out.2], by rw [HL.out]; exact listIn_nil _, Below.refl _ _⟩
                      | true =>
                        have hP : P = 0 := HQ.out.1 rfl
                        have HR := HPi.out.1 hP
                        have hl := lowOk_iff.1 HR.1
                        obtain ⟨low, rfl⟩ := Int.eq_ofNat_of_zero_le hl.1
                        have K := hide (rrice_ok (low := low) HS.out hn (by omega) (numsOk_iff.1 HR.2))
                        have HRL := hide (rowB_len low f j)
                        have hb := lenN_le (low := low) (f := f) (by omega) (numsOk_iff.1 HR.2)
                        by_cases c : 2000 < lenN low f j
                        · have HE := hide (HPf.out low rfl hP c)
                          have HL := hide (putL_bad (a := (low : Int)) (f := f) (n := j) (by rw [HE.out]; omega))
                          generalize lenN low f j = M at *
                          clear HR hl
                          go_wp2_with fail
                          refine (K.out).mono ?_
                          rintro e w3 ⟨ad3, cp3, rfl, hown, hb3⟩
                          have HB3 := hide hb3
                          clear hown hb3 K
                          go_wp2
                          go_meet
                          exact ⟨by rw [HE.out]; rfl, by rw [HL.out]; exact listIn_nil _, HB3⟩
                        · have HE := hide (HPo.out low rfl hP (by omega))
                          generalize lenN low f j = M at *
                          subst hP
                          clear HR hl
                          go_wp2_with fail
                          refine (K.out).mono ?_
                          rintro e w3 ⟨ad3, cp3, rfl, hown, hb3⟩
                          have HB3 := hide hb3
                          have HLi := hide (rowV_list hown HRL.out.symm)
                          clear hown hb3 K
                          go_wp2
                          go_meet
                          exact ⟨by rw [HE.out.1]; rfl, by rw [HE.out.2]; exact HLi, HB3⟩
                  case rest =>
                    as_aux_lemma =>
                      obtain ⟨rfl, HL1, HB1⟩ := hcut
                      clear HQ HPi HPb HPf HPo hPl
                      have K1 := hide (rput_list a (HS.out.below HB1.out) (by omega))
                      have HpL := hide (putL_len a f j)
                      generalize putL a f j = PL at *
                      generalize putE a f j = PE at *
                      go_wp2_with fail
                      refine (K1.out).mono ?_
                      rintro e w2 ⟨x2, rfl, hx2, hb⟩
                      have HB2 := hide (below_two HB1.out hb)
                      have HW2 := hide (HL1.out.below hb)
                      have HX2 := hide hx2
                      have ER := hide (error_right PE (errN PE) w2 (HG.out.below HGL.out HB2.out) (errIs_N PE))
                      clear hx2 hb K1
                      go_wp2_with fail
                      refine (ER.out).mono ?_
                      rintro e w3 ⟨rfl, hb⟩
                      have HB3 := hide (below_two HB2.out hb)
                      have KI := hide (ints_same (by have := HpL.out; omega) (HX2.out.below hb) (HW2.out.below hb))
                      clear hb ER
                      go_wp2_with fail
                      refine (KI.out).mono ?_
                      rintro e w4 ⟨rfl, hb⟩
                      have HB4 := hide (below_two HB3.out hb)
                      clear hb KI HB3 HB2 HB1 HW2 HX2 HL1 HpL
                      go_upto_region 19 with fail
                      go_cut [87] (fun t wx => ∃ q : Bool, t = .bool q ∧ (q = true ↔ (lowOk a = false ∨ k < 0 ∨ 2000 < k)) ∧ w4 = wx)
                      case first =>
                        as_aux_lemma =>
                          by_cases c1 : a < 0
                          · have e := lowOk_not.2 (Or.inl c1)
                            go_wp2
                            go_meet
                            exact ⟨true, rfl, by simp [e], rfl⟩
                          · by_cases c2 : 7 < a
                            · have e := lowOk_not.2 (Or.inr c2)
                              go_wp2
                              go_meet
                              exact ⟨true, by first | rfl | (simp; done) | (simp; omega), by simp [e], rfl⟩
                            · have e := lowOk_iff.2 (show 0 ≤ a ∧ a ≤ 7 by omega)
                              by_cases c3 : k < 0
                              · go_wp2
                                go_meet
                                exact ⟨true, by first | rfl | (simp; done) | (simp; omega), by simp [c3], rfl⟩
                              · by_cases c4 : 2000 < k
                                · go_wp2
                                  go_meet
                                  exact ⟨true, by first | rfl | (simp; done) | (simp; omega), by simp [c4], rfl⟩
                                · go_wp2
                                  go_meet
                                  exact ⟨false, by first | rfl | (simp; done) | (simp; omega), by simp [e]; omega, rfl⟩
                      case rest =>
                        as_aux_lemma =>
                          obtain ⟨q, rfl, hq, rfl⟩ := hcut
                          have HQ := hide hq
                          clear hq
                          go_upto_if 87 with fail
                          go_cut [11] (fun t wx => t = .int .i64 (getF a k m : Nat) ∧ w4 = wx)
                          case first =>
                            as_aux_lemma =>
                              cases q with
                              | true =>
                                have HE : Hid (getF a k m = 1) := by
                                  unfold Hid getF
                                  rcases HQ.out.1 rfl with h | h
                                  · rw [if_pos h]
                                  · by_cases hl : lowOk a = false
                                    · rw [if_pos hl]
                                    · rw [if_neg hl, if_pos h]
                                go_wp2
                                go_meet
                                exact ⟨by rw [HE.out]; rfl, rfl⟩
                              | false =>
                                have hno : ¬ (lowOk a = false ∨ k < 0 ∨ 2000 < k) := fun h => by have := HQ.out.2 h; cases this
                                have HE : Hid (getF a k m = if 2000 < m then 4 else 0) := by
                                  unfold Hid getF
                                  rw [if_neg (fun h => hno (Or.inl h)), if_neg (fun h => hno (Or.inr h))]
                                clear hno
                                by_cases c : 2000 < m
                                · rw [if_pos c] at HE
                                  go_wp2
                                  go_meet
                                  exact ⟨by rw [HE.out]; rfl, rfl⟩
                                · rw [if_neg c] at HE
                                  go_wp2
                                  go_meet
                                  exact ⟨by rw [HE.out]; rfl, rfl⟩
                          case rest =>
                            as_aux_lemma =>
                              obtain ⟨rfl, rfl⟩ := hcut
                              clear HQ
                              have HI2 := hide (HS2.out.ints.below HB4.out)
                              have HgF := hide (fun h => gB_first (a := a) (k := k) (g := g) (m := m) h)
                              have HgB := hide (fun h hb => gB_bit (a := a) (k := k) (g := g) (m := m) h hb)
                              have HgO := hide (fun h hb => gB_fine (a := a) (k := k) (g := g) (m := m) h hb)
                              have hgl := getF_le a k m
                              have hgl2 := gB_le a k g m
                              generalize hGF : getF a k m = GF at *
                              clear hGF
                              go_wp2
                              go_loop [11, 16] (fun t i => ∃ (i' E : Nat), i' ≤ m ∧ E ≤ 4 ∧ i = .int .i64 i' ∧ t = .int .i64 (E : Nat) ∧ (E = 0 → GF = 0 ∧ bitsOk g i' = true) ∧ (E ≠ 0 → E = gB a k g m)) (fun _ i => m - (intOf i).toNat)
                              case atStart =>
                                refine ⟨0, GF, Nat.zero_le _, hgl, rfl, rfl, fun h => ⟨h, rfl⟩, fun h => (HgF.out h).symm⟩
                              case round =>
                                obtain ⟨i', E, hi', hE4, rfl, rfl, hE0, hE1⟩ := hrel
                                have H0 := hide hE0
                                have H1 := hide hE1
                                clear hE0 hE1
                                go_upto_region 24 with fail
                                go_cut [98] (fun t wx => ∃ q : Bool, t = .bool q ∧ (q = true ↔ (i' < m ∧ E = 0)) ∧ w4 = wx)
                                case first =>
                                  as_aux_lemma =>
                                    by_cases c1 : i' < m
                                    · by_cases c2 : E = 0
                                      · subst c2
                                        go_wp2
                                        go_meet
                                        exact ⟨true, rfl, by simp [c1], rfl⟩
                                      · have e : ((E : Int) == 0) = false := by rw [beq_eq_false_iff_ne]; omega
                                        go_wp2
                                        go_meet
                                        exact ⟨false, rfl, by simp [c2], rfl⟩
                                    · obtain rfl : i' = m := by omega
                                      go_wp2
                                      go_meet
                                      exact ⟨false, by first | rfl | (simp; done), by simp, rfl⟩
                                case rest =>
                                  as_aux_lemma =>
                                    obtain ⟨q, rfl, hq, rfl⟩ := hcut
                                    have HQ := hide hq
                                    clear hq
                                    cases q with
                                    | true =>
                                      obtain ⟨hlt, rfl⟩ := HQ.out.1 rfl
                                      obtain ⟨hG0, hbo⟩ := H0.out rfl
                                      subst hG0
                                      obtain ⟨bb, oo, cc, hv, hcj⟩ : ∃ bb oo c, Value.slice av2 m cv2 = .slice (some ⟨bb, oo, none⟩) m c ∧ w4.cell? ⟨bb, oo + i', none⟩ = some (.int .i64 (g i')) := by
                                        rcases HI2.out with ⟨rfl, _⟩ | ⟨h0, b, o, cap, e, hc⟩
                                        · omega
                                        · exact ⟨b, o, cap, e, hc i' hlt⟩
                                      obtain ⟨rfl, rfl⟩ : av2 = some ⟨bb, oo, none⟩ ∧ cv2 = cc := by cases hv; exact ⟨rfl, rfl⟩
                                      have HM := hide (fun h => bitsOk_miss (g := g) (m := m) hlt h)
                                      have HSu := hide (fun h => bitsOk_succ (g := g) hbo h)
                                      clear hv H0 H1 HQ hbo
                                      generalize g i' = x at *
                                      by_cases c1 : x < 0
                                      · have e := hide (HgB.out rfl (HM.out (bitOk_not.2 (by omega))))
                                        go_wp2
                                        go_round
                                        case rel => exact ⟨i' + 1, 1, by omega, by omega, by go_num, rfl, fun h => absurd h (by omega), fun _ => e.out.symm⟩
                                        case measure => simp [intOf]; omega
                                      · by_cases c2 : 1 < x
                                        · have e := hide (HgB.out rfl (HM.out (bitOk_not.2 (by omega))))
                                          go_wp2
                                          go_round
                                          case rel => exact ⟨i' + 1, 1, by omega, by omega, by go_num, rfl, fun h => absurd h (by omega), fun _ => e.out.symm⟩
                                          case measure => simp [intOf]; omega
                                        · have e := hide (HSu.out (bitOk_iff.2 (by omega)))
                                          go_wp2
                                          go_round
                                          case rel => exact ⟨i' + 1, 0, by omega, by omega, by go_num, rfl, fun _ => ⟨by simp, e.out⟩, fun h => absurd rfl h⟩
                                          case measure => simp [intOf]; omega
                                    | false =>
                                      have hEg : E = gB a k g m := by
                                        by_cases c : E = 0
                                        · obtain ⟨h1, h2⟩ := H0.out c
                                          have hle : ¬ i' < m := fun h => by have := HQ.out.2 ⟨h, c⟩; cases this
                                          have : i' = m := by omega
                                          rw [this] at h2
                                          rw [HgO.out h1 h2]; exact c
                                        · exact H1.out c
                                      clear H0 H1 HQ HgF HgB HgO hE4 hi' hgl
                                      subst hEg
                                      have HgX := hide (fun h => gB_bad (a := a) (k := k) (g := g) (m := m) h)
                                      have HgY := hide (fun h => gB_ok (a := a) (k := k) (g := g) (m := m) h)
                                      generalize gB a k g m = GB at *
                                      go_upto_region 29 with fail
                                      go_cut [114] (fun t wx => ∃ q : Bool, t = .bool q ∧ (q = true ↔ GB = 0) ∧ w4 = wx)
                                      case first =>
                                        as_aux_lemma =>
                                          by_cases c : GB = 0
                                          · subst c
                                            go_wp2
                                            go_meet
                                            exact ⟨true, rfl, by simp, rfl⟩
                                          · have e : ((GB : Int) == 0) = false := by rw [beq_eq_false_iff_ne]; omega
                                            go_wp2
                                            go_meet
                                            exact ⟨false, rfl, by simp [c], rfl⟩
                                      case rest =>
                                        as_aux_lemma =>
                                          obtain ⟨q, rfl, hq, rfl⟩ := hcut
                                          have HQ := hide hq
                                          clear hq
                                          go_upto_if 114 with fail
                                          go_cut [11, 12] (fun t u wx => t = .int .i64 (getE a k g m : Nat) ∧ Hid (ListIn wx u (getL a k g m)) ∧ Hid (Below w.heap.size w wx))
                                          case first =>
                                            as_aux_lemma =>
                                              cases q with
                                              | false =>
                                                have hP : GB ≠ 0 := fun h => by have := HQ.out.2 h; cases this
                                                have HE := hide (HgX.out hP)
                                                go_wp2
                                                go_meet
                                                exact ⟨by rw [HE.out.1], by rw [HE.out.2]; exact listIn_nil _, HB4⟩
                                              | true =>
                                                have hP : GB = 0 := HQ.out.1 rfl
                                                obtain ⟨low, many, hok⟩ := HgY.out hP
                                                obtain rfl := hok.low_is
                                                obtain rfl := hok.many_is
                                                have HOK := hide hok
                                                have hl7 := hok.low_le
                                                have hmy := hok.many_le
                                                have hm2 := hok.len
                                                have HBi := hide hok.bits
                                                subst hP
                                                obtain ⟨i0, hi0, hz0, hz1, hz2⟩ := info_parts Tryd.infoInt
                                                have Hi := hide hi0
                                                have Hz0 := hide hz0
                                                have Hz1 := hide hz1
                                                have Hz2 := hide hz2
                                                obtain ⟨b, hb⟩ : ∃ b, b = w4.heap.size := ⟨_, rfl⟩
                                                have HRN := hide (rd_new w4 (.slice av2 m cv2))
                                                have HBN : Hid (Below w4.heap.size w4 (w4.alloc (.cells #[.slice av2 m cv2, .int .i64 0, .bool false] 32))) := (Below.refl _ _).alloc (Nat.le_refl _) _
                                                have HI4 := hide HI2.out
                                                clear hok hi0 hz0 hz1 hz2 HQ HgX HgY
                                                go_wp2
                                                rw [← hb] at HRN HBN ⊢
                                                have HBB := hide hb
                                                have hbz : b ≤ w4.heap.size := Nat.le_of_eq hb
                                                clear hb
                                                go_loopw [12, 18] (fun u i wr => ∃ (j at_ : Nat) (bad : Bool) (xs : List Int) (ad : Option Addr) (cp : Nat), j ≤ many ∧ i = .int .i64 j ∧ u = .slice ad j cp ∧ Hid (wr.ownsRow (b + 1) 3 1 u j (encI xs)) ∧ Hid (RdAt wr b (.slice av2 m cv2) at_ bad) ∧ at_ ≤ m ∧ Hid ((bad = false → stpN g m low j = some (xs, at_)) ∧ (bad = true → stpN g m low many = none)) ∧ Below b w4 wr) (fun _ i _ => many - (intOf i).toNat)
                                                case atStart => exact ⟨0, 0, false, [], none, 0, Nat.zero_le _, rfl, rfl, World.ownsRow_nil _ _ _ _, HRN.out, Nat.zero_le _, ⟨fun _ => rfl, fun h => by cases h⟩, HBN.out⟩
                                                case round =>
                                                  obtain ⟨j2, at_, bad, xs, ad, cp, hj2, rfl, rfl, HY, HRD, hat, HST, hbw⟩ := hrel
                                                  have HBw := hide hbw
                                                  have hbl := HRD.out.lt
                                                  clear hbw
                                                  go_upto_region 32 with fail
                                                  go_cut [127] (fun t wx => ∃ q : Bool, t = .bool q ∧ (q = true ↔ (j2 < many ∧ bad = false)) ∧ wr = wx)
                                                  case first =>
                                                    as_aux_lemma =>
                                                      have e2 := HRD.out.c2
                                                      by_cases c1 : j2 < many
                                                      · cases bad with
                                                        | false =>
                                                          go_wp2
                                                          go_meet
                                                          exact ⟨true, rfl, by simp [c1], rfl⟩
                                                        | true =>
                                                          go_wp2
                                                          go_meet
                                                          exact ⟨false, rfl, by simp, rfl⟩
                                                      · go_wp2
                                                        go_meet
                                                        exact ⟨false, by first | rfl | (simp; done) | (simp; omega), by simp [c1], rfl⟩
                                                  case rest =>
                                                    as_aux_lemma =>
                                                      obtain ⟨q, rfl, hq, rfl⟩ := hcut
                                                      have HQ := hide hq
                                                      clear hq
                                                      cases q with
                                                      | true =>
                                                        obtain ⟨hlt, rfl⟩ := HQ.out.1 rfl
                                                        have hst := HST.out.1 rfl
                                                        have K := hide (rnum_any (low := low) HI4.out (Nat.le_of_eq HBB.out.symm) (HBB.out ▸ HBw.out) HRD.out hat hm2 hl7 HBi.out)
                                                        have HS2' := hide hst
                                                        clear hst HQ HST
                                                        go_wp2_with fail
                                                        refine (K.out).mono ?_
                                                        rintro e w5 ⟨z, a2, bad2, rfl, hr2, hk2, ha2, hres⟩
                                                        have HR2 := hide hr2
                                                        have HY2 := hide (own_keptb HY.out hk2)
                                                        have HB5 : Hid (Below b w4 w5) := HBw.out.trans (hk2.to_below (by omega) (fun i hi h => by omega))
                                                        have hsz5 := hr2.lt
                                                        have HN : Hid ((bad2 = false → stpN g m low (j2 + 1) = some (xs ++ [z], a2)) ∧ (bad2 = true → stpN g m low many = none)) := by
                                                          rcases hres with ⟨h1, rfl⟩ | ⟨h1, rfl⟩
                                                          · exact ⟨(fun h => by cases h), fun _ => stpN_past (stpN_none HS2'.out h1) (by omega)⟩
                                                          · exact ⟨fun _ => stpN_some HS2'.out h1, fun h => by cases h⟩
                                                        clear hr2 hk2 hres K HS2'
                                                        go_wp2_with (at_builtin; refine wpList_append_lies _ rfl _ _ 22 rfl (b + 1) 3 i0 (.int .i64 0) 1 8 Tryd.underlying22 Hi.out Hz0.out Hz1.out Hz2.out rfl (by decide) _ _ _ rfl (HY2.out.alloc _) ⟨w5.heap.size, 0, none⟩ 1 1 [.int .i64 z] rfl rfl (cell_one_new _ _ _) (fun x hx => by simp at hx; subst hx; rfl) (by decide) (by unfold maxLen; omega) (by omega) (by simp; omega) _ rfl ?_; intro g6 cap6 w6 hown6 hgrow6 hat6 hlt6)
                                                        go_roundw
                                                        case rel =>
                                                          have hB6 : Below (b + 1) w5 w6 := ((Below.refl (b + 1) w5).alloc (by omega) _).grown hgrow6 (by simp; omega) (fun q hq => (HY2.out.lt q hq).1)
                                                          have R : j2 + 1 ≤ many ∧ Value.int .i64 ((j2 : Int) + 1) = .int .i64 ((j2 + 1 : Nat) : Int) ∧ Value.slice (some ⟨g6, 0, none⟩) (j2 + 1) cap6 = .slice (some ⟨g6, 0, none⟩) (j2 + 1) cap6
                                                              ∧ Hid (w6.ownsRow (b + 1) 3 1 (.slice (some ⟨g6, 0, none⟩) (j2 + 1) cap6) (j2 + 1) (encI (xs ++ [z]))) ∧ Hid (RdAt w6 b (.slice av2 m cv2) a2 bad2) ∧ a2 ≤ m ∧ Hid ((bad2 = false → stpN g m low (j2 + 1) = some (xs ++ [z], a2)) ∧ (bad2 = true → stpN g m low many = none)) ∧ Below b w4 w6 :=
                                                            ⟨by omega, by simp, rfl, hide (by rw [encI_snoc]; exact hown6), HR2.out.below (by omega) hB6, ha2, HN, HB5.out.trans (hB6.mono (by omega))⟩
                                                          first
                                                            | exact ⟨j2 + 1, a2, bad2, xs ++ [z], some ⟨g6, 0, none⟩, cap6, R⟩
                                                            | ((repeat apply Exists.intro); exact ⟨⟨j2 + 1, a2, bad2, xs ++ [z], some ⟨g6, 0, none⟩, cap6, R⟩, rfl⟩)
                                                        case measure => simp [intOf]; omega
                                                      | false =>
                                                        have e1 := HRD.out.c1
                                                        have e2 := HRD.out.c2
                                                        have HBe : Hid (Below w.heap.size w wr) := HB4.out.trans (HBw.out.mono (by have := HB4.out.size; have := HBB.out; omega))
                                                        cases bad with
                                                        | true =>
                                                          have HE := hide (get_none HOK.out (getN_past (HST.out.2 rfl)))
                                                          clear HQ HST
                                                          go_wp2
                                                          go_meet
                                                          exact ⟨by rw [HE.out.1]; rfl, by rw [HE.out.2]; exact listIn_nil _, HBe⟩
                                                        | false =>
                                                          have hjm : j2 = many := by
                                                            have : ¬ j2 < many := fun h => by have := HQ.out.2 ⟨h, rfl⟩; cases this
                                                            omega
                                                          have hst := HST.out.1 rfl
                                                          rw [hjm] at hst
                                                          by_cases c : at_ = m
                                                          · subst c
                                                            have HE := hide (get_some HOK.out (getN_of hst))
                                                            have HLi := hide (rowV_list HY.out (by rw [(stpN_len hst).1, hjm]))
                                                            clear HQ HST hst
                                                            go_wp2
                                                            go_meet
                                                            exact ⟨by rw [HE.out.1]; rfl, by rw [HE.out.2]; exact HLi, HBe⟩
                                                          · have HE := hide (get_none HOK.out (getN_miss hst c))
                                                            have ec : ((at_ : Int) == (m : Int)) = false := by rw [beq_eq_false_iff_ne]; omega
                                                            have ec2 : ((at_ : Int) != (m : Int)) = true := by simp [bne, ec]
                                                            clear HQ HST hst
                                                            go_wp2
                                                            go_meet
                                                            exact ⟨by rw [HE.out.1]; rfl, by rw [HE.out.2]; exact listIn_nil _, HBe⟩
                                          case rest =>
                                            as_aux_lemma =>
                                              obtain ⟨rfl, HL2, HB5⟩ := hcut
                                              clear HQ HgX HgY hgl2
                                              have K1 := hide (rget_list a k (HS2.out.below HB5.out))
                                              have HpL := hide (getL_len a k g m)
                                              generalize getL a k g m = GL at *
                                              generalize getE a k g m = GE at *
                                              go_wp2_with fail
                                              refine (K1.out).mono ?_
                                              rintro e w5 ⟨x5, rfl, hx5, hb⟩
                                              have HB6 := hide (below_two HB5.out hb)
                                              have HW5 := hide (HL2.out.below hb)
                                              have HX5 := hide hx5
                                              have ER := hide (error_right GE (errN GE) w5 (HG.out.below HGL.out HB6.out) (errIs_N GE))
                                              clear hx5 hb K1
                                              go_wp2_with fail
                                              refine (ER.out).mono ?_
                                              rintro e w6 ⟨rfl, hb⟩
                                              have HB7 := hide (below_two HB6.out hb)
                                              have KI := hide (ints_same (by have := HpL.out; omega) (HX5.out.below hb) (HW5.out.below hb))
                                              clear hb ER
                                              go_wp2_with fail
                                              refine (KI.out).mono ?_
                                              rintro e w7 ⟨rfl, hb⟩
                                              have HB8 := hide (below_two HB7.out hb)
                                              clear hb KI HB7 HB6 HB5 HW5 HX5 HL2 HpL HB4 HI2
                                              have HFe := hide (fun h => dbest_end (f := f) (n := j) h)
                                              generalize hD : (fun low => lenN low f j) = D at *
                                              have hDl : ∀ low, lenN low f j = D low := fun low => by rw [← hD]
                                              have HDl := hide hDl
                                              have HDs := hide (fun i => dbest_step D i)
                                              have HDb := hide (fun i => dbest_le D i)
                                              clear hD hDl
                                              go_wp2
                                              go_loopw [21, 22, 23] (fun t u i wr => ∃ i2 : Nat, i2 ≤ 8 ∧ i = .int .i64 i2 ∧ t = .int .i64 ((dbest D i2).1 : Nat) ∧ u = .int .i64 ((dbest D i2).2 : Nat) ∧ (F ≠ 0 → i2 = 0) ∧ Below w.heap.size w wr) (fun _ _ i _ => 8 - (intOf i).toNat)
                                              case atStart => exact ⟨0, Nat.zero_le _, rfl, rfl, rfl, fun _ => rfl, HB8.out⟩
                                              case round =>
                                                obtain ⟨i2, hi2, rfl, rfl, rfl, hF2, hbw⟩ := hrel
                                                have HBw := hide hbw
                                                have HF2 := hide hF2
                                                have hdb := HDb.out i2
                                                have HS3 := hide (HDs.out i2)
                                                clear hbw hF2
                                                obtain ⟨hdb1, hdb2⟩ := hdb
                                                go_upto_region 44 with fail
                                                go_cut [170] (fun t wx => ∃ q : Bool, t = .bool q ∧ (q = true ↔ (i2 < 8 ∧ F = 0)) ∧ wr = wx)
                                                case first =>
                                                  as_aux_lemma =>
                                                    by_cases c1 : i2 ≤ 7
                                                    · by_cases c2 : F = 0
                                                      · subst c2
                                                        go_wp2
                                                        go_meet
                                                        exact ⟨true, by first | rfl | (simp; done) | (simp; omega), by first | (simp; done) | (simp; omega), rfl⟩
                                                      · have e : ((F : Int) == 0) = false := by rw [beq_eq_false_iff_ne]; omega
                                                        go_wp2
                                                        go_meet
                                                        exact ⟨false, by first | rfl | (simp; done) | (simp; omega), by simp [c2], rfl⟩
                                                    · go_wp2
                                                      go_meet
                                                      exact ⟨false, by first | rfl | (simp; done) | (simp; omega), by first | (simp; done) | (simp; omega), rfl⟩
                                                case rest =>
                                                  as_aux_lemma =>
                                                    obtain ⟨q, rfl, hq, rfl⟩ := hcut
                                                    have HQ := hide hq
                                                    clear hq
                                                    cases q with
                                                    | true =>
                                                      obtain ⟨hlt, hF0⟩ := HQ.out.1 rfl
                                                      have HF0 := hide hF0
                                                      have hnum := HFi.out.1 hF0
                                                      have K := hide (rrice_ok (low := i2) (HS.out.below HBw.out) hn (by omega) (numsOk_iff.1 hnum))
                                                      rw [HDl.out] at K
                                                      clear HQ hnum hF0
                                                      by_cases c : D i2 < (dbest D i2).2
                                                      · rw [if_pos c] at HS3
                                                        have e1 := congrArg Prod.fst HS3.out
                                                        have e2 := congrArg Prod.snd HS3.out
                                                        have HE1 : Hid ((dbest D (i2 + 1)).1 = i2) := e1
                                                        have HE2 : Hid ((dbest D (i2 + 1)).2 = D i2) := e2
                                                        clear e1 e2 HS3
                                                        generalize (dbest D i2).2 = y at *
                                                        generalize (dbest D i2).1 = x at *
                                                        generalize hDi : D i2 = z at *
                                                        clear hDi
                                                        go_wp2_with fail
                                                        refine (K.out).mono ?_
                                                        rintro e w9 ⟨ad9, cp9, rfl, _, hb⟩
                                                        have HB9 := hide (below_two HBw.out hb)
                                                        clear hb K
                                                        go_wp2
                                                        go_roundw
                                                        case rel => exact ⟨i2 + 1, by omega, by go_num, by rw [HE1.out], by rw [HE2.out], fun h => absurd HF0.out h, HB9.out⟩
                                                        case measure => simp [intOf]; omega
                                                      · rw [if_neg c] at HS3
                                                        have HE1 : Hid ((dbest D (i2 + 1)).1 = (dbest D i2).1) := congrArg Prod.fst HS3.out
                                                        have HE2 : Hid ((dbest D (i2 + 1)).2 = (dbest D i2).2) := congrArg Prod.snd HS3.out
                                                        clear HS3
                                                        generalize (dbest D i2).2 = y at *
                                                        generalize (dbest D i2).1 = x at *
                                                        generalize hDi : D i2 = z at *
                                                        clear hDi
                                                        go_wp2_with fail
                                                        refine (K.out).mono ?_
                                                        rintro e w9 ⟨ad9, cp9, rfl, _, hb⟩
                                                        have HB9 := hide (below_two HBw.out hb)
                                                        clear hb K
                                                        go_wp2
                                                        go_roundw
                                                        case rel => exact ⟨i2 + 1, by omega, by go_num, by rw [HE1.out], by rw [HE2.out], fun h => absurd HF0.out h, HB9.out⟩
                                                        case measure => simp [intOf]; omega
                                                    | false =>
                                                      have HBe : Hid ((F = 0 → bestE f j = (if 2000 < (dbest D i2).2 then 4 else 0) ∧ bestA f j = (if 2000 < (dbest D i2).2 then 0 else (dbest D i2).1)) ∧ (F ≠ 0 → bestE f j = F ∧ bestA f j = 0 ∧ (dbest D i2).1 = 0)) := by
                                                        constructor
                                                        · intro h0
                                                          have : ¬ (i2 < 8 ∧ F = 0) := fun h => by have := HQ.out.2 h; cases this
                                                          have e8 : i2 = 8 := by omega
                                                          rw [e8]
                                                          exact HFe.out (HFi.out.1 h0)
                                                        · intro h0
                                                          obtain ⟨h1, h2, h3⟩ := HFb.out h0
                                                          rw [HF2.out h0]
                                                          exact ⟨by omega, h2, rfl⟩
                                                      clear HFb HFi HFe HDl HDs HDb HS3 HQ HF2
                                                      generalize (dbest D i2).2 = y at *
                                                      generalize (dbest D i2).1 = x at *
                                                      go_upto_region 50 with fail
                                                      go_cut [187] (fun t wx => ∃ q : Bool, t = .bool q ∧ (q = true ↔ (F = 0 ∧ 2000 < y)) ∧ wr = wx)
                                                      case first =>
                                                        as_aux_lemma =>
                                                          by_cases c1 : F = 0
                                                          · subst c1
                                                            by_cases c2 : 2000 < y
                                                            · go_wp2
                                                              go_meet
                                                              exact ⟨true, by first | rfl | (simp; done) | (simp; omega), by simp [c2], rfl⟩
                                                            · go_wp2
                                                              go_meet
                                                              exact ⟨false, by first | rfl | (simp; done) | (simp; omega), by first | (simp; done) | (simp; omega), rfl⟩
                                                          · have e : ((F : Int) == 0) = false := by rw [beq_eq_false_iff_ne]; omega
                                                            go_wp2
                                                            go_meet
                                                            exact ⟨false, by first | rfl | (simp; done) | (simp; omega), by simp [c1], rfl⟩
                                                      case rest =>
                                                        as_aux_lemma =>
                                                          obtain ⟨q, rfl, hq, rfl⟩ := hcut
                                                          have HQ := hide hq
                                                          clear hq
                                                          go_upto_if 187 with fail
                                                          go_cut [9, 21] (fun t u wx => t = .int .i64 (bestE f j : Nat) ∧ u = .int .i64 (bestA f j : Nat) ∧ wr = wx)
                                                          case first =>
                                                            as_aux_lemma =>
                                                              cases q with
                                                              | true =>
                                                                obtain ⟨h1, h2⟩ := HQ.out.1 rfl
                                                                have HE := hide (HBe.out.1 h1)
                                                                rw [if_pos h2, if_pos h2] at HE
                                                                go_wp2
                                                                go_meet
                                                                exact ⟨by rw [HE.out.1]; rfl, by rw [HE.out.2]; rfl, rfl⟩
                                                              | false =>
                                                                have HE : Hid (bestE f j = F ∧ bestA f j = x) := by
                                                                  by_cases c : F = 0
                                                                  · have h2 : ¬ 2000 < y := fun h => by have := HQ.out.2 ⟨c, h⟩; cases this
                                                                    have h3 := HBe.out.1 c
                                                                    rw [if_neg h2, if_neg h2] at h3
                                                                    exact ⟨by rw [h3.1, c], h3.2⟩
                                                                  · obtain ⟨h1, h2, h3⟩ := HBe.out.2 c
                                                                    exact ⟨h1, by rw [h2, h3]⟩
                                                                go_wp2
                                                                go_meet
                                                                exact ⟨by rw [HE.out.1], by rw [HE.out.2], rfl⟩
                                                          case rest =>
                                                            as_aux_lemma =>
                                                              obtain ⟨rfl, rfl, rfl⟩ := hcut
                                                              clear HQ HBe
                                                              have K2 := hide (rbest_ok (HS.out.below HBw.out) (by omega))
                                                              have hA7 : bestA f j ≤ 7 := by unfold bestA; have := bestL_lt f j; split <;> omega
                                                              generalize bestE f j = BE at *
                                                              generalize bestA f j = BA at *
                                                              go_wp2_with fail
                                                              refine (K2.out).mono ?_
                                                              rintro e w9 ⟨rfl, rfl⟩
                                                              have ER := hide (error_right BE (errN BE) wr (HG.out.below HGL.out HBw.out) (errIs_N BE))
                                                              clear K2
                                                              go_wp2_with fail
                                                              refine (ER.out).mono ?_
                                                              rintro e w9 ⟨rfl, hb⟩
                                                              have HB9 := hide (below_two HBw.out hb)
                                                              clear hb ER
                                                              go_wp2
                                                              go_ret
                                                              exact ⟨rfl, HB9.out⟩
end Go.Proofs.YtjklpcabnppnaaaDoor
