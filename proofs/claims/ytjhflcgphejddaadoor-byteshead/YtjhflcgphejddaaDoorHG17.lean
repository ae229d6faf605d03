/-
  Lemmas for the law above, joined into one text (FlDo, RcT, RcA, RcL). No statement is proved here.
-/
import Derived.Test.YtjhflcgphejddaaDoorHG9
import Derived.Test.YtjhflcgphejddaaDoorHG15
import Derived.Test.YtjhflcgphejddaaDoorHG16
import Derived.Test.YtjhflcgphejddaaDoorHG8
import Derived.Laws.MakeOwn
import Derived.Lib.SliceRun
import Derived.Test.YtjhflcgphejddaaDoorHG3
import Derived.Test.YtjhflcgphejddaaDoorHG4
import Derived.Test.YtjhflcgphejddaaDoorHG10
import Derived.Test.YtjhflcgphejddaaDoorHG6
namespace Go.Proofs.YtjhflcgphejddaaDoor
open Go.RowKit Go.Maps
set_option linter.unusedVariables false
set_option maxRecDepth 100000

/-- What was told last, in the block b, apart from the row u. -/
structure AhdT (w : World) (b : Nat) (q : Pc) (B : Nat) (u : Value) (sd : Option Addr) (sc : Nat) : Prop where
  p : PicIn w b q.a q.b (.slice sd q.n sc)
  i : IntsIn w (.slice sd q.n sc) q.n q.f
  new : ∀ k, (Value.slice sd q.n sc).ownBlock = some k → B ≤ k
  off : ∀ k, (Value.slice sd q.n sc).ownBlock = some k → u.ownBlock ≠ some k
theorem there_pic {w : World} {b : Nat} {x y : Int} {s : Value} (h : PicIn w b x y s) : w.there b 0 3 := fun j hj => by
  obtain ⟨⟨c0, g0⟩, ⟨c1, g1⟩, c2, g2⟩ := h
  rw [Nat.zero_add]
  match j, hj with
  | 0, _ => exact ⟨by rw [c0]; rfl, g0⟩
  | 1, _ => exact ⟨by rw [c1]; rfl, g1⟩
  | 2, _ => exact ⟨by rw [c2]; rfl, g2⟩

set_option maxHeartbeats 8000000 in
theorem fdec_walk {w : World} {v : Value} {N : Nat} {C : Nat → Cd} (a b st : Int) (h : CodsIn w v N C) (hc0 : cntF N = 0) (hs0 : sidF a b st = 0) (ha0 : (C 0).al = true) :
    Calls Tryd.prog 12 #[.int .i64 a, .int .i64 b, .int .i64 st, v] w fun e w' => ((seeS a b st C N).1 ≠ 0 ∧ e = .returned (.tuple #[.slice none 0 0, errN (seeS a b st C N).1]) ∨ (seeS a b st C N).1 = 0 ∧ ∃ u, e = .returned (.tuple #[u, .nilIface]) ∧ PicsIn w' u N (seeP a b st C)) ∧ Below w.heap.size w w' := by
  have K := hide (fun w => fcount_ok N w)
  rw [hc0] at K
  obtain ⟨h1N, h6N⟩ := cntF_zero.1 hc0
  obtain ⟨ad, cap, rfl, _, _, h3⟩ := h
  obtain ⟨bb, o, rfl, hc⟩ := h3 (by omega)
  have HC := hide hc
  have HBb : Hid (bb < w.heap.size) := by obtain ⟨s9, h9⟩ := hc 0 (by omega); exact cell_lt h9.1
  obtain ⟨s0, hz0⟩ := hc 0 (by omega)
  rw [show o + 0 * 4 = o by omega] at hz0
  obtain ⟨c00, _, _, _, _⟩ := hz0
  rw [ha0] at c00
  have hin : ((inOk a 6 && inOk b 6) && inOk st 64) = true := by
    rw [sidF_in] at hs0
    split at hs0
    · rename_i c; exact c
    · cases hs0
  rw [Bool.and_eq_true, Bool.and_eq_true] at hin
  have K1 := hide (fun w => fwithin_ok a 6 w)
  have K2 := hide (fun w => fwithin_ok b 6 w)
  have K3 := hide (fun w => fwithin_ok st 64 w)
  rw [hin.1.1] at K1
  rw [hin.1.2] at K2
  rw [hin.2] at K3
  have K4 := hide (fun w => funseen_ok a b w)
  have HSt := hide (fun j (h : (seeS a b st C j).1 = 0) => ahdP_step ha0 h)
  have HAn := hide (fun j => ahdP_next (a := a) (b := b) (s := st) (C := C) (i := j))
  have HPs : Hid (∀ j, seeP a b st C j = (seeS a b st C (j + 1)).2) := fun _ => rfl
  have HSp := hide (fun i (h : (seeS a b st C i).1 ≠ 0) (hi : i ≤ N) => seeS_stop h hi)
  have HS0 : Hid ((seeS a b st C 0).1 = 0) := rfl
  have HA0 : Hid (ahdP a b st C 0 = ⟨a, b, 0, fun _ => 0⟩) := rfl
  generalize seeS a b st C = SS at *
  generalize seeP a b st C = PP at *
  generalize ahdP a b st C = AA at *
  obtain ⟨i0, hi0, hz0, hz1, hz2⟩ := info_parts Tryd.infoPic
  have hmk : ∃ mc : Array Value, mc.size = N * 3 ∧ ∀ W : World, (Instr.makeSlice 41 (.int .i64 0) (.int .i64 (N : Int))).run Tryd.prog W = .ok (.slice (some ⟨W.heap.size, 0, none⟩) 0 N) (W.alloc (.cells mc 46)) := by
    refine ⟨_, size_madeCells (Value.cells (.agg #[.int .i64 0, .int .i64 0, .slice none 0 0])) (N * 3), fun W => ?_⟩
    have hr := run_make (P := Tryd.prog) W 41 46 i0 _ Tryd.underlying41 hi0 hz0 .i64 .i64 0 N (Int.le_refl _) (by omega) (by rw [hz2]; omega) (by omega)
    simp only [Int.toNat_zero, Int.toNat_natCast, hz1] at hr
    exact hr
  obtain ⟨mc, hms, hmk⟩ := hmk
  have HMS := hide hms
  clear hc h3 hi0 hz0 hz1 hz2 hc0 hs0 hin hms ha0
  go_enter Tryd.func12, Tryd.ntmps12
  go_wp2_with fail
  refine (K.out _).mono ?_
  rintro e w1 ⟨rfl, rfl⟩
  rw [errN_zero]
  go_wp2_with fail
  refine (K1.out _).mono ?_
  rintro e w2 ⟨rfl, rfl⟩
  go_wp2_with fail
  refine (K2.out _).mono ?_
  rintro e w2 ⟨rfl, rfl⟩
  go_wp2_with fail
  refine (K3.out _).mono ?_
  rintro e w2 ⟨rfl, rfl⟩
  go_wp2_with fail
  refine (K4.out _).mono ?_
  rintro e w4 ⟨rfl, hb4⟩
  clear K K1 K2 K3 K4 c00
  obtain ⟨w6, hw6⟩ : ∃ w6, w6 = w4.alloc (.cells #[.int .i64 a, .int .i64 b, .slice none 0 0] 46) := ⟨_, rfl⟩
  have HP6 : Hid (PicIn w6 w4.heap.size a b (.slice none 0 0)) := hw6 ▸ picIn_new w4 a b (.slice none 0 0)
  have HB6 : Hid (Below w.heap.size w w6) := hw6 ▸ below_two hb4 ((Below.refl w4.heap.size w4).alloc (Nat.le_refl _) _)
  have hxw := hb4.size
  go_upto_region 9 with fail
  rw [← hw6]
  clear hw6 hb4
  have hxa2 : w4.heap.size < w6.heap.size := HP6.out.lt
  generalize w4.heap.size = xa at *
  have hmk6 := hmk w6
  have O6 := World.ownsRow_made (base := w6.heap.size) (e := 46) (size := 3) w6 mc N (Nat.le_refl _) (by unfold maxLen; omega) HMS.out
  have HP7 := hide (HP6.out.below ((Below.refl w6.heap.size w6).alloc (Nat.le_refl _) (.cells mc 46)))
  have HB7 : Hid (Below w.heap.size w (w6.alloc (.cells mc 46))) := below_two HB6.out ((Below.refl w6.heap.size w6).alloc (Nat.le_refl _) (.cells mc 46))
  have HR7 : Hid (PicR (w6.alloc (.cells mc 46)) w6.heap.size (.slice (some ⟨w6.heap.size, 0, none⟩) 0 N) 0 PP) :=
    ⟨fun _ => .slice none 0 0, O6, fun i hi => absurd hi (Nat.not_lt_zero _), fun i hi => absurd hi (Nat.not_lt_zero _), fun i hi => absurd hi (Nat.not_lt_zero _), fun i hi => absurd hi (Nat.not_lt_zero _)⟩
  have HZ7 : Hid (w6.heap.size ≤ (w6.alloc (.cells mc 46)).heap.size) := by unfold Hid; simp
  clear O6 hmk
  go_wp2
  generalize hBB : w6.heap.size = BB at *
  go_loopw [12, 50] (fun u i wr => ∃ (j : Nat) (adu : Option Addr) (cpu : Nat) (sd : Option Addr) (sc : Nat), j ≤ N ∧ i = .int .i64 j ∧ u = .slice adu j cpu ∧ Hid (PicR wr BB u j PP) ∧ Hid (AhdT wr xa (AA j) BB u sd sc) ∧ Hid ((SS j).1 = 0) ∧ Hid (BB ≤ wr.heap.size) ∧ Below w.heap.size w wr) (fun _ i _ => N - (intOf i).toNat)
  case atStart => exact ⟨0, _, _, none, 0, Nat.zero_le _, rfl, rfl, HR7, by unfold Hid; rw [HA0.out]; exact ⟨HP7.out, Or.inl ⟨rfl, _, _, rfl⟩, fun k e => (by cases e), fun k e => (by cases e)⟩, HS0, HZ7, HB7.out⟩
  case round =>
    obtain ⟨j, adu, cpu, sd, sc, hj, rfl, rfl, HR, HAh, HSj, HZr, hb⟩ := hrel
    have HB := hide hb
    clear hb
    by_cases hlt : j < N
    · obtain ⟨s, hs⟩ := HC.out j hlt
      obtain ⟨e0, e1, e2, e3, hi⟩ := hs.below HB.out
      have HI := hide hi
      obtain ⟨ads, cps, rfl⟩ := slice_shape hi
      have hAp := HAh.out.p
      obtain ⟨⟨a0, _⟩, ⟨a1, _⟩, a2, _⟩ := hAp
      have HE := HSt.out j HSj.out
      have HPj := hide (HPs.out j)
      have HAj := hide (HAn.out j)
      have HSpj := hide (fun h => HSp.out (j + 1) h (by omega))
      generalize hE : SS (j + 1) = E at *
      have HEE := hide hE
      have HPo : Hid (E.1 = 0 → 0 < E.2.n) := fun h => by rw [← HE] at h ⊢; exact stpC_pos h
      have KT := hide (fun W (hW : Below wr.heap.size wr W) => ftell_any (E := E) (AA j).a (AA j).b (C j).al (C j).x (C j).y st (HAh.out.i.below hW) (HI.out.below hW) HE)
      have HAi := hide HAh.out
      clear hs hi hE HE HAh HI
      generalize (C j).al = al at *
      generalize (C j).x = X at *
      generalize (C j).y = Y at *
      generalize (C j).n = cn at *
      generalize (AA j) = Q at *
      go_upto_region 13 with fail
      refine regionG bb o N cap j xa st #[.int .i64 Q.a, .int .i64 Q.b, .slice sd Q.n sc] #[.bool al, .int .i64 X, .int .i64 Y, .slice ads cn cps] (errN E.1) (fun ad cp => #[.int .i64 E.2.a, .int .i64 E.2.b, .slice ad E.2.n cp]) (fun W W' ad cp => IntsIn W' (.slice ad E.2.n cp) E.2.n E.2.f ∧ ∀ k, (Value.slice ad E.2.n cp).ownBlock = some k → W.heap.size ≤ k) rfl rfl rfl rfl rfl hlt h6N rfl rfl (agg_pic a0 a1 a2) (agg_cod e0 e1 e2 e3) (fun _ _ => rfl) (fun ad cp => all_oneCell_toArray (cs := [.int .i64 E.2.a, .int .i64 E.2.b, .slice ad E.2.n cp]) (fun x hx => by simp at hx; rcases hx with rfl | rfl | rfl <;> rfl))
        (fun W W1 W2 ad cp h hb => ⟨h.1.below hb, h.2⟩) (fun W W1 ad cp x cells W2 h hb hle => ?_) (fun W W1 ad cp x cells h hlt => ⟨ints_sets (w := W1) (fun k e => by have := h.2 k e; omega) _ _ _ h.1, h.2⟩) (fun W hW => (KT.out W hW).mono fun e w' ⟨ad, cp, he, hi, hb, hn⟩ => ⟨ad, cp, he, ⟨hi, hn⟩, hb⟩) (fun _ _ _ _ _ h => h) ?_
      · refine ⟨?_, h.2⟩
        rcases h.1 with h0 | ⟨h0, g, og, c', e, hc⟩
        · exact Or.inl h0
        · have h9 := h.1.below hb
          refine ints_sets (w := W2) (fun k e2 => ?_) _ _ _ h9
          have := ints_lt h.1 h0 k e2
          omega
      intro W W0 ad cp xt hbW hbW0 hxt hrg hth hRR
      obtain ⟨hI, hnI⟩ := hRR
      simp only [Act.put]
      have hzr := HZr.out
      have hW0 := hbW0.size
      have HBW := hide hbW
      have HIW := hide hI
      have HRG := hide hrg
      have HNI : Hid (∀ k, (Value.slice ad E.2.n cp).ownBlock = some k → wr.heap.size ≤ k) := fun k e => by have := hnI k e; omega
      have HOB : Hid (∀ k, (Value.slice adu j cpu).ownBlock = some k → BB ≤ k ∧ k < wr.heap.size) := fun k e => by obtain ⟨S, hS⟩ := HR.out; exact hS.own.lt k e
      have HAW := hide (HAi.out.p.below hbW)
      have hxn : xt ≠ xa := by omega
      have hWr := hbW.size
      have HRW := hide (HR.out.below hbW)
      have HB9 := hide (below_two HB.out hbW)
      clear hrg hth hI hnI hbW hbW0 hW0 KT e0 e1 e2 e3 a0 a1 a2
      by_cases hE0 : E.1 = 0
      · rw [hE0, errN_zero]
        go_upto_region 16 with fail
        obtain ⟨S, hS⟩ := HRW.out
        have HSd := hide (hS.below (Below.refl W.heap.size W).drew)
        refine regionH BB xa xt j (.slice adu j cpu) (rowV (picH PP) S j) E.2.a E.2.b ad E.2.n cp rfl rfl rfl rfl hS.own (by omega) (by omega) HRG.out (there_pic HAW.out) (fun e => by have := HOB.out xt e; omega) (fun e => by have := HOB.out xa e; omega) hxn (fun _ _ _ _ _ h => h) ?_
        clear hS
        intro w1 w5 g3 cap3 n0 hn0 hw1 hown3 hgrow3 hat3 hlt3
        subst hw1
        have hD : Below W.heap.size W W.drew := (Below.refl _ W).drew
        have hzd : W.drew.heap.size = W.heap.size := rfl
        have hB5 : Below BB W.drew w5 := ((Below.refl BB W.drew).alloc (by rw [hzd]; omega) _).grown hgrow3 (by simp; omega) (fun q hq => (HSd.out.own.lt q hq).1)
        have hPE : PP j = E.2 := HPj.out
        have HPR : Hid (PicR w5 BB (.slice (some ⟨g3, 0, none⟩) (j + 1) cap3) (j + 1) PP) := by
          refine PicR.snoc (s := .slice ad E.2.n cp) HSd.out ?_ hgrow3 hat3 ?_ (fun k e => ?_) (fun k e e2 => ?_)
          · rw [hPE]; exact hown3
          · rw [hPE]; exact HIW.out.below hD
          · have := HNI.out k e; omega
          · have h1 := HNI.out k e; have h2 := HOB.out k e2; omega
        have HI5 : Hid (IntsIn w5 (.slice ad E.2.n cp) E.2.n E.2.f) := by
          refine ints_other HIW.out (fun h0 k e => ?_)
          have hk := ints_lt HIW.out h0 k e
          have h1 := HNI.out k e
          rw [hgrow3.block k (by simp; omega) (fun e2 => by have h2 := HOB.out k e2.symm; omega)]
          exact ((Below.refl W.drew.heap.size W.drew).alloc (Nat.le_refl _) _).block k hk
        have hne : ∀ k, (Value.slice ad E.2.n cp).ownBlock = some k → k ≠ xa := fun k e => by have := HNI.out k e; omega
        have hAA : AA (j + 1) = E.2 := HAj.out
        have HLs : Hid (AhdT (((w5.setCell ⟨xa, 0, none⟩ (.int .i64 E.2.a)).setCell ⟨xa, 1, none⟩ (.int .i64 E.2.b)).setCell ⟨xa, 2, none⟩ (.slice ad E.2.n cp)) xa (AA (j + 1)) BB (.slice (some ⟨g3, 0, none⟩) (j + 1) cap3) ad cp) := by
          unfold Hid
          rw [hAA]
          refine ⟨((HAW.out.below hD).mono hB5 hxa2).put _ _ _, ints_set (o := 2) (ints_set (o := 1) (ints_set (o := 0) HI5.out hne _) hne _) hne _, fun k e => ?_, fun k e e2 => ?_⟩
          · have := HNI.out k e; omega
          · obtain ⟨S5, hS5⟩ := HPR.out
            have e3 : g3 = k := by simpa [Value.ownBlock] using e2
            subst e3
            have h1 := HNI.out g3 e
            rcases hat3 with hat | hat
            · have h2 := HOB.out g3 hat; omega
            · have hk := ints_lt HIW.out (HPo.out hE0) g3 e
              have hat' : g3 = W.heap.size + 1 := by rw [hat]; simp
              omega
        have HP9 : Hid (PicR (((w5.setCell ⟨xa, 0, none⟩ (.int .i64 E.2.a)).setCell ⟨xa, 1, none⟩ (.int .i64 E.2.b)).setCell ⟨xa, 2, none⟩ (.slice ad E.2.n cp)) BB (.slice (some ⟨g3, 0, none⟩) (j + 1) cap3) (j + 1) PP) := ((HPR.out.set hxa2 0 _).set hxa2 1 _).set hxa2 2 _
        have hBw : Below w.heap.size w (((w5.setCell ⟨xa, 0, none⟩ (.int .i64 E.2.a)).setCell ⟨xa, 1, none⟩ (.int .i64 E.2.b)).setCell ⟨xa, 2, none⟩ (.slice ad E.2.n cp)) :=
          (((((HB9.out.trans (hD.mono HB9.out.size)).trans (hB5.mono (by omega))).setCell (p := ⟨xa, 0, none⟩) hxw _).setCell (p := ⟨xa, 1, none⟩) hxw _).setCell (p := ⟨xa, 2, none⟩) hxw _)
        have HBw := hide hBw
        have HZ5 : Hid (BB ≤ (((w5.setCell ⟨xa, 0, none⟩ (.int .i64 E.2.a)).setCell ⟨xa, 1, none⟩ (.int .i64 E.2.b)).setCell ⟨xa, 2, none⟩ (.slice ad E.2.n cp)).heap.size) := by
          have h1 := hB5.size
          unfold Hid
          simp
          omega
        have hS9 : Hid ((SS (j + 1)).1 = 0) := by unfold Hid; rw [HEE.out]; exact hE0
        have hW9 : w5.setCells xa 0 (#[.int .i64 E.2.a, .int .i64 E.2.b, .slice ad E.2.n cp] : Array Value).toList = (((w5.setCell ⟨xa, 0, none⟩ (.int .i64 E.2.a)).setCell ⟨xa, 1, none⟩ (.int .i64 E.2.b)).setCell ⟨xa, 2, none⟩ (.slice ad E.2.n cp)) := rfl
        rw [hW9]
        clear hW9 hB5 hD hown3 hgrow3 hat3 hlt3 hBw hAA hPE hne hn0 hzd
        generalize (((w5.setCell ⟨xa, 0, none⟩ (.int .i64 E.2.a)).setCell ⟨xa, 1, none⟩ (.int .i64 E.2.b)).setCell ⟨xa, 2, none⟩ (.slice ad E.2.n cp)) = W9 at *
        simp only [Act.put]
        go_wp2
        go_roundw
        case rel =>
          have R : j + 1 ≤ N ∧ Value.int .i64 ((j : Int) + 1) = .int .i64 ((j + 1 : Nat) : Int) ∧ Value.slice (some ⟨g3, 0, none⟩) (j + 1) cap3 = .slice (some ⟨g3, 0, none⟩) (j + 1) cap3 ∧ Hid (PicR W9 BB (.slice (some ⟨g3, 0, none⟩) (j + 1) cap3) (j + 1) PP) ∧ Hid (AhdT W9 xa (AA (j + 1)) BB (.slice (some ⟨g3, 0, none⟩) (j + 1) cap3) ad cp) ∧ Hid ((SS (j + 1)).1 = 0) ∧ Hid (BB ≤ W9.heap.size) ∧ Below w.heap.size w W9 :=
            ⟨by omega, by simp, rfl, HP9, HLs, hS9, HZ5, HBw.out⟩
          first
            | exact ⟨j + 1, some ⟨g3, 0, none⟩, cap3, ad, cp, R⟩
            | ((repeat apply Exists.intro); exact ⟨⟨j + 1, some ⟨g3, 0, none⟩, cap3, ad, cp, R⟩, rfl⟩)
        case measure => simp [intOf]; omega
      · have HN := hide (errN_pos hE0)
        rw [HN.out]
        have HSN : Hid (SS N = E) := by unfold Hid; exact HSpj.out hE0
        go_wp2
        go_ret2
        exact ⟨Or.inl ⟨by rw [HSN.out]; exact hE0, by rw [HSN.out, HN.out]; rfl⟩, HB9.out⟩
    · obtain rfl : j = N := by omega
      go_wp2
      go_ret2
      exact ⟨Or.inr ⟨HSj.out, _, rfl, HR.out.pics⟩, HB.out⟩
end Go.Proofs.YtjhflcgphejddaaDoor

namespace Go.Proofs.YtjhflcgphejddaaDoor
open Go.RowKit
set_option linter.unusedVariables false
set_option maxRecDepth 100000

def lowOk (n : Int) : Bool := decide (0 ≤ n) && decide (n ≤ 7)
def numOk (n : Int) : Bool := decide (-255 ≤ n) && decide (n ≤ 255)
theorem lowOk_iff {n : Int} : lowOk n = true ↔ 0 ≤ n ∧ n ≤ 7 := by simp [lowOk]
theorem lowOk_not {n : Int} : lowOk n = false ↔ n < 0 ∨ 7 < n := by rw [← Bool.not_eq_true, lowOk_iff]; omega
theorem numOk_iff {n : Int} : numOk n = true ↔ -255 ≤ n ∧ n ≤ 255 := by simp [numOk]
theorem numOk_not {n : Int} : numOk n = false ↔ n < -255 ∨ 255 < n := by rw [← Bool.not_eq_true, numOk_iff]; omega
/-- Whether each of the first is a number that may be. -/
def numsOk (f : Nat → Int) : Nat → Bool
  | 0 => true
  | n + 1 => numsOk f n && numOk (f n)
theorem numsOk_iff {f : Nat → Int} : ∀ {n}, numsOk f n = true ↔ ∀ i, i < n → -255 ≤ f i ∧ f i ≤ 255
  | 0 => ⟨fun _ i hi => absurd hi (Nat.not_lt_zero _), fun _ => rfl⟩
  | n + 1 => by
    show (numsOk f n && numOk (f n)) = true ↔ _
    rw [Bool.and_eq_true, numsOk_iff, numOk_iff]
    constructor
    · intro h i hi
      by_cases c : i = n
      · subst c; exact h.2
      · exact h.1 i (by omega)
    · intro h
      exact ⟨fun i hi => h i (by omega), h n (by omega)⟩
theorem numsOk_not {f : Nat → Int} {n i : Nat} (hi : i < n) (h : numOk (f i) = false) : numsOk f n = false := by
  rw [← Bool.not_eq_true, numsOk_iff]
  intro hall
  have := numOk_not.1 h
  have := hall i hi
  omega

theorem told_ok (n : Int) (w : World) (h : -255 ≤ n ∧ n ≤ 255) : Calls Tryd.prog 41 #[.int .i64 n] w fun e w' => e = .returned (.int .i64 (zz n : Nat)) ∧ w = w' := by
  obtain ⟨h1, h2⟩ := h
  by_cases c : n < 0
  · have HZ : Hid (((zz n : Nat) : Int) = -2 * n - 1) := by unfold Hid zz; rw [if_pos c]; omega
    go_enter Tryd.func41, Tryd.ntmps41
    go_wp2
    go_ret
    exact ⟨ret_int (by rw [HZ.out]), rfl⟩
  · have HZ : Hid (((zz n : Nat) : Int) = 2 * n) := by unfold Hid zz; rw [if_neg c]; omega
    go_enter Tryd.func41, Tryd.ntmps41
    go_wp2
    go_ret
    exact ⟨ret_int (by rw [HZ.out]), rfl⟩

theorem islow_ok (n : Int) (w : World) : Calls Tryd.prog 37 #[.int .i64 n] w fun e w' => e = .returned (.bool (lowOk n)) ∧ w = w' := by
  by_cases c : n < 0
  · have HZ : Hid (lowOk n = false) := lowOk_not.2 (Or.inl c)
    go_enter Tryd.func37, Tryd.ntmps37
    go_wp2
    go_ret
    exact ⟨ret_bool (by rw [HZ.out]), rfl⟩
  · by_cases c2 : 7 < n
    · have HZ : Hid (lowOk n = false) := lowOk_not.2 (Or.inr c2)
      go_enter Tryd.func37, Tryd.ntmps37
      go_wp2
      go_ret
      exact ⟨ret_bool (by first | (rw [HZ.out]; done) | (rw [HZ.out]; simp; done) | (rw [HZ.out]; simp; omega)), rfl⟩
    · have HZ : Hid (lowOk n = true) := lowOk_iff.2 (by omega)
      go_enter Tryd.func37, Tryd.ntmps37
      go_wp2
      go_ret
      exact ⟨ret_bool (by first | (rw [HZ.out]; done) | (rw [HZ.out]; simp; done) | (rw [HZ.out]; simp; omega)), rfl⟩

theorem nnum_ok (n : Int) (w : World) : Calls Tryd.prog 58 #[.int .i64 n] w fun e w' => e = .returned (.bool (!numOk n)) ∧ w = w' := by
  by_cases c : n < -255
  · have HZ : Hid (numOk n = false) := numOk_not.2 (Or.inl c)
    go_enter Tryd.func58, Tryd.ntmps58
    go_wp2
    go_ret
    exact ⟨ret_bool (by rw [HZ.out]; rfl), rfl⟩
  · by_cases c2 : 255 < n
    · have HZ : Hid (numOk n = false) := numOk_not.2 (Or.inr c2)
      go_enter Tryd.func58, Tryd.ntmps58
      go_wp2
      go_ret
      exact ⟨ret_bool (by first | (rw [HZ.out]; done) | (rw [HZ.out]; simp; done) | (rw [HZ.out]; simp; omega)), rfl⟩
    · have HZ : Hid (numOk n = true) := numOk_iff.2 (by omega)
      go_enter Tryd.func58, Tryd.ntmps58
      go_wp2
      go_ret
      exact ⟨ret_bool (by first | (rw [HZ.out]; done) | (rw [HZ.out]; simp; done) | (rw [HZ.out]; simp; omega)), rfl⟩
end Go.Proofs.YtjhflcgphejddaaDoor

namespace Go.Proofs.YtjhflcgphejddaaDoor
open Go.RowKit
set_option linter.unusedVariables false
set_option maxRecDepth 100000

set_option maxHeartbeats 1000000 in
theorem nidx_ok {w : World} {v : Value} {n : Nat} {f : Nat → Int} (h : IntsIn w v n f) (hn : n ≤ 17592186044416) :
    Calls Tryd.prog 80 #[v, .func (.func 58) #[] #[]] w fun e w' => ∃ i : Int, e = .returned (.int .i64 i) ∧ IsAt (fun j => !numOk (f j)) n i ∧ w = w' := by
  rcases h with ⟨rfl, a, cap, rfl⟩ | ⟨h0, b, o, cap, rfl, hc⟩
  · go_enter Tryd.func80, Tryd.ntmps80
    go_wp2
    go_loop [8] (fun i => i = .int .i64 0) (fun _ => 0)
    case atStart => rfl
    case round =>
      obtain rfl := hrel
      go_wp2
      go_ret
      exact ⟨_, rfl, Or.inl ⟨rfl, fun j hj => absurd hj (Nat.not_lt_zero _)⟩, rfl⟩
  · have HC := hide hc
    clear hc
    go_enter Tryd.func80, Tryd.ntmps80
    go_wp2
    go_loop [5, 8] (fun _ i => ∃ j : Nat, j ≤ n ∧ i = .int .i64 j ∧ ∀ q, q < j → numOk (f q) = true) (fun _ i => n - (intOf i).toNat)
    case atStart => exact ⟨0, Nat.zero_le _, rfl, fun q hq => absurd hq (Nat.not_lt_zero _)⟩
    case round =>
      obtain ⟨j, hj, rfl, hno⟩ := hrel
      have HN := hide hno
      clear hno
      by_cases hlt : j < n
      · have hc := HC.out j hlt
        have K := hide (nnum_ok (f j) w)
        generalize hx : f j = x at *
        have HX := hide hx
        clear hx
        cases hq : numOk x with
        | false =>
          have HQ := hide hq
          rw [hq] at K
          clear hq
          go_wp2_with (go_at_call 58; refine (K.out).mono ?_; rintro e w1 ⟨rfl, rfl⟩)
          go_ret
          exact ⟨_, rfl, Or.inr ⟨j, rfl, hlt, by show (!numOk (f j)) = true; rw [HX.out, HQ.out]; rfl⟩, rfl⟩
        | true =>
          have HQ := hide hq
          rw [hq] at K
          clear hq
          go_wp2_with (go_at_call 58; refine (K.out).mono ?_; rintro e w1 ⟨rfl, rfl⟩)
          go_round
          case rel =>
            refine ⟨j + 1, by omega, by go_num, fun q hq => ?_⟩
            by_cases c : q = j
            · rw [c, HX.out]; exact HQ.out
            · exact HN.out q (by omega)
          case measure => simp [intOf]; omega
      · obtain rfl : j = n := by omega
        go_wp2
        go_ret
        exact ⟨_, rfl, Or.inl ⟨rfl, fun q hq => by show (!numOk (f q)) = false; rw [HN.out q hq]; rfl⟩, rfl⟩

theorem ncont_ok {w : World} {v : Value} {n : Nat} {f : Nat → Int} (h : IntsIn w v n f) (hn : n ≤ 17592186044416) :
    Calls Tryd.prog 57 #[v, .func (.func 58) #[] #[]] w fun e w' => e = .returned (.bool (!numsOk f n)) ∧ w = w' := by
  have K := hide (nidx_ok h hn)
  clear h
  go_enter Tryd.func57, Tryd.ntmps57
  go_wp2_with fail
  refine (K.out).mono ?_
  rintro e w1 ⟨i, rfl, hi, rfl⟩
  rcases hi with ⟨rfl, ha⟩ | ⟨j, rfl, hj, hq⟩
  · have e : numsOk f n = true := numsOk_iff.2 fun i hi => numOk_iff.1 (by have := ha i hi; simpa using this)
    have HE := hide e
    clear e ha
    go_wp2
    go_ret
    exact ⟨ret_bool (by rw [HE.out]; rfl), rfl⟩
  · have e : numsOk f n = false := by
      rw [← Bool.not_eq_true, numsOk_iff]
      intro hall
      have h9 := numOk_iff.2 (hall j hj)
      simp [h9] at hq
    have HE := hide e
    clear e hq
    go_wp2
    go_ret
    exact ⟨ret_bool (by rw [HE.out]; rfl), rfl⟩

theorem arenum_ok {w : World} {v : Value} {n : Nat} {f : Nat → Int} (h : IntsIn w v n f) (hn : n ≤ 17592186044416) :
    Calls Tryd.prog 38 #[v] w fun e w' => e = .returned (.bool (numsOk f n)) ∧ w = w' := by
  have K := hide (ncont_ok h hn)
  clear h
  generalize numsOk f n = r at *
  go_enter Tryd.func38, Tryd.ntmps38
  go_wp2_with fail
  refine (K.out).mono ?_
  rintro e w1 ⟨rfl, rfl⟩
  cases r <;>
  · go_wp2
    go_ret
    exact ⟨rfl, rfl⟩
end Go.Proofs.YtjhflcgphejddaaDoor

namespace Go.Proofs.YtjhflcgphejddaaDoor
open Go.RowKit
set_option linter.unusedVariables false
set_option maxRecDepth 100000

set_option maxHeartbeats 1000000 in
theorem length_ok {w : World} {v : Value} {n low : Nat} {f : Nat → Int} (h : IntsIn w v n f) (hn : n ≤ 17592186044416) (hl : low ≤ 7) (hf : ∀ i, i < n → -255 ≤ f i ∧ f i ≤ 255) :
    Calls Tryd.prog 39 #[v, .int .i64 low] w fun e w' => e = .returned (.int .i64 (lenN low f n : Nat)) ∧ w = w' := by
  rcases h with ⟨rfl, a, cap, rfl⟩ | ⟨h0, b, o, cap, rfl, hc⟩
  · clear hf
    go_enter Tryd.func39, Tryd.ntmps39
    go_wp2
    go_loop [5, 10] (fun u i => u = .int .i64 0 ∧ i = .int .i64 0) (fun _ _ => 0)
    case atStart => exact ⟨rfl, rfl⟩
    case round =>
      obtain ⟨rfl, rfl⟩ := hrel
      go_wp2
      go_ret
      exact ⟨rfl, rfl⟩
  · have HC := hide hc
    have HF := hide hf
    clear hc hf
    go_enter Tryd.func39, Tryd.ntmps39
    go_wp2
    go_loop [5, 10] (fun u i => ∃ j : Nat, j ≤ n ∧ i = .int .i64 j ∧ u = .int .i64 (lenN low f j : Nat)) (fun _ i => n - (intOf i).toNat)
    case atStart => exact ⟨0, Nat.zero_le _, rfl, rfl⟩
    case round =>
      obtain ⟨j, hj, rfl, rfl⟩ := hrel
      by_cases hlt : j < n
      · have hcj := HC.out j hlt
        have K := hide (told_ok (f j) w (HF.out j hlt))
        have hz := zz_le (HF.out j hlt)
        have hm := lenN_le (f := f) hl (n := j) (fun i hi => HF.out i (by omega))
        have HS := hide (lenN_succ low f j)
        have e1 := shr_nat (zz (f j)) low
        have e2 := shr_nat' (zz (f j)) low
        have hq := Nat.div_le_self (zz (f j)) (2 ^ low)
        generalize lenN low f j = m at *
        generalize f j = x at *
        generalize zz x = y at *
        generalize y / 2 ^ low = q at *
        go_wp2_with fail
        refine (K.out).mono ?_
        rintro e w1 ⟨rfl, rfl⟩
        go_wp2
        go_round
        case rel =>
          refine ⟨j + 1, by omega, by go_num, ?_⟩
          rw [HS.out]
          first | (simp; done) | (simp; omega) | (congr 1; omega)
        case measure => simp [intOf]; omega
      · obtain rfl : j = n := by omega
        go_wp2
        go_ret
        exact ⟨rfl, rfl⟩
end Go.Proofs.YtjhflcgphejddaaDoor
